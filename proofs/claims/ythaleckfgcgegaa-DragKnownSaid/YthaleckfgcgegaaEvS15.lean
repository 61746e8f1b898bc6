/-
  THE EVALUATOR'S SOUNDNESS, 15: an operation's step, calls among them.
-/
import Derived.Test.YthaleckfgcgegaaEvS14
namespace Go.Ev

def TgtOK (P : Program) (t : Tgt) (h : H) (v : AV) (h' : H) : Prop :=
  match t with
  | .fn g args => ∀ (ρ : R) (args' : Array Value) (w : World), GR ρ → HR ρ h w → VL ρ args args'.toList → ∀ cs : List Frame, ∃ ρ' v' w' fr,
      VR ρ' v v' ∧ HR ρ' h' w' ∧ Ext ρ h w ρ' h' w' ∧ Steps P (lone (Frame.enter P g args' .normal) cs w) (lone fr cs w') ∧ fr.fn = g ∧ fr.leaving P w' (.returned v')
  | .yld id args => ∀ (ρ : R) (args' : Array Value) (w : World) (b : Nat) (x : Option (Nat × Nat)), GR ρ → HR ρ h w → VL ρ args args'.toList → ρ id = some x → (∀ c n, x = some (c, n) → c = b) →
      ∃ f tmps asg body, (Instr.yield b args').run P w = .ok (.round b f tmps asg body) w ∧ ∀ (c : Frame) (cs : List Frame), ∃ ρ' v' w',
        VR ρ' v v' ∧ HR ρ' h' w' ∧ Ext ρ h w ρ' h' w' ∧ Steps P (lone (Fr f (some b) tmps [] [.code asg, .beginRound, .code body]) (c :: cs) w) (lone (c.finish v') cs w')

def CallOK (P : Program) (ih : Evs) : Prop := ∀ t h v h', ih.call t h = .ok v h' → TgtOK P t h v h'

/-- What a call through a value comes to: it enters a function, or begins a round. -/
theorem callV_run {P : Program} {ih : Evs} (hi : CallOK P ih) {ρ : R} {h h' : H} {w : World} {f v : AV} {f' : Value} {args : List AV} {args' : Array Value} (hg : GR ρ) (hr : HR ρ h w) (hf : VR ρ f f') (ha : VL ρ args args'.toList)
    (hc : callV P ih f args h = .ok v h') :
    (∃ g as, (do let d ← Deferred.ofValue f' args'; invoke d.target d.args : Sem Next).run P w = .ok (.enter g as) w ∧
        ∀ (c : Frame) (cs : List Frame), ∃ ρ' v' w', VR ρ' v v' ∧ HR ρ' h' w' ∧ Ext ρ h w ρ' h' w' ∧ Steps P (lone (Frame.enter P g as .normal) (c :: cs) w) (lone (c.finish v') cs w')) ∨
    (∃ b g tmps asg body, (do let d ← Deferred.ofValue f' args'; invoke d.target d.args : Sem Next).run P w = .ok (.round b g tmps asg body) w ∧
        ∀ (c : Frame) (cs : List Frame), ∃ ρ' v' w', VR ρ' v v' ∧ HR ρ' h' w' ∧ Ext ρ h w ρ' h' w' ∧ Steps P (lone (Fr g (some b) tmps [] [.code asg, .beginRound, .code body]) (c :: cs) w) (lone (c.finish v') cs w')) := by
  unfold callV at hc
  cases hf with
  | fn g a c a' c' h1 h2 =>
    dsimp only at hc
    cases hp : plainB P g with
    | false => rw [hp] at hc; cases hc
    | true =>
      rw [hp] at hc
      have ok := hi _ _ _ _ hc
      dsimp only [TgtOK] at ok
      refine .inl ⟨g, a' ++ (args' ++ c'), ?_, ?_⟩
      · unfold plainB at hp
        cases hfn : P.funcs[g]? with
        | none => rw [hfn] at hp; cases hp
        | some fn =>
          rw [hfn] at hp
          dsimp only at hp
          rw [Bool.and_eq_true] at hp
          have hn : (fn.name == "runtime.NumGoroutine") = false := by
            cases hq : (fn.name == "runtime.NumGoroutine") with
            | false => rfl
            | true => have h2 := hp.2; rw [hq] at h2; cases h2
          have hb : fn.body.isNone = false := by
            cases hq : fn.body with
            | none => have h1 := hp.1; rw [hq] at h1; cases h1
            | some b => rfl
          have hn' : ¬ fn.name = "runtime.NumGoroutine" := by simpa using hn
          have hb' : ¬ fn.body = none := fun e => by rw [e] at hb; cases hb
          simp [Deferred.ofValue, invoke, callFunc, hfn, hn', hb', Array.append_assoc]
      · intro c0 cs
        obtain ⟨ρ', v', w', fr, e1, e2, e3, e4, e5, e6⟩ := ok ρ (a' ++ (args' ++ c')) w hg hr (by simp only [Array.toList_append]; exact h1.append (ha.append h2)) (c0 :: cs)
        exact ⟨ρ', v', w', e1, e2, e3, Steps.trans e4 (.one (step_leave_returned e6))⟩
  | yld id b x h1 h2 =>
    dsimp only at hc
    have ok := hi _ _ _ _ hc
    dsimp only [TgtOK] at ok
    obtain ⟨f, tmps, asg, body, e1, e2⟩ := ok ρ args' w b x hg hr ha h1 h2
    refine .inr ⟨b, f, tmps, asg, body, ?_, e2⟩
    simp [Deferred.ofValue, invoke, e1]
  | _ => cases hc

theorem execE_step {P : Program} {ih : Evs} (hi : CallOK P ih) {ρ : R} {h h' : H} {w : World} {tm : M AV} {tmps : Array Value} {df : List Deferred} {o : Oper} {v : AV} (hg : GR ρ) (hr : HR ρ h w)
    (ho : EvOk ρ tm ⟨tmps, df⟩ o.op.operands.toList) (he : execE P ih tm o.type o.op h = .ok v h') {ops : Array Oper} {i : Nat} (hop : ops[i]? = some o) (hw : Region.wanted o (yielded ops tmps) = true)
    (fn : FuncId) (rd : Option Nat) (rest : List Nat) (k : List Item) (cs : List Frame) :
    ∃ ρ' v' w', VR ρ' v v' ∧ HR ρ' h' w' ∧ Ext ρ h w ρ' h' w' ∧
      Steps P (lone (Fr fn rd tmps df (.inRegion ops (i :: rest) :: k)) cs w) (lone (Fr fn rd (putA tmps o.dst v') df (.inRegion ops rest :: k)) cs w') := by
  by_cases hcall : ∃ c, o.op = .call c
  · obtain ⟨c, hc⟩ := hcall
    have hd : ∀ d, o.op ≠ .defer d := fun d e => by rw [hc] at e; cases e
    have he' : callE P ih tm o.type c h = .ok v h' := by rw [hc] at he; exact he
    rw [hc] at ho
    unfold callE at he'
    cases hl : evL tm c.args.toList with
    | none => rw [hl] at he'; cases he'
    | some args =>
      rw [hl] at he'
      dsimp only at he'
      have hargs : VL ρ args (c.args.map (⟨tmps, df⟩ : Act).eval).toList := by
        rw [Array.toList_map]
        exact EvOk.list (ho.mono fun x hx => by simp [Op.operands, Call.operands]; exact .inr (by simpa using hx)) hl
      cases hcal : c.callee with
      | builtin b =>
        rw [hcal] at he'
        obtain ⟨consts, hrun⟩ : ∃ consts, (execOp (⟨tmps, df⟩ : Act).eval o).run P w = (Go.builtin b c.argTypes o.type consts (c.args.map (⟨tmps, df⟩ : Act).eval)).run P w := ⟨_, by
          simp only [execOp, hc, resolve, hcal, pure_bind, invoke]; rfl⟩
        obtain ⟨ρ', v', w', e1, e2, e3, e4⟩ := builtinE_run (P := P) (consts := consts) hr hargs he'
        rcases e1 with e1 | ⟨e1, rfl⟩
        · exact ⟨ρ', v', w', e2, e3, e4, s_opValue hop hw hd (hrun.trans e1)⟩
        · exact ⟨ρ', undef, w', e2, e3, e4, s_opUnit hop hw hd (hrun.trans e1)⟩
      | value f =>
        rw [hcal] at he'
        dsimp only at he'
        cases hf : evT tm f with
        | none => rw [hf] at he'; cases he'
        | some fv =>
          rw [hf] at he'
          have hfv := ho f (by simp [Op.operands, Call.operands, hcal]) fv hf
          have hrun : (execOp (⟨tmps, df⟩ : Act).eval o).run P w = (do let d ← Deferred.ofValue ((⟨tmps, df⟩ : Act).eval f) (c.args.map (⟨tmps, df⟩ : Act).eval); invoke d.target d.args : Sem Next).run P w := by
            simp only [execOp, hc, resolve, hcal]
          rcases callV_run hi hg hr hfv hargs he' with ⟨g, as, e1, e2⟩ | ⟨b, g, tm2, asg, body, e1, e2⟩
          · obtain ⟨ρ', v', w', k1, k2, k3, k4⟩ := e2 (Fr fn rd tmps df (.inRegion ops (i :: rest) :: k)) cs
            rw [finish_op hop] at k4
            exact ⟨ρ', v', w', k1, k2, k3, Steps.trans (s_opEnter hop hw hd (hrun.trans e1)) k4⟩
          · obtain ⟨ρ', v', w', k1, k2, k3, k4⟩ := e2 (Fr fn rd tmps df (.inRegion ops (i :: rest) :: k)) cs
            rw [finish_op hop] at k4
            exact ⟨ρ', v', w', k1, k2, k3, Steps.trans (s_opRound hop hw hd (hrun.trans e1)) k4⟩
      | invoke r m => rw [hcal] at he'; cases he'
  · have hnc : ∀ c, o.op ≠ .call c := fun c e => hcall ⟨c, e⟩
    obtain ⟨ρ', v', w', e1, e2, e3, e4⟩ := execE_plain (P := P) hr ho hnc he
    have hd : ∀ d, o.op ≠ .defer d := fun d e => by rw [e] at he; cases he
    rcases e1 with e1 | ⟨e1, rfl⟩
    · exact ⟨ρ', v', w', e2, e3, e4, s_opValue hop hw hd e1⟩
    · exact ⟨ρ', undef, w', e2, e3, e4, s_opUnit hop hw hd e1⟩

/-- A temporary is laid. -/
theorem TR.put {ρ ρ' : R} (hle : R.le ρ ρ') {n : Nat} {tm tm' : M AV} {tmps : Array Value} {d : Tmp} {v : AV} {v' : Value} (ht : TR ρ n tm tmps) (hd : d < n) (hs : tm.set d v = some tm') (hv : VR ρ' v v') :
    TR ρ' n tm' (tmps.setIfInBounds d v') := by
  obtain ⟨h1, h2, _⟩ := M.set_some hs
  refine ⟨by simpa using ht.1, fun i u hu => ?_⟩
  by_cases e : i = d
  · subst e
    rw [h1] at hu
    cases hu
    have : i < tmps.size := by rw [ht.1]; exact hd
    simp [Array.getD, this]
    exact hv
  · rw [h2 i e] at hu
    have := (ht.2 i u hu).up hle
    have eq : (tmps.setIfInBounds d v').getD i undef = tmps.getD i undef := by
      simp only [Array.getD_eq_getD_getElem?]
      rw [Array.getElem?_setIfInBounds_ne (Ne.symm e)]
    rw [eq]
    exact this

theorem putE_some {dst : Option Tmp} {v : AV} {fs : FS} {h : H} {k : FS → H → RF} {fs' : FS} {h' : H} (e : putE dst v fs h k = .ok fs' h') :
    (dst = none ∧ k fs h = .ok fs' h') ∨ ∃ d tm', dst = some d ∧ d < fs.n ∧ fs.tm.set d v = some tm' ∧ k ⟨fs.fn, fs.n, tm', fs.defs, fs.round⟩ h = .ok fs' h' := by
  obtain ⟨fn, n, tm, defs, round⟩ := fs
  cases dst with
  | none => exact .inl ⟨rfl, e⟩
  | some d =>
    have e' : (bif Nat.ble (Nat.succ d) n then Option.rec (motive := fun _ => RF) .no (fun tm => k ⟨fn, n, tm, defs, round⟩ h) (tm.set d v) else .no) = .ok fs' h' := e
    cases hb : Nat.ble (Nat.succ d) n with
    | false => rw [hb] at e'; cases e'
    | true =>
      rw [hb] at e'
      dsimp only [cond] at e'
      cases hs : tm.set d v with
      | none => rw [hs] at e'; cases e'
      | some tm' => rw [hs] at e'; exact .inr ⟨d, tm', rfl, Nat.le_of_ble_eq_true hb, hs, e'⟩

/-- The marks of a frame's loops. -/
inductive DR (ρ : R) : List Pos → List Deferred → Prop
  | nil : DR ρ [] []
  | cons (d : Pos) (ds : List Pos) (b : Nat) (dfs : List Deferred) (x : Option (Nat × Nat)) : ρ d = some x → (∀ c n, x = some (c, n) → c = b) → DR ρ ds dfs → DR ρ (d :: ds) ({ target := .collected b, args := #[] } :: dfs)
theorem DR.up {ρ ρ' : R} (h : R.le ρ ρ') {ds : List Pos} {dfs : List Deferred} (r : DR ρ ds dfs) : DR ρ' ds dfs := by
  induction r with
  | nil => exact .nil
  | cons d ds b dfs x hx hp _ ih => obtain ⟨y, hy, hq⟩ := up1 (p := fun c _ => c = b) h hx hp; exact .cons d ds b dfs y hy hq ih

inductive RdR (ρ : R) : Option Pos → Option Nat → Prop
  | none : RdR ρ none none
  | some (l : Pos) (b : Nat) (x : Option (Nat × Nat)) : ρ l = some x → (∀ c n, x = some (c, n) → c = b) → RdR ρ (some l) (some b)
theorem RdR.up {ρ ρ' : R} (h : R.le ρ ρ') {a : Option Pos} {b : Option Nat} (r : RdR ρ a b) : RdR ρ' a b := by
  cases r with
  | none => exact .none
  | some l b x hx hp => obtain ⟨y, hy, hq⟩ := up1 (p := fun c _ => c = b) h hx hp; exact .some l b y hy hq

/-- A frame stands for a frame. -/
structure St (ρ : R) (fs : FS) (h : H) (rd : Option Nat) (tmps : Array Value) (df : List Deferred) (w : World) : Prop where
  gr : GR ρ
  tr : TR ρ fs.n fs.tm tmps
  hr : HR ρ h w
  dr : DR ρ fs.defs df
  rd : RdR ρ fs.round rd

/-- What stays of a frame. -/
structure SameFS (fs fs' : FS) : Prop where
  fn : fs'.fn = fs.fn
  n : fs'.n = fs.n
  round : fs'.round = fs.round

theorem wantE_run {ρ : R} {n : Nat} {tm : M AV} {tmps : Array Value} {ops : Array Oper} {o : Oper} {b : Bool} (ht : ∀ j want oj d, o.guard = some (j, want) → ops[j]? = some oj → oj.dst = some d → ∀ v, tm.get d = some v → VR ρ v (tmps.getD d undef))
    (hn : tmps.size = n) (h : wantE ops tm o.guard = some b) : Region.wanted o (yielded ops tmps) = b := by
  unfold Region.wanted
  cases hg : o.guard with
  | none => rw [hg] at h; cases h; rfl
  | some jw =>
    obtain ⟨j, want⟩ := jw
    rw [hg] at h
    have h' : guardE ops tm j want = some b := h
    unfold guardE at h'
    cases hj : ops[j]? with
    | none => rw [hj] at h'; cases h'
    | some oj =>
      rw [hj] at h'
      dsimp only at h'
      cases hd : oj.dst with
      | none => rw [hd] at h'; cases h'
      | some d =>
        rw [hd] at h'
        dsimp only at h'
        cases hv : tm.get d with
        | none => rw [hv] at h'; cases h'
        | some v =>
          rw [hv] at h'
          dsimp only at h'
          have hvr := ht j want oj d hg hj hd v hv
          have hy : yielded ops tmps j = (match tmps[d]? with | some (.bool b) => some b | _ => none) := by
            unfold yielded; rw [hj]; simp only [Option.bind_some, hd]; rfl
          dsimp only
          rw [hy]
          cases hb : asB v with
          | some bb =>
            rw [hb] at h'
            obtain rfl := asB_some hb
            cases h'
            have hget : tmps.getD d undef = .bool bb := by
              cases hq : tmps.getD d undef with
              | bool b2 => rw [hq] at hvr; cases hvr; rfl
              | _ => rw [hq] at hvr; cases hvr
            have : tmps[d]? = some (.bool bb) := by
              rw [Array.getD_eq_getD_getElem?] at hget
              cases hq : tmps[d]? with
              | none => rw [hq] at hget; cases hget
              | some u => rw [hq] at hget; simp at hget; rw [hget]
            rw [this]
            rfl
          | none =>
            rw [hb] at h'
            cases h'
            have : ∀ b2, tmps[d]? ≠ some (.bool b2) := by
              intro b2 hq
              have hget : tmps.getD d undef = .bool b2 := by rw [Array.getD_eq_getD_getElem?, hq]; rfl
              rw [hget] at hvr
              cases hvr
              cases hb
            cases hq : tmps[d]? with
            | none => rfl
            | some u => cases u <;> first | rfl | exact absurd hq (this _)

end Go.Ev
