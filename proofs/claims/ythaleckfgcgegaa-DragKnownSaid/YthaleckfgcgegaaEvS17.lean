/-
  THE EVALUATOR'S SOUNDNESS, 17: code, loops over functions, calls.
-/
import Derived.Test.YthaleckfgcgegaaEvS16
namespace Go.Ev

def Ends (P : Program) (m : Machine) (fn : FuncId) (rd : Option Nat) (k : List Item) (cs : List Frame) : J → Array Value → List Deferred → World → Prop
  | .norm, tm, df, w => Steps P m (lone (Fr fn rd tm df k) cs w)
  | .exit id, tm, df, w => ∃ k', exitTo id k' = exitTo id k ∧ Steps P m (lone (Fr fn rd tm df (.code (.exit id) :: k')) cs w)
  | .ret, tm, df, w => ∃ k', Steps P m (lone (Fr fn rd tm df (.code .ret :: k')) cs w)

theorem Ends.of {P : Program} {m m1 : Machine} {fn : FuncId} {rd : Option Nat} {k : List Item} {cs : List Frame} {j : J} {tm : Array Value} {df : List Deferred} {w : World} (h : Steps P m m1) (e : Ends P m1 fn rd k cs j tm df w) : Ends P m fn rd k cs j tm df w := by
  cases j with
  | norm => exact h.trans e
  | exit id => obtain ⟨k', e1, e2⟩ := e; exact ⟨k', e1, h.trans e2⟩
  | ret => obtain ⟨k', e2⟩ := e; exact ⟨k', h.trans e2⟩

def Start (c : Code) (todo k : List Item) : Prop := todo = .code c :: k ∨ ∃ b, c = .loop b ∧ todo = .inLoop b :: k

structure Keeps (fs fs' : FS) : Prop where
  fn : fs'.fn = fs.fn
  n : fs'.n = fs.n
  round : fs'.round = fs.round
  defs : fs.round.isSome = true → fs'.defs = fs.defs

theorem Keeps.refl (fs : FS) : Keeps fs fs := ⟨rfl, rfl, rfl, fun _ => rfl⟩
theorem Keeps.trans {a b c : FS} (h : Keeps a b) (k : Keeps b c) : Keeps a c := ⟨k.fn.trans h.fn, k.n.trans h.n, k.round.trans h.round, fun e => (k.defs (by rw [h.round]; exact e)).trans (h.defs e)⟩

def CodeOK (P : Program) (ih : Evs) : Prop := ∀ c fs h j fs' h', ih.code c fs h = .ok j fs' h' → Keeps fs fs' ∧ ∀ ρ rd tm df w, St ρ fs h rd tm df w → ∀ todo k cs, Start c todo k →
  ∃ ρ' tm' df' w', St ρ' fs' h' rd tm' df' w' ∧ Ext ρ h w ρ' h' w' ∧ Ends P (lone (Fr fs.fn rd tm df todo) cs w) fs.fn rd k cs j tm' df' w'

theorem St.mono {ρ ρ' : R} {fs : FS} {h h' : H} {rd : Option Nat} {tm : Array Value} {df : List Deferred} {w w' : World} (s : St ρ fs h rd tm df w) (hle : R.le ρ ρ') (hr : HR ρ' h' w') : St ρ' fs h' rd tm df w' :=
  ⟨s.gr.up hle, s.tr.up hle, hr, s.dr.up hle, s.rd.up hle⟩

/-- A region whose order is fixed. -/
theorem opsE_run {P : Program} {ih : Evs} (hi : CallOK P ih) {ops : Array Oper} : ∀ (rest : List Oper) (i : Nat) (fs fs' : FS) (h h' : H), (∀ j : Nat, rest[j]? = ops[i + j]?) → opsE P ih ops rest fs h = .ok fs' h' →
    Keeps fs fs' ∧ fs'.defs = fs.defs ∧ ∀ ρ rd tm df w, St ρ fs h rd tm df w → ∀ fn k cs, ∃ ρ' tm' w', St ρ' fs' h' rd tm' df w' ∧ Ext ρ h w ρ' h' w' ∧
      Steps P (lone (Fr fn rd tm df (.inRegion ops (List.range' i rest.length) :: k)) cs w) (lone (Fr fn rd tm' df (.inRegion ops [] :: k)) cs w')
  | [], i, fs, fs', h, h', hl, he => by
    cases he
    exact ⟨.refl _, rfl, fun ρ rd tm df w s fn k cs => ⟨ρ, tm, w, s, .refl, .refl _ _⟩⟩
  | o :: rest, i, fs, fs', h, h', hl, he => by
    have hop : ops[i]? = some o := by have := hl 0; simp at this; exact this.symm
    have hrest : ∀ j : Nat, rest[j]? = ops[i + 1 + j]? := fun j => by
      have := hl (j + 1)
      rw [List.getElem?_cons_succ] at this
      rw [this]; congr 1; omega
    have he' : oneE P ih ops o fs h (opsE P ih ops rest) = .ok fs' h' := he
    unfold oneE at he'
    cases hw : wantE ops fs.tm o.guard with
    | none => rw [hw] at he'; cases he'
    | some b =>
      rw [hw] at he'
      have wanted : ∀ ρ rd tm df w, St ρ fs h rd tm df w → Region.wanted o (yielded ops tm) = b := fun ρ rd tm df w s =>
        wantE_run (ρ := ρ) (n := fs.n) (fun j want oj d _ _ _ v hv => s.tr.2 d v hv) s.tr.1 hw
      have next : ∀ (v : AV) (h1 : H), putE o.dst v fs h1 (opsE P ih ops rest) = .ok fs' h' →
          Keeps fs fs' ∧ fs'.defs = fs.defs ∧ ∀ ρ rd tm df w, St ρ fs h rd tm df w → ∀ fn k cs ρ1 v' w1, VR ρ1 v v' → HR ρ1 h1 w1 → Ext ρ h w ρ1 h1 w1 →
            Steps P (lone (Fr fn rd tm df (.inRegion ops (i :: List.range' (i + 1) rest.length) :: k)) cs w) (lone (Fr fn rd (putA tm o.dst v') df (.inRegion ops (List.range' (i + 1) rest.length) :: k)) cs w1) →
            ∃ ρ' tm' w', St ρ' fs' h' rd tm' df w' ∧ Ext ρ h w ρ' h' w' ∧ Steps P (lone (Fr fn rd tm df (.inRegion ops (i :: List.range' (i + 1) rest.length) :: k)) cs w) (lone (Fr fn rd tm' df (.inRegion ops [] :: k)) cs w') := by
        intro v h1 hp
        rcases putE_some hp with ⟨hd, hk⟩ | ⟨d, tm2, hd, hlt, hs, hk⟩
        · obtain ⟨a1, a2, a3⟩ := opsE_run hi rest (i + 1) fs fs' h1 h' hrest hk
          refine ⟨a1, a2, fun ρ rd tm df w s fn k cs ρ1 v' w1 hv hr ex st => ?_⟩
          rw [hd] at st
          obtain ⟨ρ', tm', w', b1, b2, b3⟩ := a3 ρ1 rd tm df w1 (s.mono ex.le hr) fn k cs
          exact ⟨ρ', tm', w', b1, ex.trans b2, st.trans b3⟩
        · obtain ⟨a1, a2, a3⟩ := opsE_run hi rest (i + 1) _ fs' h1 h' hrest hk
          refine ⟨⟨a1.fn, a1.n, a1.round, a1.defs⟩, a2, fun ρ rd tm df w s fn k cs ρ1 v' w1 hv hr ex st => ?_⟩
          rw [hd] at st
          obtain ⟨ρ', tm', w', b1, b2, b3⟩ := a3 ρ1 rd (tm.setIfInBounds d v') df w1 ⟨s.gr.up ex.le, s.tr.put ex.le hlt hs hv, hr, s.dr.up ex.le, s.rd.up ex.le⟩ fn k cs
          exact ⟨ρ', tm', w', b1, ex.trans b2, st.trans b3⟩
      cases b with
      | true =>
        dsimp only [cond] at he'
        cases hx : execE P ih fs.tm o.type o.op h with
        | no => rw [hx] at he'; cases he'
        | ok v h1 =>
          rw [hx] at he'
          obtain ⟨a1, a2, a3⟩ := next v h1 he'
          refine ⟨a1, a2, fun ρ rd tm df w s fn k cs => ?_⟩
          obtain ⟨ρ1, v', w1, b1, b2, b3, b4⟩ := execE_step hi s.gr s.hr (EvOk.all (a := ⟨tm, df⟩) s.gr s.tr _) hx hop (wanted ρ rd tm df w s) fn rd (List.range' (i + 1) rest.length) k cs
          exact a3 ρ rd tm df w s fn k cs ρ1 v' w1 b1 b2 b3 b4
      | false =>
        dsimp only [cond] at he'
        obtain ⟨a1, a2, a3⟩ := next (.tup []) h he'
        refine ⟨a1, a2, fun ρ rd tm df w s fn k cs => ?_⟩
        exact a3 ρ rd tm df w s fn k cs ρ undef w (.tup [] #[] .nil) s.hr .refl (s_opSkip hop (wanted ρ rd tm df w s))

/-- A region. -/
theorem regionE_run {P : Program} {ih : Evs} (hm : P.follows .mixedOrders = true) (hi : CallOK P ih) {id : Nat} {ops : Array Oper} {draw : Bool} {fs fs' : FS} {h h' : H} (he : regionE P ih ops draw fs h = .ok fs' h') :
    Keeps fs fs' ∧ ∀ ρ rd tm df w, St ρ fs h rd tm df w → ∀ k cs, ∃ ρ' tm' w', St ρ' fs' h' rd tm' df w' ∧ Ext ρ h w ρ' h' w' ∧
      Steps P (lone (Fr fs.fn rd tm df (.code (.region id ops draw) :: k)) cs w) (lone (Fr fs.fn rd tm' df k) cs w') := by
  cases draw with
  | false =>
    have he' : opsE P ih ops ops.toList fs h = .ok fs' h' := he
    obtain ⟨a1, _, a3⟩ := opsE_run hi ops.toList 0 fs fs' h h' (fun j => by simp) he'
    refine ⟨a1, fun ρ rd tm df w s k cs => ?_⟩
    obtain ⟨ρ', tm', w', b1, b2, b3⟩ := a3 ρ rd tm df w s fs.fn k cs
    have e : List.range' 0 ops.toList.length = List.range ops.size := by rw [List.range_eq_range']; simp
    rw [e] at b3
    exact ⟨ρ', tm', w', b1, b2, (s_region.trans b3).trans s_regionEnd⟩
  | true =>
    have he' : (match drawn ops with | some l => opsD P ih ops l fs h | none => .no) = .ok fs' h' := he
    cases hd : drawn ops with
    | none => rw [hd] at he'; cases he'
    | some l =>
      rw [hd] at he'
      obtain ⟨a1, a2, a3, a4, a5⟩ := opsD_run hi hd he'
      refine ⟨⟨a1, a2, a3, fun _ => a4⟩, fun ρ rd tm df w s k cs => ?_⟩
      have hsw : St ρ fs h rd tm df { w with drawn := w.drawn + 1 } := s.mono (R.le_refl ρ) (s.hr.world rfl)
      obtain ⟨ρ', tm', w', b1, b2, b3⟩ := a5 ρ rd tm df { w with drawn := w.drawn + 1 } hsw fs.fn k cs (w.tape w.drawn (.order fs.fn id))
      refine ⟨ρ', tm', w', b1, (Ext.world (w := w) (w' := { w with drawn := w.drawn + 1 }) rfl rfl rfl).trans b2, ?_⟩
      have hs := s_draw (P := P) (fn := fs.fn) (rd := rd) (tm := tm) (df := df) (k := k) (cs := cs) (w := w) (id := id) (ops := ops)
      rw [hm] at hs
      have e : Region.schedule true ops (w.tape w.drawn (.order fs.fn id)) = Region.linearise .any ops (w.tape w.drawn (.order fs.fn id)) := by simp [Region.schedule]
      rw [e] at hs
      exact (hs.trans b3).trans s_regionEnd

/-- A loop's record and its marks. -/
theorem getLoop_run {P : Program} {ρ : R} {h : H} {w : World} (hr : HR ρ h w) {l : Pos} {b : Nat} {x : Option (Nat × Nat)} (hx : ρ l = some x) (hp : ∀ c n, x = some (c, n) → c = b)
    {st : LoopState} {pend : J} {fn n : Nat} {tm : M AV} {params : Array Tmp} {asg body : Code} {d : Pos} (hg : getObj l h = some (.loop st pend fn n tm params asg body d)) :
    ∃ born tmps db y, x = some (b, 0) ∧ T.get l h.objs = some (born, .loop st pend fn n tm params asg body d) ∧ TR ρ n tm tmps ∧ ρ d = some y ∧ (∀ c k, y = some (c, k) → c = db) ∧
      w.heap[b]? = some (.loop { state := st, pending := pend.code, fn := fn, tmps := tmps, params := params, assign := asg, body := body, defers := db }) ∧
      (Instr.getLoop b).run P w = .ok { state := st, pending := pend.code, fn := fn, tmps := tmps, params := params, assign := asg, body := body, defers := db } w := by
  obtain ⟨k, born, o', e1, e2, e3, e4⟩ := hr.at hx hp hg (fun e => by cases e)
  cases e4 with
  | loop _ _ _ _ _ tmps _ _ _ _ db y ht hd hy =>
    exact ⟨born, tmps, db, y, e1, e2, ht, hd, hy, e3, by simp [Instr.getLoop, Go.getObj, Sem.run, e3]⟩

theorem setLoop_run {P : Program} {ρ : R} {h h' : H} {w : World} (hr : HR ρ h w) {l : Pos} {b born : Nat} {o : AO} {o2 : AO} {c : Obj} (hid : ρ l = some (some (b, 0))) (h0 : T.get l h.objs = some (born, o)) (hro : ∀ m, o ≠ .ro m) (hc : ∀ a e f, c ≠ .cells a e f)
    (hb : w.heap[b]? = some c) (hs : Ev.setObj l o2 h = some h') {c2 : Obj} (ho : OR ρ 0 o2 c2) (hc2 : ∀ a e f, c2 ≠ .cells a e f) :
    ∃ w', (Go.setObj b c2).run P w = .ok () w' ∧ HR ρ h' w' ∧ Ext ρ h w ρ h' w' ∧ w'.heap[b]? = some c2 := by
  have hlt := (Array.getElem?_eq_some_iff.1 hb).1
  have hcv := (Array.getElem?_eq_some_iff.1 hb).2
  obtain ⟨a1, a2⟩ := hr.setObj (w' := { w with heap := w.heap.setIfInBounds b c2 }) hs hid h0 hro ho (by simp) (by simp [hlt]) (fun j hj => by simp [Array.getElem?_setIfInBounds_ne (Ne.symm hj)]) rfl rfl (fun a => by
    by_cases ha : a.block = b
    · have e1 : w.heap[a.block]? = some c := by rw [ha]; exact hb
      have e2 : (w.heap.setIfInBounds b c2)[a.block]? = some c2 := by rw [ha]; simp [hlt]
      simp only [World.frozen?, e1, e2]
      cases c <;> first | exact absurd rfl (hc _ _ _) | (cases c2 <;> first | exact absurd rfl (hc2 _ _ _) | rfl)
    · simp [World.frozen?, Array.getElem?_setIfInBounds_ne (Ne.symm ha)])
  refine ⟨_, ?_, a1, a2, by simp [hlt]⟩
  simp only [Go.setObj, Sem.run, hb]

theorem setParams_run {ρ : R} {n : Nat} : ∀ (ps : List Tmp) (args : List AV) (args' : List Value) (tm tm2 : M AV) (tmps : Array Value), VL ρ args args' → TR ρ n tm tmps → setParams n ps args tm = some tm2 →
    args'.length = ps.length ∧ TR ρ n tm2 ((ps.zip args').foldl (fun (t : Array Value) (p : Tmp × Value) => t.setIfInBounds p.1 p.2) tmps)
  | [], [], args', tm, tm2, tmps, ha, ht, h => by cases ha; cases h; exact ⟨rfl, ht⟩
  | p :: ps, v :: vs, args', tm, tm2, tmps, ha, ht, h => by
    cases ha with
    | cons _ _ v' vs' hv hvs =>
      have h' : (bif Nat.ble (Nat.succ p) n then (match tm.set p v with | some tm => setParams n ps vs tm | none => none) else none) = some tm2 := h
      cases hb : Nat.ble (Nat.succ p) n with
      | false => rw [hb] at h'; cases h'
      | true =>
        rw [hb] at h'
        dsimp only [cond] at h'
        cases hs : tm.set p v with
        | none => rw [hs] at h'; cases h'
        | some tm1 =>
          rw [hs] at h'
          obtain ⟨a1, a2⟩ := setParams_run ps vs vs' tm1 tm2 _ hvs (ht.put (R.le_refl ρ) (Nat.le_of_ble_eq_true hb) hs hv) h'
          exact ⟨by simp [a1], a2⟩
  | [], _ :: _, _, _, _, _, _, _, h => by cases h
  | _ :: _, [], _, _, _, _, _, _, h => by cases h


/-- A loop over a function. -/
theorem rangeE_run {P : Program} {ih : Evs} (hi : CallOK P ih) {f : Operand} {params : Array Tmp} {asg body : Code} {fs fs' : FS} {h h' : H} {j : J} (he : rangeE P ih f params asg body fs h = .ok j fs' h') :
    Keeps fs fs' ∧ ∀ ρ rd tm df w, St ρ fs h rd tm df w → ∀ k cs, ∃ ρ' df' w', St ρ' fs' h' rd tm df' w' ∧ Ext ρ h w ρ' h' w' ∧
      Steps P (lone (Fr fs.fn rd tm df (.code (.rangeFunc f params asg body) :: k)) cs w) (lone (Fr fs.fn rd tm df' ((j.code.map Item.code).toList ++ k)) cs w') := by
  obtain ⟨fn, n, tmA, defs, round⟩ := fs
  unfold rangeE at he
  dsimp only at he
  cases hf : evT tmA f with
  | none => rw [hf] at he; cases he
  | some fv =>
    rw [hf] at he
    dsimp only at he
    -- what loopE comes to
    have loop : ∀ (d : Pos) (defs2 : List Pos) (h1 : H), loopE P ih fv params asg body d ⟨fn, n, tmA, defs2, round⟩ h1 = .ok j fs' h' →
        fs' = ⟨fn, n, tmA, defs2, round⟩ ∧ ∀ ρ rd tm df w df2 ρ1 w1 db y mark, St ρ ⟨fn, n, tmA, defs, round⟩ h rd tm df w → R.le ρ ρ1 → HR ρ1 h1 w1 → DR ρ1 defs2 df2 → df2 = mark ++ df → ρ1 d = some y → (∀ c k, y = some (c, k) → c = db) → Ext ρ h w ρ1 h1 w1 →
          (Instr.enterLoop fn tm params asg body rd).run P w = .ok (w1.heap.size, mark) { w1 with heap := w1.heap.push (.loop { state := .ready, pending := none, fn := fn, tmps := tm, params := params, assign := asg, body := body, defers := db }) } →
          ∀ k cs, ∃ ρ' w', St ρ' fs' h' rd tm df2 w' ∧ Ext ρ h w ρ' h' w' ∧
            Steps P (lone (Fr fn rd tm df (.code (.rangeFunc f params asg body) :: k)) cs w) (lone (Fr fn rd tm df2 ((j.code.map Item.code).toList ++ k)) cs w') := by
      intro d defs2 h1 hl
      unfold loopE at hl
      dsimp only at hl
      cases hn : Ev.newObj (.loop .ready .norm fn n tmA params asg body d) h1 with
      | none => rw [hn] at hl; cases hl
      | some lh =>
        obtain ⟨l, h2⟩ := lh
        rw [hn] at hl
        dsimp only at hl
        cases hc : callV P ih fv [.yld l] h2 with
        | no => rw [hc] at hl; cases hl
        | ok v h3 =>
          rw [hc] at hl
          have hl' : endLoopE l ⟨fn, n, tmA, defs2, round⟩ (.ok v h3) = .ok j fs' h' := hl
          unfold endLoopE at hl'
          dsimp only at hl'
          cases hg : Ev.getObj l h3 with
          | none => rw [hg] at hl'; cases hl'
          | some o =>
            rw [hg] at hl'
            cases o with
            | loop st pend fn3 n3 tm3 params3 asg3 body3 d3 =>
              dsimp only at hl'
              have hst : st ≠ .busy := fun e => by subst e; cases hl'
              have hl2 : (match Ev.setObj l (.loop .exhausted pend fn3 n3 tm3 params3 asg3 body3 d3) h3 with | some h => RJ.ok pend ⟨fn, n, tmA, defs2, round⟩ h | none => RJ.no) = .ok j fs' h' := by
                cases st <;> first | exact hl' | exact absurd rfl hst
              cases hs : Ev.setObj l (.loop .exhausted pend fn3 n3 tm3 params3 asg3 body3 d3) h3 with
              | none => rw [hs] at hl2; cases hl2
              | some h4 =>
                rw [hs] at hl2
                cases hl2
                refine ⟨rfl, ?_⟩
                intro ρ rd tm df w df2 ρ1 w1 db y mark s hle hr1 hdr hdf hy hyp ex hent k cs
                obtain ⟨hfr, hr2, ex2⟩ := hr1.newObj hn (OR.loop .ready .norm fn n tmA tm params asg body d db y ((s.tr.up hle).up (R.le_refl _)) hy hyp |> fun o => o) (fun i => by simp [World.frozen?])
                have hlρ : (ρ1.new l (some (w1.heap.size, 0))) l = some (some (w1.heap.size, 0)) := by simp [R.new]
                have hle2 : R.le ρ1 (ρ1.new l (some (w1.heap.size, 0))) := ex2.le
                have hgr2 := (s.gr.up hle).up hle2
                have hfv := (evT_vr (a := ⟨tm, df⟩) s.gr s.tr hf).up (R.le_trans hle hle2)
                have hargs : VL (ρ1.new l (some (w1.heap.size, 0))) [.yld l] (#[Value.func (.yield w1.heap.size) #[] #[]] : Array Value).toList := .cons _ _ _ _ (.yld l w1.heap.size _ hlρ (fun c k e => by cases e; rfl)) .nil
                -- behind the call
                have back : ∀ ρ3 v' w3, VR ρ3 v v' → HR ρ3 h3 w3 → Ext (ρ1.new l (some (w1.heap.size, 0))) h2 { w1 with heap := w1.heap.push (.loop { state := .ready, pending := none, fn := fn, tmps := tm, params := params, assign := asg, body := body, defers := db }) } ρ3 h3 w3 →
                    ∃ ρ' w', St ρ' ⟨fn, n, tmA, defs2, round⟩ h' rd tm df2 w' ∧ Ext ρ h w ρ' h' w' ∧
                      Steps P (lone (Fr fn rd tm df2 (.endRangeFunc w1.heap.size :: k)) cs w3) (lone (Fr fn rd tm df2 ((j.code.map Item.code).toList ++ k)) cs w') := by
                  intro ρ3 v' w3 hv hr3 ex3
                  obtain ⟨y3, hy3, hyp3⟩ := up1 (p := fun c _ => c = w1.heap.size) ex3.le hlρ (fun c k e => by cases e; rfl)
                  obtain ⟨born, tmps3, db3, z, q1, q2, q3, q4, q5, q6, q7⟩ := getLoop_run (P := P) hr3 hy3 hyp3 hg
                  obtain ⟨w4, r1, r2, r3, r4⟩ := setLoop_run (P := P) hr3 (hy3.trans (by rw [q1])) q2 (fun m e => by cases e) (fun _ _ _ e => by cases e) q6 hs (OR.loop .exhausted j fn3 n3 tm3 tmps3 params3 asg3 body3 d3 db3 z q3 q4 q5) (fun _ _ _ e => by cases e)
                  have hle3 : R.le ρ ρ3 := R.le_trans (R.le_trans hle hle2) ex3.le
                  refine ⟨ρ3, w4, ⟨s.gr.up hle3, s.tr.up hle3, r2, hdr.up (R.le_trans hle2 ex3.le), s.rd.up hle3⟩, ((ex.trans ex2).trans ex3).trans r3, ?_⟩
                  refine s_endLoop (jump := j.code) ?_
                  refine (step_ok q7).trans ?_
                  have hb : ((st == LoopState.busy) = true) = False := by
                    simp; exact hst
                  rw [if_neg (by rw [hb]; exact id)]
                  refine (step_ok r1).trans ?_
                  rfl
                have hres : ∀ w, (do let d ← resolve (⟨tm, df⟩ : Act).eval { callee := .value f, args := #[.const (.func (.yield w1.heap.size) #[] #[])], argTypes := #[] } 0; invoke d.target d.args : Sem Next).run P w =
                    (do let d ← Deferred.ofValue ((⟨tm, df⟩ : Act).eval f) #[Value.func (.yield w1.heap.size) #[] #[]]; invoke d.target d.args : Sem Next).run P w := fun w => by simp [resolve, Act.eval]
                rcases callV_run hi hgr2 hr2 hfv hargs hc with ⟨g, as, e1, e2⟩ | ⟨b, g, tm4, asg4, body4, e1, e2⟩
                · obtain ⟨ρ3, v', w3, k1, k2, k3, k4⟩ := e2 (Fr fn rd tm (mark ++ df) (.inRangeFunc w1.heap.size :: k)) cs
                  rw [finish_range] at k4
                  obtain ⟨ρ', w', m1, m2, m3⟩ := back ρ3 v' w3 k1 k2 k3
                  rw [hdf] at m3 ⊢
                  exact ⟨ρ', w', hdf ▸ m1, m2, ((s_rangeFn hent ((hres _).trans e1)).trans k4).trans m3⟩
                · obtain ⟨ρ3, v', w3, k1, k2, k3, k4⟩ := e2 (Fr fn rd tm (mark ++ df) (.inRangeFunc w1.heap.size :: k)) cs
                  rw [finish_range] at k4
                  obtain ⟨ρ', w', m1, m2, m3⟩ := back ρ3 v' w3 k1 k2 k3
                  rw [hdf] at m3 ⊢
                  exact ⟨ρ', w', hdf ▸ m1, m2, ((s_rangeYld hent ((hres _).trans e1)).trans k4).trans m3⟩
            | _ => cases hl'
    cases round with
    | none =>
      dsimp only at he
      cases hn : Ev.newObj .dfr h with
      | none => rw [hn] at he; cases he
      | some dh =>
        obtain ⟨d, h1⟩ := dh
        rw [hn] at he
        dsimp only at he
        obtain ⟨rfl, main⟩ := loop d (d :: defs) h1 he
        refine ⟨⟨rfl, rfl, rfl, fun e => by cases e⟩, fun ρ rd tm df w s k cs => ?_⟩
        have hrd : rd = none := by cases s.rd; rfl
        subst hrd
        obtain ⟨_, hr1, ex1⟩ := s.hr.newObj hn OR.dfr (fun i => by simp [World.frozen?])
        have hdρ : (ρ.new d (some (w.heap.size, 0))) d = some (some (w.heap.size, 0)) := by simp [R.new]
        obtain ⟨ρ', w', m1, m2, m3⟩ := main ρ none tm df w ({ target := .collected w.heap.size, args := #[] } :: df) _ _ w.heap.size _ [{ target := .collected w.heap.size, args := #[] }] s ex1.le hr1
          (.cons d defs w.heap.size df _ hdρ (fun c k e => by cases e; rfl) (s.dr.up ex1.le)) rfl hdρ (fun c k e => by cases e; rfl) ex1 (by simp [Instr.enterLoop]; rfl) k cs
        exact ⟨ρ', _, w', m1, m2, m3⟩
    | some l =>
      dsimp only at he
      cases hg : Ev.getObj l h with
      | none => rw [hg] at he; cases he
      | some o =>
        rw [hg] at he
        cases o with
        | loop st pend fn3 n3 tm3 params3 asg3 body3 d3 =>
          dsimp only at he
          obtain ⟨rfl, main⟩ := loop d3 defs h he
          refine ⟨⟨rfl, rfl, rfl, fun _ => rfl⟩, fun ρ rd tm df w s k cs => ?_⟩
          have hrd := s.rd
          cases hrd with
          | some _ b x hx hp =>
            obtain ⟨born, tmps3, db3, z, q1, q2, q3, q4, q5, q6, q7⟩ := getLoop_run (P := P) s.hr hx hp hg
            obtain ⟨ρ', w', m1, m2, m3⟩ := main ρ (some b) tm df w df ρ w db3 z [] s (R.le_refl ρ) s.hr s.dr rfl q4 q5 .refl (by simp [Instr.enterLoop, q7]) k cs
            exact ⟨ρ', df, w', m1, m2, m3⟩
        | _ => cases he

end Go.Ev
