/-
  RULES: what is asked behind code, behind operations, behind calls.
-/
import Derived.Test.YthaleckfgcgegaaEvL3
namespace Go.Ev

def WV (r : RV) (Q : AV → H → Prop) : Prop := ∃ v h, r = .ok v h ∧ Q v h
theorem WV_ok {v : AV} {h : H} {Q : AV → H → Prop} (q : Q v h) : WV (.ok v h) Q := ⟨v, h, rfl, q⟩
theorem WV_okI {v : AV} {h : H} {Q : AV → H → Prop} : WV (.ok v h) Q ↔ Q v h := ⟨fun ⟨_, _, e, q⟩ => by cases e; exact q, WV_ok⟩
theorem WV_eq {r : RV} {v : AV} {h : H} {Q : AV → H → Prop} (e : r = .ok v h) (q : Q v h) : WV r Q := ⟨v, h, e, q⟩
theorem WV.mono {r : RV} {Q Q' : AV → H → Prop} (w : WV r Q) (k : ∀ v h, Q v h → Q' v h) : WV r Q' := let ⟨v, h, e, q⟩ := w; ⟨v, h, e, k v h q⟩
theorem WV_gen {r : RV} {Q0 : AV → H → Prop} (k : ∀ Q : AV → H → Prop, (∀ v h, Q0 v h → Q v h) → WV r Q) : WV r Q0 := k Q0 fun _ _ x => x

structure Cx where
  P : Program
  K : List Con
  g : FuncId
  n : Nat
  r : Option Pos

def Cx.fs (x : Cx) (f : TF) (d : List Pos) : FS := ⟨x.g, x.n, mkM f, d, x.r⟩

abbrev CQ := J → TF → List Pos → H → Prop

/-- Code, from a frame and a heap on. -/
structure WC (x : Cx) (c : Code) (f : TF) (d : List Pos) (h : H) (Q : CQ) : Prop where
  out : ∃ j f' d' h', codeS x.P (om x.P x.K) c (x.fs f d) h = .ok j (x.fs f' d') h' ∧ Q j f' d' h'
theorem WC.mono {x : Cx} {c : Code} {f : TF} {d : List Pos} {h : H} {Q Q' : CQ} (w : WC x c f d h Q) (k : ∀ j f d h, Q j f d h → Q' j f d h) : WC x c f d h Q' :=
  let ⟨j, f', d', h', e, q⟩ := w; ⟨j, f', d', h', e, k _ _ _ _ q⟩

def seqQ (x : Cx) (b : Code) (Q : CQ) : CQ
  | .norm, f, d, h => WC x b f d h Q
  | .exit id, f, d, h => Q (.exit id) f d h
  | .ret, f, d, h => Q .ret f d h
def blkQ (id : Nat) (Q : CQ) : CQ
  | .norm, f, d, h => Q .norm f d h
  | .exit id', f, d, h => bif Nat.beq id' id then Q .norm f d h else Q (.exit id') f d h
  | .ret, f, d, h => Q .ret f d h

section
variable {x : Cx} {a b : Code} {f : TF} {d : List Pos} {h : H} {Q : CQ}

theorem seqQ_norm (w : WC x b f d h Q) : seqQ x b Q .norm f d h := w
theorem seqQ_ret (w : Q .ret f d h) : seqQ x b Q .ret f d h := w
theorem seqQ_exit {id : Nat} (w : Q (.exit id) f d h) : seqQ x b Q (.exit id) f d h := w
theorem blkQ_norm {id : Nat} (w : Q .norm f d h) : blkQ id Q .norm f d h := w
theorem blkQ_ret {id : Nat} (w : Q .ret f d h) : blkQ id Q .ret f d h := w
theorem blkQ_here {id : Nat} (w : Q .norm f d h) : blkQ id Q (.exit id) f d h := by
  show (bif Nat.beq id id then Q .norm f d h else Q (.exit id) f d h)
  rw [show Nat.beq id id = true from Nat.beq_refl id]; exact w
theorem blkQ_out {id id' : Nat} (e : Nat.beq id' id = false) (w : Q (.exit id') f d h) : blkQ id Q (.exit id') f d h := by
  show (bif Nat.beq id' id then Q .norm f d h else Q (.exit id') f d h)
  rw [e]; exact w

theorem WC_seq (w : WC x a f d h (seqQ x b Q)) : WC x (.seq a b) f d h Q := by
  obtain ⟨j, f', d', h', e, q⟩ := w
  cases j with
  | norm =>
    obtain ⟨j, f2, d2, h2, e2, q2⟩ := q
    exact ⟨j, f2, d2, h2, by show thenE _ (codeS x.P (om x.P x.K) a (x.fs f d) h) = _; rw [e]; exact e2, q2⟩
  | exit id => exact ⟨_, f', d', h', by show thenE _ (codeS x.P (om x.P x.K) a (x.fs f d) h) = _; rw [e]; rfl, q⟩
  | ret => exact ⟨_, f', d', h', by show thenE _ (codeS x.P (om x.P x.K) a (x.fs f d) h) = _; rw [e]; rfl, q⟩
theorem WC_skip (w : Q .norm f d h) : WC x .skip f d h Q := ⟨_, _, _, _, rfl, w⟩
theorem WC_label {l : Nat} (w : Q .norm f d h) : WC x (.label l) f d h Q := ⟨_, _, _, _, rfl, w⟩
theorem WC_ret (w : Q .ret f d h) : WC x .ret f d h Q := ⟨_, _, _, _, rfl, w⟩
theorem WC_exit {id : Nat} (w : Q (.exit id) f d h) : WC x (.exit id) f d h Q := ⟨_, _, _, _, rfl, w⟩
theorem WC_scope (w : WC x a f d h Q) : WC x (.scope a) f d h Q := ⟨w.out⟩
theorem WC_block {id : Nat} (w : WC x a f d h (blkQ id Q)) : WC x (.block id a) f d h Q := by
  obtain ⟨j, f', d', h', e, q⟩ := w
  cases j with
  | norm => exact ⟨_, f', d', h', by show outE id (codeS x.P (om x.P x.K) a (x.fs f d) h) = _; rw [e]; rfl, q⟩
  | ret => exact ⟨_, f', d', h', by show outE id (codeS x.P (om x.P x.K) a (x.fs f d) h) = _; rw [e]; rfl, q⟩
  | exit id' =>
    cases hb : Nat.beq id' id with
    | true =>
      refine ⟨.norm, f', d', h', ?_, ?_⟩
      · show outE id (codeS x.P (om x.P x.K) a (x.fs f d) h) = _
        rw [e]
        show RJ.ok (bif Nat.beq id' id then .norm else .exit id') _ _ = _
        rw [hb]; rfl
      · have q' : (bif Nat.beq id' id then Q .norm f' d' h' else Q (.exit id') f' d' h') := q
        rw [hb] at q'; exact q'
    | false =>
      refine ⟨.exit id', f', d', h', ?_, ?_⟩
      · show outE id (codeS x.P (om x.P x.K) a (x.fs f d) h) = _
        rw [e]
        show RJ.ok (bif Nat.beq id' id then .norm else .exit id') _ _ = _
        rw [hb]; rfl
      · have q' : (bif Nat.beq id' id then Q .norm f' d' h' else Q (.exit id') f' d' h') := q
        rw [hb] at q'; exact q'

/-- A test. -/
def WB (o : Option AV) (K : Bool → Prop) : Prop := ∃ t, o = some (.bool t) ∧ K t
theorem WB_some {t : Bool} {K : Bool → Prop} : WB (some (.bool t)) K ↔ K t := ⟨fun ⟨_, e, q⟩ => by cases e; exact q, fun q => ⟨t, rfl, q⟩⟩
def condK (A B : Prop) (t : Bool) : Prop := (t = true → A) ∧ (t = false → B)
theorem condK_tt {A B : Prop} (a : A) : condK A B true := ⟨fun _ => a, (fun e => by cases e)⟩
theorem condK_ff {A B : Prop} (b : B) : condK A B false := ⟨(fun e => by cases e), fun _ => b⟩
theorem condK_dec {A B : Prop} {p : Prop} [Decidable p] (a : p → A) (b : ¬ p → B) : condK A B (decide p) := ⟨fun e => a (of_decide_eq_true e), fun e => b (of_decide_eq_false e)⟩
theorem condK_not {A B : Prop} {t : Bool} (k : condK B A t) : condK A B (!t) := by cases t with | true => exact condK_ff (k.1 rfl) | false => exact condK_tt (k.2 rfl)
theorem condK_any {A B : Prop} {t : Bool} (a : t = true → A) (b : t = false → B) : condK A B t := ⟨a, b⟩
theorem WC_cond {c : Operand} (w : ∀ K : Bool → Prop, (∀ t, condK (WC x a f d h Q) (WC x b f d h Q) t → K t) → WB (evT (mkM f) c) K) : WC x (.cond c a b) f d h Q := by
  obtain ⟨t, e, k⟩ := w (condK (WC x a f d h Q) (WC x b f d h Q)) fun _ x => x
  have step : codeS x.P (om x.P x.K) (.cond c a b) (x.fs f d) h = bif t then codeS x.P (om x.P x.K) a (x.fs f d) h else codeS x.P (om x.P x.K) b (x.fs f d) h := by
    rw [codeS]
    show (match evT (mkM f) c with | some v => (match asB v with | some t => bif t then codeS x.P (om x.P x.K) a (x.fs f d) h else codeS x.P (om x.P x.K) b (x.fs f d) h | none => .no) | none => .no) = _
    rw [e]; rfl
  cases t with
  | true => obtain ⟨j, f', d', h', e, q⟩ := k.1 rfl; exact ⟨j, f', d', h', step.trans e, q⟩
  | false => obtain ⟨j, f', d', h', e, q⟩ := k.2 rfl; exact ⟨j, f', d', h', step.trans e, q⟩

/-- Operations in the text's order. -/
structure WO (x : Cx) (ops : Array Oper) (l : List Oper) (f : TF) (d : List Pos) (h : H) (Q : TF → H → Prop) : Prop where
  out : ∃ f' h', opsE x.P (om x.P x.K) ops l (x.fs f d) h = .ok (x.fs f' d) h' ∧ Q f' h'
theorem WC_region {id : Nat} {ops : Array Oper} (w : WO x ops ops.toList f d h fun f h => Q .norm f d h) : WC x (.region id ops false) f d h Q := by
  obtain ⟨f', h', e, q⟩ := w
  exact ⟨.norm, f', d, h', by show normE (opsE x.P (om x.P x.K) ops ops.toList (x.fs f d) h) = _; rw [e]; rfl, q⟩

variable {ops : Array Oper} {o : Oper} {rest : List Oper} {Qo : TF → H → Prop}
theorem WO_nil (q : Qo f h) : WO x ops [] f d h Qo := ⟨f, h, rfl, q⟩

theorem putE_some_eq {dst : Option Tmp} {k : Nat} {v : AV} {K : FS → H → RF} (hd : dst = some k) (hk : (Nat.ble (Nat.succ k) x.n && Nat.ble (Nat.succ k) 384) = true) : putE dst v (x.fs f d) h K = K (x.fs (upd f k v) d) h := by
  subst hd
  rw [Bool.and_eq_true] at hk
  unfold putE Cx.fs
  dsimp only
  rw [hk.1, set_mkM _ _ _ (Nat.le_of_ble_eq_true hk.2)]; rfl
theorem putE_none_eq {dst : Option Tmp} {v : AV} {K : FS → H → RF} (hd : dst = none) : putE dst v (x.fs f d) h K = K (x.fs f d) h := by
  subst hd; rfl

theorem WO_op (hg : o.guard = none) {k : Nat} (hd : o.dst = some k) (hk : (Nat.ble (Nat.succ k) x.n && Nat.ble (Nat.succ k) 384) = true)
    (w : WV (execE x.P (om x.P x.K) (mkM f) o.type o.op h) fun v h' => WO x ops rest (upd f k v) d h' Qo) : WO x ops (o :: rest) f d h Qo := by
  obtain ⟨v, h1, e, f', h', e', q⟩ := w
  refine ⟨f', h', ?_, q⟩
  show oneE x.P (om x.P x.K) ops o (x.fs f d) h (opsE x.P (om x.P x.K) ops rest) = _
  unfold oneE
  rw [hg]
  show goE o.dst (x.fs f d) (opsE x.P (om x.P x.K) ops rest) (execE x.P (om x.P x.K) (mkM f) o.type o.op h) = _
  rw [e]
  show putE o.dst v (x.fs f d) h1 (opsE x.P (om x.P x.K) ops rest) = _
  rw [putE_some_eq hd hk]; exact e'
theorem WO_op0 (hg : o.guard = none) (hd : o.dst = none)
    (w : WV (execE x.P (om x.P x.K) (mkM f) o.type o.op h) fun _ h' => WO x ops rest f d h' Qo) : WO x ops (o :: rest) f d h Qo := by
  obtain ⟨v, h1, e, f', h', e', q⟩ := w
  refine ⟨f', h', ?_, q⟩
  show oneE x.P (om x.P x.K) ops o (x.fs f d) h (opsE x.P (om x.P x.K) ops rest) = _
  unfold oneE
  rw [hg]
  show goE o.dst (x.fs f d) (opsE x.P (om x.P x.K) ops rest) (execE x.P (om x.P x.K) (mkM f) o.type o.op h) = _
  rw [e]
  show putE o.dst v (x.fs f d) h1 (opsE x.P (om x.P x.K) ops rest) = _
  rw [putE_none_eq hd]; exact e'

/-- A guarded operation: is it wanted? -/
def gateK (want : Bool) (A B : Prop) (o : Option Bool) : Prop := (o = some want → A) ∧ (o ≠ some want → B)
theorem gateK_yes {want : Bool} {A B : Prop} (a : A) : gateK want A B (some want) := ⟨fun _ => a, fun e => absurd rfl e⟩
theorem gateK_no {want t : Bool} {A B : Prop} (hne : t ≠ want) (b : B) : gateK want A B (some t) := ⟨(fun e => by cases e; exact absurd rfl hne), fun _ => b⟩
theorem gateK_none {want : Bool} {A B : Prop} (b : B) : gateK want A B none := ⟨(fun e => by cases e), fun _ => b⟩
theorem gateK_dect {A B : Prop} {p : Prop} [Decidable p] (a : p → A) (b : ¬ p → B) : gateK true A B (some (decide p)) := ⟨fun e => a (of_decide_eq_true (Option.some.inj e)), fun e => b fun hp => e (by rw [decide_eq_true hp])⟩
theorem gateK_decf {A B : Prop} {p : Prop} [Decidable p] (a : ¬ p → A) (b : p → B) : gateK false A B (some (decide p)) := ⟨fun e => a (of_decide_eq_false (Option.some.inj e)), fun e => b (by
  by_cases hp : p
  · exact hp
  · exact absurd (by rw [decide_eq_false hp]) e)⟩

theorem wantE_gate {g : Nat × Bool} {dd : Nat} (hj : (ops[g.1]?).bind (·.dst) = some dd) (hk : Nat.ble (Nat.succ dd) 384 = true) : wantE ops (mkM f) (some g) = some (decide (asB (f dd) = some g.2)) := by
  show guardE ops (mkM f) g.1 g.2 = _
  unfold guardE
  cases ho : ops[g.1]? with
  | none => rw [ho] at hj; cases hj
  | some oj =>
    rw [ho] at hj
    have hj' : oj.dst = some dd := hj
    dsimp only
    rw [hj']
    dsimp only
    rw [get_mkM _ _ (Nat.le_of_ble_eq_true hk)]
    dsimp only
    cases asB (f dd) with
    | none => simp
    | some b => cases b <;> cases g.2 <;> rfl

theorem WO_gate {g : Nat × Bool} (hg : o.guard = some g) {dd : Nat} (hj : (ops[g.1]?).bind (·.dst) = some dd) (hk2 : Nat.ble (Nat.succ dd) 384 = true) {k : Nat} (hd : o.dst = some k) (hk : (Nat.ble (Nat.succ k) x.n && Nat.ble (Nat.succ k) 384) = true)
    (w : ∀ K : Option Bool → Prop, (∀ t, gateK g.2 (WV (execE x.P (om x.P x.K) (mkM f) o.type o.op h) fun v h' => WO x ops rest (upd f k v) d h' Qo) (WO x ops rest (upd f k (.tup [])) d h Qo) t → K t) → K (asB (f dd))) : WO x ops (o :: rest) f d h Qo := by
  have w' := w _ fun _ x => x
  refine ⟨?_⟩
  show ∃ f' h', oneE x.P (om x.P x.K) ops o (x.fs f d) h (opsE x.P (om x.P x.K) ops rest) = .ok (x.fs f' d) h' ∧ Qo f' h'
  unfold oneE
  rw [hg]
  show ∃ f' h', (Option.rec (motive := fun _ => RF) .no (fun b => bif b then goE o.dst (x.fs f d) (opsE x.P (om x.P x.K) ops rest) (execE x.P (om x.P x.K) (mkM f) o.type o.op h) else putE o.dst (.tup []) (x.fs f d) h (opsE x.P (om x.P x.K) ops rest)) (wantE ops (mkM f) (some g)) : RF) = _ ∧ _
  rw [wantE_gate hj hk2]
  by_cases hw : asB (f dd) = some g.2
  · obtain ⟨v, h1, e, f', h', e', q⟩ := w'.1 hw
    refine ⟨f', h', ?_, q⟩
    rw [decide_eq_true hw]
    show goE o.dst (x.fs f d) (opsE x.P (om x.P x.K) ops rest) (execE x.P (om x.P x.K) (mkM f) o.type o.op h) = _
    rw [e]
    show putE o.dst v (x.fs f d) h1 (opsE x.P (om x.P x.K) ops rest) = _
    rw [putE_some_eq hd hk]; exact e'
  · obtain ⟨f', h', e', q⟩ := w'.2 hw
    refine ⟨f', h', ?_, q⟩
    rw [decide_eq_false hw]
    show putE o.dst (.tup []) (x.fs f d) h (opsE x.P (om x.P x.K) ops rest) = _
    rw [putE_some_eq hd hk]; exact e'
theorem WO_gate0 {g : Nat × Bool} (hg : o.guard = some g) {dd : Nat} (hj : (ops[g.1]?).bind (·.dst) = some dd) (hk2 : Nat.ble (Nat.succ dd) 384 = true) (hd : o.dst = none)
    (w : ∀ K : Option Bool → Prop, (∀ t, gateK g.2 (WV (execE x.P (om x.P x.K) (mkM f) o.type o.op h) fun _ h' => WO x ops rest f d h' Qo) (WO x ops rest f d h Qo) t → K t) → K (asB (f dd))) : WO x ops (o :: rest) f d h Qo := by
  have w' := w _ fun _ x => x
  refine ⟨?_⟩
  show ∃ f' h', oneE x.P (om x.P x.K) ops o (x.fs f d) h (opsE x.P (om x.P x.K) ops rest) = .ok (x.fs f' d) h' ∧ Qo f' h'
  unfold oneE
  rw [hg]
  show ∃ f' h', (Option.rec (motive := fun _ => RF) .no (fun b => bif b then goE o.dst (x.fs f d) (opsE x.P (om x.P x.K) ops rest) (execE x.P (om x.P x.K) (mkM f) o.type o.op h) else putE o.dst (.tup []) (x.fs f d) h (opsE x.P (om x.P x.K) ops rest)) (wantE ops (mkM f) (some g)) : RF) = _ ∧ _
  rw [wantE_gate hj hk2]
  by_cases hw : asB (f dd) = some g.2
  · obtain ⟨v, h1, e, f', h', e', q⟩ := w'.1 hw
    refine ⟨f', h', ?_, q⟩
    rw [decide_eq_true hw]
    show goE o.dst (x.fs f d) (opsE x.P (om x.P x.K) ops rest) (execE x.P (om x.P x.K) (mkM f) o.type o.op h) = _
    rw [e]
    show putE o.dst v (x.fs f d) h1 (opsE x.P (om x.P x.K) ops rest) = _
    rw [putE_none_eq hd]; exact e'
  · obtain ⟨f', h', e', q⟩ := w'.2 hw
    refine ⟨f', h', ?_, q⟩
    rw [decide_eq_false hw]
    show putE o.dst (.tup []) (x.fs f d) h (opsE x.P (om x.P x.K) ops rest) = _
    rw [putE_none_eq hd]; exact e'
end

/-! ### Regions whose order is drawn -/
structure WD (x : Cx) (ops : Array Oper) (l : List (Oper × Bar)) (f : TF) (d : List Pos) (h : H) (Q : TF → H → Prop) : Prop where
  out : ∃ f' h', opsD x.P (om x.P x.K) ops l (x.fs f d) h = .ok (x.fs f' d) h' ∧ Q f' h'
section
variable {x : Cx} {f : TF} {d : List Pos} {h : H} {Q : CQ} {ops : Array Oper} {o : Oper} {bar : Bar} {rest : List (Oper × Bar)} {Qo : TF → H → Prop}
theorem WC_drawn {id : Nat} {l : List (Oper × Bar)} (hd : drawn ops = some l) (w : WD x ops l f d h fun f h => Q .norm f d h) : WC x (.region id ops true) f d h Q := by
  obtain ⟨f', h', e, q⟩ := w
  refine ⟨.norm, f', d, h', ?_, q⟩
  show normE (match drawn ops with | some l => opsD x.P (om x.P x.K) ops l (x.fs f d) h | none => .no) = _
  rw [hd]
  dsimp only
  rw [e]; rfl
theorem WC_drawnB {id : Nat} (bars : List Bar) (hd : drawn ops = some (ops.toList.zip bars)) (w : WD x ops (ops.toList.zip bars) f d h fun f h => Q .norm f d h) : WC x (.region id ops true) f d h Q := WC_drawn hd w
theorem WD_nil (q : Qo f h) : WD x ops [] f d h Qo := ⟨f, h, rfl, q⟩

/-- The mark behind an operation of such a region. -/
theorem unmark_keep {tm : M AV} {op : Op} {h0 : H} {l l' : List AO} {w w' : Nat} {v : AV} (hw : h0.clock + l.length ≤ w') (hle : w ≤ h0.clock + l.length) :
    unmark bar tm op (X h0 l w) (.ok v (X h0 l' w')) = .ok v (X h0 l' w) := by
  show (bif Nat.ble (h0.clock + l.length) w' || barOk bar tm op then RV.ok v ⟨pushAll h0.objs h0.next h0.clock l', nxP h0.next l'.length, h0.clock + l'.length, bif Nat.ble w w' then w else w'⟩ else .no) = _
  rw [Nat.ble_eq_true_of_le hw, Nat.ble_eq_true_of_le (Nat.le_trans hle hw)]; rfl
theorem unmark_full {tm : M AV} {op : Op} {h0 : H} {l l' : List AO} {w w' : Nat} {v : AV} : unmark .full tm op (X h0 l w) (.ok v (X h0 l' w')) = .ok v (X h0 l' (min w w')) := by
  show (bif Nat.ble (h0.clock + l.length) w' || true then RV.ok v ⟨pushAll h0.objs h0.next h0.clock l', nxP h0.next l'.length, h0.clock + l'.length, bif Nat.ble w w' then w else w'⟩ else .no) = _
  rw [Bool.or_true]
  have e : (bif Nat.ble w w' then w else w') = min w w' := by
    cases hb : Nat.ble w w' with
    | true => have := Nat.le_of_ble_eq_true hb; simp only [cond]; omega
    | false => have : ¬ (w ≤ w') := fun hh => by rw [Nat.ble_eq_true_of_le hh] at hb; cases hb
               simp only [cond]; omega
  show RV.ok v _ = _
  rw [e]; rfl
theorem unmark_store {tm : M AV} {op : Op} {h0 : H} {l l' : List AO} {w w' : Nat} {v : AV} (hb : barOk bar tm op = true) :
    unmark bar tm op (X h0 l w) (.ok v (X h0 l' w')) = .ok v (X h0 l' (min w w')) := by
  show (bif Nat.ble (h0.clock + l.length) w' || barOk bar tm op then RV.ok v ⟨pushAll h0.objs h0.next h0.clock l', nxP h0.next l'.length, h0.clock + l'.length, bif Nat.ble w w' then w else w'⟩ else .no) = _
  rw [hb, Bool.or_true]
  have e : (bif Nat.ble w w' then w else w') = min w w' := by
    cases hb : Nat.ble w w' with
    | true => have := Nat.le_of_ble_eq_true hb; simp only [cond]; omega
    | false => have : ¬ (w ≤ w') := fun hh => by rw [Nat.ble_eq_true_of_le hh] at hb; cases hb
               simp only [cond]; omega
  show RV.ok v _ = _
  rw [e]; rfl

theorem WD_op (hg : o.guard = none) {k : Nat} (hd : o.dst = some k) (hk : (Nat.ble (Nat.succ k) x.n && Nat.ble (Nat.succ k) 384) = true)
    (w : WV (unmark bar (mkM f) o.op h (execE x.P (om x.P x.K) (mkM f) o.type o.op (marked h))) fun v h' => WD x ops rest (upd f k v) d h' Qo) : WD x ops ((o, bar) :: rest) f d h Qo := by
  obtain ⟨v, h1, e, f', h', e', q⟩ := w
  refine ⟨f', h', ?_, q⟩
  show oneD x.P (om x.P x.K) ops bar o (x.fs f d) h (opsD x.P (om x.P x.K) ops rest) = _
  unfold oneD
  rw [hg]
  show goE o.dst (x.fs f d) (opsD x.P (om x.P x.K) ops rest) (unmark bar (mkM f) o.op h (execE x.P (om x.P x.K) (mkM f) o.type o.op (marked h))) = _
  rw [e]
  show putE o.dst v (x.fs f d) h1 (opsD x.P (om x.P x.K) ops rest) = _
  rw [putE_some_eq hd hk]; exact e'
theorem WD_op0 (hg : o.guard = none) (hd : o.dst = none)
    (w : WV (unmark bar (mkM f) o.op h (execE x.P (om x.P x.K) (mkM f) o.type o.op (marked h))) fun _ h' => WD x ops rest f d h' Qo) : WD x ops ((o, bar) :: rest) f d h Qo := by
  obtain ⟨v, h1, e, f', h', e', q⟩ := w
  refine ⟨f', h', ?_, q⟩
  show oneD x.P (om x.P x.K) ops bar o (x.fs f d) h (opsD x.P (om x.P x.K) ops rest) = _
  unfold oneD
  rw [hg]
  show goE o.dst (x.fs f d) (opsD x.P (om x.P x.K) ops rest) (unmark bar (mkM f) o.op h (execE x.P (om x.P x.K) (mkM f) o.type o.op (marked h))) = _
  rw [e]
  show putE o.dst v (x.fs f d) h1 (opsD x.P (om x.P x.K) ops rest) = _
  rw [putE_none_eq hd]; exact e'
theorem WD_gate {g : Nat × Bool} (hg : o.guard = some g) {dd : Nat} (hj : (ops[g.1]?).bind (·.dst) = some dd) (hk2 : Nat.ble (Nat.succ dd) 384 = true) {k : Nat} (hd : o.dst = some k) (hk : (Nat.ble (Nat.succ k) x.n && Nat.ble (Nat.succ k) 384) = true)
    (w : ∀ K : Option Bool → Prop, (∀ t, gateK g.2 (WV (unmark bar (mkM f) o.op h (execE x.P (om x.P x.K) (mkM f) o.type o.op (marked h))) fun v h' => WD x ops rest (upd f k v) d h' Qo) (WD x ops rest (upd f k (.tup [])) d h Qo) t → K t) → K (asB (f dd))) : WD x ops ((o, bar) :: rest) f d h Qo := by
  have w' := w _ fun _ x => x
  refine ⟨?_⟩
  show ∃ f' h', oneD x.P (om x.P x.K) ops bar o (x.fs f d) h (opsD x.P (om x.P x.K) ops rest) = .ok (x.fs f' d) h' ∧ Qo f' h'
  unfold oneD
  rw [hg]
  show ∃ f' h', (match wantE ops (mkM f) (some g) with | some true => goE o.dst (x.fs f d) (opsD x.P (om x.P x.K) ops rest) (unmark bar (mkM f) o.op h (execE x.P (om x.P x.K) (mkM f) o.type o.op (marked h))) | some false => putE o.dst (.tup []) (x.fs f d) h (opsD x.P (om x.P x.K) ops rest) | none => .no) = _ ∧ _
  rw [wantE_gate hj hk2]
  by_cases hw : asB (f dd) = some g.2
  · obtain ⟨v, h1, e, f', h', e', q⟩ := w'.1 hw
    refine ⟨f', h', ?_, q⟩
    rw [decide_eq_true hw]
    show goE o.dst (x.fs f d) (opsD x.P (om x.P x.K) ops rest) (unmark bar (mkM f) o.op h (execE x.P (om x.P x.K) (mkM f) o.type o.op (marked h))) = _
    rw [e]
    show putE o.dst v (x.fs f d) h1 (opsD x.P (om x.P x.K) ops rest) = _
    rw [putE_some_eq hd hk]; exact e'
  · obtain ⟨f', h', e', q⟩ := w'.2 hw
    refine ⟨f', h', ?_, q⟩
    rw [decide_eq_false hw]
    show putE o.dst (.tup []) (x.fs f d) h (opsD x.P (om x.P x.K) ops rest) = _
    rw [putE_some_eq hd hk]; exact e'
end

/-! ### Loops -/
/-- A loop: what holds at the head of each round, and a measure. -/
def roundQ {α : Type} (S : α → TF → List Pos → H → Prop) (μ : α → Nat) (a : α) (Q : CQ) : CQ
  | .norm, f, d, h => ∃ a', μ a' < μ a ∧ S a' f d h
  | .exit id, f, d, h => Q (.exit id) f d h
  | .ret, f, d, h => Q .ret f d h
theorem WC_loop {x : Cx} {b : Code} {Q : CQ} {α : Type} (S : α → TF → List Pos → H → Prop) (μ : α → Nat)
    (step : ∀ a f d h, S a f d h → WC x b f d h (roundQ S μ a Q)) : ∀ (m : Nat) (a : α), μ a < m → ∀ {f : TF} {d : List Pos} {h : H}, S a f d h → WC x (.loop b) f d h Q
  | 0, _, hm, _, _, _, _ => absurd hm (Nat.not_lt_zero _)
  | m + 1, a, hm, f, d, h, hs => by
    obtain ⟨j, f', d', h', e, q⟩ := step a f d h hs
    have e1 : (om x.P x.K).code b (x.fs f d) h = .ok j (x.fs f' d') h' := codeS_om b e
    cases j with
    | norm =>
      obtain ⟨a', hlt, hs'⟩ := q
      obtain ⟨j2, f2, d2, h2, e2, q2⟩ := WC_loop (Q := Q) S μ step m a' (by omega) hs'
      refine ⟨j2, f2, d2, h2, ?_, q2⟩
      show (om x.P x.K).code (.loop b) (x.fs f d) h = _
      refine om_code_step (show thenE ((om x.P x.K).code (.loop b)) ((om x.P x.K).code b (x.fs f d) h) = _ from ?_)
      rw [e1]; exact e2
    | exit id =>
      refine ⟨.exit id, f', d', h', ?_, q⟩
      show (om x.P x.K).code (.loop b) (x.fs f d) h = _
      refine om_code_step (show thenE ((om x.P x.K).code (.loop b)) ((om x.P x.K).code b (x.fs f d) h) = _ from ?_)
      rw [e1]; rfl
    | ret =>
      refine ⟨.ret, f', d', h', ?_, q⟩
      show (om x.P x.K).code (.loop b) (x.fs f d) h = _
      refine om_code_step (show thenE ((om x.P x.K).code (.loop b)) ((om x.P x.K).code b (x.fs f d) h) = _ from ?_)
      rw [e1]; rfl
theorem roundQ_again {α : Type} {S : α → TF → List Pos → H → Prop} {μ : α → Nat} {a : α} {Q : CQ} {f : TF} {d : List Pos} {h : H} (a' : α) (hlt : μ a' < μ a) (hs : S a' f d h) : roundQ S μ a Q .norm f d h := ⟨a', hlt, hs⟩
theorem roundQ_exit {α : Type} {S : α → TF → List Pos → H → Prop} {μ : α → Nat} {a : α} {Q : CQ} {f : TF} {d : List Pos} {h : H} {id : Nat} (q : Q (.exit id) f d h) : roundQ S μ a Q (.exit id) f d h := q
theorem roundQ_ret {α : Type} {S : α → TF → List Pos → H → Prop} {μ : α → Nat} {a : α} {Q : CQ} {f : TF} {d : List Pos} {h : H} (q : Q .ret f d h) : roundQ S μ a Q .ret f d h := q

/-! ### Calls -/
/-- What is asked at a call's end: of the results, in the heap that is left. -/
def endQ (P : Program) (rs : List ResultVar) (h : H) (Q : AV → H → Prop) : CQ
  | .exit _, _, _, _ => False
  | .norm, f, d, h1 => ∃ h2 v, takeAll d h1 = some h2 ∧ retE P rs (mkM f) h2 = .ok v h2 ∧ WV (pureCall h (.ok v h2)) Q
  | .ret, f, d, h1 => ∃ h2 v, takeAll d h1 = some h2 ∧ retE P rs (mkM f) h2 = .ok v h2 ∧ WV (pureCall h (.ok v h2)) Q
theorem endQ_ret {P : Program} {rs : List ResultVar} {h : H} {Q : AV → H → Prop} {f : TF} {d : List Pos} {h1 : H} (h2 : H) (v : AV) (e1 : takeAll d h1 = some h2) (e2 : retE P rs (mkM f) h2 = .ok v h2) (w : WV (pureCall h (.ok v h2)) Q) : endQ P rs h Q .ret f d h1 := ⟨h2, v, e1, e2, w⟩
theorem endQ_norm {P : Program} {rs : List ResultVar} {h : H} {Q : AV → H → Prop} {f : TF} {d : List Pos} {h1 : H} (h2 : H) (v : AV) (e1 : takeAll d h1 = some h2) (e2 : retE P rs (mkM f) h2 = .ok v h2) (w : WV (pureCall h (.ok v h2)) Q) : endQ P rs h Q .norm f d h1 := ⟨h2, v, e1, e2, w⟩
theorem WV_flat {h : H} {v : AV} {l : List AO} {w : Nat} {Q : AV → H → Prop} (hf : flat v = true) (hw : h.clock ≤ w) (q : Q v h) : WV (pureCall h (.ok v (X h l w))) Q := WV_eq (pureCall_flat hw hf) q
theorem WV_ext {h : H} {v : AV} {l : List AO} {w : Nat} {Q : AV → H → Prop} (hc : (Nat.ble h.clock w && flat v) = false) (q : Q v (X h l (min h.w w))) : WV (pureCall h (.ok v (X h l w))) Q := WV_eq (pureCall_ext hc) q

def argF : TF → Nat → List AV → TF
  | f, _, [] => f
  | f, i, v :: vs => argF (upd f i v) (i + 1) vs
theorem fillM_args : ∀ (vs : List AV) (f : TF) (i : Nat), i + vs.length ≤ 384 → fillM (mkM f) i vs = some (mkM (argF f i vs))
  | [], _, _, _ => rfl
  | v :: vs, f, i, h => by
    simp only [List.length_cons] at h
    unfold fillM
    rw [set_mkM _ _ _ (by omega)]
    exact fillM_args vs _ (i + 1) (by omega)

theorem WV_call {P : Program} {K : List Con} {g : FuncId} {args : List AV} {h : H} {Q : AV → H → Prop} {fn : Func} {body : Code} {n : Nat} {rs : List ResultVar} (hfn : P.funcs[g]? = some fn) (hb : fn.body = some body) (hn : fn.ntmps = n) (hr : fn.results.toList = rs)
    (hl : (Nat.ble args.length n && Nat.ble n 384) = true) (hfree : noK K g = true) (w : WC ⟨P, K, g, n, none⟩ body (argF ini 0 args) [] (X h [] h.clock) (endQ P rs h Q)) : WV ((om P K).call (.fn g args) h) Q := by
  obtain ⟨j, f', d', h1, e, q⟩ := w
  have e1 := codeS_om body e
  subst hn hr
  have run : ∀ v h2, leaveE P fn.results.toList (.ok j (Cx.fs ⟨P, K, g, fn.ntmps, none⟩ f' d') h1) = .ok v h2 → callFnE P (om P K) g args (marked h) = .ok v h2 := fun v h2 hq => by
    unfold callFnE
    rw [hfn]
    dsimp only
    rw [hb]
    dsimp only
    rw [hl]
    dsimp only [cond]
    rw [Bool.and_eq_true] at hl
    have hl1 := Nat.le_of_ble_eq_true hl.1
    have hl2 := Nat.le_of_ble_eq_true hl.2
    rw [base_ini, fillM_args _ _ _ (by omega)]
    dsimp only
    rw [forceNat_eq, marked_eq]
    show leaveE P fn.results.toList ((om P K).code body (Cx.fs ⟨P, K, g, fn.ntmps, none⟩ (argF ini 0 args) []) (X h [] h.clock)) = _
    rw [e1]; exact hq
  have fin : (∃ h2 v, takeAll d' h1 = some h2 ∧ retE P fn.results.toList (mkM f') h2 = .ok v h2 ∧ WV (pureCall h (.ok v h2)) Q) → (∀ id, j ≠ .exit id) → WV ((om P K).call (.fn g args) h) Q := fun ⟨h2, v, t1, t2, v', h', t3, q⟩ hj => by
    refine ⟨v', h', om_call_step hfree ?_, q⟩
    show pureCall h (callFnE P (om P K) g args (marked h)) = _
    rw [run v h2 ?_]
    · exact t3
    · cases j with
      | exit id => exact absurd rfl (hj id)
      | norm =>
        show (match takeAll d' h1 with | some h => retE P fn.results.toList (mkM f') h | none => .no) = _
        rw [t1]; exact t2
      | ret =>
        show (match takeAll d' h1 with | some h => retE P fn.results.toList (mkM f') h | none => .no) = _
        rw [t1]; exact t2
  cases j with
  | exit id => exact (show False from q).elim
  | norm => exact fin q fun id e => by cases e
  | ret => exact fin q fun id e => by cases e

end Go.Ev
