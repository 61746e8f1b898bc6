/-
  THE EVALUATOR'S SOUNDNESS, 2: memory.
-/
import Derived.Test.YthaleckfgcgegaaEvS1
namespace Go.Ev

def RowsF (ρ : R) (m : Nat → Option AV) (c : Array Value) : Prop := ∀ i v, m i = some v → ∃ v', c[i]? = some v' ∧ VR ρ v v'
abbrev RowsR (ρ : R) (m : M AV) (c : Array Value) : Prop := RowsF ρ m.get c

def TR (ρ : R) (n : Nat) (tm : M AV) (tmps : Array Value) : Prop := tmps.size = n ∧ ∀ i v, tm.get i = some v → VR ρ v (tmps.getD i undef)

inductive ER (ρ : R) : List (Value × AV × Nat) → List MapEntry → Prop
  | nil : ER ρ [] []
  | cons (k : Value) (v : AV) (born : Nat) (v' : Value) (es : List (Value × AV × Nat)) (es' : List MapEntry) : VR ρ v v' → ER ρ es es' → ER ρ ((k, v, born) :: es) ({ key := k, val := v', born := born } :: es')

inductive OR (ρ : R) : Nat → AO → Obj → Prop
  | cells (m : M AV) (e : TypeId) (c : Array Value) : RowsR ρ m c → OR ρ c.size (.cells m e) (.cells c e (0, 0))
  | ro (m : Nat → Option AV) (e : TypeId) (c : Array Value) (f : Nat × Nat) : RowsF ρ m c → OR ρ c.size (.ro m) (.cells c e f)
  | map (es : List (Value × AV × Nat)) (clock : Nat) (es' : Array MapEntry) : ER ρ es es'.toList → OR ρ 0 (.map es clock) (.map es' clock)
  | loop (st : LoopState) (pend : J) (fn n : Nat) (tm : M AV) (tmps : Array Value) (params : Array Tmp) (assign body : Code) (d : Pos) (db : Nat) (x : Option (Nat × Nat)) : TR ρ n tm tmps → ρ d = some x → (∀ c k, x = some (c, k) → c = db) →
      OR ρ 0 (.loop st pend fn n tm params assign body d) (.loop { state := st, pending := pend.code, fn := fn, tmps := tmps, params := params, assign := assign, body := body, defers := db })
  | dfr : OR ρ 0 .dfr (.deferred (some []))
  | taken : OR ρ 0 .taken (.deferred none)

theorem RowsF.up {ρ ρ' : R} (h : R.le ρ ρ') {m : Nat → Option AV} {c : Array Value} (r : RowsF ρ m c) : RowsF ρ' m c := fun i v hv => let ⟨v', a, b⟩ := r i v hv; ⟨v', a, b.up h⟩
theorem TR.up {ρ ρ' : R} (h : R.le ρ ρ') {n : Nat} {m : M AV} {c : Array Value} (r : TR ρ n m c) : TR ρ' n m c := ⟨r.1, fun i v hv => (r.2 i v hv).up h⟩
theorem ER.up {ρ ρ' : R} (h : R.le ρ ρ') {es : List (Value × AV × Nat)} {es' : List MapEntry} (r : ER ρ es es') : ER ρ' es es' := by
  induction r with
  | nil => exact .nil
  | cons k v born v' es es' hv _ ih => exact .cons k v born v' es es' (hv.up h) ih
theorem OR.up {ρ ρ' : R} (h : R.le ρ ρ') {n : Nat} {o : AO} {o' : Obj} (r : OR ρ n o o') : OR ρ' n o o' := by
  cases r with
  | cells m e c hc => exact .cells m e c (hc.up h)
  | ro m e c f hc => exact .ro m e c f (hc.up h)
  | map es clock es' he => exact .map es clock es' (he.up h)
  | loop st pend fn n tm tmps params assign body d db x ht hd hx =>
    obtain ⟨y, hy, hq⟩ := up1 (p := fun c _ => c = db) h hd hx
    exact .loop st pend fn n tm tmps params assign body d db y (ht.up h) hy hq
  | dfr => exact .dfr
  | taken => exact .taken

structure HR (ρ : R) (h : H) (w : World) : Prop where
  live : ∀ id b n, ρ id = some (some (b, n)) → ∃ born o o', T.get id h.objs = some (born, o) ∧ w.heap[b]? = some o' ∧ OR ρ n o o'
  inj : ∀ id id' b n n', ρ id = some (some (b, n)) → ρ id' = some (some (b, n')) → id = id'
  dead : ∀ id, ρ id = some none → ∃ born, T.get id h.objs = some (born, .dead)
  old : ∀ id born o, T.get id h.objs = some (born, o) → born < h.clock

/-- A block that may be written. -/
def Wr (ρ : R) (h : H) (b : Nat) : Prop := ∃ id n, ρ id = some (some (b, n)) ∧ ¬ ∃ born m, T.get id h.objs = some (born, .ro m)

structure Ext (ρ : R) (h : H) (w : World) (ρ' : R) (h' : H) (w' : World) : Prop where
  le : R.le ρ ρ'
  newd : ∀ id, ρ id = none → ρ' id = none ∨ T.get id h.objs = none
  rng : ∀ id b n, ρ' id = some (some (b, n)) → w.heap.size ≤ b ∨ ∃ id0 n0, ρ id0 = some (some (b, n0))
  wr : ∀ b, b < w.heap.size → Wr ρ' h' b → Wr ρ h b
  frame : ∀ b, b < w.heap.size → ¬ Wr ρ h b → w'.heap[b]? = w.heap[b]?
  size : w.heap.size ≤ w'.heap.size
  frz : ∀ a, w'.frozen? a = w.frozen? a
  os : w'.os = w.os
  out : w'.output = w.output
  clk : h.clock ≤ h'.clock
  keep : ∀ id born o, T.get id h.objs = some (born, o) → (∃ o', T.get id h'.objs = some (born, o')) ∧ (born < h'.w → T.get id h'.objs = some (born, o))
  wle : h'.w ≤ h.w

theorem Ext.refl {ρ : R} {h : H} {w : World} : Ext ρ h w ρ h w where
  le := R.le_refl ρ
  newd := fun _ e => .inl e
  rng := fun id _ n e => .inr ⟨id, n, e⟩
  wr := fun _ _ e => e
  frame := fun _ _ _ => rfl
  size := Nat.le_refl _
  frz := fun _ => rfl
  os := rfl
  out := rfl
  clk := Nat.le_refl _
  keep := fun _ _ o e => ⟨⟨o, e⟩, fun _ => e⟩
  wle := Nat.le_refl _

theorem Ext.trans {ρ1 ρ2 ρ3 : R} {h1 h2 h3 : H} {w1 w2 w3 : World} (a : Ext ρ1 h1 w1 ρ2 h2 w2) (b : Ext ρ2 h2 w2 ρ3 h3 w3) : Ext ρ1 h1 w1 ρ3 h3 w3 where
  le := R.le_trans a.le b.le
  newd := fun id e => by
    rcases a.newd id e with h | h
    · rcases b.newd id h with k | k
      · exact .inl k
      · refine .inr ?_
        cases hg : T.get id h1.objs with
        | none => rfl
        | some x =>
          obtain ⟨born, o⟩ := x
          obtain ⟨⟨o', ho'⟩, _⟩ := a.keep id born o hg
          rw [ho'] at k
          cases k
    · exact .inr h
  rng := fun id n k e => by
    rcases b.rng id n k e with h | ⟨id0, n0, h⟩
    · exact .inl (Nat.le_trans a.size h)
    · exact a.rng id0 n n0 h
  wr := fun x hx e => a.wr x hx (b.wr x (Nat.lt_of_lt_of_le hx a.size) e)
  frame := fun x hx e => (b.frame x (Nat.lt_of_lt_of_le hx a.size) (fun k => e (a.wr x hx k))).trans (a.frame x hx e)
  size := Nat.le_trans a.size b.size
  frz := fun x => (b.frz x).trans (a.frz x)
  os := b.os.trans a.os
  out := b.out.trans a.out
  clk := Nat.le_trans a.clk b.clk
  keep := fun id born o e => by
    obtain ⟨⟨o', ho'⟩, hk⟩ := a.keep id born o e
    obtain ⟨⟨o2, ho2⟩, _⟩ := b.keep id born o' ho'
    refine ⟨⟨o2, ho2⟩, fun hb => ?_⟩
    have h2 := hk (Nat.lt_of_lt_of_le hb b.wle)
    exact (b.keep id born o h2).2 hb
  wle := Nat.le_trans b.wle a.wle

/-- What a world's change of no block does. -/
theorem Ext.world {ρ : R} {h : H} {w w' : World} (hh : w'.heap = w.heap) (ho : w'.os = w.os) (hu : w'.output = w.output) : Ext ρ h w ρ h w' :=
  { Ext.refl (ρ := ρ) (h := h) (w := w) with
    frame := fun b _ _ => by rw [hh]
    size := by rw [hh]; exact Nat.le_refl _
    frz := fun a => by unfold World.frozen?; rw [hh]
    os := ho
    out := hu }
theorem HR.world {ρ : R} {h : H} {w w' : World} (hr : HR ρ h w) (hh : w'.heap = w.heap) : HR ρ h w' :=
  { hr with live := fun id b n e => by rw [hh]; exact hr.live id b n e }

theorem HR.fresh {ρ : R} {h : H} {w : World} (hr : HR ρ h w) {id : Pos} (hn : T.get id h.objs = none) : ρ id = none := by
  cases e : ρ id with
  | none => rfl
  | some x => cases x with
    | none => obtain ⟨_, k⟩ := hr.dead id e; rw [hn] at k; cases k
    | some bn => obtain ⟨_, _, _, k, _⟩ := hr.live id bn.1 bn.2 e; rw [hn] at k; cases k

theorem newObj_some {o : AO} {h h' : H} {id : Pos} (e : newObj o h = some (id, h')) :
    id = h.next ∧ T.get h.next h.objs = none ∧ h' = ⟨h.objs.set (h.clock, o) h.next, h.next.succ, Nat.succ h.clock, h.w⟩ := by
  obtain ⟨objs, next, clock, w⟩ := h
  have e' : (Option.rec (motive := fun _ => Option (Pos × H)) (some (next, ⟨objs.set (clock, o) next, next.succ, Nat.succ clock, w⟩)) (fun _ => none) (objs.get next)) = some (id, h') := e
  cases hg : T.get next objs with
  | none => rw [hg] at e'; cases e'; exact ⟨rfl, rfl, rfl⟩
  | some x => rw [hg] at e'; cases e'

theorem setObj_some {o : AO} {h h' : H} {id : Pos} (e : setObj id o h = some h') :
    ∃ born o0, T.get id h.objs = some (born, o0) ∧ h' = ⟨h.objs.set (born, o) id, h.next, h.clock, bif Nat.ble born h.w then born else h.w⟩ := by
  obtain ⟨objs, next, clock, w⟩ := h
  have e' : (Option.rec (motive := fun _ => Option H) none (fun bo : Nat × AO => Prod.rec (motive := fun _ => Option H) (fun born _ => some ⟨objs.set (born, o) id, next, clock, bif Nat.ble born w then born else w⟩) bo) (objs.get id)) = some h' := e
  cases hg : T.get id objs with
  | none => rw [hg] at e'; cases e'
  | some x => obtain ⟨born, o0⟩ := x; rw [hg] at e'; cases e'; exact ⟨born, o0, rfl, rfl⟩

theorem getObj_some {h : H} {id : Pos} {o : AO} (e : getObj id h = some o) : ∃ born, T.get id h.objs = some (born, o) := by
  have e' : (Option.rec (motive := fun _ => Option AO) none (fun bo : Nat × AO => some bo.2) (h.objs.get id)) = some o := e
  cases hg : T.get id h.objs with
  | none => rw [hg] at e'; cases e'
  | some x => obtain ⟨born, o0⟩ := x; rw [hg] at e'; cases e'; exact ⟨born, rfl⟩

def R.new (ρ : R) (id : Pos) (x : Option (Nat × Nat)) : R := fun j => if j = id then some x else ρ j

theorem R.le_new {ρ : R} {id : Pos} {x : Option (Nat × Nat)} (h : ρ id = none) : R.le ρ (ρ.new id x) := fun j y hy => by
  unfold R.new
  by_cases e : j = id
  · subst e; rw [h] at hy; cases hy
  · rw [if_neg e]; exact .inl hy

/-- A new block. -/
theorem HR.newObj {ρ : R} {h h' : H} {w : World} (hr : HR ρ h w) {o : AO} {id : Pos} (e : newObj o h = some (id, h')) {o' : Obj} {n : Nat} (ho : OR ρ n o o')
    (hf : ∀ i, (⟨#[o'], w.tape, w.drawn, w.os, w.output⟩ : World).frozen? ⟨0, i, none⟩ = false) :
    ρ id = none ∧ HR (ρ.new id (some (w.heap.size, n))) h' { w with heap := w.heap.push o' } ∧ Ext ρ h w (ρ.new id (some (w.heap.size, n))) h' { w with heap := w.heap.push o' } := by
  obtain ⟨rfl, hg, rfl⟩ := newObj_some e
  have hn := hr.fresh hg
  have hle : R.le ρ (ρ.new h.next (some (w.heap.size, n))) := R.le_new hn
  have hlt : ∀ id b k, ρ id = some (some (b, k)) → b < w.heap.size := fun id b k e => by
    obtain ⟨_, _, o', _, hb, _⟩ := hr.live id b k e
    exact (Array.getElem?_eq_some_iff.1 hb).1
  refine ⟨hn, ⟨?_, ?_, ?_, ?_⟩, ?_⟩
  · intro j b k hj
    unfold R.new at hj
    by_cases ej : j = h.next
    · subst ej
      rw [if_pos rfl] at hj
      cases hj
      exact ⟨h.clock, o, o', T.get_set_same _ _ _, by simp, ho.up hle⟩
    · rw [if_neg ej] at hj
      obtain ⟨born, p, p', h1, h2, h3⟩ := hr.live j b k hj
      refine ⟨born, p, p', (T.get_set_ne _ _ _ _ ej).trans h1, ?_, h3.up hle⟩
      have := hlt j b k hj
      simp [Array.getElem?_push, Nat.ne_of_lt this, h2]
  · intro i j b k k' hi hj
    unfold R.new at hi hj
    by_cases ei : i = h.next
    · by_cases ej : j = h.next
      · rw [ei, ej]
      · rw [if_pos ei] at hi; rw [if_neg ej] at hj; cases hi
        exact absurd (hlt _ _ _ hj) (Nat.lt_irrefl _)
    · by_cases ej : j = h.next
      · rw [if_neg ei] at hi; rw [if_pos ej] at hj; cases hj
        exact absurd (hlt _ _ _ hi) (Nat.lt_irrefl _)
      · rw [if_neg ei] at hi; rw [if_neg ej] at hj
        exact hr.inj i j b k k' hi hj
  · intro j hj
    unfold R.new at hj
    by_cases ej : j = h.next
    · rw [if_pos ej] at hj; cases hj
    · rw [if_neg ej] at hj
      obtain ⟨born, hb⟩ := hr.dead j hj
      exact ⟨born, (T.get_set_ne _ _ _ _ ej).trans hb⟩
  · intro j born p hj
    show born < Nat.succ h.clock
    by_cases ej : j = h.next
    · subst ej; rw [T.get_set_same] at hj; cases hj; exact Nat.lt_succ_self _
    · rw [T.get_set_ne _ _ _ _ ej] at hj; exact Nat.lt_succ_of_lt (hr.old j born p hj)
  · refine { le := hle, newd := ?_, rng := ?_, wr := ?_, frame := ?_, size := ?_, frz := ?_, os := rfl, out := rfl, clk := Nat.le_succ _, keep := ?_, wle := Nat.le_refl _ }
    · intro j hj
      by_cases ej : j = h.next
      · subst ej; exact .inr hg
      · exact .inl (by unfold R.new; rw [if_neg ej]; exact hj)
    · intro j b k hj
      unfold R.new at hj
      by_cases ej : j = h.next
      · rw [if_pos ej] at hj; cases hj; exact .inl (Nat.le_refl _)
      · rw [if_neg ej] at hj; exact .inr ⟨j, k, hj⟩
    · rintro b hb ⟨j, k, hj, hro⟩
      unfold R.new at hj
      by_cases ej : j = h.next
      · rw [if_pos ej] at hj; cases hj; exact absurd hb (Nat.lt_irrefl _)
      · rw [if_neg ej] at hj
        exact ⟨j, k, hj, fun ⟨born, m, hm⟩ => hro ⟨born, m, (T.get_set_ne _ _ _ _ ej).trans hm⟩⟩
    · intro b hb _
      simp [Array.getElem?_push, Nat.ne_of_lt hb]
    · simp
    · intro a
      show (match (w.heap.push o')[a.block]? with | some (.cells _ _ (lo, hi)) => decide (lo ≤ a.off) && decide (a.off < hi) | _ => false) = (match w.heap[a.block]? with | some (.cells _ _ (lo, hi)) => decide (lo ≤ a.off) && decide (a.off < hi) | _ => false)
      by_cases ea : a.block = w.heap.size
      · have h1 : (w.heap.push o')[a.block]? = some o' := by rw [ea]; simp
        have h2 : w.heap[a.block]? = none := by rw [ea]; simp
        rw [h1, h2]
        exact hf a.off
      · have h1 : (w.heap.push o')[a.block]? = w.heap[a.block]? := by rw [Array.getElem?_push, if_neg ea]
        rw [h1]
    · intro j born p hj
      have hne : j ≠ h.next := fun e => by rw [e, hg] at hj; cases hj
      exact ⟨⟨p, (T.get_set_ne _ _ _ _ hne).trans hj⟩, fun _ => (T.get_set_ne _ _ _ _ hne).trans hj⟩

/-- A block is written. -/
theorem HR.setObj {ρ : R} {h h' : H} {w w' : World} (hr : HR ρ h w) {o o0 : AO} {id : Pos} {b n born : Nat} (e : setObj id o h = some h') (hid : ρ id = some (some (b, n)))
    (h0 : T.get id h.objs = some (born, o0)) (hro0 : ∀ m, o0 ≠ .ro m) {o' : Obj} (ho : OR ρ n o o')
    (hs : w'.heap.size = w.heap.size) (hb : w'.heap[b]? = some o') (hne : ∀ j, j ≠ b → w'.heap[j]? = w.heap[j]?) (hos : w'.os = w.os) (hout : w'.output = w.output)
    (hf : ∀ a, w'.frozen? a = w.frozen? a) :
    HR ρ h' w' ∧ Ext ρ h w ρ h' w' := by
  obtain ⟨born', o0', hg, rfl⟩ := setObj_some e
  rw [h0] at hg
  cases hg
  have hW : Wr ρ h b := ⟨id, n, hid, fun ⟨_, m, hm⟩ => by rw [h0] at hm; cases hm; exact hro0 m rfl⟩
  refine ⟨⟨?_, hr.inj, ?_, ?_⟩, ?_⟩
  · intro j c k hj
    by_cases ej : j = id
    · subst ej
      rw [hid] at hj
      cases hj
      exact ⟨born, o, o', T.get_set_same _ _ _, hb, ho⟩
    · obtain ⟨bj, p, p', h1, h2, h3⟩ := hr.live j c k hj
      refine ⟨bj, p, p', (T.get_set_ne _ _ _ _ ej).trans h1, ?_, h3⟩
      rw [hne c (fun ec => ej (hr.inj j id b k n (ec ▸ hj) hid))]
      exact h2
  · intro j hj
    by_cases ej : j = id
    · subst ej; rw [hid] at hj; cases hj
    · obtain ⟨bj, h1⟩ := hr.dead j hj
      exact ⟨bj, (T.get_set_ne _ _ _ _ ej).trans h1⟩
  · intro j bj p hj
    by_cases ej : j = id
    · subst ej; rw [T.get_set_same] at hj; cases hj; exact hr.old _ _ _ h0
    · rw [T.get_set_ne _ _ _ _ ej] at hj; exact hr.old j bj p hj
  · refine { Ext.refl (ρ := ρ) (h := h) (w := w) with wr := ?_, frame := ?_, size := Nat.le_of_eq hs.symm, frz := hf, os := hos, out := hout, clk := Nat.le_refl _, keep := ?_, wle := ?_ }
    · rintro c _ ⟨j, k, hj, hro⟩
      by_cases ej : j = id
      · subst ej; rw [hid] at hj; cases hj; exact hW
      · exact ⟨j, k, hj, fun ⟨bj, m, hm⟩ => hro ⟨bj, m, (T.get_set_ne _ _ _ _ ej).trans hm⟩⟩
    · intro c _ hc
      exact hne c (fun ec => hc (ec ▸ hW))
    · intro j bj p hj
      by_cases ej : j = id
      · subst ej
        rw [h0] at hj
        cases hj
        refine ⟨⟨o, T.get_set_same _ _ _⟩, fun hlt => ?_⟩
        exfalso
        revert hlt
        show ¬ born < (bif Nat.ble born h.w then born else h.w)
        by_cases hle : born ≤ h.w
        · rw [Nat.ble_eq_true_of_le hle]; exact Nat.lt_irrefl _
        · have : Nat.ble born h.w = false := by
            cases hb : Nat.ble born h.w with
            | false => rfl
            | true => exact absurd (Nat.le_of_ble_eq_true hb) hle
          rw [this]
          show ¬ born < h.w
          omega
      · exact ⟨⟨p, (T.get_set_ne _ _ _ _ ej).trans hj⟩, fun _ => (T.get_set_ne _ _ _ _ ej).trans hj⟩
    · show (bif Nat.ble born h.w then born else h.w) ≤ h.w
      cases hb : Nat.ble born h.w with
      | false => exact Nat.le_refl _
      | true => exact Nat.le_of_ble_eq_true hb

end Go.Ev
