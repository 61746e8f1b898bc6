/-
  A START: some of the world's blocks of cells are known.
-/
import Derived.Test.YthaleckfgcgegaaEvS19
import Derived.Test.YthaleckfgcgegaaEvO3
import Derived.Test.YthaleckfgcgegaaEvL2
namespace Go.Ev
open Go.RowKit

theorem posN_val : ∀ n, (posN n).val = n
  | 0 => rfl
  | n + 1 => by show (posN n).succ.val = n + 1; rw [Pos.val_succ, posN_val n]
theorem val_posN (p : Pos) : posN p.val = p := Pos.val_inj (posN_val _)

noncomputable def startT (D : Nat → Option (Nat → Option AV)) : Nat → T (Nat × AO)
  | 0 => .nil
  | k + 1 => T.set (0, (D k).elim .dead .ro) (posN k) (startT D k)
noncomputable def startG (D : Nat → Option (Nat → Option AV)) (N : Nat) : H := ⟨startT D N, posN N, 1, 1⟩

theorem startT_get (D : Nat → Option (Nat → Option AV)) (id : Pos) : ∀ N, T.get id (startT D N) = if id.val < N then some (0, (D id.val).elim .dead .ro) else none
  | 0 => by rw [if_neg (Nat.not_lt_zero _)]; exact T.get_nil id
  | N + 1 => by
    show T.get id (T.set _ (posN N) (startT D N)) = _
    by_cases he : id = posN N
    · subst he; rw [T.get_set_same, posN_val, if_pos (Nat.lt_succ_self N)]
    · rw [T.get_set_ne _ _ _ _ he, startT_get D id N]
      have hne : id.val ≠ N := fun e => he (by rw [← e, val_posN])
      by_cases hl : id.val < N
      · rw [if_pos hl, if_pos (by omega)]
      · rw [if_neg hl, if_neg (by omega)]

theorem startG_wf (D : Nat → Option (Nat → Option AV)) (N : Nat) : Wf (startG D N) where
  fresh := fun k => by
    show T.get (nxP (posN N) k) (startT D N) = none
    rw [startT_get, if_neg (by rw [nxP_val, posN_val]; omega)]
  old := fun id born o hid => by
    have h' : T.get id (startT D N) = some (born, o) := hid
    rw [startT_get] at h'
    split at h'
    · cases h'; exact Nat.zero_lt_one
    · cases h'
  wle := Nat.le_refl _

theorem startG_getObj {D : Nat → Option (Nat → Option AV)} {N b : Nat} {m : Nat → Option AV} (hb : b < N) (hd : D b = some m) : getObj (posN b) (startG D N) = some (.ro m) := by
  rw [getObj_eq]
  show Option.map (·.2) (T.get (posN b) (startT D N)) = _
  rw [startT_get, posN_val, if_pos hb, hd]; rfl

def cellsSize (W : World) (b : Nat) : Nat := match W.heap[b]? with
  | some (.cells c _ _) => c.size
  | _ => 0

open Classical in
noncomputable def startGR (D : Nat → Option (Nat → Option AV)) (N : Nat) (W : World) : R := fun id => if id.val < N then (D id.val).elim (some none) (fun _ => some (some (id.val, cellsSize W id.val))) else none

/-- What is known of blocks is so. -/
def Known (D : Nat → Option (Nat → Option AV)) (N : Nat) (W : World) : Prop := ∀ b m, D b = some m → b < N ∧ ∃ c e f, W.heap[b]? = some (.cells c e f) ∧ RowsF (startGR D N W) m c

theorem startG_hr {D : Nat → Option (Nat → Option AV)} {N : Nat} {W : World} (hN : 64 ≤ N) (h : Known D N W) : HR (startGR D N W) (startG D N) W ∧ GR (startGR D N W) ∧ ∀ b, ¬ Wr (startGR D N W) (startG D N) b := by
  have key : ∀ id x, startGR D N W id = some x → (id.val < N ∧ D id.val = none ∧ x = none) ∨ (∃ m, id.val < N ∧ D id.val = some m ∧ x = some (id.val, cellsSize W id.val)) := fun id x hx => by
    unfold startGR at hx
    split at hx
    · rename_i hl
      cases hd : D id.val with
      | none => rw [hd] at hx; cases hx; exact .inl ⟨hl, rfl, rfl⟩
      | some m => rw [hd] at hx; cases hx; exact .inr ⟨m, hl, rfl, rfl⟩
    · cases hx
  have obj : ∀ id, id.val < N → T.get id (startG D N).objs = some (0, (D id.val).elim .dead .ro) := fun id hl => by
    show T.get id (startT D N) = _
    rw [startT_get, if_pos hl]
  refine ⟨⟨?_, ?_, ?_, ?_⟩, ?_, ?_⟩
  · intro id b n hid
    rcases key id _ hid with ⟨_, _, hx⟩ | ⟨m, hl, hd, hx⟩
    · cases hx
    · cases hx
      obtain ⟨_, c, e, f, hb, hc⟩ := h _ _ hd
      refine ⟨0, .ro m, .cells c e f, by rw [obj id hl, hd]; rfl, hb, ?_⟩
      have hs : cellsSize W id.val = c.size := by unfold cellsSize; rw [hb]
      rw [hs]
      exact .ro m e c f hc
  · intro i j b n n' hi hj
    rcases key i _ hi with ⟨_, _, hx⟩ | ⟨_, _, _, hx⟩
    · cases hx
    · rcases key j _ hj with ⟨_, _, hy⟩ | ⟨_, _, _, hy⟩
      · cases hy
      · have e1 := congrArg Prod.fst (Option.some.inj hx)
        have e2 := congrArg Prod.fst (Option.some.inj hy)
        exact Pos.val_inj (e1.symm.trans e2)
  · intro id hid
    rcases key id _ hid with ⟨hl, hd, _⟩ | ⟨_, _, _, hx⟩
    · exact ⟨0, by rw [obj id hl, hd]; rfl⟩
    · cases hx
  · intro id born o hid
    exact (startG_wf D N).old id born o hid
  · intro g hg
    have hl : (posN g).val < N := by rw [posN_val]; omega
    unfold startGR
    rw [if_pos hl]
    cases hd : D (posN g).val with
    | none => exact ⟨none, rfl, fun b n e => by cases e⟩
    | some m => exact ⟨_, rfl, fun b n e => by cases e; rw [posN_val]⟩
  · rintro b ⟨id, n, hid, hro⟩
    rcases key id _ hid with ⟨_, _, hx⟩ | ⟨m, hl, hd, hx⟩
    · cases hx
    · exact hro ⟨0, m, by rw [obj id hl, hd]; rfl⟩

theorem startG_calls {P : Program} {g : FuncId} {D : Nat → Option (Nat → Option AV)} {N : Nat} {args : List AV} {v : AV} {h' : H} (ok : TgtOK P (.fn g args) (startG D N) v h') {W : World} (hN : 64 ≤ N) (hW : Known D N W)
    {args' : Array Value} (ha : VL (startGR D N W) args args'.toList) : Calls P g args' W fun e w' => (∃ ρ v', e = .returned v' ∧ VR ρ v v' ∧ HR ρ h' w') ∧ Grown W w' ∧ ∀ b, b < W.heap.size → w'.heap[b]? = W.heap[b]? := by
  obtain ⟨hr, hg, hwr⟩ := startG_hr hN hW
  intro frames
  obtain ⟨ρ', v', w', fr, a1, a2, a3, a4, a5, a6⟩ := ok (startGR D N W) args' W hg hr ha frames
  refine ⟨.returned v', w', fr, ⟨⟨ρ', v', rfl, a1, a2⟩, ⟨⟨a3.os, a3.out, fun i hi => ?_⟩, a3.frz, a3.size⟩, fun b hb => a3.frame b hb (hwr b)⟩, a4, a5, a6⟩
  have := a3.frame i hi (hwr i)
  rw [this]
  have hsome : W.heap[i]? = some W.heap[i] := by simp [hi]
  rw [hsome]
  cases W.heap[i] with
  | cells c t fr => exact ⟨rfl, rfl, rfl, fun _ _ => rfl⟩
  | map es clock => exact .inr ⟨rfl, rfl⟩
  | _ => rfl

/-- Nothing is known. -/
noncomputable def startN : H := startG (fun _ => none) 64

/-- ████ A RUN WITH CONTRACTS, OF NO MEMORY THAT IS KNOWN, THAT ANSWERS true ████ -/
theorem startn_true {P : Program} (hm : P.follows .mixedOrders = true) {cons : List Con} (hc : ∀ c ∈ cons, ConOK P c) {n : Nat} {g : FuncId} {args : List AV} (he : (match (evc P cons n).call (.fn g args) startN with | .ok (.bool true) _ => true | _ => false) = true)
    {W : World} {args' : Array Value} (ha : VL (startGR (fun _ => none) 64 W) args args'.toList) : Calls P g args' W fun e w' => e = .returned (.bool true) ∧ Grown W w' := by
  split at he
  · rename_i h' hh
    refine (startG_calls ((evc_ok hm hc n).2 _ _ _ _ hh) (Nat.le_refl 64) (fun b m e => by cases e) ha).mono fun e w' ⟨⟨ρ, v', h1, h2, _⟩, h3, _⟩ => ⟨?_, h3⟩
    cases h2
    exact h1
  · cases he

end Go.Ev
