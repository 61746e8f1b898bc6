/-
  THE EVALUATOR'S SOUNDNESS, 19: from a run to what the model's program does, whatever the memory holds behind the tables that are known.
-/
import Derived.Test.YthaleckfgcgegaaEvS18
import Derived.RowKit3
namespace Go.Ev
open Go.RowKit

/-- Memory at the start: block 0 is a table that is known, the other variables are not. -/
noncomputable def deads (n : Nat) : T (Nat × AO) := Nat.rec .nil (fun k t => T.set (0, .dead) (posN k) t) n
noncomputable def startH (cs : List AV) : H := { objs := T.set (0, .ro (M.get (mkCells cs))) (posN 0) (deads 64), next := posN 64, clock := 1, w := 1 }

theorem deads_get : ∀ (n : Nat) (id : Pos) (p : Nat × AO), T.get id (deads n) = some p → p = (0, .dead)
  | 0, id, p, h => by rw [show deads 0 = T.nil from rfl, T.get_nil] at h; cases h
  | n + 1, id, p, h => by
    have e : deads (n + 1) = T.set (0, .dead) (posN n) (deads n) := rfl
    rw [e] at h
    by_cases he : id = posN n
    · subst he; rw [T.get_set_same] at h; cases h; rfl
    · rw [T.get_set_ne _ _ _ _ he] at h; exact deads_get n id p h

theorem deads_has : ∀ (n k : Nat), k < n → T.get (posN k) (deads n) = some (0, .dead)
  | 0, k, h => absurd h (Nat.not_lt_zero k)
  | n + 1, k, h => by
    have e : deads (n + 1) = T.set (0, .dead) (posN n) (deads n) := rfl
    rw [e]
    by_cases he : posN k = posN n
    · rw [he, T.get_set_same]
    · rw [T.get_set_ne _ _ _ _ he]
      have hne : k ≠ n := fun e => he (by rw [e])
      exact deads_has n k (by omega)

theorem start_get {cs : List AV} {id : Pos} {p : Nat × AO} (h : T.get id (startH cs).objs = some p) : (id = posN 0 ∧ p = (0, .ro (M.get (mkCells cs)))) ∨ (id ≠ posN 0 ∧ p = (0, .dead)) := by
  have e : (startH cs).objs = T.set (0, .ro (M.get (mkCells cs))) (posN 0) (deads 64) := rfl
  rw [e] at h
  by_cases he : id = posN 0
  · subst he; rw [T.get_set_same] at h; cases h; exact .inl ⟨rfl, rfl⟩
  · rw [T.get_set_ne _ _ _ _ he] at h; exact .inr ⟨he, deads_get 64 id p h⟩

theorem start_zero {cs : List AV} : T.get (posN 0) (startH cs).objs = some (0, .ro (M.get (mkCells cs))) := by
  have e : (startH cs).objs = T.set (0, .ro (M.get (mkCells cs))) (posN 0) (deads 64) := rfl
  rw [e, T.get_set_same]

open Classical in
noncomputable def startR (cs : List AV) (n : Nat) : R := fun id => if id = posN 0 then some (some (0, n)) else if Has (startH cs) id then some none else none

/-- The known table lies in block 0. -/
def Table (cs : List AV) (W : World) : Prop := ∃ (c : Array Value) (e : TypeId) (f : Nat × Nat), W.heap[0]? = some (.cells c e f) ∧ ∀ (i : Nat) (v : AV), cs[i]? = some v → ∃ v' : Value, c[i]? = some v' ∧ VR (fun _ => none) v v'

theorem le_none (ρ : R) : R.le (fun _ => none) ρ := fun _ _ h => by cases h

theorem start_hr {cs : List AV} {W : World} (h : Table cs W) : ∃ n : Nat, HR (startR cs n) (startH cs) W ∧ GR (startR cs n) ∧ ∀ b, ¬ Wr (startR cs n) (startH cs) b := by
  obtain ⟨c, e, f, h1, h2⟩ := h
  have has0 : Has (startH cs) (posN 0) := ⟨_, start_zero⟩
  refine ⟨c.size, ⟨?_, ?_, ?_, ?_⟩, ?_, ?_⟩
  · intro id b n hid
    unfold startR at hid
    by_cases he : id = posN 0
    · rw [if_pos he] at hid
      cases hid
      subst he
      exact ⟨0, _, _, start_zero, h1, .ro (M.get (mkCells cs)) e c f fun i v hv => by
        obtain ⟨v', g1, g2⟩ := h2 i v (mkCells_get hv)
        exact ⟨v', g1, g2.up (le_none _)⟩⟩
    · rw [if_neg he] at hid
      split at hid <;> cases hid
  · intro i j b n n' hi hj
    unfold startR at hi hj
    by_cases ei : i = posN 0
    · by_cases ej : j = posN 0
      · rw [ei, ej]
      · rw [if_neg ej] at hj; split at hj <;> cases hj
    · rw [if_neg ei] at hi; split at hi <;> cases hi
  · intro id hid
    unfold startR at hid
    by_cases he : id = posN 0
    · rw [if_pos he] at hid; cases hid
    · rw [if_neg he] at hid
      split at hid
      · rename_i hh
        obtain ⟨p, hp⟩ := hh
        rcases start_get hp with ⟨g, _⟩ | ⟨_, g⟩
        · exact absurd g he
        · subst g; exact ⟨0, hp⟩
      · cases hid
  · intro id born o hg
    rcases start_get hg with ⟨_, g⟩ | ⟨_, g⟩ <;> cases g <;> exact Nat.zero_lt_one
  · intro g hg
    unfold startR
    by_cases he : posN g = posN 0
    · rw [if_pos he]
      refine ⟨_, rfl, fun b n e => ?_⟩
      cases e
      rcases Nat.eq_zero_or_pos g with h0 | h0
      · exact h0.symm
      · exfalso
        obtain ⟨k, rfl⟩ : ∃ k, g = k + 1 := ⟨g - 1, by omega⟩
        have key : ∀ p : Pos, p.succ ≠ posN 0 := fun p => by cases p <;> intro e <;> cases e
        exact key _ he
    · rw [if_neg he]
      have hh : Has (startH cs) (posN g) := by
        have e : (startH cs).objs = T.set (0, .ro (M.get (mkCells cs))) (posN 0) (deads 64) := rfl
        exact ⟨(0, .dead), by rw [e, T.get_set_ne _ _ _ _ he]; exact deads_has 64 g (by omega)⟩
      rw [if_pos hh]
      exact ⟨none, rfl, fun b n e => by cases e⟩
  · rintro b ⟨id, n, hid, hro⟩
    unfold startR at hid
    by_cases he : id = posN 0
    · subst he
      exact hro ⟨0, _, start_zero⟩
    · rw [if_neg he] at hid
      split at hid <;> cases hid

theorem start_calls {P : Program} {g : FuncId} {cs args : List AV} {v : AV} {h' : H} (ok : TgtOK P (.fn g args) (startH cs) v h') {W : World} (hW : Table cs W)
    {args' : Array Value} (ha : VL (fun _ => none) args args'.toList) : Calls P g args' W fun e w' => (∃ ρ v', e = .returned v' ∧ VR ρ v v' ∧ HR ρ h' w') ∧ Grown W w' := by
  obtain ⟨k, hr, hg, hwr⟩ := start_hr hW
  intro frames
  obtain ⟨ρ', v', w', fr, a1, a2, a3, a4, a5, a6⟩ := ok (startR cs k) args' W hg hr (ha.up (le_none _)) frames
  refine ⟨.returned v', w', fr, ⟨⟨ρ', v', rfl, a1, a2⟩, ⟨a3.os, a3.out, fun i hi => ?_⟩, a3.frz, a3.size⟩, a4, a5, a6⟩
  have := a3.frame i hi (hwr i)
  rw [this]
  have hsome : W.heap[i]? = some W.heap[i] := by simp [hi]
  rw [hsome]
  cases W.heap[i] with
  | cells c t fr => exact ⟨rfl, rfl, rfl, fun _ _ => rfl⟩
  | map es clock => exact .inr ⟨rfl, rfl⟩
  | _ => rfl

/-- ████ A RUN THAT ANSWERS true ████ -/
theorem start_true {P : Program} (hm : P.follows .mixedOrders = true) {n : Nat} {g : FuncId} {cs args : List AV} (he : (match (ev P n).call (.fn g args) (startH cs) with | .ok (.bool true) _ => true | _ => false) = true) {W : World} (hW : Table cs W)
    {args' : Array Value} (ha : VL (fun _ => none) args args'.toList) : Calls P g args' W fun e w' => e = .returned (.bool true) ∧ Grown W w' := by
  split at he
  · rename_i h' hh
    refine (start_calls ((ev_ok hm n).2 _ _ _ _ hh) hW ha).mono fun e w' ⟨⟨ρ, v', h1, h2, _⟩, h3⟩ => ⟨?_, h3⟩
    cases h2
    exact h1
  · cases he

end Go.Ev
