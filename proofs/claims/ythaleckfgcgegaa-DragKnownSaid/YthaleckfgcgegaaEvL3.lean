/-
  CELLS OF A BLOCK AS A LIST.
-/
import Derived.Test.YthaleckfgcgegaaEvL2
import Derived.Test.YthaleckfgcgegaaEvS6
import Derived.Test.YthaleckfgcgegaaEvS8
namespace Go.Ev

theorem rowsGo_eq : ∀ (cs : List AV) (k : Nat) (row : List AV), row.length + k = 8 → ∀ i,
    M.get (List.rec (motive := fun _ => Nat → List AV → M AV) (fun _ row => [row.reverse]) (fun v _ ih k row => Nat.rec (motive := fun _ => M AV) (row.reverse :: ih 7 [v]) (fun j _ => ih j (v :: row)) k) cs k row) i = (row.reverse ++ cs)[i]?
  | [], k, row, h, i => by
    show M.get [row.reverse] i = _
    rw [M.get_eq, List.append_nil]
    by_cases hi : i / 8 = 0
    · rw [hi]
      show row.reverse[i % 8]? = _
      rw [show i % 8 = i from by omega]
    · rw [List.getElem?_eq_none (by simp; omega), List.getElem?_eq_none (by simp; omega)]; rfl
  | v :: vs, 0, row, h, i => by
    show M.get (row.reverse :: List.rec (motive := fun _ => Nat → List AV → M AV) (fun _ row => [row.reverse]) (fun v _ ih k row => Nat.rec (motive := fun _ => M AV) (row.reverse :: ih 7 [v]) (fun j _ => ih j (v :: row)) k) vs 7 [v]) i = _
    have ih := rowsGo_eq vs 7 [v] rfl
    rw [M.get_eq]
    by_cases hi : i / 8 = 0
    · rw [hi]
      show row.reverse[i % 8]? = _
      rw [List.getElem?_append_left (by simp; omega), show i % 8 = i from by omega]
    · obtain ⟨m, hm⟩ : ∃ m, i / 8 = m + 1 := ⟨i / 8 - 1, by omega⟩
      rw [hm, List.getElem?_cons_succ]
      have := ih (i - 8)
      rw [M.get_eq, show (i - 8) / 8 = m from by omega, show (i - 8) % 8 = i % 8 from by omega] at this
      rw [this, List.getElem?_append_right (l₁ := row.reverse) (by simp; omega)]
      simp only [List.length_reverse]
      rw [show row.length = 8 from by omega]; rfl
  | v :: vs, k + 1, row, h, i => by
    have := rowsGo_eq vs k (v :: row) (by simp; omega) i
    refine Eq.trans this ?_
    rw [List.reverse_cons, List.append_assoc]; rfl

theorem mkCells_eq (cs : List AV) (i : Nat) : (mkCells cs).get i = cs[i]? := by
  have gen : ∀ cs : List AV, (rowsOf cs).get i = cs[i]? := fun cs => rowsGo_eq cs 8 [] rfl i
  match cs with
  | [] => exact gen []
  | [v] =>
    show M.get [[v]] i = _
    rw [M.get_eq]
    by_cases hi : i = 0
    · subst hi; rfl
    · rw [List.getElem?_eq_none (l := [v]) (by simp; omega)]
      by_cases h8 : i / 8 = 0
      · rw [h8]
        show [v][i % 8]? = none
        rw [List.getElem?_eq_none (by simp; omega)]
      · rw [List.getElem?_eq_none (by simp; omega)]; rfl
  | a :: b :: l => exact gen (a :: b :: l)

noncomputable abbrev rowsGo (cs : List AV) (k : Nat) (row : List AV) : M AV := List.rec (motive := fun _ => Nat → List AV → M AV) (fun _ row => [row.reverse]) (fun v _ ih k row => Nat.rec (motive := fun _ => M AV) (row.reverse :: ih 7 [v]) (fun j _ => ih j (v :: row)) k) cs k row

theorem M.set_eq {α : Type} (m : M α) (k : Nat) (a : α) {row : List α} (h1 : m[k / 8]? = some row) (h2 : k % 8 < row.length) : m.set k a = some (List.set m (k / 8) (row.set (k % 8) a)) := by
  unfold M.set
  rw [lget_eq]
  change (match m[k / 8]? with | some row => (match lset a row (k % 8) with | some row => lset row m (k / 8) | none => none) | none => none) = _
  rw [h1]
  dsimp only
  rw [lset_eq, if_pos h2]
  dsimp only
  rw [lset_eq, if_pos (by obtain ⟨h, _⟩ := List.getElem?_eq_some_iff.1 h1; exact h)]

theorem M.set_cons {α : Type} (r : List α) (m m' : M α) (k : Nat) (a : α) (h : M.set m k a = some m') : M.set (r :: m) (k + 8) a = some (r :: m') := by
  have hk : ∃ row, m[k / 8]? = some row ∧ k % 8 < row.length := by
    obtain ⟨_, _, b, hb⟩ := M.set_some h
    rw [M.get_eq] at hb
    cases hr : m[k / 8]? with
    | none => rw [hr] at hb; cases hb
    | some row =>
      rw [hr] at hb
      have hb' : row[k % 8]? = some b := hb
      exact ⟨row, rfl, (List.getElem?_eq_some_iff.1 hb').1⟩
  obtain ⟨row, h1, h2⟩ := hk
  rw [M.set_eq m k a h1 h2] at h
  cases h
  have e1 : (k + 8) / 8 = k / 8 + 1 := by omega
  have e2 : (k + 8) % 8 = k % 8 := by omega
  rw [M.set_eq (r :: m) (k + 8) a (row := row) (by rw [e1, List.getElem?_cons_succ]; exact h1) (by rw [e2]; exact h2), e1, e2]
  rfl

/-- The row at the head, with one of its cells set. -/
theorem rowsGo_row (a : AV) : ∀ (cs : List AV) (k : Nat) (row row' : List AV) (i : Nat), row.length + k = 8 → i < row.length → row'.reverse = row.reverse.set i a → M.set (rowsGo cs k row) i a = some (rowsGo cs k row')
  | [], k, row, row', i, h, hi, e => by
    have h8 : i / 8 = 0 := by omega
    have h9 : i % 8 = i := by omega
    show M.set [row.reverse] i a = some [row'.reverse]
    rw [M.set_eq [row.reverse] i a (row := row.reverse) (by rw [h8]; rfl) (by simp; omega), h8, h9, e]
    rfl
  | v :: vs, 0, row, row', i, h, hi, e => by
    have h8 : i / 8 = 0 := by omega
    have h9 : i % 8 = i := by omega
    show M.set (row.reverse :: rowsGo vs 7 [v]) i a = some (row'.reverse :: rowsGo vs 7 [v])
    rw [M.set_eq (row.reverse :: rowsGo vs 7 [v]) i a (row := row.reverse) (by rw [h8]; rfl) (by simp; omega), h8, h9, e]
    rfl
  | v :: vs, k + 1, row, row', i, h, hi, e => by
    refine rowsGo_row a vs k (v :: row) (v :: row') i (by simp; omega) (by simp; omega) ?_
    rw [List.reverse_cons, List.reverse_cons, e, List.set_append_left _ _ (by simpa using hi)]

theorem rowsGo_set (a : AV) : ∀ (cs : List AV) (k : Nat) (row : List AV) (i : Nat), row.length + k = 8 → i < cs.length → M.set (rowsGo cs k row) (row.length + i) a = some (rowsGo (cs.set i a) k row)
  | [], k, row, i, h, hi => absurd hi (Nat.not_lt_zero i)
  | v :: vs, 0, row, 0, h, _ => by
    have hr : row.length = 8 := by omega
    show M.set (row.reverse :: rowsGo vs 7 [v]) (row.length + 0) a = some (row.reverse :: rowsGo vs 7 [a])
    rw [hr]
    exact M.set_cons _ _ _ 0 a (rowsGo_row a vs 7 [v] [a] 0 rfl (by simp) rfl)
  | v :: vs, 0, row, i + 1, h, hi => by
    have hr : row.length = 8 := by omega
    show M.set (row.reverse :: rowsGo vs 7 [v]) (row.length + (i + 1)) a = some (row.reverse :: rowsGo (vs.set i a) 7 [v])
    have := M.set_cons row.reverse _ _ _ a (rowsGo_set a vs 7 [v] i rfl (by simpa using hi))
    rw [show row.length + (i + 1) = [v].length + i + 8 from by simp; omega]
    exact this
  | v :: vs, k + 1, row, 0, h, _ => by
    show M.set (rowsGo vs k (v :: row)) (row.length + 0) a = some (rowsGo vs k (a :: row))
    refine rowsGo_row a vs k (v :: row) (a :: row) row.length (by simp; omega) (by simp) ?_
    rw [List.reverse_cons, List.reverse_cons, List.set_append_right _ _ (by simp)]
    simp
  | v :: vs, k + 1, row, i + 1, h, hi => by
    show M.set (rowsGo vs k (v :: row)) (row.length + (i + 1)) a = some (rowsGo (vs.set i a) k (v :: row))
    have := rowsGo_set a vs k (v :: row) i (by simp; omega) (by simpa using hi)
    rw [show row.length + (i + 1) = (v :: row).length + i from by simp; omega]
    exact this

theorem mkCells_set (cs : List AV) (i : Nat) (a : AV) (hi : i < cs.length) : (mkCells cs).set i a = some (mkCells (cs.set i a)) := by
  have gen : ∀ cs : List AV, i < cs.length → M.set (rowsOf cs) i a = some (rowsOf (cs.set i a)) := fun cs hi => by
    have := rowsGo_set a cs 8 [] i rfl hi
    rw [show ([] : List AV).length + i = i from by simp] at this
    exact this
  match cs, hi with
  | [], hi => exact absurd hi (Nat.not_lt_zero i)
  | [v], hi =>
    have : i = 0 := by simpa using hi
    subst this
    rfl
  | x :: b :: l, hi =>
    have e : ∀ l' : List AV, l'.length = (x :: b :: l).length → mkCells l' = rowsOf l' := fun l' hl => by
      match l', hl with
      | y :: z :: m, _ => rfl
    rw [e (x :: b :: l) rfl, e ((x :: b :: l).set i a) (by simp)]
    exact gen _ hi

/-- So many cells are other ones. -/
def splice (cs : List AV) (off : Nat) (vs : List AV) : List AV := cs.take off ++ vs ++ cs.drop (off + vs.length)
theorem splice_length {cs vs : List AV} {off : Nat} (h : off + vs.length ≤ cs.length) : (splice cs off vs).length = cs.length := by
  unfold splice; simp; omega
theorem splice_nil (cs : List AV) (off : Nat) : splice cs off [] = cs := by unfold splice; simp
theorem splice_cons {cs vs : List AV} {off : Nat} {v : AV} (h : off < cs.length) : splice (cs.set off v) (off + 1) vs = splice cs off (v :: vs) := by
  unfold splice
  have e1 : List.take (off + 1) (cs.set off v) = List.take off cs ++ [v] := by
    rw [List.take_add_one, List.getElem?_set_self h, List.take_set_of_le (Nat.le_refl off)]; rfl
  rw [e1, List.drop_set_of_lt (by omega), List.append_assoc, List.append_assoc, List.append_assoc]
  simp only [List.length_cons, List.singleton_append, List.cons_append, List.nil_append]
  rw [show off + 1 + vs.length = off + (vs.length + 1) from by omega]

theorem fillM_cells : ∀ (vs cs : List AV) (off : Nat), off + vs.length ≤ cs.length → fillM (mkCells cs) off vs = some (mkCells (splice cs off vs))
  | [], cs, off, _ => by rw [splice_nil]; rfl
  | v :: vs, cs, off, h => by
    simp only [List.length_cons] at h
    unfold fillM
    rw [mkCells_set cs off v (by omega)]
    dsimp only
    rw [fillM_cells vs (cs.set off v) (off + 1) (by simp; omega), splice_cons (by omega)]

theorem readM_cells (cs : List AV) : ∀ (n off : Nat), off + n ≤ cs.length → readM (mkCells cs).get n off = some ((cs.drop off).take n)
  | 0, off, _ => by simp [readM]
  | n + 1, off, h => by
    unfold readM
    rw [mkCells_eq, List.getElem?_eq_getElem (by omega)]
    dsimp only
    rw [readM_cells cs n (off + 1) (by omega), List.drop_eq_getElem_cons (i := off) (by omega)]
    rfl

end Go.Ev
