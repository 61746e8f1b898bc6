import Derived.Test.YtghondkiondeaabM3
import Derived.Test.YtghondkiondeaabChecked
import Derived.KernelRfl
/- EvL11 -/
section
/-
  COPIES; rows that are slices, or empty at no block.
-/
namespace Go.Ev
section
variable {P : Program}
theorem readM_of {m : Nat → Option AV} : ∀ {n off : Nat} {cs : List AV}, cs.length = n → (∀ k, k < n → m (off + k) = cs[k]?) → readM m n off = some cs
  | 0, _, cs, hl, _ => by rw [List.eq_nil_of_length_eq_zero hl]; rfl
  | n + 1, off, [], hl, _ => by cases hl
  | n + 1, off, c :: cs, hl, h => by
    unfold readM
    have h0 := h 0 (by omega)
    rw [Nat.add_zero] at h0
    rw [h0]
    have ih := readM_of (m := m) (n := n) (off := off + 1) (cs := cs) (by simpa using hl) (fun k hk => by
      have := h (k + 1) (by omega)
      rw [show off + 1 + k = off + (k + 1) from by omega]
      simpa using this)
    simp only [List.getElem?_cons_zero]
    rw [show Nat.succ off = off + 1 from rfl, ih]
/-- What is copied out of a slice. -/
theorem Sl.src {h : H} {a : AV} {m len : Nat} {cells : List AV} (s : Sl h a m len cells) (hc : Capd a) {t e : TypeId} (hu : P.underlying t = some (.slice e)) (hz : sizeE P e = some m) : srcCells h m (reszT P t a) = some (len, cells) := by
  obtain ⟨hl, ⟨rfl, rfl⟩ | ⟨id, off, cap, esz, o, cs, rfl, hg, hcs, hx⟩⟩ := s
  · rw [reszT_nils, List.eq_nil_of_length_eq_zero (by omega : cells.length = 0)]; rfl
  · cases cap with
    | none => exact absurd rfl (hc.1 _ _ _ _)
    | some c =>
      rw [reszT_some hu hz]
      exact src_sl hg hcs (readM_of hl hx) rfl
theorem sliceE_arr {t e : TypeId} {n size : Nat} {id : Pos} {off : Nat} (hu : P.underlying t = some (.array n e)) (hz : sizeE P e = some size) : sliceE P t (.ptr id off) none none none = some (.sl id off n (some n) size) := by
  unfold sliceE
  rw [hu]
  dsimp only
  rw [hz]
  show sliceOf id off size (bif Nat.ble n n && Nat.ble 0 n then some (0, n, some n) else none) = _
  rw [show (Nat.ble n n && Nat.ble 0 n) = true from by rw [Nat.ble_eq_true_of_le (Nat.le_refl n), Nat.ble_eq_true_of_le (Nat.zero_le n)]; rfl]
  show some (AV.sl id (bif Nat.beq n 0 then off else off + 0 * size) (n - 0) (some (n - 0)) size) = _
  rw [Nat.zero_mul, Nat.add_zero, Nat.sub_zero]
  cases Nat.beq n 0 <;> rfl
theorem reszT_ptr {t : TypeId} {id : Pos} {off : Nat} : reszT P t (.ptr id off) = .ptr id off := by
  unfold reszT
  cases P.underlying t with
  | none => rfl
  | some d => cases d with
    | slice elem =>
      dsimp only
      cases sizeE P elem <;> rfl
    | _ => rfl
theorem copyE_X {h0 : H} (wf : Wf h0) {t e ee : TypeId} {size n len off esz k w : Nat} {cap : Option Nat} {x : AV} {cs old : List AV} {l : List AO} (hu : P.underlying t = some (.slice e)) (hz : sizeE P e = some size)
    (hs : srcCells (X h0 l w) size x = some (n, cs)) (hn : n ≠ 0) (hl : n ≤ len) (hc : cs.length = n * size) (hk : l[k]? = some (.cells (mkCells old) ee)) (ho : off + cs.length ≤ old.length) (h1 : allOne cs = true) :
    copyE P t (.sl (nx h0 k) off len cap esz) x (X h0 l w) = .ok (.int .i64 (n : Int)) (X h0 (l.set k (.cells (mkCells (splice old off cs)) ee)) (min (h0.clock + k) w)) := by
  unfold copyE
  rw [hu]
  dsimp only
  rw [hz]
  dsimp only
  rw [hs]
  dsimp only
  rw [forceNat_eq, Nat.ble_eq_true_of_le hl]
  dsimp only [cond]
  rw [show Nat.beq n 0 = false from by rw [beq_dec]; exact decide_eq_false hn]
  dsimp only
  rw [List.take_of_length_le (by omega), writeCells_new wf hk ho h1]
  rfl
theorem allOne_map {α : Type} {f : α → AV} (hf : ∀ a, oneB (f a) = true) : ∀ l : List α, allOne (l.map f) = true
  | [] => rfl
  | a :: l => by rw [List.map_cons, allOne_cons, hf a]; exact allOne_map hf l

theorem storeAll_many {id : Pos} {off : Nat} {cs : List AV} {h : H} (hl : 2 ≤ cs.length) : storeAll id off cs h = writeCells id off cs h := by
  match cs, hl with
  | a :: b :: l, _ => rfl
/-- A whole block of many cells is stored over another one. -/
theorem storeE_whole {h0 : H} (wf : Wf h0) {t ee n k w : Nat} {cs old : List AV} {l : List AO} (hz : sizeE P t = some n) (hn : 2 ≤ n) (hc : cs.length = n) (hold : old.length = n) (hk : l[k]? = some (.cells (mkCells old) ee)) (h1 : allOne cs = true) :
    storeE P t (.ptr (nx h0 k) 0) (.agg cs) (X h0 l w) = some (X h0 (l.set k (.cells (mkCells cs) ee)) (min (h0.clock + k) w)) := by
  rw [storeE_ptr, hz, storeCs_some, cells_agg, beq_dec, decide_eq_true hc]
  dsimp only [cond]
  rw [storeAll_many (by omega), writeCells_new wf hk (by omega) h1, splice_all (by omega)]
theorem loadE_whole {h0 : H} (wf : Wf h0) {t ee n k w : Nat} {cs : List AV} {l : List AO} (ha : isAggB P t = some true) (hz : sizeE P t = some n) (hn : 0 < n) (hc : cs.length = n) (hk : l[k]? = some (.cells (mkCells cs) ee)) :
    loadE P t (.ptr (nx h0 k) 0) (X h0 l w) = some (.agg cs) := by
  rw [loadE_ptr, ha]
  dsimp only [cond]
  rw [hz, loadAgg_new wf hk (by omega), List.drop_zero, List.take_of_length_le (by omega)]

/-- A call in a drawn region, by its contract. -/
theorem WV_unmarkc {tm : M AV} {op : Op} {h0 : H} {l l' : List AO} {w w' : Nat} {r : RV} {v : AV} {Q : AV → H → Prop} (e : r = .ok v (X h0 l' w')) (q : Q v (X h0 l' (min w w'))) : WV (unmark .full tm op (X h0 l w) r) Q := by
  rw [e, unmark_full]; exact WV_ok q

/-- A row: a slice, or an empty one at no block. -/
def Row (h : H) (v : AV) (m len : Nat) (cells : List AV) : Prop := Sl h v m len cells ∨ (len = 0 ∧ cells = [] ∧ ∃ id off esz, v = .sl id off 0 (some 0) esz)
theorem Row.up {h : H} (wf : Wf h) {v : AV} {m len : Nat} {cells : List AV} (s : Row h v m len cells) (l : List AO) (w : Nat) : Row (X h l w) v m len cells := by
  rcases s with s | s
  · exact .inl (s.up wf l w)
  · exact .inr s
theorem Row.len {h h' : H} {v : AV} {m len : Nat} {cells : List AV} (s : Row h v m len cells) {t e : TypeId} (hu : P.underlying t = some (.slice e)) : lenE P t v h' = some (.int .i64 (len : Int)) := by
  rcases s with s | ⟨rfl, rfl, id, off, esz, rfl⟩
  · exact s.len hu
  · unfold lenE; rw [hu]; rfl
theorem Row.sl {h : H} {v : AV} {m len : Nat} {cells : List AV} (s : Row h v m len cells) (h0 : len ≠ 0) : Sl h v m len cells := by
  rcases s with s | s
  · exact s
  · exact absurd s.1 h0
theorem Row.flat {h : H} {v : AV} {m len : Nat} {cells : List AV} (s : Row h v m len cells) : AV.cells v = [v] ∧ oneB v = true := by
  rcases s with ⟨_, ⟨rfl, _⟩ | ⟨_, _, _, _, _, _, rfl, _⟩⟩ | ⟨_, _, _, _, _, rfl⟩ <;> exact ⟨rfl, rfl⟩
end
end Go.Ev
end

/- EvS24 -/
section
/-
  ARGUMENTS OPENED: slices of slices, of numbers, of ranges.
-/
namespace Go.Ev
open Go.ChangeShapes Go.WideShapes Go.ChangeAt Go.RowKit Go.Deep
section
variable {H : Type} {enc : TypeId × Value → H} {P : Program} {r : Reach} {bs : Nat}

theorem cell_block' {W : World} {a : Addr} {v : Value} (h : W.cell? a = some v) : a.spot = none ∧ ∃ c e f, W.heap[a.block]? = some (.cells c e f) ∧ c[a.off]? = some v := by
  unfold World.cell? at h
  split at h
  · rename_i c e f hb
    split at h
    · cases h
    · rename_i hs
      refine ⟨?_, c, e, f, hb, h⟩
      cases hsp : a.spot with
      | none => rfl
      | some x => rw [hsp] at hs; exact absurd rfl hs
  · cases h

theorem absV_nils {N : Nat} : absV N (.slice none 0 0) = some .nils := rfl
theorem absV_some {N : Nat} {a : Addr} {len cap : Nat} (hb : a.block < N) (hs : a.spot = none) (hl : len ≤ cap) : absV N (.slice (some a) len cap) = some (.sl (posN a.block) a.off len (some cap) 0) := by
  show (if a.block < N ∧ a.spot = none ∧ len ≤ cap then some _ else _) = _
  rw [if_pos ⟨hb, hs, hl⟩]
theorem absV_zero {N : Nat} {a : Addr} : ∃ id off, absV N (.slice (some a) 0 0) = some (.sl id off 0 (some 0) 0) := by
  show ∃ id off, (if a.block < N ∧ a.spot = none ∧ 0 ≤ 0 then some (AV.sl (posN a.block) a.off 0 (some 0) 0) else if 0 = 0 ∧ 0 = 0 then some (.sl (posN (N - 1)) 0 0 (some 0) 0) else none) = _
  split
  · exact ⟨_, _, rfl⟩
  · rw [if_pos ⟨rfl, rfl⟩]; exact ⟨_, _, rfl⟩

/-- A slice's row, read out of a cell: of elements of m cells. -/
theorem row_open {W : World} {a : Addr} {len cap m : Nat} {cells : List AV} (hm : 0 < m) (hlc : len ≤ cap) (hl : cells.length = len * m) (h0 : 0 < cap → ∃ v, W.cell? a = some v)
    (hk : ∀ k, k < len * m → ∃ v, W.cell? ⟨a.block, a.off + k, none⟩ = some v ∧ absV (NW W) v = cells[k]?) :
    ∃ v, absV (NW W) (.slice (some a) len cap) = some v ∧ Row (startW W) v m len cells ∧ Capd v := by
  rcases Nat.eq_zero_or_pos cap with hc | hc
  · subst hc
    have : len = 0 := by omega
    subst this
    obtain ⟨id, off, e⟩ := absV_zero (N := NW W) (a := a)
    exact ⟨_, e, .inr ⟨rfl, List.eq_nil_of_length_eq_zero (by omega), _, _, _, rfl⟩, capd_sl (Nat.le_refl 0)⟩
  · obtain ⟨v, hv⟩ := h0 hc
    obtain ⟨hs, c, e, f, hb, _⟩ := cell_block' hv
    have hlt : a.block < W.heap.size := (Array.getElem?_eq_some_iff.1 hb).1
    exact ⟨_, absV_some (Nat.lt_trans hlt (NW_gt W)) hs hlc, .inl (startW_sl ⟨c, e, f, hb⟩ hl hk), capd_sl hlc⟩

theorem add_block (a : Addr) (n : Nat) (h : a.spot = none) : a.add n = ⟨a.block, a.off + n, none⟩ := by
  obtain ⟨b, off, s⟩ := a
  dsimp only at h
  subst h
  exact add_at b off n

/-- A row of numbers. -/
theorem open_row_ints {W : World} {t e : TypeId} {v : Value} {fuel : Nat} {x : DataW H × List MemPlace} (hu : P.underlying t = some (.slice e)) (he : P.underlying e = some (.int .i64)) (hc : P.cellsOf e = 1)
    (h : DataW.trod enc P W 0 (fun _ => true) true fuel t [v] = some x) : ∃ (xs : List Int) (b : AV), absV (NW W) v = some b ∧ Capd b ∧ Row (startW W) b 1 xs.length (xs.map fun n => .int .i64 n) := by
  rcases open_ints hu he hc h with ⟨h0, _⟩ | ⟨a, len, cap, zs, h0, _, hlc, _, hz, _, hcell, _⟩
  · cases h0
    exact ⟨[], .nils, absV_nils, capd_nils, .inl (Sl.nil _ _)⟩
  · cases h0
    simp only [if_true] at hz
    have hlen : (zs.take len).length = len := by rw [List.length_take]; omega
    have h0 : 0 < cap → ∃ v, W.cell? a = some v := fun hc => ⟨_, by have := hcell 0 (by omega); exact this⟩
    obtain ⟨b, e1, e2, e3⟩ := row_open (W := W) (a := a) (len := len) (cap := cap) (m := 1) (cells := (zs.take len).map fun n => .int .i64 n) (by decide) hlc (by rw [List.length_map, hlen]; omega) h0 (fun k hk => by
      have hcap : 0 < cap := by omega
      obtain ⟨v0, hv0⟩ := h0 hcap
      have hs := (cell_block' hv0).1
      refine ⟨.int .i64 (zs.getD k 0), ?_, ?_⟩
      · rw [← add_block a k hs]; exact hcell k (by omega)
      · rw [absV_i64, List.getElem?_map, List.getElem?_take_of_lt (by omega), List.getElem?_eq_getElem (by omega)]
        simp [show k < zs.length by omega])
    refine ⟨zs.take len, b, e1, e3, ?_⟩
    rw [hlen]; exact e2

/-- A row of pairs. -/
theorem open_row_pairs {W : World} {t e f : TypeId} {v : Value} {fuel : Nat} {f0 f1 : Field} {x : DataW H × List MemPlace} (hu : P.underlying t = some (.slice e)) (he : P.underlying e = some (.struct #[f0, f1])) (ce : P.cellsOf e = 2) (o0 : f0.offset = 0) (o1 : f1.offset = 1) (t0 : f0.type = f) (t1 : f1.type = f)
    (hf : P.underlying f = some (.int .i64)) (cf : P.cellsOf f = 1) (h : DataW.trod enc P W 0 (fun _ => true) true fuel t [v] = some x) :
    ∃ (sp : List (Int × Int)) (b : AV), absV (NW W) v = some b ∧ Capd b ∧ Row (startW W) b 2 sp.length (pairCells sp) := by
  rcases open_slice_pairs hu he ce o0 o1 (by rw [t0]; exact cf) (by rw [t1]; exact cf) h with ⟨h0, _⟩ | ⟨a, len, cap, m, n, V0, V1, D0, D1, P0, P1, h0, _, hlc, _, hm, _, hcell⟩
  · cases h0
    exact ⟨[], .nils, absV_nils, capd_nils, .inl (Sl.nil _ _)⟩
  · cases h0
    simp only [if_true] at hm
    rw [hm] at hcell
    have num : ∀ i, i < cap → ∃ p : Int × Int, V0 i = .int .i64 p.1 ∧ V1 i = .int .i64 p.2 := fun i hi => by
      obtain ⟨_, _, g0, g1⟩ := hcell i hi
      rw [t0] at g0
      rw [t1] at g1
      obtain ⟨n0, e0, _⟩ := DataW.trod_int hf g0
      obtain ⟨n1, e1, _⟩ := DataW.trod_int hf g1
      cases e0' : V0 i with
      | int k n => rw [e0'] at e0; cases e0; cases e1' : V1 i with
        | int k n => rw [e1'] at e1; cases e1; exact ⟨(n0, n1), rfl, rfl⟩
        | _ => rw [e1'] at e1; cases e1
      | _ => rw [e0'] at e0; cases e0
    obtain ⟨z, hz⟩ := choose_lt num
    have hlen : ((List.range len).map z).length = len := by simp
    have h0 : 0 < cap → ∃ v, W.cell? a = some v := fun hc => ⟨_, by have := (hcell 0 (by omega)).1; exact this⟩
    obtain ⟨b, e1, e2, e3⟩ := row_open (W := W) (a := a) (len := len) (cap := cap) (m := 2) (cells := pairCells ((List.range len).map z)) (by decide) hlc (by rw [pairCells_length, hlen]) h0 (fun k hk => by
      obtain ⟨v0, hv0⟩ := h0 (by omega)
      have hs := (cell_block' hv0).1
      have hi : k / 2 < len := by omega
      obtain ⟨c0, c1, _, _⟩ := hcell (k / 2) (by omega)
      obtain ⟨z0, z1⟩ := hz (k / 2) (by omega)
      rw [add_block a _ hs] at c0 c1
      have hk2 : k = k / 2 * 2 + k % 2 := by omega
      have hr : k % 2 < 2 := by omega
      have hcells := pairCells_get (sp := (List.range len).map z) (i := k / 2) (q := k % 2) (by rw [hlen]; exact hi) hr
      rw [← hk2] at hcells
      rw [hcells]
      rcases (by omega : k % 2 = 0 ∨ k % 2 = 1) with h0 | h0
      · refine ⟨V0 (k / 2), ?_, ?_⟩
        · rw [show a.off + k = a.off + k / 2 * 2 by omega]; exact c0
        · rw [h0, z0, absV_i64]; simp
      · refine ⟨V1 (k / 2), ?_, ?_⟩
        · rw [show a.off + k = a.off + (k / 2 * 2 + 1) by omega]; exact c1
        · rw [h0, z1, absV_i64]; simp)
    refine ⟨(List.range len).map z, b, e1, e3, ?_⟩
    rw [hlen]; exact e2

/-- A slice of rows. -/
theorem open_rows {α : Type} [Inhabited α] {W : World} {t e : TypeId} {v : Value} {fuel : Nat} {x : DataW H × List MemPlace} {R : AV → α → Prop} (hu : P.underlying t = some (.slice e)) (hc : P.cellsOf e = 1)
    (hval : Cell.okWide P W r bs t v) (h : DataW.trod enc P W 0 (fun _ => true) true fuel t [v] = some x)
    (hrow : ∀ u n y, DataW.trod enc P W 0 (fun _ => true) true n e [u] = some y → ∃ a b, absV (NW W) u = some b ∧ R b a) :
    ∃ (rows : List α) (vs : List AV) (b : AV), VR (startWR W) b v ∧ Capd b ∧ Sl (startW W) b 1 rows.length vs ∧ ∀ i (hi : i < rows.length), ∃ u, vs[i]? = some u ∧ R u rows[i] := by
  rcases slice_form hu hval with rfl | ⟨b, off, len, cap, rfl, hlc, hex⟩
  · exact ⟨[], [], .nils, .nils, capd_nils, Sl.nil _ _, fun i hi => absurd hi (Nat.not_lt_zero i)⟩
  · rcases open_slice1 hu hc h with ⟨h0, _⟩ | ⟨a, len', cap', m, n, V, D, Pl, h0, _, _, _, hm, _, hcell⟩
    · cases h0
    · cases h0
      simp only [if_true] at hm
      rw [hm] at hcell
      have num : ∀ i, i < cap → ∃ p : α × AV, absV (NW W) (V i) = some p.2 ∧ R p.2 p.1 := fun i hi => by
        obtain ⟨_, g⟩ := hcell i hi
        obtain ⟨a, b, h1, h2⟩ := hrow _ _ _ g
        exact ⟨(a, b), h1, h2⟩
      haveI : Inhabited (α × AV) := ⟨(default, .nils)⟩
      obtain ⟨z, hz⟩ := choose_lt num
      have hlen : ((List.range len).map fun i => (z i).1).length = len := by simp
      refine ⟨(List.range len).map fun i => (z i).1, (List.range len).map fun i => (z i).2, .sl (posN b) off len (some cap) 0, startW_arg (lt_of_block hex) hlc, capd_sl hlc, ?_, ?_⟩
      · rw [hlen]
        refine startW_sl hex (by simp) (fun k hk => ?_)
        have hkl : k < len := by omega
        obtain ⟨c0, _⟩ := hcell k (by omega)
        rw [add_at] at c0
        refine ⟨V k, c0, ?_⟩
        rw [(hz k (by omega)).1, List.getElem?_map, List.getElem?_range hkl]; rfl
      · intro i hi
        rw [hlen] at hi
        refine ⟨(z i).2, ?_, ?_⟩
        · rw [List.getElem?_map, List.getElem?_range hi]; rfl
        · have := (hz i (by omega)).2
          simpa using this
theorem okWideInt {W : World} {t : TypeId} {k : IntKind} {v : Value} (hu : P.underlying t = some (.int k)) (h : Cell.okWide P W r bs t v) : ∃ n, v = .int k n := by
  unfold Cell.okWide at h
  rw [hu] at h
  have h' : Cell.ok P W r bs t v := by cases v <;> exact h
  unfold Cell.ok at h'
  rw [hu] at h'
  cases v with
  | int k' n => obtain ⟨rfl, _⟩ := h'; exact ⟨n, rfl⟩
  | _ => exact h'.elim
theorem okWideBool {W : World} {t : TypeId} {v : Value} (hu : P.underlying t = some .bool) (h : Cell.okWide P W r bs t v) : ∃ b, v = .bool b := by
  unfold Cell.okWide at h
  rw [hu] at h
  have h' : Cell.ok P W r bs t v := by cases v <;> exact h
  unfold Cell.ok at h'
  rw [hu] at h'
  cases v with
  | bool b => exact ⟨b, rfl⟩
  | _ => exact h'.elim
/-- A struct of three one-cell fields, as an argument. -/
theorem open_three {W : World} {t a b c : TypeId} {f0 f1 f2 : Field} {v : Value} {fuel : Nat} {x : DataW H × List MemPlace} (hu : P.underlying t = some (.struct #[f0, f1, f2])) (hc : P.cellsOf t = 3) (o0 : f0.offset = 0) (o1 : f1.offset = 1) (o2 : f2.offset = 2) (t0 : f0.type = a) (t1 : f1.type = b) (t2 : f2.type = c)
    (c0 : P.cellsOf a = 1) (c1 : P.cellsOf b = 1) (c2 : P.cellsOf c = 1) (hct : P.cellTypes P.depth t = some [a, b, c]) (hval : Value.okWide P W r bs t v) (h : DataW.trod enc P W 0 (fun _ => true) true fuel t v.cells.toList = some x) :
    ∃ u w z n y1 y2 y3, v = .agg #[u, w, z] ∧ Cell.okWide P W r bs a u ∧ Cell.okWide P W r bs b w ∧ Cell.okWide P W r bs c z ∧ DataW.trod enc P W 0 (fun _ => true) true n a [u] = some y1 ∧ DataW.trod enc P W 0 (fun _ => true) true n b [w] = some y2 ∧ DataW.trod enc P W 0 (fun _ => true) true n c [z] = some y3 := by
  unfold Value.okWide at hval
  rw [hu] at hval
  obtain ⟨cs, rfl, hsz, ts, hts, _, hcell⟩ := hval
  rw [hct] at hts
  cases hts
  rw [hc] at hsz
  obtain ⟨l⟩ := cs
  match l, hsz with
  | [u, w, z], _ =>
    obtain ⟨u1, e1, k1⟩ := hcell 0 u rfl
    obtain ⟨u2, e2, k2⟩ := hcell 1 w rfl
    obtain ⟨u3, e3, k3⟩ := hcell 2 z rfl
    have e1' : some a = some u1 := e1
    have e2' : some b = some u2 := e2
    have e3' : some c = some u3 := e3
    cases e1'
    cases e2'
    cases e3'
    obtain ⟨xs, n, _, _, _, hxl, hf⟩ := DataW.trod_struct hu h
    have g0 := hf 0 f0 rfl
    have g1 := hf 1 f1 rfl
    have g2 := hf 2 f2 rfl
    rw [o0, t0, c0] at g0
    rw [o1, t1, c1] at g1
    rw [o2, t2, c2] at g2
    have hl : xs.length = 3 := hxl
    rw [List.getElem?_eq_getElem (by omega)] at g0 g1 g2
    exact ⟨u, w, z, n, _, _, _, rfl, k1, k2, k3, g0, g1, g2⟩
end
end Go.Ev
end

/- EvHf -/
section
/-
  FACTS OF THE PROGRAM: its types and functions.
-/
namespace Go.Proofs.Ytghondkiondeaab
open Go.Ev
set_option maxRecDepth 100000
theorem ia_0 : isAggB Try.prog 0 = some false := by kernel_rfl
theorem sz_0 : sizeE Try.prog 0 = some 1 := by kernel_rfl
theorem ni_0 : notInt Try.prog 0 = true := by kernel_rfl
theorem ia_1 : isAggB Try.prog 1 = some false := by kernel_rfl
theorem sz_1 : sizeE Try.prog 1 = some 1 := by kernel_rfl
theorem ze_1 : zeroE Try.prog 1 = some (.nilf) := by kernel_rfl
theorem el_1 : El Try.prog 1 1 8 (.nilf) := ⟨by kernel_rfl, by kernel_rfl, rfl⟩
theorem ni_1 : notInt Try.prog 1 = true := by kernel_rfl
theorem ia_2 : isAggB Try.prog 2 = some false := by kernel_rfl
theorem sz_2 : sizeE Try.prog 2 = some 1 := by kernel_rfl
theorem ze_2 : zeroE Try.prog 2 = some (.int .i64 (0)) := by kernel_rfl
theorem el_2 : El Try.prog 2 1 8 (.int .i64 (0)) := ⟨by kernel_rfl, by kernel_rfl, rfl⟩
theorem un_2 : Try.prog.underlying 2 = some (.int .i64) := Try.underlying2
theorem ia_3 : isAggB Try.prog 3 = some false := by kernel_rfl
theorem sz_3 : sizeE Try.prog 3 = some 1 := by kernel_rfl
theorem ze_3 : zeroE Try.prog 3 = some (.int .i64 (0)) := by kernel_rfl
theorem el_3 : El Try.prog 3 1 8 (.int .i64 (0)) := ⟨by kernel_rfl, by kernel_rfl, rfl⟩
theorem un_3 : Try.prog.underlying 3 = some (.int .i64) := Try.underlying3
theorem ia_4 : isAggB Try.prog 4 = some false := by kernel_rfl
theorem sz_4 : sizeE Try.prog 4 = some 1 := by kernel_rfl
theorem ze_4 : zeroE Try.prog 4 = some (.bool false) := by kernel_rfl
theorem el_4 : El Try.prog 4 1 1 (.bool false) := ⟨by kernel_rfl, by kernel_rfl, rfl⟩
theorem un_4 : Try.prog.underlying 4 = some .bool := Try.underlying4
theorem ni_4 : notInt Try.prog 4 = true := by kernel_rfl
theorem ia_5 : isAggB Try.prog 5 = some false := by kernel_rfl
theorem sz_5 : sizeE Try.prog 5 = some 1 := by kernel_rfl
theorem ze_5 : zeroE Try.prog 5 = some (.int .u8 (0)) := by kernel_rfl
theorem el_5 : El Try.prog 5 1 1 (.int .u8 (0)) := ⟨by kernel_rfl, by kernel_rfl, rfl⟩
theorem un_5 : Try.prog.underlying 5 = some (.int .u8) := Try.underlying5
theorem ia_6 : isAggB Try.prog 6 = some false := by kernel_rfl
theorem sz_6 : sizeE Try.prog 6 = some 1 := by kernel_rfl
theorem ze_6 : zeroE Try.prog 6 = some (.int .u8 (0)) := by kernel_rfl
theorem el_6 : El Try.prog 6 1 1 (.int .u8 (0)) := ⟨by kernel_rfl, by kernel_rfl, rfl⟩
theorem un_6 : Try.prog.underlying 6 = some (.int .u8) := Try.underlying6
theorem ia_7 : isAggB Try.prog 7 = some true := by kernel_rfl
theorem sz_7 : sizeE Try.prog 7 = some 4 := by kernel_rfl
theorem ze_7 : zeroE Try.prog 7 = some (.agg [.int .i64 (0), .int .i64 (0), .bool false, .int .u8 (0)]) := by kernel_rfl
theorem fo_7_0 : fieldOff Try.prog 7 0 = some 0 := by kernel_rfl
theorem fo_7_1 : fieldOff Try.prog 7 1 = some 1 := by kernel_rfl
theorem fo_7_2 : fieldOff Try.prog 7 2 = some 2 := by kernel_rfl
theorem fo_7_3 : fieldOff Try.prog 7 3 = some 3 := by kernel_rfl
theorem bs_7 (parts : List (Nat × AV)) : buildE Try.prog 7 parts = match fillE (fun i => [(0, 1), (1, 1), (2, 1), (3, 1)][i]?) [.int .i64 (0), .int .i64 (0), .bool false, .int .u8 (0)] parts with | some cs => some (.agg cs) | none => none := by kernel_rfl
theorem el_7 : El Try.prog 7 4 24 (.agg [.int .i64 (0), .int .i64 (0), .bool false, .int .u8 (0)]) := ⟨by kernel_rfl, by kernel_rfl, rfl⟩
theorem ni_7 : notInt Try.prog 7 = true := by kernel_rfl
theorem ia_8 : isAggB Try.prog 8 = some true := by kernel_rfl
theorem sz_8 : sizeE Try.prog 8 = some 4 := by kernel_rfl
theorem ze_8 : zeroE Try.prog 8 = some (.agg [.int .i64 (0), .int .i64 (0), .bool false, .int .u8 (0)]) := by kernel_rfl
theorem fo_8_0 : fieldOff Try.prog 8 0 = some 0 := by kernel_rfl
theorem fo_8_1 : fieldOff Try.prog 8 1 = some 1 := by kernel_rfl
theorem fo_8_2 : fieldOff Try.prog 8 2 = some 2 := by kernel_rfl
theorem fo_8_3 : fieldOff Try.prog 8 3 = some 3 := by kernel_rfl
theorem bs_8 (parts : List (Nat × AV)) : buildE Try.prog 8 parts = match fillE (fun i => [(0, 1), (1, 1), (2, 1), (3, 1)][i]?) [.int .i64 (0), .int .i64 (0), .bool false, .int .u8 (0)] parts with | some cs => some (.agg cs) | none => none := by kernel_rfl
theorem el_8 : El Try.prog 8 4 24 (.agg [.int .i64 (0), .int .i64 (0), .bool false, .int .u8 (0)]) := ⟨by kernel_rfl, by kernel_rfl, rfl⟩
theorem ni_8 : notInt Try.prog 8 = true := by kernel_rfl
theorem ia_9 : isAggB Try.prog 9 = some false := by kernel_rfl
theorem sz_9 : sizeE Try.prog 9 = some 1 := by kernel_rfl
theorem ze_9 : zeroE Try.prog 9 = some (.str ⟨#[]⟩) := by kernel_rfl
theorem el_9 : El Try.prog 9 1 16 (.str ⟨#[]⟩) := ⟨by kernel_rfl, by kernel_rfl, rfl⟩
theorem ni_9 : notInt Try.prog 9 = true := by kernel_rfl
theorem ia_10 : isAggB Try.prog 10 = some false := by kernel_rfl
theorem sz_10 : sizeE Try.prog 10 = some 1 := by kernel_rfl
theorem ze_10 : zeroE Try.prog 10 = some (.str ⟨#[]⟩) := by kernel_rfl
theorem el_10 : El Try.prog 10 1 16 (.str ⟨#[]⟩) := ⟨by kernel_rfl, by kernel_rfl, rfl⟩
theorem ni_10 : notInt Try.prog 10 = true := by kernel_rfl
theorem ia_11 : isAggB Try.prog 11 = some false := by kernel_rfl
theorem sz_11 : sizeE Try.prog 11 = some 1 := by kernel_rfl
theorem ze_11 : zeroE Try.prog 11 = some (.str ⟨#[]⟩) := by kernel_rfl
theorem el_11 : El Try.prog 11 1 16 (.str ⟨#[]⟩) := ⟨by kernel_rfl, by kernel_rfl, rfl⟩
theorem ni_11 : notInt Try.prog 11 = true := by kernel_rfl
theorem ia_12 : isAggB Try.prog 12 = some false := by kernel_rfl
theorem sz_12 : sizeE Try.prog 12 = some 1 := by kernel_rfl
theorem ze_12 : zeroE Try.prog 12 = some (.int .u64 (0)) := by kernel_rfl
theorem el_12 : El Try.prog 12 1 8 (.int .u64 (0)) := ⟨by kernel_rfl, by kernel_rfl, rfl⟩
theorem un_12 : Try.prog.underlying 12 = some (.int .u64) := Try.underlying12
theorem ia_13 : isAggB Try.prog 13 = some true := by kernel_rfl
theorem sz_13 : sizeE Try.prog 13 = some 2 := by kernel_rfl
theorem ze_13 : zeroE Try.prog 13 = some (.agg [.str ⟨#[]⟩, .int .u64 (0)]) := by kernel_rfl
theorem fo_13_0 : fieldOff Try.prog 13 0 = some 0 := by kernel_rfl
theorem fo_13_1 : fieldOff Try.prog 13 1 = some 1 := by kernel_rfl
theorem bs_13 (parts : List (Nat × AV)) : buildE Try.prog 13 parts = match fillE (fun i => [(0, 1), (1, 1)][i]?) [.str ⟨#[]⟩, .int .u64 (0)] parts with | some cs => some (.agg cs) | none => none := by kernel_rfl
theorem el_13 : El Try.prog 13 2 24 (.agg [.str ⟨#[]⟩, .int .u64 (0)]) := ⟨by kernel_rfl, by kernel_rfl, rfl⟩
theorem ni_13 : notInt Try.prog 13 = true := by kernel_rfl
theorem ia_14 : isAggB Try.prog 14 = some true := by kernel_rfl
theorem sz_14 : sizeE Try.prog 14 = some 2 := by kernel_rfl
theorem ze_14 : zeroE Try.prog 14 = some (.agg [.str ⟨#[]⟩, .int .u64 (0)]) := by kernel_rfl
theorem fo_14_0 : fieldOff Try.prog 14 0 = some 0 := by kernel_rfl
theorem fo_14_1 : fieldOff Try.prog 14 1 = some 1 := by kernel_rfl
theorem bs_14 (parts : List (Nat × AV)) : buildE Try.prog 14 parts = match fillE (fun i => [(0, 1), (1, 1)][i]?) [.str ⟨#[]⟩, .int .u64 (0)] parts with | some cs => some (.agg cs) | none => none := by kernel_rfl
theorem el_14 : El Try.prog 14 2 24 (.agg [.str ⟨#[]⟩, .int .u64 (0)]) := ⟨by kernel_rfl, by kernel_rfl, rfl⟩
theorem ni_14 : notInt Try.prog 14 = true := by kernel_rfl
theorem ia_15 : isAggB Try.prog 15 = some false := by kernel_rfl
theorem sz_15 : sizeE Try.prog 15 = some 1 := by kernel_rfl
theorem ze_15 : zeroE Try.prog 15 = some (.nilp) := by kernel_rfl
theorem el_15 : El Try.prog 15 1 8 (.nilp) := ⟨by kernel_rfl, by kernel_rfl, rfl⟩
theorem ni_15 : notInt Try.prog 15 = true := by kernel_rfl
theorem ia_16 : isAggB Try.prog 16 = some false := by kernel_rfl
theorem sz_16 : sizeE Try.prog 16 = some 1 := by kernel_rfl
theorem ze_16 : zeroE Try.prog 16 = some (.nilp) := by kernel_rfl
theorem el_16 : El Try.prog 16 1 8 (.nilp) := ⟨by kernel_rfl, by kernel_rfl, rfl⟩
theorem ni_16 : notInt Try.prog 16 = true := by kernel_rfl
theorem ia_17 : isAggB Try.prog 17 = some false := by kernel_rfl
theorem sz_17 : sizeE Try.prog 17 = some 1 := by kernel_rfl
theorem ze_17 : zeroE Try.prog 17 = some (.nilp) := by kernel_rfl
theorem el_17 : El Try.prog 17 1 8 (.nilp) := ⟨by kernel_rfl, by kernel_rfl, rfl⟩
theorem ni_17 : notInt Try.prog 17 = true := by kernel_rfl
theorem ia_18 : isAggB Try.prog 18 = some true := by kernel_rfl
theorem sz_18 : sizeE Try.prog 18 = some 1 := by kernel_rfl
theorem ze_18 : zeroE Try.prog 18 = some (.agg [.nilp]) := by kernel_rfl
theorem fo_18_0 : fieldOff Try.prog 18 0 = some 0 := by kernel_rfl
theorem bs_18 (parts : List (Nat × AV)) : buildE Try.prog 18 parts = match fillE (fun i => [(0, 1)][i]?) [.nilp] parts with | some cs => some (.agg cs) | none => none := by kernel_rfl
theorem el_18 : El Try.prog 18 1 8 (.agg [.nilp]) := ⟨by kernel_rfl, by kernel_rfl, rfl⟩
theorem ni_18 : notInt Try.prog 18 = true := by kernel_rfl
theorem ia_19 : isAggB Try.prog 19 = some true := by kernel_rfl
theorem sz_19 : sizeE Try.prog 19 = some 1 := by kernel_rfl
theorem ze_19 : zeroE Try.prog 19 = some (.agg [.nilp]) := by kernel_rfl
theorem fo_19_0 : fieldOff Try.prog 19 0 = some 0 := by kernel_rfl
theorem bs_19 (parts : List (Nat × AV)) : buildE Try.prog 19 parts = match fillE (fun i => [(0, 1)][i]?) [.nilp] parts with | some cs => some (.agg cs) | none => none := by kernel_rfl
theorem el_19 : El Try.prog 19 1 8 (.agg [.nilp]) := ⟨by kernel_rfl, by kernel_rfl, rfl⟩
theorem ni_19 : notInt Try.prog 19 = true := by kernel_rfl
theorem ia_20 : isAggB Try.prog 20 = some false := by kernel_rfl
theorem sz_20 : sizeE Try.prog 20 = some 1 := by kernel_rfl
theorem ze_20 : zeroE Try.prog 20 = some (.nili) := by kernel_rfl
theorem el_20 : El Try.prog 20 1 16 (.nili) := ⟨by kernel_rfl, by kernel_rfl, rfl⟩
theorem ni_20 : notInt Try.prog 20 = true := by kernel_rfl
theorem ia_21 : isAggB Try.prog 21 = some false := by kernel_rfl
theorem sz_21 : sizeE Try.prog 21 = some 1 := by kernel_rfl
theorem ze_21 : zeroE Try.prog 21 = some (.int .i32 (0)) := by kernel_rfl
theorem el_21 : El Try.prog 21 1 4 (.int .i32 (0)) := ⟨by kernel_rfl, by kernel_rfl, rfl⟩
theorem un_21 : Try.prog.underlying 21 = some (.int .i32) := Try.underlying21
theorem ia_22 : isAggB Try.prog 22 = some false := by kernel_rfl
theorem sz_22 : sizeE Try.prog 22 = some 1 := by kernel_rfl
theorem ze_22 : zeroE Try.prog 22 = some (.nils) := by kernel_rfl
theorem bsl_22 (n : Nat) (parts : List (Nat × AV)) (h : H) : buildSliceE Try.prog 22 n parts h = bif Nat.ble (n * 1) 16777216 && Nat.beq 1 1 then (match fillE (fun i => some (i * 1, 1)) (zerosE [.nils] n) parts with | some cs => newSlice 46 cs n n 1 h | none => .no) else .no := by kernel_rfl
theorem el_22 : El Try.prog 22 1 24 (.nils) := ⟨by kernel_rfl, by kernel_rfl, rfl⟩
theorem ik_22 : idxKind Try.prog 22 = some (none, 1) := by kernel_rfl
theorem un_22 : Try.prog.underlying 22 = some (.slice 46) := Try.underlying22
theorem ni_22 : notInt Try.prog 22 = true := by kernel_rfl
theorem ia_23 : isAggB Try.prog 23 = some true := by kernel_rfl
theorem sz_23 : sizeE Try.prog 23 = some 3 := by kernel_rfl
theorem ze_23 : zeroE Try.prog 23 = some (.agg [.int .i64 (0), .int .i64 (0), .nils]) := by kernel_rfl
theorem fo_23_0 : fieldOff Try.prog 23 0 = some 0 := by kernel_rfl
theorem fo_23_1 : fieldOff Try.prog 23 1 = some 1 := by kernel_rfl
theorem fo_23_2 : fieldOff Try.prog 23 2 = some 2 := by kernel_rfl
theorem bs_23 (parts : List (Nat × AV)) : buildE Try.prog 23 parts = match fillE (fun i => [(0, 1), (1, 1), (2, 1)][i]?) [.int .i64 (0), .int .i64 (0), .nils] parts with | some cs => some (.agg cs) | none => none := by kernel_rfl
theorem el_23 : El Try.prog 23 3 40 (.agg [.int .i64 (0), .int .i64 (0), .nils]) := ⟨by kernel_rfl, by kernel_rfl, rfl⟩
theorem ni_23 : notInt Try.prog 23 = true := by kernel_rfl
theorem ia_24 : isAggB Try.prog 24 = some true := by kernel_rfl
theorem sz_24 : sizeE Try.prog 24 = some 3 := by kernel_rfl
theorem ze_24 : zeroE Try.prog 24 = some (.agg [.int .i64 (0), .int .i64 (0), .nils]) := by kernel_rfl
theorem fo_24_0 : fieldOff Try.prog 24 0 = some 0 := by kernel_rfl
theorem fo_24_1 : fieldOff Try.prog 24 1 = some 1 := by kernel_rfl
theorem fo_24_2 : fieldOff Try.prog 24 2 = some 2 := by kernel_rfl
theorem bs_24 (parts : List (Nat × AV)) : buildE Try.prog 24 parts = match fillE (fun i => [(0, 1), (1, 1), (2, 1)][i]?) [.int .i64 (0), .int .i64 (0), .nils] parts with | some cs => some (.agg cs) | none => none := by kernel_rfl
theorem el_24 : El Try.prog 24 3 40 (.agg [.int .i64 (0), .int .i64 (0), .nils]) := ⟨by kernel_rfl, by kernel_rfl, rfl⟩
theorem ni_24 : notInt Try.prog 24 = true := by kernel_rfl
theorem ia_25 : isAggB Try.prog 25 = some false := by kernel_rfl
theorem sz_25 : sizeE Try.prog 25 = some 1 := by kernel_rfl
theorem ze_25 : zeroE Try.prog 25 = some (.nils) := by kernel_rfl
theorem bsl_25 (n : Nat) (parts : List (Nat × AV)) (h : H) : buildSliceE Try.prog 25 n parts h = bif Nat.ble (n * 1) 16777216 && Nat.beq 1 1 then (match fillE (fun i => some (i * 1, 1)) (zerosE [.nils] n) parts with | some cs => newSlice 47 cs n n 1 h | none => .no) else .no := by kernel_rfl
theorem el_25 : El Try.prog 25 1 24 (.nils) := ⟨by kernel_rfl, by kernel_rfl, rfl⟩
theorem ik_25 : idxKind Try.prog 25 = some (none, 1) := by kernel_rfl
theorem un_25 : Try.prog.underlying 25 = some (.slice 47) := Try.underlying25
theorem ni_25 : notInt Try.prog 25 = true := by kernel_rfl
theorem ia_26 : isAggB Try.prog 26 = some false := by kernel_rfl
theorem sz_26 : sizeE Try.prog 26 = some 1 := by kernel_rfl
theorem ze_26 : zeroE Try.prog 26 = some (.nilf) := by kernel_rfl
theorem el_26 : El Try.prog 26 1 8 (.nilf) := ⟨by kernel_rfl, by kernel_rfl, rfl⟩
theorem ni_26 : notInt Try.prog 26 = true := by kernel_rfl
theorem ia_27 : isAggB Try.prog 27 = some false := by kernel_rfl
theorem sz_27 : sizeE Try.prog 27 = some 1 := by kernel_rfl
theorem ze_27 : zeroE Try.prog 27 = some (.nilf) := by kernel_rfl
theorem el_27 : El Try.prog 27 1 8 (.nilf) := ⟨by kernel_rfl, by kernel_rfl, rfl⟩
theorem ni_27 : notInt Try.prog 27 = true := by kernel_rfl
theorem ia_28 : isAggB Try.prog 28 = some true := by kernel_rfl
theorem sz_28 : sizeE Try.prog 28 = some 2 := by kernel_rfl
theorem ze_28 : zeroE Try.prog 28 = some (.agg [.int .i64 (0), .int .i64 (0)]) := by kernel_rfl
theorem fo_28_0 : fieldOff Try.prog 28 0 = some 0 := by kernel_rfl
theorem fo_28_1 : fieldOff Try.prog 28 1 = some 1 := by kernel_rfl
theorem bs_28 (parts : List (Nat × AV)) : buildE Try.prog 28 parts = match fillE (fun i => [(0, 1), (1, 1)][i]?) [.int .i64 (0), .int .i64 (0)] parts with | some cs => some (.agg cs) | none => none := by kernel_rfl
theorem el_28 : El Try.prog 28 2 16 (.agg [.int .i64 (0), .int .i64 (0)]) := ⟨by kernel_rfl, by kernel_rfl, rfl⟩
theorem ni_28 : notInt Try.prog 28 = true := by kernel_rfl
theorem ia_29 : isAggB Try.prog 29 = some true := by kernel_rfl
theorem sz_29 : sizeE Try.prog 29 = some 2 := by kernel_rfl
theorem ze_29 : zeroE Try.prog 29 = some (.agg [.int .i64 (0), .int .i64 (0)]) := by kernel_rfl
theorem fo_29_0 : fieldOff Try.prog 29 0 = some 0 := by kernel_rfl
theorem fo_29_1 : fieldOff Try.prog 29 1 = some 1 := by kernel_rfl
theorem bs_29 (parts : List (Nat × AV)) : buildE Try.prog 29 parts = match fillE (fun i => [(0, 1), (1, 1)][i]?) [.int .i64 (0), .int .i64 (0)] parts with | some cs => some (.agg cs) | none => none := by kernel_rfl
theorem el_29 : El Try.prog 29 2 16 (.agg [.int .i64 (0), .int .i64 (0)]) := ⟨by kernel_rfl, by kernel_rfl, rfl⟩
theorem ni_29 : notInt Try.prog 29 = true := by kernel_rfl
theorem ia_30 : isAggB Try.prog 30 = some false := by kernel_rfl
theorem sz_30 : sizeE Try.prog 30 = some 1 := by kernel_rfl
theorem ze_30 : zeroE Try.prog 30 = some (.int .i64 (0)) := by kernel_rfl
theorem el_30 : El Try.prog 30 1 8 (.int .i64 (0)) := ⟨by kernel_rfl, by kernel_rfl, rfl⟩
theorem un_30 : Try.prog.underlying 30 = some (.int .i64) := Try.underlying30
theorem ia_31 : isAggB Try.prog 31 = some false := by kernel_rfl
theorem sz_31 : sizeE Try.prog 31 = some 1 := by kernel_rfl
theorem ni_31 : notInt Try.prog 31 = true := by kernel_rfl
theorem ia_32 : isAggB Try.prog 32 = some false := by kernel_rfl
theorem sz_32 : sizeE Try.prog 32 = some 1 := by kernel_rfl
theorem ze_32 : zeroE Try.prog 32 = some (.nilf) := by kernel_rfl
theorem el_32 : El Try.prog 32 1 8 (.nilf) := ⟨by kernel_rfl, by kernel_rfl, rfl⟩
theorem ni_32 : notInt Try.prog 32 = true := by kernel_rfl
theorem ia_33 : isAggB Try.prog 33 = some false := by kernel_rfl
theorem sz_33 : sizeE Try.prog 33 = some 1 := by kernel_rfl
theorem ze_33 : zeroE Try.prog 33 = some (.nilf) := by kernel_rfl
theorem el_33 : El Try.prog 33 1 8 (.nilf) := ⟨by kernel_rfl, by kernel_rfl, rfl⟩
theorem ni_33 : notInt Try.prog 33 = true := by kernel_rfl
theorem ia_34 : isAggB Try.prog 34 = some false := by kernel_rfl
theorem sz_34 : sizeE Try.prog 34 = some 1 := by kernel_rfl
theorem ze_34 : zeroE Try.prog 34 = some (.nilf) := by kernel_rfl
theorem el_34 : El Try.prog 34 1 8 (.nilf) := ⟨by kernel_rfl, by kernel_rfl, rfl⟩
theorem ni_34 : notInt Try.prog 34 = true := by kernel_rfl
theorem ia_35 : isAggB Try.prog 35 = some false := by kernel_rfl
theorem sz_35 : sizeE Try.prog 35 = some 1 := by kernel_rfl
theorem ze_35 : zeroE Try.prog 35 = some (.nilf) := by kernel_rfl
theorem el_35 : El Try.prog 35 1 8 (.nilf) := ⟨by kernel_rfl, by kernel_rfl, rfl⟩
theorem ni_35 : notInt Try.prog 35 = true := by kernel_rfl
theorem ia_36 : isAggB Try.prog 36 = some false := by kernel_rfl
theorem sz_36 : sizeE Try.prog 36 = some 1 := by kernel_rfl
theorem ze_36 : zeroE Try.prog 36 = some (.nilf) := by kernel_rfl
theorem el_36 : El Try.prog 36 1 8 (.nilf) := ⟨by kernel_rfl, by kernel_rfl, rfl⟩
theorem ni_36 : notInt Try.prog 36 = true := by kernel_rfl
theorem ia_37 : isAggB Try.prog 37 = some false := by kernel_rfl
theorem sz_37 : sizeE Try.prog 37 = some 1 := by kernel_rfl
theorem ze_37 : zeroE Try.prog 37 = some (.nilf) := by kernel_rfl
theorem el_37 : El Try.prog 37 1 8 (.nilf) := ⟨by kernel_rfl, by kernel_rfl, rfl⟩
theorem ni_37 : notInt Try.prog 37 = true := by kernel_rfl
theorem ia_38 : isAggB Try.prog 38 = some true := by kernel_rfl
theorem sz_38 : sizeE Try.prog 38 = some 4 := by kernel_rfl
theorem ze_38 : zeroE Try.prog 38 = some (.agg [.int .i64 (0), .int .i64 (0), .int .i64 (0), .int .i64 (0)]) := by kernel_rfl
theorem fo_38_0 : fieldOff Try.prog 38 0 = some 0 := by kernel_rfl
theorem fo_38_1 : fieldOff Try.prog 38 1 = some 2 := by kernel_rfl
theorem bs_38 (parts : List (Nat × AV)) : buildE Try.prog 38 parts = match fillE (fun i => [(0, 2), (2, 2)][i]?) [.int .i64 (0), .int .i64 (0), .int .i64 (0), .int .i64 (0)] parts with | some cs => some (.agg cs) | none => none := by kernel_rfl
theorem el_38 : El Try.prog 38 4 32 (.agg [.int .i64 (0), .int .i64 (0), .int .i64 (0), .int .i64 (0)]) := ⟨by kernel_rfl, by kernel_rfl, rfl⟩
theorem ni_38 : notInt Try.prog 38 = true := by kernel_rfl
theorem ia_39 : isAggB Try.prog 39 = some true := by kernel_rfl
theorem sz_39 : sizeE Try.prog 39 = some 4 := by kernel_rfl
theorem ze_39 : zeroE Try.prog 39 = some (.agg [.int .i64 (0), .int .i64 (0), .int .i64 (0), .int .i64 (0)]) := by kernel_rfl
theorem fo_39_0 : fieldOff Try.prog 39 0 = some 0 := by kernel_rfl
theorem fo_39_1 : fieldOff Try.prog 39 1 = some 2 := by kernel_rfl
theorem bs_39 (parts : List (Nat × AV)) : buildE Try.prog 39 parts = match fillE (fun i => [(0, 2), (2, 2)][i]?) [.int .i64 (0), .int .i64 (0), .int .i64 (0), .int .i64 (0)] parts with | some cs => some (.agg cs) | none => none := by kernel_rfl
theorem el_39 : El Try.prog 39 4 32 (.agg [.int .i64 (0), .int .i64 (0), .int .i64 (0), .int .i64 (0)]) := ⟨by kernel_rfl, by kernel_rfl, rfl⟩
theorem ni_39 : notInt Try.prog 39 = true := by kernel_rfl
theorem ia_40 : isAggB Try.prog 40 = some false := by kernel_rfl
theorem sz_40 : sizeE Try.prog 40 = some 1 := by kernel_rfl
theorem ni_40 : notInt Try.prog 40 = true := by kernel_rfl
theorem ia_41 : isAggB Try.prog 41 = some false := by kernel_rfl
theorem sz_41 : sizeE Try.prog 41 = some 1 := by kernel_rfl
theorem ze_41 : zeroE Try.prog 41 = some (.nilf) := by kernel_rfl
theorem el_41 : El Try.prog 41 1 8 (.nilf) := ⟨by kernel_rfl, by kernel_rfl, rfl⟩
theorem ni_41 : notInt Try.prog 41 = true := by kernel_rfl
theorem ia_42 : isAggB Try.prog 42 = some false := by kernel_rfl
theorem sz_42 : sizeE Try.prog 42 = some 1 := by kernel_rfl
theorem ze_42 : zeroE Try.prog 42 = some (.nilf) := by kernel_rfl
theorem el_42 : El Try.prog 42 1 8 (.nilf) := ⟨by kernel_rfl, by kernel_rfl, rfl⟩
theorem ni_42 : notInt Try.prog 42 = true := by kernel_rfl
theorem ia_43 : isAggB Try.prog 43 = some false := by kernel_rfl
theorem sz_43 : sizeE Try.prog 43 = some 1 := by kernel_rfl
theorem ni_43 : notInt Try.prog 43 = true := by kernel_rfl
theorem ia_44 : isAggB Try.prog 44 = some false := by kernel_rfl
theorem sz_44 : sizeE Try.prog 44 = some 1 := by kernel_rfl
theorem ze_44 : zeroE Try.prog 44 = some (.nilf) := by kernel_rfl
theorem el_44 : El Try.prog 44 1 8 (.nilf) := ⟨by kernel_rfl, by kernel_rfl, rfl⟩
theorem ni_44 : notInt Try.prog 44 = true := by kernel_rfl
theorem ia_45 : isAggB Try.prog 45 = some false := by kernel_rfl
theorem sz_45 : sizeE Try.prog 45 = some 1 := by kernel_rfl
theorem ze_45 : zeroE Try.prog 45 = some (.nilf) := by kernel_rfl
theorem el_45 : El Try.prog 45 1 8 (.nilf) := ⟨by kernel_rfl, by kernel_rfl, rfl⟩
theorem ni_45 : notInt Try.prog 45 = true := by kernel_rfl
theorem ia_46 : isAggB Try.prog 46 = some false := by kernel_rfl
theorem sz_46 : sizeE Try.prog 46 = some 1 := by kernel_rfl
theorem ze_46 : zeroE Try.prog 46 = some (.nils) := by kernel_rfl
theorem bsl_46 (n : Nat) (parts : List (Nat × AV)) (h : H) : buildSliceE Try.prog 46 n parts h = bif Nat.ble (n * 2) 16777216 && Nat.beq 2 2 then (match fillE (fun i => some (i * 2, 2)) (zerosE [.int .i64 (0), .int .i64 (0)] n) parts with | some cs => newSlice 70 cs n n 2 h | none => .no) else .no := by kernel_rfl
theorem el_46 : El Try.prog 46 1 24 (.nils) := ⟨by kernel_rfl, by kernel_rfl, rfl⟩
theorem ik_46 : idxKind Try.prog 46 = some (none, 2) := by kernel_rfl
theorem un_46 : Try.prog.underlying 46 = some (.slice 70) := Try.underlying46
theorem ni_46 : notInt Try.prog 46 = true := by kernel_rfl
theorem ia_47 : isAggB Try.prog 47 = some false := by kernel_rfl
theorem sz_47 : sizeE Try.prog 47 = some 1 := by kernel_rfl
theorem ze_47 : zeroE Try.prog 47 = some (.nils) := by kernel_rfl
theorem bsl_47 (n : Nat) (parts : List (Nat × AV)) (h : H) : buildSliceE Try.prog 47 n parts h = bif Nat.ble (n * 1) 16777216 && Nat.beq 1 1 then (match fillE (fun i => some (i * 1, 1)) (zerosE [.int .i64 (0)] n) parts with | some cs => newSlice 2 cs n n 1 h | none => .no) else .no := by kernel_rfl
theorem el_47 : El Try.prog 47 1 24 (.nils) := ⟨by kernel_rfl, by kernel_rfl, rfl⟩
theorem ik_47 : idxKind Try.prog 47 = some (none, 1) := by kernel_rfl
theorem un_47 : Try.prog.underlying 47 = some (.slice 2) := Try.underlying47
theorem ni_47 : notInt Try.prog 47 = true := by kernel_rfl
theorem ia_48 : isAggB Try.prog 48 = some false := by kernel_rfl
theorem sz_48 : sizeE Try.prog 48 = some 1 := by kernel_rfl
theorem ze_48 : zeroE Try.prog 48 = some (.nilf) := by kernel_rfl
theorem el_48 : El Try.prog 48 1 8 (.nilf) := ⟨by kernel_rfl, by kernel_rfl, rfl⟩
theorem ni_48 : notInt Try.prog 48 = true := by kernel_rfl
theorem ia_49 : isAggB Try.prog 49 = some false := by kernel_rfl
theorem sz_49 : sizeE Try.prog 49 = some 1 := by kernel_rfl
theorem ze_49 : zeroE Try.prog 49 = some (.nilf) := by kernel_rfl
theorem el_49 : El Try.prog 49 1 8 (.nilf) := ⟨by kernel_rfl, by kernel_rfl, rfl⟩
theorem ni_49 : notInt Try.prog 49 = true := by kernel_rfl
theorem ia_50 : isAggB Try.prog 50 = some false := by kernel_rfl
theorem sz_50 : sizeE Try.prog 50 = some 1 := by kernel_rfl
theorem ze_50 : zeroE Try.prog 50 = some (.nilf) := by kernel_rfl
theorem el_50 : El Try.prog 50 1 8 (.nilf) := ⟨by kernel_rfl, by kernel_rfl, rfl⟩
theorem ni_50 : notInt Try.prog 50 = true := by kernel_rfl
theorem ia_51 : isAggB Try.prog 51 = some true := by kernel_rfl
theorem sz_51 : sizeE Try.prog 51 = some 3 := by kernel_rfl
theorem ze_51 : zeroE Try.prog 51 = some (.agg [.int .i64 (0), .int .i64 (0), .nils]) := by kernel_rfl
theorem fo_51_0 : fieldOff Try.prog 51 0 = some 0 := by kernel_rfl
theorem bs_51 (parts : List (Nat × AV)) : buildE Try.prog 51 parts = match fillE (fun i => [(0, 3)][i]?) [.int .i64 (0), .int .i64 (0), .nils] parts with | some cs => some (.agg cs) | none => none := by kernel_rfl
theorem el_51 : El Try.prog 51 3 40 (.agg [.int .i64 (0), .int .i64 (0), .nils]) := ⟨by kernel_rfl, by kernel_rfl, rfl⟩
theorem ni_51 : notInt Try.prog 51 = true := by kernel_rfl
theorem ia_52 : isAggB Try.prog 52 = some true := by kernel_rfl
theorem sz_52 : sizeE Try.prog 52 = some 3 := by kernel_rfl
theorem ze_52 : zeroE Try.prog 52 = some (.agg [.int .i64 (0), .int .i64 (0), .nils]) := by kernel_rfl
theorem fo_52_0 : fieldOff Try.prog 52 0 = some 0 := by kernel_rfl
theorem bs_52 (parts : List (Nat × AV)) : buildE Try.prog 52 parts = match fillE (fun i => [(0, 3)][i]?) [.int .i64 (0), .int .i64 (0), .nils] parts with | some cs => some (.agg cs) | none => none := by kernel_rfl
theorem el_52 : El Try.prog 52 3 40 (.agg [.int .i64 (0), .int .i64 (0), .nils]) := ⟨by kernel_rfl, by kernel_rfl, rfl⟩
theorem ni_52 : notInt Try.prog 52 = true := by kernel_rfl
theorem ia_53 : isAggB Try.prog 53 = some false := by kernel_rfl
theorem sz_53 : sizeE Try.prog 53 = some 1 := by kernel_rfl
theorem ze_53 : zeroE Try.prog 53 = some (.nilf) := by kernel_rfl
theorem el_53 : El Try.prog 53 1 8 (.nilf) := ⟨by kernel_rfl, by kernel_rfl, rfl⟩
theorem ni_53 : notInt Try.prog 53 = true := by kernel_rfl
theorem ia_54 : isAggB Try.prog 54 = some true := by kernel_rfl
theorem sz_54 : sizeE Try.prog 54 = some 6 := by kernel_rfl
theorem ze_54 : zeroE Try.prog 54 = some (.agg [.int .i64 (0), .int .i64 (0), .int .i64 (0), .int .i64 (0), .int .i64 (0), .int .i64 (0)]) := by kernel_rfl
theorem bs_54 (parts : List (Nat × AV)) : buildE Try.prog 54 parts = match fillE (fun i => some (i * 1, 1)) [.int .i64 (0), .int .i64 (0), .int .i64 (0), .int .i64 (0), .int .i64 (0), .int .i64 (0)] parts with | some cs => some (.agg cs) | none => none := by kernel_rfl
theorem el_54 : El Try.prog 54 6 48 (.agg [.int .i64 (0), .int .i64 (0), .int .i64 (0), .int .i64 (0), .int .i64 (0), .int .i64 (0)]) := ⟨by kernel_rfl, by kernel_rfl, rfl⟩
theorem ik_54 : idxKind Try.prog 54 = some (some 6, 1) := by kernel_rfl
theorem un_54 : Try.prog.underlying 54 = some (.array 6 2) := Try.underlying54
theorem ni_54 : notInt Try.prog 54 = true := by kernel_rfl
theorem ia_55 : isAggB Try.prog 55 = some true := by kernel_rfl
theorem sz_55 : sizeE Try.prog 55 = some 60 := by kernel_rfl
theorem ze_55 : zeroE Try.prog 55 = some (.agg [.int .i64 (0), .int .i64 (0), .int .i64 (0), .int .i64 (0), .int .i64 (0), .int .i64 (0), .int .i64 (0), .int .i64 (0), .int .i64 (0), .int .i64 (0), .int .i64 (0), .int .i64 (0), .int .i64 (0), .int .i64 (0), .int .i64 (0), .int .i64 (0), .int .i64 (0), .int .i64 (0), .int .i64 (0), .int .i64 (0), .int .i64 (0), .int .i64 (0), .int .i64 (0), .int .i64 (0), .int .i64 (0), .int .i64 (0), .int .i64 (0), .int .i64 (0), .int .i64 (0), .int .i64 (0), .int .i64 (0), .int .i64 (0), .int .i64 (0), .int .i64 (0), .int .i64 (0), .int .i64 (0), .int .i64 (0), .int .i64 (0), .int .i64 (0), .int .i64 (0), .int .i64 (0), .int .i64 (0), .int .i64 (0), .int .i64 (0), .int .i64 (0), .int .i64 (0), .int .i64 (0), .int .i64 (0), .int .i64 (0), .int .i64 (0), .int .i64 (0), .int .i64 (0), .int .i64 (0), .int .i64 (0), .int .i64 (0), .int .i64 (0), .int .i64 (0), .int .i64 (0), .int .i64 (0), .int .i64 (0)]) := by kernel_rfl
theorem bs_55 (parts : List (Nat × AV)) : buildE Try.prog 55 parts = match fillE (fun i => some (i * 6, 6)) [.int .i64 (0), .int .i64 (0), .int .i64 (0), .int .i64 (0), .int .i64 (0), .int .i64 (0), .int .i64 (0), .int .i64 (0), .int .i64 (0), .int .i64 (0), .int .i64 (0), .int .i64 (0), .int .i64 (0), .int .i64 (0), .int .i64 (0), .int .i64 (0), .int .i64 (0), .int .i64 (0), .int .i64 (0), .int .i64 (0), .int .i64 (0), .int .i64 (0), .int .i64 (0), .int .i64 (0), .int .i64 (0), .int .i64 (0), .int .i64 (0), .int .i64 (0), .int .i64 (0), .int .i64 (0), .int .i64 (0), .int .i64 (0), .int .i64 (0), .int .i64 (0), .int .i64 (0), .int .i64 (0), .int .i64 (0), .int .i64 (0), .int .i64 (0), .int .i64 (0), .int .i64 (0), .int .i64 (0), .int .i64 (0), .int .i64 (0), .int .i64 (0), .int .i64 (0), .int .i64 (0), .int .i64 (0), .int .i64 (0), .int .i64 (0), .int .i64 (0), .int .i64 (0), .int .i64 (0), .int .i64 (0), .int .i64 (0), .int .i64 (0), .int .i64 (0), .int .i64 (0), .int .i64 (0), .int .i64 (0)] parts with | some cs => some (.agg cs) | none => none := by kernel_rfl
theorem el_55 : El Try.prog 55 60 480 (.agg [.int .i64 (0), .int .i64 (0), .int .i64 (0), .int .i64 (0), .int .i64 (0), .int .i64 (0), .int .i64 (0), .int .i64 (0), .int .i64 (0), .int .i64 (0), .int .i64 (0), .int .i64 (0), .int .i64 (0), .int .i64 (0), .int .i64 (0), .int .i64 (0), .int .i64 (0), .int .i64 (0), .int .i64 (0), .int .i64 (0), .int .i64 (0), .int .i64 (0), .int .i64 (0), .int .i64 (0), .int .i64 (0), .int .i64 (0), .int .i64 (0), .int .i64 (0), .int .i64 (0), .int .i64 (0), .int .i64 (0), .int .i64 (0), .int .i64 (0), .int .i64 (0), .int .i64 (0), .int .i64 (0), .int .i64 (0), .int .i64 (0), .int .i64 (0), .int .i64 (0), .int .i64 (0), .int .i64 (0), .int .i64 (0), .int .i64 (0), .int .i64 (0), .int .i64 (0), .int .i64 (0), .int .i64 (0), .int .i64 (0), .int .i64 (0), .int .i64 (0), .int .i64 (0), .int .i64 (0), .int .i64 (0), .int .i64 (0), .int .i64 (0), .int .i64 (0), .int .i64 (0), .int .i64 (0), .int .i64 (0)]) := ⟨by kernel_rfl, by kernel_rfl, rfl⟩
theorem ik_55 : idxKind Try.prog 55 = some (some 10, 6) := by kernel_rfl
theorem un_55 : Try.prog.underlying 55 = some (.array 10 54) := Try.underlying55
theorem ni_55 : notInt Try.prog 55 = true := by kernel_rfl
theorem ia_56 : isAggB Try.prog 56 = some true := by kernel_rfl
theorem sz_56 : sizeE Try.prog 56 = some 60 := by kernel_rfl
theorem ze_56 : zeroE Try.prog 56 = some (.agg [.int .i64 (0), .int .i64 (0), .int .i64 (0), .int .i64 (0), .int .i64 (0), .int .i64 (0), .int .i64 (0), .int .i64 (0), .int .i64 (0), .int .i64 (0), .int .i64 (0), .int .i64 (0), .int .i64 (0), .int .i64 (0), .int .i64 (0), .int .i64 (0), .int .i64 (0), .int .i64 (0), .int .i64 (0), .int .i64 (0), .int .i64 (0), .int .i64 (0), .int .i64 (0), .int .i64 (0), .int .i64 (0), .int .i64 (0), .int .i64 (0), .int .i64 (0), .int .i64 (0), .int .i64 (0), .int .i64 (0), .int .i64 (0), .int .i64 (0), .int .i64 (0), .int .i64 (0), .int .i64 (0), .int .i64 (0), .int .i64 (0), .int .i64 (0), .int .i64 (0), .int .i64 (0), .int .i64 (0), .int .i64 (0), .int .i64 (0), .int .i64 (0), .int .i64 (0), .int .i64 (0), .int .i64 (0), .int .i64 (0), .int .i64 (0), .int .i64 (0), .int .i64 (0), .int .i64 (0), .int .i64 (0), .int .i64 (0), .int .i64 (0), .int .i64 (0), .int .i64 (0), .int .i64 (0), .int .i64 (0)]) := by kernel_rfl
theorem bs_56 (parts : List (Nat × AV)) : buildE Try.prog 56 parts = match fillE (fun i => some (i * 6, 6)) [.int .i64 (0), .int .i64 (0), .int .i64 (0), .int .i64 (0), .int .i64 (0), .int .i64 (0), .int .i64 (0), .int .i64 (0), .int .i64 (0), .int .i64 (0), .int .i64 (0), .int .i64 (0), .int .i64 (0), .int .i64 (0), .int .i64 (0), .int .i64 (0), .int .i64 (0), .int .i64 (0), .int .i64 (0), .int .i64 (0), .int .i64 (0), .int .i64 (0), .int .i64 (0), .int .i64 (0), .int .i64 (0), .int .i64 (0), .int .i64 (0), .int .i64 (0), .int .i64 (0), .int .i64 (0), .int .i64 (0), .int .i64 (0), .int .i64 (0), .int .i64 (0), .int .i64 (0), .int .i64 (0), .int .i64 (0), .int .i64 (0), .int .i64 (0), .int .i64 (0), .int .i64 (0), .int .i64 (0), .int .i64 (0), .int .i64 (0), .int .i64 (0), .int .i64 (0), .int .i64 (0), .int .i64 (0), .int .i64 (0), .int .i64 (0), .int .i64 (0), .int .i64 (0), .int .i64 (0), .int .i64 (0), .int .i64 (0), .int .i64 (0), .int .i64 (0), .int .i64 (0), .int .i64 (0), .int .i64 (0)] parts with | some cs => some (.agg cs) | none => none := by kernel_rfl
theorem el_56 : El Try.prog 56 60 480 (.agg [.int .i64 (0), .int .i64 (0), .int .i64 (0), .int .i64 (0), .int .i64 (0), .int .i64 (0), .int .i64 (0), .int .i64 (0), .int .i64 (0), .int .i64 (0), .int .i64 (0), .int .i64 (0), .int .i64 (0), .int .i64 (0), .int .i64 (0), .int .i64 (0), .int .i64 (0), .int .i64 (0), .int .i64 (0), .int .i64 (0), .int .i64 (0), .int .i64 (0), .int .i64 (0), .int .i64 (0), .int .i64 (0), .int .i64 (0), .int .i64 (0), .int .i64 (0), .int .i64 (0), .int .i64 (0), .int .i64 (0), .int .i64 (0), .int .i64 (0), .int .i64 (0), .int .i64 (0), .int .i64 (0), .int .i64 (0), .int .i64 (0), .int .i64 (0), .int .i64 (0), .int .i64 (0), .int .i64 (0), .int .i64 (0), .int .i64 (0), .int .i64 (0), .int .i64 (0), .int .i64 (0), .int .i64 (0), .int .i64 (0), .int .i64 (0), .int .i64 (0), .int .i64 (0), .int .i64 (0), .int .i64 (0), .int .i64 (0), .int .i64 (0), .int .i64 (0), .int .i64 (0), .int .i64 (0), .int .i64 (0)]) := ⟨by kernel_rfl, by kernel_rfl, rfl⟩
theorem ik_56 : idxKind Try.prog 56 = some (some 10, 6) := by kernel_rfl
theorem un_56 : Try.prog.underlying 56 = some (.array 10 54) := Try.underlying56
theorem ni_56 : notInt Try.prog 56 = true := by kernel_rfl
theorem ia_57 : isAggB Try.prog 57 = some false := by kernel_rfl
theorem sz_57 : sizeE Try.prog 57 = some 1 := by kernel_rfl
theorem ze_57 : zeroE Try.prog 57 = some (.nilf) := by kernel_rfl
theorem el_57 : El Try.prog 57 1 8 (.nilf) := ⟨by kernel_rfl, by kernel_rfl, rfl⟩
theorem ni_57 : notInt Try.prog 57 = true := by kernel_rfl
theorem ia_58 : isAggB Try.prog 58 = some false := by kernel_rfl
theorem sz_58 : sizeE Try.prog 58 = some 1 := by kernel_rfl
theorem ni_58 : notInt Try.prog 58 = true := by kernel_rfl
theorem ia_59 : isAggB Try.prog 59 = some false := by kernel_rfl
theorem sz_59 : sizeE Try.prog 59 = some 1 := by kernel_rfl
theorem ze_59 : zeroE Try.prog 59 = some (.nilf) := by kernel_rfl
theorem el_59 : El Try.prog 59 1 8 (.nilf) := ⟨by kernel_rfl, by kernel_rfl, rfl⟩
theorem ni_59 : notInt Try.prog 59 = true := by kernel_rfl
theorem ia_60 : isAggB Try.prog 60 = some false := by kernel_rfl
theorem sz_60 : sizeE Try.prog 60 = some 1 := by kernel_rfl
theorem ze_60 : zeroE Try.prog 60 = some (.nilf) := by kernel_rfl
theorem el_60 : El Try.prog 60 1 8 (.nilf) := ⟨by kernel_rfl, by kernel_rfl, rfl⟩
theorem ni_60 : notInt Try.prog 60 = true := by kernel_rfl
theorem ia_61 : isAggB Try.prog 61 = some false := by kernel_rfl
theorem sz_61 : sizeE Try.prog 61 = some 1 := by kernel_rfl
theorem ze_61 : zeroE Try.prog 61 = some (.nilf) := by kernel_rfl
theorem el_61 : El Try.prog 61 1 8 (.nilf) := ⟨by kernel_rfl, by kernel_rfl, rfl⟩
theorem ni_61 : notInt Try.prog 61 = true := by kernel_rfl
theorem ia_62 : isAggB Try.prog 62 = some false := by kernel_rfl
theorem sz_62 : sizeE Try.prog 62 = some 1 := by kernel_rfl
theorem ze_62 : zeroE Try.prog 62 = some (.nilf) := by kernel_rfl
theorem el_62 : El Try.prog 62 1 8 (.nilf) := ⟨by kernel_rfl, by kernel_rfl, rfl⟩
theorem ni_62 : notInt Try.prog 62 = true := by kernel_rfl
theorem ia_63 : isAggB Try.prog 63 = some false := by kernel_rfl
theorem sz_63 : sizeE Try.prog 63 = some 1 := by kernel_rfl
theorem ni_63 : notInt Try.prog 63 = true := by kernel_rfl
theorem ia_64 : isAggB Try.prog 64 = some false := by kernel_rfl
theorem sz_64 : sizeE Try.prog 64 = some 1 := by kernel_rfl
theorem ze_64 : zeroE Try.prog 64 = some (.nilf) := by kernel_rfl
theorem el_64 : El Try.prog 64 1 8 (.nilf) := ⟨by kernel_rfl, by kernel_rfl, rfl⟩
theorem ni_64 : notInt Try.prog 64 = true := by kernel_rfl
theorem ia_65 : isAggB Try.prog 65 = some false := by kernel_rfl
theorem sz_65 : sizeE Try.prog 65 = some 1 := by kernel_rfl
theorem ze_65 : zeroE Try.prog 65 = some (.nilf) := by kernel_rfl
theorem el_65 : El Try.prog 65 1 8 (.nilf) := ⟨by kernel_rfl, by kernel_rfl, rfl⟩
theorem ni_65 : notInt Try.prog 65 = true := by kernel_rfl
theorem ia_66 : isAggB Try.prog 66 = some false := by kernel_rfl
theorem sz_66 : sizeE Try.prog 66 = some 1 := by kernel_rfl
theorem ze_66 : zeroE Try.prog 66 = some (.nilf) := by kernel_rfl
theorem el_66 : El Try.prog 66 1 8 (.nilf) := ⟨by kernel_rfl, by kernel_rfl, rfl⟩
theorem ni_66 : notInt Try.prog 66 = true := by kernel_rfl
theorem ia_67 : isAggB Try.prog 67 = some false := by kernel_rfl
theorem sz_67 : sizeE Try.prog 67 = some 1 := by kernel_rfl
theorem ze_67 : zeroE Try.prog 67 = some (.nilf) := by kernel_rfl
theorem el_67 : El Try.prog 67 1 8 (.nilf) := ⟨by kernel_rfl, by kernel_rfl, rfl⟩
theorem ni_67 : notInt Try.prog 67 = true := by kernel_rfl
theorem ia_68 : isAggB Try.prog 68 = some false := by kernel_rfl
theorem sz_68 : sizeE Try.prog 68 = some 1 := by kernel_rfl
theorem ze_68 : zeroE Try.prog 68 = some (.nilf) := by kernel_rfl
theorem el_68 : El Try.prog 68 1 8 (.nilf) := ⟨by kernel_rfl, by kernel_rfl, rfl⟩
theorem ni_68 : notInt Try.prog 68 = true := by kernel_rfl
theorem ia_69 : isAggB Try.prog 69 = some true := by kernel_rfl
theorem sz_69 : sizeE Try.prog 69 = some 2 := by kernel_rfl
theorem ze_69 : zeroE Try.prog 69 = some (.agg [.int .i64 (0), .int .i64 (0)]) := by kernel_rfl
theorem fo_69_0 : fieldOff Try.prog 69 0 = some 0 := by kernel_rfl
theorem fo_69_1 : fieldOff Try.prog 69 1 = some 1 := by kernel_rfl
theorem bs_69 (parts : List (Nat × AV)) : buildE Try.prog 69 parts = match fillE (fun i => [(0, 1), (1, 1)][i]?) [.int .i64 (0), .int .i64 (0)] parts with | some cs => some (.agg cs) | none => none := by kernel_rfl
theorem el_69 : El Try.prog 69 2 16 (.agg [.int .i64 (0), .int .i64 (0)]) := ⟨by kernel_rfl, by kernel_rfl, rfl⟩
theorem ni_69 : notInt Try.prog 69 = true := by kernel_rfl
theorem ia_70 : isAggB Try.prog 70 = some true := by kernel_rfl
theorem sz_70 : sizeE Try.prog 70 = some 2 := by kernel_rfl
theorem ze_70 : zeroE Try.prog 70 = some (.agg [.int .i64 (0), .int .i64 (0)]) := by kernel_rfl
theorem fo_70_0 : fieldOff Try.prog 70 0 = some 0 := by kernel_rfl
theorem fo_70_1 : fieldOff Try.prog 70 1 = some 1 := by kernel_rfl
theorem bs_70 (parts : List (Nat × AV)) : buildE Try.prog 70 parts = match fillE (fun i => [(0, 1), (1, 1)][i]?) [.int .i64 (0), .int .i64 (0)] parts with | some cs => some (.agg cs) | none => none := by kernel_rfl
theorem el_70 : El Try.prog 70 2 16 (.agg [.int .i64 (0), .int .i64 (0)]) := ⟨by kernel_rfl, by kernel_rfl, rfl⟩
theorem ni_70 : notInt Try.prog 70 = true := by kernel_rfl
theorem ia_71 : isAggB Try.prog 71 = some false := by kernel_rfl
theorem sz_71 : sizeE Try.prog 71 = some 1 := by kernel_rfl
theorem ze_71 : zeroE Try.prog 71 = some (.nilf) := by kernel_rfl
theorem el_71 : El Try.prog 71 1 8 (.nilf) := ⟨by kernel_rfl, by kernel_rfl, rfl⟩
theorem ni_71 : notInt Try.prog 71 = true := by kernel_rfl
theorem ia_72 : isAggB Try.prog 72 = some false := by kernel_rfl
theorem sz_72 : sizeE Try.prog 72 = some 1 := by kernel_rfl
theorem ze_72 : zeroE Try.prog 72 = some (.nilf) := by kernel_rfl
theorem el_72 : El Try.prog 72 1 8 (.nilf) := ⟨by kernel_rfl, by kernel_rfl, rfl⟩
theorem ni_72 : notInt Try.prog 72 = true := by kernel_rfl
theorem ia_73 : isAggB Try.prog 73 = some false := by kernel_rfl
theorem sz_73 : sizeE Try.prog 73 = some 1 := by kernel_rfl
theorem ze_73 : zeroE Try.prog 73 = some (.nilf) := by kernel_rfl
theorem el_73 : El Try.prog 73 1 8 (.nilf) := ⟨by kernel_rfl, by kernel_rfl, rfl⟩
theorem ni_73 : notInt Try.prog 73 = true := by kernel_rfl
theorem ia_74 : isAggB Try.prog 74 = some true := by kernel_rfl
theorem sz_74 : sizeE Try.prog 74 = some 5 := by kernel_rfl
theorem ze_74 : zeroE Try.prog 74 = some (.agg [.int .i64 (0), .int .i64 (0), .int .i64 (0), .int .i64 (0), .int .i64 (0)]) := by kernel_rfl
theorem fo_74_0 : fieldOff Try.prog 74 0 = some 0 := by kernel_rfl
theorem fo_74_1 : fieldOff Try.prog 74 1 = some 2 := by kernel_rfl
theorem fo_74_2 : fieldOff Try.prog 74 2 = some 3 := by kernel_rfl
theorem fo_74_3 : fieldOff Try.prog 74 3 = some 4 := by kernel_rfl
theorem bs_74 (parts : List (Nat × AV)) : buildE Try.prog 74 parts = match fillE (fun i => [(0, 2), (2, 1), (3, 1), (4, 1)][i]?) [.int .i64 (0), .int .i64 (0), .int .i64 (0), .int .i64 (0), .int .i64 (0)] parts with | some cs => some (.agg cs) | none => none := by kernel_rfl
theorem el_74 : El Try.prog 74 5 40 (.agg [.int .i64 (0), .int .i64 (0), .int .i64 (0), .int .i64 (0), .int .i64 (0)]) := ⟨by kernel_rfl, by kernel_rfl, rfl⟩
theorem ni_74 : notInt Try.prog 74 = true := by kernel_rfl
theorem ia_75 : isAggB Try.prog 75 = some true := by kernel_rfl
theorem sz_75 : sizeE Try.prog 75 = some 5 := by kernel_rfl
theorem ze_75 : zeroE Try.prog 75 = some (.agg [.int .i64 (0), .int .i64 (0), .int .i64 (0), .int .i64 (0), .int .i64 (0)]) := by kernel_rfl
theorem fo_75_0 : fieldOff Try.prog 75 0 = some 0 := by kernel_rfl
theorem fo_75_1 : fieldOff Try.prog 75 1 = some 2 := by kernel_rfl
theorem fo_75_2 : fieldOff Try.prog 75 2 = some 3 := by kernel_rfl
theorem fo_75_3 : fieldOff Try.prog 75 3 = some 4 := by kernel_rfl
theorem bs_75 (parts : List (Nat × AV)) : buildE Try.prog 75 parts = match fillE (fun i => [(0, 2), (2, 1), (3, 1), (4, 1)][i]?) [.int .i64 (0), .int .i64 (0), .int .i64 (0), .int .i64 (0), .int .i64 (0)] parts with | some cs => some (.agg cs) | none => none := by kernel_rfl
theorem el_75 : El Try.prog 75 5 40 (.agg [.int .i64 (0), .int .i64 (0), .int .i64 (0), .int .i64 (0), .int .i64 (0)]) := ⟨by kernel_rfl, by kernel_rfl, rfl⟩
theorem ni_75 : notInt Try.prog 75 = true := by kernel_rfl
theorem ia_76 : isAggB Try.prog 76 = some false := by kernel_rfl
theorem sz_76 : sizeE Try.prog 76 = some 1 := by kernel_rfl
theorem ze_76 : zeroE Try.prog 76 = some (.nilf) := by kernel_rfl
theorem el_76 : El Try.prog 76 1 8 (.nilf) := ⟨by kernel_rfl, by kernel_rfl, rfl⟩
theorem ni_76 : notInt Try.prog 76 = true := by kernel_rfl
theorem ia_77 : isAggB Try.prog 77 = some false := by kernel_rfl
theorem sz_77 : sizeE Try.prog 77 = some 1 := by kernel_rfl
theorem ze_77 : zeroE Try.prog 77 = some (.nilf) := by kernel_rfl
theorem el_77 : El Try.prog 77 1 8 (.nilf) := ⟨by kernel_rfl, by kernel_rfl, rfl⟩
theorem ni_77 : notInt Try.prog 77 = true := by kernel_rfl
theorem ia_78 : isAggB Try.prog 78 = some false := by kernel_rfl
theorem sz_78 : sizeE Try.prog 78 = some 1 := by kernel_rfl
theorem ze_78 : zeroE Try.prog 78 = some (.nilf) := by kernel_rfl
theorem el_78 : El Try.prog 78 1 8 (.nilf) := ⟨by kernel_rfl, by kernel_rfl, rfl⟩
theorem ni_78 : notInt Try.prog 78 = true := by kernel_rfl
theorem ia_79 : isAggB Try.prog 79 = some false := by kernel_rfl
theorem sz_79 : sizeE Try.prog 79 = some 1 := by kernel_rfl
theorem ni_79 : notInt Try.prog 79 = true := by kernel_rfl
theorem ia_80 : isAggB Try.prog 80 = some false := by kernel_rfl
theorem sz_80 : sizeE Try.prog 80 = some 1 := by kernel_rfl
theorem ze_80 : zeroE Try.prog 80 = some (.nilf) := by kernel_rfl
theorem el_80 : El Try.prog 80 1 8 (.nilf) := ⟨by kernel_rfl, by kernel_rfl, rfl⟩
theorem ni_80 : notInt Try.prog 80 = true := by kernel_rfl
theorem ia_81 : isAggB Try.prog 81 = some false := by kernel_rfl
theorem sz_81 : sizeE Try.prog 81 = some 1 := by kernel_rfl
theorem ni_81 : notInt Try.prog 81 = true := by kernel_rfl
theorem ia_82 : isAggB Try.prog 82 = some false := by kernel_rfl
theorem sz_82 : sizeE Try.prog 82 = some 1 := by kernel_rfl
theorem ze_82 : zeroE Try.prog 82 = some (.nilf) := by kernel_rfl
theorem el_82 : El Try.prog 82 1 8 (.nilf) := ⟨by kernel_rfl, by kernel_rfl, rfl⟩
theorem ni_82 : notInt Try.prog 82 = true := by kernel_rfl
theorem ia_83 : isAggB Try.prog 83 = some false := by kernel_rfl
theorem sz_83 : sizeE Try.prog 83 = some 1 := by kernel_rfl
theorem ze_83 : zeroE Try.prog 83 = some (.nilf) := by kernel_rfl
theorem el_83 : El Try.prog 83 1 8 (.nilf) := ⟨by kernel_rfl, by kernel_rfl, rfl⟩
theorem ni_83 : notInt Try.prog 83 = true := by kernel_rfl
theorem ia_84 : isAggB Try.prog 84 = some false := by kernel_rfl
theorem sz_84 : sizeE Try.prog 84 = some 1 := by kernel_rfl
theorem ze_84 : zeroE Try.prog 84 = some (.nilf) := by kernel_rfl
theorem el_84 : El Try.prog 84 1 8 (.nilf) := ⟨by kernel_rfl, by kernel_rfl, rfl⟩
theorem ni_84 : notInt Try.prog 84 = true := by kernel_rfl
theorem ia_85 : isAggB Try.prog 85 = some false := by kernel_rfl
theorem sz_85 : sizeE Try.prog 85 = some 1 := by kernel_rfl
theorem ze_85 : zeroE Try.prog 85 = some (.nilf) := by kernel_rfl
theorem el_85 : El Try.prog 85 1 8 (.nilf) := ⟨by kernel_rfl, by kernel_rfl, rfl⟩
theorem ni_85 : notInt Try.prog 85 = true := by kernel_rfl
theorem ia_86 : isAggB Try.prog 86 = some false := by kernel_rfl
theorem sz_86 : sizeE Try.prog 86 = some 1 := by kernel_rfl
theorem ze_86 : zeroE Try.prog 86 = some (.nilf) := by kernel_rfl
theorem el_86 : El Try.prog 86 1 8 (.nilf) := ⟨by kernel_rfl, by kernel_rfl, rfl⟩
theorem ni_86 : notInt Try.prog 86 = true := by kernel_rfl
theorem ia_87 : isAggB Try.prog 87 = some false := by kernel_rfl
theorem sz_87 : sizeE Try.prog 87 = some 1 := by kernel_rfl
theorem ni_87 : notInt Try.prog 87 = true := by kernel_rfl
theorem ia_88 : isAggB Try.prog 88 = some false := by kernel_rfl
theorem sz_88 : sizeE Try.prog 88 = some 1 := by kernel_rfl
theorem ze_88 : zeroE Try.prog 88 = some (.nilf) := by kernel_rfl
theorem el_88 : El Try.prog 88 1 8 (.nilf) := ⟨by kernel_rfl, by kernel_rfl, rfl⟩
theorem ni_88 : notInt Try.prog 88 = true := by kernel_rfl
theorem ia_89 : isAggB Try.prog 89 = some false := by kernel_rfl
theorem sz_89 : sizeE Try.prog 89 = some 1 := by kernel_rfl
theorem ze_89 : zeroE Try.prog 89 = some (.nilf) := by kernel_rfl
theorem el_89 : El Try.prog 89 1 8 (.nilf) := ⟨by kernel_rfl, by kernel_rfl, rfl⟩
theorem ni_89 : notInt Try.prog 89 = true := by kernel_rfl
theorem ia_90 : isAggB Try.prog 90 = some true := by kernel_rfl
theorem sz_90 : sizeE Try.prog 90 = some 2 := by kernel_rfl
theorem ze_90 : zeroE Try.prog 90 = some (.agg [.int .i64 (0), .int .i64 (0)]) := by kernel_rfl
theorem fo_90_0 : fieldOff Try.prog 90 0 = some 0 := by kernel_rfl
theorem fo_90_1 : fieldOff Try.prog 90 1 = some 1 := by kernel_rfl
theorem bs_90 (parts : List (Nat × AV)) : buildE Try.prog 90 parts = match fillE (fun i => [(0, 1), (1, 1)][i]?) [.int .i64 (0), .int .i64 (0)] parts with | some cs => some (.agg cs) | none => none := by kernel_rfl
theorem el_90 : El Try.prog 90 2 16 (.agg [.int .i64 (0), .int .i64 (0)]) := ⟨by kernel_rfl, by kernel_rfl, rfl⟩
theorem ni_90 : notInt Try.prog 90 = true := by kernel_rfl
theorem ia_91 : isAggB Try.prog 91 = some true := by kernel_rfl
theorem sz_91 : sizeE Try.prog 91 = some 2 := by kernel_rfl
theorem ze_91 : zeroE Try.prog 91 = some (.agg [.int .i64 (0), .int .i64 (0)]) := by kernel_rfl
theorem fo_91_0 : fieldOff Try.prog 91 0 = some 0 := by kernel_rfl
theorem fo_91_1 : fieldOff Try.prog 91 1 = some 1 := by kernel_rfl
theorem bs_91 (parts : List (Nat × AV)) : buildE Try.prog 91 parts = match fillE (fun i => [(0, 1), (1, 1)][i]?) [.int .i64 (0), .int .i64 (0)] parts with | some cs => some (.agg cs) | none => none := by kernel_rfl
theorem el_91 : El Try.prog 91 2 16 (.agg [.int .i64 (0), .int .i64 (0)]) := ⟨by kernel_rfl, by kernel_rfl, rfl⟩
theorem ni_91 : notInt Try.prog 91 = true := by kernel_rfl
theorem ia_92 : isAggB Try.prog 92 = some false := by kernel_rfl
theorem sz_92 : sizeE Try.prog 92 = some 1 := by kernel_rfl
theorem ze_92 : zeroE Try.prog 92 = some (.nilf) := by kernel_rfl
theorem el_92 : El Try.prog 92 1 8 (.nilf) := ⟨by kernel_rfl, by kernel_rfl, rfl⟩
theorem ni_92 : notInt Try.prog 92 = true := by kernel_rfl
theorem ia_93 : isAggB Try.prog 93 = some false := by kernel_rfl
theorem sz_93 : sizeE Try.prog 93 = some 1 := by kernel_rfl
theorem ze_93 : zeroE Try.prog 93 = some (.nilf) := by kernel_rfl
theorem el_93 : El Try.prog 93 1 8 (.nilf) := ⟨by kernel_rfl, by kernel_rfl, rfl⟩
theorem ni_93 : notInt Try.prog 93 = true := by kernel_rfl
theorem ia_94 : isAggB Try.prog 94 = some true := by kernel_rfl
theorem sz_94 : sizeE Try.prog 94 = some 10 := by kernel_rfl
theorem ze_94 : zeroE Try.prog 94 = some (.agg [.int .i64 (0), .int .i64 (0), .int .i64 (0), .int .i64 (0), .int .i64 (0), .int .i64 (0), .int .i64 (0), .int .i64 (0), .int .i64 (0), .int .i64 (0)]) := by kernel_rfl
theorem bs_94 (parts : List (Nat × AV)) : buildE Try.prog 94 parts = match fillE (fun i => some (i * 1, 1)) [.int .i64 (0), .int .i64 (0), .int .i64 (0), .int .i64 (0), .int .i64 (0), .int .i64 (0), .int .i64 (0), .int .i64 (0), .int .i64 (0), .int .i64 (0)] parts with | some cs => some (.agg cs) | none => none := by kernel_rfl
theorem el_94 : El Try.prog 94 10 80 (.agg [.int .i64 (0), .int .i64 (0), .int .i64 (0), .int .i64 (0), .int .i64 (0), .int .i64 (0), .int .i64 (0), .int .i64 (0), .int .i64 (0), .int .i64 (0)]) := ⟨by kernel_rfl, by kernel_rfl, rfl⟩
theorem ik_94 : idxKind Try.prog 94 = some (some 10, 1) := by kernel_rfl
theorem un_94 : Try.prog.underlying 94 = some (.array 10 2) := Try.underlying94
theorem ni_94 : notInt Try.prog 94 = true := by kernel_rfl
theorem ia_95 : isAggB Try.prog 95 = some false := by kernel_rfl
theorem sz_95 : sizeE Try.prog 95 = some 1 := by kernel_rfl
theorem ze_95 : zeroE Try.prog 95 = some (.nilf) := by kernel_rfl
theorem el_95 : El Try.prog 95 1 8 (.nilf) := ⟨by kernel_rfl, by kernel_rfl, rfl⟩
theorem ni_95 : notInt Try.prog 95 = true := by kernel_rfl
theorem ia_96 : isAggB Try.prog 96 = some false := by kernel_rfl
theorem sz_96 : sizeE Try.prog 96 = some 1 := by kernel_rfl
theorem ze_96 : zeroE Try.prog 96 = some (.nilf) := by kernel_rfl
theorem el_96 : El Try.prog 96 1 8 (.nilf) := ⟨by kernel_rfl, by kernel_rfl, rfl⟩
theorem ni_96 : notInt Try.prog 96 = true := by kernel_rfl
theorem ia_97 : isAggB Try.prog 97 = some false := by kernel_rfl
theorem sz_97 : sizeE Try.prog 97 = some 1 := by kernel_rfl
theorem ni_97 : notInt Try.prog 97 = true := by kernel_rfl
theorem ia_98 : isAggB Try.prog 98 = some false := by kernel_rfl
theorem sz_98 : sizeE Try.prog 98 = some 1 := by kernel_rfl
theorem ze_98 : zeroE Try.prog 98 = some (.nilf) := by kernel_rfl
theorem el_98 : El Try.prog 98 1 8 (.nilf) := ⟨by kernel_rfl, by kernel_rfl, rfl⟩
theorem ni_98 : notInt Try.prog 98 = true := by kernel_rfl
theorem ia_99 : isAggB Try.prog 99 = some false := by kernel_rfl
theorem sz_99 : sizeE Try.prog 99 = some 1 := by kernel_rfl
theorem ze_99 : zeroE Try.prog 99 = some (.nilf) := by kernel_rfl
theorem el_99 : El Try.prog 99 1 8 (.nilf) := ⟨by kernel_rfl, by kernel_rfl, rfl⟩
theorem ni_99 : notInt Try.prog 99 = true := by kernel_rfl
theorem ia_100 : isAggB Try.prog 100 = some false := by kernel_rfl
theorem sz_100 : sizeE Try.prog 100 = some 1 := by kernel_rfl
theorem ze_100 : zeroE Try.prog 100 = some (.nilf) := by kernel_rfl
theorem el_100 : El Try.prog 100 1 8 (.nilf) := ⟨by kernel_rfl, by kernel_rfl, rfl⟩
theorem ni_100 : notInt Try.prog 100 = true := by kernel_rfl
theorem ia_101 : isAggB Try.prog 101 = some false := by kernel_rfl
theorem sz_101 : sizeE Try.prog 101 = some 1 := by kernel_rfl
theorem ze_101 : zeroE Try.prog 101 = some (.nilf) := by kernel_rfl
theorem el_101 : El Try.prog 101 1 8 (.nilf) := ⟨by kernel_rfl, by kernel_rfl, rfl⟩
theorem ni_101 : notInt Try.prog 101 = true := by kernel_rfl
theorem ia_102 : isAggB Try.prog 102 = some true := by kernel_rfl
theorem sz_102 : sizeE Try.prog 102 = some 4 := by kernel_rfl
theorem ze_102 : zeroE Try.prog 102 = some (.agg [.nilp, .nilp, .nilp, .str ⟨#[]⟩]) := by kernel_rfl
theorem fo_102_0 : fieldOff Try.prog 102 0 = some 0 := by kernel_rfl
theorem fo_102_1 : fieldOff Try.prog 102 1 = some 1 := by kernel_rfl
theorem fo_102_2 : fieldOff Try.prog 102 2 = some 2 := by kernel_rfl
theorem fo_102_3 : fieldOff Try.prog 102 3 = some 3 := by kernel_rfl
theorem bs_102 (parts : List (Nat × AV)) : buildE Try.prog 102 parts = match fillE (fun i => [(0, 1), (1, 1), (2, 1), (3, 1)][i]?) [.nilp, .nilp, .nilp, .str ⟨#[]⟩] parts with | some cs => some (.agg cs) | none => none := by kernel_rfl
theorem el_102 : El Try.prog 102 4 40 (.agg [.nilp, .nilp, .nilp, .str ⟨#[]⟩]) := ⟨by kernel_rfl, by kernel_rfl, rfl⟩
theorem ni_102 : notInt Try.prog 102 = true := by kernel_rfl
theorem ia_103 : isAggB Try.prog 103 = some true := by kernel_rfl
theorem sz_103 : sizeE Try.prog 103 = some 4 := by kernel_rfl
theorem ze_103 : zeroE Try.prog 103 = some (.agg [.nilp, .nilp, .nilp, .str ⟨#[]⟩]) := by kernel_rfl
theorem fo_103_0 : fieldOff Try.prog 103 0 = some 0 := by kernel_rfl
theorem fo_103_1 : fieldOff Try.prog 103 1 = some 1 := by kernel_rfl
theorem fo_103_2 : fieldOff Try.prog 103 2 = some 2 := by kernel_rfl
theorem fo_103_3 : fieldOff Try.prog 103 3 = some 3 := by kernel_rfl
theorem bs_103 (parts : List (Nat × AV)) : buildE Try.prog 103 parts = match fillE (fun i => [(0, 1), (1, 1), (2, 1), (3, 1)][i]?) [.nilp, .nilp, .nilp, .str ⟨#[]⟩] parts with | some cs => some (.agg cs) | none => none := by kernel_rfl
theorem el_103 : El Try.prog 103 4 40 (.agg [.nilp, .nilp, .nilp, .str ⟨#[]⟩]) := ⟨by kernel_rfl, by kernel_rfl, rfl⟩
theorem ni_103 : notInt Try.prog 103 = true := by kernel_rfl
theorem ia_104 : isAggB Try.prog 104 = some true := by kernel_rfl
theorem sz_104 : sizeE Try.prog 104 = some 0 := by kernel_rfl
theorem ze_104 : zeroE Try.prog 104 = some (.agg []) := by kernel_rfl
theorem bs_104 (parts : List (Nat × AV)) : buildE Try.prog 104 parts = match fillE (fun i => some (i * 1, 1)) [] parts with | some cs => some (.agg cs) | none => none := by kernel_rfl
theorem el_104 : El Try.prog 104 0 0 (.agg []) := ⟨by kernel_rfl, by kernel_rfl, rfl⟩
theorem ik_104 : idxKind Try.prog 104 = some (some 0, 1) := by kernel_rfl
theorem un_104 : Try.prog.underlying 104 = some (.array 0 16) := Try.underlying104
theorem ni_104 : notInt Try.prog 104 = true := by kernel_rfl
theorem ia_105 : isAggB Try.prog 105 = some true := by kernel_rfl
theorem sz_105 : sizeE Try.prog 105 = some 0 := by kernel_rfl
theorem ze_105 : zeroE Try.prog 105 = some (.agg []) := by kernel_rfl
theorem bs_105 (parts : List (Nat × AV)) : buildE Try.prog 105 parts = match fillE (fun i => [(0, 0)][i]?) [] parts with | some cs => some (.agg cs) | none => none := by kernel_rfl
theorem el_105 : El Try.prog 105 0 0 (.agg []) := ⟨by kernel_rfl, by kernel_rfl, rfl⟩
theorem ni_105 : notInt Try.prog 105 = true := by kernel_rfl
theorem ia_106 : isAggB Try.prog 106 = some true := by kernel_rfl
theorem sz_106 : sizeE Try.prog 106 = some 0 := by kernel_rfl
theorem ze_106 : zeroE Try.prog 106 = some (.agg []) := by kernel_rfl
theorem bs_106 (parts : List (Nat × AV)) : buildE Try.prog 106 parts = match fillE (fun i => [(0, 0)][i]?) [] parts with | some cs => some (.agg cs) | none => none := by kernel_rfl
theorem el_106 : El Try.prog 106 0 0 (.agg []) := ⟨by kernel_rfl, by kernel_rfl, rfl⟩
theorem ni_106 : notInt Try.prog 106 = true := by kernel_rfl
theorem ia_107 : isAggB Try.prog 107 = some false := by kernel_rfl
theorem sz_107 : sizeE Try.prog 107 = some 1 := by kernel_rfl
theorem ze_107 : zeroE Try.prog 107 = some (.int .u32 (0)) := by kernel_rfl
theorem el_107 : El Try.prog 107 1 4 (.int .u32 (0)) := ⟨by kernel_rfl, by kernel_rfl, rfl⟩
theorem un_107 : Try.prog.underlying 107 = some (.int .u32) := Try.underlying107
theorem ia_108 : isAggB Try.prog 108 = some false := by kernel_rfl
theorem sz_108 : sizeE Try.prog 108 = some 1 := by kernel_rfl
theorem ze_108 : zeroE Try.prog 108 = some (.int .u8 (0)) := by kernel_rfl
theorem el_108 : El Try.prog 108 1 1 (.int .u8 (0)) := ⟨by kernel_rfl, by kernel_rfl, rfl⟩
theorem un_108 : Try.prog.underlying 108 = some (.int .u8) := Try.underlying108
theorem ia_109 : isAggB Try.prog 109 = some false := by kernel_rfl
theorem sz_109 : sizeE Try.prog 109 = some 1 := by kernel_rfl
theorem ze_109 : zeroE Try.prog 109 = some (.int .u8 (0)) := by kernel_rfl
theorem el_109 : El Try.prog 109 1 1 (.int .u8 (0)) := ⟨by kernel_rfl, by kernel_rfl, rfl⟩
theorem un_109 : Try.prog.underlying 109 = some (.int .u8) := Try.underlying109
theorem ia_110 : isAggB Try.prog 110 = some false := by kernel_rfl
theorem sz_110 : sizeE Try.prog 110 = some 1 := by kernel_rfl
theorem ze_110 : zeroE Try.prog 110 = some (.nilf) := by kernel_rfl
theorem el_110 : El Try.prog 110 1 8 (.nilf) := ⟨by kernel_rfl, by kernel_rfl, rfl⟩
theorem ni_110 : notInt Try.prog 110 = true := by kernel_rfl
theorem ia_111 : isAggB Try.prog 111 = some false := by kernel_rfl
theorem sz_111 : sizeE Try.prog 111 = some 1 := by kernel_rfl
theorem ze_111 : zeroE Try.prog 111 = some (.nilp) := by kernel_rfl
theorem el_111 : El Try.prog 111 1 8 (.nilp) := ⟨by kernel_rfl, by kernel_rfl, rfl⟩
theorem ni_111 : notInt Try.prog 111 = true := by kernel_rfl
theorem ia_112 : isAggB Try.prog 112 = some false := by kernel_rfl
theorem sz_112 : sizeE Try.prog 112 = some 1 := by kernel_rfl
theorem ze_112 : zeroE Try.prog 112 = some (.int .i32 (0)) := by kernel_rfl
theorem el_112 : El Try.prog 112 1 4 (.int .i32 (0)) := ⟨by kernel_rfl, by kernel_rfl, rfl⟩
theorem un_112 : Try.prog.underlying 112 = some (.int .i32) := Try.underlying112
theorem ia_113 : isAggB Try.prog 113 = some false := by kernel_rfl
theorem sz_113 : sizeE Try.prog 113 = some 1 := by kernel_rfl
theorem ze_113 : zeroE Try.prog 113 = some (.int .i32 (0)) := by kernel_rfl
theorem el_113 : El Try.prog 113 1 4 (.int .i32 (0)) := ⟨by kernel_rfl, by kernel_rfl, rfl⟩
theorem un_113 : Try.prog.underlying 113 = some (.int .i32) := Try.underlying113
theorem ia_114 : isAggB Try.prog 114 = some true := by kernel_rfl
theorem sz_114 : sizeE Try.prog 114 = some 11 := by kernel_rfl
theorem ze_114 : zeroE Try.prog 114 = some (.agg [.int .u64 (0), .int .u64 (0), .int .u32 (0), .int .u8 (0), .int .u8 (0), .int .u8 (0), .int .u8 (0), .nilf, .nilp, .int .i32 (0), .int .i32 (0)]) := by kernel_rfl
theorem fo_114_0 : fieldOff Try.prog 114 0 = some 0 := by kernel_rfl
theorem fo_114_1 : fieldOff Try.prog 114 1 = some 1 := by kernel_rfl
theorem fo_114_2 : fieldOff Try.prog 114 2 = some 2 := by kernel_rfl
theorem fo_114_3 : fieldOff Try.prog 114 3 = some 3 := by kernel_rfl
theorem fo_114_4 : fieldOff Try.prog 114 4 = some 4 := by kernel_rfl
theorem fo_114_5 : fieldOff Try.prog 114 5 = some 5 := by kernel_rfl
theorem fo_114_6 : fieldOff Try.prog 114 6 = some 6 := by kernel_rfl
theorem fo_114_7 : fieldOff Try.prog 114 7 = some 7 := by kernel_rfl
theorem fo_114_8 : fieldOff Try.prog 114 8 = some 8 := by kernel_rfl
theorem fo_114_9 : fieldOff Try.prog 114 9 = some 9 := by kernel_rfl
theorem fo_114_10 : fieldOff Try.prog 114 10 = some 10 := by kernel_rfl
theorem bs_114 (parts : List (Nat × AV)) : buildE Try.prog 114 parts = match fillE (fun i => [(0, 1), (1, 1), (2, 1), (3, 1), (4, 1), (5, 1), (6, 1), (7, 1), (8, 1), (9, 1), (10, 1)][i]?) [.int .u64 (0), .int .u64 (0), .int .u32 (0), .int .u8 (0), .int .u8 (0), .int .u8 (0), .int .u8 (0), .nilf, .nilp, .int .i32 (0), .int .i32 (0)] parts with | some cs => some (.agg cs) | none => none := by kernel_rfl
theorem el_114 : El Try.prog 114 11 48 (.agg [.int .u64 (0), .int .u64 (0), .int .u32 (0), .int .u8 (0), .int .u8 (0), .int .u8 (0), .int .u8 (0), .nilf, .nilp, .int .i32 (0), .int .i32 (0)]) := ⟨by kernel_rfl, by kernel_rfl, rfl⟩
theorem ni_114 : notInt Try.prog 114 = true := by kernel_rfl
theorem ia_115 : isAggB Try.prog 115 = some true := by kernel_rfl
theorem sz_115 : sizeE Try.prog 115 = some 11 := by kernel_rfl
theorem ze_115 : zeroE Try.prog 115 = some (.agg [.int .u64 (0), .int .u64 (0), .int .u32 (0), .int .u8 (0), .int .u8 (0), .int .u8 (0), .int .u8 (0), .nilf, .nilp, .int .i32 (0), .int .i32 (0)]) := by kernel_rfl
theorem fo_115_0 : fieldOff Try.prog 115 0 = some 0 := by kernel_rfl
theorem fo_115_1 : fieldOff Try.prog 115 1 = some 1 := by kernel_rfl
theorem fo_115_2 : fieldOff Try.prog 115 2 = some 2 := by kernel_rfl
theorem fo_115_3 : fieldOff Try.prog 115 3 = some 3 := by kernel_rfl
theorem fo_115_4 : fieldOff Try.prog 115 4 = some 4 := by kernel_rfl
theorem fo_115_5 : fieldOff Try.prog 115 5 = some 5 := by kernel_rfl
theorem fo_115_6 : fieldOff Try.prog 115 6 = some 6 := by kernel_rfl
theorem fo_115_7 : fieldOff Try.prog 115 7 = some 7 := by kernel_rfl
theorem fo_115_8 : fieldOff Try.prog 115 8 = some 8 := by kernel_rfl
theorem fo_115_9 : fieldOff Try.prog 115 9 = some 9 := by kernel_rfl
theorem fo_115_10 : fieldOff Try.prog 115 10 = some 10 := by kernel_rfl
theorem bs_115 (parts : List (Nat × AV)) : buildE Try.prog 115 parts = match fillE (fun i => [(0, 1), (1, 1), (2, 1), (3, 1), (4, 1), (5, 1), (6, 1), (7, 1), (8, 1), (9, 1), (10, 1)][i]?) [.int .u64 (0), .int .u64 (0), .int .u32 (0), .int .u8 (0), .int .u8 (0), .int .u8 (0), .int .u8 (0), .nilf, .nilp, .int .i32 (0), .int .i32 (0)] parts with | some cs => some (.agg cs) | none => none := by kernel_rfl
theorem el_115 : El Try.prog 115 11 48 (.agg [.int .u64 (0), .int .u64 (0), .int .u32 (0), .int .u8 (0), .int .u8 (0), .int .u8 (0), .int .u8 (0), .nilf, .nilp, .int .i32 (0), .int .i32 (0)]) := ⟨by kernel_rfl, by kernel_rfl, rfl⟩
theorem ni_115 : notInt Try.prog 115 = true := by kernel_rfl
theorem ia_116 : isAggB Try.prog 116 = some false := by kernel_rfl
theorem sz_116 : sizeE Try.prog 116 = some 1 := by kernel_rfl
theorem ze_116 : zeroE Try.prog 116 = some (.nilp) := by kernel_rfl
theorem el_116 : El Try.prog 116 1 8 (.nilp) := ⟨by kernel_rfl, by kernel_rfl, rfl⟩
theorem ni_116 : notInt Try.prog 116 = true := by kernel_rfl
theorem pb_2 : plainB Try.prog 2 = true := by kernel_rfl
theorem pb_3 : plainB Try.prog 3 = true := by kernel_rfl
theorem pb_4 : plainB Try.prog 4 = true := by kernel_rfl
theorem pb_5 : plainB Try.prog 5 = true := by kernel_rfl
theorem pb_6 : plainB Try.prog 6 = true := by kernel_rfl
theorem pb_7 : plainB Try.prog 7 = true := by kernel_rfl
theorem pb_8 : plainB Try.prog 8 = true := by kernel_rfl
theorem pb_9 : plainB Try.prog 9 = true := by kernel_rfl
theorem pb_10 : plainB Try.prog 10 = true := by kernel_rfl
theorem pb_11 : plainB Try.prog 11 = true := by kernel_rfl
theorem pb_12 : plainB Try.prog 12 = true := by kernel_rfl
theorem pb_13 : plainB Try.prog 13 = true := by kernel_rfl
theorem pb_14 : plainB Try.prog 14 = true := by kernel_rfl
theorem pb_15 : plainB Try.prog 15 = true := by kernel_rfl
theorem pb_16 : plainB Try.prog 16 = true := by kernel_rfl
theorem pb_17 : plainB Try.prog 17 = true := by kernel_rfl
theorem pb_18 : plainB Try.prog 18 = true := by kernel_rfl
theorem pb_19 : plainB Try.prog 19 = true := by kernel_rfl
theorem pb_20 : plainB Try.prog 20 = true := by kernel_rfl
theorem pb_21 : plainB Try.prog 21 = true := by kernel_rfl
theorem pb_22 : plainB Try.prog 22 = true := by kernel_rfl
theorem pb_23 : plainB Try.prog 23 = true := by kernel_rfl
theorem pb_24 : plainB Try.prog 24 = true := by kernel_rfl
theorem pb_25 : plainB Try.prog 25 = true := by kernel_rfl
theorem pb_26 : plainB Try.prog 26 = true := by kernel_rfl
theorem pb_27 : plainB Try.prog 27 = true := by kernel_rfl
theorem pb_28 : plainB Try.prog 28 = true := by kernel_rfl
theorem pb_29 : plainB Try.prog 29 = true := by kernel_rfl
theorem pb_30 : plainB Try.prog 30 = true := by kernel_rfl
theorem pb_31 : plainB Try.prog 31 = true := by kernel_rfl
theorem pb_32 : plainB Try.prog 32 = true := by kernel_rfl
theorem pb_33 : plainB Try.prog 33 = true := by kernel_rfl
theorem pb_34 : plainB Try.prog 34 = true := by kernel_rfl
theorem pb_35 : plainB Try.prog 35 = true := by kernel_rfl
theorem pb_36 : plainB Try.prog 36 = true := by kernel_rfl
theorem pb_37 : plainB Try.prog 37 = true := by kernel_rfl
theorem pb_38 : plainB Try.prog 38 = true := by kernel_rfl
theorem pb_39 : plainB Try.prog 39 = true := by kernel_rfl
theorem pb_40 : plainB Try.prog 40 = true := by kernel_rfl
theorem pb_41 : plainB Try.prog 41 = true := by kernel_rfl
theorem pb_42 : plainB Try.prog 42 = true := by kernel_rfl
theorem pb_43 : plainB Try.prog 43 = true := by kernel_rfl
theorem pb_44 : plainB Try.prog 44 = true := by kernel_rfl
theorem pb_45 : plainB Try.prog 45 = true := by kernel_rfl
theorem pb_46 : plainB Try.prog 46 = true := by kernel_rfl
theorem pb_47 : plainB Try.prog 47 = true := by kernel_rfl
theorem pb_48 : plainB Try.prog 48 = true := by kernel_rfl
theorem pb_49 : plainB Try.prog 49 = true := by kernel_rfl
theorem pb_50 : plainB Try.prog 50 = true := by kernel_rfl
theorem pb_51 : plainB Try.prog 51 = true := by kernel_rfl
theorem pb_52 : plainB Try.prog 52 = true := by kernel_rfl
theorem pb_53 : plainB Try.prog 53 = true := by kernel_rfl
theorem pb_54 : plainB Try.prog 54 = true := by kernel_rfl
theorem pb_55 : plainB Try.prog 55 = true := by kernel_rfl
theorem pb_56 : plainB Try.prog 56 = true := by kernel_rfl
theorem pb_57 : plainB Try.prog 57 = true := by kernel_rfl
end Go.Proofs.Ytghondkiondeaab
end

/- EvHk -/
section
/-
  The contract of the closed part of layer 2: its text alone.
-/
namespace Go.Proofs.Ytghondkiondeaab
open Go.Ev
noncomputable def cW : Con := ⟨6, [], [], (.bool true), []⟩
noncomputable def KK : List Con := [cW]
end Go.Proofs.Ytghondkiondeaab
end

/- EvH1 -/
section
/-
  LAYER 2: small functions: fractions, weights, ranges.
-/
namespace Go.Proofs.Ytghondkiondeaab
open Go.Ev
set_option maxRecDepth 100000
set_option linter.unusedSimpArgs false
set_option linter.unusedVariables false
set_option maxHeartbeats 2000000
abbrev ii (n : Int) : AV := .int .i64 n
abbrev i63 (n : Int) : Prop := 0 ≤ n ∧ n ≤ 9223372036854775807

theorem gcd_step {a b : Int} (ha : 0 ≤ a) (hb : 0 ≤ b) (h : b ≠ 0) : Int.gcd b (a.tmod b) = Int.gcd a b := by
  rw [Int.tmod_eq_emod_of_nonneg ha]
  obtain ⟨x, rfl⟩ := Int.eq_ofNat_of_zero_le ha
  obtain ⟨y, rfl⟩ := Int.eq_ofNat_of_zero_le hb
  show Nat.gcd y (x % y) = Nat.gcd x y
  rw [Nat.gcd_comm, ← Nat.gcd_rec, Nat.gcd_comm]
theorem tmod_lt {a b : Int} (ha : 0 ≤ a) (hb : 0 ≤ b) (h : b ≠ 0) : 0 ≤ a.tmod b ∧ a.tmod b < b := by
  rw [Int.tmod_eq_emod_of_nonneg ha]
  exact ⟨Int.emod_nonneg _ h, Int.emod_lt_of_pos _ (by omega)⟩

theorem divisor (a b : Int) (ha : i63 a) (hb : i63 b) (h : H) (wf : Wf h) : (om Try.prog KK).call (.fn 57 [ii a, ii b]) h = .ok (ii (Int.gcd a b)) h := by
  refine WV_to (WV_call (fn := Try.f57) Try.func57 rfl rfl rfl rfl rfl ?_)
  simp only [argF]
  (repeat' (first
  | (with_reducible refine WC_seq ?_) | (refine WC_region ?_) | (with_reducible refine WC_skip ?_) | (with_reducible refine WC_label ?_) | (with_reducible refine WC_scope ?_) | (with_reducible refine WC_block ?_) | (with_reducible refine WC_ret ?_) | (with_reducible refine WC_exit ?_)
  | (with_reducible refine seqQ_norm ?_) | (with_reducible refine seqQ_ret ?_) | (with_reducible refine seqQ_exit ?_) | (with_reducible refine blkQ_norm ?_) | (with_reducible refine blkQ_ret ?_) | (with_reducible refine blkQ_here ?_) | (refine blkQ_out rfl ?_)
  | (refine WO_nil ?_)
  | (refine WD_nil ?_)
  | (refine WD_gate rfl rfl rfl rfl rfl fun K_ hK_ => ?_; simp only [upd_apply, asB_bool, asB_tup, ↓reduceIte, reduceCtorEq, Nat.reduceEqDiff, Bool.not_true, Bool.not_false]; refine hK_ _ ?_; clear hK_ K_)
  | (refine WO_gate rfl rfl rfl rfl rfl fun K_ hK_ => ?_; simp only [upd_apply, asB_bool, asB_tup, ↓reduceIte, reduceCtorEq, Nat.reduceEqDiff, Bool.not_true, Bool.not_false]; refine hK_ _ ?_; clear hK_ K_)
  | (with_reducible refine gateK_yes ?_) | (refine gateK_no (by decide) ?_) | (with_reducible refine gateK_none ?_)
  | ((try first | refine WO_op rfl rfl rfl ?_ | refine WO_op0 rfl rfl ?_ | refine WD_op rfl rfl rfl ?_ | refine WD_op0 rfl rfl ?_); (refine WV_gen fun Q_ hQ_ => ?_; simp (disch := first | omega | (simp only [List.length_cons, List.length_nil, List.length_append]; omega)) only [bb, argF, ↓reduceIte, reduceCtorEq, Nat.reduceEqDiff, Nat.reduceLT, Nat.reduceLeDiff, Nat.reduceAdd, Nat.reduceMul, Nat.reduceSub, Nat.reduceBEq, Int.reduceToNat, List.append_assoc, List.length_append, cond_true, cond_false, List.length_cons, List.length_nil, List.cons_append, List.nil_append, List.append_nil, List.getElem?_cons_zero, List.getElem?_cons_succ, List.set_cons_zero, List.set_cons_succ, List.drop_zero, List.drop_succ_cons, List.take_zero, List.take_succ_cons, List.take_nil, List.drop_nil, eq_self, List.toList_toArray, beq_self_eq_true]; first | (refine dec_split (Q := Q_) (fun hp_ => ?_) (fun hp_ => ?_) <;> first | (exfalso; omega) | (refine hQ_ _ _ ?_; clear hQ_ Q_)) | (refine dec_splitn (Q := Q_) (fun hp_ => ?_) (fun hp_ => ?_) <;> first | (exfalso; omega) | (refine hQ_ _ _ ?_; clear hQ_ Q_)) | (refine hQ_ _ _ ?_; clear hQ_ Q_)))
  | (refine WC_cond fun K_ hK_ => ?_; simp (disch := omega) only [evT_tmp, upd_apply, WB_some, ↓reduceIte, reduceCtorEq, Nat.reduceEqDiff, Nat.reduceLT]; refine hK_ _ ?_; clear hK_ K_)
  | (with_reducible refine condK_tt ?_) | (with_reducible refine condK_ff ?_) | (with_reducible refine roundQ_exit ?_) | (with_reducible refine roundQ_ret ?_)))
  refine WC_loop (fun (p : Int × Int) f d h' => i63 p.1 ∧ i63 p.2 ∧ Int.gcd p.1 p.2 = Int.gcd a b ∧ f 0 = ii p.1 ∧ f 1 = ii p.2 ∧ d = [] ∧ h' = X h [] h.clock) (fun p => p.2.toNat) ?_ (b.toNat + 1) (a, b) (by omega) ?_
  · rintro ⟨x, y⟩ f d h' ⟨hx, hy, hg, h0, h1, rfl, rfl⟩
    simp only at hx hy hg h0 h1
    by_cases hz : y = 0
    · subst hz
      (repeat' (first
  | (with_reducible refine WC_seq ?_) | (refine WC_region ?_) | (with_reducible refine WC_skip ?_) | (with_reducible refine WC_label ?_) | (with_reducible refine WC_scope ?_) | (with_reducible refine WC_block ?_) | (with_reducible refine WC_ret ?_) | (with_reducible refine WC_exit ?_)
  | (with_reducible refine seqQ_norm ?_) | (with_reducible refine seqQ_ret ?_) | (with_reducible refine seqQ_exit ?_) | (with_reducible refine blkQ_norm ?_) | (with_reducible refine blkQ_ret ?_) | (with_reducible refine blkQ_here ?_) | (refine blkQ_out rfl ?_)
  | (refine WO_nil ?_)
  | (refine WD_nil ?_)
  | (refine WD_gate rfl rfl rfl rfl rfl fun K_ hK_ => ?_; simp only [upd_apply, asB_bool, asB_tup, ↓reduceIte, reduceCtorEq, Nat.reduceEqDiff, Bool.not_true, Bool.not_false]; refine hK_ _ ?_; clear hK_ K_)
  | (refine WO_gate rfl rfl rfl rfl rfl fun K_ hK_ => ?_; simp only [upd_apply, asB_bool, asB_tup, ↓reduceIte, reduceCtorEq, Nat.reduceEqDiff, Bool.not_true, Bool.not_false]; refine hK_ _ ?_; clear hK_ K_)
  | (with_reducible refine gateK_yes ?_) | (refine gateK_no (by decide) ?_) | (with_reducible refine gateK_none ?_)
  | ((try first | refine WO_op rfl rfl rfl ?_ | refine WO_op0 rfl rfl ?_ | refine WD_op rfl rfl rfl ?_ | refine WD_op0 rfl rfl ?_); (refine WV_gen fun Q_ hQ_ => ?_; simp (disch := first | omega | (simp only [List.length_cons, List.length_nil, List.length_append]; omega)) only [bb, argF, ↓reduceIte, reduceCtorEq, Nat.reduceEqDiff, Nat.reduceLT, Nat.reduceLeDiff, Nat.reduceAdd, Nat.reduceMul, Nat.reduceSub, Nat.reduceBEq, Int.reduceToNat, List.append_assoc, List.length_append, cond_true, cond_false, List.length_cons, List.length_nil, List.cons_append, List.nil_append, List.append_nil, List.getElem?_cons_zero, List.getElem?_cons_succ, List.set_cons_zero, List.set_cons_succ, List.drop_zero, List.drop_succ_cons, List.take_zero, List.take_succ_cons, List.take_nil, List.drop_nil, eq_self, List.toList_toArray, beq_self_eq_true, h0, h1]; first | (refine dec_split (Q := Q_) (fun hp_ => ?_) (fun hp_ => ?_) <;> first | (exfalso; omega) | (refine hQ_ _ _ ?_; clear hQ_ Q_)) | (refine dec_splitn (Q := Q_) (fun hp_ => ?_) (fun hp_ => ?_) <;> first | (exfalso; omega) | (refine hQ_ _ _ ?_; clear hQ_ Q_)) | (refine hQ_ _ _ ?_; clear hQ_ Q_)))
  | (refine WC_cond fun K_ hK_ => ?_; simp (disch := omega) only [evT_tmp, upd_apply, WB_some, ↓reduceIte, reduceCtorEq, Nat.reduceEqDiff, Nat.reduceLT]; refine hK_ _ ?_; clear hK_ K_)
  | (with_reducible refine condK_tt ?_) | (with_reducible refine condK_ff ?_) | (with_reducible refine roundQ_exit ?_) | (with_reducible refine roundQ_ret ?_)))
      (refine endQ_ret _ _ rfl (ret1 (by decide)) ?_; simp only [upd_apply, ↓reduceIte, reduceCtorEq, Nat.reduceEqDiff]; refine WV_flat rfl (by omega) ?_)
      rw [← hg, Int.gcd_zero_right]
      exact ⟨by rw [Int.natAbs_of_nonneg hx.1], rfl⟩
    · have hm := tmod_lt hx.1 hy.1 hz
      (repeat' (first
  | (with_reducible refine WC_seq ?_) | (refine WC_region ?_) | (with_reducible refine WC_skip ?_) | (with_reducible refine WC_label ?_) | (with_reducible refine WC_scope ?_) | (with_reducible refine WC_block ?_) | (with_reducible refine WC_ret ?_) | (with_reducible refine WC_exit ?_)
  | (with_reducible refine seqQ_norm ?_) | (with_reducible refine seqQ_ret ?_) | (with_reducible refine seqQ_exit ?_) | (with_reducible refine blkQ_norm ?_) | (with_reducible refine blkQ_ret ?_) | (with_reducible refine blkQ_here ?_) | (refine blkQ_out rfl ?_)
  | (refine WO_nil ?_)
  | (refine WD_nil ?_)
  | (refine WD_gate rfl rfl rfl rfl rfl fun K_ hK_ => ?_; simp only [upd_apply, asB_bool, asB_tup, ↓reduceIte, reduceCtorEq, Nat.reduceEqDiff, Bool.not_true, Bool.not_false]; refine hK_ _ ?_; clear hK_ K_)
  | (refine WO_gate rfl rfl rfl rfl rfl fun K_ hK_ => ?_; simp only [upd_apply, asB_bool, asB_tup, ↓reduceIte, reduceCtorEq, Nat.reduceEqDiff, Bool.not_true, Bool.not_false]; refine hK_ _ ?_; clear hK_ K_)
  | (with_reducible refine gateK_yes ?_) | (refine gateK_no (by decide) ?_) | (with_reducible refine gateK_none ?_)
  | ((try first | refine WO_op rfl rfl rfl ?_ | refine WO_op0 rfl rfl ?_ | refine WD_op rfl rfl rfl ?_ | refine WD_op0 rfl rfl ?_); (refine WV_gen fun Q_ hQ_ => ?_; simp (disch := first | omega | (simp only [List.length_cons, List.length_nil, List.length_append]; omega)) only [bb, argF, ↓reduceIte, reduceCtorEq, Nat.reduceEqDiff, Nat.reduceLT, Nat.reduceLeDiff, Nat.reduceAdd, Nat.reduceMul, Nat.reduceSub, Nat.reduceBEq, Int.reduceToNat, List.append_assoc, List.length_append, cond_true, cond_false, List.length_cons, List.length_nil, List.cons_append, List.nil_append, List.append_nil, List.getElem?_cons_zero, List.getElem?_cons_succ, List.set_cons_zero, List.set_cons_succ, List.drop_zero, List.drop_succ_cons, List.take_zero, List.take_succ_cons, List.take_nil, List.drop_nil, eq_self, List.toList_toArray, beq_self_eq_true, h0, h1, b_rem hz]; first | (refine dec_split (Q := Q_) (fun hp_ => ?_) (fun hp_ => ?_) <;> first | (exfalso; omega) | (refine hQ_ _ _ ?_; clear hQ_ Q_)) | (refine dec_splitn (Q := Q_) (fun hp_ => ?_) (fun hp_ => ?_) <;> first | (exfalso; omega) | (refine hQ_ _ _ ?_; clear hQ_ Q_)) | (refine hQ_ _ _ ?_; clear hQ_ Q_)))
  | (refine WC_cond fun K_ hK_ => ?_; simp (disch := omega) only [evT_tmp, upd_apply, WB_some, ↓reduceIte, reduceCtorEq, Nat.reduceEqDiff, Nat.reduceLT]; refine hK_ _ ?_; clear hK_ K_)
  | (with_reducible refine condK_tt ?_) | (with_reducible refine condK_ff ?_) | (with_reducible refine roundQ_exit ?_) | (with_reducible refine roundQ_ret ?_)))
      refine WC_drawnB [.full, .full, .full, .full, .full, .full] (by kernel_rfl) ?_
      (repeat' (first
  | (with_reducible refine WC_seq ?_) | (refine WC_region ?_) | (with_reducible refine WC_skip ?_) | (with_reducible refine WC_label ?_) | (with_reducible refine WC_scope ?_) | (with_reducible refine WC_block ?_) | (with_reducible refine WC_ret ?_) | (with_reducible refine WC_exit ?_)
  | (with_reducible refine seqQ_norm ?_) | (with_reducible refine seqQ_ret ?_) | (with_reducible refine seqQ_exit ?_) | (with_reducible refine blkQ_norm ?_) | (with_reducible refine blkQ_ret ?_) | (with_reducible refine blkQ_here ?_) | (refine blkQ_out rfl ?_)
  | (refine WO_nil ?_)
  | (refine WD_nil ?_)
  | (refine WD_gate rfl rfl rfl rfl rfl fun K_ hK_ => ?_; simp only [upd_apply, asB_bool, asB_tup, ↓reduceIte, reduceCtorEq, Nat.reduceEqDiff, Bool.not_true, Bool.not_false]; refine hK_ _ ?_; clear hK_ K_)
  | (refine WO_gate rfl rfl rfl rfl rfl fun K_ hK_ => ?_; simp only [upd_apply, asB_bool, asB_tup, ↓reduceIte, reduceCtorEq, Nat.reduceEqDiff, Bool.not_true, Bool.not_false]; refine hK_ _ ?_; clear hK_ K_)
  | (with_reducible refine gateK_yes ?_) | (refine gateK_no (by decide) ?_) | (with_reducible refine gateK_none ?_)
  | ((try first | refine WO_op rfl rfl rfl ?_ | refine WO_op0 rfl rfl ?_ | refine WD_op rfl rfl rfl ?_ | refine WD_op0 rfl rfl ?_); (refine WV_gen fun Q_ hQ_ => ?_; simp (disch := first | omega | (simp only [List.length_cons, List.length_nil, List.length_append]; omega)) only [bb, argF, ↓reduceIte, reduceCtorEq, Nat.reduceEqDiff, Nat.reduceLT, Nat.reduceLeDiff, Nat.reduceAdd, Nat.reduceMul, Nat.reduceSub, Nat.reduceBEq, Int.reduceToNat, List.append_assoc, List.length_append, cond_true, cond_false, List.length_cons, List.length_nil, List.cons_append, List.nil_append, List.append_nil, List.getElem?_cons_zero, List.getElem?_cons_succ, List.set_cons_zero, List.set_cons_succ, List.drop_zero, List.drop_succ_cons, List.take_zero, List.take_succ_cons, List.take_nil, List.drop_nil, eq_self, List.toList_toArray, beq_self_eq_true, h0, h1, b_rem hz]; first | (refine dec_split (Q := Q_) (fun hp_ => ?_) (fun hp_ => ?_) <;> first | (exfalso; omega) | (refine hQ_ _ _ ?_; clear hQ_ Q_)) | (refine dec_splitn (Q := Q_) (fun hp_ => ?_) (fun hp_ => ?_) <;> first | (exfalso; omega) | (refine hQ_ _ _ ?_; clear hQ_ Q_)) | (refine hQ_ _ _ ?_; clear hQ_ Q_)))
  | (refine WC_cond fun K_ hK_ => ?_; simp (disch := omega) only [evT_tmp, upd_apply, WB_some, ↓reduceIte, reduceCtorEq, Nat.reduceEqDiff, Nat.reduceLT]; refine hK_ _ ?_; clear hK_ K_)
  | (with_reducible refine condK_tt ?_) | (with_reducible refine condK_ff ?_) | (with_reducible refine roundQ_exit ?_) | (with_reducible refine roundQ_ret ?_)))
      refine roundQ_again (y, x.tmod y) (by simp only; omega) ⟨hy, ⟨hm.1, by omega⟩, ?_, by simp only [upd_apply, ↓reduceIte, reduceCtorEq, Nat.reduceEqDiff], by simp only [upd_apply, ↓reduceIte, reduceCtorEq, Nat.reduceEqDiff], rfl, rfl⟩
      simp only
      rw [gcd_step hx.1 hy.1 hz, hg]
  · exact ⟨ha, hb, rfl, by simp only [upd_apply, ↓reduceIte, reduceCtorEq, Nat.reduceEqDiff], by simp only [upd_apply, ↓reduceIte, reduceCtorEq, Nat.reduceEqDiff], rfl, rfl⟩

/-- A fraction in least terms. -/
def frac (n d : Int) : AV := .agg [ii (n / (Int.gcd n d : Int)), ii (d / (Int.gcd n d : Int))]
theorem gcd_le {n d : Int} (hn : i63 n) (hd : 0 < d ∧ d ≤ 9223372036854775807) : 0 < (Int.gcd n d : Int) ∧ (Int.gcd n d : Int) ≤ 9223372036854775807 := by
  have h1 : 0 < Int.gcd n d := Int.gcd_pos_of_ne_zero_right _ (by omega)
  have h2 : (Int.gcd n d : Int) ∣ d := Int.gcd_dvd_right ..
  have h3 := Int.le_of_dvd hd.1 h2
  omega
theorem div_in {n g : Int} (hn : i63 n) (hg : 0 < g) : IntKind.i64.wrap (n.tdiv g) = n / g := by
  rw [Int.tdiv_eq_ediv_of_nonneg hn.1]
  have h1 : 0 ≤ n / g := Int.ediv_nonneg hn.1 (by omega)
  have h2 : n / g ≤ n := Int.ediv_le_self _ hn.1
  obtain ⟨a, b⟩ := hn
  exact wrap_in _ (by omega) (by omega)
theorem fraction (n d : Int) (hn : i63 n) (hd : 0 < d ∧ d ≤ 9223372036854775807) (h : H) (wf : Wf h) : (om Try.prog KK).call (.fn 45 [ii n, ii d]) h = .ok (frac n d) h := by
  refine WV_to (WV_call (fn := Try.f45) Try.func45 rfl rfl rfl rfl rfl ?_)
  simp only [argF]
  have hg := gcd_le hn hd
  have hz : (Int.gcd n d : Int) ≠ 0 := by omega
  (repeat' (first
  | (with_reducible refine WC_seq ?_) | (refine WC_region ?_) | (with_reducible refine WC_skip ?_) | (with_reducible refine WC_label ?_) | (with_reducible refine WC_scope ?_) | (with_reducible refine WC_block ?_) | (with_reducible refine WC_ret ?_) | (with_reducible refine WC_exit ?_)
  | (with_reducible refine seqQ_norm ?_) | (with_reducible refine seqQ_ret ?_) | (with_reducible refine seqQ_exit ?_) | (with_reducible refine blkQ_norm ?_) | (with_reducible refine blkQ_ret ?_) | (with_reducible refine blkQ_here ?_) | (refine blkQ_out rfl ?_)
  | (refine WO_nil ?_)
  | (refine WD_nil ?_)
  | (refine WD_gate rfl rfl rfl rfl rfl fun K_ hK_ => ?_; simp only [upd_apply, asB_bool, asB_tup, ↓reduceIte, reduceCtorEq, Nat.reduceEqDiff, Bool.not_true, Bool.not_false]; refine hK_ _ ?_; clear hK_ K_)
  | (refine WO_gate rfl rfl rfl rfl rfl fun K_ hK_ => ?_; simp only [upd_apply, asB_bool, asB_tup, ↓reduceIte, reduceCtorEq, Nat.reduceEqDiff, Bool.not_true, Bool.not_false]; refine hK_ _ ?_; clear hK_ K_)
  | (with_reducible refine gateK_yes ?_) | (refine gateK_no (by decide) ?_) | (with_reducible refine gateK_none ?_)
  | ((try first | refine WO_op rfl rfl rfl ?_ | refine WO_op0 rfl rfl ?_ | refine WD_op rfl rfl rfl ?_ | refine WD_op0 rfl rfl ?_); (refine WV_gen fun Q_ hQ_ => ?_; simp (disch := first | omega | (simp only [List.length_cons, List.length_nil, List.length_append]; omega)) only [bb, argF, ↓reduceIte, reduceCtorEq, Nat.reduceEqDiff, Nat.reduceLT, Nat.reduceLeDiff, Nat.reduceAdd, Nat.reduceMul, Nat.reduceSub, Nat.reduceBEq, Int.reduceToNat, List.append_assoc, List.length_append, cond_true, cond_false, List.length_cons, List.length_nil, List.cons_append, List.nil_append, List.append_nil, List.getElem?_cons_zero, List.getElem?_cons_succ, List.set_cons_zero, List.set_cons_succ, List.drop_zero, List.drop_succ_cons, List.take_zero, List.take_succ_cons, List.take_nil, List.drop_nil, eq_self, List.toList_toArray, beq_self_eq_true, newPtr_X wf, load1_X wf, loadAgg_X wf, store1_X wf, writeCells_X wf, bs_29, bsl_47, newSlice_X wf, ia_2, sz_2, ia_3, sz_3, ia_29, sz_29, ze_29, ia_70, sz_70, fo_70_0, fo_70_1, pb_57, pb_45, pb_31, pb_50]; first | (refine dec_split (Q := Q_) (fun hp_ => ?_) (fun hp_ => ?_) <;> first | (exfalso; omega) | (refine hQ_ _ _ ?_; clear hQ_ Q_)) | (refine dec_splitn (Q := Q_) (fun hp_ => ?_) (fun hp_ => ?_) <;> first | (exfalso; omega) | (refine hQ_ _ _ ?_; clear hQ_ Q_)) | (refine hQ_ _ _ ?_; clear hQ_ Q_) | (refine WV_eq (divisor _ _ hn ⟨by omega, hd.2⟩ _ (wf.X (Nat.le_add_right _ _))) ?_; refine hQ_ _ _ ?_; clear hQ_ Q_)))
  | (refine WC_cond fun K_ hK_ => ?_; simp (disch := omega) only [evT_tmp, upd_apply, WB_some, ↓reduceIte, reduceCtorEq, Nat.reduceEqDiff, Nat.reduceLT]; refine hK_ _ ?_; clear hK_ K_)
  | (with_reducible refine condK_tt ?_) | (with_reducible refine condK_ff ?_) | (with_reducible refine roundQ_exit ?_) | (with_reducible refine roundQ_ret ?_)))
  refine WC_drawnB [.full, .full, .full, .full, .full, .full, .full, .full] (by kernel_rfl) ?_
  (repeat' (first
  | (with_reducible refine WC_seq ?_) | (refine WC_region ?_) | (with_reducible refine WC_skip ?_) | (with_reducible refine WC_label ?_) | (with_reducible refine WC_scope ?_) | (with_reducible refine WC_block ?_) | (with_reducible refine WC_ret ?_) | (with_reducible refine WC_exit ?_)
  | (with_reducible refine seqQ_norm ?_) | (with_reducible refine seqQ_ret ?_) | (with_reducible refine seqQ_exit ?_) | (with_reducible refine blkQ_norm ?_) | (with_reducible refine blkQ_ret ?_) | (with_reducible refine blkQ_here ?_) | (refine blkQ_out rfl ?_)
  | (refine WO_nil ?_)
  | (refine WD_nil ?_)
  | (refine WD_gate rfl rfl rfl rfl rfl fun K_ hK_ => ?_; simp only [upd_apply, asB_bool, asB_tup, ↓reduceIte, reduceCtorEq, Nat.reduceEqDiff, Bool.not_true, Bool.not_false]; refine hK_ _ ?_; clear hK_ K_)
  | (refine WO_gate rfl rfl rfl rfl rfl fun K_ hK_ => ?_; simp only [upd_apply, asB_bool, asB_tup, ↓reduceIte, reduceCtorEq, Nat.reduceEqDiff, Bool.not_true, Bool.not_false]; refine hK_ _ ?_; clear hK_ K_)
  | (with_reducible refine gateK_yes ?_) | (refine gateK_no (by decide) ?_) | (with_reducible refine gateK_none ?_)
  | ((try first | refine WO_op rfl rfl rfl ?_ | refine WO_op0 rfl rfl ?_ | refine WD_op rfl rfl rfl ?_ | refine WD_op0 rfl rfl ?_); (refine WV_gen fun Q_ hQ_ => ?_; simp (disch := first | omega | (simp only [List.length_cons, List.length_nil, List.length_append]; omega)) only [bb, argF, ↓reduceIte, reduceCtorEq, Nat.reduceEqDiff, Nat.reduceLT, Nat.reduceLeDiff, Nat.reduceAdd, Nat.reduceMul, Nat.reduceSub, Nat.reduceBEq, Int.reduceToNat, List.append_assoc, List.length_append, cond_true, cond_false, List.length_cons, List.length_nil, List.cons_append, List.nil_append, List.append_nil, List.getElem?_cons_zero, List.getElem?_cons_succ, List.set_cons_zero, List.set_cons_succ, List.drop_zero, List.drop_succ_cons, List.take_zero, List.take_succ_cons, List.take_nil, List.drop_nil, eq_self, List.toList_toArray, beq_self_eq_true, b_quo hz, div_in hn hg.1, div_in (n := d) ⟨by omega, hd.2⟩ hg.1, newPtr_X wf, load1_X wf, loadAgg_X wf, store1_X wf, writeCells_X wf, bs_29, bsl_47, newSlice_X wf, ia_2, sz_2, ia_3, sz_3, ia_29, sz_29, ze_29, ia_70, sz_70, fo_70_0, fo_70_1, pb_57, pb_45, pb_31, pb_50]; first | (refine dec_split (Q := Q_) (fun hp_ => ?_) (fun hp_ => ?_) <;> first | (exfalso; omega) | (refine hQ_ _ _ ?_; clear hQ_ Q_)) | (refine dec_splitn (Q := Q_) (fun hp_ => ?_) (fun hp_ => ?_) <;> first | (exfalso; omega) | (refine hQ_ _ _ ?_; clear hQ_ Q_)) | (refine hQ_ _ _ ?_; clear hQ_ Q_)))
  | (refine WC_cond fun K_ hK_ => ?_; simp (disch := omega) only [evT_tmp, upd_apply, WB_some, ↓reduceIte, reduceCtorEq, Nat.reduceEqDiff, Nat.reduceLT]; refine hK_ _ ?_; clear hK_ K_)
  | (with_reducible refine condK_tt ?_) | (with_reducible refine condK_ff ?_) | (with_reducible refine roundQ_exit ?_) | (with_reducible refine roundQ_ret ?_)))
  refine endQ_ret _ _ rfl (retc0 (by decide) (by simp (disch := first | omega | (simp only [List.length_cons, List.length_nil, List.length_append]; omega)) only [bb, argF, ↓reduceIte, reduceCtorEq, Nat.reduceEqDiff, Nat.reduceLT, Nat.reduceLeDiff, Nat.reduceAdd, Nat.reduceMul, Nat.reduceSub, Nat.reduceBEq, Int.reduceToNat, List.append_assoc, List.length_append, cond_true, cond_false, List.length_cons, List.length_nil, List.cons_append, List.nil_append, List.append_nil, List.getElem?_cons_zero, List.getElem?_cons_succ, List.set_cons_zero, List.set_cons_succ, List.drop_zero, List.drop_succ_cons, List.take_zero, List.take_succ_cons, List.take_nil, List.drop_nil, eq_self, List.toList_toArray, beq_self_eq_true, loadAgg_X wf, bs_29, bsl_47, newSlice_X wf, ia_2, sz_2, ia_3, sz_3, ia_29, sz_29, ze_29, ia_70, sz_70, fo_70_0, fo_70_1, pb_57, pb_45, pb_31, pb_50]; rfl)) ?_
  refine WV_flat rfl (by omega) ?_
  exact ⟨rfl, rfl⟩
end Go.Proofs.Ytghondkiondeaab
end

/- EvH2 -/
section
/-
  LAYER 2: the places of a hull, one after the other.
-/
namespace Go.Proofs.Ytghondkiondeaab
open Go.Ev
set_option maxRecDepth 100000
set_option linter.unusedSimpArgs false
set_option linter.unusedVariables false
set_option maxHeartbeats 2000000

def wt (n i : Nat) : Int := if i = 0 ∨ i + 1 = n then 1 else if i < n then 2 else 0
def wts (n : Nat) : List AV := [ii (wt n 0), ii (wt n 1), ii (wt n 2), ii (wt n 3), ii (wt n 4), ii (wt n 5), ii (wt n 6), ii (wt n 7), ii (wt n 8), ii (wt n 9)]
theorem wts_get (n i : Nat) (hi : i < 10) : (wts n)[i]? = some (ii (wt n i)) := by
  match i, hi with
  | 0, _ => rfl | 1, _ => rfl | 2, _ => rfl | 3, _ => rfl | 4, _ => rfl | 5, _ => rfl | 6, _ => rfl | 7, _ => rfl | 8, _ => rfl | 9, _ => rfl
theorem wt_in (n i : Nat) : 0 ≤ wt n i ∧ wt n i ≤ 2 := by unfold wt; repeat' split
                                                          all_goals omega

/-- A hull in a heap, behind a pointer. -/
structure HullIn (hb : H) (p : Pos) (sp st : Int) (a : AV) (rvs : List AV) (rows : List (List (Int × Int))) (m : Nat) : Prop where
  wf : Wf hb
  l2 : ∀ J w, load1 p 2 (X hb J w) = some a
  ag : ∀ J w, loadAgg p 0 (some 3) (X hb J w) = some (.agg [ii sp, ii st, a])
  sl : Sl hb a 1 rows.length rvs
  row : ∀ i (hi : i < rows.length), ∃ v, rvs[i]? = some v ∧ Sl hb v 2 m (pairCells rows[i]) ∧ rows[i].length = m

def placeOf (n m : Nat) (i k : Nat) (r : Int × Int) : AV := .agg [ii r.1, ii r.2, ii (i : Int), ii (k : Int), ii (wt n i * wt m k)]
/-- The places, station by station. -/
def placesOf (rows : List (List (Int × Int))) (m : Nat) : List (List AV) :=
  (List.range (rows.length * m)).map fun q => [placeOf rows.length m (q / m) (q % m) ((rows.getD (q / m) []).getD (q % m) (0, 0))]
theorem placesOf_get {rows : List (List (Int × Int))} {m i k : Nat} (hi : i < rows.length) (hk : k < m) (hm : rows[i].length = m) :
    (placesOf rows m)[i * m + k]? = some [placeOf rows.length m i k (rows[i][k]'(by omega))] := by
  have hq : i * m + k < rows.length * m := by
    have : (i + 1) * m ≤ rows.length * m := Nat.mul_le_mul_right m hi
    rw [Nat.succ_mul] at this; omega
  have h1 : (i * m + k) / m = i := by rw [Nat.mul_comm, Nat.mul_add_div (by omega)]; rw [Nat.div_eq_of_lt hk]; omega
  have h2 : (i * m + k) % m = k := by rw [Nat.mul_comm, Nat.mul_add_mod]; exact Nat.mod_eq_of_lt hk
  unfold placesOf
  rw [List.getElem?_map, List.getElem?_range hq]
  simp only [Option.map_some, h1, h2]
  have hk' : k < rows[i].length := by omega
  simp [List.getD, hi, hk']
theorem placesOf_length (rows : List (List (Int × Int))) (m : Nat) : (placesOf rows m).length = rows.length * m := by unfold placesOf; simp

theorem places1 (p : Pos) (sp st : Int) (a : AV) (rvs : List AV) (rows : List (List (Int × Int))) (m : Nat) (hn : 2 ≤ rows.length ∧ rows.length ≤ 10) (hm : 2 ≤ m ∧ m ≤ 6)
    (hwt : ∀ n : Nat, 2 ≤ n → n ≤ 10 → ∀ h, Wf h → (om Try.prog KK).call (.fn 52 [ii (n : Int)]) h = .ok (.agg (wts n)) h)
    (hli : ∀ h, Wf h → HullIn h p sp st a rvs rows m → ∀ J w, w ≤ h.clock + J.length → (om Try.prog KK).call (.fn 53 [.agg [ii sp, ii st, a]]) (X h J w) = .ok (ii (m : Int)) (X h J w)) :
    Hands Try.prog KK (fun hb => HullIn hb p sp st a rvs rows m) (.fn 51 [] [.ptr p 0]) (placesOf rows m) := by
  intro l hb0 I D lo hlo0 hlow hI hy h0
  have hB := (hI 0 hb0 h0).1
  have wf := hB.wf
  rw [callV_fn, pb_51]
  show WV ((om Try.prog KK).call (.fn 51 [.yld l, .ptr p 0]) hb0) _
  refine WV_call (fn := Try.f51) Try.func51 rfl rfl rfl rfl rfl ?_
  simp only [argF]
  have hlen : ∀ h', lenE Try.prog 22 a h' = some (ii (rows.length : Int)) := fun h' => hB.sl.len un_22
  have hw1 : ∀ J w, w ≤ hb0.clock + J.length → (om Try.prog KK).call (.fn 52 [ii (rows.length : Int)]) (X hb0 J w) = .ok (.agg (wts rows.length)) (X hb0 J w) := fun J w hw => hwt _ hn.1 hn.2 _ (wf.X hw)
  have hw2 : ∀ J w, w ≤ hb0.clock + J.length → (om Try.prog KK).call (.fn 52 [ii (m : Int)]) (X hb0 J w) = .ok (.agg (wts m)) (X hb0 J w) := fun J w hw => hwt _ hm.1 (by omega) _ (wf.X hw)
  have hl1 := hli hb0 wf hB
  have hl2 := hB.l2
  have hag := hB.ag
  (repeat' (first
  | (with_reducible refine WC_seq ?_) | (refine WC_region ?_) | (with_reducible refine WC_skip ?_) | (with_reducible refine WC_label ?_) | (with_reducible refine WC_scope ?_) | (with_reducible refine WC_block ?_) | (with_reducible refine WC_ret ?_) | (with_reducible refine WC_exit ?_)
  | (with_reducible refine seqQ_norm ?_) | (with_reducible refine seqQ_ret ?_) | (with_reducible refine seqQ_exit ?_) | (with_reducible refine blkQ_norm ?_) | (with_reducible refine blkQ_ret ?_) | (with_reducible refine blkQ_here ?_) | (refine blkQ_out rfl ?_)
  | (refine WO_nil ?_)
  | (refine WD_nil ?_)
  | (refine WD_gate rfl rfl rfl rfl rfl fun K_ hK_ => ?_; simp only [upd_apply, asB_bool, asB_tup, ↓reduceIte, reduceCtorEq, Nat.reduceEqDiff, Bool.not_true, Bool.not_false]; refine hK_ _ ?_; clear hK_ K_)
  | (refine WO_gate rfl rfl rfl rfl rfl fun K_ hK_ => ?_; simp only [upd_apply, asB_bool, asB_tup, ↓reduceIte, reduceCtorEq, Nat.reduceEqDiff, Bool.not_true, Bool.not_false]; refine hK_ _ ?_; clear hK_ K_)
  | (with_reducible refine gateK_yes ?_) | (refine gateK_no (by decide) ?_) | (with_reducible refine gateK_none ?_)
  | ((try first | refine WO_op rfl rfl rfl ?_ | refine WO_op0 rfl rfl ?_ | refine WD_op rfl rfl rfl ?_ | refine WD_op0 rfl rfl ?_); (refine WV_gen fun Q_ hQ_ => ?_; simp (disch := first | omega | (simp only [List.length_cons, List.length_nil, List.length_append]; omega)) only [bb, argF, ↓reduceIte, reduceCtorEq, Nat.reduceEqDiff, Nat.reduceLT, Nat.reduceLeDiff, Nat.reduceAdd, Nat.reduceMul, Nat.reduceSub, Nat.reduceBEq, Int.reduceToNat, List.append_assoc, List.length_append, cond_true, cond_false, List.length_cons, List.length_nil, List.cons_append, List.nil_append, List.append_nil, List.getElem?_cons_zero, List.getElem?_cons_succ, List.set_cons_zero, List.set_cons_succ, List.drop_zero, List.drop_succ_cons, List.take_zero, List.take_succ_cons, List.take_nil, List.drop_nil, eq_self, List.toList_toArray, beq_self_eq_true, hlen, hw1, hw2, hl1, hl2, hag, newPtr_X wf, load1_X wf, loadAgg_X wf, store1_X wf, writeCells_X wf, bs_75, ia_2, sz_2, ia_3, sz_3, ia_22, sz_22, ia_46, sz_46, ia_52, sz_52, ia_70, sz_70, ze_70, ia_94, sz_94, ze_94, ik_94, fo_52_0, fo_24_2, pb_51, pb_52, pb_53, indexAddrE_def (P := Try.prog) (t := 94)]; first | (refine dec_split (Q := Q_) (fun hp_ => ?_) (fun hp_ => ?_) <;> first | (exfalso; omega) | (refine hQ_ _ _ ?_; clear hQ_ Q_)) | (refine dec_splitn (Q := Q_) (fun hp_ => ?_) (fun hp_ => ?_) <;> first | (exfalso; omega) | (refine hQ_ _ _ ?_; clear hQ_ Q_)) | (refine hQ_ _ _ ?_; clear hQ_ Q_)))
  | (refine WC_cond fun K_ hK_ => ?_; simp (disch := omega) only [evT_tmp, upd_apply, WB_some, ↓reduceIte, reduceCtorEq, Nat.reduceEqDiff, Nat.reduceLT]; refine hK_ _ ?_; clear hK_ K_)
  | (with_reducible refine condK_tt ?_) | (with_reducible refine condK_ff ?_) | (with_reducible refine roundQ_exit ?_) | (with_reducible refine roundQ_ret ?_)))
  refine WC_drawnB [.no, .no, .no, .no, .no, .no, .no, .no, .no, .no, .full, .full] (by kernel_rfl) ?_
  (repeat' (first
  | (with_reducible refine WC_seq ?_) | (refine WC_region ?_) | (with_reducible refine WC_skip ?_) | (with_reducible refine WC_label ?_) | (with_reducible refine WC_scope ?_) | (with_reducible refine WC_block ?_) | (with_reducible refine WC_ret ?_) | (with_reducible refine WC_exit ?_)
  | (with_reducible refine seqQ_norm ?_) | (with_reducible refine seqQ_ret ?_) | (with_reducible refine seqQ_exit ?_) | (with_reducible refine blkQ_norm ?_) | (with_reducible refine blkQ_ret ?_) | (with_reducible refine blkQ_here ?_) | (refine blkQ_out rfl ?_)
  | (refine WO_nil ?_)
  | (refine WD_nil ?_)
  | (refine WD_gate rfl rfl rfl rfl rfl fun K_ hK_ => ?_; simp only [upd_apply, asB_bool, asB_tup, ↓reduceIte, reduceCtorEq, Nat.reduceEqDiff, Bool.not_true, Bool.not_false]; refine hK_ _ ?_; clear hK_ K_)
  | (refine WO_gate rfl rfl rfl rfl rfl fun K_ hK_ => ?_; simp only [upd_apply, asB_bool, asB_tup, ↓reduceIte, reduceCtorEq, Nat.reduceEqDiff, Bool.not_true, Bool.not_false]; refine hK_ _ ?_; clear hK_ K_)
  | (with_reducible refine gateK_yes ?_) | (refine gateK_no (by decide) ?_) | (with_reducible refine gateK_none ?_)
  | ((try first | refine WO_op rfl rfl rfl ?_ | refine WO_op0 rfl rfl ?_ | refine WD_op rfl rfl rfl ?_ | refine WD_op0 rfl rfl ?_); (refine WV_gen fun Q_ hQ_ => ?_; simp (disch := first | omega | (simp only [List.length_cons, List.length_nil, List.length_append]; omega)) only [bb, argF, ↓reduceIte, reduceCtorEq, Nat.reduceEqDiff, Nat.reduceLT, Nat.reduceLeDiff, Nat.reduceAdd, Nat.reduceMul, Nat.reduceSub, Nat.reduceBEq, Int.reduceToNat, List.append_assoc, List.length_append, cond_true, cond_false, List.length_cons, List.length_nil, List.cons_append, List.nil_append, List.append_nil, List.getElem?_cons_zero, List.getElem?_cons_succ, List.set_cons_zero, List.set_cons_succ, List.drop_zero, List.drop_succ_cons, List.take_zero, List.take_succ_cons, List.take_nil, List.drop_nil, eq_self, List.toList_toArray, beq_self_eq_true, hlen, hw1, hw2, hl1, hl2, hag, wts, newPtr_X wf, load1_X wf, loadAgg_X wf, store1_X wf, writeCells_X wf, bs_75, ia_2, sz_2, ia_3, sz_3, ia_22, sz_22, ia_46, sz_46, ia_52, sz_52, ia_70, sz_70, ze_70, ia_94, sz_94, ze_94, ik_94, fo_52_0, fo_24_2, pb_51, pb_52, pb_53, indexAddrE_def (P := Try.prog) (t := 94)]; first | (refine dec_split (Q := Q_) (fun hp_ => ?_) (fun hp_ => ?_) <;> first | (exfalso; omega) | (refine hQ_ _ _ ?_; clear hQ_ Q_)) | (refine dec_splitn (Q := Q_) (fun hp_ => ?_) (fun hp_ => ?_) <;> first | (exfalso; omega) | (refine hQ_ _ _ ?_; clear hQ_ Q_)) | (refine hQ_ _ _ ?_; clear hQ_ Q_)))
  | (refine WC_cond fun K_ hK_ => ?_; simp (disch := omega) only [evT_tmp, upd_apply, WB_some, ↓reduceIte, reduceCtorEq, Nat.reduceEqDiff, Nat.reduceLT]; refine hK_ _ ?_; clear hK_ K_)
  | (with_reducible refine condK_tt ?_) | (with_reducible refine condK_ff ?_) | (with_reducible refine roundQ_exit ?_) | (with_reducible refine roundQ_ret ?_)))
  have hsame0 := (hI 0 hb0 h0).2
  refine WC_loop (fun (i : Nat) f d h' => i ≤ rows.length ∧ f 0 = .yld l ∧ f 1 = .ptr p 0 ∧ f 3 = .ptr (nx hb0 0) 0 ∧ f 4 = .ptr (nx hb0 1) 0 ∧ f 19 = a ∧ f 20 = ii (rows.length : Int) ∧ f 21 = ii (i : Int) ∧ d = [] ∧
    ∃ hb J w, h' = X hb (.cells (mkCells (wts rows.length)) 94 :: .cells (mkCells (wts m)) 94 :: J) w ∧ I (i * m) hb ∧ lo ≤ w ∧ w ≤ hb.clock ∧ (0 < i → w < hb.clock)) (fun i => rows.length - i) ?_ (rows.length + 1) 0 (by omega) ?_
  · clear wf hB hw1 hw2 hl1 hl2 hag
    rintro i f d h' ⟨hi, g0, g1, g3, g4, g19, g20, g21, rfl, hb, J, w, rfl, hIi, hlo, hw, hw0⟩
    have hB := (hI _ hb hIi).1
    have hs := (hI _ hb hIi).2
    have wf := hB.wf
    by_cases hlt : i < rows.length
    · obtain ⟨v, hv, hsv, hrl⟩ := hB.row i hlt
      obtain ⟨id, off, hix, hld⟩ := hB.sl.at1 wf hlt ik_22
      rw [hv] at hld
      have hlenv : ∀ h', lenE Try.prog 46 v h' = some (ii (m : Int)) := fun h' => hsv.len un_46
      (repeat' (first
  | (with_reducible refine WC_seq ?_) | (refine WC_region ?_) | (with_reducible refine WC_skip ?_) | (with_reducible refine WC_label ?_) | (with_reducible refine WC_scope ?_) | (with_reducible refine WC_block ?_) | (with_reducible refine WC_ret ?_) | (with_reducible refine WC_exit ?_)
  | (with_reducible refine seqQ_norm ?_) | (with_reducible refine seqQ_ret ?_) | (with_reducible refine seqQ_exit ?_) | (with_reducible refine blkQ_norm ?_) | (with_reducible refine blkQ_ret ?_) | (with_reducible refine blkQ_here ?_) | (refine blkQ_out rfl ?_)
  | (refine WO_nil ?_)
  | (refine WD_nil ?_)
  | (refine WD_gate rfl rfl rfl rfl rfl fun K_ hK_ => ?_; simp only [upd_apply, asB_bool, asB_tup, ↓reduceIte, reduceCtorEq, Nat.reduceEqDiff, Bool.not_true, Bool.not_false]; refine hK_ _ ?_; clear hK_ K_)
  | (refine WO_gate rfl rfl rfl rfl rfl fun K_ hK_ => ?_; simp only [upd_apply, asB_bool, asB_tup, ↓reduceIte, reduceCtorEq, Nat.reduceEqDiff, Bool.not_true, Bool.not_false]; refine hK_ _ ?_; clear hK_ K_)
  | (with_reducible refine gateK_yes ?_) | (refine gateK_no (by decide) ?_) | (with_reducible refine gateK_none ?_)
  | ((try first | refine WO_op rfl rfl rfl ?_ | refine WO_op0 rfl rfl ?_ | refine WD_op rfl rfl rfl ?_ | refine WD_op0 rfl rfl ?_); (refine WV_gen fun Q_ hQ_ => ?_; simp (disch := first | omega | (simp only [List.length_cons, List.length_nil, List.length_append]; omega)) only [bb, argF, ↓reduceIte, reduceCtorEq, Nat.reduceEqDiff, Nat.reduceLT, Nat.reduceLeDiff, Nat.reduceAdd, Nat.reduceMul, Nat.reduceSub, Nat.reduceBEq, Int.reduceToNat, List.append_assoc, List.length_append, cond_true, cond_false, List.length_cons, List.length_nil, List.cons_append, List.nil_append, List.append_nil, List.getElem?_cons_zero, List.getElem?_cons_succ, List.set_cons_zero, List.set_cons_succ, List.drop_zero, List.drop_succ_cons, List.take_zero, List.take_succ_cons, List.take_nil, List.drop_nil, eq_self, List.toList_toArray, beq_self_eq_true, g0, g1, g3, g4, g19, g20, g21, hix, hld, hlenv, newPtr_X wf, load1_X wf, loadAgg_X wf, store1_X wf, writeCells_X wf, bs_75, ia_2, sz_2, ia_3, sz_3, ia_22, sz_22, ia_46, sz_46, ia_52, sz_52, ia_70, sz_70, ze_70, ia_94, sz_94, ze_94, ik_94, fo_52_0, fo_24_2, pb_51, pb_52, pb_53, indexAddrE_def (P := Try.prog) (t := 94)]; first | (refine dec_split (Q := Q_) (fun hp_ => ?_) (fun hp_ => ?_) <;> first | (exfalso; omega) | (refine hQ_ _ _ ?_; clear hQ_ Q_)) | (refine dec_splitn (Q := Q_) (fun hp_ => ?_) (fun hp_ => ?_) <;> first | (exfalso; omega) | (refine hQ_ _ _ ?_; clear hQ_ Q_)) | (refine hQ_ _ _ ?_; clear hQ_ Q_)))
  | (refine WC_cond fun K_ hK_ => ?_; simp (disch := omega) only [evT_tmp, upd_apply, WB_some, ↓reduceIte, reduceCtorEq, Nat.reduceEqDiff, Nat.reduceLT]; refine hK_ _ ?_; clear hK_ K_)
  | (with_reducible refine condK_tt ?_) | (with_reducible refine condK_ff ?_) | (with_reducible refine roundQ_exit ?_) | (with_reducible refine roundQ_ret ?_)))
      refine WC_loop (fun (k : Nat) f d h' => k ≤ m ∧ f 0 = .yld l ∧ f 1 = .ptr p 0 ∧ f 3 = .ptr (nx hb0 0) 0 ∧ f 4 = .ptr (nx hb0 1) 0 ∧ f 19 = a ∧ f 20 = ii (rows.length : Int) ∧ f 21 = ii (i : Int) ∧ f 5 = ii (i : Int) ∧ f 26 = v ∧ f 27 = ii (m : Int) ∧ f 28 = ii (k : Int) ∧ d = [] ∧
        ∃ hb J w, h' = X hb (.cells (mkCells (wts rows.length)) 94 :: .cells (mkCells (wts m)) 94 :: J) w ∧ I (i * m + k) hb ∧ lo ≤ w ∧ w ≤ hb.clock ∧ (0 < i * m + k → w < hb.clock)) (fun k => m - k) ?_ (m + 1) 0 (by omega) ?_
      · clear hB wf hs hix hld hlenv hsv hlo hw hw0 hIi
        clear g0 g1 g3 g4 g19 g20 g21
        rintro k f d h' ⟨hk, g0, g1, g3, g4, g19, g20, g21, g5, g26, g27, g28, rfl, hb, J, w, rfl, hIk, hlo, hw, hw0⟩
        have hB := (hI _ hb hIk).1
        have hs := (hI _ hb hIk).2
        have wf := hB.wf
        by_cases hkl : k < m
        · obtain ⟨v', hv', hsv, hrl⟩ := hB.row i hlt
          have : v' = v := Option.some.inj (hv'.symm.trans hv)
          subst this
          obtain ⟨id, off, hix, hld⟩ := hsv.at wf hkl ik_46
          have hkr : k < rows[i].length := by omega
          have hrow : ∀ l w, loadAgg id off (some 2) (X hb l w) = some (.agg [ii rows[i][k].1, ii rows[i][k].2]) := fun l w => by rw [(hld l w).2, pairCells_at hkr]
          have hpl := placesOf_get (rows := rows) hlt hkl hrl
          have ha1 := wts_get rows.length i (by omega)
          have ha2 := wts_get m k (by omega)
          have w1 := wt_in rows.length i
          have w2 := wt_in m k
          have hmul : 0 ≤ wt rows.length i * wt m k ∧ wt rows.length i * wt m k ≤ 4 := ⟨Int.mul_nonneg w1.1 w2.1, by
            have := Int.mul_le_mul w1.2 w2.2 w2.1 (by omega : (0 : Int) ≤ 2); omega⟩
          have hi10 : i < 10 := by omega
          have hk10 : k < 10 := by omega
          rw [← hs.nx 0] at g3
          rw [← hs.nx 1] at g4
          (repeat' (first
  | (with_reducible refine WC_seq ?_) | (refine WC_region ?_) | (with_reducible refine WC_skip ?_) | (with_reducible refine WC_label ?_) | (with_reducible refine WC_scope ?_) | (with_reducible refine WC_block ?_) | (with_reducible refine WC_ret ?_) | (with_reducible refine WC_exit ?_)
  | (with_reducible refine seqQ_norm ?_) | (with_reducible refine seqQ_ret ?_) | (with_reducible refine seqQ_exit ?_) | (with_reducible refine blkQ_norm ?_) | (with_reducible refine blkQ_ret ?_) | (with_reducible refine blkQ_here ?_) | (refine blkQ_out rfl ?_)
  | (refine WO_nil ?_)
  | (refine WD_nil ?_)
  | (refine WD_gate rfl rfl rfl rfl rfl fun K_ hK_ => ?_; simp only [upd_apply, asB_bool, asB_tup, ↓reduceIte, reduceCtorEq, Nat.reduceEqDiff, Bool.not_true, Bool.not_false]; refine hK_ _ ?_; clear hK_ K_)
  | (refine WO_gate rfl rfl rfl rfl rfl fun K_ hK_ => ?_; simp only [upd_apply, asB_bool, asB_tup, ↓reduceIte, reduceCtorEq, Nat.reduceEqDiff, Bool.not_true, Bool.not_false]; refine hK_ _ ?_; clear hK_ K_)
  | (with_reducible refine gateK_yes ?_) | (refine gateK_no (by decide) ?_) | (with_reducible refine gateK_none ?_)
  | ((try first | refine WO_op rfl rfl rfl ?_ | refine WO_op0 rfl rfl ?_ | refine WD_op rfl rfl rfl ?_ | refine WD_op0 rfl rfl ?_); (refine WV_gen fun Q_ hQ_ => ?_; simp (disch := first | omega | (simp only [List.length_cons, List.length_nil, List.length_append]; omega)) only [bb, argF, ↓reduceIte, reduceCtorEq, Nat.reduceEqDiff, Nat.reduceLT, Nat.reduceLeDiff, Nat.reduceAdd, Nat.reduceMul, Nat.reduceSub, Nat.reduceBEq, Int.reduceToNat, List.append_assoc, List.length_append, cond_true, cond_false, List.length_cons, List.length_nil, List.cons_append, List.nil_append, List.append_nil, List.getElem?_cons_zero, List.getElem?_cons_succ, List.set_cons_zero, List.set_cons_succ, List.drop_zero, List.drop_succ_cons, List.take_zero, List.take_succ_cons, List.take_nil, List.drop_nil, eq_self, List.toList_toArray, beq_self_eq_true, g0, g1, g3, g4, g19, g20, g21, g5, g26, g27, g28, hix, hrow, ha1, ha2, newPtr_X wf, load1_X wf, loadAgg_X wf, store1_X wf, writeCells_X wf, bs_75, ia_2, sz_2, ia_3, sz_3, ia_22, sz_22, ia_46, sz_46, ia_52, sz_52, ia_70, sz_70, ze_70, ia_94, sz_94, ze_94, ik_94, fo_52_0, fo_24_2, pb_51, pb_52, pb_53, indexAddrE_def (P := Try.prog) (t := 94)]; first | (refine dec_split (Q := Q_) (fun hp_ => ?_) (fun hp_ => ?_) <;> first | (exfalso; omega) | (refine hQ_ _ _ ?_; clear hQ_ Q_)) | (refine dec_splitn (Q := Q_) (fun hp_ => ?_) (fun hp_ => ?_) <;> first | (exfalso; omega) | (refine hQ_ _ _ ?_; clear hQ_ Q_)) | (refine hQ_ _ _ ?_; clear hQ_ Q_)))
  | (refine WC_cond fun K_ hK_ => ?_; simp (disch := omega) only [evT_tmp, upd_apply, WB_some, ↓reduceIte, reduceCtorEq, Nat.reduceEqDiff, Nat.reduceLT]; refine hK_ _ ?_; clear hK_ K_)
  | (with_reducible refine condK_tt ?_) | (with_reducible refine condK_ff ?_) | (with_reducible refine roundQ_exit ?_) | (with_reducible refine roundQ_ret ?_)))
          refine WC_drawnB [.no, .no, .no, .no, .no, .no, .no, .no, .no, .no, .no, .full, .full, .full] (by kernel_rfl) ?_
          (repeat' (first
  | (with_reducible refine WC_seq ?_) | (refine WC_region ?_) | (with_reducible refine WC_skip ?_) | (with_reducible refine WC_label ?_) | (with_reducible refine WC_scope ?_) | (with_reducible refine WC_block ?_) | (with_reducible refine WC_ret ?_) | (with_reducible refine WC_exit ?_)
  | (with_reducible refine seqQ_norm ?_) | (with_reducible refine seqQ_ret ?_) | (with_reducible refine seqQ_exit ?_) | (with_reducible refine blkQ_norm ?_) | (with_reducible refine blkQ_ret ?_) | (with_reducible refine blkQ_here ?_) | (refine blkQ_out rfl ?_)
  | (refine WO_nil ?_)
  | (refine WD_nil ?_)
  | (refine WD_gate rfl rfl rfl rfl rfl fun K_ hK_ => ?_; simp only [upd_apply, asB_bool, asB_tup, ↓reduceIte, reduceCtorEq, Nat.reduceEqDiff, Bool.not_true, Bool.not_false]; refine hK_ _ ?_; clear hK_ K_)
  | (refine WO_gate rfl rfl rfl rfl rfl fun K_ hK_ => ?_; simp only [upd_apply, asB_bool, asB_tup, ↓reduceIte, reduceCtorEq, Nat.reduceEqDiff, Bool.not_true, Bool.not_false]; refine hK_ _ ?_; clear hK_ K_)
  | (with_reducible refine gateK_yes ?_) | (refine gateK_no (by decide) ?_) | (with_reducible refine gateK_none ?_)
  | ((try first | refine WO_op rfl rfl rfl ?_ | refine WO_op0 rfl rfl ?_ | refine WD_op rfl rfl rfl ?_ | refine WD_op0 rfl rfl ?_); (refine WV_gen fun Q_ hQ_ => ?_; simp (disch := first | omega | (simp only [List.length_cons, List.length_nil, List.length_append]; omega)) only [bb, argF, ↓reduceIte, reduceCtorEq, Nat.reduceEqDiff, Nat.reduceLT, Nat.reduceLeDiff, Nat.reduceAdd, Nat.reduceMul, Nat.reduceSub, Nat.reduceBEq, Int.reduceToNat, List.append_assoc, List.length_append, cond_true, cond_false, List.length_cons, List.length_nil, List.cons_append, List.nil_append, List.append_nil, List.getElem?_cons_zero, List.getElem?_cons_succ, List.set_cons_zero, List.set_cons_succ, List.drop_zero, List.drop_succ_cons, List.take_zero, List.take_succ_cons, List.take_nil, List.drop_nil, eq_self, List.toList_toArray, beq_self_eq_true, g0, g1, g3, g4, g19, g20, g21, g5, g26, g27, g28, hix, hrow, ha1, ha2, newPtr_X wf, load1_X wf, loadAgg_X wf, store1_X wf, writeCells_X wf, bs_75, ia_2, sz_2, ia_3, sz_3, ia_22, sz_22, ia_46, sz_46, ia_52, sz_52, ia_70, sz_70, ze_70, ia_94, sz_94, ze_94, ik_94, fo_52_0, fo_24_2, pb_51, pb_52, pb_53, indexAddrE_def (P := Try.prog) (t := 94)]; first | (refine dec_split (Q := Q_) (fun hp_ => ?_) (fun hp_ => ?_) <;> first | (exfalso; omega) | (refine hQ_ _ _ ?_; clear hQ_ Q_)) | (refine dec_splitn (Q := Q_) (fun hp_ => ?_) (fun hp_ => ?_) <;> first | (exfalso; omega) | (refine hQ_ _ _ ?_; clear hQ_ Q_)) | (refine hQ_ _ _ ?_; clear hQ_ Q_)))
  | (refine WC_cond fun K_ hK_ => ?_; simp (disch := omega) only [evT_tmp, upd_apply, WB_some, ↓reduceIte, reduceCtorEq, Nat.reduceEqDiff, Nat.reduceLT]; refine hK_ _ ?_; clear hK_ K_)
  | (with_reducible refine condK_tt ?_) | (with_reducible refine condK_ff ?_) | (with_reducible refine roundQ_exit ?_) | (with_reducible refine roundQ_ret ?_)))
          refine WD_op rfl rfl rfl ?_
          refine WV_gen fun Q_ hQ_ => ?_
          simp (disch := first | omega | (simp only [List.length_cons, List.length_nil, List.length_append]; omega)) only [bb, argF, ↓reduceIte, reduceCtorEq, Nat.reduceEqDiff, Nat.reduceLT, Nat.reduceLeDiff, Nat.reduceAdd, Nat.reduceMul, Nat.reduceSub, Nat.reduceBEq, Int.reduceToNat, List.append_assoc, List.length_append, cond_true, cond_false, List.length_cons, List.length_nil, List.cons_append, List.nil_append, List.append_nil, List.getElem?_cons_zero, List.getElem?_cons_succ, List.set_cons_zero, List.set_cons_succ, List.drop_zero, List.drop_succ_cons, List.take_zero, List.take_succ_cons, List.take_nil, List.drop_nil, eq_self, List.toList_toArray, beq_self_eq_true, callV_yld, bs_75, ia_2, sz_2, ia_3, sz_3, ia_22, sz_22, ia_46, sz_46, ia_52, sz_52, ia_70, sz_70, ze_70, ia_94, sz_94, ze_94, ik_94, fo_52_0, fo_24_2, pb_51, pb_52, pb_53, indexAddrE_def (P := Try.prog) (t := 94)]
          refine WV_yield (lo := lo) (by omega) (by first | omega | (simp only [List.length_cons, List.length_append, List.length_nil]; omega)) (by first | omega | (simp only [List.length_cons, List.length_append, List.length_nil]; omega)) (fun w2 hl2 hw2 => hy (i * m + k) _ hpl hb _ w2 hIk hl2 hw2) (fun hb' J' w' s hl' hw' => ⟨fun hI' => hQ_ _ _ ?_, fun hD' => hQ_ _ _ ?_⟩)
          · clear hQ_ Q_
            have sc := s.clock
            (repeat' (first
  | (with_reducible refine WC_seq ?_) | (refine WC_region ?_) | (with_reducible refine WC_skip ?_) | (with_reducible refine WC_label ?_) | (with_reducible refine WC_scope ?_) | (with_reducible refine WC_block ?_) | (with_reducible refine WC_ret ?_) | (with_reducible refine WC_exit ?_)
  | (with_reducible refine seqQ_norm ?_) | (with_reducible refine seqQ_ret ?_) | (with_reducible refine seqQ_exit ?_) | (with_reducible refine blkQ_norm ?_) | (with_reducible refine blkQ_ret ?_) | (with_reducible refine blkQ_here ?_) | (refine blkQ_out rfl ?_)
  | (refine WO_nil ?_)
  | (refine WD_nil ?_)
  | (refine WD_gate rfl rfl rfl rfl rfl fun K_ hK_ => ?_; simp only [upd_apply, asB_bool, asB_tup, ↓reduceIte, reduceCtorEq, Nat.reduceEqDiff, Bool.not_true, Bool.not_false]; refine hK_ _ ?_; clear hK_ K_)
  | (refine WO_gate rfl rfl rfl rfl rfl fun K_ hK_ => ?_; simp only [upd_apply, asB_bool, asB_tup, ↓reduceIte, reduceCtorEq, Nat.reduceEqDiff, Bool.not_true, Bool.not_false]; refine hK_ _ ?_; clear hK_ K_)
  | (with_reducible refine gateK_yes ?_) | (refine gateK_no (by decide) ?_) | (with_reducible refine gateK_none ?_)
  | ((try first | refine WO_op rfl rfl rfl ?_ | refine WO_op0 rfl rfl ?_ | refine WD_op rfl rfl rfl ?_ | refine WD_op0 rfl rfl ?_); (refine WV_gen fun Q_ hQ_ => ?_; simp (disch := first | omega | (simp only [List.length_cons, List.length_nil, List.length_append]; omega)) only [bb, argF, ↓reduceIte, reduceCtorEq, Nat.reduceEqDiff, Nat.reduceLT, Nat.reduceLeDiff, Nat.reduceAdd, Nat.reduceMul, Nat.reduceSub, Nat.reduceBEq, Int.reduceToNat, List.append_assoc, List.length_append, cond_true, cond_false, List.length_cons, List.length_nil, List.cons_append, List.nil_append, List.append_nil, List.getElem?_cons_zero, List.getElem?_cons_succ, List.set_cons_zero, List.set_cons_succ, List.drop_zero, List.drop_succ_cons, List.take_zero, List.take_succ_cons, List.take_nil, List.drop_nil, eq_self, List.toList_toArray, beq_self_eq_true, g28]; first | (refine dec_split (Q := Q_) (fun hp_ => ?_) (fun hp_ => ?_) <;> first | (exfalso; omega) | (refine hQ_ _ _ ?_; clear hQ_ Q_)) | (refine dec_splitn (Q := Q_) (fun hp_ => ?_) (fun hp_ => ?_) <;> first | (exfalso; omega) | (refine hQ_ _ _ ?_; clear hQ_ Q_)) | (refine hQ_ _ _ ?_; clear hQ_ Q_)))
  | (refine WC_cond fun K_ hK_ => ?_; simp (disch := omega) only [evT_tmp, upd_apply, WB_some, ↓reduceIte, reduceCtorEq, Nat.reduceEqDiff, Nat.reduceLT]; refine hK_ _ ?_; clear hK_ K_)
  | (with_reducible refine condK_tt ?_) | (with_reducible refine condK_ff ?_) | (with_reducible refine roundQ_exit ?_) | (with_reducible refine roundQ_ret ?_)))
            refine roundQ_again (k + 1) (by omega) ⟨hkl, by simp only [upd_apply, ↓reduceIte, reduceCtorEq, Nat.reduceEqDiff]; exact g0, by simp only [upd_apply, ↓reduceIte, reduceCtorEq, Nat.reduceEqDiff]; exact g1, by simp only [upd_apply, ↓reduceIte, reduceCtorEq, Nat.reduceEqDiff]; rw [g3, hs.nx 0], by simp only [upd_apply, ↓reduceIte, reduceCtorEq, Nat.reduceEqDiff]; rw [g4, hs.nx 1], by simp only [upd_apply, ↓reduceIte, reduceCtorEq, Nat.reduceEqDiff]; exact g19, by simp only [upd_apply, ↓reduceIte, reduceCtorEq, Nat.reduceEqDiff]; exact g20, by simp only [upd_apply, ↓reduceIte, reduceCtorEq, Nat.reduceEqDiff]; exact g21, by simp only [upd_apply, ↓reduceIte, reduceCtorEq, Nat.reduceEqDiff]; exact g5, by simp only [upd_apply, ↓reduceIte, reduceCtorEq, Nat.reduceEqDiff]; exact g26, by simp only [upd_apply, ↓reduceIte, reduceCtorEq, Nat.reduceEqDiff]; exact g27, by simp only [upd_apply, ↓reduceIte, reduceCtorEq, Nat.reduceEqDiff]; rfl, rfl, ?_⟩
            exact ⟨hb', _, _, rfl, hI', by omega, by rw [s.clock]; omega, fun _ => by rw [s.clock]; omega⟩
          · clear hQ_ Q_
            have sc := s.clock
            (repeat' (first
  | (with_reducible refine WC_seq ?_) | (refine WC_region ?_) | (with_reducible refine WC_skip ?_) | (with_reducible refine WC_label ?_) | (with_reducible refine WC_scope ?_) | (with_reducible refine WC_block ?_) | (with_reducible refine WC_ret ?_) | (with_reducible refine WC_exit ?_)
  | (with_reducible refine seqQ_norm ?_) | (with_reducible refine seqQ_ret ?_) | (with_reducible refine seqQ_exit ?_) | (with_reducible refine blkQ_norm ?_) | (with_reducible refine blkQ_ret ?_) | (with_reducible refine blkQ_here ?_) | (refine blkQ_out rfl ?_)
  | (refine WO_nil ?_)
  | (refine WD_nil ?_)
  | (refine WD_gate rfl rfl rfl rfl rfl fun K_ hK_ => ?_; simp only [upd_apply, asB_bool, asB_tup, ↓reduceIte, reduceCtorEq, Nat.reduceEqDiff, Bool.not_true, Bool.not_false]; refine hK_ _ ?_; clear hK_ K_)
  | (refine WO_gate rfl rfl rfl rfl rfl fun K_ hK_ => ?_; simp only [upd_apply, asB_bool, asB_tup, ↓reduceIte, reduceCtorEq, Nat.reduceEqDiff, Bool.not_true, Bool.not_false]; refine hK_ _ ?_; clear hK_ K_)
  | (with_reducible refine gateK_yes ?_) | (refine gateK_no (by decide) ?_) | (with_reducible refine gateK_none ?_)
  | ((try first | refine WO_op rfl rfl rfl ?_ | refine WO_op0 rfl rfl ?_ | refine WD_op rfl rfl rfl ?_ | refine WD_op0 rfl rfl ?_); (refine WV_gen fun Q_ hQ_ => ?_; simp (disch := first | omega | (simp only [List.length_cons, List.length_nil, List.length_append]; omega)) only [bb, argF, ↓reduceIte, reduceCtorEq, Nat.reduceEqDiff, Nat.reduceLT, Nat.reduceLeDiff, Nat.reduceAdd, Nat.reduceMul, Nat.reduceSub, Nat.reduceBEq, Int.reduceToNat, List.append_assoc, List.length_append, cond_true, cond_false, List.length_cons, List.length_nil, List.cons_append, List.nil_append, List.append_nil, List.getElem?_cons_zero, List.getElem?_cons_succ, List.set_cons_zero, List.set_cons_succ, List.drop_zero, List.drop_succ_cons, List.take_zero, List.take_succ_cons, List.take_nil, List.drop_nil, eq_self, List.toList_toArray, beq_self_eq_true, g28]; first | (refine dec_split (Q := Q_) (fun hp_ => ?_) (fun hp_ => ?_) <;> first | (exfalso; omega) | (refine hQ_ _ _ ?_; clear hQ_ Q_)) | (refine dec_splitn (Q := Q_) (fun hp_ => ?_) (fun hp_ => ?_) <;> first | (exfalso; omega) | (refine hQ_ _ _ ?_; clear hQ_ Q_)) | (refine hQ_ _ _ ?_; clear hQ_ Q_)))
  | (refine WC_cond fun K_ hK_ => ?_; simp (disch := omega) only [evT_tmp, upd_apply, WB_some, ↓reduceIte, reduceCtorEq, Nat.reduceEqDiff, Nat.reduceLT]; refine hK_ _ ?_; clear hK_ K_)
  | (with_reducible refine condK_tt ?_) | (with_reducible refine condK_ff ?_) | (with_reducible refine roundQ_exit ?_) | (with_reducible refine roundQ_ret ?_)))
            have hs' := hs.trans s
            refine endQ_ret _ (.tup []) rfl rfl (WV_out (by rw [← hs.clock]; omega) ⟨hb', _, _, rfl, hs', by omega, ?_, .inr hD'⟩)
            rw [s.clock]
            omega
        · have hke : k = m := by omega
          subst hke
          (repeat' (first
  | (with_reducible refine WC_seq ?_) | (refine WC_region ?_) | (with_reducible refine WC_skip ?_) | (with_reducible refine WC_label ?_) | (with_reducible refine WC_scope ?_) | (with_reducible refine WC_block ?_) | (with_reducible refine WC_ret ?_) | (with_reducible refine WC_exit ?_)
  | (with_reducible refine seqQ_norm ?_) | (with_reducible refine seqQ_ret ?_) | (with_reducible refine seqQ_exit ?_) | (with_reducible refine blkQ_norm ?_) | (with_reducible refine blkQ_ret ?_) | (with_reducible refine blkQ_here ?_) | (refine blkQ_out rfl ?_)
  | (refine WO_nil ?_)
  | (refine WD_nil ?_)
  | (refine WD_gate rfl rfl rfl rfl rfl fun K_ hK_ => ?_; simp only [upd_apply, asB_bool, asB_tup, ↓reduceIte, reduceCtorEq, Nat.reduceEqDiff, Bool.not_true, Bool.not_false]; refine hK_ _ ?_; clear hK_ K_)
  | (refine WO_gate rfl rfl rfl rfl rfl fun K_ hK_ => ?_; simp only [upd_apply, asB_bool, asB_tup, ↓reduceIte, reduceCtorEq, Nat.reduceEqDiff, Bool.not_true, Bool.not_false]; refine hK_ _ ?_; clear hK_ K_)
  | (with_reducible refine gateK_yes ?_) | (refine gateK_no (by decide) ?_) | (with_reducible refine gateK_none ?_)
  | ((try first | refine WO_op rfl rfl rfl ?_ | refine WO_op0 rfl rfl ?_ | refine WD_op rfl rfl rfl ?_ | refine WD_op0 rfl rfl ?_); (refine WV_gen fun Q_ hQ_ => ?_; simp (disch := first | omega | (simp only [List.length_cons, List.length_nil, List.length_append]; omega)) only [bb, argF, ↓reduceIte, reduceCtorEq, Nat.reduceEqDiff, Nat.reduceLT, Nat.reduceLeDiff, Nat.reduceAdd, Nat.reduceMul, Nat.reduceSub, Nat.reduceBEq, Int.reduceToNat, List.append_assoc, List.length_append, cond_true, cond_false, List.length_cons, List.length_nil, List.cons_append, List.nil_append, List.append_nil, List.getElem?_cons_zero, List.getElem?_cons_succ, List.set_cons_zero, List.set_cons_succ, List.drop_zero, List.drop_succ_cons, List.take_zero, List.take_succ_cons, List.take_nil, List.drop_nil, eq_self, List.toList_toArray, beq_self_eq_true, g0, g1, g3, g4, g19, g20, g21, g5, g26, g27, g28]; first | (refine dec_split (Q := Q_) (fun hp_ => ?_) (fun hp_ => ?_) <;> first | (exfalso; omega) | (refine hQ_ _ _ ?_; clear hQ_ Q_)) | (refine dec_splitn (Q := Q_) (fun hp_ => ?_) (fun hp_ => ?_) <;> first | (exfalso; omega) | (refine hQ_ _ _ ?_; clear hQ_ Q_)) | (refine hQ_ _ _ ?_; clear hQ_ Q_)))
  | (refine WC_cond fun K_ hK_ => ?_; simp (disch := omega) only [evT_tmp, upd_apply, WB_some, ↓reduceIte, reduceCtorEq, Nat.reduceEqDiff, Nat.reduceLT]; refine hK_ _ ?_; clear hK_ K_)
  | (with_reducible refine condK_tt ?_) | (with_reducible refine condK_ff ?_) | (with_reducible refine roundQ_exit ?_) | (with_reducible refine roundQ_ret ?_)))
          refine roundQ_again (i + 1) (by omega) ⟨hlt, by simp only [upd_apply, ↓reduceIte, reduceCtorEq, Nat.reduceEqDiff]; exact g0, by simp only [upd_apply, ↓reduceIte, reduceCtorEq, Nat.reduceEqDiff]; exact g1, by simp only [upd_apply, ↓reduceIte, reduceCtorEq, Nat.reduceEqDiff]; exact g3, by simp only [upd_apply, ↓reduceIte, reduceCtorEq, Nat.reduceEqDiff]; exact g4, by simp only [upd_apply, ↓reduceIte, reduceCtorEq, Nat.reduceEqDiff]; exact g19, by simp only [upd_apply, ↓reduceIte, reduceCtorEq, Nat.reduceEqDiff]; exact g20, by simp only [upd_apply, ↓reduceIte, reduceCtorEq, Nat.reduceEqDiff]; rfl, rfl, ?_⟩
          exact ⟨hb, _, _, rfl, by rw [Nat.succ_mul]; exact hIk, hlo, hw, fun _ => hw0 (by omega)⟩
      · exact ⟨Nat.zero_le _, by simp only [upd_apply, ↓reduceIte, reduceCtorEq, Nat.reduceEqDiff]; exact g0, by simp only [upd_apply, ↓reduceIte, reduceCtorEq, Nat.reduceEqDiff]; exact g1, by simp only [upd_apply, ↓reduceIte, reduceCtorEq, Nat.reduceEqDiff]; exact g3, by simp only [upd_apply, ↓reduceIte, reduceCtorEq, Nat.reduceEqDiff]; exact g4, by simp only [upd_apply, ↓reduceIte, reduceCtorEq, Nat.reduceEqDiff]; exact g19, by simp only [upd_apply, ↓reduceIte, reduceCtorEq, Nat.reduceEqDiff]; exact g20, by simp only [upd_apply, ↓reduceIte, reduceCtorEq, Nat.reduceEqDiff]; exact g21, by simp only [upd_apply, ↓reduceIte, reduceCtorEq, Nat.reduceEqDiff], by simp only [upd_apply, ↓reduceIte, reduceCtorEq, Nat.reduceEqDiff], by simp only [upd_apply, ↓reduceIte, reduceCtorEq, Nat.reduceEqDiff], by simp only [upd_apply, ↓reduceIte, reduceCtorEq, Nat.reduceEqDiff]; rfl, rfl, hb, _, _, rfl, hIi, hlo, hw, fun h => hw0 (by
          rcases Nat.eq_zero_or_pos i with rfl | h'
          · simp at h
          · exact h')⟩
    · have hie : i = rows.length := by omega
      subst hie
      (repeat' (first
  | (with_reducible refine WC_seq ?_) | (refine WC_region ?_) | (with_reducible refine WC_skip ?_) | (with_reducible refine WC_label ?_) | (with_reducible refine WC_scope ?_) | (with_reducible refine WC_block ?_) | (with_reducible refine WC_ret ?_) | (with_reducible refine WC_exit ?_)
  | (with_reducible refine seqQ_norm ?_) | (with_reducible refine seqQ_ret ?_) | (with_reducible refine seqQ_exit ?_) | (with_reducible refine blkQ_norm ?_) | (with_reducible refine blkQ_ret ?_) | (with_reducible refine blkQ_here ?_) | (refine blkQ_out rfl ?_)
  | (refine WO_nil ?_)
  | (refine WD_nil ?_)
  | (refine WD_gate rfl rfl rfl rfl rfl fun K_ hK_ => ?_; simp only [upd_apply, asB_bool, asB_tup, ↓reduceIte, reduceCtorEq, Nat.reduceEqDiff, Bool.not_true, Bool.not_false]; refine hK_ _ ?_; clear hK_ K_)
  | (refine WO_gate rfl rfl rfl rfl rfl fun K_ hK_ => ?_; simp only [upd_apply, asB_bool, asB_tup, ↓reduceIte, reduceCtorEq, Nat.reduceEqDiff, Bool.not_true, Bool.not_false]; refine hK_ _ ?_; clear hK_ K_)
  | (with_reducible refine gateK_yes ?_) | (refine gateK_no (by decide) ?_) | (with_reducible refine gateK_none ?_)
  | ((try first | refine WO_op rfl rfl rfl ?_ | refine WO_op0 rfl rfl ?_ | refine WD_op rfl rfl rfl ?_ | refine WD_op0 rfl rfl ?_); (refine WV_gen fun Q_ hQ_ => ?_; simp (disch := first | omega | (simp only [List.length_cons, List.length_nil, List.length_append]; omega)) only [bb, argF, ↓reduceIte, reduceCtorEq, Nat.reduceEqDiff, Nat.reduceLT, Nat.reduceLeDiff, Nat.reduceAdd, Nat.reduceMul, Nat.reduceSub, Nat.reduceBEq, Int.reduceToNat, List.append_assoc, List.length_append, cond_true, cond_false, List.length_cons, List.length_nil, List.cons_append, List.nil_append, List.append_nil, List.getElem?_cons_zero, List.getElem?_cons_succ, List.set_cons_zero, List.set_cons_succ, List.drop_zero, List.drop_succ_cons, List.take_zero, List.take_succ_cons, List.take_nil, List.drop_nil, eq_self, List.toList_toArray, beq_self_eq_true, g0, g1, g3, g4, g19, g20, g21]; first | (refine dec_split (Q := Q_) (fun hp_ => ?_) (fun hp_ => ?_) <;> first | (exfalso; omega) | (refine hQ_ _ _ ?_; clear hQ_ Q_)) | (refine dec_splitn (Q := Q_) (fun hp_ => ?_) (fun hp_ => ?_) <;> first | (exfalso; omega) | (refine hQ_ _ _ ?_; clear hQ_ Q_)) | (refine hQ_ _ _ ?_; clear hQ_ Q_)))
  | (refine WC_cond fun K_ hK_ => ?_; simp (disch := omega) only [evT_tmp, upd_apply, WB_some, ↓reduceIte, reduceCtorEq, Nat.reduceEqDiff, Nat.reduceLT]; refine hK_ _ ?_; clear hK_ K_)
  | (with_reducible refine condK_tt ?_) | (with_reducible refine condK_ff ?_) | (with_reducible refine roundQ_exit ?_) | (with_reducible refine roundQ_ret ?_)))
      refine endQ_ret _ (.tup []) rfl rfl (WV_out (by rw [← hs.clock]; exact hw0 (by omega)) ⟨hb, _, _, rfl, hs, by omega, ?_, .inl (by rw [placesOf_length]; exact hIi)⟩)
      omega
  · exact ⟨Nat.zero_le _, by simp only [upd_apply, ↓reduceIte, reduceCtorEq, Nat.reduceEqDiff], by simp only [upd_apply, ↓reduceIte, reduceCtorEq, Nat.reduceEqDiff], by simp only [upd_apply, ↓reduceIte, reduceCtorEq, Nat.reduceEqDiff], by simp only [upd_apply, ↓reduceIte, reduceCtorEq, Nat.reduceEqDiff], by simp only [upd_apply, ↓reduceIte, reduceCtorEq, Nat.reduceEqDiff], by simp only [upd_apply, ↓reduceIte, reduceCtorEq, Nat.reduceEqDiff], by simp only [upd_apply, ↓reduceIte, reduceCtorEq, Nat.reduceEqDiff]; rfl, rfl, hb0, [], _, rfl, by rw [Nat.zero_mul]; exact h0, Nat.le_trans hlo0 hlow, Nat.le_refl _, fun h => absurd h (Nat.lt_irrefl _)⟩
end Go.Proofs.Ytghondkiondeaab
end

/- EvH3 -/
section
/-
  LAYER 2: weights, and how many waterlines there are.
-/
namespace Go.Proofs.Ytghondkiondeaab
open Go.Ev
set_option maxRecDepth 100000
set_option linter.unusedSimpArgs false
set_option linter.unusedVariables false
set_option maxHeartbeats 2000000

theorem lines (p : Pos) (sp st : Int) (a : AV) (rvs : List AV) (rows : List (List (Int × Int))) (m : Nat) (hn : 0 < rows.length) (h : H) (wf : Wf h) (hB : HullIn h p sp st a rvs rows m) (J : List AO) (w : Nat) (hw : w ≤ h.clock + J.length) :
    (om Try.prog KK).call (.fn 53 [.agg [ii sp, ii st, a]]) (X h J w) = .ok (ii (m : Int)) (X h J w) := by
  obtain ⟨v, hv, hsv, hrl⟩ := hB.row 0 hn
  obtain ⟨id, off, hix, hld⟩ := (hB.sl.up wf J w).at1 (wf.X hw) (i := 0) hn ik_22
  rw [hv] at hld
  have hix' : indexAddrE Try.prog 22 a (.int .i64 0) = some (.ptr id off) := hix
  have hlenv : ∀ h', lenE Try.prog 46 v h' = some (ii (m : Int)) := fun h' => hsv.len un_46
  obtain ⟨hl, hsl⟩ : oneB a = true ∧ AV.cells a = [a] := by
    obtain ⟨_, ⟨rfl, _⟩ | ⟨_, _, _, _, _, _, rfl, _⟩⟩ := hB.sl <;> exact ⟨rfl, rfl⟩
  have wf' := wf.X hw
  generalize hX : X h J w = hb at *
  refine WV_to (WV_call (fn := Try.f53) Try.func53 rfl rfl rfl rfl rfl ?_)
  simp only [argF]
  (repeat' (first
  | (with_reducible refine WC_seq ?_) | (refine WC_region ?_) | (with_reducible refine WC_skip ?_) | (with_reducible refine WC_label ?_) | (with_reducible refine WC_scope ?_) | (with_reducible refine WC_block ?_) | (with_reducible refine WC_ret ?_) | (with_reducible refine WC_exit ?_)
  | (with_reducible refine seqQ_norm ?_) | (with_reducible refine seqQ_ret ?_) | (with_reducible refine seqQ_exit ?_) | (with_reducible refine blkQ_norm ?_) | (with_reducible refine blkQ_ret ?_) | (with_reducible refine blkQ_here ?_) | (refine blkQ_out rfl ?_)
  | (refine WO_nil ?_)
  | (refine WD_nil ?_)
  | (refine WD_gate rfl rfl rfl rfl rfl fun K_ hK_ => ?_; simp only [upd_apply, asB_bool, asB_tup, ↓reduceIte, reduceCtorEq, Nat.reduceEqDiff, Bool.not_true, Bool.not_false]; refine hK_ _ ?_; clear hK_ K_)
  | (refine WO_gate rfl rfl rfl rfl rfl fun K_ hK_ => ?_; simp only [upd_apply, asB_bool, asB_tup, ↓reduceIte, reduceCtorEq, Nat.reduceEqDiff, Bool.not_true, Bool.not_false]; refine hK_ _ ?_; clear hK_ K_)
  | (with_reducible refine gateK_yes ?_) | (refine gateK_no (by decide) ?_) | (with_reducible refine gateK_none ?_)
  | ((try first | refine WO_op rfl rfl rfl ?_ | refine WO_op0 rfl rfl ?_ | refine WD_op rfl rfl rfl ?_ | refine WD_op0 rfl rfl ?_); (refine WV_gen fun Q_ hQ_ => ?_; simp (disch := first | omega | (simp only [List.length_cons, List.length_nil, List.length_append]; omega)) only [bb, argF, ↓reduceIte, reduceCtorEq, Nat.reduceEqDiff, Nat.reduceLT, Nat.reduceLeDiff, Nat.reduceAdd, Nat.reduceMul, Nat.reduceSub, Nat.reduceBEq, Int.reduceToNat, List.append_assoc, List.length_append, cond_true, cond_false, List.length_cons, List.length_nil, List.cons_append, List.nil_append, List.append_nil, List.getElem?_cons_zero, List.getElem?_cons_succ, List.set_cons_zero, List.set_cons_succ, List.drop_zero, List.drop_succ_cons, List.take_zero, List.take_succ_cons, List.take_nil, List.drop_nil, eq_self, List.toList_toArray, beq_self_eq_true, hix', hld, hlenv, newPtr_X wf', load1_X wf', ia_2, sz_2, ia_3, sz_3, ia_22, sz_22, ia_46, sz_46, ia_52, sz_52, ia_94, sz_94, ze_94, ik_94, fo_52_0, fo_24_2, pb_52, pb_53, indexAddrE_def (P := Try.prog) (t := 94)]; first | (refine dec_split (Q := Q_) (fun hp_ => ?_) (fun hp_ => ?_) <;> first | (exfalso; omega) | (refine hQ_ _ _ ?_; clear hQ_ Q_)) | (refine dec_splitn (Q := Q_) (fun hp_ => ?_) (fun hp_ => ?_) <;> first | (exfalso; omega) | (refine hQ_ _ _ ?_; clear hQ_ Q_)) | (refine hQ_ _ _ ?_; clear hQ_ Q_)))
  | (refine WC_cond fun K_ hK_ => ?_; simp (disch := omega) only [evT_tmp, upd_apply, WB_some, ↓reduceIte, reduceCtorEq, Nat.reduceEqDiff, Nat.reduceLT]; refine hK_ _ ?_; clear hK_ K_)
  | (with_reducible refine condK_tt ?_) | (with_reducible refine condK_ff ?_) | (with_reducible refine roundQ_exit ?_) | (with_reducible refine roundQ_ret ?_)))
  (refine endQ_ret _ _ rfl (ret1 (by decide)) ?_; simp only [upd_apply, ↓reduceIte, reduceCtorEq, Nat.reduceEqDiff]; refine WV_flat rfl (by omega) ?_)
  exact ⟨rfl, rfl⟩

/-- After so many rounds. -/
def wtk (k : Nat) : List AV := [ii (if 0 < k then 2 else 0), ii (if 1 < k then 2 else 0), ii (if 2 < k then 2 else 0), ii (if 3 < k then 2 else 0), ii (if 4 < k then 2 else 0), ii (if 5 < k then 2 else 0), ii (if 6 < k then 2 else 0), ii (if 7 < k then 2 else 0), ii (if 8 < k then 2 else 0), ii (if 9 < k then 2 else 0)]
theorem wtk_set (k : Nat) (hk : k < 10) : (wtk k).set k (ii 2) = wtk (k + 1) := by
  match k, hk with
  | 0, _ => rfl | 1, _ => rfl | 2, _ => rfl | 3, _ => rfl | 4, _ => rfl | 5, _ => rfl | 6, _ => rfl | 7, _ => rfl | 8, _ => rfl | 9, _ => rfl
theorem wtk_len (k : Nat) : (wtk k).length = 10 := rfl
theorem wtk_end (n : Nat) (h2 : 2 ≤ n) (h10 : n ≤ 10) : ((wtk n).set 0 (ii 1)).set (n - 1) (ii 1) = wts n := by
  match n, h2, h10 with
  | 2, _, _ => rfl | 3, _, _ => rfl | 4, _, _ => rfl | 5, _, _ => rfl | 6, _, _ => rfl | 7, _, _ => rfl | 8, _, _ => rfl | 9, _, _ => rfl | 10, _, _ => rfl

theorem weights (n : Nat) (h2 : 2 ≤ n) (h10 : n ≤ 10) (h : H) (wf : Wf h) : (om Try.prog KK).call (.fn 52 [ii (n : Int)]) h = .ok (.agg (wts n)) h := by
  refine WV_to (WV_call (fn := Try.f52) Try.func52 rfl rfl rfl rfl rfl ?_)
  simp only [argF]
  (repeat' (first
  | (with_reducible refine WC_seq ?_) | (refine WC_region ?_) | (with_reducible refine WC_skip ?_) | (with_reducible refine WC_label ?_) | (with_reducible refine WC_scope ?_) | (with_reducible refine WC_block ?_) | (with_reducible refine WC_ret ?_) | (with_reducible refine WC_exit ?_)
  | (with_reducible refine seqQ_norm ?_) | (with_reducible refine seqQ_ret ?_) | (with_reducible refine seqQ_exit ?_) | (with_reducible refine blkQ_norm ?_) | (with_reducible refine blkQ_ret ?_) | (with_reducible refine blkQ_here ?_) | (refine blkQ_out rfl ?_)
  | (refine WO_nil ?_)
  | (refine WD_nil ?_)
  | (refine WD_gate rfl rfl rfl rfl rfl fun K_ hK_ => ?_; simp only [upd_apply, asB_bool, asB_tup, ↓reduceIte, reduceCtorEq, Nat.reduceEqDiff, Bool.not_true, Bool.not_false]; refine hK_ _ ?_; clear hK_ K_)
  | (refine WO_gate rfl rfl rfl rfl rfl fun K_ hK_ => ?_; simp only [upd_apply, asB_bool, asB_tup, ↓reduceIte, reduceCtorEq, Nat.reduceEqDiff, Bool.not_true, Bool.not_false]; refine hK_ _ ?_; clear hK_ K_)
  | (with_reducible refine gateK_yes ?_) | (refine gateK_no (by decide) ?_) | (with_reducible refine gateK_none ?_)
  | ((try first | refine WO_op rfl rfl rfl ?_ | refine WO_op0 rfl rfl ?_ | refine WD_op rfl rfl rfl ?_ | refine WD_op0 rfl rfl ?_); (refine WV_gen fun Q_ hQ_ => ?_; simp (disch := first | omega | (simp only [List.length_cons, List.length_nil, List.length_append]; omega)) only [bb, argF, ↓reduceIte, reduceCtorEq, Nat.reduceEqDiff, Nat.reduceLT, Nat.reduceLeDiff, Nat.reduceAdd, Nat.reduceMul, Nat.reduceSub, Nat.reduceBEq, Int.reduceToNat, List.append_assoc, List.length_append, cond_true, cond_false, List.length_cons, List.length_nil, List.cons_append, List.nil_append, List.append_nil, List.getElem?_cons_zero, List.getElem?_cons_succ, List.set_cons_zero, List.set_cons_succ, List.drop_zero, List.drop_succ_cons, List.take_zero, List.take_succ_cons, List.take_nil, List.drop_nil, eq_self, List.toList_toArray, beq_self_eq_true, newPtr_X wf, load1_X wf, loadAgg_X wf, store1_X wf, writeCells_X wf, ia_2, sz_2, ia_3, sz_3, ia_22, sz_22, ia_46, sz_46, ia_52, sz_52, ia_94, sz_94, ze_94, ik_94, fo_52_0, fo_24_2, pb_52, pb_53, indexAddrE_def (P := Try.prog) (t := 94)]; first | (refine dec_split (Q := Q_) (fun hp_ => ?_) (fun hp_ => ?_) <;> first | (exfalso; omega) | (refine hQ_ _ _ ?_; clear hQ_ Q_)) | (refine dec_splitn (Q := Q_) (fun hp_ => ?_) (fun hp_ => ?_) <;> first | (exfalso; omega) | (refine hQ_ _ _ ?_; clear hQ_ Q_)) | (refine hQ_ _ _ ?_; clear hQ_ Q_)))
  | (refine WC_cond fun K_ hK_ => ?_; simp (disch := omega) only [evT_tmp, upd_apply, WB_some, ↓reduceIte, reduceCtorEq, Nat.reduceEqDiff, Nat.reduceLT]; refine hK_ _ ?_; clear hK_ K_)
  | (with_reducible refine condK_tt ?_) | (with_reducible refine condK_ff ?_) | (with_reducible refine roundQ_exit ?_) | (with_reducible refine roundQ_ret ?_)))
  refine WC_loop (fun (k : Nat) f d h' => k ≤ n ∧ f 0 = ii (n : Int) ∧ f 2 = .ptr (nx h 0) 0 ∧ f 3 = .ptr (nx h 1) 0 ∧ f 5 = ii (n : Int) ∧ f 6 = ii (k : Int) ∧ d = [] ∧ h' = X h [.cells (mkCells (wtk 0)) 94, .cells (mkCells (wtk k)) 94] h.clock) (fun k => n - k) ?_ (n + 1) 0 (by omega) ?_
  · rintro k f d h' ⟨hk, g0, g2, g3, g5, g6, rfl, rfl⟩
    by_cases hlt : k < n
    · have hk10 : k < 10 := by omega
      (repeat' (first
  | (with_reducible refine WC_seq ?_) | (refine WC_region ?_) | (with_reducible refine WC_skip ?_) | (with_reducible refine WC_label ?_) | (with_reducible refine WC_scope ?_) | (with_reducible refine WC_block ?_) | (with_reducible refine WC_ret ?_) | (with_reducible refine WC_exit ?_)
  | (with_reducible refine seqQ_norm ?_) | (with_reducible refine seqQ_ret ?_) | (with_reducible refine seqQ_exit ?_) | (with_reducible refine blkQ_norm ?_) | (with_reducible refine blkQ_ret ?_) | (with_reducible refine blkQ_here ?_) | (refine blkQ_out rfl ?_)
  | (refine WO_nil ?_)
  | (refine WD_nil ?_)
  | (refine WD_gate rfl rfl rfl rfl rfl fun K_ hK_ => ?_; simp only [upd_apply, asB_bool, asB_tup, ↓reduceIte, reduceCtorEq, Nat.reduceEqDiff, Bool.not_true, Bool.not_false]; refine hK_ _ ?_; clear hK_ K_)
  | (refine WO_gate rfl rfl rfl rfl rfl fun K_ hK_ => ?_; simp only [upd_apply, asB_bool, asB_tup, ↓reduceIte, reduceCtorEq, Nat.reduceEqDiff, Bool.not_true, Bool.not_false]; refine hK_ _ ?_; clear hK_ K_)
  | (with_reducible refine gateK_yes ?_) | (refine gateK_no (by decide) ?_) | (with_reducible refine gateK_none ?_)
  | ((try first | refine WO_op rfl rfl rfl ?_ | refine WO_op0 rfl rfl ?_ | refine WD_op rfl rfl rfl ?_ | refine WD_op0 rfl rfl ?_); (refine WV_gen fun Q_ hQ_ => ?_; simp (disch := first | omega | (simp only [List.length_cons, List.length_nil, List.length_append]; omega)) only [bb, argF, ↓reduceIte, reduceCtorEq, Nat.reduceEqDiff, Nat.reduceLT, Nat.reduceLeDiff, Nat.reduceAdd, Nat.reduceMul, Nat.reduceSub, Nat.reduceBEq, Int.reduceToNat, List.append_assoc, List.length_append, cond_true, cond_false, List.length_cons, List.length_nil, List.cons_append, List.nil_append, List.append_nil, List.getElem?_cons_zero, List.getElem?_cons_succ, List.set_cons_zero, List.set_cons_succ, List.drop_zero, List.drop_succ_cons, List.take_zero, List.take_succ_cons, List.take_nil, List.drop_nil, eq_self, List.toList_toArray, beq_self_eq_true, g0, g2, g3, g5, g6, wtk_set k hk10, wtk_len, hk10, newPtr_X wf, load1_X wf, loadAgg_X wf, store1_X wf, writeCells_X wf, ia_2, sz_2, ia_3, sz_3, ia_22, sz_22, ia_46, sz_46, ia_52, sz_52, ia_94, sz_94, ze_94, ik_94, fo_52_0, fo_24_2, pb_52, pb_53, indexAddrE_def (P := Try.prog) (t := 94)]; first | (refine dec_split (Q := Q_) (fun hp_ => ?_) (fun hp_ => ?_) <;> first | (exfalso; omega) | (refine hQ_ _ _ ?_; clear hQ_ Q_)) | (refine dec_splitn (Q := Q_) (fun hp_ => ?_) (fun hp_ => ?_) <;> first | (exfalso; omega) | (refine hQ_ _ _ ?_; clear hQ_ Q_)) | (refine hQ_ _ _ ?_; clear hQ_ Q_)))
  | (refine WC_cond fun K_ hK_ => ?_; simp (disch := omega) only [evT_tmp, upd_apply, WB_some, ↓reduceIte, reduceCtorEq, Nat.reduceEqDiff, Nat.reduceLT]; refine hK_ _ ?_; clear hK_ K_)
  | (with_reducible refine condK_tt ?_) | (with_reducible refine condK_ff ?_) | (with_reducible refine roundQ_exit ?_) | (with_reducible refine roundQ_ret ?_)))
      refine roundQ_again (k + 1) (by omega) ⟨hlt, by simp only [upd_apply, ↓reduceIte, reduceCtorEq, Nat.reduceEqDiff]; exact g0, by simp only [upd_apply, ↓reduceIte, reduceCtorEq, Nat.reduceEqDiff]; exact g2, by simp only [upd_apply, ↓reduceIte, reduceCtorEq, Nat.reduceEqDiff]; exact g3, by simp only [upd_apply, ↓reduceIte, reduceCtorEq, Nat.reduceEqDiff]; exact g5, by simp only [upd_apply, ↓reduceIte, reduceCtorEq, Nat.reduceEqDiff]; rfl, rfl, ?_⟩
      rfl
    · have hke : k = n := by omega
      subst hke
      have e1 : (k : Int) - 1 = ((k - 1 : Nat) : Int) := by omega
      have hk0 : k - 1 < 10 := by omega
      have hdrop : List.drop 10 (wtk 0) = [] := rfl
      have he := wtk_end k h2 h10
      unfold ii at he
      (repeat' (first
  | (with_reducible refine WC_seq ?_) | (refine WC_region ?_) | (with_reducible refine WC_skip ?_) | (with_reducible refine WC_label ?_) | (with_reducible refine WC_scope ?_) | (with_reducible refine WC_block ?_) | (with_reducible refine WC_ret ?_) | (with_reducible refine WC_exit ?_)
  | (with_reducible refine seqQ_norm ?_) | (with_reducible refine seqQ_ret ?_) | (with_reducible refine seqQ_exit ?_) | (with_reducible refine blkQ_norm ?_) | (with_reducible refine blkQ_ret ?_) | (with_reducible refine blkQ_here ?_) | (refine blkQ_out rfl ?_)
  | (refine WO_nil ?_)
  | (refine WD_nil ?_)
  | (refine WD_gate rfl rfl rfl rfl rfl fun K_ hK_ => ?_; simp only [upd_apply, asB_bool, asB_tup, ↓reduceIte, reduceCtorEq, Nat.reduceEqDiff, Bool.not_true, Bool.not_false]; refine hK_ _ ?_; clear hK_ K_)
  | (refine WO_gate rfl rfl rfl rfl rfl fun K_ hK_ => ?_; simp only [upd_apply, asB_bool, asB_tup, ↓reduceIte, reduceCtorEq, Nat.reduceEqDiff, Bool.not_true, Bool.not_false]; refine hK_ _ ?_; clear hK_ K_)
  | (with_reducible refine gateK_yes ?_) | (refine gateK_no (by decide) ?_) | (with_reducible refine gateK_none ?_)
  | ((try first | refine WO_op rfl rfl rfl ?_ | refine WO_op0 rfl rfl ?_ | refine WD_op rfl rfl rfl ?_ | refine WD_op0 rfl rfl ?_); (refine WV_gen fun Q_ hQ_ => ?_; simp (disch := first | omega | (simp only [List.length_cons, List.length_nil, List.length_append]; omega)) only [bb, argF, ↓reduceIte, reduceCtorEq, Nat.reduceEqDiff, Nat.reduceLT, Nat.reduceLeDiff, Nat.reduceAdd, Nat.reduceMul, Nat.reduceSub, Nat.reduceBEq, Int.reduceToNat, List.append_assoc, List.length_append, cond_true, cond_false, List.length_cons, List.length_nil, List.cons_append, List.nil_append, List.append_nil, List.getElem?_cons_zero, List.getElem?_cons_succ, List.set_cons_zero, List.set_cons_succ, List.drop_zero, List.drop_succ_cons, List.take_zero, List.take_succ_cons, List.take_nil, List.drop_nil, eq_self, List.toList_toArray, beq_self_eq_true, g0, g2, g3, g5, g6, e1, wtk_len, hk0, he, wts, hdrop, List.length_set, newPtr_X wf, load1_X wf, loadAgg_X wf, store1_X wf, writeCells_X wf, ia_2, sz_2, ia_3, sz_3, ia_22, sz_22, ia_46, sz_46, ia_52, sz_52, ia_94, sz_94, ze_94, ik_94, fo_52_0, fo_24_2, pb_52, pb_53, indexAddrE_def (P := Try.prog) (t := 94)]; first | (refine dec_split (Q := Q_) (fun hp_ => ?_) (fun hp_ => ?_) <;> first | (exfalso; omega) | (refine hQ_ _ _ ?_; clear hQ_ Q_)) | (refine dec_splitn (Q := Q_) (fun hp_ => ?_) (fun hp_ => ?_) <;> first | (exfalso; omega) | (refine hQ_ _ _ ?_; clear hQ_ Q_)) | (refine hQ_ _ _ ?_; clear hQ_ Q_)))
  | (refine WC_cond fun K_ hK_ => ?_; simp (disch := omega) only [evT_tmp, upd_apply, WB_some, ↓reduceIte, reduceCtorEq, Nat.reduceEqDiff, Nat.reduceLT]; refine hK_ _ ?_; clear hK_ K_)
  | (with_reducible refine condK_tt ?_) | (with_reducible refine condK_ff ?_) | (with_reducible refine roundQ_exit ?_) | (with_reducible refine roundQ_ret ?_)))
      refine endQ_ret _ _ rfl (retc0 (by decide) (by simp (disch := first | omega | (simp only [List.length_cons, List.length_nil, List.length_append]; omega)) only [bb, argF, ↓reduceIte, reduceCtorEq, Nat.reduceEqDiff, Nat.reduceLT, Nat.reduceLeDiff, Nat.reduceAdd, Nat.reduceMul, Nat.reduceSub, Nat.reduceBEq, Int.reduceToNat, List.append_assoc, List.length_append, cond_true, cond_false, List.length_cons, List.length_nil, List.cons_append, List.nil_append, List.append_nil, List.getElem?_cons_zero, List.getElem?_cons_succ, List.set_cons_zero, List.set_cons_succ, List.drop_zero, List.drop_succ_cons, List.take_zero, List.take_succ_cons, List.take_nil, List.drop_nil, eq_self, List.toList_toArray, beq_self_eq_true, g2, hdrop, loadAgg_X wf, ia_2, sz_2, ia_3, sz_3, ia_22, sz_22, ia_46, sz_46, ia_52, sz_52, ia_94, sz_94, ze_94, ik_94, fo_52_0, fo_24_2, pb_52, pb_53, indexAddrE_def (P := Try.prog) (t := 94)]; rfl)) ?_
      refine WV_flat rfl (by omega) ?_
      exact ⟨rfl, rfl⟩
  · exact ⟨Nat.zero_le _, by simp only [upd_apply, ↓reduceIte, reduceCtorEq, Nat.reduceEqDiff], by simp only [upd_apply, ↓reduceIte, reduceCtorEq, Nat.reduceEqDiff], by simp only [upd_apply, ↓reduceIte, reduceCtorEq, Nat.reduceEqDiff], by simp only [upd_apply, ↓reduceIte, reduceCtorEq, Nat.reduceEqDiff], by simp only [upd_apply, ↓reduceIte, reduceCtorEq, Nat.reduceEqDiff]; rfl, rfl, rfl⟩
end Go.Proofs.Ytghondkiondeaab
end

/- EvH4 -/
section
/-
  LAYER 2: a hull's places, in any heap behind a pointer to the hull; the volume.
-/
namespace Go.Proofs.Ytghondkiondeaab
open Go.Ev
set_option maxRecDepth 100000
set_option linter.unusedSimpArgs false
set_option linter.unusedVariables false
set_option maxHeartbeats 2000000

theorem places (sp st : Int) (a : AV) (h : H) (wf : Wf h) (J : List AO) (w : Nat) (hw : w ≤ h.clock + J.length) :
    (om Try.prog KK).call (.fn 33 [.agg [ii sp, ii st, a]]) (X h J w) = .ok (.fn 51 [] [.ptr (nx h J.length) 0]) (X h (J ++ [.cells (mkCells [ii sp, ii st, a]) 52]) w) := by
  have wf' := wf.X hw
  have key : ∀ hb, Wf hb → (om Try.prog KK).call (.fn 33 [.agg [ii sp, ii st, a]]) hb = .ok (.fn 51 [] [.ptr (nx hb 0) 0]) (X hb [.cells (mkCells [ii sp, ii st, a]) 52] hb.w) := by
    clear wf wf'
    intro hb wf
    refine WV_to (WV_call (fn := Try.f33) Try.func33 rfl rfl rfl rfl rfl ?_)
    simp only [argF]
    (repeat' (first
  | (with_reducible refine WC_seq ?_) | (refine WC_region ?_) | (with_reducible refine WC_skip ?_) | (with_reducible refine WC_label ?_) | (with_reducible refine WC_scope ?_) | (with_reducible refine WC_block ?_) | (with_reducible refine WC_ret ?_) | (with_reducible refine WC_exit ?_)
  | (with_reducible refine seqQ_norm ?_) | (with_reducible refine seqQ_ret ?_) | (with_reducible refine seqQ_exit ?_) | (with_reducible refine blkQ_norm ?_) | (with_reducible refine blkQ_ret ?_) | (with_reducible refine blkQ_here ?_) | (refine blkQ_out rfl ?_)
  | (refine WO_nil ?_)
  | (refine WD_nil ?_)
  | (refine WD_gate rfl rfl rfl rfl rfl fun K_ hK_ => ?_; simp only [upd_apply, asB_bool, asB_tup, ↓reduceIte, reduceCtorEq, Nat.reduceEqDiff, Bool.not_true, Bool.not_false]; refine hK_ _ ?_; clear hK_ K_)
  | (refine WO_gate rfl rfl rfl rfl rfl fun K_ hK_ => ?_; simp only [upd_apply, asB_bool, asB_tup, ↓reduceIte, reduceCtorEq, Nat.reduceEqDiff, Bool.not_true, Bool.not_false]; refine hK_ _ ?_; clear hK_ K_)
  | (with_reducible refine gateK_yes ?_) | (refine gateK_no (by decide) ?_) | (with_reducible refine gateK_none ?_)
  | ((try first | refine WO_op rfl rfl rfl ?_ | refine WO_op0 rfl rfl ?_ | refine WD_op rfl rfl rfl ?_ | refine WD_op0 rfl rfl ?_); (refine WV_gen fun Q_ hQ_ => ?_; simp (disch := first | omega | (simp only [List.length_cons, List.length_nil, List.length_append]; omega)) only [bb, argF, ↓reduceIte, reduceCtorEq, Nat.reduceEqDiff, Nat.reduceLT, Nat.reduceLeDiff, Nat.reduceAdd, Nat.reduceMul, Nat.reduceSub, Nat.reduceBEq, Int.reduceToNat, List.append_assoc, List.length_append, cond_true, cond_false, List.length_cons, List.length_nil, List.cons_append, List.nil_append, List.append_nil, List.getElem?_cons_zero, List.getElem?_cons_succ, List.set_cons_zero, List.set_cons_succ, List.drop_zero, List.drop_succ_cons, List.take_zero, List.take_succ_cons, List.take_nil, List.drop_nil, eq_self, List.toList_toArray, beq_self_eq_true, newPtr_X wf, load1_X wf, loadAgg_X wf, store1_X wf, writeCells_X wf, makeFunc_def, ia_52, sz_52]; first | (refine dec_split (Q := Q_) (fun hp_ => ?_) (fun hp_ => ?_) <;> first | (exfalso; omega) | (refine hQ_ _ _ ?_; clear hQ_ Q_)) | (refine dec_splitn (Q := Q_) (fun hp_ => ?_) (fun hp_ => ?_) <;> first | (exfalso; omega) | (refine hQ_ _ _ ?_; clear hQ_ Q_)) | (refine hQ_ _ _ ?_; clear hQ_ Q_)))
  | (refine WC_cond fun K_ hK_ => ?_; simp (disch := omega) only [evT_tmp, upd_apply, WB_some, ↓reduceIte, reduceCtorEq, Nat.reduceEqDiff, Nat.reduceLT]; refine hK_ _ ?_; clear hK_ K_)
  | (with_reducible refine condK_tt ?_) | (with_reducible refine condK_ff ?_) | (with_reducible refine roundQ_exit ?_) | (with_reducible refine roundQ_ret ?_)))
    refine endQ_ret _ _ rfl (ret1 (by decide)) ?_
    simp only [upd_apply, ↓reduceIte, reduceCtorEq, Nat.reduceEqDiff]
    refine WV_ext (by
      show (_ && flat (.fn 51 [] [.ptr _ 0])) = false
      exact Bool.and_false _) ?_
    refine ⟨rfl, ?_⟩
    rw [Nat.min_eq_left wf.wle]
  rw [key _ wf', X_X, nx_X, X_w]
  rfl

/-- A hull that lies in a heap. -/
structure HullAt (h : H) (a : AV) (rvs : List AV) (rows : List (List (Int × Int))) (m : Nat) : Prop where
  wf : Wf h
  sl : Sl h a 1 rows.length rvs
  row : ∀ i (hi : i < rows.length), ∃ v, rvs[i]? = some v ∧ Sl h v 2 m (pairCells rows[i]) ∧ rows[i].length = m
theorem HullAt.up {h : H} {a : AV} {rvs : List AV} {rows : List (List (Int × Int))} {m : Nat} (x : HullAt h a rvs rows m) (l : List AO) (w : Nat) (hw : w ≤ h.clock + l.length) : HullAt (X h l w) a rvs rows m :=
  ⟨x.wf.X hw, x.sl.up x.wf l w, fun i hi => let ⟨v, h1, h2, h3⟩ := x.row i hi; ⟨v, h1, h2.up x.wf l w, h3⟩⟩
theorem HullAt.in {h : H} {a : AV} {rvs : List AV} {rows : List (List (Int × Int))} {m : Nat} (x : HullAt h a rvs rows m) {sp st : Int} {L : List AO} {w k : Nat} (hw : w ≤ h.clock + L.length) (hk : L[k]? = some (.cells (mkCells [ii sp, ii st, a]) 52)) :
    HullIn (X h L w) (nx h k) sp st a rvs rows m := by
  have hk' : ∀ J : List AO, (L ++ J)[k]? = some (.cells (mkCells [ii sp, ii st, a]) 52) := fun J => by rw [List.getElem?_append_left (lt_of_get hk), hk]
  refine ⟨x.wf.X hw, fun J w' => ?_, fun J w' => ?_, x.sl.up x.wf L w, fun i hi => ?_⟩
  · rw [X_X, load1_X x.wf, hk']; rfl
  · rw [X_X, loadAgg_X x.wf, hk']
    rw [aggAt_cells (by decide)]; rfl
  · obtain ⟨v, h1, h2, h3⟩ := x.row i hi
    exact ⟨v, h1, h2.up x.wf L w, h3⟩

theorem Hands.mono {P : Program} {K : List Con} {B B' : H → Prop} {fv : AV} {xs : List (List AV)} (hd : Hands P K B fv xs) (k : ∀ h, B' h → B h) : Hands P K B' fv xs :=
  fun l hb0 I D lo hlo hlw hI hy h0 => hd l hb0 I D lo hlo hlw (fun i h hi => ⟨k h (hI i h hi).1, (hI i h hi).2⟩) hy h0

/-- The loop over a hull's places. -/
theorem placesH {h : H} {a : AV} {rvs : List AV} {rows : List (List (Int × Int))} {m : Nat} (x : HullAt h a rvs rows m) (hn : 2 ≤ rows.length ∧ rows.length ≤ 10) (hm : 2 ≤ m ∧ m ≤ 6) (sp st : Int) (k : Nat) :
    Hands Try.prog KK (fun hb => ∃ L w, hb = X h L w ∧ w ≤ h.clock + L.length ∧ L[k]? = some (.cells (mkCells [ii sp, ii st, a]) 52)) (.fn 51 [] [.ptr (nx h k) 0]) (placesOf rows m) := by
  have := places1 (nx h k) sp st a rvs rows m hn hm (fun n h2 h10 h wf => weights n h2 h10 h wf) (fun h wf hB J w hw => lines _ sp st a rvs rows m (by omega) h wf hB J w hw)
  exact Hands.mono this fun hb ⟨L, w, e, hw, hk⟩ => by subst e; exact x.in hw hk

def psum (f : Nat → Int) : Nat → Int
  | 0 => 0
  | q + 1 => psum f q + f q
theorem psum_in {f : Nat → Int} {b : Int} : ∀ {q : Nat}, (∀ i, i < q → 0 ≤ f i ∧ f i ≤ b) → 0 ≤ psum f q ∧ psum f q ≤ q * b
  | 0, _ => by simp [psum]
  | q + 1, h => by
    have := psum_in (q := q) (fun i hi => h i (by omega))
    have h2 := h q (by omega)
    simp only [psum]
    have e : ((q + 1 : Nat) : Int) * b = q * b + b := by rw [Int.natCast_add, Int.add_mul]; omega
    omega

/-- The offset of a place in a grid. -/
def yat (gs : List Int) (m q : Nat) : Int := gs.getD (q / m * 6 + q % m) 0
def vterm (n m : Nat) (gs : List Int) (q : Nat) : Int := wt n (q / m) * wt m (q % m) * yat gs m q

theorem place_idx {n m q : Nat} (hm : m ≤ 6) (hn : n ≤ 10) (hq : q < n * m) : q / m < n ∧ q % m < m ∧ q / m * 6 + q % m < 60 := by
  have hm0 : 0 < m := by rcases Nat.eq_zero_or_pos m with rfl | h; · simp at hq
                         · exact h
  have h1 : q / m < n := (Nat.div_lt_iff_lt_mul hm0).2 hq
  have h2 : q % m < m := Nat.mod_lt _ hm0
  exact ⟨h1, h2, by omega⟩
theorem wt2 (n i m k : Nat) : 0 ≤ wt n i * wt m k ∧ wt n i * wt m k ≤ 4 := by
  have w1 := wt_in n i
  have w2 := wt_in m k
  refine ⟨Int.mul_nonneg w1.1 w2.1, ?_⟩
  have := Int.mul_le_mul w1.2 w2.2 w2.1 (by omega : (0 : Int) ≤ 2); omega
theorem mul_bd {a b x y : Int} (h1 : 0 ≤ a ∧ a ≤ x) (h2 : 0 ≤ b ∧ b ≤ y) : 0 ≤ a * b ∧ a * b ≤ x * y :=
  ⟨Int.mul_nonneg h1.1 h2.1, Int.mul_le_mul h1.2 h2.2 h2.1 (by omega)⟩
theorem vterm_in {n m : Nat} {gs : List Int} {q : Nat} (hy : 0 ≤ yat gs m q ∧ yat gs m q ≤ 500) : 0 ≤ vterm n m gs q ∧ vterm n m gs q ≤ 2000 := by
  have := mul_bd (wt2 n (q / m) m (q % m)) hy
  unfold vterm; omega
theorem placesOf_at {rows : List (List (Int × Int))} {m q : Nat} {x : List AV} (hx : (placesOf rows m)[q]? = some x) : q < rows.length * m ∧ x = [placeOf rows.length m (q / m) (q % m) ((rows.getD (q / m) []).getD (q % m) (0, 0))] := by
  have hq : q < rows.length * m := by have := lt_of_get hx; rwa [placesOf_length] at this
  unfold placesOf at hx
  rw [List.getElem?_map, List.getElem?_range hq] at hx
  exact ⟨hq, (Option.some.inj hx).symm⟩
theorem grid_get {gs : List Int} (hl : gs.length = 60) {i : Nat} (hi : i < 60) : (gs.map ii)[i]? = some (ii (gs.getD i 0)) := by
  rw [List.getElem?_map]; simp [List.getD, hl, hi]

theorem volume (sp st : Int) (hsp : 1 ≤ sp ∧ sp ≤ 1000) (hst : 1 ≤ st ∧ st ≤ 100) (a : AV) (rvs : List AV) (rows : List (List (Int × Int))) (m : Nat) (hn : 2 ≤ rows.length ∧ rows.length ≤ 10) (hm : 2 ≤ m ∧ m ≤ 6)
    (gs : List Int) (hl : gs.length = 60) (hy : ∀ q, q < rows.length * m → 0 ≤ yat gs m q ∧ yat gs m q ≤ 500) (h : H) (x : HullAt h a rvs rows m) :
    (om Try.prog KK).call (.fn 24 [.agg [ii sp, ii st, a], .agg (gs.map ii)]) h = .ok (frac (sp * st * psum (vterm rows.length m gs) (rows.length * m)) 2) h := by
  have wf := x.wf
  have hnm : rows.length * m ≤ 60 := by
    have := Nat.mul_le_mul hn.2 hm.2; omega
  refine WV_to (WV_call (fn := Try.f24) Try.func24 rfl rfl rfl rfl rfl ?_)
  simp only [argF]
  (repeat' (first
  | (with_reducible refine WC_seq ?_) | (refine WC_region ?_) | (with_reducible refine WC_skip ?_) | (with_reducible refine WC_label ?_) | (with_reducible refine WC_scope ?_) | (with_reducible refine WC_block ?_) | (with_reducible refine WC_ret ?_) | (with_reducible refine WC_exit ?_)
  | (with_reducible refine seqQ_norm ?_) | (with_reducible refine seqQ_ret ?_) | (with_reducible refine seqQ_exit ?_) | (with_reducible refine blkQ_norm ?_) | (with_reducible refine blkQ_ret ?_) | (with_reducible refine blkQ_here ?_) | (refine blkQ_out rfl ?_)
  | (refine WO_nil ?_)
  | (refine WD_nil ?_)
  | (refine WD_gate rfl rfl rfl rfl rfl fun K_ hK_ => ?_; simp only [upd_apply, asB_bool, asB_tup, ↓reduceIte, reduceCtorEq, Nat.reduceEqDiff, Bool.not_true, Bool.not_false]; refine hK_ _ ?_; clear hK_ K_)
  | (refine WO_gate rfl rfl rfl rfl rfl fun K_ hK_ => ?_; simp only [upd_apply, asB_bool, asB_tup, ↓reduceIte, reduceCtorEq, Nat.reduceEqDiff, Bool.not_true, Bool.not_false]; refine hK_ _ ?_; clear hK_ K_)
  | (with_reducible refine gateK_yes ?_) | (refine gateK_no (by decide) ?_) | (with_reducible refine gateK_none ?_)
  | ((try first | refine WO_op rfl rfl rfl ?_ | refine WO_op0 rfl rfl ?_ | refine WD_op rfl rfl rfl ?_ | refine WD_op0 rfl rfl ?_); (refine WV_gen fun Q_ hQ_ => ?_; simp (disch := first | omega | (simp only [List.length_cons, List.length_nil, List.length_append]; omega)) only [bb, argF, ↓reduceIte, reduceCtorEq, Nat.reduceEqDiff, Nat.reduceLT, Nat.reduceLeDiff, Nat.reduceAdd, Nat.reduceMul, Nat.reduceSub, Nat.reduceBEq, Int.reduceToNat, List.append_assoc, List.length_append, cond_true, cond_false, List.length_cons, List.length_nil, List.cons_append, List.nil_append, List.append_nil, List.getElem?_cons_zero, List.getElem?_cons_succ, List.set_cons_zero, List.set_cons_succ, List.drop_zero, List.drop_succ_cons, List.take_zero, List.take_succ_cons, List.take_nil, List.drop_nil, eq_self, List.toList_toArray, beq_self_eq_true, newPtr_X wf, load1_X wf, loadAgg_X wf, store1_X wf, writeCells_X wf, makeFunc_def, frac, ia_29, sz_29, ze_29, ia_2, sz_2, ze_2, ia_3, sz_3, ia_75, sz_75, ze_75, fo_75_1, fo_75_2, fo_75_3, fo_52_0, fo_24_0, fo_24_1, ia_52, sz_52, ik_56, ik_54, indexAddrE_def (P := Try.prog) (t := 56), indexAddrE_def (P := Try.prog) (t := 54), pb_33, pb_45, pb_24]; first | (refine dec_split (Q := Q_) (fun hp_ => ?_) (fun hp_ => ?_) <;> first | (exfalso; omega) | (refine hQ_ _ _ ?_; clear hQ_ Q_)) | (refine dec_splitn (Q := Q_) (fun hp_ => ?_) (fun hp_ => ?_) <;> first | (exfalso; omega) | (refine hQ_ _ _ ?_; clear hQ_ Q_)) | (refine hQ_ _ _ ?_; clear hQ_ Q_) | (refine WV_eq (places sp st a h wf _ _ (by simp only [List.length_append, List.length_cons, List.length_nil]; omega)) ?_; refine hQ_ _ _ ?_; clear hQ_ Q_)))
  | (refine WC_cond fun K_ hK_ => ?_; simp (disch := omega) only [evT_tmp, upd_apply, WB_some, ↓reduceIte, reduceCtorEq, Nat.reduceEqDiff, Nat.reduceLT]; refine hK_ _ ?_; clear hK_ K_)
  | (with_reducible refine condK_tt ?_) | (with_reducible refine condK_ff ?_) | (with_reducible refine roundQ_exit ?_) | (with_reducible refine roundQ_ret ?_)))
  simp only [List.length_cons, List.length_nil, List.cons_append, List.nil_append]
  refine WC_rangeX wf rfl (evT_tmp (by decide)) fun o ho => ?_
  simp only [upd_apply, ↓reduceIte, reduceCtorEq, Nat.reduceEqDiff, List.length_cons, List.length_nil, List.cons_append, List.nil_append, Nat.reduceAdd]
  refine WV.mono (placesH x hn hm sp st 4 (nx h 6) _ (fun q hb => ∃ w, hb = X h [.cells (mkCells [ii sp, ii st, a]) 52, .cells (mkCells (gs.map ii)) 56, .cells (mkCells [ii 0, ii 0]) 29, .cells (mkCells [ii (psum (vterm rows.length m gs) q)]) 2, .cells (mkCells [ii sp, ii st, a]) 52, .dfr, o] w ∧ w ≤ h.clock + 7)
    (fun _ => False) h.clock (Nat.le_refl _) (Nat.le_add_right _ _) ?_ ?_ ⟨h.clock, rfl, by omega⟩) ?_
  · rintro q hb ⟨w, rfl, hw⟩
    exact ⟨⟨_, w, rfl, hw, rfl⟩, Same.X rfl⟩
  · rintro q xx hx hb J w ⟨w0, rfl, hw0⟩ hlo hw
    obtain ⟨hq, rfl⟩ := placesOf_at hx
    rw [X_X]
    generalize (rows.getD (q / m) []).getD (q % m) (0, 0) = r
    simp only [List.cons_append, List.nil_append, placeOf]
    refine WV_yldX wf (k := 6) rfl ho (setParams1 rfl) ?_
    (repeat' (first
  | (with_reducible refine WC_seq ?_) | (refine WC_region ?_) | (with_reducible refine WC_skip ?_) | (with_reducible refine WC_label ?_) | (with_reducible refine WC_scope ?_) | (with_reducible refine WC_block ?_) | (with_reducible refine WC_ret ?_) | (with_reducible refine WC_exit ?_)
  | (with_reducible refine seqQ_norm ?_) | (with_reducible refine seqQ_ret ?_) | (with_reducible refine seqQ_exit ?_) | (with_reducible refine blkQ_norm ?_) | (with_reducible refine blkQ_ret ?_) | (with_reducible refine blkQ_here ?_) | (refine blkQ_out rfl ?_)
  | (refine WO_nil ?_)
  | (refine WD_nil ?_)
  | (refine WD_gate rfl rfl rfl rfl rfl fun K_ hK_ => ?_; simp only [upd_apply, asB_bool, asB_tup, ↓reduceIte, reduceCtorEq, Nat.reduceEqDiff, Bool.not_true, Bool.not_false]; refine hK_ _ ?_; clear hK_ K_)
  | (refine WO_gate rfl rfl rfl rfl rfl fun K_ hK_ => ?_; simp only [upd_apply, asB_bool, asB_tup, ↓reduceIte, reduceCtorEq, Nat.reduceEqDiff, Bool.not_true, Bool.not_false]; refine hK_ _ ?_; clear hK_ K_)
  | (with_reducible refine gateK_yes ?_) | (refine gateK_no (by decide) ?_) | (with_reducible refine gateK_none ?_)
  | ((try first | refine WO_op rfl rfl rfl ?_ | refine WO_op0 rfl rfl ?_ | refine WD_op rfl rfl rfl ?_ | refine WD_op0 rfl rfl ?_); (refine WV_gen fun Q_ hQ_ => ?_; simp (disch := first | omega | (simp only [List.length_cons, List.length_nil, List.length_append]; omega)) only [bb, argF, ↓reduceIte, reduceCtorEq, Nat.reduceEqDiff, Nat.reduceLT, Nat.reduceLeDiff, Nat.reduceAdd, Nat.reduceMul, Nat.reduceSub, Nat.reduceBEq, Int.reduceToNat, List.append_assoc, List.length_append, cond_true, cond_false, List.length_cons, List.length_nil, List.cons_append, List.nil_append, List.append_nil, List.getElem?_cons_zero, List.getElem?_cons_succ, List.set_cons_zero, List.set_cons_succ, List.drop_zero, List.drop_succ_cons, List.take_zero, List.take_succ_cons, List.take_nil, List.drop_nil, eq_self, List.toList_toArray, beq_self_eq_true, newPtr_X wf, load1_X wf, loadAgg_X wf, store1_X wf, writeCells_X wf, makeFunc_def, frac, ia_29, sz_29, ze_29, ia_2, sz_2, ze_2, ia_3, sz_3, ia_75, sz_75, ze_75, fo_75_1, fo_75_2, fo_75_3, fo_52_0, fo_24_0, fo_24_1, ia_52, sz_52, ik_56, ik_54, indexAddrE_def (P := Try.prog) (t := 56), indexAddrE_def (P := Try.prog) (t := 54), pb_33, pb_45, pb_24]; first | (refine dec_split (Q := Q_) (fun hp_ => ?_) (fun hp_ => ?_) <;> first | (exfalso; omega) | (refine hQ_ _ _ ?_; clear hQ_ Q_)) | (refine dec_splitn (Q := Q_) (fun hp_ => ?_) (fun hp_ => ?_) <;> first | (exfalso; omega) | (refine hQ_ _ _ ?_; clear hQ_ Q_)) | (refine hQ_ _ _ ?_; clear hQ_ Q_)))
  | (refine WC_cond fun K_ hK_ => ?_; simp (disch := omega) only [evT_tmp, upd_apply, WB_some, ↓reduceIte, reduceCtorEq, Nat.reduceEqDiff, Nat.reduceLT]; refine hK_ _ ?_; clear hK_ K_)
  | (with_reducible refine condK_tt ?_) | (with_reducible refine condK_ff ?_) | (with_reducible refine roundQ_exit ?_) | (with_reducible refine roundQ_ret ?_)))
    refine yldA_X wf (k := 6) rfl ho fun o' ho' => ?_
    obtain ⟨i1, i2, i3⟩ := place_idx hm.2 hn.2 hq
    have hg := grid_get hl i3
    have hw' : w ≤ h.clock + 7 + J.length := hw
    have hv := vterm_in (n := rows.length) (gs := gs) (hy q hq)
    have hs := psum_in (f := vterm rows.length m gs) (b := 2000) (q := q) (fun i hi => vterm_in (hy i (by omega)))
    have hd : vterm rows.length m gs q = wt rows.length (q / m) * wt m (q % m) * gs.getD (q / m * 6 + q % m) 0 := rfl
    rw [hd] at hv
    (repeat' (first
  | (with_reducible refine WC_seq ?_) | (refine WC_region ?_) | (with_reducible refine WC_skip ?_) | (with_reducible refine WC_label ?_) | (with_reducible refine WC_scope ?_) | (with_reducible refine WC_block ?_) | (with_reducible refine WC_ret ?_) | (with_reducible refine WC_exit ?_)
  | (with_reducible refine seqQ_norm ?_) | (with_reducible refine seqQ_ret ?_) | (with_reducible refine seqQ_exit ?_) | (with_reducible refine blkQ_norm ?_) | (with_reducible refine blkQ_ret ?_) | (with_reducible refine blkQ_here ?_) | (refine blkQ_out rfl ?_)
  | (refine WO_nil ?_)
  | (refine WD_nil ?_)
  | (refine WD_gate rfl rfl rfl rfl rfl fun K_ hK_ => ?_; simp only [upd_apply, asB_bool, asB_tup, ↓reduceIte, reduceCtorEq, Nat.reduceEqDiff, Bool.not_true, Bool.not_false]; refine hK_ _ ?_; clear hK_ K_)
  | (refine WO_gate rfl rfl rfl rfl rfl fun K_ hK_ => ?_; simp only [upd_apply, asB_bool, asB_tup, ↓reduceIte, reduceCtorEq, Nat.reduceEqDiff, Bool.not_true, Bool.not_false]; refine hK_ _ ?_; clear hK_ K_)
  | (with_reducible refine gateK_yes ?_) | (refine gateK_no (by decide) ?_) | (with_reducible refine gateK_none ?_)
  | ((try first | refine WO_op rfl rfl rfl ?_ | refine WO_op0 rfl rfl ?_ | refine WD_op rfl rfl rfl ?_ | refine WD_op0 rfl rfl ?_); (refine WV_gen fun Q_ hQ_ => ?_; simp (disch := first | omega | (simp only [List.length_cons, List.length_nil, List.length_append]; omega)) only [bb, argF, ↓reduceIte, reduceCtorEq, Nat.reduceEqDiff, Nat.reduceLT, Nat.reduceLeDiff, Nat.reduceAdd, Nat.reduceMul, Nat.reduceSub, Nat.reduceBEq, Int.reduceToNat, List.append_assoc, List.length_append, cond_true, cond_false, List.length_cons, List.length_nil, List.cons_append, List.nil_append, List.append_nil, List.getElem?_cons_zero, List.getElem?_cons_succ, List.set_cons_zero, List.set_cons_succ, List.drop_zero, List.drop_succ_cons, List.take_zero, List.take_succ_cons, List.take_nil, List.drop_nil, eq_self, List.toList_toArray, beq_self_eq_true, newPtr_X wf, load1_X wf, loadAgg_X wf, store1_X wf, writeCells_X wf, makeFunc_def, frac, ia_29, sz_29, ze_29, ia_2, sz_2, ze_2, ia_3, sz_3, ia_75, sz_75, ze_75, fo_75_1, fo_75_2, fo_75_3, fo_52_0, fo_24_0, fo_24_1, ia_52, sz_52, ik_56, ik_54, indexAddrE_def (P := Try.prog) (t := 56), indexAddrE_def (P := Try.prog) (t := 54), pb_33, pb_45, pb_24]; first | (refine dec_split (Q := Q_) (fun hp_ => ?_) (fun hp_ => ?_) <;> first | (exfalso; omega) | (refine hQ_ _ _ ?_; clear hQ_ Q_)) | (refine dec_splitn (Q := Q_) (fun hp_ => ?_) (fun hp_ => ?_) <;> first | (exfalso; omega) | (refine hQ_ _ _ ?_; clear hQ_ Q_)) | (refine hQ_ _ _ ?_; clear hQ_ Q_)))
  | (refine WC_cond fun K_ hK_ => ?_; simp (disch := omega) only [evT_tmp, upd_apply, WB_some, ↓reduceIte, reduceCtorEq, Nat.reduceEqDiff, Nat.reduceLT]; refine hK_ _ ?_; clear hK_ K_)
  | (with_reducible refine condK_tt ?_) | (with_reducible refine condK_ff ?_) | (with_reducible refine roundQ_exit ?_) | (with_reducible refine roundQ_ret ?_)))
    refine WC_drawnB [.no, .no, .no, .no, .no, .no, .no, .no, .no, .no, .no, .full, .full] (by kernel_rfl) ?_
    (repeat' (first
  | (with_reducible refine WC_seq ?_) | (refine WC_region ?_) | (with_reducible refine WC_skip ?_) | (with_reducible refine WC_label ?_) | (with_reducible refine WC_scope ?_) | (with_reducible refine WC_block ?_) | (with_reducible refine WC_ret ?_) | (with_reducible refine WC_exit ?_)
  | (with_reducible refine seqQ_norm ?_) | (with_reducible refine seqQ_ret ?_) | (with_reducible refine seqQ_exit ?_) | (with_reducible refine blkQ_norm ?_) | (with_reducible refine blkQ_ret ?_) | (with_reducible refine blkQ_here ?_) | (refine blkQ_out rfl ?_)
  | (refine WO_nil ?_)
  | (refine WD_nil ?_)
  | (refine WD_gate rfl rfl rfl rfl rfl fun K_ hK_ => ?_; simp only [upd_apply, asB_bool, asB_tup, ↓reduceIte, reduceCtorEq, Nat.reduceEqDiff, Bool.not_true, Bool.not_false]; refine hK_ _ ?_; clear hK_ K_)
  | (refine WO_gate rfl rfl rfl rfl rfl fun K_ hK_ => ?_; simp only [upd_apply, asB_bool, asB_tup, ↓reduceIte, reduceCtorEq, Nat.reduceEqDiff, Bool.not_true, Bool.not_false]; refine hK_ _ ?_; clear hK_ K_)
  | (with_reducible refine gateK_yes ?_) | (refine gateK_no (by decide) ?_) | (with_reducible refine gateK_none ?_)
  | ((try first | refine WO_op rfl rfl rfl ?_ | refine WO_op0 rfl rfl ?_ | refine WD_op rfl rfl rfl ?_ | refine WD_op0 rfl rfl ?_); (refine WV_gen fun Q_ hQ_ => ?_; simp (disch := first | omega | (simp only [List.length_cons, List.length_nil, List.length_append]; omega)) only [bb, argF, ↓reduceIte, reduceCtorEq, Nat.reduceEqDiff, Nat.reduceLT, Nat.reduceLeDiff, Nat.reduceAdd, Nat.reduceMul, Nat.reduceSub, Nat.reduceBEq, Int.reduceToNat, List.append_assoc, List.length_append, cond_true, cond_false, List.length_cons, List.length_nil, List.cons_append, List.nil_append, List.append_nil, List.getElem?_cons_zero, List.getElem?_cons_succ, List.set_cons_zero, List.set_cons_succ, List.drop_zero, List.drop_succ_cons, List.take_zero, List.take_succ_cons, List.take_nil, List.drop_nil, eq_self, List.toList_toArray, beq_self_eq_true, hg, newPtr_X wf, load1_X wf, loadAgg_X wf, store1_X wf, writeCells_X wf, makeFunc_def, frac, ia_29, sz_29, ze_29, ia_2, sz_2, ze_2, ia_3, sz_3, ia_75, sz_75, ze_75, fo_75_1, fo_75_2, fo_75_3, fo_52_0, fo_24_0, fo_24_1, ia_52, sz_52, ik_56, ik_54, indexAddrE_def (P := Try.prog) (t := 56), indexAddrE_def (P := Try.prog) (t := 54), pb_33, pb_45, pb_24]; first | (refine dec_split (Q := Q_) (fun hp_ => ?_) (fun hp_ => ?_) <;> first | (exfalso; omega) | (refine hQ_ _ _ ?_; clear hQ_ Q_)) | (refine dec_splitn (Q := Q_) (fun hp_ => ?_) (fun hp_ => ?_) <;> first | (exfalso; omega) | (refine hQ_ _ _ ?_; clear hQ_ Q_)) | (refine hQ_ _ _ ?_; clear hQ_ Q_)))
  | (refine WC_cond fun K_ hK_ => ?_; simp (disch := omega) only [evT_tmp, upd_apply, WB_some, ↓reduceIte, reduceCtorEq, Nat.reduceEqDiff, Nat.reduceLT]; refine hK_ _ ?_; clear hK_ K_)
  | (with_reducible refine condK_tt ?_) | (with_reducible refine condK_ff ?_) | (with_reducible refine roundQ_exit ?_) | (with_reducible refine roundQ_ret ?_)))
    refine yldB_X wf (k := 6) rfl ho' ?_
    simp only [List.set_cons_succ, List.set_cons_zero]
    rw [← ho]
    refine ⟨X h [.cells (mkCells [ii sp, ii st, a]) 52, .cells (mkCells (gs.map ii)) 56, .cells (mkCells [ii 0, ii 0]) 29, .cells (mkCells [ii (psum (vterm rows.length m gs) (q + 1))]) 2, .cells (mkCells [ii sp, ii st, a]) 52, .dfr, o] w0, _, _, by rw [X_X]; rfl, Same.X rfl, by omega, ?_, .inl ⟨rfl, w0, rfl, hw0⟩⟩
    show _ < h.clock + 7
    omega
  · rintro v h' ⟨hb, J, w, rfl, hs, hlo, hw, ⟨w0, rfl, hw0⟩ | hD⟩
    · rw [X_X, placesOf_length]
      refine rangeQ_X wf (k := 6) rfl ho (by decide) fun o' ho' => ?_
      have hs := psum_in (f := vterm rows.length m gs) (b := 2000) (q := rows.length * m) (fun i hi => vterm_in (hy i (by omega)))
      have hs2 : 0 ≤ psum (vterm rows.length m gs) (rows.length * m) ∧ psum (vterm rows.length m gs) (rows.length * m) ≤ 120000 := by omega
      have hss := mul_bd (a := sp) (b := st) ⟨by omega, hsp.2⟩ ⟨by omega, hst.2⟩
      have hs3 := mul_bd hss hs2
      simp only [List.cons_append, List.nil_append, List.set_cons_succ, List.set_cons_zero]
      (repeat' (first
  | (with_reducible refine WC_seq ?_) | (refine WC_region ?_) | (with_reducible refine WC_skip ?_) | (with_reducible refine WC_label ?_) | (with_reducible refine WC_scope ?_) | (with_reducible refine WC_block ?_) | (with_reducible refine WC_ret ?_) | (with_reducible refine WC_exit ?_)
  | (with_reducible refine seqQ_norm ?_) | (with_reducible refine seqQ_ret ?_) | (with_reducible refine seqQ_exit ?_) | (with_reducible refine blkQ_norm ?_) | (with_reducible refine blkQ_ret ?_) | (with_reducible refine blkQ_here ?_) | (refine blkQ_out rfl ?_)
  | (refine WO_nil ?_)
  | (refine WD_nil ?_)
  | (refine WD_gate rfl rfl rfl rfl rfl fun K_ hK_ => ?_; simp only [upd_apply, asB_bool, asB_tup, ↓reduceIte, reduceCtorEq, Nat.reduceEqDiff, Bool.not_true, Bool.not_false]; refine hK_ _ ?_; clear hK_ K_)
  | (refine WO_gate rfl rfl rfl rfl rfl fun K_ hK_ => ?_; simp only [upd_apply, asB_bool, asB_tup, ↓reduceIte, reduceCtorEq, Nat.reduceEqDiff, Bool.not_true, Bool.not_false]; refine hK_ _ ?_; clear hK_ K_)
  | (with_reducible refine gateK_yes ?_) | (refine gateK_no (by decide) ?_) | (with_reducible refine gateK_none ?_)
  | ((try first | refine WO_op rfl rfl rfl ?_ | refine WO_op0 rfl rfl ?_ | refine WD_op rfl rfl rfl ?_ | refine WD_op0 rfl rfl ?_); (refine WV_gen fun Q_ hQ_ => ?_; simp (disch := first | omega | (simp only [List.length_cons, List.length_nil, List.length_append]; omega)) only [bb, argF, ↓reduceIte, reduceCtorEq, Nat.reduceEqDiff, Nat.reduceLT, Nat.reduceLeDiff, Nat.reduceAdd, Nat.reduceMul, Nat.reduceSub, Nat.reduceBEq, Int.reduceToNat, List.append_assoc, List.length_append, cond_true, cond_false, List.length_cons, List.length_nil, List.cons_append, List.nil_append, List.append_nil, List.getElem?_cons_zero, List.getElem?_cons_succ, List.set_cons_zero, List.set_cons_succ, List.drop_zero, List.drop_succ_cons, List.take_zero, List.take_succ_cons, List.take_nil, List.drop_nil, eq_self, List.toList_toArray, beq_self_eq_true, newPtr_X wf, load1_X wf, loadAgg_X wf, store1_X wf, writeCells_X wf, makeFunc_def, frac, ia_29, sz_29, ze_29, ia_2, sz_2, ze_2, ia_3, sz_3, ia_75, sz_75, ze_75, fo_75_1, fo_75_2, fo_75_3, fo_52_0, fo_24_0, fo_24_1, ia_52, sz_52, ik_56, ik_54, indexAddrE_def (P := Try.prog) (t := 56), indexAddrE_def (P := Try.prog) (t := 54), pb_33, pb_45, pb_24]; first | (refine dec_split (Q := Q_) (fun hp_ => ?_) (fun hp_ => ?_) <;> first | (exfalso; omega) | (refine hQ_ _ _ ?_; clear hQ_ Q_)) | (refine dec_splitn (Q := Q_) (fun hp_ => ?_) (fun hp_ => ?_) <;> first | (exfalso; omega) | (refine hQ_ _ _ ?_; clear hQ_ Q_)) | (refine hQ_ _ _ ?_; clear hQ_ Q_) | (refine WV_eq (fraction _ _ ⟨hs3.1, by omega⟩ ⟨by decide, by decide⟩ _ (wf.X (by simp only [List.length_append, List.length_cons, List.length_nil]; omega))) ?_; refine hQ_ _ _ ?_; clear hQ_ Q_)))
  | (refine WC_cond fun K_ hK_ => ?_; simp (disch := omega) only [evT_tmp, upd_apply, WB_some, ↓reduceIte, reduceCtorEq, Nat.reduceEqDiff, Nat.reduceLT]; refine hK_ _ ?_; clear hK_ K_)
  | (with_reducible refine condK_tt ?_) | (with_reducible refine condK_ff ?_) | (with_reducible refine roundQ_exit ?_) | (with_reducible refine roundQ_ret ?_)))
      refine endQ_ret _ _ (takeAll_X wf (k := 5) rfl) (retc0 (by decide) (by simp (disch := first | omega | (simp only [List.length_cons, List.length_nil, List.length_append]; omega)) only [bb, argF, ↓reduceIte, reduceCtorEq, Nat.reduceEqDiff, Nat.reduceLT, Nat.reduceLeDiff, Nat.reduceAdd, Nat.reduceMul, Nat.reduceSub, Nat.reduceBEq, Int.reduceToNat, List.append_assoc, List.length_append, cond_true, cond_false, List.length_cons, List.length_nil, List.cons_append, List.nil_append, List.append_nil, List.getElem?_cons_zero, List.getElem?_cons_succ, List.set_cons_zero, List.set_cons_succ, List.drop_zero, List.drop_succ_cons, List.take_zero, List.take_succ_cons, List.take_nil, List.drop_nil, eq_self, List.toList_toArray, beq_self_eq_true, loadAgg_X wf, frac, ia_29, sz_29, ze_29, ia_2, sz_2, ze_2, ia_3, sz_3, ia_75, sz_75, ze_75, fo_75_1, fo_75_2, fo_75_3, fo_52_0, fo_24_0, fo_24_1, ia_52, sz_52, ik_56, ik_54, indexAddrE_def (P := Try.prog) (t := 56), indexAddrE_def (P := Try.prog) (t := 54), pb_33, pb_45, pb_24]; rfl)) ?_
      refine WV_flat rfl (by omega) ?_
      exact ⟨rfl, rfl⟩
    · exact hD.elim
end Go.Proofs.Ytghondkiondeaab
end

/- EvH5 -/
section
/-
  LAYER 2: the grid of offsets that are checked.
-/
namespace Go.Proofs.Ytghondkiondeaab
open Go.Ev
set_option maxRecDepth 100000
set_option linter.unusedSimpArgs false
set_option linter.unusedVariables false
set_option maxHeartbeats 2000000

/-- Offsets that lie in a heap. -/
structure YsAt (h : H) (b : AV) (yvs : List AV) (ys : List (List Int)) (m : Nat) : Prop where
  wf : Wf h
  sl : Sl h b 1 ys.length yvs
  row : ∀ i (hi : i < ys.length), ∃ v, yvs[i]? = some v ∧ Sl h v 1 m (ys[i].map ii) ∧ Capd v ∧ ys[i].length = m
theorem YsAt.up {h : H} {b : AV} {yvs : List AV} {ys : List (List Int)} {m : Nat} (x : YsAt h b yvs ys m) (l : List AO) (w : Nat) (hw : w ≤ h.clock + l.length) : YsAt (X h l w) b yvs ys m :=
  ⟨x.wf.X hw, x.sl.up x.wf l w, fun i hi => let ⟨v, h1, h2, h3⟩ := x.row i hi; ⟨v, h1, h2.up x.wf l w, h3⟩⟩

/-- The grid behind so many stations. -/
def gridP (ys : List (List Int)) (i : Nat) : List Int := (List.range 60).map fun q => if q / 6 < i then (ys.getD (q / 6) []).getD (q % 6) 0 else 0
theorem gridP_length (ys : List (List Int)) (i : Nat) : (gridP ys i).length = 60 := by unfold gridP; simp
theorem gridP_get (ys : List (List Int)) (i : Nat) {q : Nat} (hq : q < 60) : (gridP ys i)[q]? = some (if q / 6 < i then (ys.getD (q / 6) []).getD (q % 6) 0 else 0) := by
  unfold gridP
  rw [List.getElem?_map, List.getElem?_range hq]; rfl
theorem gridP_zero (ys : List (List Int)) : gridP ys 0 = List.replicate 60 0 := by
  unfold gridP
  simp only [Nat.not_lt_zero, if_false]
  rfl
theorem gridP_step {ys : List (List Int)} {i : Nat} (hi : i < ys.length) (h10 : i < 10) (hm : ys[i].length ≤ 6) :
    splice ((gridP ys i).map ii) (i * 6) (ys[i].map ii) = (gridP ys (i + 1)).map ii := by
  unfold splice
  rw [← List.map_take, ← List.map_drop, ← List.map_append, ← List.map_append, List.length_map]
  congr 1
  apply List.ext_getElem?
  intro q
  have hL := gridP_length ys i
  by_cases hq : q < 60
  · rw [gridP_get _ _ hq]
    by_cases h1 : q < i * 6
    · rw [List.append_assoc, List.getElem?_append_left (by simp [hL]; omega), List.getElem?_take_of_lt h1, gridP_get _ _ hq]
      have : q / 6 < i := by omega
      rw [if_pos this, if_pos (by omega)]
    · by_cases h2 : q < i * 6 + ys[i].length
      · rw [List.append_assoc, List.getElem?_append_right (by simp [hL]; omega), List.getElem?_append_left (by simp [hL]; omega)]
        have e1 : q / 6 = i := by omega
        rw [if_pos (by omega), e1]
        have e2 : q - ((gridP ys i).take (i * 6)).length = q % 6 := by simp [hL]; omega
        rw [e2]
        have e3 : q % 6 < ys[i].length := by omega
        simp [List.getD, hi, e3]
      · rw [List.getElem?_append_right (by simp [hL]; omega), List.getElem?_drop]
        have e2 : i * 6 + ys[i].length + (q - ((gridP ys i).take (i * 6) ++ ys[i]).length) = q := by simp [hL]; omega
        rw [e2, gridP_get _ _ hq]
        by_cases h3 : q / 6 = i
        · rw [if_neg (by omega), if_pos (by omega), h3]
          have e3 : ¬ q % 6 < ys[i].length := by omega
          simp [List.getD, hi, List.getElem?_eq_none (Nat.le_of_not_lt e3)]
        · rw [if_neg (by omega), if_neg (by omega)]
  · rw [List.getElem?_eq_none (by simp [hL]; omega), List.getElem?_eq_none (by rw [gridP_length]; omega)]

theorem flatL_ii : ∀ l : List Int, flatL (l.map ii) = true
  | [] => rfl
  | _ :: l => flatL_ii l

theorem gridOf (b : AV) (yvs : List AV) (ys : List (List Int)) (m : Nat) (hn : 2 ≤ ys.length ∧ ys.length ≤ 10) (hm : 2 ≤ m ∧ m ≤ 6) (h : H) (x : YsAt h b yvs ys m) :
    (om Try.prog KK).call (.fn 25 [b]) h = .ok (.agg ((gridP ys ys.length).map ii)) h := by
  have wf := x.wf
  refine WV_to (WV_call (fn := Try.f25) Try.func25 rfl rfl rfl rfl rfl ?_)
  simp only [argF]
  have hlen : ∀ h', lenE Try.prog 25 b h' = some (ii (ys.length : Int)) := fun h' => x.sl.len un_25
  (repeat' (first
  | (with_reducible refine WC_seq ?_) | (refine WC_region ?_) | (with_reducible refine WC_skip ?_) | (with_reducible refine WC_label ?_) | (with_reducible refine WC_scope ?_) | (with_reducible refine WC_block ?_) | (with_reducible refine WC_ret ?_) | (with_reducible refine WC_exit ?_)
  | (with_reducible refine seqQ_norm ?_) | (with_reducible refine seqQ_ret ?_) | (with_reducible refine seqQ_exit ?_) | (with_reducible refine blkQ_norm ?_) | (with_reducible refine blkQ_ret ?_) | (with_reducible refine blkQ_here ?_) | (refine blkQ_out rfl ?_)
  | (refine WO_nil ?_)
  | (refine WD_nil ?_)
  | (refine WD_gate rfl rfl rfl rfl rfl fun K_ hK_ => ?_; simp only [upd_apply, asB_bool, asB_tup, ↓reduceIte, reduceCtorEq, Nat.reduceEqDiff, Bool.not_true, Bool.not_false]; refine hK_ _ ?_; clear hK_ K_)
  | (refine WO_gate rfl rfl rfl rfl rfl fun K_ hK_ => ?_; simp only [upd_apply, asB_bool, asB_tup, ↓reduceIte, reduceCtorEq, Nat.reduceEqDiff, Bool.not_true, Bool.not_false]; refine hK_ _ ?_; clear hK_ K_)
  | (with_reducible refine gateK_yes ?_) | (refine gateK_no (by decide) ?_) | (with_reducible refine gateK_none ?_)
  | ((try first | refine WO_op rfl rfl rfl ?_ | refine WO_op0 rfl rfl ?_ | refine WD_op rfl rfl rfl ?_ | refine WD_op0 rfl rfl ?_); (refine WV_gen fun Q_ hQ_ => ?_; simp (disch := first | omega | (simp only [List.length_cons, List.length_nil, List.length_append]; omega)) only [bb, argF, ↓reduceIte, reduceCtorEq, Nat.reduceEqDiff, Nat.reduceLT, Nat.reduceLeDiff, Nat.reduceAdd, Nat.reduceMul, Nat.reduceSub, Nat.reduceBEq, Int.reduceToNat, List.append_assoc, List.length_append, cond_true, cond_false, List.length_cons, List.length_nil, List.cons_append, List.nil_append, List.append_nil, List.getElem?_cons_zero, List.getElem?_cons_succ, List.set_cons_zero, List.set_cons_succ, List.drop_zero, List.drop_succ_cons, List.take_zero, List.take_succ_cons, List.take_nil, List.drop_nil, eq_self, List.toList_toArray, beq_self_eq_true, hlen, newPtr_X wf, load1_X wf, loadAgg_X wf, store1_X wf, writeCells_X wf, reszT_ptr, ia_2, sz_2, ia_3, sz_3, ia_25, sz_25, ia_47, sz_47, ia_56, sz_56, ze_56, ik_25, ik_56, sliceE_arr un_54 sz_2, indexAddrE_def (P := Try.prog) (t := 56)]; first | (refine dec_split (Q := Q_) (fun hp_ => ?_) (fun hp_ => ?_) <;> first | (exfalso; omega) | (refine hQ_ _ _ ?_; clear hQ_ Q_)) | (refine dec_splitn (Q := Q_) (fun hp_ => ?_) (fun hp_ => ?_) <;> first | (exfalso; omega) | (refine hQ_ _ _ ?_; clear hQ_ Q_)) | (refine hQ_ _ _ ?_; clear hQ_ Q_)))
  | (refine WC_cond fun K_ hK_ => ?_; simp (disch := omega) only [evT_tmp, upd_apply, WB_some, ↓reduceIte, reduceCtorEq, Nat.reduceEqDiff, Nat.reduceLT]; refine hK_ _ ?_; clear hK_ K_)
  | (with_reducible refine condK_tt ?_) | (with_reducible refine condK_ff ?_) | (with_reducible refine roundQ_exit ?_) | (with_reducible refine roundQ_ret ?_)))
  refine WC_loop (fun (i : Nat) f d h' => i ≤ ys.length ∧ f 0 = b ∧ f 2 = .ptr (nx h 0) 0 ∧ f 3 = .ptr (nx h 1) 0 ∧ f 6 = b ∧ f 7 = ii (ys.length : Int) ∧ f 8 = ii (i : Int) ∧ d = [] ∧
    h' = X h [.cells (mkCells ((gridP ys 0).map ii)) 56, .cells (mkCells ((gridP ys i).map ii)) 56] h.clock) (fun i => ys.length - i) ?_ (ys.length + 1) 0 (by omega) ?_
  · rintro i f d h' ⟨hi, g0, g2, g3, g6, g7, g8, rfl, rfl⟩
    by_cases hlt : i < ys.length
    · obtain ⟨v, hv, hsv, hcv, hrl⟩ := x.row i hlt
      obtain ⟨id, off, hix, hld⟩ := x.sl.at1 wf hlt ik_25
      rw [hv] at hld
      have hcp : ∀ w, copyE Try.prog 47 (.sl (nx h 1) (i * 6) 6 (some 6) 1) (reszT Try.prog 47 v) (X h [.cells (mkCells ((gridP ys 0).map ii)) 56, .cells (mkCells ((gridP ys i).map ii)) 56] w)
          = .ok (ii (m : Int)) (X h [.cells (mkCells ((gridP ys 0).map ii)) 56, .cells (mkCells ((gridP ys (i + 1)).map ii)) 56] (min (h.clock + 1) w)) := fun w => by
        have := copyE_X (P := Try.prog) wf (t := 47) (e := 2) (ee := 56) (size := 1) (n := m) (len := 6) (off := i * 6) (esz := 1) (k := 1) (w := w) (cap := some 6) (x := reszT Try.prog 47 v) (cs := ys[i].map ii) (old := (gridP ys i).map ii)
          (l := [.cells (mkCells ((gridP ys 0).map ii)) 56, .cells (mkCells ((gridP ys i).map ii)) 56]) un_47 sz_2 ((hsv.up wf _ w).src hcv un_47 sz_2) (by omega) (by omega) (by rw [List.length_map, hrl]; omega) rfl
          (by rw [List.length_map, List.length_map, hrl, gridP_length]; omega) (allOne_map (fun _ => rfl) _)
        rw [gridP_step hlt (by omega) (by omega)] at this
        exact this
      have i10 : i < 10 := by omega
      (repeat' (first
  | (with_reducible refine WC_seq ?_) | (refine WC_region ?_) | (with_reducible refine WC_skip ?_) | (with_reducible refine WC_label ?_) | (with_reducible refine WC_scope ?_) | (with_reducible refine WC_block ?_) | (with_reducible refine WC_ret ?_) | (with_reducible refine WC_exit ?_)
  | (with_reducible refine seqQ_norm ?_) | (with_reducible refine seqQ_ret ?_) | (with_reducible refine seqQ_exit ?_) | (with_reducible refine blkQ_norm ?_) | (with_reducible refine blkQ_ret ?_) | (with_reducible refine blkQ_here ?_) | (refine blkQ_out rfl ?_)
  | (refine WO_nil ?_)
  | (refine WD_nil ?_)
  | (refine WD_gate rfl rfl rfl rfl rfl fun K_ hK_ => ?_; simp only [upd_apply, asB_bool, asB_tup, ↓reduceIte, reduceCtorEq, Nat.reduceEqDiff, Bool.not_true, Bool.not_false]; refine hK_ _ ?_; clear hK_ K_)
  | (refine WO_gate rfl rfl rfl rfl rfl fun K_ hK_ => ?_; simp only [upd_apply, asB_bool, asB_tup, ↓reduceIte, reduceCtorEq, Nat.reduceEqDiff, Bool.not_true, Bool.not_false]; refine hK_ _ ?_; clear hK_ K_)
  | (with_reducible refine gateK_yes ?_) | (refine gateK_no (by decide) ?_) | (with_reducible refine gateK_none ?_)
  | ((try first | refine WO_op rfl rfl rfl ?_ | refine WO_op0 rfl rfl ?_ | refine WD_op rfl rfl rfl ?_ | refine WD_op0 rfl rfl ?_); (refine WV_gen fun Q_ hQ_ => ?_; simp (disch := first | omega | (simp only [List.length_cons, List.length_nil, List.length_append]; omega)) only [bb, argF, ↓reduceIte, reduceCtorEq, Nat.reduceEqDiff, Nat.reduceLT, Nat.reduceLeDiff, Nat.reduceAdd, Nat.reduceMul, Nat.reduceSub, Nat.reduceBEq, Int.reduceToNat, List.append_assoc, List.length_append, cond_true, cond_false, List.length_cons, List.length_nil, List.cons_append, List.nil_append, List.append_nil, List.getElem?_cons_zero, List.getElem?_cons_succ, List.set_cons_zero, List.set_cons_succ, List.drop_zero, List.drop_succ_cons, List.take_zero, List.take_succ_cons, List.take_nil, List.drop_nil, eq_self, List.toList_toArray, beq_self_eq_true, g0, g2, g3, g6, g7, g8, hix, hld, i10, hcp, newPtr_X wf, load1_X wf, loadAgg_X wf, store1_X wf, writeCells_X wf, reszT_ptr, ia_2, sz_2, ia_3, sz_3, ia_25, sz_25, ia_47, sz_47, ia_56, sz_56, ze_56, ik_25, ik_56, sliceE_arr un_54 sz_2, indexAddrE_def (P := Try.prog) (t := 56)]; first | (refine dec_split (Q := Q_) (fun hp_ => ?_) (fun hp_ => ?_) <;> first | (exfalso; omega) | (refine hQ_ _ _ ?_; clear hQ_ Q_)) | (refine dec_splitn (Q := Q_) (fun hp_ => ?_) (fun hp_ => ?_) <;> first | (exfalso; omega) | (refine hQ_ _ _ ?_; clear hQ_ Q_)) | (refine hQ_ _ _ ?_; clear hQ_ Q_)))
  | (refine WC_cond fun K_ hK_ => ?_; simp (disch := omega) only [evT_tmp, upd_apply, WB_some, ↓reduceIte, reduceCtorEq, Nat.reduceEqDiff, Nat.reduceLT]; refine hK_ _ ?_; clear hK_ K_)
  | (with_reducible refine condK_tt ?_) | (with_reducible refine condK_ff ?_) | (with_reducible refine roundQ_exit ?_) | (with_reducible refine roundQ_ret ?_)))
      refine roundQ_again (i + 1) (by omega) ⟨hlt, by simp only [upd_apply, ↓reduceIte, reduceCtorEq, Nat.reduceEqDiff]; exact g0, by simp only [upd_apply, ↓reduceIte, reduceCtorEq, Nat.reduceEqDiff]; exact g2, by simp only [upd_apply, ↓reduceIte, reduceCtorEq, Nat.reduceEqDiff]; exact g3, by simp only [upd_apply, ↓reduceIte, reduceCtorEq, Nat.reduceEqDiff]; exact g6, by simp only [upd_apply, ↓reduceIte, reduceCtorEq, Nat.reduceEqDiff]; exact g7, by simp only [upd_apply, ↓reduceIte, reduceCtorEq, Nat.reduceEqDiff]; rfl, rfl, rfl⟩
    · have hie : i = ys.length := by omega
      subst hie
      have hL : ((gridP ys ys.length).map ii).length = 60 := by rw [List.length_map, gridP_length]
      have hld : ∀ w, loadE Try.prog 56 (.ptr (nx h 1) 0) (X h [.cells (mkCells ((gridP ys 0).map ii)) 56, .cells (mkCells ((gridP ys ys.length).map ii)) 56] w) = some (.agg ((gridP ys ys.length).map ii)) := fun w => loadE_whole wf ia_56 sz_56 (by decide) hL rfl
      have hst : ∀ w, storeE Try.prog 56 (.ptr (nx h 0) 0) (.agg ((gridP ys ys.length).map ii)) (X h [.cells (mkCells ((gridP ys 0).map ii)) 56, .cells (mkCells ((gridP ys ys.length).map ii)) 56] w)
          = some (X h [.cells (mkCells ((gridP ys ys.length).map ii)) 56, .cells (mkCells ((gridP ys ys.length).map ii)) 56] (min (h.clock + 0) w)) := fun w => storeE_whole wf sz_56 (by decide) hL (by rw [List.length_map, gridP_length]) rfl (allOne_map (fun _ => rfl) _)
      (repeat' (first
  | (with_reducible refine WC_seq ?_) | (refine WC_region ?_) | (with_reducible refine WC_skip ?_) | (with_reducible refine WC_label ?_) | (with_reducible refine WC_scope ?_) | (with_reducible refine WC_block ?_) | (with_reducible refine WC_ret ?_) | (with_reducible refine WC_exit ?_)
  | (with_reducible refine seqQ_norm ?_) | (with_reducible refine seqQ_ret ?_) | (with_reducible refine seqQ_exit ?_) | (with_reducible refine blkQ_norm ?_) | (with_reducible refine blkQ_ret ?_) | (with_reducible refine blkQ_here ?_) | (refine blkQ_out rfl ?_)
  | (refine WO_nil ?_)
  | (refine WD_nil ?_)
  | (refine WD_gate rfl rfl rfl rfl rfl fun K_ hK_ => ?_; simp only [upd_apply, asB_bool, asB_tup, ↓reduceIte, reduceCtorEq, Nat.reduceEqDiff, Bool.not_true, Bool.not_false]; refine hK_ _ ?_; clear hK_ K_)
  | (refine WO_gate rfl rfl rfl rfl rfl fun K_ hK_ => ?_; simp only [upd_apply, asB_bool, asB_tup, ↓reduceIte, reduceCtorEq, Nat.reduceEqDiff, Bool.not_true, Bool.not_false]; refine hK_ _ ?_; clear hK_ K_)
  | (with_reducible refine gateK_yes ?_) | (refine gateK_no (by decide) ?_) | (with_reducible refine gateK_none ?_)
  | ((try first | refine WO_op rfl rfl rfl ?_ | refine WO_op0 rfl rfl ?_ | refine WD_op rfl rfl rfl ?_ | refine WD_op0 rfl rfl ?_); (refine WV_gen fun Q_ hQ_ => ?_; simp (disch := first | omega | (simp only [List.length_cons, List.length_nil, List.length_append]; omega)) only [bb, argF, ↓reduceIte, reduceCtorEq, Nat.reduceEqDiff, Nat.reduceLT, Nat.reduceLeDiff, Nat.reduceAdd, Nat.reduceMul, Nat.reduceSub, Nat.reduceBEq, Int.reduceToNat, List.append_assoc, List.length_append, cond_true, cond_false, List.length_cons, List.length_nil, List.cons_append, List.nil_append, List.append_nil, List.getElem?_cons_zero, List.getElem?_cons_succ, List.set_cons_zero, List.set_cons_succ, List.drop_zero, List.drop_succ_cons, List.take_zero, List.take_succ_cons, List.take_nil, List.drop_nil, eq_self, List.toList_toArray, beq_self_eq_true, g0, g2, g3, g6, g7, g8, hld, hst]; first | (refine dec_split (Q := Q_) (fun hp_ => ?_) (fun hp_ => ?_) <;> first | (exfalso; omega) | (refine hQ_ _ _ ?_; clear hQ_ Q_)) | (refine dec_splitn (Q := Q_) (fun hp_ => ?_) (fun hp_ => ?_) <;> first | (exfalso; omega) | (refine hQ_ _ _ ?_; clear hQ_ Q_)) | (refine hQ_ _ _ ?_; clear hQ_ Q_)))
  | (refine WC_cond fun K_ hK_ => ?_; simp (disch := omega) only [evT_tmp, upd_apply, WB_some, ↓reduceIte, reduceCtorEq, Nat.reduceEqDiff, Nat.reduceLT]; refine hK_ _ ?_; clear hK_ K_)
  | (with_reducible refine condK_tt ?_) | (with_reducible refine condK_ff ?_) | (with_reducible refine roundQ_exit ?_) | (with_reducible refine roundQ_ret ?_)))
      refine endQ_ret _ _ rfl (retc0 (by decide) (by simp (disch := first | omega | (simp only [List.length_cons, List.length_nil, List.length_append]; omega)) only [bb, argF, ↓reduceIte, reduceCtorEq, Nat.reduceEqDiff, Nat.reduceLT, Nat.reduceLeDiff, Nat.reduceAdd, Nat.reduceMul, Nat.reduceSub, Nat.reduceBEq, Int.reduceToNat, List.append_assoc, List.length_append, cond_true, cond_false, List.length_cons, List.length_nil, List.cons_append, List.nil_append, List.append_nil, List.getElem?_cons_zero, List.getElem?_cons_succ, List.set_cons_zero, List.set_cons_succ, List.drop_zero, List.drop_succ_cons, List.take_zero, List.take_succ_cons, List.take_nil, List.drop_nil, eq_self, List.toList_toArray, beq_self_eq_true, g2]; exact loadE_whole wf ia_56 sz_56 (by decide) hL rfl)) ?_
      refine WV_flat (flatL_ii _) (by omega) ?_
      exact ⟨rfl, rfl⟩
  · refine ⟨Nat.zero_le _, by simp only [upd_apply, ↓reduceIte, reduceCtorEq, Nat.reduceEqDiff], by simp only [upd_apply, ↓reduceIte, reduceCtorEq, Nat.reduceEqDiff], by simp only [upd_apply, ↓reduceIte, reduceCtorEq, Nat.reduceEqDiff], by simp only [upd_apply, ↓reduceIte, reduceCtorEq, Nat.reduceEqDiff], by simp only [upd_apply, ↓reduceIte, reduceCtorEq, Nat.reduceEqDiff], by simp only [upd_apply, ↓reduceIte, reduceCtorEq, Nat.reduceEqDiff]; rfl, rfl, ?_⟩
    rw [gridP_zero]; rfl
end Go.Proofs.Ytghondkiondeaab
end
