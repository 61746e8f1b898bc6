/-
  SLICES THAT ARE READ; BUILTINS; SMALL EQUATIONS.
-/
import Derived.Test.YthaleckfgcgegaaEvL5
namespace Go.Ev
section
variable {P : Program}

/-- A slice of so many elements of m cells each: what its cells hold. -/
def Sl (h : H) (a : AV) (m len : Nat) (cells : List AV) : Prop :=
  cells.length = len * m ∧ ((a = .nils ∧ len = 0) ∨ ∃ id off cap esz o cs, a = .sl id off len cap esz ∧ getObj id h = some o ∧ cellsOf o = some cs ∧ ∀ k, k < len * m → cs (off + k) = cells[k]?)

theorem Sl.up {h : H} (wf : Wf h) {a : AV} {m len : Nat} {cells : List AV} (s : Sl h a m len cells) (l : List AO) (w : Nat) : Sl (X h l w) a m len cells := by
  obtain ⟨hl, ⟨ha, h0⟩ | ⟨id, off, cap, esz, o, cs, ha, hg, hc, hk⟩⟩ := s
  · exact ⟨hl, .inl ⟨ha, h0⟩⟩
  · exact ⟨hl, .inr ⟨id, off, cap, esz, o, cs, ha, getObj_old wf hg l w, hc, hk⟩⟩
theorem Sl.new {h : H} (wf : Wf h) {l : List AO} {w k m len : Nat} {cap : Option Nat} {esz e : Nat} {cells : List AV} (hl : cells.length = len * m) (hk : l[k]? = some (.cells (mkCells cells) e)) : Sl (X h l w) (.sl (nx h k) 0 len cap esz) m len cells :=
  ⟨hl, .inr ⟨_, 0, cap, esz, _, _, rfl, by rw [getObj_new wf]; exact hk, rfl, fun k _ => by rw [Nat.zero_add, mkCells_eq]⟩⟩
theorem Sl.nil (h : H) (m : Nat) : Sl h .nils m 0 [] := ⟨by simp, .inl ⟨rfl, rfl⟩⟩

theorem Sl.len {h h' : H} {a : AV} {m len : Nat} {cells : List AV} (s : Sl h a m len cells) {t e : TypeId} (hu : P.underlying t = some (.slice e)) : lenE P t a h' = some (.int .i64 (len : Int)) := by
  obtain ⟨_, ⟨rfl, rfl⟩ | ⟨id, off, cap, esz, o, cs, rfl, _, _, _⟩⟩ := s
  · unfold lenE; rw [hu]; rfl
  · unfold lenE; rw [hu]; rfl

/-- An element's address, and what lies there. -/
theorem Sl.at {h : H} (wf : Wf h) {a : AV} {m len : Nat} {cells : List AV} (s : Sl h a m len cells) {i : Nat} (hi : i < len) {t : TypeId} (hk : idxKind P t = some (none, m)) :
    ∃ id off, indexAddrE P t a (.int .i64 (i : Int)) = some (.ptr id off) ∧ ∀ l w, (∀ k, k < m → load1 id (off + k) (X h l w) = cells[i * m + k]?) ∧ loadAgg id off (some m) (X h l w) = some (.agg ((cells.drop (i * m)).take m)) := by
  obtain ⟨hl, ⟨rfl, rfl⟩ | ⟨id, off, cap, esz, o, cs, rfl, hg, hc, hx⟩⟩ := s
  · exact absurd hi (Nat.not_lt_zero _)
  · have him : i * m + m ≤ len * m := by rw [← Nat.succ_mul]; exact Nat.mul_le_mul_right m hi
    refine ⟨id, off + i * m, ?_, fun l w => ⟨fun k hkm => ?_, ?_⟩⟩
    · rw [indexAddrE_def, toNatE_lit]; dsimp only; rw [hk]; dsimp only; exact indexAt_sl hi
    · rw [load1_of (getObj_old wf hg l w) hc, Nat.add_assoc]
      exact hx _ (by omega)
    · unfold loadAgg
      dsimp only
      rw [readCells_of (getObj_old wf hg l w) hc]
      have hread : ∀ (n q : Nat), q + n ≤ m → readM cs n (off + i * m + q) = some ((cells.drop (i * m + q)).take n) := by
        intro n
        induction n with
        | zero => intro q _; simp [readM]
        | succ n ih =>
          intro q hq2
          unfold readM
          have h1 := hx (i * m + q) (by omega)
          rw [List.getElem?_eq_getElem (l := cells) (by omega), ← Nat.add_assoc] at h1
          rw [h1]
          dsimp only
          have h2 := ih (q + 1) (by omega)
          rw [show Nat.succ (off + i * m + q) = off + i * m + (q + 1) from rfl, h2, List.drop_eq_getElem_cons (i := i * m + q) (by omega)]
          rfl
      have hread0 := hread m 0 (by omega)
      rw [Nat.add_zero, Nat.add_zero] at hread0
      rw [hread0]
theorem Sl.at1 {h : H} (wf : Wf h) {a : AV} {len : Nat} {cells : List AV} (s : Sl h a 1 len cells) {i : Nat} (hi : i < len) {t : TypeId} (hk : idxKind P t = some (none, 1)) :
    ∃ id off, indexAddrE P t a (.int .i64 (i : Int)) = some (.ptr id off) ∧ ∀ l w, load1 id off (X h l w) = cells[i]? := by
  obtain ⟨id, off, h1, h2⟩ := s.at wf hi hk
  exact ⟨id, off, h1, fun l w => by have := (h2 l w).1 0 (Nat.lt_succ_self 0); simpa using this⟩

/-- The elements from k on. -/
theorem Sl.from {h : H} {a : AV} {m len : Nat} {cells : List AV} (s : Sl h a m len cells) {k : Nat} (hk : k ≤ len) {t e : TypeId} (hu : P.underlying t = some (.slice e)) (hz : sizeE P e = some m) (hcap : ∀ id off l esz, a ≠ .sl id off l none esz) (hesz : ∀ id off l c esz, a = .sl id off l (some c) esz → l ≤ c) :
    ∃ b, sliceE P t (reszT P t a) (some k) none none = some b ∧ Sl h b m (len - k) (cells.drop (k * m)) := by
  obtain ⟨hl, ⟨rfl, rfl⟩ | ⟨id, off, cap, esz, o, cs, rfl, hg, hc, hx⟩⟩ := s
  · have hk0 : k = 0 := by omega
    subst hk0
    refine ⟨.nils, ?_, by simp at hl; simp [hl]; exact Sl.nil h m⟩
    have hr : reszT P t .nils = .nils := by unfold reszT; rw [hu]; dsimp only; rw [hz]; rfl
    rw [hr]
    unfold sliceE; rw [hu]; dsimp only; rw [hz]; rfl
  · cases cap with
    | none => exact absurd rfl (hcap id off len esz)
    | some c =>
      have hlc := hesz id off len c esz rfl
      have hr : reszT P t (.sl id off len (some c) esz) = .sl id off len (some c) m := by unfold reszT; rw [hu]; dsimp only; rw [hz]; rfl
      rw [hr]
      clear hr
      have hb : boundsE len (some c) (some k) none none = some (k, len, some c) := by
        unfold boundsE
        show (bif Nat.ble len c && Nat.ble k len then some (k, len, some c) else none) = _
        rw [Nat.ble_eq_true_of_le hlc, Nat.ble_eq_true_of_le hk]; rfl
      refine ⟨.sl id (bif Nat.beq c k then off else off + k * m) (len - k) (some (c - k)) m, ?_, ?_, .inr ⟨_, _, _, _, o, cs, rfl, hg, hc, fun j hj => ?_⟩⟩
      · unfold sliceE; rw [hu]; dsimp only; rw [hz]; dsimp only
        rw [show Nat.beq m m = true from Nat.beq_refl m, hb]; rfl
      · rw [List.length_drop, hl, Nat.sub_mul]
      · have hmul : k * m ≤ len * m := Nat.mul_le_mul_right _ hk
        rw [List.getElem?_drop]
        have hj' : k * m + j < len * m := by rw [Nat.sub_mul] at hj; omega
        have := hx (k * m + j) hj'
        rw [← this]
        cases hbq : Nat.beq c k with
        | true =>
          have := Nat.eq_of_beq_eq_true hbq
          subst this
          have : len = c := by omega
          subst this
          omega
        | false => show cs (off + k * m + j) = _; rw [Nat.add_assoc]

variable {ty : TypeId} {h : H} {tm : M AV}
theorem bi_len {t x} : builtinE P .len [t] ty [x] h = .of (lenE P t x h) h := rfl
theorem bi_append {t u s x} : builtinE P .append [t, u] ty [s, x] h = bif notInt P u then appendE P t (reszT P t s) (reszT P t x) h else .no := rfl
theorem bi_copy {t u d x} : builtinE P .copy [t, u] ty [d, x] h = copyE P t d (reszT P t x) h := rfl
theorem bi_max {t u : TypeId} {a b : Int} : builtinE P .max [t, u] ty [.int .i64 a, .int .i64 b] h = .ok (.int .i64 (max a b)) h := by
  show RV.of (pureVal P (Builtin.max_ #[t, u] ty #[.int .i64 a, .int .i64 b])) h = _
  have e : pureVal P (Builtin.max_ #[t, u] ty #[.int .i64 a, .int .i64 b]) = some (.int .i64 (max a b)) := by
    show (match abs0 (.int .i64 (if b > a then b else a)) with | some a => force0 a | none => none) = _
    show force0 (.int .i64 (if b > a then b else a)) = _
    rw [force0_eq]
    congr 2
    split <;> omega
  rw [e]; rfl
theorem bi_min {t u : TypeId} {a b : Int} : builtinE P .min [t, u] ty [.int .i64 a, .int .i64 b] h = .ok (.int .i64 (min a b)) h := by
  show RV.of (pureVal P (Builtin.min_ #[t, u] ty #[.int .i64 a, .int .i64 b])) h = _
  have e : pureVal P (Builtin.min_ #[t, u] ty #[.int .i64 a, .int .i64 b]) = some (.int .i64 (min a b)) := by
    show (match abs0 (.int .i64 (if b < a then b else a)) with | some a => force0 a | none => none) = _
    show force0 (.int .i64 (if b < a then b else a)) = _
    rw [force0_eq]
    congr 2
    split <;> omega
  rw [e]; rfl
theorem unE_neg {a : Int} : unE P .neg (.int .i64 a) = some (.int .i64 (IntKind.i64.wrap (0 - a))) := by
  show (match abs0 (.int .i64 (IntKind.i64.wrap (0 - a))) with | some a => force0 a | none => none) = _
  show force0 (.int .i64 (IntKind.i64.wrap (0 - a))) = _
  rw [force0_eq]
theorem ble_dec (a b : Nat) : Nat.ble a b = decide (a ≤ b) := by
  by_cases h : a ≤ b
  · rw [Nat.ble_eq_true_of_le h, decide_eq_true h]
  · rw [decide_eq_false h]
    cases hb : Nat.ble a b with
    | false => rfl
    | true => exact absurd (Nat.le_of_ble_eq_true hb) h
theorem beq_dec (a b : Nat) : Nat.beq a b = decide (a = b) := by
  by_cases h : a = b
  · subst h; rw [decide_eq_true rfl]; exact Nat.beq_refl a
  · rw [decide_eq_false h]
    cases hb : Nat.beq a b with
    | false => rfl
    | true => exact absurd (Nat.eq_of_beq_eq_true hb) h
theorem slicesE_def {t : TypeId} {x : Operand} {lo hi mx : Option Operand} : slicesE P tm t x lo hi mx = match evT tm x, optNat tm lo, optNat tm hi, optNat tm mx with
  | some v, some lo, some hi, some mx => sliceE P t (reszT P t v) lo hi mx
  | _, _, _, _ => none := rfl
theorem optNat_none : optNat tm none = some none := rfl
theorem optNat_def {x : Operand} : optNat tm (some x) = match evT tm x with | some v => (match toNatE v with | some n => some (some n) | none => none) | none => none := rfl
theorem buildSliceO_def {t n ps} : buildSliceO P tm t n ps h = match evParts tm ps.toList with | some parts => buildSliceE P t n parts h | none => .no := rfl
theorem buildO_def {t ps} : buildO P tm t ps = match evParts tm ps.toList with | some parts => buildE P t parts | none => none := rfl
theorem fillE_nil {pl : Nat → Option (Nat × Nat)} {cs : List AV} : fillE pl cs [] = some cs := rfl
theorem fillE_cons {pl : Nat → Option (Nat × Nat)} {cs : List AV} {i : Nat} {v : AV} {rest : List (Nat × AV)} : fillE pl cs ((i, v) :: rest) = match pl i with | some (off, size) => bif Nat.beq v.cells.length size && Nat.ble (off + v.cells.length) cs.length then fillE pl (layOver cs off v.cells) rest else none | none => none := rfl
theorem layOver_def {cs vs : List AV} {off : Nat} : layOver cs off vs = cs.take off ++ vs ++ cs.drop (off + vs.length) := rfl
theorem zerosE_zero {z : List AV} : zerosE z 0 = [] := rfl
theorem zerosE_succ {z : List AV} {n : Nat} : zerosE z (n + 1) = z ++ zerosE z n := rfl
theorem newSlice_X {h0 : H} (wf : Wf h0) {e : TypeId} {cs : List AV} {len cap n : Nat} {l : List AO} {w : Nat} : newSlice e cs len cap n (X h0 l w) = .ok (.sl (nx h0 l.length) 0 len (some cap) n) (X h0 (l ++ [.cells (mkCells cs) e]) w) := by
  unfold newSlice newCells; rw [newObj_X wf]
/-- Two numbers put into a new slice. -/
theorem buildSlice2 {h0 : H} (wf : Wf h0) {t e : TypeId} {a b z : AV} {l : List AO} {w : Nat} (hu : P.underlying t = some (.slice e)) (hz : sizeE P e = some 1) (hze : zeroE P e = some z) (hz1 : z.cells.length = 1) (ha : a.cells.length = 1) (hb : b.cells.length = 1) :
    buildSliceE P t 2 [(0, a), (1, b)] (X h0 l w) = .ok (.sl (nx h0 l.length) 0 2 (some 2) 1) (X h0 (l ++ [.cells (mkCells (a.cells ++ b.cells)) e]) w) := by
  obtain ⟨z0, hz0⟩ := List.length_eq_one_iff.1 hz1
  obtain ⟨a0, ha0⟩ := List.length_eq_one_iff.1 ha
  obtain ⟨b0, hb0⟩ := List.length_eq_one_iff.1 hb
  unfold buildSliceE
  rw [hu]; dsimp only; rw [hz, hze]; dsimp only
  rw [hz0]
  show (match fillE (fun i => some (i * 1, 1)) [z0, z0] [(0, a), (1, b)] with | some cs => newSlice e cs 2 2 1 (X h0 l w) | none => RV.no) = _
  have e1 : fillE (fun i => some (i * 1, 1)) [z0, z0] [(0, a), (1, b)] = some [a0, b0] := by
    unfold fillE
    dsimp only
    rw [ha0]
    show fillE (fun i => some (i * 1, 1)) [a0, z0] [(1, b)] = _
    unfold fillE
    dsimp only
    rw [hb0]
    rfl
  rw [e1, ha0, hb0]
  show newSlice e [a0, b0] 2 2 1 (X h0 l w) = _
  unfold newSlice newCells
  rw [newObj_X wf]; rfl
end
end Go.Ev
namespace Go.Ev
theorem dec_split {p : Prop} [Decidable p] {Q : AV → H → Prop} {h : H} (a : p → Q (.bool true) h) (b : ¬ p → Q (.bool false) h) : Q (.bool (decide p)) h := by
  by_cases hp : p
  · rw [decide_eq_true hp]; exact a hp
  · rw [decide_eq_false hp]; exact b hp
theorem dec_splitn {p : Prop} [Decidable p] {Q : AV → H → Prop} {h : H} (a : p → Q (.bool false) h) (b : ¬ p → Q (.bool true) h) : Q (.bool (!decide p)) h := by
  by_cases hp : p
  · rw [decide_eq_true hp]; exact a hp
  · rw [decide_eq_false hp]; exact b hp
theorem WV_to {r : RV} {v0 : AV} {h0 : H} (w : WV r fun v h => v = v0 ∧ h = h0) : r = .ok v0 h0 := by
  obtain ⟨v, h, e, rfl, rfl⟩ := w; exact e
end Go.Ev
