/- The statement BoxNarrower of layer 2: with a range that is narrower no span becomes wider, and with ranges of one number each both ends are the number of the one true hull, for all hulls, kinds, places and numbers; no condition. -/
import Derived.Test.YtghondkiondeaacNarM6
set_option linter.all false
/- EvL19 -/
section
/-
  STRUCTS OF TWO STRUCTS OF TWO NUMBERS, HELD AGAINST ONE ANOTHER.
-/
namespace Go.Ev
section
variable {P : Program}
theorem pureRun_isAggS {t : TypeId} {fs : Array Field} (hu : P.underlying t = some (.struct fs)) : pureRun P (isAgg t) = some true := by
  unfold isAgg
  rw [pureRun_seq, pureRun_underlying hu]
  rfl
theorem pureRun_partAgg {e : TypeId} {fs : Array Field} {cs : Array Value} {off n : Nat} (hu : P.underlying e = some (.struct fs)) (hz : pureRun P (sizeOf e) = some n) : pureRun P (part e cs off) = some (.agg (cs.extract off (off + n))) := by
  unfold part
  rw [pureRun_seq, pureRun_isAggS hu]
  simp only [Option.bind_some, ↓reduceIte]
  rw [pureRun_seq, hz]
  rfl
theorem pureRun_eqFour {t e : TypeId} {f0 f1 g0 g1 : Field} {k0 k1 : IntKind} {d : Nat} {a b c a' b' : Int} {c' x y : Int} (hu : P.underlying t = some (.struct #[f0, f1])) (t0 : f0.type = e) (t1 : f1.type = e) (o0 : f0.offset = 0) (o1 : f1.offset = 2)
    (n0 : f0.name ≠ "_") (n1 : f1.name ≠ "_") (hs : P.stoodInHeld t = false) (he : P.underlying e = some (.struct #[g0, g1])) (hz : pureRun P (sizeOf e) = some 2) (h0 : P.underlying g0.type = some (.int k0)) (h1 : P.underlying g1.type = some (.int k1)) (p0 : g0.offset = 0) (p1 : g1.offset = 1)
    (m0 : g0.name ≠ "_") (m1 : g1.name ≠ "_") (hse : P.stoodInHeld e = false) :
    pureRun P (Op.equalIn (d + 3) t (.agg #[.int .i64 a, .int .i64 b, .int .i64 c, .int .i64 x]) (.agg #[.int .i64 a', .int .i64 b', .int .i64 c', .int .i64 y])) = some ((a == a' && b == b') && (c == c' && x == y)) := by
  have q1 : pureRun P (part f0.type #[.int .i64 a, .int .i64 b, .int .i64 c, .int .i64 x] f0.offset) = some (.agg #[.int .i64 a, .int .i64 b]) := by rw [t0, o0, pureRun_partAgg he hz]; rfl
  have q2 : pureRun P (part f0.type #[.int .i64 a', .int .i64 b', .int .i64 c', .int .i64 y] f0.offset) = some (.agg #[.int .i64 a', .int .i64 b']) := by rw [t0, o0, pureRun_partAgg he hz]; rfl
  have q3 : pureRun P (part f1.type #[.int .i64 a, .int .i64 b, .int .i64 c, .int .i64 x] f1.offset) = some (.agg #[.int .i64 c, .int .i64 x]) := by rw [t1, o1, pureRun_partAgg he hz]; rfl
  have q4 : pureRun P (part f1.type #[.int .i64 a', .int .i64 b', .int .i64 c', .int .i64 y] f1.offset) = some (.agg #[.int .i64 c', .int .i64 y]) := by rw [t1, o1, pureRun_partAgg he hz]; rfl
  have e1 : pureRun P (Op.equalIn (d + 2) f0.type (.agg #[.int .i64 a, .int .i64 b]) (.agg #[.int .i64 a', .int .i64 b'])) = some (a == a' && b == b') := by rw [t0]; exact pureRun_eqTwo he h0 h1 p0 p1 m0 m1 hse
  have e2 : pureRun P (Op.equalIn (d + 2) f1.type (.agg #[.int .i64 c, .int .i64 x]) (.agg #[.int .i64 c', .int .i64 y])) = some (c == c' && x == y) := by rw [t1]; exact pureRun_eqTwo he h0 h1 p0 p1 m0 m1 hse
  rw [show d + 3 = (d + 2) + 1 from rfl, Op.equalIn, pureRun_seq, pureRun_underlying hu]
  simp only [Option.bind_some]
  rw [pureRun_seq, pureRun_program]
  simp only [Option.bind_some, hs]
  simp [pureRun_seq, n0, n1, q1, q2, q3, q4, e1]
  by_cases hh : a = a' ∧ b = b'
  · rw [if_neg (fun h => h hh.1 hh.2)]
    obtain ⟨rfl, rfl⟩ := hh
    simp [pureRun_pure, pureRun_seq, q3, q4, e2]
    by_cases hk : c = c' ∧ x = y
    · rw [if_neg (fun h => h hk.1 hk.2)]
      simp [hk, pureRun_pure]
    · rw [if_pos (fun h1 h2 => hk ⟨h1, h2⟩)]
      have : (c == c' && x == y) = false := by simpa using hk
      rw [this]
      simp [pureRun_pure]
  · rw [if_pos (fun h1 h2 => hh ⟨h1, h2⟩)]
    have : (a == a' && b == b') = false := by simpa using hh
    rw [this]
    simp [pureRun_pure]
/-- Both ways of holding them against one another. -/
theorem b_eq4 {t e : TypeId} {X Y : Operand} {f0 f1 g0 g1 : Field} {k0 k1 : IntKind} {a b c a' b' : Int} {c' x y : Int} (hu : P.underlying t = some (.struct #[f0, f1])) (t0 : f0.type = e) (t1 : f1.type = e) (o0 : f0.offset = 0) (o1 : f1.offset = 2)
    (n0 : f0.name ≠ "_") (n1 : f1.name ≠ "_") (hs : P.stoodInHeld t = false) (he : P.underlying e = some (.struct #[g0, g1])) (hz : pureRun P (sizeOf e) = some 2) (h0 : P.underlying g0.type = some (.int k0)) (h1 : P.underlying g1.type = some (.int k1)) (p0 : g0.offset = 0) (p1 : g1.offset = 1)
    (m0 : g0.name ≠ "_") (m1 : g1.name ≠ "_") (hse : P.stoodInHeld e = false) (hg : P.eqGuardType P.depth t = false) :
    binE P .eql t X Y (.agg [.int .i64 a, .int .i64 b, .int .i64 c, .int .i64 x]) (.agg [.int .i64 a', .int .i64 b', .int .i64 c', .int .i64 y]) = some (.bool ((a == a' && b == b') && (c == c' && x == y))) ∧
    binE P .neq t X Y (.agg [.int .i64 a, .int .i64 b, .int .i64 c, .int .i64 x]) (.agg [.int .i64 a', .int .i64 b', .int .i64 c', .int .i64 y]) = some (.bool (!((a == a' && b == b') && (c == c' && x == y)))) := by
  have key := pureRun_eqFour (d := 9997) (a := a) (b := b) (c := c) (x := x) (a' := a') (b' := b') (c' := c') (y := y) hu t0 t1 o0 o1 n0 n1 hs he hz h0 h1 p0 p1 m0 m1 hse
  have es : ∀ op, binSlow P op t X Y (.agg [.int .i64 a, .int .i64 b, .int .i64 c, .int .i64 x]) (.agg [.int .i64 a', .int .i64 b', .int .i64 c', .int .i64 y]) = pureVal P (do eqGuard op t X Y (.agg #[.int .i64 a, .int .i64 b, .int .i64 c, .int .i64 x]) (.agg #[.int .i64 a', .int .i64 b', .int .i64 c', .int .i64 y]); binOp op t (.agg #[.int .i64 a, .int .i64 b, .int .i64 c, .int .i64 x]) (.agg #[.int .i64 a', .int .i64 b', .int .i64 c', .int .i64 y])) := fun op => rfl
  have eb : ∀ op, binE P op t X Y (.agg [.int .i64 a, .int .i64 b, .int .i64 c, .int .i64 x]) (.agg [.int .i64 a', .int .i64 b', .int .i64 c', .int .i64 y]) = binSlow P op t X Y (.agg [.int .i64 a, .int .i64 b, .int .i64 c, .int .i64 x]) (.agg [.int .i64 a', .int .i64 b', .int .i64 c', .int .i64 y]) := fun op => rfl
  constructor
  · rw [eb, es]
    have e1 : pureRun P (eqGuard .eql t X Y (.agg #[.int .i64 a, .int .i64 b, .int .i64 c, .int .i64 x]) (.agg #[.int .i64 a', .int .i64 b', .int .i64 c', .int .i64 y])) = some () := by
      unfold eqGuard
      simp [pureRun_seq, pureRun_program, hg, pureRun_pure]
    have e2 : pureRun P (binOp .eql t (.agg #[.int .i64 a, .int .i64 b, .int .i64 c, .int .i64 x]) (.agg #[.int .i64 a', .int .i64 b', .int .i64 c', .int .i64 y])) = some (.bool ((a == a' && b == b') && (c == c' && x == y))) := by
      show pureRun P (do pure (Value.bool (← Op.equalIn (9997 + 3) t _ _))) = _
      rw [pureRun_seq, key]
      rfl
    unfold pureVal
    rw [pureRun_seq, e1]
    simp only [Option.bind_some]
    rw [e2]
    rfl
  · rw [eb, es]
    have e1 : pureRun P (eqGuard .neq t X Y (.agg #[.int .i64 a, .int .i64 b, .int .i64 c, .int .i64 x]) (.agg #[.int .i64 a', .int .i64 b', .int .i64 c', .int .i64 y])) = some () := by
      unfold eqGuard
      simp [pureRun_seq, pureRun_program, hg, pureRun_pure]
    have e2 : pureRun P (binOp .neq t (.agg #[.int .i64 a, .int .i64 b, .int .i64 c, .int .i64 x]) (.agg #[.int .i64 a', .int .i64 b', .int .i64 c', .int .i64 y])) = some (.bool (!((a == a' && b == b') && (c == c' && x == y)))) := by
      show pureRun P (do pure (Value.bool (!(← Op.equalIn (9997 + 3) t _ _)))) = _
      rw [pureRun_seq, key]
      rfl
    unfold pureVal
    rw [pureRun_seq, e1]
    simp only [Option.bind_some]
    rw [e2]
    rfl
end
end Go.Ev
end

/- EvQ1 -/
section
/-
  LAYER 2: ends of hulls that are made of one another.
-/
namespace Go.Proofs.Ytghondkiondeaac
open Go.Ev
set_option maxRecDepth 100000
set_option linter.unusedSimpArgs false
set_option linter.unusedVariables false
set_option maxHeartbeats 4000000

section
variable {g g' : Nat} {sp st sp' st' : Int} {rows rows' : List (List (Int × Int))} {m m' : Nat}
end

/-- Twice the space. -/
def cOf (g : Nat) : Int := if g = 53 then 2 else 1
end Go.Proofs.Ytghondkiondeaac
end

/- EvQ2 -/
section
/-
  LAYER 2: a hull from its other end.
-/
namespace Go.Proofs.Ytghondkiondeaac
open Go.Ev
set_option maxRecDepth 100000
set_option linter.unusedSimpArgs false
set_option linter.unusedVariables false
set_option maxHeartbeats 4000000

/-- A place from the other end. -/
def rv (n m q : Nat) : Nat := (n - 1 - q / m) * m + q % m
def revG (n m : Nat) (gs : List Int) : List Int := gB (fun q => yat gs m (rv n m q)) m (n * m)
section
variable {g : Nat} {sp st : Int} {rows : List (List (Int × Int))} {m : Nat}
def uOf (g : Nat) (sp : Int) (n : Nat) : Int := if g = 53 then sp * ((n : Int) - 1) else 0
def vOf (g : Nat) : Int := if g = 53 then -1 else 1
end

/-- The greatest Lo is that of some pair. -/
theorem le_mx {l : List (Int × Int)} {r : Int × Int} (h : r ∈ l) : r.1 ≤ mx l := by
  obtain ⟨s, t, rfl⟩ := List.append_of_mem h
  have e : s ++ r :: t = (s ++ [r]) ++ t := by simp
  rw [e]
  have key : ∀ (t s' : List (Int × Int)), mx s' ≤ mx (s' ++ t) := by
    intro t
    induction t with
    | nil => intro s'; rw [List.append_nil]; exact Int.le_refl _
    | cons x t ih =>
      intro s'
      have h1 := ih (s' ++ [x])
      rw [List.append_assoc] at h1
      have h2 := mx_snoc s' x
      have : mx s' ≤ mx (s' ++ [x]) := by rw [h2]; omega
      exact Int.le_trans this h1
  have h1 := key t (s ++ [r])
  rw [mx_snoc] at h1
  omega
theorem hullErr_of {sp st : Int} {rows : List (List (Int × Int))} (hn : 2 ≤ rows.length ∧ rows.length ≤ 10) (hm : 2 ≤ m0 rows ∧ m0 rows ≤ 6) (hall : ∀ row ∈ rows, row.length = m0 rows) (hsp : 1 ≤ sp ∧ sp ≤ 1000) (hst : 1 ≤ st ∧ st ≤ 100) (ho : offs rows) : hullErr sp st rows = 0 := by
  unfold hullErr
  rw [if_neg (not_not_intro hn), if_neg (not_not_intro hm), if_neg (not_not_intro hall), if_neg (not_not_intro ⟨hsp, hst, ho⟩)]
end Go.Proofs.Ytghondkiondeaac
end

/- EvQ3 -/
section
/-
  LAYER 2: the statement BoxScaled, walked.
-/
namespace Go.Proofs.Ytghondkiondeaac
open Go.Ev
set_option maxRecDepth 100000
set_option linter.unusedSimpArgs false
set_option linter.unusedVariables false
set_option maxHeartbeats 4000000

theorem eq39 {x y : Operand} {a b c d a' b' c' d' : Int} : binE Try.prog .eql 39 x y (.agg [ii a, ii b, ii c, ii d]) (.agg [ii a', ii b', ii c', ii d']) = some (.bool ((a == a' && b == b') && (c == c' && d == d'))) ∧
    binE Try.prog .neq 39 x y (.agg [ii a, ii b, ii c, ii d]) (.agg [ii a', ii b', ii c', ii d']) = some (.bool (!((a == a' && b == b') && (c == c' && d == d')))) := by
  obtain ⟨f0, f1, hu, o0, o1, t0, t1, n0, n1⟩ : ∃ f0 f1 : Field, Try.prog.underlying 39 = some (.struct #[f0, f1]) ∧ f0.offset = 0 ∧ f1.offset = 2 ∧ f0.type = 26 ∧ f1.type = 26 ∧ f0.name ≠ "_" ∧ f1.name ≠ "_" := ⟨_, _, Try.underlying39, rfl, rfl, rfl, rfl, by decide, by decide⟩
  obtain ⟨g0, g1, hv, p0, p1, s0, s1, m0, m1⟩ := under29
  exact b_eq4 hu t0 t1 o0 o1 n0 n1 (by kernel_rfl) hv (by kernel_rfl) (by rw [s0]; exact Try.underlying2) (by rw [s1]; exact Try.underlying2) p0 p1 m0 m1 (by kernel_rfl) (by kernel_rfl)
theorem eq39s {x y : Operand} {a b c d : Int} : binE Try.prog .eql 39 x y (.agg [ii a, ii b, ii c, ii d]) (.agg [ii a, ii b, ii c, ii d]) = some (.bool true) ∧
    binE Try.prog .neq 39 x y (.agg [ii a, ii b, ii c, ii d]) (.agg [ii a, ii b, ii c, ii d]) = some (.bool false) := by
  obtain ⟨h1, h2⟩ := eq39 (x := x) (y := y) (a := a) (b := b) (c := c) (d := d) (a' := a) (b' := b) (c' := c) (d' := d)
  refine ⟨by rw [h1]; simp, by rw [h2]; simp⟩

end Go.Proofs.Ytghondkiondeaac
end

/- EvQ4 -/
section
/-
  LAYER 2: hulls that are narrower.
-/
namespace Go.Proofs.Ytghondkiondeaac
open Go.Ev
set_option maxRecDepth 100000
set_option linter.unusedSimpArgs false
set_option linter.unusedVariables false
set_option maxHeartbeats 4000000

theorem hull_from {sp st : Int} {rows : List (List (Int × Int))} {m : Nat} (hn : 2 ≤ rows.length ∧ rows.length ≤ 10) (hm : 2 ≤ m ∧ m ≤ 6) (hall : ∀ i (hi : i < rows.length), rows[i].length = m) (hsp : 1 ≤ sp ∧ sp ≤ 1000) (hst : 1 ≤ st ∧ st ≤ 100)
    (ho : ∀ q, q < rows.length * m → isOff (rAt rows m q)) (hp : ∃ q, q < rows.length * m ∧ 0 < (rAt rows m q).1) : hullErr sp st rows = 0 ∧ m0 rows = m := by
  have h0 : 0 < rows.length := by omega
  have em : m0 rows = m := by
    show (rows.getD 0 []).length = m
    rw [List.getD_eq_getElem?_getD, List.getElem?_eq_getElem h0]
    exact hall 0 h0
  have hal : ∀ row ∈ rows, row.length = m := fun row hr => by
    obtain ⟨i, hi, rfl⟩ := List.getElem_of_mem hr
    exact hall i hi
  refine ⟨hullErr_of hn (by rw [em]; exact hm) (by rw [em]; exact hal) hsp hst ⟨fun r hr => ?_, ?_⟩, em⟩
  · obtain ⟨row, h5, h6⟩ := List.mem_flatten.1 hr
    obtain ⟨i, hi, rfl⟩ := List.getElem_of_mem h5
    obtain ⟨k, hk, rfl⟩ := List.getElem_of_mem h6
    have hkm : k < m := by rw [← hall i hi]; exact hk
    rw [← rAt_ik hi hkm (hall i hi)]
    exact ho _ (ik_lt hi hkm)
  · obtain ⟨q, hq, hq2⟩ := hp
    have := le_mx (rAt_mem hal (by omega) hq)
    omega

section
variable {g : Nat} {sp st : Int} {rows rows' : List (List (Int × Int))} {m : Nat}
theorem rat_len (hl : rows'.length = rows.length) (gs : List Int) : ratN g sp st rows' m gs = ratN g sp st rows m gs ∧ ratD g sp st rows' m gs = ratD g sp st rows m gs := by
  unfold ratN ratD gcdG numG denG
  rw [hl]
  exact ⟨rfl, rfl⟩
theorem inG_sub (hl : rows'.length = rows.length) (hs : ∀ q, q < rows.length * m → (rAt rows m q).1 ≤ (rAt rows' m q).1 ∧ (rAt rows' m q).2 ≤ (rAt rows m q).2) {gs : List Int} (hi : InG rows' m gs) : InG rows m gs :=
  ⟨hi.1, fun q hq => by have h1 := hs q hq; have h2 := hi.2 q (by rw [hl]; exact hq); omega⟩
/-- A narrower span. -/
theorem ends_sub (k : HOK g sp st rows m) (k' : HOK g sp st rows' m) (hl : rows'.length = rows.length) (hs : ∀ q, q < rows.length * m → (rAt rows m q).1 ≤ (rAt rows' m q).1 ∧ (rAt rows' m q).2 ≤ (rAt rows m q).2) (high : Bool) :
    (ratN g sp st rows m (theEnd g sp st rows m false) * ratD g sp st rows' m (theEnd g sp st rows' m high) ≤ ratN g sp st rows' m (theEnd g sp st rows' m high) * ratD g sp st rows m (theEnd g sp st rows m false)) ∧
    ratN g sp st rows' m (theEnd g sp st rows' m high) * ratD g sp st rows m (theEnd g sp st rows m true) ≤ ratN g sp st rows m (theEnd g sp st rows m true) * ratD g sp st rows' m (theEnd g sp st rows' m high) := by
  have i := inG_sub hl hs (theEnd_ok k' high).1
  obtain ⟨e1, e2⟩ := rat_len (g := g) (sp := sp) (st := st) (m := m) hl (theEnd g sp st rows' m high)
  rw [e1, e2]
  exact ⟨low_le k i, le_high k i⟩
/-- A hull of one kind alone. -/
theorem ends_one (k' : HOK g sp st rows' m) (hl : rows'.length = rows.length) {gs : List Int} (hs : ∀ q, q < rows.length * m → rAt rows' m q = (yat gs m q, yat gs m q)) (high : Bool) :
    ratN g sp st rows' m (theEnd g sp st rows' m high) = ratN g sp st rows m gs ∧ ratD g sp st rows' m (theEnd g sp st rows' m high) = ratD g sp st rows m gs := by
  have i := (theEnd_ok k' high).1
  have e : ∀ q, q < rows.length * m → yat (theEnd g sp st rows' m high) m q = yat gs m q := fun q hq => by
    have h1 := i.2 q (by rw [hl]; exact hq)
    rw [hs q hq] at h1
    omega
  have n1 : numG g sp st rows' m (theEnd g sp st rows' m high) = numG g sp st rows m gs := by
    unfold numG
    rw [hl]
    refine psum_congr fun q hq => ?_
    unfold nuAt
    rw [e q hq]
  have d1 : denG g st rows' m (theEnd g sp st rows' m high) = denG g st rows m gs := by
    unfold denG
    rw [hl]
    refine psum_congr fun q hq => ?_
    unfold deAt
    rw [e q hq]
  unfold ratN ratD gcdG
  rw [n1, d1]
  exact ⟨rfl, rfl⟩
end

/-- The hull of one true hull alone. -/
def oneRow (l : List Int) : List (Int × Int) := l.map fun y => (y, y)
def oneRows (gs : List Int) (n m : Nat) : List (List (Int × Int)) := (List.range n).map fun i => oneRow (gRow gs m i)
theorem oneRows_at {gs : List Int} {n m : Nat} (hl : gs.length = 60) (hn : n ≤ 10) (hm : m ≤ 6) : (oneRows gs n m).length = n ∧ (∀ i (hi : i < (oneRows gs n m).length), (oneRows gs n m)[i] = oneRow (gRow gs m i)) ∧
    (∀ i (hi : i < (oneRows gs n m).length), (oneRows gs n m)[i].length = m) ∧ ∀ q, q < n * m → rAt (oneRows gs n m) m q = (yat gs m q, yat gs m q) := by
  have e1 : (oneRows gs n m).length = n := by unfold oneRows; simp
  have e2 : ∀ i (hi : i < (oneRows gs n m).length), (oneRows gs n m)[i] = oneRow (gRow gs m i) := fun i hi => (List.getElem_map _).trans (by rw [List.getElem_range])
  have e3 : ∀ i (hi : i < (oneRows gs n m).length), (oneRows gs n m)[i].length = m := fun i hi => by
    rw [e2 i hi]; unfold oneRow; rw [List.length_map]; exact gRow_length hl (by omega) hm
  refine ⟨e1, e2, e3, fun q hq => ?_⟩
  obtain ⟨i1, i2, i3⟩ := place_idx hm hn hq
  have h1 : q / m < (oneRows gs n m).length := by omega
  have h2 := e3 _ h1
  unfold rAt
  rw [List.getD_eq_getElem?_getD (l := oneRows gs n m), List.getElem?_eq_getElem h1, Option.getD_some, e2 _ h1]
  unfold oneRow gRow yat
  have h4 : q / m * 6 + q % m < gs.length := by omega
  rw [List.getD_eq_getElem?_getD, List.getElem?_map, List.getElem?_take_of_lt i2, List.getElem?_drop, List.getElem?_eq_getElem h4, List.getD_eq_getElem?_getD, List.getElem?_eq_getElem h4]
  rfl
/-- The hull with one offset that is narrower. -/
def narrow (rows : List (List (Int × Int))) (i k : Nat) (r : Int × Int) : List (List (Int × Int)) := rows.set i ((rows.getD i []).set k r)
theorem narrow_at {rows : List (List (Int × Int))} {m i k : Nat} (hall : ∀ i (hi : i < rows.length), rows[i].length = m) (hi : i < rows.length) (hk : k < m) (r : Int × Int) : (narrow rows i k r).length = rows.length ∧ (∀ j (hj : j < (narrow rows i k r).length), (narrow rows i k r)[j].length = m) ∧
    ∀ q, q < rows.length * m → rAt (narrow rows i k r) m q = if q = i * m + k then r else rAt rows m q := by
  have e1 : (narrow rows i k r).length = rows.length := by unfold narrow; simp
  have eg : rows.getD i [] = rows[i] := by simp [List.getD, hi]
  refine ⟨e1, fun j hj => ?_, fun q hq => ?_⟩
  · show ((rows.set i ((rows.getD i []).set k r))[j]'(by simpa [narrow] using hj)).length = m
    rw [List.getElem_set]
    split
    · rw [List.length_set, eg]; exact hall i hi
    · exact hall j (by omega)
  · have hm : 0 < m := by omega
    have h1 := (Nat.div_lt_iff_lt_mul hm).2 hq
    have h2 := Nat.mod_lt q hm
    have h3 := Nat.div_add_mod q m
    unfold rAt narrow
    rw [List.getD_eq_getElem?_getD (l := rows.set _ _), List.getElem?_set]
    by_cases hji : i = q / m
    · subst hji
      rw [if_pos rfl, if_pos hi, Option.getD_some, eg]
      rw [List.getD_eq_getElem?_getD, List.getElem?_set]
      by_cases hkk : k = q % m
      · have hq2 : q = q / m * m + k := by rw [Nat.mul_comm, hkk]; omega
        rw [if_pos hkk, if_pos (by rw [hall _ hi]; exact hk), if_pos hq2]; rfl
      · have hq2 : ¬ q = q / m * m + k := fun h => hkk (by rw [Nat.mul_comm] at h; omega)
        rw [if_neg hkk, if_neg hq2]
        simp [List.getD]
    · have hq2 : ¬ q = i * m + k := fun h => hji (by
        rw [h, Nat.mul_comm, Nat.mul_add_div hm, Nat.div_eq_of_lt hk]; omega)
      rw [if_neg hji, if_neg hq2, List.getD_eq_getElem?_getD (l := rows)]
end Go.Proofs.Ytghondkiondeaac
end

/- EvN4 -/
section
/-
  LAYER 2: the statement BoxFloats, walked.
-/
namespace Go.Proofs.Ytghondkiondeaac
open Go.Ev
set_option maxRecDepth 100000
set_option linter.unusedSimpArgs false
set_option linter.unusedVariables false
set_option maxHeartbeats 4000000

/-- A true hull, in any heap. -/
theorem trueXJ (sp st : Int) (a b : AV) (rvs : List AV) (rows : List (List (Int × Int))) (bys : List Int) (he : hullErr sp st rows = 0) (hby : ∀ n ∈ bys, 0 ≤ n ∧ n ≤ 255) (hbl : bys.length ≤ 80) (h : H) (x : HullR h a rvs rows) (sb : Sl h b 1 bys.length (bys.map uu)) (J : List AO) :
    ∃ (M : List AO) (v : AV) (yvs : List AV), (om Try.prog KK).call (.fn 14 [.agg [ii sp, ii st, a], b]) (X h J h.clock) = .ok v (X h (J ++ M) h.clock) ∧
      YsR (X h (J ++ M) h.clock) v yvs (listOf (tG bys rows (m0 rows)) rows.length (m0 rows)) := by
  have wf := x.wf
  obtain ⟨v, h', e, M, yvs, rfl, hy⟩ := trueC sp st a b rvs rows bys he hby hbl _ (x.up J h.clock (by omega)) (sb.up wf J h.clock)
  rw [X_X, X_w] at e hy
  exact ⟨M, v, yvs, e, hy⟩

end Go.Proofs.Ytghondkiondeaac
end

/- EvL20 -/
section
/-
  SEVERAL SLICES THAT GROW SIDE BY SIDE.
-/
namespace Go.Ev
section
variable {P : Program}
/-- All that the slice v does not lie in stays. -/
def KeepsG (h : H) (B : Nat) (v : AV) (G G' : List AO) : Prop := ∀ (j : Nat) (o : AO), G[j]? = some o → (∀ a b c, v ≠ .sl (nx h (B + j)) 0 a b c) → G'[j]? = some o
theorem Grow.keep {h : H} {L0 G G' : List AO} {u v : AV} {sz e len : Nat} {cs : List AV} (g : Grow h L0 G u sz e len cs) (K : KeepsG h L0.length v G G') (hd : ∀ j a b c, u = .sl (nx h (L0.length + j)) 0 len none sz → v ≠ .sl (nx h (L0.length + j)) 0 a b c) : Grow h L0 G' u sz e len cs := by
  obtain ⟨hl, ⟨rfl, rfl⟩ | ⟨idx, rfl, hg⟩⟩ := g
  · exact ⟨hl, .inl ⟨rfl, rfl⟩⟩
  · exact ⟨hl, .inr ⟨idx, rfl, K idx _ hg fun a b c => hd idx a b c rfl⟩⟩
/-- A slice does not lie in a block of another kind. -/
theorem Grow.apart {h : H} {L0 G : List AO} {v : AV} {sz e len : Nat} {cs : List AV} (g : Grow h L0 G v sz e len cs) {j : Nat} {m' : M AV} {e' : TypeId} (hj : G[j]? = some (AO.cells m' e')) (he : e' ≠ e) : ∀ a b c, v ≠ .sl (nx h (L0.length + j)) 0 a b c := by
  intro a b c hv
  obtain ⟨hl, ⟨rfl, rfl⟩ | ⟨idx, rfl, hg⟩⟩ := g
  · cases hv
  · injection hv with h1
    have h2 := nxP_inj h1
    have : idx = j := by omega
    subst this
    rw [hj] at hg
    cases hg
    exact he rfl
theorem Grow.appendB {h : H} (wf : Wf h) {L0 G : List AO} {v : AV} {sz e len bytes : Nat} {z : AV} {cs : List AV} (g : Grow h L0 G v sz e len cs) {t : TypeId} (hu : P.underlying t = some (.slice e)) (hz : sizeE P e = some sz) (E : El P e sz bytes z)
    {n : Nat} {new : List AV} {x : AV} (hn : len + n ≤ 10000000) (hn0 : n ≠ 0) (hb : bytes ≤ 100000) (hc : new.length = n * sz) (ho : allOne new = true) (hs : ∀ w, srcCells (X h (L0 ++ G) w) sz x = some (n, new)) :
    ∃ G', Grow h L0 G' (.sl (nx h (L0.length + G.length)) 0 (len + n) none sz) sz e (len + n) (cs ++ new) ∧ KeepsG h L0.length v G G' ∧ (∀ w, h.clock ≤ w → ∃ w', h.clock ≤ w' ∧ w' ≤ w ∧ appendE P t v x (X h (L0 ++ G) w) = .ok (.sl (nx h (L0.length + G.length)) 0 (len + n) none sz) (X h (L0 ++ G') w')) := by
  obtain ⟨hl, ⟨rfl, rfl⟩ | ⟨idx, rfl, hg⟩⟩ := g
  · have hcs : cs = [] := List.length_eq_zero_iff.1 (by simpa using hl)
    subst hcs
    refine ⟨G ++ [.cells (mkCells new) e], ⟨by simpa using hc, .inr ⟨G.length, rfl, by simp⟩⟩, fun j o hj _ => by rw [List.getElem?_append_left (List.getElem?_eq_some_iff.1 hj).1]; exact hj, fun w hw => ⟨w, hw, Nat.le_refl w, ?_⟩⟩
    have := append_nils (P := P) wf hu hz E (x := x) (l := L0 ++ G) (w := w) (by omega) hn0 hb (hs w) hc
    rw [List.length_append, List.append_assoc] at this
    rw [Nat.zero_add]
    exact this
  · have hi := (List.getElem?_eq_some_iff.1 hg).1
    refine ⟨G.set idx .dead ++ [.cells (mkCells (cs ++ new)) e], ⟨by rw [List.length_append, hl, hc, Nat.add_mul], .inr ⟨G.length, rfl, ?_⟩⟩, fun j o hj hd => ?_, fun w hw => ⟨min (h.clock + (L0.length + idx)) w, by omega, Nat.min_le_right _ _, ?_⟩⟩
    rotate_right 1
    · have := append_more (P := P) wf hu hz E (x := x) (k := L0.length + idx) (l := L0 ++ G) (w := w) hn hn0 hb (by rw [app_len]; exact hg) hl (hs w) hc ho
      rw [List.length_append, set_app_len, List.append_assoc] at this
      exact this
    · rw [List.getElem?_append_right (by simp)]; simp
    · have hne : idx ≠ j := fun e1 => hd len none sz (by rw [e1])
      rw [List.getElem?_append_left (by rw [List.length_set]; exact (List.getElem?_eq_some_iff.1 hj).1), List.getElem?_set_ne hne]
      exact hj
/-- A new object is appended, in whatever order. -/
theorem Grow.appendJ {h : H} (wf : Wf h) {L0 G : List AO} {v : AV} {sz e len bytes : Nat} {z : AV} {cs : List AV} (g : Grow h L0 G v sz e len cs) {t : TypeId} (hu : P.underlying t = some (.slice e)) (hz : sizeE P e = some sz) (E : El P e sz bytes z)
    (R : List AO) {n : Nat} {new : List AV} (hn : len + n ≤ 10000000) (hn0 : n ≠ 0) (hb : bytes ≤ 100000) (hc : new.length = n * sz) (ho : allOne new = true) :
    ∃ (j' : Nat) (G' : List AO), Grow h L0 G' (.sl (nx h (L0.length + j')) 0 (len + n) none sz) sz e (len + n) (cs ++ new) ∧ j' = G.length + R.length + 1 ∧ KeepsG h L0.length v (G ++ R) G' ∧
      (∀ tm op w, h.clock ≤ w → unmark .full tm op (X h (L0 ++ (G ++ (R ++ [.cells (mkCells new) e]))) h.clock) (appendE P t v (.sl (nx h (L0.length + (G.length + R.length))) 0 n (some n) sz) (X h (L0 ++ (G ++ (R ++ [.cells (mkCells new) e]))) w)) = .ok (.sl (nx h (L0.length + j')) 0 (len + n) none sz) (X h (L0 ++ G') h.clock)) ∧
      (appendE P t v (.sl (nx h (L0.length + (G.length + R.length))) 0 n (some n) sz) (X h (L0 ++ (G ++ (R ++ [.cells (mkCells new) e]))) h.clock) = .ok (.sl (nx h (L0.length + j')) 0 (len + n) none sz) (X h (L0 ++ G') h.clock)) := by
  obtain ⟨G', hg', hk, happ⟩ := (g.more (R ++ [.cells (mkCells new) e])).appendB (P := P) wf hu hz E (x := .sl (nx h (L0.length + (G.length + R.length))) 0 n (some n) sz) hn hn0 hb hc ho (fun w => src_new (e := e) wf (by
    rw [show L0 ++ (G ++ (R ++ [AO.cells (mkCells new) e])) = (L0 ++ (G ++ R)) ++ [AO.cells (mkCells new) e] by simp, show L0.length + (G.length + R.length) = (L0 ++ (G ++ R)).length from by simp]; simp) hc)
  have e1 : (G ++ (R ++ [AO.cells (mkCells new) e])).length = G.length + R.length + 1 := by simp; omega
  rw [e1] at hg' happ
  refine ⟨_, G', hg', rfl, fun j o hj hd => hk j o ?_ hd, fun tm op w hw => ?_, ?_⟩
  · rw [← List.append_assoc, List.getElem?_append_left (List.getElem?_eq_some_iff.1 hj).1]; exact hj
  · obtain ⟨w', h1, h2, h3⟩ := happ w hw
    rw [h3, unmark_full, Nat.min_eq_left h1]
  · obtain ⟨w', h1, h2, h3⟩ := happ h.clock (Nat.le_refl _)
    rw [h3, show w' = h.clock from by omega]
/-- What is appended to an empty slice of the call's own. -/
theorem append_zero {h0 : H} (wf : Wf h0) {t e size bytes k : Nat} {z x : AV} (hu : P.underlying t = some (.slice e)) (hz : sizeE P e = some size) (E : El P e size bytes z) {n : Nat} {new old : List AV} {l : List AO} {w e' : Nat} (hn : n ≤ 10000000) (hn0 : n ≠ 0) (hb : bytes ≤ 100000)
    (hk : l[k]? = some (.cells (mkCells old) e')) (hs : srcCells (X h0 l w) size x = some (n, new)) (hc : new.length = n * size) : appendE P t (.sl (nx h0 k) 0 0 (some 0) size) x (X h0 l w) = .ok (.sl (nx h0 l.length) 0 n none size) (X h0 (l ++ [.cells (mkCells new) e]) w) := by
  unfold appendE
  rw [hu]; dsimp only; rw [hz]; dsimp only; rw [hs]; dsimp only
  rw [show Nat.beq n 0 = false from by cases hb : Nat.beq n 0 with | false => rfl | true => exact absurd (Nat.eq_of_beq_eq_true hb) hn0]
  show appendSome P e size n new (.sl (nx h0 k) 0 0 (some 0) size) (X h0 l w) = _
  unfold appendSome
  dsimp only
  rw [show Nat.beq size size = true from Nat.beq_refl size]
  dsimp only [cond]
  rw [show Nat.ble (Nat.add 0 n) 0 = false from by
    cases hb : Nat.ble (Nat.add 0 n) 0 with
    | false => rfl
    | true => exact absurd (Nat.le_of_ble_eq_true hb) (by show ¬ 0 + n ≤ 0; omega)]
  dsimp only [cond]
  rw [show readCells (X h0 l w) (nx h0 k) 0 (0 * size) = some [] from by
    unfold readCells
    rw [getObj_new wf, hk]
    show readM _ (0 * size) 0 = some []
    rw [Nat.zero_mul]; rfl]
  dsimp only
  rw [forceNat_eq, List.nil_append, show Nat.add 0 n = n from Nat.zero_add n]
  exact growE_X wf E hn hb hc
end
end Go.Ev
end

/- EvQ6 -/
section
/-
  LAYER 2: rows that are made side by side.
-/
namespace Go.Proofs.Ytghondkiondeaac
open Go.Ev
set_option maxRecDepth 100000
set_option linter.unusedSimpArgs false
set_option linter.unusedVariables false
set_option maxHeartbeats 4000000

/-- Rows of a slice that grows. -/
def Rws (h : H) (B : Nat) (G : List AO) (cells : List AV) (R : Nat → List (Int × Int)) (r : Nat → Nat) (m i : Nat) : Prop :=
  ∀ j, j < i → cells[j]? = some (.sl (nx h (B + r j)) 0 m none 2) ∧ G[r j]? = some (AO.cells (mkCells (pairCells (R j))) 55)
theorem Rws.snoc {h : H} {B : Nat} {G G' : List AO} {cells : List AV} {R : Nat → List (Int × Int)} {r : Nat → Nat} {m i idx : Nat} (hR : Rws h B G cells R r m i) (hc : cells.length = i)
    (T : ∀ (j : Nat) m', G[j]? = some (AO.cells m' 55) → G'[j]? = some (AO.cells m' 55)) (hn : G'[idx]? = some (AO.cells (mkCells (pairCells (R i))) 55)) :
    Rws h B G' (cells ++ [.sl (nx h (B + idx)) 0 m none 2]) R (fun j => if j = i then idx else r j) m (i + 1) := by
  intro j hj
  by_cases hji : j = i
  · subst hji
    dsimp only
    refine ⟨?_, ?_⟩
    · rw [List.getElem?_append_right (by omega), hc, Nat.sub_self, if_pos rfl]; rfl
    · rw [if_pos rfl]; exact hn
  · obtain ⟨h1, h2⟩ := hR j (by omega)
    dsimp only
    refine ⟨?_, ?_⟩
    · rw [List.getElem?_append_left (by omega), if_neg hji]; exact h1
    · rw [if_neg hji]; exact T _ _ h2
theorem pairCells_snoc (l : List (Int × Int)) (r : Int × Int) : pairCells (l ++ [r]) = pairCells l ++ [ii r.1, ii r.2] := by unfold pairCells; simp
theorem oneRow_take {l : List Int} {k : Nat} (hk : k < l.length) : oneRow (l.take (k + 1)) = oneRow (l.take k) ++ [(l[k], l[k])] := by
  unfold oneRow
  rw [take_one hk, List.map_append]; rfl
/-- What is true of the loop over the rows. -/
structure NarS (h : H) (B : Nat) (rows : List (List (Int × Int))) (gs : List Int) (m i : Nat) (G : List AO) (ovx ov1 : AV) (cx c1 : List AV) (rx r1 : Nat → Nat) : Prop where
  gx : ∀ L0 : List AO, L0.length = B → Grow h L0 G ovx 1 52 i cx
  g1 : ∀ L0 : List AO, L0.length = B → Grow h L0 G ov1 1 52 i c1
  ap : ∀ j a b c, ovx = .sl (nx h (B + j)) 0 a b c → ∀ a b c, ov1 ≠ .sl (nx h (B + j)) 0 a b c
  wx : Rws h B G cx (fun j => rows.getD j []) rx m i
  w1 : Rws h B G c1 (fun j => oneRow (gRow gs m j)) r1 m i
  o1 : ∀ j, j < i → r1 j < rx j
  o2 : ∀ j j', j < j' → j' < i → rx j < r1 j'
theorem grow_cast {h : H} {L0 L1 G : List AO} {v : AV} {sz e len : Nat} {cs : List AV} (g : Grow h L0 G v sz e len cs) (hl : L0.length = L1.length) : Grow h L1 G v sz e len cs := by
  unfold Grow at *
  rw [← hl]; exact g
/-- One round more. -/
theorem NarS.step {h : H} {B : Nat} {rows : List (List (Int × Int))} {gs : List Int} {m i : Nat} {G G2 G' G'' : List AO} {ovx ov1 : AV} {cx c1 : List AV} {rx r1 : Nat → Nat} {L : List AO} {z : AO} (hL : L.length = B) (s : NarS h B rows gs m i G ovx ov1 cx c1 rx r1)
    {i1 j1 j2 : Nat} (e2 : G2[i1]? = some (AO.cells (mkCells (pairCells (oneRow (gRow gs m i)))) 55))
    (k1 : KeepsG h B ov1 (G ++ G2) G') (ej1 : j1 = (G ++ G2).length + 1) (n1 : Grow h L G' (.sl (nx h (B + j1)) 0 (i + 1) none 1) 1 52 (i + 1) (c1 ++ [.sl (nx h (B + (G.length + i1))) 0 m none 2]))
    (k2 : KeepsG h B ovx (G' ++ [z, AO.cells (mkCells (pairCells (rows.getD i []))) 55]) G'') (ej2 : j2 = G'.length + 3) (n2 : Grow h L G'' (.sl (nx h (B + j2)) 0 (i + 1) none 1) 1 52 (i + 1) (cx ++ [.sl (nx h (B + (G'.length + 1))) 0 m none 2])) :
    ∃ rx' r1', NarS h B rows gs m (i + 1) G'' (.sl (nx h (B + j2)) 0 (i + 1) none 1) (.sl (nx h (B + j1)) 0 (i + 1) none 1) (cx ++ [.sl (nx h (B + (G'.length + 1))) 0 m none 2]) (c1 ++ [.sl (nx h (B + (G.length + i1))) 0 m none 2]) rx' r1' := by
  subst hL
  have gx := s.gx L rfl
  have g1 := s.g1 L rfl
  have lt_of : ∀ {α : Type} {l : List α} {j : Nat} {o : α}, l[j]? = some o → j < l.length := fun h => (List.getElem?_eq_some_iff.1 h).1
  -- the other slice stays
  have gx' : Grow h L G' ovx 1 52 i cx := by
    refine (gx.more G2).keep k1 fun j a b c hv => s.ap j _ _ _ hv a b c
  have ix : ∀ j a b c, ovx = .sl (nx h (L.length + j)) 0 a b c → j < G.length := fun j a b c hv => by
    obtain ⟨_, ⟨_, hv2⟩ | ⟨idx, hv2, hg⟩⟩ := gx
    · rw [hv2] at hv; cases hv
    · rw [hv2] at hv
      injection hv with h1
      have h2 := nxP_inj h1
      have := lt_of hg
      omega
  have hj1 : j1 < G'.length := by
    obtain ⟨_, ⟨h0, _⟩ | ⟨idx, hv2, hg⟩⟩ := n1
    · omega
    · injection hv2 with h1
      have h2 := nxP_inj h1
      have := lt_of hg
      omega
  have n1' : Grow h L G'' (.sl (nx h (L.length + j1)) 0 (i + 1) none 1) 1 52 (i + 1) (c1 ++ [.sl (nx h (L.length + (G.length + i1))) 0 m none 2]) := by
    refine (n1.more _).keep k2 fun j a b c hv hx => ?_
    injection hv with h1
    have h2 := nxP_inj h1
    have := ix _ _ _ _ hx
    simp only [List.length_append] at ej1
    omega
  -- the rows stay
  have t1 : ∀ (j : Nat) m', (G ++ G2)[j]? = some (AO.cells m' 55) → G'[j]? = some (AO.cells m' 55) := fun j m' hj => k1 j _ hj ((g1.more G2).apart hj (by decide))
  have t2 : ∀ (j : Nat) m', (G' ++ [z, AO.cells (mkCells (pairCells (rows.getD i []))) 55])[j]? = some (AO.cells m' 55) → G''[j]? = some (AO.cells m' 55) := fun j m' hj => k2 j _ hj ((gx'.more _).apart hj (by decide))
  have left : ∀ {α : Type} {l l' : List α} {j : Nat} {o : α}, l[j]? = some o → (l ++ l')[j]? = some o := fun h => by rw [List.getElem?_append_left (lt_of h)]; exact h
  have T : ∀ (j : Nat) m', G[j]? = some (AO.cells m' 55) → G''[j]? = some (AO.cells m' 55) := fun j m' hj => t2 j m' (left (t1 j m' (left hj)))
  have b1 : (G ++ G2)[G.length + i1]? = some (AO.cells (mkCells (pairCells (oneRow (gRow gs m i)))) 55) := by rw [app_len]; exact e2
  have b2 := t1 _ _ b1
  have b3 := t2 _ _ (left b2)
  have b4 : G''[G'.length + 1]? = some (AO.cells (mkCells (pairCells (rows.getD i []))) 55) := t2 _ _ (by rw [app_len]; rfl)
  have lx : cx.length = i := by have := gx.1; omega
  have l1 : c1.length = i := by have := g1.1; omega
  have u := lt_of b2
  refine ⟨_, _, fun L0 hL0 => grow_cast n2 hL0.symm, fun L0 hL0 => grow_cast n1' hL0.symm, fun j a b c hv a' b' c' hv' => ?_, s.wx.snoc lx T b4, s.w1.snoc l1 T b3, fun j hj => ?_, fun j j' hj hj' => ?_⟩
  · injection hv with h1
    injection hv' with h3
    have h2 := nxP_inj h1
    have h4 := nxP_inj h3
    omega
  · by_cases hji : j = i
    · subst hji
      rw [if_pos rfl, if_pos rfl]; omega
    · rw [if_neg hji, if_neg hji]; exact s.o1 j (by omega)
  · by_cases hji : j' = i
    · subst hji
      rw [if_neg (by omega), if_pos rfl]
      have := lt_of (s.wx j hj).2
      omega
    · rw [if_neg (by omega), if_neg hji]; exact s.o2 j j' hj (by omega)

theorem index_sl {t m id off len cap esz i : _} (hk : idxKind Try.prog t = some (none, m)) (hi : i < len) : indexAddrE Try.prog t (.sl id off len cap esz) (.int .i64 ((i : Nat) : Int)) = some (.ptr id (off + i * m)) := by
  rw [indexAddrE_def, toNatE_lit]; dsimp only; rw [hk]; dsimp only; exact indexAt_sl hi
theorem pairCells_set {l : List (Int × Int)} : ∀ {k : Nat} (r : Int × Int), k < l.length → splice (pairCells l) (k * 2) [ii r.1, ii r.2] = pairCells (l.set k r) := by
  induction l with
  | nil => intro k r hk; exact absurd hk (Nat.not_lt_zero _)
  | cons p l ih =>
    intro k r hk
    cases k with
    | zero => rfl
    | succ k =>
      have := ih (k := k) r (by simpa using hk)
      unfold splice at *
      show _ = ii p.1 :: ii p.2 :: pairCells (l.set k r)
      rw [← this, show (k + 1) * 2 = k * 2 + 2 by omega]
      rfl
theorem grow_set {h : H} {L0 G : List AO} {v : AV} {sz e len : Nat} {cs : List AV} (g : Grow h L0 G v sz e len cs) {j : Nat} {m' : M AV} {e' : TypeId} (hj : G[j]? = some (AO.cells m' e')) (he : e' ≠ e) (o : AO) : Grow h L0 (G.set j o) v sz e len cs := by
  obtain ⟨hl, ⟨rfl, rfl⟩ | ⟨idx, rfl, hg⟩⟩ := g
  · exact ⟨hl, .inl ⟨rfl, rfl⟩⟩
  · refine ⟨hl, .inr ⟨idx, rfl, ?_⟩⟩
    have hne : j ≠ idx := fun e1 => by
      subst e1
      rw [hj] at hg
      cases hg
      exact he rfl
    rw [List.getElem?_set_ne hne]; exact hg
/-- A hull whose rows the call has made. -/
theorem hull_made {h : H} (wf : Wf h) {L G : List AO} {v : AV} {cells : List AV} {rows : List (List (Int × Int))} {R : Nat → List (Int × Int)} {r : Nat → Nat} {m : Nat} (g : Grow h L G v 1 52 rows.length cells) (w : Rws h L.length G cells R r m rows.length) (hR : ∀ j (hj : j < rows.length), rows[j] = R j ∧ (R j).length = m) :
    HullR (X h (L ++ G) h.clock) v cells rows := by
  refine ⟨wf.X (by omega), g.sl wf _, fun j hj => ?_⟩
  obtain ⟨h1, h2⟩ := w j hj
  obtain ⟨h3, h4⟩ := hR j hj
  refine ⟨_, h1, .inl ?_⟩
  rw [h3, h4]
  exact Sl.new wf (by rw [pairCells_length, h4]) (by rw [app_len]; exact h2)

theorem write_pair {h : H} (wf : Wf h) {l : List AO} {w r k : Nat} {row : List (Int × Int)} (hr : l[r]? = some (AO.cells (mkCells (pairCells row)) 55)) (hk : k < row.length) (p : Int × Int) :
    writeCells (nx h r) (k * 2) [ii p.1, ii p.2] (X h l w) = some (X h (l.set r (.cells (mkCells (pairCells (row.set k p))) 55)) (min (h.clock + r) w)) := by
  have h1 := pairCells_length row
  have := writeCells_new (h0 := h) (l := l) (w := w) (k := r) (off := k * 2) (vs := [ii p.1, ii p.2]) (cs := pairCells row) (e := 55) wf hr (by rw [h1]; simp only [List.length_cons, List.length_nil]; omega) rfl
  rw [pairCells_set p hk] at this
  exact this
theorem Rws.put {h : H} {B : Nat} {G : List AO} {cells : List AV} {R : Nat → List (Int × Int)} {r : Nat → Nat} {m n i : Nat} (w : Rws h B G cells R r m n) (hi : i < n) (hj : ∀ j, j < n → j ≠ i → r j ≠ r i) (row : List (Int × Int)) :
    Rws h B (G.set (r i) (.cells (mkCells (pairCells row)) 55)) cells (fun j => if j = i then row else R j) r m n := by
  intro j hjn
  obtain ⟨h1, h2⟩ := w j hjn
  refine ⟨h1, ?_⟩
  dsimp only
  by_cases hji : j = i
  · subst hji
    rw [if_pos rfl, List.getElem?_set_self (List.getElem?_eq_some_iff.1 h2).1]
  · rw [if_neg hji, List.getElem?_set_ne (fun e => hj j hjn hji e.symm)]
    exact h2
theorem Rws.other {h : H} {B : Nat} {G : List AO} {cells : List AV} {R : Nat → List (Int × Int)} {r : Nat → Nat} {m n idx : Nat} (w : Rws h B G cells R r m n) (hj : ∀ j, j < n → r j ≠ idx) (o : AO) : Rws h B (G.set idx o) cells R r m n := by
  intro j hjn
  obtain ⟨h1, h2⟩ := w j hjn
  exact ⟨h1, by rw [List.getElem?_set_ne (fun e => hj j hjn e.symm)]; exact h2⟩
theorem gRow_yat {gs : List Int} {m i k : Nat} (hl : gs.length = 60) (hi : i < 10) (hm : m ≤ 6) (hk : k < m) (hk' : k < (gRow gs m i).length) : (gRow gs m i)[k] = yat gs m (i * m + k) := by
  have e1 : (i * m + k) / m = i := by rw [Nat.mul_comm, Nat.mul_add_div (by omega), Nat.div_eq_of_lt hk]; omega
  have e2 : (i * m + k) % m = k := by rw [Nat.mul_comm, Nat.mul_add_mod]; exact Nat.mod_eq_of_lt hk
  have h4 : i * 6 + k < gs.length := by omega
  have : (gRow gs m i)[k]? = gs[i * 6 + k]? := by unfold gRow; rw [List.getElem?_take_of_lt hk, List.getElem?_drop]
  rw [List.getElem?_eq_getElem hk', List.getElem?_eq_getElem h4] at this
  unfold yat
  rw [e1, e2, List.getD_eq_getElem?_getD, List.getElem?_eq_getElem h4]
  exact Option.some.inj this
theorem tmod_nat {a : Int} {n : Nat} (ha : 0 ≤ a) (hn : 0 < n) : ∃ i : Nat, i < n ∧ a.tmod (n : Int) = (i : Int) := by
  have h1 := Int.emod_nonneg a (show (n : Int) ≠ 0 by omega)
  have h2 := Int.emod_lt_of_pos a (show (0 : Int) < n by omega)
  refine ⟨(a % (n : Int)).toNat, by omega, ?_⟩
  rw [Int.tmod_eq_emod_of_nonneg ha]; omega
end Go.Proofs.Ytghondkiondeaac
end

/- EvQ5 -/
section
/-
  LAYER 2: the statement BoxNarrower, walked.
-/
namespace Go.Proofs.Ytghondkiondeaac
open Go.Ev
set_option maxRecDepth 100000
set_option linter.unusedSimpArgs false
set_option linter.unusedVariables false
set_option maxHeartbeats 4000000

theorem tEvQ5 : type_of% (And.intro (And.intro (And.intro (And.intro (And.intro (@ia_2) (And.intro (@sz_2) (@ze_2))) (And.intro (And.intro (@ia_3) (@sz_3)) (And.intro (@ia_4) (@sz_4)))) (And.intro (And.intro (@ia_5) (And.intro (@sz_5) (@ia_22))) (And.intro (And.intro (@sz_22) (@ia_24)) (And.intro (@sz_24) (@ze_24))))) (And.intro (And.intro (And.intro (@ia_26) (And.intro (@sz_26) (@ze_26))) (And.intro (And.intro (@ia_34) (@sz_34)) (And.intro (@ia_39) (@sz_39)))) (And.intro (And.intro (And.intro (@ze_39) (@ia_51)) (And.intro (@sz_51) (@ia_52))) (And.intro (And.intro (@sz_52) (@ia_53)) (And.intro (@sz_53) (@ia_55)))))) (And.intro (And.intro (And.intro (And.intro (@sz_55) (And.intro (@ze_55) (@fo_24_0))) (And.intro (And.intro (@fo_24_1) (@fo_24_2)) (And.intro (@fo_26_0) (@fo_26_1)))) (And.intro (And.intro (And.intro (@fo_39_0) (@fo_39_1)) (And.intro (@fo_55_0) (@fo_55_1))) (And.intro (And.intro (@ik_22) (@ik_34)) (And.intro (@ik_51) (@ik_52))))) (And.intro (And.intro (And.intro (@ik_53) (And.intro (@ni_22) (@ni_52))) (And.intro (And.intro (@bs_39) (@bs_55)) (And.intro (@pb_9) (@pb_10)))) (And.intro (And.intro (And.intro (@pb_11) (@pb_13)) (And.intro (@pb_14) (@pb_17))) (And.intro (And.intro (@pb_18) (@pb_19)) (And.intro (@pb_20) (@pb_21))))))) := And.intro (And.intro (And.intro (And.intro (And.intro (@ia_2) (And.intro (@sz_2) (@ze_2))) (And.intro (And.intro (@ia_3) (@sz_3)) (And.intro (@ia_4) (@sz_4)))) (And.intro (And.intro (@ia_5) (And.intro (@sz_5) (@ia_22))) (And.intro (And.intro (@sz_22) (@ia_24)) (And.intro (@sz_24) (@ze_24))))) (And.intro (And.intro (And.intro (@ia_26) (And.intro (@sz_26) (@ze_26))) (And.intro (And.intro (@ia_34) (@sz_34)) (And.intro (@ia_39) (@sz_39)))) (And.intro (And.intro (And.intro (@ze_39) (@ia_51)) (And.intro (@sz_51) (@ia_52))) (And.intro (And.intro (@sz_52) (@ia_53)) (And.intro (@sz_53) (@ia_55)))))) (And.intro (And.intro (And.intro (And.intro (@sz_55) (And.intro (@ze_55) (@fo_24_0))) (And.intro (And.intro (@fo_24_1) (@fo_24_2)) (And.intro (@fo_26_0) (@fo_26_1)))) (And.intro (And.intro (And.intro (@fo_39_0) (@fo_39_1)) (And.intro (@fo_55_0) (@fo_55_1))) (And.intro (And.intro (@ik_22) (@ik_34)) (And.intro (@ik_51) (@ik_52))))) (And.intro (And.intro (And.intro (@ik_53) (And.intro (@ni_22) (@ni_52))) (And.intro (And.intro (@bs_39) (@bs_55)) (And.intro (@pb_9) (@pb_10)))) (And.intro (And.intro (And.intro (@pb_11) (@pb_13)) (And.intro (@pb_14) (@pb_17))) (And.intro (And.intro (@pb_18) (@pb_19)) (And.intro (@pb_20) (@pb_21))))))
theorem lawNarrower (sp st wv a0 a1 : Int) (hwv : 0 ≤ wv ∧ wv ≤ 255) (ha0 : 0 ≤ a0 ∧ a0 ≤ 255) (ha1 : 0 ≤ a1 ∧ a1 ≤ 255) (a b : AV) (rvs : List AV) (rows : List (List (Int × Int))) (bys : List Int) (hby : ∀ n ∈ bys, 0 ≤ n ∧ n ≤ 255) (h : H) (x : HullR h a rvs rows) (hcap : ∀ (i : Nat) v, rvs[i]? = some v → Cape 2 v) (sb : Sl h b 1 bys.length (bys.map uu)) :
    (om Try.prog KK).call (.fn 6 [.agg [ii sp, ii st, a], .int .u8 wv, .agg [uu a0, uu a1], b]) h = .ok (.bool true) h := by
  have wf := x.wf
  have hfi : ∀ l w, w ≤ h.clock + l.length → (om Try.prog KK).call (.fn 13 [.agg [ii sp, ii st, a]]) (X h l w) = .ok (.bool (!decide (Great rows []) && decide (hullErr sp st rows = 0))) (X h l w) := fun l w hw => fineC sp st a rvs rows _ (x.up l w hw)
  have hwk : ∀ l w, (om Try.prog KK).call (.fn 10 []) (X h l w) = .ok (.bool true) (X h l w) := fun l w => works _
  have hlenb : ∀ h', lenE Try.prog 32 b h' = some (ii (bys.length : Int)) := fun h' => sb.len un_32
  have huo : ∀ n, oneB (uu n) = true := fun n => rfl
  have huc : ∀ n, AV.cells (uu n) = [uu n] := fun n => rfl
  refine WV_to (WV_call (fn := Try.f6) Try.func6 rfl rfl rfl rfl rfl ?_)
  simp only [argF]
  cases hF : (!decide (Great rows []) && decide (hullErr sp st rows = 0)) with
  | false =>
    rw [hF] at hfi
    (repeat' (first
  | (with_reducible first | refine WC_seq ?_ | refine WC_skip ?_ | refine WC_label ?_ | refine WC_scope ?_ | refine WC_block ?_ | refine WC_ret ?_ | refine WC_exit ?_ | refine seqQ_norm ?_ | refine seqQ_ret ?_ | refine seqQ_exit ?_ | refine blkQ_norm ?_ | refine blkQ_ret ?_ | refine blkQ_here ?_ | refine gateK_yes ?_ | refine gateK_none ?_ | refine condK_tt ?_ | refine condK_ff ?_ | refine roundQ_exit ?_ | refine roundQ_ret ?_)
  | refine WC_region ?_ | refine blkQ_out rfl ?_ | refine WO_nil ?_ | refine WD_nil ?_
  | ((first | refine WD_gate rfl rfl rfl rfl rfl fun K_ hK_ => ?_ | refine WO_gate rfl rfl rfl rfl rfl fun K_ hK_ => ?_); simp only [upd_apply, asB_bool, asB_tup, ↓reduceIte, reduceCtorEq, Nat.reduceEqDiff, Bool.not_true, Bool.not_false]; refine hK_ _ ?_; clear hK_ K_)
  | refine gateK_no (by decide) ?_
  | ((try first | refine WO_op rfl rfl rfl ?_ | refine WO_op0 rfl rfl ?_ | refine WD_op rfl rfl rfl ?_ | refine WD_op0 rfl rfl ?_); (refine WV_gen fun Q_ hQ_ => ?_; simp (disch := first | omega | (simp only [List.length_cons, List.length_nil, List.length_append]; omega)) only [bb, bp, argF, ↓reduceIte, reduceCtorEq, Nat.reduceEqDiff, Nat.reduceLT, Nat.reduceLeDiff, Nat.reduceAdd, Nat.reduceMul, Nat.reduceSub, Nat.reduceBEq, Int.reduceToNat, cond_true, cond_false, eq_self, beq_self_eq_true, hfi, hwk, huo, huc, newPtr_X wf, newSlice_X wf, load1_X wf, loadAgg_X wf, store1_X wf, writeCells_X wf, makeFunc_def, tEvQ5, bsl_22, bsl_52, indexAddrE_def (P := Try.prog) (t := 51)]; first | (refine dec_split (Q := Q_) (fun hp_ => ?_) (fun hp_ => ?_) <;> first | (exfalso; omega) | (refine hQ_ _ _ ?_; clear hQ_ Q_)) | (refine dec_splitn (Q := Q_) (fun hp_ => ?_) (fun hp_ => ?_) <;> first | (exfalso; omega) | (refine hQ_ _ _ ?_; clear hQ_ Q_)) | (refine hQ_ _ _ ?_; clear hQ_ Q_)))
  | (refine WC_cond fun K_ hK_ => ?_; simp (disch := omega) only [evT_tmp, upd_apply, WB_some, ↓reduceIte, reduceCtorEq, Nat.reduceEqDiff, Nat.reduceLT]; refine hK_ _ ?_; clear hK_ K_)))
    (refine endQ_ret _ _ rfl (ret1 (by decide)) ?_; simp only [upd_apply, ↓reduceIte, reduceCtorEq, Nat.reduceEqDiff]; refine WV_flat rfl (by omega) ?_)
    exact ⟨rfl, rfl⟩
  | true =>
    rw [hF] at hfi
    rw [Bool.and_eq_true] at hF
    have he : hullErr sp st rows = 0 := of_decide_eq_true hF.2
    by_cases hbl : bys.length ≤ 80
    · obtain ⟨hn, hm, hall, hsp, hst, hof⟩ := hullErr_ok he
      have hwr : IntKind.i64.wrap wv = wv := wrap_in _ (by omega) (by omega)
      obtain ⟨what, hwm⟩ : ∃ what, what = wv.tmod 3 := ⟨_, rfl⟩
      have hwh : 0 ≤ what ∧ what ≤ 2 := by
        rw [hwm, Int.tmod_eq_emod_of_nonneg hwv.1]; omega
      have ho := hok he (gOf_or what)
      have iy : InG rows (m0 rows) (tG bys rows (m0 rows)) := tG_in ho
      obtain ⟨hac, hao⟩ := Sl.one x.sl
      have xat := x.at (m := m0 rows) (by omega) (fun i hi => hall _ (List.getElem_mem hi))
      have hlen : ∀ h', lenE Try.prog 22 a h' = some (ii (rows.length : Int)) := fun h' => x.sl.len un_22
      obtain ⟨M, p, ys, hG, hY⟩ := trueXJ sp st a b rvs rows bys he hby hbl h x sb [.cells (mkCells [ii sp, ii st, a]) 24, .cells (mkCells [uu a0, uu a1]) 51]
      simp only [List.cons_append, List.nil_append] at hG hY
      generalize hgs : tG bys rows (m0 rows) = gs at *
      generalize hmm : m0 rows = m at *
      (repeat' (first
  | (with_reducible first | refine WC_seq ?_ | refine WC_skip ?_ | refine WC_label ?_ | refine WC_scope ?_ | refine WC_block ?_ | refine WC_ret ?_ | refine WC_exit ?_ | refine seqQ_norm ?_ | refine seqQ_ret ?_ | refine seqQ_exit ?_ | refine blkQ_norm ?_ | refine blkQ_ret ?_ | refine blkQ_here ?_ | refine gateK_yes ?_ | refine gateK_none ?_ | refine condK_tt ?_ | refine condK_ff ?_ | refine roundQ_exit ?_ | refine roundQ_ret ?_)
  | refine WC_region ?_ | refine blkQ_out rfl ?_ | refine WO_nil ?_ | refine WD_nil ?_
  | ((first | refine WD_gate rfl rfl rfl rfl rfl fun K_ hK_ => ?_ | refine WO_gate rfl rfl rfl rfl rfl fun K_ hK_ => ?_); simp only [upd_apply, asB_bool, asB_tup, ↓reduceIte, reduceCtorEq, Nat.reduceEqDiff, Bool.not_true, Bool.not_false]; refine hK_ _ ?_; clear hK_ K_)
  | refine gateK_no (by decide) ?_
  | ((try first | refine WO_op rfl rfl rfl ?_ | refine WO_op0 rfl rfl ?_ | refine WD_op rfl rfl rfl ?_ | refine WD_op0 rfl rfl ?_); (refine WV_gen fun Q_ hQ_ => ?_; simp (disch := first | omega | (simp only [List.length_cons, List.length_nil, List.length_append]; omega)) only [bb, bp, argF, ↓reduceIte, reduceCtorEq, Nat.reduceEqDiff, Nat.reduceLT, Nat.reduceLeDiff, Nat.reduceAdd, Nat.reduceMul, Nat.reduceSub, Nat.reduceBEq, Int.reduceToNat, cond_true, cond_false, eq_self, beq_self_eq_true, hfi, hwk, huo, huc, hlenb, conv5, hwr, b_rem (show (3 : Int) ≠ 0 by decide), ← hwm, hG, newPtr_X wf, newSlice_X wf, load1_X wf, loadAgg_X wf, store1_X wf, writeCells_X wf, makeFunc_def, tEvQ5, bsl_22, bsl_52, indexAddrE_def (P := Try.prog) (t := 51)]; first | (refine dec_split (Q := Q_) (fun hp_ => ?_) (fun hp_ => ?_) <;> first | (exfalso; omega) | (refine hQ_ _ _ ?_; clear hQ_ Q_)) | (refine dec_splitn (Q := Q_) (fun hp_ => ?_) (fun hp_ => ?_) <;> first | (exfalso; omega) | (refine hQ_ _ _ ?_; clear hQ_ Q_)) | (refine hQ_ _ _ ?_; clear hQ_ Q_)))
  | (refine WC_cond fun K_ hK_ => ?_; simp (disch := omega) only [evT_tmp, upd_apply, WB_some, ↓reduceIte, reduceCtorEq, Nat.reduceEqDiff, Nat.reduceLT]; refine hK_ _ ?_; clear hK_ K_)))
      refine WC_drawnB [.no, .no, .no, .no, .soft [4], .full] (by kernel_rfl) ?_
      (repeat' (first
  | (with_reducible first | refine WC_seq ?_ | refine WC_skip ?_ | refine WC_label ?_ | refine WC_scope ?_ | refine WC_block ?_ | refine WC_ret ?_ | refine WC_exit ?_ | refine seqQ_norm ?_ | refine seqQ_ret ?_ | refine seqQ_exit ?_ | refine blkQ_norm ?_ | refine blkQ_ret ?_ | refine blkQ_here ?_ | refine gateK_yes ?_ | refine gateK_none ?_ | refine condK_tt ?_ | refine condK_ff ?_ | refine roundQ_exit ?_ | refine roundQ_ret ?_)
  | refine WC_region ?_ | refine blkQ_out rfl ?_ | refine WO_nil ?_ | refine WD_nil ?_
  | ((first | refine WD_gate rfl rfl rfl rfl rfl fun K_ hK_ => ?_ | refine WO_gate rfl rfl rfl rfl rfl fun K_ hK_ => ?_); simp only [upd_apply, asB_bool, asB_tup, ↓reduceIte, reduceCtorEq, Nat.reduceEqDiff, Bool.not_true, Bool.not_false]; refine hK_ _ ?_; clear hK_ K_)
  | refine gateK_no (by decide) ?_
  | ((try first | refine WO_op rfl rfl rfl ?_ | refine WO_op0 rfl rfl ?_ | refine WD_op rfl rfl rfl ?_ | refine WD_op0 rfl rfl ?_); (refine WV_gen fun Q_ hQ_ => ?_; simp (disch := first | omega | (simp only [List.length_cons, List.length_nil, List.length_append]; omega)) only [bb, bp, argF, ↓reduceIte, reduceCtorEq, Nat.reduceEqDiff, Nat.reduceLT, Nat.reduceLeDiff, Nat.reduceAdd, Nat.reduceMul, Nat.reduceSub, Nat.reduceBEq, Int.reduceToNat, cond_true, cond_false, eq_self, beq_self_eq_true, newPtr_X wf, newSlice_X wf, load1_X wf, loadAgg_X wf, store1_X wf, writeCells_X wf, makeFunc_def, tEvQ5, bsl_22, bsl_52, indexAddrE_def (P := Try.prog) (t := 51)]; first | (refine dec_split (Q := Q_) (fun hp_ => ?_) (fun hp_ => ?_) <;> first | (exfalso; omega) | (refine hQ_ _ _ ?_; clear hQ_ Q_)) | (refine dec_splitn (Q := Q_) (fun hp_ => ?_) (fun hp_ => ?_) <;> first | (exfalso; omega) | (refine hQ_ _ _ ?_; clear hQ_ Q_)) | (refine hQ_ _ _ ?_; clear hQ_ Q_)))
  | (refine WC_cond fun K_ hK_ => ?_; simp (disch := omega) only [evT_tmp, upd_apply, WB_some, ↓reduceIte, reduceCtorEq, Nat.reduceEqDiff, Nat.reduceLT]; refine hK_ _ ?_; clear hK_ K_)))
      refine WD_op0 rfl rfl (WV_soft (v := .tup []) (by
        rw [x_store, evT_tmp (by decide), on1_ok, evT_tmp (by decide), on1_ok]
        simp only [upd_apply, ↓reduceIte, reduceCtorEq, Nat.reduceEqDiff]
        rw [marked_X, storeE_whole (old := [ii 0, ii 0, .nils]) wf sz_24 (by decide) rfl rfl (by simp; rfl) (by rw [allOne_cons, allOne_cons, allOne_cons, hao]; rfl)]
        rfl) (barOk_store1 (by simp only [upd_apply, ↓reduceIte, reduceCtorEq, Nat.reduceEqDiff]; rfl) (by simp only [upd_apply, ↓reduceIte, reduceCtorEq, Nat.reduceEqDiff]; rfl) (nx_ne (by omega)) (by decide) (by decide)) ?_)
      simp only [List.set_cons_succ, List.set_cons_zero, set_app_len0]
      (repeat' (first
  | (with_reducible first | refine WC_seq ?_ | refine WC_skip ?_ | refine WC_label ?_ | refine WC_scope ?_ | refine WC_block ?_ | refine WC_ret ?_ | refine WC_exit ?_ | refine seqQ_norm ?_ | refine seqQ_ret ?_ | refine seqQ_exit ?_ | refine blkQ_norm ?_ | refine blkQ_ret ?_ | refine blkQ_here ?_ | refine gateK_yes ?_ | refine gateK_none ?_ | refine condK_tt ?_ | refine condK_ff ?_ | refine roundQ_exit ?_ | refine roundQ_ret ?_)
  | refine WC_region ?_ | refine blkQ_out rfl ?_ | refine WO_nil ?_ | refine WD_nil ?_
  | ((first | refine WD_gate rfl rfl rfl rfl rfl fun K_ hK_ => ?_ | refine WO_gate rfl rfl rfl rfl rfl fun K_ hK_ => ?_); simp only [upd_apply, asB_bool, asB_tup, ↓reduceIte, reduceCtorEq, Nat.reduceEqDiff, Bool.not_true, Bool.not_false]; refine hK_ _ ?_; clear hK_ K_)
  | refine gateK_no (by decide) ?_
  | ((try first | refine WO_op rfl rfl rfl ?_ | refine WO_op0 rfl rfl ?_ | refine WD_op rfl rfl rfl ?_ | refine WD_op0 rfl rfl ?_); (refine WV_gen fun Q_ hQ_ => ?_; simp (disch := first | omega | (simp only [List.length_cons, List.length_nil, List.length_append]; omega)) only [bb, bp, argF, ↓reduceIte, reduceCtorEq, Nat.reduceEqDiff, Nat.reduceLT, Nat.reduceLeDiff, Nat.reduceAdd, Nat.reduceMul, Nat.reduceSub, Nat.reduceBEq, Int.reduceToNat, cond_true, cond_false, eq_self, beq_self_eq_true, hao, hlen, newPtr_X wf, newSlice_X wf, load1_X wf, loadAgg_X wf, store1_X wf, writeCells_X wf, makeFunc_def, tEvQ5, bsl_22, bsl_52, indexAddrE_def (P := Try.prog) (t := 51)]; first | (refine dec_split (Q := Q_) (fun hp_ => ?_) (fun hp_ => ?_) <;> first | (exfalso; omega) | (refine hQ_ _ _ ?_; clear hQ_ Q_)) | (refine dec_splitn (Q := Q_) (fun hp_ => ?_) (fun hp_ => ?_) <;> first | (exfalso; omega) | (refine hQ_ _ _ ?_; clear hQ_ Q_)) | (refine hQ_ _ _ ?_; clear hQ_ Q_)))
  | (refine WC_cond fun K_ hK_ => ?_; simp (disch := omega) only [evT_tmp, upd_apply, WB_some, ↓reduceIte, reduceCtorEq, Nat.reduceEqDiff, Nat.reduceLT]; refine hK_ _ ?_; clear hK_ K_)))
      have wf1 : Wf (X h (.cells (mkCells [ii sp, ii st, a]) 24 :: .cells (mkCells [uu a0, uu a1]) 51 :: M) h.clock) := hY.wf
      have hll : (listOf gs rows.length m).length = rows.length := by unfold listOf; simp
      have hyr : ∀ i (hi : i < (listOf gs rows.length m).length), (listOf gs rows.length m)[i] = gRow gs m i := fun i hi => (List.getElem_map _).trans (by rw [List.getElem_range])
      have yA := hY.at (m := m) (by omega) (fun i hi => by rw [hyr i hi]; exact gRow_length iy.1 (by omega) hm.2)
      refine WC_loop (fun (i : Nat) f d h' => i ≤ rows.length ∧ f 4 = .ptr (nx h 0) 0 ∧ f 6 = .ptr (nx h 1) 0 ∧ f 9 = ii what ∧ f 10 = p ∧ f 11 = .ptr (nx h (M.length + 1 + 1)) 0 ∧ f 12 = .ptr (nx h (M.length + 1 + 1 + 1)) 0 ∧ f 13 = ii (i : Int) ∧ d = [] ∧ ∃ G ovx ov1 cx c1 rx r1, h' = X h (.cells (mkCells [ii sp, ii st, a]) 24 :: .cells (mkCells [uu a0, uu a1]) 51 :: (M ++ (.cells (mkCells [ii sp, ii st, ovx]) 24 :: .cells (mkCells [ii sp, ii st, ov1]) 24 :: G))) h.clock ∧ NarS h (M.length + 4) rows gs m i G ovx ov1 cx c1 rx r1) (fun i => rows.length - i) ?_ (rows.length + 1) 0 (by omega) ?_
      · rintro i f d h' ⟨hi, g4, g6, g9, g10, g11, g12, g13, rfl, G, ovx, ov1, cx, c1, rx, r1, rfl, s⟩
        have s1 := s.g1 (AO.cells (mkCells [ii sp, ii st, a]) 24 :: AO.cells (mkCells [uu a0, uu a1]) 51 :: (M ++ [.cells (mkCells [ii sp, ii st, ovx]) 24, .cells (mkCells [ii sp, ii st, ov1]) 24])) (by simp)
        have sx := s.gx (AO.cells (mkCells [ii sp, ii st, a]) 24 :: AO.cells (mkCells [uu a0, uu a1]) 51 :: (M ++ [.cells (mkCells [ii sp, ii st, ovx]) 24, .cells (mkCells [ii sp, ii st, ov1]) 24])) (by simp)
        obtain ⟨hxc, hxo⟩ := sx.flat
        obtain ⟨h1c, h1o⟩ := s1.flat
        by_cases hlt : i < rows.length
        · obtain ⟨v, hv, hsv, hrl⟩ := xat.row i hlt
          obtain ⟨id, off, hix, hld⟩ := x.sl.at1 wf hlt ik_22
          rw [hv] at hld
          obtain ⟨yv, hyv, hsy, -, hyl⟩ := yA.row i (by rw [hll]; exact hlt)
          obtain ⟨id2, off2, hiy, hly⟩ := yA.sl.at1 wf1 (show i < _ by rw [hll]; exact hlt) ik_34
          rw [hyv] at hly
          rw [hyr i (by rw [hll]; exact hlt)] at hsy hyl
          have hly' : ∀ l w, load1 id2 off2 (X h (.cells (mkCells [ii sp, ii st, a]) 24 :: .cells (mkCells [uu a0, uu a1]) 51 :: (M ++ l)) w) = some yv := fun l w => by
            have := hly l w
            rw [X_X] at this
            exact this
          clear hly
          have hleny : ∀ h', lenE Try.prog 53 yv h' = some (ii (m : Int)) := fun h' => hsy.len un_53
          (repeat' (first
  | (with_reducible first | refine WC_seq ?_ | refine WC_skip ?_ | refine WC_label ?_ | refine WC_scope ?_ | refine WC_block ?_ | refine WC_ret ?_ | refine WC_exit ?_ | refine seqQ_norm ?_ | refine seqQ_ret ?_ | refine seqQ_exit ?_ | refine blkQ_norm ?_ | refine blkQ_ret ?_ | refine blkQ_here ?_ | refine gateK_yes ?_ | refine gateK_none ?_ | refine condK_tt ?_ | refine condK_ff ?_ | refine roundQ_exit ?_ | refine roundQ_ret ?_)
  | refine WC_region ?_ | refine blkQ_out rfl ?_ | refine WO_nil ?_ | refine WD_nil ?_
  | ((first | refine WD_gate rfl rfl rfl rfl rfl fun K_ hK_ => ?_ | refine WO_gate rfl rfl rfl rfl rfl fun K_ hK_ => ?_); simp only [upd_apply, asB_bool, asB_tup, ↓reduceIte, reduceCtorEq, Nat.reduceEqDiff, Bool.not_true, Bool.not_false]; refine hK_ _ ?_; clear hK_ K_)
  | refine gateK_no (by decide) ?_
  | ((try first | refine WO_op rfl rfl rfl ?_ | refine WO_op0 rfl rfl ?_ | refine WD_op rfl rfl rfl ?_ | refine WD_op0 rfl rfl ?_); (refine WV_gen fun Q_ hQ_ => ?_; simp (disch := first | omega | (simp only [List.length_cons, List.length_nil, List.length_append]; omega)) only [bb, bp, argF, ↓reduceIte, reduceCtorEq, Nat.reduceEqDiff, Nat.reduceLT, Nat.reduceLeDiff, Nat.reduceAdd, Nat.reduceMul, Nat.reduceSub, Nat.reduceBEq, Int.reduceToNat, cond_true, cond_false, eq_self, beq_self_eq_true, g4, g6, g9, g10, g11, g12, g13, hlen, newPtr_X wf, newSlice_X wf, load1_X wf, loadAgg_X wf, store1_X wf, writeCells_X wf, makeFunc_def, tEvQ5, bsl_22, bsl_52, indexAddrE_def (P := Try.prog) (t := 51)]; first | (refine dec_split (Q := Q_) (fun hp_ => ?_) (fun hp_ => ?_) <;> first | (exfalso; omega) | (refine hQ_ _ _ ?_; clear hQ_ Q_)) | (refine dec_splitn (Q := Q_) (fun hp_ => ?_) (fun hp_ => ?_) <;> first | (exfalso; omega) | (refine hQ_ _ _ ?_; clear hQ_ Q_)) | (refine hQ_ _ _ ?_; clear hQ_ Q_)))
  | (refine WC_cond fun K_ hK_ => ?_; simp (disch := omega) only [evT_tmp, upd_apply, WB_some, ↓reduceIte, reduceCtorEq, Nat.reduceEqDiff, Nat.reduceLT]; refine hK_ _ ?_; clear hK_ K_)))
          refine WC_loop (fun (k : Nat) f d h' => k ≤ m ∧ f 4 = .ptr (nx h 0) 0 ∧ f 6 = .ptr (nx h 1) 0 ∧ f 9 = ii what ∧ f 10 = p ∧ f 11 = .ptr (nx h (M.length + 1 + 1)) 0 ∧ f 12 = .ptr (nx h (M.length + 1 + 1 + 1)) 0 ∧ f 13 = ii (i : Int) ∧ f 15 = ii (k : Int) ∧ d = [] ∧ ∃ G2, h' = X h (.cells (mkCells [ii sp, ii st, a]) 24 :: .cells (mkCells [uu a0, uu a1]) 51 :: (M ++ (.cells (mkCells [ii sp, ii st, ovx]) 24 :: .cells (mkCells [ii sp, ii st, ov1]) 24 :: (G ++ G2)))) h.clock ∧ Grow h ((AO.cells (mkCells [ii sp, ii st, a]) 24 :: AO.cells (mkCells [uu a0, uu a1]) 51 :: (M ++ [.cells (mkCells [ii sp, ii st, ovx]) 24, .cells (mkCells [ii sp, ii st, ov1]) 24])) ++ G) G2 (f 14) 2 55 k (pairCells (oneRow ((gRow gs m i).take k)))) (fun k => m - k) ?_ (m + 1) 0 (by omega) ?_
          · clear g4 g6 g9 g10 g11 g12 g13
            rintro k f d h' ⟨hk, g4, g6, g9, g10, g11, g12, g13, g15, rfl, G2, rfl, hg2⟩
            by_cases hkl : k < m
            · obtain ⟨id3, off3, hiy3, hly3⟩ := hsy.at1 wf1 hkl ik_53
              have hkr : k < (gRow gs m i).length := by omega
              rw [show ((gRow gs m i).map ii)[k]? = some (ii (gRow gs m i)[k]) from by simp [hkr]] at hly3
              have hot := oneRow_take hkr
              generalize (gRow gs m i)[k] = y at *
              have hly3' : ∀ l w, load1 id3 off3 (X h (.cells (mkCells [ii sp, ii st, a]) 24 :: .cells (mkCells [uu a0, uu a1]) 51 :: (M ++ l)) w) = some (ii y) := fun l w => by
                have := hly3 l w
                rw [X_X] at this
                exact this
              clear hly3
              have hr14 := hg2.resz (P := Try.prog) 52
              obtain ⟨rv', G2', hg2', happ0, -⟩ := hg2.appendD (P := Try.prog) wf un_52 sz_55 el_55 (n := 1) (new := [ii y, ii y]) (by omega) (by omega) (by omega) rfl rfl
              have happ : ∀ tm op n w, n = M.length + 4 + G.length + G2.length → h.clock ≤ w → unmark .full tm op (X h (.cells (mkCells [ii sp, ii st, a]) 24 :: .cells (mkCells [uu a0, uu a1]) 51 :: (M ++ (.cells (mkCells [ii sp, ii st, ovx]) 24 :: .cells (mkCells [ii sp, ii st, ov1]) 24 :: (G ++ (G2 ++ [.cells (mkCells [ii y, ii y]) 55]))))) h.clock) (appendE Try.prog 52 (f 14) (.sl (nx h n) 0 1 (some 1) 2) (X h (.cells (mkCells [ii sp, ii st, a]) 24 :: .cells (mkCells [uu a0, uu a1]) 51 :: (M ++ (.cells (mkCells [ii sp, ii st, ovx]) 24 :: .cells (mkCells [ii sp, ii st, ov1]) 24 :: (G ++ (G2 ++ [.cells (mkCells [ii y, ii y]) 55]))))) w)) = .ok rv' (X h (.cells (mkCells [ii sp, ii st, a]) 24 :: .cells (mkCells [uu a0, uu a1]) 51 :: (M ++ (.cells (mkCells [ii sp, ii st, ovx]) 24 :: .cells (mkCells [ii sp, ii st, ov1]) 24 :: (G ++ G2')))) h.clock) := fun tm op n w hn hw => by
                have := happ0 tm op w hw
                rw [show ((AO.cells (mkCells [ii sp, ii st, a]) 24 :: AO.cells (mkCells [uu a0, uu a1]) 51 :: (M ++ [.cells (mkCells [ii sp, ii st, ovx]) 24, .cells (mkCells [ii sp, ii st, ov1]) 24])) ++ G).length + G2.length = n by simp; omega] at this
                simpa using this
              (repeat' (first
  | (with_reducible first | refine WC_seq ?_ | refine WC_skip ?_ | refine WC_label ?_ | refine WC_scope ?_ | refine WC_block ?_ | refine WC_ret ?_ | refine WC_exit ?_ | refine seqQ_norm ?_ | refine seqQ_ret ?_ | refine seqQ_exit ?_ | refine blkQ_norm ?_ | refine blkQ_ret ?_ | refine blkQ_here ?_ | refine gateK_yes ?_ | refine gateK_none ?_ | refine condK_tt ?_ | refine condK_ff ?_ | refine roundQ_exit ?_ | refine roundQ_ret ?_)
  | refine WC_region ?_ | refine blkQ_out rfl ?_ | refine WO_nil ?_ | refine WD_nil ?_
  | ((first | refine WD_gate rfl rfl rfl rfl rfl fun K_ hK_ => ?_ | refine WO_gate rfl rfl rfl rfl rfl fun K_ hK_ => ?_); simp only [upd_apply, asB_bool, asB_tup, ↓reduceIte, reduceCtorEq, Nat.reduceEqDiff, Bool.not_true, Bool.not_false]; refine hK_ _ ?_; clear hK_ K_)
  | refine gateK_no (by decide) ?_
  | ((try first | refine WO_op rfl rfl rfl ?_ | refine WO_op0 rfl rfl ?_ | refine WD_op rfl rfl rfl ?_ | refine WD_op0 rfl rfl ?_); (refine WV_gen fun Q_ hQ_ => ?_; simp (disch := first | omega | (simp only [List.length_cons, List.length_nil, List.length_append]; omega)) only [bb, bp, argF, ↓reduceIte, reduceCtorEq, Nat.reduceEqDiff, Nat.reduceLT, Nat.reduceLeDiff, Nat.reduceAdd, Nat.reduceMul, Nat.reduceSub, Nat.reduceBEq, Int.reduceToNat, cond_true, cond_false, eq_self, beq_self_eq_true, g4, g6, g9, g10, g11, g12, g13, g15, hiy, hly', hleny, newPtr_X wf, newSlice_X wf, load1_X wf, loadAgg_X wf, store1_X wf, writeCells_X wf, makeFunc_def, tEvQ5, bsl_22, bsl_52, indexAddrE_def (P := Try.prog) (t := 51)]; first | (refine dec_split (Q := Q_) (fun hp_ => ?_) (fun hp_ => ?_) <;> first | (exfalso; omega) | (refine hQ_ _ _ ?_; clear hQ_ Q_)) | (refine dec_splitn (Q := Q_) (fun hp_ => ?_) (fun hp_ => ?_) <;> first | (exfalso; omega) | (refine hQ_ _ _ ?_; clear hQ_ Q_)) | (refine hQ_ _ _ ?_; clear hQ_ Q_)))
  | (refine WC_cond fun K_ hK_ => ?_; simp (disch := omega) only [evT_tmp, upd_apply, WB_some, ↓reduceIte, reduceCtorEq, Nat.reduceEqDiff, Nat.reduceLT]; refine hK_ _ ?_; clear hK_ K_)))
              refine WC_drawnB [.no, .no, .no, .no, .no, .no, .no, .no, .no, .no, .no, .no, .no, .no, .no, .full, .full, .full, .full] (by kernel_rfl) ?_
              (repeat' (first
  | (with_reducible first | refine WC_seq ?_ | refine WC_skip ?_ | refine WC_label ?_ | refine WC_scope ?_ | refine WC_block ?_ | refine WC_ret ?_ | refine WC_exit ?_ | refine seqQ_norm ?_ | refine seqQ_ret ?_ | refine seqQ_exit ?_ | refine blkQ_norm ?_ | refine blkQ_ret ?_ | refine blkQ_here ?_ | refine gateK_yes ?_ | refine gateK_none ?_ | refine condK_tt ?_ | refine condK_ff ?_ | refine roundQ_exit ?_ | refine roundQ_ret ?_)
  | refine WC_region ?_ | refine blkQ_out rfl ?_ | refine WO_nil ?_ | refine WD_nil ?_
  | ((first | refine WD_gate rfl rfl rfl rfl rfl fun K_ hK_ => ?_ | refine WO_gate rfl rfl rfl rfl rfl fun K_ hK_ => ?_); simp only [upd_apply, asB_bool, asB_tup, ↓reduceIte, reduceCtorEq, Nat.reduceEqDiff, Bool.not_true, Bool.not_false]; refine hK_ _ ?_; clear hK_ K_)
  | refine gateK_no (by decide) ?_
  | ((try first | refine WO_op rfl rfl rfl ?_ | refine WO_op0 rfl rfl ?_ | refine WD_op rfl rfl rfl ?_ | refine WD_op0 rfl rfl ?_); (refine WV_gen fun Q_ hQ_ => ?_; simp (disch := first | omega | (simp only [List.length_cons, List.length_nil, List.length_append]; omega)) only [bb, bp, argF, ↓reduceIte, reduceCtorEq, Nat.reduceEqDiff, Nat.reduceLT, Nat.reduceLeDiff, Nat.reduceAdd, Nat.reduceMul, Nat.reduceSub, Nat.reduceBEq, Int.reduceToNat, cond_true, cond_false, eq_self, beq_self_eq_true, g4, g6, g9, g10, g11, g12, g13, g15, hiy, hly', hleny, hiy3, hly3', hr14, happ, reszT_some un_52 sz_55, newPtr_X wf, newSlice_X wf, load1_X wf, loadAgg_X wf, store1_X wf, writeCells_X wf, makeFunc_def, tEvQ5, bsl_22, bsl_52, indexAddrE_def (P := Try.prog) (t := 51)]; first | (refine dec_split (Q := Q_) (fun hp_ => ?_) (fun hp_ => ?_) <;> first | (exfalso; omega) | (refine hQ_ _ _ ?_; clear hQ_ Q_)) | (refine dec_splitn (Q := Q_) (fun hp_ => ?_) (fun hp_ => ?_) <;> first | (exfalso; omega) | (refine hQ_ _ _ ?_; clear hQ_ Q_)) | (refine hQ_ _ _ ?_; clear hQ_ Q_)))
  | (refine WC_cond fun K_ hK_ => ?_; simp (disch := omega) only [evT_tmp, upd_apply, WB_some, ↓reduceIte, reduceCtorEq, Nat.reduceEqDiff, Nat.reduceLT]; refine hK_ _ ?_; clear hK_ K_)))
              refine roundQ_again (k + 1) (by omega) ⟨hkl, by simp only [upd_apply, ↓reduceIte, reduceCtorEq, Nat.reduceEqDiff]; exact g4, by simp only [upd_apply, ↓reduceIte, reduceCtorEq, Nat.reduceEqDiff]; exact g6, by simp only [upd_apply, ↓reduceIte, reduceCtorEq, Nat.reduceEqDiff]; exact g9, by simp only [upd_apply, ↓reduceIte, reduceCtorEq, Nat.reduceEqDiff]; exact g10, by simp only [upd_apply, ↓reduceIte, reduceCtorEq, Nat.reduceEqDiff]; exact g11, by simp only [upd_apply, ↓reduceIte, reduceCtorEq, Nat.reduceEqDiff]; exact g12, by simp only [upd_apply, ↓reduceIte, reduceCtorEq, Nat.reduceEqDiff]; exact g13, by simp only [upd_apply, ↓reduceIte, reduceCtorEq, Nat.reduceEqDiff]; rfl, rfl, G2', rfl, ?_⟩
              simp only [upd_apply, ↓reduceIte, reduceCtorEq, Nat.reduceEqDiff]
              rw [hot, pairCells_snoc]
              exact hg2'
            · have hkm : k = m := by omega
              have hm0 : 0 < m := by omega
              have hk0 : (gRow gs m i).take k = gRow gs m i := List.take_of_length_le (by omega)
              subst hkm
              rw [hk0] at hg2
              obtain ⟨i1, hv14, e2⟩ : ∃ i1, f 14 = .sl (nx h (((AO.cells (mkCells [ii sp, ii st, a]) 24 :: AO.cells (mkCells [uu a0, uu a1]) 51 :: (M ++ [.cells (mkCells [ii sp, ii st, ovx]) 24, .cells (mkCells [ii sp, ii st, ov1]) 24])) ++ G).length + i1)) 0 k none 2 ∧ G2[i1]? = some (AO.cells (mkCells (pairCells (oneRow (gRow gs k i)))) 55) := by
                obtain ⟨_, ⟨h0, _⟩ | ⟨idx, q1, q2⟩⟩ := hg2
                · omega
                · exact ⟨idx, q1, q2⟩
              rw [show ((AO.cells (mkCells [ii sp, ii st, a]) 24 :: AO.cells (mkCells [uu a0, uu a1]) 51 :: (M ++ [.cells (mkCells [ii sp, ii st, ovx]) 24, .cells (mkCells [ii sp, ii st, ov1]) 24])) ++ G).length + i1 = M.length + 4 + (G.length + i1) by simp; omega] at hv14
              have hr14 : reszT Try.prog 52 (f 14) = f 14 := by rw [hv14]; exact reszT_none
              have h14o : oneB (f 14) = true := by rw [hv14]; rfl
              have h14c : AV.cells (f 14) = [f 14] := by rw [hv14]; rfl
              have hrv1 := s1.resz (P := Try.prog) 22
              have hrvx := sx.resz (P := Try.prog) 22
              have hrvv : srcCells = srcCells := rfl
              -- the one hull's list
              obtain ⟨j1, G', n1, ej1, k1, -, happ0⟩ := (s1.more G2).appendJ (P := Try.prog) wf un_22 sz_52 el_52 [] (n := 1) (new := [f 14]) (by omega) (by omega) (by omega) rfl (by rw [hv14]; rfl)
              have hB : ((AO.cells (mkCells [ii sp, ii st, a]) 24 :: AO.cells (mkCells [uu a0, uu a1]) 51 :: (M ++ [.cells (mkCells [ii sp, ii st, ovx]) 24, .cells (mkCells [ii sp, ii st, ov1]) 24]))).length = M.length + 4 := by simp
              rw [hB] at n1 k1
              rw [List.append_nil] at k1
              have happ1 : ∀ n, n = M.length + 4 + (G.length + G2.length) → appendE Try.prog 22 ov1 (.sl (nx h n) 0 1 (some 1) 1) (X h (.cells (mkCells [ii sp, ii st, a]) 24 :: .cells (mkCells [uu a0, uu a1]) 51 :: (M ++ (.cells (mkCells [ii sp, ii st, ovx]) 24 :: .cells (mkCells [ii sp, ii st, ov1]) 24 :: (G ++ (G2 ++ [.cells (mkCells [f 14]) 52]))))) h.clock) = .ok (.sl (nx h (M.length + 4 + j1)) 0 (i + 1) none 1) (X h (.cells (mkCells [ii sp, ii st, a]) 24 :: .cells (mkCells [uu a0, uu a1]) 51 :: (M ++ (.cells (mkCells [ii sp, ii st, ovx]) 24 :: .cells (mkCells [ii sp, ii st, ov1]) 24 :: G'))) h.clock) := fun n hn => by
                rw [show ((AO.cells (mkCells [ii sp, ii st, a]) 24 :: AO.cells (mkCells [uu a0, uu a1]) 51 :: (M ++ [.cells (mkCells [ii sp, ii st, ovx]) 24, .cells (mkCells [ii sp, ii st, ov1]) 24]))).length + ((G ++ G2).length + ([] : List AO).length) = n by simp; omega] at happ0
                simpa using happ0
              clear happ0
              obtain ⟨w1, hw1⟩ : ∃ w1 : AV, w1 = .sl (nx h (M.length + 4 + j1)) 0 (i + 1) none 1 := ⟨_, rfl⟩
              rw [← hw1] at happ1
              have hw1o : oneB w1 = true := by rw [hw1]; rfl
              have hw1c : AV.cells w1 = [w1] := by rw [hw1]; rfl
              -- the other hull's list
              have sx1 := s.gx (AO.cells (mkCells [ii sp, ii st, a]) 24 :: AO.cells (mkCells [uu a0, uu a1]) 51 :: (M ++ [.cells (mkCells [ii sp, ii st, ovx]) 24, .cells (mkCells [ii sp, ii st, w1]) 24])) (by simp)
              have hBx : ((AO.cells (mkCells [ii sp, ii st, a]) 24 :: AO.cells (mkCells [uu a0, uu a1]) 51 :: (M ++ [.cells (mkCells [ii sp, ii st, ovx]) 24, .cells (mkCells [ii sp, ii st, w1]) 24]))).length = M.length + 4 := by simp
              have gx' : Grow h (AO.cells (mkCells [ii sp, ii st, a]) 24 :: AO.cells (mkCells [uu a0, uu a1]) 51 :: (M ++ [.cells (mkCells [ii sp, ii st, ovx]) 24, .cells (mkCells [ii sp, ii st, w1]) 24])) G' ovx 1 52 i cx := (sx1.more G2).keep (by rw [hBx]; exact k1) (fun j y1 y2 y3 hv => by
                rw [hBx] at hv ⊢
                exact s.ap j _ _ _ hv y1 y2 y3)
              have hgr : rows.getD i [] = rows[i] := by simp [List.getD, hlt]
              obtain ⟨wr, hwr1⟩ : ∃ wr : AV, wr = .sl (nx h (M.length + 4 + (G'.length + 1))) 0 k none 2 := ⟨_, rfl⟩
              have hwrc : AV.cells wr = [wr] := by rw [hwr1]; rfl
              have hwro : oneB wr = true := by rw [hwr1]; rfl
              have hwrr : reszT Try.prog 52 wr = wr := by rw [hwr1]; exact reszT_none
              obtain ⟨j2, G'', n2, ej2, k2, happ0, -⟩ := gx'.appendJ (P := Try.prog) wf un_22 sz_52 el_52 [.cells (mkCells []) 55, .cells (mkCells (pairCells (rows.getD i []))) 55] (n := 1) (new := [wr]) (by omega) (by omega) (by omega) rfl (by rw [allOne_cons, hwro]; rfl)
              rw [hBx] at n2 k2
              have happ3 : ∀ tm op n w, n = M.length + 4 + (G'.length + 2) → h.clock ≤ w → unmark .full tm op (X h (.cells (mkCells [ii sp, ii st, a]) 24 :: .cells (mkCells [uu a0, uu a1]) 51 :: (M ++ (.cells (mkCells [ii sp, ii st, ovx]) 24 :: .cells (mkCells [ii sp, ii st, w1]) 24 :: (G' ++ [.cells (mkCells []) 55, .cells (mkCells (pairCells rows[i])) 55, .cells (mkCells [wr]) 52])))) h.clock) (appendE Try.prog 22 ovx (.sl (nx h n) 0 1 (some 1) 1) (X h (.cells (mkCells [ii sp, ii st, a]) 24 :: .cells (mkCells [uu a0, uu a1]) 51 :: (M ++ (.cells (mkCells [ii sp, ii st, ovx]) 24 :: .cells (mkCells [ii sp, ii st, w1]) 24 :: (G' ++ [.cells (mkCells []) 55, .cells (mkCells (pairCells rows[i])) 55, .cells (mkCells [wr]) 52])))) w)) = .ok (.sl (nx h (M.length + 4 + j2)) 0 (i + 1) none 1) (X h (.cells (mkCells [ii sp, ii st, a]) 24 :: .cells (mkCells [uu a0, uu a1]) 51 :: (M ++ (.cells (mkCells [ii sp, ii st, ovx]) 24 :: .cells (mkCells [ii sp, ii st, w1]) 24 :: G''))) h.clock) := fun tm op n w hn hw => by
                have := happ0 tm op w hw
                rw [show ((AO.cells (mkCells [ii sp, ii st, a]) 24 :: AO.cells (mkCells [uu a0, uu a1]) 51 :: (M ++ [.cells (mkCells [ii sp, ii st, ovx]) 24, .cells (mkCells [ii sp, ii st, w1]) 24]))).length + (G'.length + [AO.cells (mkCells []) 55, AO.cells (mkCells (pairCells (rows.getD i []))) 55].length) = n by simp; omega, hgr] at this
                simpa using this
              clear happ0
              have happ2 : ∀ n w, n = M.length + 4 + G'.length → appendE Try.prog 52 (.sl (nx h n) 0 0 (some 0) 2) (reszT Try.prog 52 v) (X h (.cells (mkCells [ii sp, ii st, a]) 24 :: .cells (mkCells [uu a0, uu a1]) 51 :: (M ++ (.cells (mkCells [ii sp, ii st, ovx]) 24 :: .cells (mkCells [ii sp, ii st, w1]) 24 :: (G' ++ [.cells (mkCells []) 55])))) w) = .ok wr (X h (.cells (mkCells [ii sp, ii st, a]) 24 :: .cells (mkCells [uu a0, uu a1]) 51 :: (M ++ (.cells (mkCells [ii sp, ii st, ovx]) 24 :: .cells (mkCells [ii sp, ii st, w1]) 24 :: (G' ++ [.cells (mkCells []) 55, .cells (mkCells (pairCells rows[i])) 55])))) w) := fun n w hn => by
                have := append_zero (P := Try.prog) wf un_52 sz_55 el_55 (k := n) (n := k) (new := pairCells rows[i]) (old := []) (e' := 55) (l := (.cells (mkCells [ii sp, ii st, a]) 24 :: .cells (mkCells [uu a0, uu a1]) 51 :: (M ++ (.cells (mkCells [ii sp, ii st, ovx]) 24 :: .cells (mkCells [ii sp, ii st, w1]) 24 :: (G' ++ [.cells (mkCells []) 55]))))) (w := w) (x := reszT Try.prog 52 v) (by omega) (by omega) (by omega)
                  (by rw [hn, show M.length + 4 + G'.length = (M.length + (G'.length + 2)) + 1 + 1 by omega, List.getElem?_cons_succ, List.getElem?_cons_succ, app_len, List.getElem?_cons_succ, List.getElem?_cons_succ, app_len0]; rfl)
                  ((hsv.up wf _ w).srcE (hcap i v hv) un_52 sz_55) (by rw [pairCells_length, hrl])
                rw [this, hwr1]
                congr 2
                · congr 1
                  simp
                  omega
                · simp
              obtain ⟨rx', r1', s'⟩ := s.step (L := (AO.cells (mkCells [ii sp, ii st, a]) 24 :: AO.cells (mkCells [uu a0, uu a1]) 51 :: (M ++ [.cells (mkCells [ii sp, ii st, ovx]) 24, .cells (mkCells [ii sp, ii st, ov1]) 24]))) (i1 := i1) (j1 := j1) (j2 := j2) (z := .cells (mkCells []) 55) hB e2 k1 (by simpa using ej1) (by rw [hv14] at n1; exact n1) k2 (by rw [ej2]; rfl) (by rw [hwr1] at n2; exact grow_cast n2 (by rw [hBx, hB]))
              obtain ⟨w2, hw2⟩ : ∃ w2 : AV, w2 = .sl (nx h (M.length + 4 + j2)) 0 (i + 1) none 1 := ⟨_, rfl⟩
              rw [← hw2] at happ3 s'
              rw [← hw1] at s'
              have hw2o : oneB w2 = true := by rw [hw2]; rfl
              have hw2c : AV.cells w2 = [w2] := by rw [hw2]; rfl
              (repeat' (first
  | (with_reducible first | refine WC_seq ?_ | refine WC_skip ?_ | refine WC_label ?_ | refine WC_scope ?_ | refine WC_block ?_ | refine WC_ret ?_ | refine WC_exit ?_ | refine seqQ_norm ?_ | refine seqQ_ret ?_ | refine seqQ_exit ?_ | refine blkQ_norm ?_ | refine blkQ_ret ?_ | refine blkQ_here ?_ | refine gateK_yes ?_ | refine gateK_none ?_ | refine condK_tt ?_ | refine condK_ff ?_ | refine roundQ_exit ?_ | refine roundQ_ret ?_)
  | refine WC_region ?_ | refine blkQ_out rfl ?_ | refine WO_nil ?_ | refine WD_nil ?_
  | ((first | refine WD_gate rfl rfl rfl rfl rfl fun K_ hK_ => ?_ | refine WO_gate rfl rfl rfl rfl rfl fun K_ hK_ => ?_); simp only [upd_apply, asB_bool, asB_tup, ↓reduceIte, reduceCtorEq, Nat.reduceEqDiff, Bool.not_true, Bool.not_false]; refine hK_ _ ?_; clear hK_ K_)
  | refine gateK_no (by decide) ?_
  | ((try first | refine WO_op rfl rfl rfl ?_ | refine WO_op0 rfl rfl ?_ | refine WD_op rfl rfl rfl ?_ | refine WD_op0 rfl rfl ?_); (refine WV_gen fun Q_ hQ_ => ?_; simp (disch := first | omega | (simp only [List.length_cons, List.length_nil, List.length_append]; omega)) only [bb, bp, argF, ↓reduceIte, reduceCtorEq, Nat.reduceEqDiff, Nat.reduceLT, Nat.reduceLeDiff, Nat.reduceAdd, Nat.reduceMul, Nat.reduceSub, Nat.reduceBEq, Int.reduceToNat, cond_true, cond_false, eq_self, beq_self_eq_true, g4, g6, g9, g10, g11, g12, g13, g15, hlen, hiy, hly', hleny, hr14, h14o, h14c, hrv1, happ1, hxo, h1o, hxc, h1c, hw1o, hw1c, reszT_some un_22 sz_52, newPtr_X wf, newSlice_X wf, load1_X wf, loadAgg_X wf, store1_X wf, writeCells_X wf, makeFunc_def, tEvQ5, bsl_22, bsl_52, indexAddrE_def (P := Try.prog) (t := 51)]; first | (refine dec_split (Q := Q_) (fun hp_ => ?_) (fun hp_ => ?_) <;> first | (exfalso; omega) | (refine hQ_ _ _ ?_; clear hQ_ Q_)) | (refine dec_splitn (Q := Q_) (fun hp_ => ?_) (fun hp_ => ?_) <;> first | (exfalso; omega) | (refine hQ_ _ _ ?_; clear hQ_ Q_)) | (refine hQ_ _ _ ?_; clear hQ_ Q_)))
  | (refine WC_cond fun K_ hK_ => ?_; simp (disch := omega) only [evT_tmp, upd_apply, WB_some, ↓reduceIte, reduceCtorEq, Nat.reduceEqDiff, Nat.reduceLT]; refine hK_ _ ?_; clear hK_ K_)))
              refine WC_drawnB [.no, .no, .no, .no, .no, .no, .no, .no, .no, .no, .full, .full, .full] (by kernel_rfl) ?_
              (repeat' (first
  | (with_reducible first | refine WC_seq ?_ | refine WC_skip ?_ | refine WC_label ?_ | refine WC_scope ?_ | refine WC_block ?_ | refine WC_ret ?_ | refine WC_exit ?_ | refine seqQ_norm ?_ | refine seqQ_ret ?_ | refine seqQ_exit ?_ | refine blkQ_norm ?_ | refine blkQ_ret ?_ | refine blkQ_here ?_ | refine gateK_yes ?_ | refine gateK_none ?_ | refine condK_tt ?_ | refine condK_ff ?_ | refine roundQ_exit ?_ | refine roundQ_ret ?_)
  | refine WC_region ?_ | refine blkQ_out rfl ?_ | refine WO_nil ?_ | refine WD_nil ?_
  | ((first | refine WD_gate rfl rfl rfl rfl rfl fun K_ hK_ => ?_ | refine WO_gate rfl rfl rfl rfl rfl fun K_ hK_ => ?_); simp only [upd_apply, asB_bool, asB_tup, ↓reduceIte, reduceCtorEq, Nat.reduceEqDiff, Bool.not_true, Bool.not_false]; refine hK_ _ ?_; clear hK_ K_)
  | refine gateK_no (by decide) ?_
  | ((try first | refine WO_op rfl rfl rfl ?_ | refine WO_op0 rfl rfl ?_ | refine WD_op rfl rfl rfl ?_ | refine WD_op0 rfl rfl ?_); (refine WV_gen fun Q_ hQ_ => ?_; simp (disch := first | omega | (simp only [List.length_cons, List.length_nil, List.length_append]; omega)) only [bb, bp, argF, ↓reduceIte, reduceCtorEq, Nat.reduceEqDiff, Nat.reduceLT, Nat.reduceLeDiff, Nat.reduceAdd, Nat.reduceMul, Nat.reduceSub, Nat.reduceBEq, Int.reduceToNat, cond_true, cond_false, eq_self, beq_self_eq_true, g4, g6, g9, g10, g11, g12, g13, g15, hlen, hix, hld, hr14, hrvx, hwrr, hwro, hwrc, happ2, happ3, hxo, hxc, hw1o, hw1c, hw2o, hw2c, reszT_some un_52 sz_55, reszT_some un_22 sz_52, newPtr_X wf, newSlice_X wf, load1_X wf, loadAgg_X wf, store1_X wf, writeCells_X wf, makeFunc_def, tEvQ5, bsl_22, bsl_52, indexAddrE_def (P := Try.prog) (t := 51)]; first | (refine dec_split (Q := Q_) (fun hp_ => ?_) (fun hp_ => ?_) <;> first | (exfalso; omega) | (refine hQ_ _ _ ?_; clear hQ_ Q_)) | (refine dec_splitn (Q := Q_) (fun hp_ => ?_) (fun hp_ => ?_) <;> first | (exfalso; omega) | (refine hQ_ _ _ ?_; clear hQ_ Q_)) | (refine hQ_ _ _ ?_; clear hQ_ Q_)))
  | (refine WC_cond fun K_ hK_ => ?_; simp (disch := omega) only [evT_tmp, upd_apply, WB_some, ↓reduceIte, reduceCtorEq, Nat.reduceEqDiff, Nat.reduceLT]; refine hK_ _ ?_; clear hK_ K_)))
              refine roundQ_again (i + 1) (by omega) ⟨hlt, by simp only [upd_apply, ↓reduceIte, reduceCtorEq, Nat.reduceEqDiff]; exact g4, by simp only [upd_apply, ↓reduceIte, reduceCtorEq, Nat.reduceEqDiff]; exact g6, by simp only [upd_apply, ↓reduceIte, reduceCtorEq, Nat.reduceEqDiff]; exact g9, by simp only [upd_apply, ↓reduceIte, reduceCtorEq, Nat.reduceEqDiff]; exact g10, by simp only [upd_apply, ↓reduceIte, reduceCtorEq, Nat.reduceEqDiff]; exact g11, by simp only [upd_apply, ↓reduceIte, reduceCtorEq, Nat.reduceEqDiff]; exact g12, by simp only [upd_apply, ↓reduceIte, reduceCtorEq, Nat.reduceEqDiff]; rfl, rfl, G'', w2, w1, _, _, rx', r1', rfl, s'⟩
          · refine ⟨Nat.zero_le _, by simp only [upd_apply, ↓reduceIte, reduceCtorEq, Nat.reduceEqDiff]; exact g4, by simp only [upd_apply, ↓reduceIte, reduceCtorEq, Nat.reduceEqDiff]; exact g6, by simp only [upd_apply, ↓reduceIte, reduceCtorEq, Nat.reduceEqDiff]; exact g9, by simp only [upd_apply, ↓reduceIte, reduceCtorEq, Nat.reduceEqDiff]; exact g10, by simp only [upd_apply, ↓reduceIte, reduceCtorEq, Nat.reduceEqDiff]; exact g11, by simp only [upd_apply, ↓reduceIte, reduceCtorEq, Nat.reduceEqDiff]; exact g12, by simp only [upd_apply, ↓reduceIte, reduceCtorEq, Nat.reduceEqDiff]; exact g13, by simp only [upd_apply, ↓reduceIte, reduceCtorEq, Nat.reduceEqDiff]; rfl, rfl, [], by rw [List.append_nil], ?_⟩
            simp only [upd_apply, ↓reduceIte, reduceCtorEq, Nat.reduceEqDiff]
            exact Grow.nil h _ [] 2 55
        · have hie : i = rows.length := by omega
          subst hie
          obtain ⟨i0, hi0, ei0⟩ := tmod_nat (n := rows.length) ha0.1 (by omega)
          obtain ⟨k0, hk0, ek0⟩ := tmod_nat (n := m) ha1.1 (by omega)
          have hwa0 : IntKind.i64.wrap a0 = a0 := wrap_in _ (by omega) (by omega)
          have hwa1 : IntKind.i64.wrap a1 = a1 := wrap_in _ (by omega) (by omega)
          obtain ⟨v0, hv0, hsv0, hrl0⟩ := xat.row i0 hi0
          obtain ⟨idr, offr, hixr, hldr⟩ := x.sl.at1 wf hi0 ik_22
          rw [hv0] at hldr
          have hlen0 : ∀ h', lenE Try.prog 52 v0 h' = some (ii (m : Int)) := fun h' => hsv0.len un_52
          obtain ⟨id4, off4, hix4, hld4⟩ := hsv0.at wf hk0 ik_52
          have hkr0 : k0 < rows[i0].length := by omega
          have hlo : ∀ l w, load1 id4 off4 (X h l w) = some (ii rows[i0][k0].1) := fun l w => by
            have := (hld4 l w).1 0 (by decide)
            rw [pairCells_get hkr0 (by decide)] at this
            simpa using this
          obtain ⟨yv, hyv, hsy, -, hyl⟩ := yA.row i0 (by rw [hll]; exact hi0)
          obtain ⟨id2, off2, hiy, hly⟩ := yA.sl.at1 wf1 (show i0 < _ by rw [hll]; exact hi0) ik_34
          rw [hyv] at hly
          rw [hyr i0 (by rw [hll]; exact hi0)] at hsy hyl
          have hly' : ∀ l w, load1 id2 off2 (X h (.cells (mkCells [ii sp, ii st, a]) 24 :: .cells (mkCells [uu a0, uu a1]) 51 :: (M ++ l)) w) = some yv := fun l w => by
            have := hly l w
            rw [X_X] at this
            exact this
          clear hly
          obtain ⟨id3, off3, hiy3, hly3⟩ := hsy.at1 wf1 hk0 ik_53
          have hkg : k0 < (gRow gs m i0).length := by omega
          rw [show ((gRow gs m i0).map ii)[k0]? = some (ii (gRow gs m i0)[k0]) from by simp [hkg]] at hly3
          have hyy := gRow_yat iy.1 (by omega) hm.2 hk0 hkg
          have hq0 : i0 * m + k0 < rows.length * m := ik_lt hi0 hk0
          have hyin := iy.2 _ hq0
          rw [← hyy, rAt_ik hi0 hk0 hrl0] at hyin
          have hly3' : ∀ l w, load1 id3 off3 (X h (.cells (mkCells [ii sp, ii st, a]) 24 :: .cells (mkCells [uu a0, uu a1]) 51 :: (M ++ l)) w) = some (ii (gRow gs m i0)[k0]) := fun l w => by
            have := hly3 l w
            rw [X_X] at this
            exact this
          clear hly3
          have hallr : ∀ j (hj : j < rows.length), rows[j].length = m := fun j hj => hall _ (List.getElem_mem hj)
          -- what is stored
          have hB : ((AO.cells (mkCells [ii sp, ii st, a]) 24 :: AO.cells (mkCells [uu a0, uu a1]) 51 :: (M ++ [.cells (mkCells [ii sp, ii st, ovx]) 24, .cells (mkCells [ii sp, ii st, ov1]) 24]))).length = M.length + 4 := by simp
          have hsx := sx.sl wf h.clock
          have wf2 : Wf (X h ((AO.cells (mkCells [ii sp, ii st, a]) 24 :: AO.cells (mkCells [uu a0, uu a1]) 51 :: (M ++ [.cells (mkCells [ii sp, ii st, ovx]) 24, .cells (mkCells [ii sp, ii st, ov1]) 24])) ++ G) h.clock) := wf.X (by omega)
          obtain ⟨id6, off6, hix6, hld6⟩ := hsx.at1 wf2 hi0 ik_22
          obtain ⟨hcx, hgx⟩ := s.wx i0 hi0
          rw [hcx] at hld6
          obtain ⟨pid, hpid⟩ : ∃ pid, pid = nx h (M.length + 4 + rx i0) := ⟨_, rfl⟩
          obtain ⟨wr, hwr1⟩ : ∃ wr : AV, wr = .sl (nx h (M.length + 4 + rx i0)) 0 m none 2 := ⟨_, rfl⟩
          rw [← hwr1] at hld6
          have hix7 : indexAddrE Try.prog 52 wr (.int .i64 ((k0 : Nat) : Int)) = some (.ptr pid (k0 * 2)) := by
            rw [hwr1, hpid]
            have := index_sl (t := 52) (id := nx h (M.length + 4 + rx i0)) (off := 0) (len := m) (cap := none) (esz := 2) (i := k0) ik_52 hk0
            rw [Nat.zero_add] at this
            exact this
          have hld6' : ∀ w, load1 id6 off6 (X h (.cells (mkCells [ii sp, ii st, a]) 24 :: .cells (mkCells [uu a0, uu a1]) 51 :: (M ++ (.cells (mkCells [ii sp, ii st, ovx]) 24 :: .cells (mkCells [ii sp, ii st, ov1]) 24 :: G))) w) = some wr := fun w => by
            have := hld6 [] w
            rw [X_X] at this
            simpa using this
          have hgd : rows.getD i0 [] = rows[i0] := by simp [List.getD, hi0]
          obtain ⟨nr, hnr⟩ : ∃ nr, nr = rows[i0].set k0 (rows[i0][k0].1, (gRow gs m i0)[k0]) := ⟨_, rfl⟩
          obtain ⟨Gs, hGs⟩ : ∃ Gs, Gs = G.set (rx i0) (.cells (mkCells (pairCells nr)) 55) := ⟨_, rfl⟩
          have hwc : ∀ w, writeCells pid (k0 * 2) [ii rows[i0][k0].1, ii (gRow gs m i0)[k0]] (X h (.cells (mkCells [ii sp, ii st, a]) 24 :: .cells (mkCells [uu a0, uu a1]) 51 :: (M ++ (.cells (mkCells [ii sp, ii st, ovx]) 24 :: .cells (mkCells [ii sp, ii st, ov1]) 24 :: G))) w) = some (X h (.cells (mkCells [ii sp, ii st, a]) 24 :: .cells (mkCells [uu a0, uu a1]) 51 :: (M ++ (.cells (mkCells [ii sp, ii st, ovx]) 24 :: .cells (mkCells [ii sp, ii st, ov1]) 24 :: Gs))) (min (h.clock + (M.length + 4 + rx i0)) w)) := fun w => by
            have := write_pair (h := h) wf (l := (AO.cells (mkCells [ii sp, ii st, a]) 24 :: AO.cells (mkCells [uu a0, uu a1]) 51 :: (M ++ [.cells (mkCells [ii sp, ii st, ovx]) 24, .cells (mkCells [ii sp, ii st, ov1]) 24])) ++ G) (w := w) (r := M.length + 4 + rx i0) (k := k0) (row := rows[i0]) (by rw [← hB, app_len, hgx]; show some (AO.cells (mkCells (pairCells (rows.getD i0 []))) 55) = _; rw [hgd]) hkr0 (rows[i0][k0].1, (gRow gs m i0)[k0])
            rw [← hpid, ← hnr] at this
            rw [← hB, set_app_len, ← hGs] at this
            rw [hB] at this
            simpa using this
          -- the hulls that are made
          have rxi : ∀ j, j < rows.length → j ≠ i0 → rx j ≠ rx i0 := fun j hj hji => by
            rcases Nat.lt_or_gt_of_ne hji with h1 | h1
            · have q1 := s.o2 j i0 h1 hi0; have q2 := s.o1 i0 hi0; omega
            · have q1 := s.o2 i0 j h1 hj; have q2 := s.o1 j hj; omega
          have r1i : ∀ j, j < rows.length → r1 j ≠ rx i0 := fun j hj => by
            rcases Nat.lt_trichotomy j i0 with h1 | h1 | h1
            · have q1 := s.o2 j i0 h1 hi0; have q2 := s.o1 i0 hi0; have q3 := s.o1 j hj; omega
            · subst h1; have q2 := s.o1 j hj; omega
            · have q1 := s.o2 i0 j h1 hj; omega
          obtain ⟨nl, nall, nat⟩ := narrow_at (rows := rows) (m := m) (i := i0) (k := k0) hallr hi0 hk0 (rows[i0][k0].1, (gRow gs m i0)[k0])
          have ng : ∀ j (hj : j < (narrow rows i0 k0 (rows[i0][k0].1, (gRow gs m i0)[k0])).length), (narrow rows i0 k0 (rows[i0][k0].1, (gRow gs m i0)[k0]))[j] = if j = i0 then nr else rows.getD j [] := fun j hj => by
            show ((rows.set i0 ((rows.getD i0 []).set k0 (rows[i0][k0].1, (gRow gs m i0)[k0])))[j]'(by simpa [narrow] using hj)) = _
            rw [List.getElem_set]
            by_cases hji : j = i0
            · rw [if_pos hji.symm, if_pos hji, hgd, hnr]
            · rw [if_neg (fun e => hji e.symm), if_neg hji]
              simp [List.getD, show j < rows.length by rw [nl] at hj; exact hj]
          generalize hrX : narrow rows i0 k0 (rows[i0][k0].1, (gRow gs m i0)[k0]) = rowsX at *
          obtain ⟨on, og, oall, oat⟩ := oneRows_at (gs := gs) (n := rows.length) (m := m) iy.1 hn.2 hm.2
          generalize hr1 : oneRows gs rows.length m = rows1 at *
          have sxs : Grow h (AO.cells (mkCells [ii sp, ii st, a]) 24 :: AO.cells (mkCells [uu a0, uu a1]) 51 :: (M ++ [.cells (mkCells [ii sp, ii st, ovx]) 24, .cells (mkCells [ii sp, ii st, ov1]) 24])) Gs ovx 1 52 rowsX.length cx := by rw [nl, hGs]; exact grow_set sx hgx (by decide) _
          have s1s : Grow h (AO.cells (mkCells [ii sp, ii st, a]) 24 :: AO.cells (mkCells [uu a0, uu a1]) 51 :: (M ++ [.cells (mkCells [ii sp, ii st, ovx]) 24, .cells (mkCells [ii sp, ii st, ov1]) 24])) Gs ov1 1 52 rows1.length c1 := by rw [on, hGs]; exact grow_set s1 hgx (by decide) _
          have wxs : Rws h ((AO.cells (mkCells [ii sp, ii st, a]) 24 :: AO.cells (mkCells [uu a0, uu a1]) 51 :: (M ++ [.cells (mkCells [ii sp, ii st, ovx]) 24, .cells (mkCells [ii sp, ii st, ov1]) 24]))).length Gs cx (fun j => if j = i0 then nr else rows.getD j []) rx m rowsX.length := by rw [nl, hB, hGs]; exact s.wx.put hi0 rxi nr
          have w1s : Rws h ((AO.cells (mkCells [ii sp, ii st, a]) 24 :: AO.cells (mkCells [uu a0, uu a1]) 51 :: (M ++ [.cells (mkCells [ii sp, ii st, ovx]) 24, .cells (mkCells [ii sp, ii st, ov1]) 24]))).length Gs c1 (fun j => oneRow (gRow gs m j)) r1 m rows1.length := by rw [on, hB, hGs]; exact s.w1.other r1i _
          have hullX := hull_made wf sxs wxs (fun j hj => ⟨ng j hj, by rw [← ng j hj]; exact nall j hj⟩)
          have hull1 := hull_made wf s1s w1s (fun j hj => ⟨og j hj, by rw [← og j hj]; exact oall j hj⟩)
          clear hGs sxs s1s wxs w1s
          -- they are valid
          have hoffq := ho.hoff
          obtain ⟨qp, hqp, hpp⟩ := ho.hpos
          have atX : ∀ q, q < rows.length * m → ((rAt rows m q).1 = (rAt rowsX m q).1 ∧ (rAt rowsX m q).1 ≤ yat gs m q) ∧ yat gs m q ≤ (rAt rowsX m q).2 ∧ (rAt rowsX m q).2 ≤ (rAt rows m q).2 := fun q hq => by
            have h1 := iy.2 q hq
            rw [nat q hq]
            by_cases hqq : q = i0 * m + k0
            · rw [if_pos hqq]
              subst hqq
              rw [hyy, rAt_ik hi0 hk0 hrl0] at *
              dsimp only
              omega
            · rw [if_neg hqq]; omega
          obtain ⟨heX, hmX⟩ := hull_from (sp := sp) (st := st) (rows := rowsX) (m := m) (by rw [nl]; exact hn) hm nall hsp hst (fun q hq => by
            rw [nl] at hq
            have h1 := hoffq q hq
            have h2 := atX q hq
            unfold isOff at *
            omega) ⟨qp, by rw [nl]; exact hqp, by have := (atX qp hqp).1.1; omega⟩
          obtain ⟨he1, hm1⟩ := hull_from (sp := sp) (st := st) (rows := rows1) (m := m) (by rw [on]; exact hn) hm oall hsp hst (fun q hq => by
            rw [on] at hq
            have h1 := hoffq q hq
            have h2 := iy.2 q hq
            rw [oat q hq]
            unfold isOff at *
            dsimp only
            omega) ⟨qp, by rw [on]; exact hqp, by rw [oat qp hqp]; have := iy.2 qp hqp; dsimp only; omega⟩
          have hoX := hok heX (gOf_or what)
          have ho1 := hok he1 (gOf_or what)
          rw [hmX] at hoX
          rw [hm1] at ho1
          have sub0 := ends_sub ho hoX nl (fun q hq => by have := atX q hq; omega) false
          have sub1 := ends_sub ho hoX nl (fun q hq => by have := atX q hq; omega) true
          obtain ⟨u1, u2⟩ := ends_one (rows := rows) ho1 on oat false
          obtain ⟨u3, u4⟩ := ends_one (rows := rows) ho1 on oat true
          obtain ⟨-, nsl⟩ := rat_bnd ho (theEnd_ok ho false).1
          obtain ⟨-, nsh⟩ := rat_bnd ho (theEnd_ok ho true).1
          obtain ⟨-, ntl⟩ := rat_bnd hoX (theEnd_ok hoX false).1
          obtain ⟨-, nth⟩ := rat_bnd hoX (theEnd_ok hoX true).1
          have h18 : ∀ l w, w ≤ h.clock + l.length → (om Try.prog KK).call (.fn 18 [.agg [ii sp, ii st, a], ii what]) (X h l w) = .ok (spanOut sp st rows what) (X h l w) := fun l w hw => spanC sp st a rvs rows what _ (x.up l w hw)
          unfold spanOut lowG at h18
          rw [if_neg (not_not_intro he), if_neg (not_not_intro hwh), hmm] at h18
          have h18X : ∀ l w, w ≤ h.clock + l.length + (M.length + 4 + Gs.length) → (om Try.prog KK).call (.fn 18 [.agg [ii sp, ii st, ovx], ii what]) (X h (.cells (mkCells [ii sp, ii st, a]) 24 :: .cells (mkCells [uu a0, uu a1]) 51 :: (M ++ (.cells (mkCells [ii sp, ii st, ovx]) 24 :: .cells (mkCells [ii sp, ii st, ov1]) 24 :: (Gs ++ l)))) w) = .ok (spanOut sp st rowsX what) (X h (.cells (mkCells [ii sp, ii st, a]) 24 :: .cells (mkCells [uu a0, uu a1]) 51 :: (M ++ (.cells (mkCells [ii sp, ii st, ovx]) 24 :: .cells (mkCells [ii sp, ii st, ov1]) 24 :: (Gs ++ l)))) w) := fun l w hw => by
            have := spanC sp st ovx cx rowsX what _ (hullX.up l w (by rw [X_clock]; simp; omega))
            rw [X_X] at this
            simpa using this
          unfold spanOut lowG at h18X
          rw [if_neg (not_not_intro heX), if_neg (not_not_intro hwh), hmX] at h18X
          have h181 : ∀ l w, w ≤ h.clock + l.length + (M.length + 4 + Gs.length) → (om Try.prog KK).call (.fn 18 [.agg [ii sp, ii st, ov1], ii what]) (X h (.cells (mkCells [ii sp, ii st, a]) 24 :: .cells (mkCells [uu a0, uu a1]) 51 :: (M ++ (.cells (mkCells [ii sp, ii st, ovx]) 24 :: .cells (mkCells [ii sp, ii st, ov1]) 24 :: (Gs ++ l)))) w) = .ok (spanOut sp st rows1 what) (X h (.cells (mkCells [ii sp, ii st, a]) 24 :: .cells (mkCells [uu a0, uu a1]) 51 :: (M ++ (.cells (mkCells [ii sp, ii st, ovx]) 24 :: .cells (mkCells [ii sp, ii st, ov1]) 24 :: (Gs ++ l)))) w) := fun l w hw => by
            have := spanC sp st ov1 c1 rows1 what _ (hull1.up l w (by rw [X_clock]; simp; omega))
            rw [X_X] at this
            simpa using this
          unfold spanOut lowG at h181
          rw [if_neg (not_not_intro he1), if_neg (not_not_intro hwh), hm1, u1, u2, u3, u4] at h181
          have vx := val_listOf he (gs := gs) (by rw [hmm]; exact iy) hwh
          rw [hmm] at vx
          have hlen1 : (listOf gs rows.length m).length ≤ 1000 := by rw [hll]; omega
          have h17 : ∀ l w, w ≤ h.clock + l.length + (M.length + 2) → (om Try.prog KK).call (.fn 17 [.agg [ii sp, ii st, a], p, ii what]) (X h (.cells (mkCells [ii sp, ii st, a]) 24 :: .cells (mkCells [uu a0, uu a1]) 51 :: (M ++ l)) w) = .ok (valOut sp st rows (listOf gs rows.length m) what) (X h (.cells (mkCells [ii sp, ii st, a]) 24 :: .cells (mkCells [uu a0, uu a1]) 51 :: (M ++ l)) w) := fun l w hw => by
            have y := hY.up l w (by rw [X_clock]; simp only [List.length_cons, List.length_append, List.length_nil]; omega)
            rw [X_X] at y
            exact valueX sp st a p rvs ys rows _ hlen1 what _ (x.up _ w (by simp only [List.length_cons, List.length_append]; omega)) y
          rw [vx] at h17
          clear vx u1 u2 u3 u4
          generalize ratN (gOf what) sp st rows m gs = xN at *
          generalize ratD (gOf what) sp st rows m gs = xD at *
          generalize ratN (gOf what) sp st rows m (theEnd (gOf what) sp st rows m false) = slN at *
          generalize ratD (gOf what) sp st rows m (theEnd (gOf what) sp st rows m false) = slD at *
          generalize ratN (gOf what) sp st rows m (theEnd (gOf what) sp st rows m true) = shN at *
          generalize ratD (gOf what) sp st rows m (theEnd (gOf what) sp st rows m true) = shD at *
          generalize ratN (gOf what) sp st rowsX m (theEnd (gOf what) sp st rowsX m false) = tlN at *
          generalize ratD (gOf what) sp st rowsX m (theEnd (gOf what) sp st rowsX m false) = tlD at *
          generalize ratN (gOf what) sp st rowsX m (theEnd (gOf what) sp st rowsX m true) = thN at *
          generalize ratD (gOf what) sp st rowsX m (theEnd (gOf what) sp st rowsX m true) = thD at *
          have hin1 : ∀ l w, w ≤ h.clock + l.length → (om Try.prog KK).call (.fn 19 [.agg [ii tlN, ii tlD], .agg [ii slN, ii slD, ii shN, ii shD]]) (X h l w) = .ok (.bool true) (X h l w) := fun l w hw => insideC ntl nsl nsh sub0.1 sub0.2 _ (wf.X hw)
          have hin2 : ∀ l w, w ≤ h.clock + l.length → (om Try.prog KK).call (.fn 19 [.agg [ii thN, ii thD], .agg [ii slN, ii slD, ii shN, ii shD]]) (X h l w) = .ok (.bool true) (X h l w) := fun l w hw => insideC nth nsl nsh sub1.1 sub1.2 _ (wf.X hw)
          have hzn : ((rows.length : Nat) : Int) ≠ 0 := by omega
          have hzm : ((m : Nat) : Int) ≠ 0 := by omega
          have conv5u : ∀ n, convE Try.prog 5 3 (uu n) = some (ii (IntKind.i64.wrap n)) := fun n => conv5
          generalize rows[i0][k0].1 = lo at *
          generalize (gRow gs m i0)[k0] = y0 at *
          (repeat' (first
  | (with_reducible first | refine WC_seq ?_ | refine WC_skip ?_ | refine WC_label ?_ | refine WC_scope ?_ | refine WC_block ?_ | refine WC_ret ?_ | refine WC_exit ?_ | refine seqQ_norm ?_ | refine seqQ_ret ?_ | refine seqQ_exit ?_ | refine blkQ_norm ?_ | refine blkQ_ret ?_ | refine blkQ_here ?_ | refine gateK_yes ?_ | refine gateK_none ?_ | refine condK_tt ?_ | refine condK_ff ?_ | refine roundQ_exit ?_ | refine roundQ_ret ?_)
  | refine WC_region ?_ | refine blkQ_out rfl ?_ | refine WO_nil ?_ | refine WD_nil ?_
  | ((first | refine WD_gate rfl rfl rfl rfl rfl fun K_ hK_ => ?_ | refine WO_gate rfl rfl rfl rfl rfl fun K_ hK_ => ?_); simp only [upd_apply, asB_bool, asB_tup, ↓reduceIte, reduceCtorEq, Nat.reduceEqDiff, Bool.not_true, Bool.not_false]; refine hK_ _ ?_; clear hK_ K_)
  | refine gateK_no (by decide) ?_
  | ((try first | refine WO_op rfl rfl rfl ?_ | refine WO_op0 rfl rfl ?_ | refine WD_op rfl rfl rfl ?_ | refine WD_op0 rfl rfl ?_); (refine WV_gen fun Q_ hQ_ => ?_; simp (disch := first | omega | (simp only [List.length_cons, List.length_nil, List.length_append]; omega)) only [bb, bp, argF, ↓reduceIte, reduceCtorEq, Nat.reduceEqDiff, Nat.reduceLT, Nat.reduceLeDiff, Nat.reduceAdd, Nat.reduceMul, Nat.reduceSub, Nat.reduceBEq, Int.reduceToNat, cond_true, cond_false, eq_self, beq_self_eq_true, g4, g6, g9, g10, g11, g12, g13, hlen, conv5u, huo, huc, hwa0, b_rem hzn, ei0, hxo, hxc, h1o, h1c, hao, newPtr_X wf, newSlice_X wf, load1_X wf, loadAgg_X wf, store1_X wf, writeCells_X wf, makeFunc_def, tEvQ5, bsl_22, bsl_52, indexAddrE_def (P := Try.prog) (t := 51)]; first | (refine dec_split (Q := Q_) (fun hp_ => ?_) (fun hp_ => ?_) <;> first | (exfalso; omega) | (refine hQ_ _ _ ?_; clear hQ_ Q_)) | (refine dec_splitn (Q := Q_) (fun hp_ => ?_) (fun hp_ => ?_) <;> first | (exfalso; omega) | (refine hQ_ _ _ ?_; clear hQ_ Q_)) | (refine hQ_ _ _ ?_; clear hQ_ Q_)))
  | (refine WC_cond fun K_ hK_ => ?_; simp (disch := omega) only [evT_tmp, upd_apply, WB_some, ↓reduceIte, reduceCtorEq, Nat.reduceEqDiff, Nat.reduceLT]; refine hK_ _ ?_; clear hK_ K_)))
          refine WC_drawnB [.no, .no, .no, .no, .no, .no, .no, .no, .no, .full, .full] (by kernel_rfl) ?_
          (repeat' (first
  | (with_reducible first | refine WC_seq ?_ | refine WC_skip ?_ | refine WC_label ?_ | refine WC_scope ?_ | refine WC_block ?_ | refine WC_ret ?_ | refine WC_exit ?_ | refine seqQ_norm ?_ | refine seqQ_ret ?_ | refine seqQ_exit ?_ | refine blkQ_norm ?_ | refine blkQ_ret ?_ | refine blkQ_here ?_ | refine gateK_yes ?_ | refine gateK_none ?_ | refine condK_tt ?_ | refine condK_ff ?_ | refine roundQ_exit ?_ | refine roundQ_ret ?_)
  | refine WC_region ?_ | refine blkQ_out rfl ?_ | refine WO_nil ?_ | refine WD_nil ?_
  | ((first | refine WD_gate rfl rfl rfl rfl rfl fun K_ hK_ => ?_ | refine WO_gate rfl rfl rfl rfl rfl fun K_ hK_ => ?_); simp only [upd_apply, asB_bool, asB_tup, ↓reduceIte, reduceCtorEq, Nat.reduceEqDiff, Bool.not_true, Bool.not_false]; refine hK_ _ ?_; clear hK_ K_)
  | refine gateK_no (by decide) ?_
  | ((try first | refine WO_op rfl rfl rfl ?_ | refine WO_op0 rfl rfl ?_ | refine WD_op rfl rfl rfl ?_ | refine WD_op0 rfl rfl ?_); (refine WV_gen fun Q_ hQ_ => ?_; simp (disch := first | omega | (simp only [List.length_cons, List.length_nil, List.length_append]; omega)) only [bb, bp, argF, ↓reduceIte, reduceCtorEq, Nat.reduceEqDiff, Nat.reduceLT, Nat.reduceLeDiff, Nat.reduceAdd, Nat.reduceMul, Nat.reduceSub, Nat.reduceBEq, Int.reduceToNat, cond_true, cond_false, eq_self, beq_self_eq_true, g4, g6, g9, g10, g11, g12, g13, hlen, conv5u, huo, huc, hwa1, b_rem hzm, ek0, hixr, hldr, hlen0, hxo, hxc, h1o, h1c, hao, newPtr_X wf, newSlice_X wf, load1_X wf, loadAgg_X wf, store1_X wf, writeCells_X wf, makeFunc_def, tEvQ5, bsl_22, bsl_52, indexAddrE_def (P := Try.prog) (t := 51)]; first | (refine dec_split (Q := Q_) (fun hp_ => ?_) (fun hp_ => ?_) <;> first | (exfalso; omega) | (refine hQ_ _ _ ?_; clear hQ_ Q_)) | (refine dec_splitn (Q := Q_) (fun hp_ => ?_) (fun hp_ => ?_) <;> first | (exfalso; omega) | (refine hQ_ _ _ ?_; clear hQ_ Q_)) | (refine hQ_ _ _ ?_; clear hQ_ Q_)))
  | (refine WC_cond fun K_ hK_ => ?_; simp (disch := omega) only [evT_tmp, upd_apply, WB_some, ↓reduceIte, reduceCtorEq, Nat.reduceEqDiff, Nat.reduceLT]; refine hK_ _ ?_; clear hK_ K_)))
          refine WC_drawnB [.no, .no, .no, .no, .no, .no, .no, .no, .no, .no, .no, .no, .no, .no, .no, .no, .no, .no, .no, .no, .no, .no, .no, .full, .full] (by kernel_rfl) ?_
          (repeat' (first
  | (with_reducible first | refine WC_seq ?_ | refine WC_skip ?_ | refine WC_label ?_ | refine WC_scope ?_ | refine WC_block ?_ | refine WC_ret ?_ | refine WC_exit ?_ | refine seqQ_norm ?_ | refine seqQ_ret ?_ | refine seqQ_exit ?_ | refine blkQ_norm ?_ | refine blkQ_ret ?_ | refine blkQ_here ?_ | refine gateK_yes ?_ | refine gateK_none ?_ | refine condK_tt ?_ | refine condK_ff ?_ | refine roundQ_exit ?_ | refine roundQ_ret ?_)
  | refine WC_region ?_ | refine blkQ_out rfl ?_ | refine WO_nil ?_ | refine WD_nil ?_
  | ((first | refine WD_gate rfl rfl rfl rfl rfl fun K_ hK_ => ?_ | refine WO_gate rfl rfl rfl rfl rfl fun K_ hK_ => ?_); simp only [upd_apply, asB_bool, asB_tup, ↓reduceIte, reduceCtorEq, Nat.reduceEqDiff, Bool.not_true, Bool.not_false]; refine hK_ _ ?_; clear hK_ K_)
  | refine gateK_no (by decide) ?_
  | ((try first | refine WO_op rfl rfl rfl ?_ | refine WO_op0 rfl rfl ?_ | refine WD_op rfl rfl rfl ?_ | refine WD_op0 rfl rfl ?_); (refine WV_gen fun Q_ hQ_ => ?_; simp (disch := first | omega | (simp only [List.length_cons, List.length_nil, List.length_append]; omega)) only [bb, bp, argF, ↓reduceIte, reduceCtorEq, Nat.reduceEqDiff, Nat.reduceLT, Nat.reduceLeDiff, Nat.reduceAdd, Nat.reduceMul, Nat.reduceSub, Nat.reduceBEq, Int.reduceToNat, cond_true, cond_false, eq_self, beq_self_eq_true, g4, g6, g9, g10, g11, g12, g13, hixr, hldr, hix4, hlo, hiy, hly', hiy3, hly3', hix6, hld6', hix7, hwc, h18, h18X, h181, h17, hin1, hin2, eq39s.1, hwk, hxo, hxc, h1o, h1c, hao, newPtr_X wf, newSlice_X wf, load1_X wf, loadAgg_X wf, store1_X wf, writeCells_X wf, makeFunc_def, tEvQ5, bsl_22, bsl_52, indexAddrE_def (P := Try.prog) (t := 51)]; first | (refine dec_split (Q := Q_) (fun hp_ => ?_) (fun hp_ => ?_) <;> first | (exfalso; omega) | (refine hQ_ _ _ ?_; clear hQ_ Q_)) | (refine dec_splitn (Q := Q_) (fun hp_ => ?_) (fun hp_ => ?_) <;> first | (exfalso; omega) | (refine hQ_ _ _ ?_; clear hQ_ Q_)) | (refine hQ_ _ _ ?_; clear hQ_ Q_)))
  | (refine WC_cond fun K_ hK_ => ?_; simp (disch := omega) only [evT_tmp, upd_apply, WB_some, ↓reduceIte, reduceCtorEq, Nat.reduceEqDiff, Nat.reduceLT]; refine hK_ _ ?_; clear hK_ K_)))
          all_goals (refine endQ_ret _ _ rfl (ret1 (by decide)) ?_; simp only [upd_apply, ↓reduceIte, reduceCtorEq, Nat.reduceEqDiff]; refine WV_flat rfl (by omega) ?_)
          all_goals exact ⟨rfl, rfl⟩
      · refine ⟨Nat.zero_le _, by simp only [upd_apply, ↓reduceIte, reduceCtorEq, Nat.reduceEqDiff], by simp only [upd_apply, ↓reduceIte, reduceCtorEq, Nat.reduceEqDiff], by simp only [upd_apply, ↓reduceIte, reduceCtorEq, Nat.reduceEqDiff], by simp only [upd_apply, ↓reduceIte, reduceCtorEq, Nat.reduceEqDiff], by simp only [upd_apply, ↓reduceIte, reduceCtorEq, Nat.reduceEqDiff], by simp only [upd_apply, ↓reduceIte, reduceCtorEq, Nat.reduceEqDiff], by simp only [upd_apply, ↓reduceIte, reduceCtorEq, Nat.reduceEqDiff]; rfl, rfl, [], .nils, .nils, [], [], fun _ => 0, fun _ => 0, rfl, ?_⟩
        exact ⟨fun L0 _ => Grow.nil h _ [] 1 52, fun L0 _ => Grow.nil h _ [] 1 52, (fun j a b c hv => by cases hv), fun j hj => absurd hj (Nat.not_lt_zero j), fun j hj => absurd hj (Nat.not_lt_zero j), fun j hj => absurd hj (Nat.not_lt_zero j), fun j j' _ hj => absurd hj (Nat.not_lt_zero j')⟩
    · (repeat' (first
  | (with_reducible first | refine WC_seq ?_ | refine WC_skip ?_ | refine WC_label ?_ | refine WC_scope ?_ | refine WC_block ?_ | refine WC_ret ?_ | refine WC_exit ?_ | refine seqQ_norm ?_ | refine seqQ_ret ?_ | refine seqQ_exit ?_ | refine blkQ_norm ?_ | refine blkQ_ret ?_ | refine blkQ_here ?_ | refine gateK_yes ?_ | refine gateK_none ?_ | refine condK_tt ?_ | refine condK_ff ?_ | refine roundQ_exit ?_ | refine roundQ_ret ?_)
  | refine WC_region ?_ | refine blkQ_out rfl ?_ | refine WO_nil ?_ | refine WD_nil ?_
  | ((first | refine WD_gate rfl rfl rfl rfl rfl fun K_ hK_ => ?_ | refine WO_gate rfl rfl rfl rfl rfl fun K_ hK_ => ?_); simp only [upd_apply, asB_bool, asB_tup, ↓reduceIte, reduceCtorEq, Nat.reduceEqDiff, Bool.not_true, Bool.not_false]; refine hK_ _ ?_; clear hK_ K_)
  | refine gateK_no (by decide) ?_
  | ((try first | refine WO_op rfl rfl rfl ?_ | refine WO_op0 rfl rfl ?_ | refine WD_op rfl rfl rfl ?_ | refine WD_op0 rfl rfl ?_); (refine WV_gen fun Q_ hQ_ => ?_; simp (disch := first | omega | (simp only [List.length_cons, List.length_nil, List.length_append]; omega)) only [bb, bp, argF, ↓reduceIte, reduceCtorEq, Nat.reduceEqDiff, Nat.reduceLT, Nat.reduceLeDiff, Nat.reduceAdd, Nat.reduceMul, Nat.reduceSub, Nat.reduceBEq, Int.reduceToNat, cond_true, cond_false, eq_self, beq_self_eq_true, hfi, hwk, huo, huc, hlenb, newPtr_X wf, newSlice_X wf, load1_X wf, loadAgg_X wf, store1_X wf, writeCells_X wf, makeFunc_def, tEvQ5, bsl_22, bsl_52, indexAddrE_def (P := Try.prog) (t := 51)]; first | (refine dec_split (Q := Q_) (fun hp_ => ?_) (fun hp_ => ?_) <;> first | (exfalso; omega) | (refine hQ_ _ _ ?_; clear hQ_ Q_)) | (refine dec_splitn (Q := Q_) (fun hp_ => ?_) (fun hp_ => ?_) <;> first | (exfalso; omega) | (refine hQ_ _ _ ?_; clear hQ_ Q_)) | (refine hQ_ _ _ ?_; clear hQ_ Q_)))
  | (refine WC_cond fun K_ hK_ => ?_; simp (disch := omega) only [evT_tmp, upd_apply, WB_some, ↓reduceIte, reduceCtorEq, Nat.reduceEqDiff, Nat.reduceLT]; refine hK_ _ ?_; clear hK_ K_)))
      (refine endQ_ret _ _ rfl (ret1 (by decide)) ?_; simp only [upd_apply, ↓reduceIte, reduceCtorEq, Nat.reduceEqDiff]; refine WV_flat rfl (by omega) ?_)
      exact ⟨rfl, rfl⟩
end Go.Proofs.Ytghondkiondeaac
end

/- EvL18 -/
section
/-
  BYTES THAT COME IN.
-/
namespace Go.Ev
open Go.ChangeShapes Go.WideShapes Go.ChangeAt Go.RowKit
section
variable {H : Type} {enc : TypeId × Value → H} {P : Program} {r : Reach} {bs : Nat}
theorem open_u8s {W : World} {t e : TypeId} {v : Value} {fuel : Nat} {x : DataW H × List MemPlace} (hu : P.underlying t = some (.slice e)) (he : P.underlying e = some (.int .u8)) (hc : P.cellsOf e = 1)
    (hval : Cell.okWide P W r bs t v) (h : DataW.trod enc P W 0 (fun _ => true) true fuel t [v] = some x) :
    ∃ (xs : List Int) (b : AV), VR (startWR W) b v ∧ Sl (startW W) b 1 xs.length (xs.map fun n => .int .u8 n) ∧ ∀ n ∈ xs, 0 ≤ n ∧ n ≤ 255 := by
  rcases slice_form hu hval with rfl | ⟨b, off, len, cap, rfl, hlc, hex⟩
  · exact ⟨[], .nils, .nils, Sl.nil _ _, fun n hn => by cases hn⟩
  · rcases open_ints hu he hc h with ⟨h0, _⟩ | ⟨a, len', cap', zs, h0, _, _, _, hz, _, hcell, hwf⟩
    · cases h0
    · cases h0
      simp only [if_true] at hz
      have hlen : (zs.take len).length = len := by rw [List.length_take]; omega
      refine ⟨zs.take len, .sl (posN b) off len (some cap) 0, startW_arg (lt_of_block hex) hlc, ?_, fun n hn => ?_⟩
      · rw [hlen]
        refine startW_sl hex (by rw [List.length_map, hlen]; omega) (fun k hk => ⟨.int .u8 (zs.getD k 0), ?_, ?_⟩)
        · rw [← add_at]; exact hcell k (by omega)
        · rw [show absV (NW W) (.int .u8 (zs.getD k 0)) = some (.int .u8 (zs.getD k 0)) from rfl, List.getElem?_map, List.getElem?_take_of_lt (by omega), List.getElem?_eq_getElem (by omega)]
          simp [show k < zs.length by omega]
      · have := hwf n (List.mem_of_mem_take hn)
        unfold Lit.wf at this
        rw [Bool.and_eq_true] at this
        exact ⟨of_decide_eq_true this.1, of_decide_eq_true this.2⟩
end
end Go.Ev
end

/- EvP4 -/
section
/- The statement BoxNarrower of layer 2: with a range that is narrower no span becomes wider, and with ranges of one number each both ends are the number of the one true hull, for all hulls, kinds, places and numbers; no condition. -/
namespace Go.Proofs.Ytghondkiondeaac.boxNarrower
open Go.ChangeShapes Go.WideShapes Go.ChangeAt Go.RowKit Go.Ev
set_option maxRecDepth 100000
set_option maxHeartbeats 0
theorem cells5 : Try.prog.cellsOf 5 = 1 := by kernel_rfl
theorem okWideU8 {W : World} {t : TypeId} {v : Value} {r : Reach} {bs : Nat} (hu : Try.prog.underlying t = some (.int .u8)) (h : Cell.okWide Try.prog W r bs t v) : ∃ n, v = .int .u8 n ∧ 0 ≤ n ∧ n ≤ 255 := by
  unfold Cell.okWide at h
  rw [hu] at h
  have h' : Cell.ok Try.prog W r bs t v := by cases v <;> exact h
  unfold Cell.ok at h'
  rw [hu] at h'
  cases v with
  | int k' n =>
    obtain ⟨rfl, h1, h2⟩ := h'
    exact ⟨n, rfl, h1, h2⟩
  | _ => exact h'.elim

section
variable {H : Type} {enc : TypeId × Value → H} {r : Reach} {bs : Nat}
theorem hull_in2 {W : World} {v : Value} {fuel : Nat} {x : DataW H × List MemPlace} (hval : Value.okWide Try.prog W r bs 24 v) (h : DataW.trod enc Try.prog W 0 (fun _ => true) true fuel 24 v.cells.toList = some x) :
    ∃ sp st a rvs rows, VR (startWR W) (.agg [ii sp, ii st, a]) v ∧ HullR (startW W) a rvs rows ∧ ∀ (i : Nat) v, rvs[i]? = some v → Cape 2 v := by
  obtain ⟨f0, f1, f2, hu, o0, o1, o2, t0, t1, t2⟩ := under24
  obtain ⟨g0, g1, hg, p0, p1, q0, q1⟩ := under70
  obtain ⟨u, w, z, n, y1, y2, y3, rfl, k0, k1, k2, r0, r1, r2⟩ := open_three hu cells24 o0 o1 o2 t0 t1 t2 cells2 cells2 cells22 types24 hval h
  obtain ⟨sp, h1, _⟩ := DataW.trod_int Try.underlying2 r0
  cases h1
  obtain ⟨st, h2, _⟩ := DataW.trod_int Try.underlying2 r1
  cases h2
  obtain ⟨rows, vs, a, va, ca, sa, hrow⟩ := open_rows (α := List (Int × Int)) (R := fun u row => Row (startW W) u 2 row.length (pairCells row) ∧ Capd u) Try.underlying22 cells46 k2 r2 (fun u n y hy => by
    obtain ⟨sp, b, h1, h2, h3⟩ := open_row_pairs Try.underlying52 hg cells70 p0 p1 q0 q1 Try.underlying2 cells2 hy
    exact ⟨sp, b, h1, h3, h2⟩)
  refine ⟨sp, st, a, vs, rows, .agg _ _ (.cons _ _ _ _ (.int _ _) (.cons _ _ _ _ (.int _ _) (.cons _ _ _ _ va .nil))), ⟨startW_wf W, sa, fun i hi => let ⟨u, h1, h2, h3⟩ := hrow i hi; ⟨u, h1, h2⟩⟩, fun i v hv => ?_⟩
  have hl : vs.length = rows.length := by have := sa.1; omega
  have hi := (List.getElem?_eq_some_iff.1 hv).1
  obtain ⟨u, h1, h2, h3⟩ := hrow i (by omega)
  rw [hv] at h1
  cases h1
  exact h3.cape 2
theorem arr2_in {W : World} {v : Value} (hval : Value.okWide Try.prog W r bs 51 v) : ∃ a0 a1 : Int, v = .agg #[.int .u8 a0, .int .u8 a1] ∧ (0 ≤ a0 ∧ a0 ≤ 255) ∧ 0 ≤ a1 ∧ a1 ≤ 255 := by
  unfold Value.okWide at hval
  rw [Try.underlying51] at hval
  obtain ⟨cs, rfl, hsz, ts, hts, _, hcell⟩ := hval
  rw [show Try.prog.cellTypes Try.prog.depth 51 = some [5, 5] by kernel_rfl] at hts
  cases hts
  rw [show Try.prog.cellsOf 51 = 2 by kernel_rfl] at hsz
  obtain ⟨l⟩ := cs
  match l, hsz with
  | [u, w], _ =>
    obtain ⟨u1, e1, k1⟩ := hcell 0 u rfl
    obtain ⟨u2, e2, k2⟩ := hcell 1 w rfl
    have e1' : some 5 = some u1 := e1
    have e2' : some 5 = some u2 := e2
    cases e1'
    cases e2'
    obtain ⟨a0, rfl, h0⟩ := okWideU8 Try.underlying5 k1
    obtain ⟨a1, rfl, h1⟩ := okWideU8 Try.underlying5 k2
    exact ⟨a0, a1, rfl, h0, h1⟩
end

theorem contract (H : Type) (enc : TypeId × Value → H) (W : World) (base : Nat) (args : Array Value) (ds gs : List (DataW H)) (before : List MemPlace) (hval : ∀ (j : Nat) t v, Try.f6.params[j]? = some t → args[j]? = some v → Value.okWide Try.prog W .any base t v)
    (hW : DataW.Whole enc Try.prog Try.f6.params.toList Rows.boxNarrowerSpec.vars false W args.toList ds gs before) :
    Calls Try.prog 6 args W fun e W' => ∃ v, e = .returned v ∧ Rows.boxNarrowerSpec.post enc Try.prog Try.f6 false true false false W args v W' := by
  have hW' := hW
  obtain ⟨p, q, hA0, hV, rfl, hfz, hnd⟩ := hW
  have hA : DataW.TrodAll enc Try.prog W 0 (fun _ => true) true Try.f6.params.toList args.toList ds p := hA0
  rw [Try.params6] at hA hval
  obtain ⟨v0, v1, v2, v3, d0, d1, d2, d3, p0, p1, p2, p3, rfl, rfl, rfl, ⟨n0, h0⟩, ⟨n1, h1⟩, ⟨n2, h2⟩, ⟨n3, h3⟩⟩ := trodAll_four hA
  obtain ⟨sp, st, a, rvs, rows, va, xh, hcap⟩ := hull_in2 (hval 0 24 v0 rfl rfl) h0
  obtain ⟨what, hz, hw0⟩ := okWideU8 Try.underlying5 (okWide_cell (P := Try.prog) Try.underlying5 (fun _ e => by cases e) (fun _ _ e => by cases e) (hval 1 5 v1 rfl rfl))
  subst hz
  obtain ⟨a0, a1, rfl, ha0, ha1⟩ := arr2_in (hval 2 51 v2 rfl rfl)
  have kb := okWide_cell (P := Try.prog) Try.underlying32 (fun _ e => by cases e) (fun _ _ e => by cases e) (hval 3 32 v3 rfl rfl)
  rw [slice_cells Try.underlying32 kb] at h3
  obtain ⟨bys, b, vb, sb, hby⟩ := open_u8s Try.underlying32 Try.underlying5 cells5 kb h3
  have walk := lawNarrower sp st what a0 a1 hw0 ha0 ha1 a b rvs rows bys hby (startW W) xh hcap sb
  have hargs : VL (startWR W) [.agg [ii sp, ii st, a], .int .u8 what, .agg [.int .u8 a0, .int .u8 a1], b] (#[v0, .int .u8 what, .agg #[.int .u8 a0, .int .u8 a1], v3] : Array Value).toList :=
    .cons _ _ _ _ va (.cons _ _ _ _ (.int _ _) (.cons _ _ _ _ (.agg _ _ (.cons _ _ _ _ (.int _ _) (.cons _ _ _ _ (.int _ _) .nil))) (.cons _ _ _ _ vb .nil)))
  refine (startW_true (P := Try.prog) mixed (K := KK) (fun c hc => by
    have : c = cW := List.mem_singleton.1 hc
    rw [this]; exact cW_ok) walk hargs).mono fun e W' ⟨he, hgr, hs⟩ => ?_
  subst he
  refine ⟨_, rfl, law_post laidOut (by
    rw [Try.params6]
    intro t ht
    rcases List.mem_cons.1 ht with rfl | ht
    · exact ⟨by kernel_rfl, of_decide_eq_true (by kernel_rfl)⟩
    rcases List.mem_cons.1 ht with rfl | ht
    · exact ⟨by kernel_rfl, of_decide_eq_true (by kernel_rfl)⟩
    rcases List.mem_cons.1 ht with rfl | ht
    · exact ⟨by kernel_rfl, of_decide_eq_true (by kernel_rfl)⟩
    rcases List.mem_cons.1 ht with rfl | ht
    · exact ⟨by kernel_rfl, of_decide_eq_true (by kernel_rfl)⟩
    cases ht) rfl (by kernel_rfl) Try.underlying4 (fun gs' ⟨q', hq⟩ => ?_) hW' hgr hs⟩
  obtain ⟨rfl, _⟩ := trodVars_none hq
  exact ⟨rfl, rfl, rfl⟩

theorem lifted (os : Os) (started : os.Started) (H : Type) (enc : TypeId × Value → H) :
    ReturnsInHanded {} Try.checked os 6 .any (Rows.boxNarrowerSpec.pre6 enc Try.prog Try.f6 Rows.boxNarrowerRow.domain false) (Rows.boxNarrowerSpec.post enc Try.prog Try.f6 false true false false) := by
  refine returnsInHanded_of_change (C := Try.checked) own started (by kernel_rfl) Try.func6
    (ChangeSpec.witness6 (enc := enc) (C := Try.checked) false ⟨#[], #[.agg #[.int .i64 0, .int .i64 0, .slice none 0 0], .int .u8 0, .agg #[.int .u8 0, .int .u8 0], .slice none 0 0], []⟩ 8 (by kernel_rfl) (by kernel_rfl) (by kernel_rfl) (by kernel_rfl)) ?_
  intro W base args ds gs before hval hW _ _
  exact contract H enc W base args ds gs before hval hW

theorem holds : Rows.BoxNarrowerSaid :=
  OpenClaim.holds_of_wide 6 Try.f6 rfl rfl rfl rfl rfl rfl rfl ⟨rfl, rfl, rfl, rfl, rfl⟩ rfl rfl rfl rfl rfl (by kernel_rfl) Try.func6 (by kernel_rfl)
    (of_decide_eq_true (by kernel_rfl)) (by unfold Func.isWrapper; first | (rw [if_pos (by decide +kernel)]; kernel_rfl) | (rw [if_neg (by decide +kernel)]; exact ⟨rfl, rfl⟩))
    (fun os started H enc _ => lifted os started H enc)
end Go.Proofs.Ytghondkiondeaac.boxNarrower
end
