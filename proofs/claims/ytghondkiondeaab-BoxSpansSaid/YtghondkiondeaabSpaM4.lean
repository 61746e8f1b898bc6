import Derived.Test.YtghondkiondeaabSpaM3
import Derived.Test.YtghondkiondeaabChecked
import Derived.KernelRfl
set_option linter.all false
/- EvHf -/
section
/-
  FACTS OF THE PROGRAM: its types and functions.
-/
namespace Go.Proofs.Ytghondkiondeaab
open Go.Ev
set_option maxRecDepth 100000
theorem ia_2 : isAggB Try.prog 2 = some false := by kernel_rfl
theorem sz_2 : sizeE Try.prog 2 = some 1 := by kernel_rfl
theorem ze_2 : zeroE Try.prog 2 = some (.int .i64 (0)) := by kernel_rfl
theorem el_2 : El Try.prog 2 1 8 (.int .i64 (0)) := ⟨by kernel_rfl, by kernel_rfl, rfl⟩
theorem ia_3 : isAggB Try.prog 3 = some false := by kernel_rfl
theorem sz_3 : sizeE Try.prog 3 = some 1 := by kernel_rfl
theorem ia_4 : isAggB Try.prog 4 = some false := by kernel_rfl
theorem sz_4 : sizeE Try.prog 4 = some 1 := by kernel_rfl
theorem ia_22 : isAggB Try.prog 22 = some false := by kernel_rfl
theorem sz_22 : sizeE Try.prog 22 = some 1 := by kernel_rfl
theorem ik_22 : idxKind Try.prog 22 = some (none, 1) := by kernel_rfl
theorem un_22 : Try.prog.underlying 22 = some (.slice 46) := Try.underlying22
theorem ia_24 : isAggB Try.prog 24 = some true := by kernel_rfl
theorem sz_24 : sizeE Try.prog 24 = some 3 := by kernel_rfl
theorem ze_24 : zeroE Try.prog 24 = some (.agg [.int .i64 (0), .int .i64 (0), .nils]) := by kernel_rfl
theorem fo_24_0 : fieldOff Try.prog 24 0 = some 0 := by kernel_rfl
theorem fo_24_1 : fieldOff Try.prog 24 1 = some 1 := by kernel_rfl
theorem fo_24_2 : fieldOff Try.prog 24 2 = some 2 := by kernel_rfl
theorem ia_25 : isAggB Try.prog 25 = some false := by kernel_rfl
theorem sz_25 : sizeE Try.prog 25 = some 1 := by kernel_rfl
theorem bsl_25 (n : Nat) (parts : List (Nat × AV)) (h : H) : buildSliceE Try.prog 25 n parts h = bif Nat.ble (n * 1) 16777216 && Nat.beq 1 1 then (match fillE (fun i => some (i * 1, 1)) (zerosE [.nils] n) parts with | some cs => newSlice 47 cs n n 1 h | none => .no) else .no := by kernel_rfl
theorem ik_25 : idxKind Try.prog 25 = some (none, 1) := by kernel_rfl
theorem un_25 : Try.prog.underlying 25 = some (.slice 47) := Try.underlying25
theorem ni_25 : notInt Try.prog 25 = true := by kernel_rfl
theorem ia_29 : isAggB Try.prog 29 = some true := by kernel_rfl
theorem sz_29 : sizeE Try.prog 29 = some 2 := by kernel_rfl
theorem ze_29 : zeroE Try.prog 29 = some (.agg [.int .i64 (0), .int .i64 (0)]) := by kernel_rfl
theorem fo_29_0 : fieldOff Try.prog 29 0 = some 0 := by kernel_rfl
theorem fo_29_1 : fieldOff Try.prog 29 1 = some 1 := by kernel_rfl
theorem bs_29 (parts : List (Nat × AV)) : buildE Try.prog 29 parts = match fillE (fun i => [(0, 1), (1, 1)][i]?) [.int .i64 (0), .int .i64 (0)] parts with | some cs => some (.agg cs) | none => none := by kernel_rfl
theorem ia_30 : isAggB Try.prog 30 = some false := by kernel_rfl
theorem sz_30 : sizeE Try.prog 30 = some 1 := by kernel_rfl
theorem ze_30 : zeroE Try.prog 30 = some (.int .i64 (0)) := by kernel_rfl
theorem ia_39 : isAggB Try.prog 39 = some true := by kernel_rfl
theorem sz_39 : sizeE Try.prog 39 = some 4 := by kernel_rfl
theorem ze_39 : zeroE Try.prog 39 = some (.agg [.int .i64 (0), .int .i64 (0), .int .i64 (0), .int .i64 (0)]) := by kernel_rfl
theorem fo_39_0 : fieldOff Try.prog 39 0 = some 0 := by kernel_rfl
theorem fo_39_1 : fieldOff Try.prog 39 1 = some 2 := by kernel_rfl
theorem bs_39 (parts : List (Nat × AV)) : buildE Try.prog 39 parts = match fillE (fun i => [(0, 2), (2, 2)][i]?) [.int .i64 (0), .int .i64 (0), .int .i64 (0), .int .i64 (0)] parts with | some cs => some (.agg cs) | none => none := by kernel_rfl
theorem ia_46 : isAggB Try.prog 46 = some false := by kernel_rfl
theorem sz_46 : sizeE Try.prog 46 = some 1 := by kernel_rfl
theorem ik_46 : idxKind Try.prog 46 = some (none, 2) := by kernel_rfl
theorem un_46 : Try.prog.underlying 46 = some (.slice 70) := Try.underlying46
theorem ia_47 : isAggB Try.prog 47 = some false := by kernel_rfl
theorem sz_47 : sizeE Try.prog 47 = some 1 := by kernel_rfl
theorem bsl_47 (n : Nat) (parts : List (Nat × AV)) (h : H) : buildSliceE Try.prog 47 n parts h = bif Nat.ble (n * 1) 16777216 && Nat.beq 1 1 then (match fillE (fun i => some (i * 1, 1)) (zerosE [.int .i64 (0)] n) parts with | some cs => newSlice 2 cs n n 1 h | none => .no) else .no := by kernel_rfl
theorem el_47 : El Try.prog 47 1 24 (.nils) := ⟨by kernel_rfl, by kernel_rfl, rfl⟩
theorem ik_47 : idxKind Try.prog 47 = some (none, 1) := by kernel_rfl
theorem un_47 : Try.prog.underlying 47 = some (.slice 2) := Try.underlying47
theorem ni_47 : notInt Try.prog 47 = true := by kernel_rfl
theorem ia_52 : isAggB Try.prog 52 = some true := by kernel_rfl
theorem sz_52 : sizeE Try.prog 52 = some 3 := by kernel_rfl
theorem ze_52 : zeroE Try.prog 52 = some (.agg [.int .i64 (0), .int .i64 (0), .nils]) := by kernel_rfl
theorem fo_52_0 : fieldOff Try.prog 52 0 = some 0 := by kernel_rfl
theorem bs_52 (parts : List (Nat × AV)) : buildE Try.prog 52 parts = match fillE (fun i => [(0, 3)][i]?) [.int .i64 (0), .int .i64 (0), .nils] parts with | some cs => some (.agg cs) | none => none := by kernel_rfl
theorem ik_54 : idxKind Try.prog 54 = some (some 6, 1) := by kernel_rfl
theorem un_54 : Try.prog.underlying 54 = some (.array 6 2) := Try.underlying54
theorem ia_56 : isAggB Try.prog 56 = some true := by kernel_rfl
theorem sz_56 : sizeE Try.prog 56 = some 60 := by kernel_rfl
theorem ze_56 : zeroE Try.prog 56 = some (.agg [.int .i64 (0), .int .i64 (0), .int .i64 (0), .int .i64 (0), .int .i64 (0), .int .i64 (0), .int .i64 (0), .int .i64 (0), .int .i64 (0), .int .i64 (0), .int .i64 (0), .int .i64 (0), .int .i64 (0), .int .i64 (0), .int .i64 (0), .int .i64 (0), .int .i64 (0), .int .i64 (0), .int .i64 (0), .int .i64 (0), .int .i64 (0), .int .i64 (0), .int .i64 (0), .int .i64 (0), .int .i64 (0), .int .i64 (0), .int .i64 (0), .int .i64 (0), .int .i64 (0), .int .i64 (0), .int .i64 (0), .int .i64 (0), .int .i64 (0), .int .i64 (0), .int .i64 (0), .int .i64 (0), .int .i64 (0), .int .i64 (0), .int .i64 (0), .int .i64 (0), .int .i64 (0), .int .i64 (0), .int .i64 (0), .int .i64 (0), .int .i64 (0), .int .i64 (0), .int .i64 (0), .int .i64 (0), .int .i64 (0), .int .i64 (0), .int .i64 (0), .int .i64 (0), .int .i64 (0), .int .i64 (0), .int .i64 (0), .int .i64 (0), .int .i64 (0), .int .i64 (0), .int .i64 (0), .int .i64 (0)]) := by kernel_rfl
theorem ik_56 : idxKind Try.prog 56 = some (some 10, 6) := by kernel_rfl
theorem ia_62 : isAggB Try.prog 62 = some false := by kernel_rfl
theorem sz_62 : sizeE Try.prog 62 = some 1 := by kernel_rfl
theorem ia_70 : isAggB Try.prog 70 = some true := by kernel_rfl
theorem sz_70 : sizeE Try.prog 70 = some 2 := by kernel_rfl
theorem ze_70 : zeroE Try.prog 70 = some (.agg [.int .i64 (0), .int .i64 (0)]) := by kernel_rfl
theorem fo_70_0 : fieldOff Try.prog 70 0 = some 0 := by kernel_rfl
theorem fo_70_1 : fieldOff Try.prog 70 1 = some 1 := by kernel_rfl
theorem ia_75 : isAggB Try.prog 75 = some true := by kernel_rfl
theorem sz_75 : sizeE Try.prog 75 = some 5 := by kernel_rfl
theorem ze_75 : zeroE Try.prog 75 = some (.agg [.int .i64 (0), .int .i64 (0), .int .i64 (0), .int .i64 (0), .int .i64 (0)]) := by kernel_rfl
theorem fo_75_0 : fieldOff Try.prog 75 0 = some 0 := by kernel_rfl
theorem fo_75_1 : fieldOff Try.prog 75 1 = some 2 := by kernel_rfl
theorem fo_75_2 : fieldOff Try.prog 75 2 = some 3 := by kernel_rfl
theorem fo_75_3 : fieldOff Try.prog 75 3 = some 4 := by kernel_rfl
theorem bs_75 (parts : List (Nat × AV)) : buildE Try.prog 75 parts = match fillE (fun i => [(0, 2), (2, 1), (3, 1), (4, 1)][i]?) [.int .i64 (0), .int .i64 (0), .int .i64 (0), .int .i64 (0), .int .i64 (0)] parts with | some cs => some (.agg cs) | none => none := by kernel_rfl
theorem ia_77 : isAggB Try.prog 77 = some false := by kernel_rfl
theorem sz_77 : sizeE Try.prog 77 = some 1 := by kernel_rfl
theorem ia_91 : isAggB Try.prog 91 = some true := by kernel_rfl
theorem sz_91 : sizeE Try.prog 91 = some 2 := by kernel_rfl
theorem ze_91 : zeroE Try.prog 91 = some (.agg [.int .i64 (0), .int .i64 (0)]) := by kernel_rfl
theorem fo_91_0 : fieldOff Try.prog 91 0 = some 0 := by kernel_rfl
theorem fo_91_1 : fieldOff Try.prog 91 1 = some 1 := by kernel_rfl
theorem bs_91 (parts : List (Nat × AV)) : buildE Try.prog 91 parts = match fillE (fun i => [(0, 1), (1, 1)][i]?) [.int .i64 (0), .int .i64 (0)] parts with | some cs => some (.agg cs) | none => none := by kernel_rfl
theorem ia_94 : isAggB Try.prog 94 = some true := by kernel_rfl
theorem sz_94 : sizeE Try.prog 94 = some 10 := by kernel_rfl
theorem ze_94 : zeroE Try.prog 94 = some (.agg [.int .i64 (0), .int .i64 (0), .int .i64 (0), .int .i64 (0), .int .i64 (0), .int .i64 (0), .int .i64 (0), .int .i64 (0), .int .i64 (0), .int .i64 (0)]) := by kernel_rfl
theorem ik_94 : idxKind Try.prog 94 = some (some 10, 1) := by kernel_rfl
theorem pb_5 : plainB Try.prog 5 = true := by kernel_rfl
theorem pb_6 : plainB Try.prog 6 = true := by kernel_rfl
theorem pb_7 : plainB Try.prog 7 = true := by kernel_rfl
theorem pb_8 : plainB Try.prog 8 = true := by kernel_rfl
theorem pb_9 : plainB Try.prog 9 = true := by kernel_rfl
theorem pb_10 : plainB Try.prog 10 = true := by kernel_rfl
theorem pb_11 : plainB Try.prog 11 = true := by kernel_rfl
theorem pb_12 : plainB Try.prog 12 = true := by kernel_rfl
theorem pb_13 : plainB Try.prog 13 = true := by kernel_rfl
theorem pb_14 : plainB Try.prog 14 = true := by kernel_rfl
theorem pb_15 : plainB Try.prog 15 = true := by kernel_rfl
theorem pb_16 : plainB Try.prog 16 = true := by kernel_rfl
theorem pb_17 : plainB Try.prog 17 = true := by kernel_rfl
theorem pb_18 : plainB Try.prog 18 = true := by kernel_rfl
theorem pb_19 : plainB Try.prog 19 = true := by kernel_rfl
theorem pb_20 : plainB Try.prog 20 = true := by kernel_rfl
theorem pb_24 : plainB Try.prog 24 = true := by kernel_rfl
theorem pb_25 : plainB Try.prog 25 = true := by kernel_rfl
theorem pb_26 : plainB Try.prog 26 = true := by kernel_rfl
theorem pb_27 : plainB Try.prog 27 = true := by kernel_rfl
theorem pb_28 : plainB Try.prog 28 = true := by kernel_rfl
theorem pb_29 : plainB Try.prog 29 = true := by kernel_rfl
theorem pb_30 : plainB Try.prog 30 = true := by kernel_rfl
theorem pb_31 : plainB Try.prog 31 = true := by kernel_rfl
theorem pb_32 : plainB Try.prog 32 = true := by kernel_rfl
theorem pb_33 : plainB Try.prog 33 = true := by kernel_rfl
theorem pb_34 : plainB Try.prog 34 = true := by kernel_rfl
theorem pb_35 : plainB Try.prog 35 = true := by kernel_rfl
theorem pb_36 : plainB Try.prog 36 = true := by kernel_rfl
theorem pb_37 : plainB Try.prog 37 = true := by kernel_rfl
theorem pb_38 : plainB Try.prog 38 = true := by kernel_rfl
theorem pb_39 : plainB Try.prog 39 = true := by kernel_rfl
theorem pb_40 : plainB Try.prog 40 = true := by kernel_rfl
theorem pb_41 : plainB Try.prog 41 = true := by kernel_rfl
theorem pb_42 : plainB Try.prog 42 = true := by kernel_rfl
theorem pb_43 : plainB Try.prog 43 = true := by kernel_rfl
theorem pb_44 : plainB Try.prog 44 = true := by kernel_rfl
theorem pb_45 : plainB Try.prog 45 = true := by kernel_rfl
theorem pb_46 : plainB Try.prog 46 = true := by kernel_rfl
theorem pb_47 : plainB Try.prog 47 = true := by kernel_rfl
theorem pb_48 : plainB Try.prog 48 = true := by kernel_rfl
theorem pb_49 : plainB Try.prog 49 = true := by kernel_rfl
theorem pb_50 : plainB Try.prog 50 = true := by kernel_rfl
theorem pb_51 : plainB Try.prog 51 = true := by kernel_rfl
theorem pb_52 : plainB Try.prog 52 = true := by kernel_rfl
theorem pb_53 : plainB Try.prog 53 = true := by kernel_rfl
theorem pb_54 : plainB Try.prog 54 = true := by kernel_rfl
theorem pb_55 : plainB Try.prog 55 = true := by kernel_rfl
theorem pb_56 : plainB Try.prog 56 = true := by kernel_rfl
theorem pb_57 : plainB Try.prog 57 = true := by kernel_rfl
end Go.Proofs.Ytghondkiondeaab
end

/- EvL12 -/
section
/-
  STRUCTS OF TWO NUMBERS, HELD AGAINST ONE ANOTHER.
-/
namespace Go.Ev
section
variable {P : Program}
theorem pureRun_seq {α β : Type} {s : Sem α} {f : α → Sem β} : pureRun P (s >>= f) = (pureRun P s).bind fun a => pureRun P (f a) := by
  show pureRun P (Sem.bind s f) = _
  induction s with
  | pure b => rfl
  | program k ih => exact ih P
  | _ => rfl
theorem pureRun_pure {α : Type} {a : α} : pureRun P (Pure.pure a : Sem α) = some a := rfl
theorem pureRun_program : pureRun P program = some P := rfl
theorem pureRun_isAgg {t : TypeId} {k : IntKind} (hu : P.underlying t = some (.int k)) : pureRun P (isAgg t) = some false := by
  unfold isAgg
  rw [pureRun_seq, pureRun_underlying hu]
  rfl
theorem pureRun_part {t : TypeId} {k : IntKind} {cs : Array Value} {off : Nat} {v : Value} (hu : P.underlying t = some (.int k)) (hv : cs[off]? = some v) : pureRun P (part t cs off) = some v := by
  unfold part
  rw [pureRun_seq, pureRun_isAgg hu]
  simp only [Option.bind_some, hv]
  rfl
theorem pureRun_eqInt {t : TypeId} {k : IntKind} {d : Nat} {a b : Int} (hu : P.underlying t = some (.int k)) : pureRun P (Op.equalIn (d + 1) t (.int .i64 a) (.int .i64 b)) = some (a == b) := by
  rw [Op.equalIn, pureRun_seq, pureRun_underlying hu]
  rfl
theorem pureRun_eqTwo {t : TypeId} {f0 f1 : Field} {k0 k1 : IntKind} {d : Nat} {a b c e : Int} (hu : P.underlying t = some (.struct #[f0, f1])) (h0 : P.underlying f0.type = some (.int k0)) (h1 : P.underlying f1.type = some (.int k1)) (o0 : f0.offset = 0) (o1 : f1.offset = 1)
    (n0 : f0.name ≠ "_") (n1 : f1.name ≠ "_") (hs : P.stoodInHeld t = false) : pureRun P (Op.equalIn (d + 2) t (.agg #[.int .i64 a, .int .i64 b]) (.agg #[.int .i64 c, .int .i64 e])) = some (a == c && b == e) := by
  rw [Op.equalIn, pureRun_seq, pureRun_underlying hu]
  simp only [Option.bind_some]
  rw [pureRun_seq, pureRun_program]
  simp only [Option.bind_some, hs]
  simp [pureRun_seq, n0, n1, o0, o1, pureRun_part h0 (v := .int .i64 a) (cs := #[.int .i64 a, .int .i64 b]) (off := 0) rfl, pureRun_part h0 (v := .int .i64 c) (cs := #[.int .i64 c, .int .i64 e]) (off := 0) rfl, pureRun_eqInt h0]
  by_cases hac : a = c
  · rw [if_pos hac]
    have hb : (a == c) = true := by simpa using hac
    simp [hb, pureRun_pure, pureRun_seq, pureRun_part h1 (v := .int .i64 b) (cs := #[.int .i64 a, .int .i64 b]) (off := 1) rfl, pureRun_part h1 (v := .int .i64 e) (cs := #[.int .i64 c, .int .i64 e]) (off := 1) rfl, pureRun_eqInt h1]
    by_cases hbe : b = e
    · rw [if_pos hbe]; simp [hbe, pureRun_pure]
    · rw [if_neg hbe]; simp [hbe, pureRun_pure]
  · rw [if_neg hac]
    have hb : (a == c) = false := by simpa using hac
    rw [hb]; rfl
theorem b_eql2 {t : TypeId} {x y : Operand} {f0 f1 : Field} {k0 k1 : IntKind} {a b c e : Int} (hu : P.underlying t = some (.struct #[f0, f1])) (h0 : P.underlying f0.type = some (.int k0)) (h1 : P.underlying f1.type = some (.int k1)) (o0 : f0.offset = 0) (o1 : f1.offset = 1)
    (n0 : f0.name ≠ "_") (n1 : f1.name ≠ "_") (hs : P.stoodInHeld t = false) (hg : P.eqGuardType P.depth t = false) : binE P .eql t x y (.agg [.int .i64 a, .int .i64 b]) (.agg [.int .i64 c, .int .i64 e]) = some (.bool (a == c && b == e)) := by
  have es : binSlow P .eql t x y (.agg [.int .i64 a, .int .i64 b]) (.agg [.int .i64 c, .int .i64 e]) = pureVal P (do eqGuard .eql t x y (.agg #[.int .i64 a, .int .i64 b]) (.agg #[.int .i64 c, .int .i64 e]); binOp .eql t (.agg #[.int .i64 a, .int .i64 b]) (.agg #[.int .i64 c, .int .i64 e])) := rfl
  have eb : binE P .eql t x y (.agg [.int .i64 a, .int .i64 b]) (.agg [.int .i64 c, .int .i64 e]) = binSlow P .eql t x y (.agg [.int .i64 a, .int .i64 b]) (.agg [.int .i64 c, .int .i64 e]) := rfl
  rw [eb, es]
  have e1 : pureRun P (eqGuard .eql t x y (.agg #[.int .i64 a, .int .i64 b]) (.agg #[.int .i64 c, .int .i64 e])) = some () := by
    unfold eqGuard
    simp [pureRun_seq, pureRun_program, hg, pureRun_pure]
  have e2 : pureRun P (binOp .eql t (.agg #[.int .i64 a, .int .i64 b]) (.agg #[.int .i64 c, .int .i64 e])) = some (.bool (a == c && b == e)) := by
    show pureRun P (do pure (Value.bool (← Op.equalIn 10000 t (.agg #[.int .i64 a, .int .i64 b]) (.agg #[.int .i64 c, .int .i64 e])))) = _
    rw [pureRun_seq, show (10000 : Nat) = 9998 + 2 from rfl, pureRun_eqTwo hu h0 h1 o0 o1 n0 n1 hs]
    rfl
  unfold pureVal
  rw [pureRun_seq, e1]
  simp only [Option.bind_some]
  rw [e2]
  rfl
theorem b_eql2_self {t : TypeId} {x y : Operand} {f0 f1 : Field} {k0 k1 : IntKind} {a b : Int} (hu : P.underlying t = some (.struct #[f0, f1])) (h0 : P.underlying f0.type = some (.int k0)) (h1 : P.underlying f1.type = some (.int k1)) (o0 : f0.offset = 0) (o1 : f1.offset = 1)
    (n0 : f0.name ≠ "_") (n1 : f1.name ≠ "_") (hs : P.stoodInHeld t = false) (hg : P.eqGuardType P.depth t = false) : binE P .eql t x y (.agg [.int .i64 a, .int .i64 b]) (.agg [.int .i64 a, .int .i64 b]) = some (.bool true) := by
  rw [b_eql2 hu h0 h1 o0 o1 n0 n1 hs hg]; simp
end
end Go.Ev
end

/- EvL14 -/
section
/-
  SLICES THAT ARE MADE; copies into shorter ones.
-/
namespace Go.Ev
section
variable {P : Program}
theorem zerosE_one (z : AV) : ∀ n, zerosE [z] n = List.replicate n z
  | 0 => rfl
  | n + 1 => by show [z] ++ zerosE [z] n = _; rw [zerosE_one z n]; rfl
theorem makeSlice_X {h0 : H} (wf : Wf h0) {t e size bytes n : Nat} {z : AV} {l : List AO} {w : Nat} (hu : P.underlying t = some (.slice e)) (hz : sizeE P e = some size) (E : El P e size bytes z) (hn : n ≤ 1000) (hb : bytes ≤ 100000) (h1 : z.cells = [z]) :
    makeSliceE P t (.int .i64 (n : Int)) (.int .i64 (n : Int)) (X h0 l w) = .ok (.sl (nx h0 l.length) 0 n (some n) size) (X h0 (l ++ [.cells (mkCells (List.replicate n z)) e]) w) := by
  obtain ⟨i, hi, rfl⟩ := Option.map_eq_some_iff.1 E.info
  have hs : i.size = size := by
    unfold sizeE at hz
    rw [hi] at hz
    dsimp only at hz
    rw [forceNat_eq] at hz
    exact Option.some.inj hz
  unfold makeSliceE
  rw [hu]
  dsimp only
  rw [hi, E.zero]
  dsimp only
  rw [toNatE_lit]
  dsimp only
  have hc : (Nat.ble n n && Nat.ble n 1048576 && Nat.ble (i.bytes * n) 281474976710656 && Nat.beq z.cells.length i.size) = true := by
    have h2 : i.bytes * n ≤ 100000 * 1000 := Nat.mul_le_mul hb hn
    rw [E.cells, hs, Nat.ble_eq_true_of_le (Nat.le_refl n), Nat.ble_eq_true_of_le (show n ≤ 1048576 by omega), Nat.ble_eq_true_of_le (show i.bytes * n ≤ 281474976710656 by omega)]
    simp
  rw [hc]
  dsimp only [cond]
  rw [newSlice_X wf, h1, zerosE_one, hs]
theorem copyE_min {h0 : H} (wf : Wf h0) {t e ee : TypeId} {size n len off esz k w : Nat} {cap : Option Nat} {x : AV} {cs old : List AV} {l : List AO} (hu : P.underlying t = some (.slice e)) (hz : sizeE P e = some size)
    (hs : srcCells (X h0 l w) size x = some (n, cs)) (hn : len ≠ 0) (hl : len < n) (hc : cs.length = n * size) (hk : l[k]? = some (.cells (mkCells old) ee)) (ho : off + len * size ≤ old.length) (h1 : allOne (cs.take (len * size)) = true) :
    copyE P t (.sl (nx h0 k) off len cap esz) x (X h0 l w) = .ok (.int .i64 (len : Int)) (X h0 (l.set k (.cells (mkCells (splice old off (cs.take (len * size)))) ee)) (min (h0.clock + k) w)) := by
  unfold copyE
  rw [hu]
  dsimp only
  rw [hz]
  dsimp only
  rw [hs]
  dsimp only
  have hb : Nat.ble n len = false := by
    cases h : Nat.ble n len with
    | false => rfl
    | true => have := Nat.le_of_ble_eq_true h; omega
  rw [forceNat_eq, hb]
  dsimp only [cond]
  rw [show Nat.beq len 0 = false from by rw [beq_dec]; exact decide_eq_false hn]
  dsimp only
  have hle : len * size ≤ n * size := Nat.mul_le_mul_right _ (by omega)
  rw [writeCells_new wf hk (by rw [List.length_take]; omega) h1]
  rfl
end
end Go.Ev
end

/- EvL15 -/
section
/-
  STRUCTS OF TWO NUMBERS THAT DIFFER; TRUTHS HELD AGAINST ONE ANOTHER.
-/
namespace Go.Ev
section
variable {P : Program}
end
end Go.Ev
end

/- EvL16 -/
section
/-
  THE EQUATIONS OF LISTS, TOGETHER.
-/
namespace Go.Ev
theorem bp : type_of% (And.intro (And.intro (And.intro (And.intro (@List.append_assoc.{0}) (@List.length_append.{0})) (And.intro (@List.length_cons.{0}) (@List.length_nil.{0}))) (And.intro (And.intro (@List.cons_append.{0}) (@List.nil_append.{0})) (And.intro (@List.append_nil.{0}) (And.intro (@List.getElem?_cons_zero.{0}) (@List.getElem?_cons_succ.{0}))))) (And.intro (And.intro (And.intro (@List.set_cons_zero.{0}) (@List.set_cons_succ.{0})) (And.intro (@List.drop_zero.{0}) (@List.drop_succ_cons.{0}))) (And.intro (And.intro (@List.take_zero.{0}) (@List.take_succ_cons.{0})) (And.intro (@List.take_nil.{0}) (And.intro (@List.drop_nil.{0}) (@List.toList_toArray.{0})))))) := And.intro (And.intro (And.intro (And.intro (@List.append_assoc.{0}) (@List.length_append.{0})) (And.intro (@List.length_cons.{0}) (@List.length_nil.{0}))) (And.intro (And.intro (@List.cons_append.{0}) (@List.nil_append.{0})) (And.intro (@List.append_nil.{0}) (And.intro (@List.getElem?_cons_zero.{0}) (@List.getElem?_cons_succ.{0}))))) (And.intro (And.intro (And.intro (@List.set_cons_zero.{0}) (@List.set_cons_succ.{0})) (And.intro (@List.drop_zero.{0}) (@List.drop_succ_cons.{0}))) (And.intro (And.intro (@List.take_zero.{0}) (@List.take_succ_cons.{0})) (And.intro (@List.take_nil.{0}) (And.intro (@List.drop_nil.{0}) (@List.toList_toArray.{0})))))

section
variable {P : Program}
/-- A slice whose cells have the size that its type says, if its room is not known. -/
def Cape (m : Nat) (a : AV) : Prop := ∀ id off l esz, a = .sl id off l none esz → esz = m
theorem Capd.cape {a : AV} (h : Capd a) (m : Nat) : Cape m a := fun id off l esz e => absurd e (h.1 id off l esz)
/-- As Grow.append; what else lies there stays. -/
theorem Grow.appendK {h : H} (wf : Wf h) {L0 G : List AO} {v : AV} {sz e len bytes : Nat} {z : AV} {cs : List AV} (g : Grow h L0 G v sz e len cs) {t : TypeId} (hu : P.underlying t = some (.slice e)) (hz : sizeE P e = some sz) (E : El P e sz bytes z)
    {n : Nat} {new : List AV} {x : AV} (hn : len + n ≤ 10000000) (hn0 : n ≠ 0) (hb : bytes ≤ 100000) (hc : new.length = n * sz) (ho : allOne new = true) (hs : ∀ w, srcCells (X h (L0 ++ G) w) sz x = some (n, new)) :
    ∃ v' G', Grow h L0 G' v' sz e (len + n) (cs ++ new) ∧ (∀ (j : Nat) m' e', e' ≠ e → G[j]? = some (AO.cells m' e') → G'[j]? = some (AO.cells m' e')) ∧ (∀ w, h.clock ≤ w → ∃ w', h.clock ≤ w' ∧ w' ≤ w ∧ appendE P t v x (X h (L0 ++ G) w) = .ok v' (X h (L0 ++ G') w')) := by
  obtain ⟨hl, ⟨rfl, rfl⟩ | ⟨idx, rfl, hg⟩⟩ := g
  · have hcs : cs = [] := List.length_eq_zero_iff.1 (by simpa using hl)
    subst hcs
    refine ⟨.sl (nx h (L0.length + G.length)) 0 n none sz, G ++ [.cells (mkCells new) e], ⟨by simpa using hc, .inr ⟨G.length, by rw [Nat.zero_add], by simp⟩⟩, fun j m' e' _ hj => by rw [List.getElem?_append_left (List.getElem?_eq_some_iff.1 hj).1]; exact hj, fun w hw => ⟨w, hw, Nat.le_refl w, ?_⟩⟩
    have := append_nils (P := P) wf hu hz E (x := x) (l := L0 ++ G) (w := w) (by omega) hn0 hb (hs w) hc
    rw [List.length_append, List.append_assoc] at this
    exact this
  · have hi := (List.getElem?_eq_some_iff.1 hg).1
    refine ⟨.sl (nx h (L0.length + G.length)) 0 (len + n) none sz, G.set idx .dead ++ [.cells (mkCells (cs ++ new)) e], ⟨by rw [List.length_append, hl, hc, Nat.add_mul], .inr ⟨G.length, rfl, ?_⟩⟩, fun j m' e' he hj => ?_, fun w hw => ⟨min (h.clock + (L0.length + idx)) w, by omega, Nat.min_le_right _ _, ?_⟩⟩
    rotate_right 1
    · have := append_more (P := P) wf hu hz E (x := x) (k := L0.length + idx) (l := L0 ++ G) (w := w) hn hn0 hb (by rw [app_len]; exact hg) hl (hs w) hc ho
      rw [List.length_append, set_app_len, List.append_assoc] at this
      exact this
    · rw [List.getElem?_append_right (by simp)]; simp
    · have hne : idx ≠ j := fun e1 => by
        subst e1
        rw [hg] at hj
        cases hj
        exact he rfl
      rw [List.getElem?_append_left (by rw [List.length_set]; exact (List.getElem?_eq_some_iff.1 hj).1), List.getElem?_set_ne hne]
      exact hj
end
end Go.Ev
end

/- EvHk -/
section
/-
  The contract of the closed part of layer 2: its text alone.
-/
namespace Go.Proofs.Ytghondkiondeaab
open Go.Ev
noncomputable def cW : Con := ⟨6, [], [], (.bool true), []⟩
noncomputable def KK : List Con := [cW]
end Go.Proofs.Ytghondkiondeaab
end

/- EvH1 -/
section
/-
  LAYER 2: small functions: fractions, weights, ranges.
-/
namespace Go.Proofs.Ytghondkiondeaab
open Go.Ev
set_option maxRecDepth 100000
set_option linter.unusedSimpArgs false
set_option linter.unusedVariables false
set_option maxHeartbeats 2000000
theorem tEvH1 : type_of% (And.intro (And.intro (And.intro (And.intro (@bs_29) (@ia_2)) (And.intro (@sz_2) (@ia_3))) (And.intro (And.intro (@sz_3) (@ia_29)) (And.intro (@sz_29) (@ze_29)))) (And.intro (And.intro (And.intro (@ia_70) (@sz_70)) (And.intro (@fo_70_0) (@fo_70_1))) (And.intro (And.intro (@pb_57) (@pb_45)) (And.intro (@pb_31) (@pb_50))))) := And.intro (And.intro (And.intro (And.intro (@bs_29) (@ia_2)) (And.intro (@sz_2) (@ia_3))) (And.intro (And.intro (@sz_3) (@ia_29)) (And.intro (@sz_29) (@ze_29)))) (And.intro (And.intro (And.intro (@ia_70) (@sz_70)) (And.intro (@fo_70_0) (@fo_70_1))) (And.intro (And.intro (@pb_57) (@pb_45)) (And.intro (@pb_31) (@pb_50))))
abbrev ii (n : Int) : AV := .int .i64 n
abbrev i63 (n : Int) : Prop := 0 ≤ n ∧ n ≤ 9223372036854775807

theorem gcd_step {a b : Int} (ha : 0 ≤ a) (hb : 0 ≤ b) (h : b ≠ 0) : Int.gcd b (a.tmod b) = Int.gcd a b := by
  rw [Int.tmod_eq_emod_of_nonneg ha]
  obtain ⟨x, rfl⟩ := Int.eq_ofNat_of_zero_le ha
  obtain ⟨y, rfl⟩ := Int.eq_ofNat_of_zero_le hb
  show Nat.gcd y (x % y) = Nat.gcd x y
  rw [Nat.gcd_comm, ← Nat.gcd_rec, Nat.gcd_comm]
theorem tmod_lt {a b : Int} (ha : 0 ≤ a) (hb : 0 ≤ b) (h : b ≠ 0) : 0 ≤ a.tmod b ∧ a.tmod b < b := by
  rw [Int.tmod_eq_emod_of_nonneg ha]
  exact ⟨Int.emod_nonneg _ h, Int.emod_lt_of_pos _ (by omega)⟩

theorem divisor (a b : Int) (ha : i63 a) (hb : i63 b) (h : H) (wf : Wf h) : (om Try.prog KK).call (.fn 57 [ii a, ii b]) h = .ok (ii (Int.gcd a b)) h := by
  refine WV_to (WV_call (fn := Try.f57) Try.func57 rfl rfl rfl rfl rfl ?_)
  simp only [argF]
  (repeat' (first
  | (with_reducible first | refine WC_seq ?_ | refine WC_skip ?_ | refine WC_label ?_ | refine WC_scope ?_ | refine WC_block ?_ | refine WC_ret ?_ | refine WC_exit ?_ | refine seqQ_norm ?_ | refine seqQ_ret ?_ | refine seqQ_exit ?_ | refine blkQ_norm ?_ | refine blkQ_ret ?_ | refine blkQ_here ?_ | refine gateK_yes ?_ | refine gateK_none ?_ | refine condK_tt ?_ | refine condK_ff ?_ | refine roundQ_exit ?_ | refine roundQ_ret ?_)
  | refine WC_region ?_ | refine blkQ_out rfl ?_ | refine WO_nil ?_ | refine WD_nil ?_
  | ((first | refine WD_gate rfl rfl rfl rfl rfl fun K_ hK_ => ?_ | refine WO_gate rfl rfl rfl rfl rfl fun K_ hK_ => ?_); simp only [upd_apply, asB_bool, asB_tup, ↓reduceIte, reduceCtorEq, Nat.reduceEqDiff, Bool.not_true, Bool.not_false]; refine hK_ _ ?_; clear hK_ K_)
  | refine gateK_no (by decide) ?_
  | ((try first | refine WO_op rfl rfl rfl ?_ | refine WO_op0 rfl rfl ?_ | refine WD_op rfl rfl rfl ?_ | refine WD_op0 rfl rfl ?_); (refine WV_gen fun Q_ hQ_ => ?_; simp (disch := first | omega | (simp only [List.length_cons, List.length_nil, List.length_append]; omega)) only [bb, bp, argF, ↓reduceIte, reduceCtorEq, Nat.reduceEqDiff, Nat.reduceLT, Nat.reduceLeDiff, Nat.reduceAdd, Nat.reduceMul, Nat.reduceSub, Nat.reduceBEq, Int.reduceToNat, cond_true, cond_false, eq_self, beq_self_eq_true]; first | (refine dec_split (Q := Q_) (fun hp_ => ?_) (fun hp_ => ?_) <;> first | (exfalso; omega) | (refine hQ_ _ _ ?_; clear hQ_ Q_)) | (refine dec_splitn (Q := Q_) (fun hp_ => ?_) (fun hp_ => ?_) <;> first | (exfalso; omega) | (refine hQ_ _ _ ?_; clear hQ_ Q_)) | (refine hQ_ _ _ ?_; clear hQ_ Q_)))
  | (refine WC_cond fun K_ hK_ => ?_; simp (disch := omega) only [evT_tmp, upd_apply, WB_some, ↓reduceIte, reduceCtorEq, Nat.reduceEqDiff, Nat.reduceLT]; refine hK_ _ ?_; clear hK_ K_)))
  refine WC_loop (fun (p : Int × Int) f d h' => i63 p.1 ∧ i63 p.2 ∧ Int.gcd p.1 p.2 = Int.gcd a b ∧ f 0 = ii p.1 ∧ f 1 = ii p.2 ∧ d = [] ∧ h' = X h [] h.clock) (fun p => p.2.toNat) ?_ (b.toNat + 1) (a, b) (by omega) ?_
  · rintro ⟨x, y⟩ f d h' ⟨hx, hy, hg, h0, h1, rfl, rfl⟩
    simp only at hx hy hg h0 h1
    by_cases hz : y = 0
    · subst hz
      (repeat' (first
  | (with_reducible first | refine WC_seq ?_ | refine WC_skip ?_ | refine WC_label ?_ | refine WC_scope ?_ | refine WC_block ?_ | refine WC_ret ?_ | refine WC_exit ?_ | refine seqQ_norm ?_ | refine seqQ_ret ?_ | refine seqQ_exit ?_ | refine blkQ_norm ?_ | refine blkQ_ret ?_ | refine blkQ_here ?_ | refine gateK_yes ?_ | refine gateK_none ?_ | refine condK_tt ?_ | refine condK_ff ?_ | refine roundQ_exit ?_ | refine roundQ_ret ?_)
  | refine WC_region ?_ | refine blkQ_out rfl ?_ | refine WO_nil ?_ | refine WD_nil ?_
  | ((first | refine WD_gate rfl rfl rfl rfl rfl fun K_ hK_ => ?_ | refine WO_gate rfl rfl rfl rfl rfl fun K_ hK_ => ?_); simp only [upd_apply, asB_bool, asB_tup, ↓reduceIte, reduceCtorEq, Nat.reduceEqDiff, Bool.not_true, Bool.not_false]; refine hK_ _ ?_; clear hK_ K_)
  | refine gateK_no (by decide) ?_
  | ((try first | refine WO_op rfl rfl rfl ?_ | refine WO_op0 rfl rfl ?_ | refine WD_op rfl rfl rfl ?_ | refine WD_op0 rfl rfl ?_); (refine WV_gen fun Q_ hQ_ => ?_; simp (disch := first | omega | (simp only [List.length_cons, List.length_nil, List.length_append]; omega)) only [bb, bp, argF, ↓reduceIte, reduceCtorEq, Nat.reduceEqDiff, Nat.reduceLT, Nat.reduceLeDiff, Nat.reduceAdd, Nat.reduceMul, Nat.reduceSub, Nat.reduceBEq, Int.reduceToNat, cond_true, cond_false, eq_self, beq_self_eq_true, h0, h1]; first | (refine dec_split (Q := Q_) (fun hp_ => ?_) (fun hp_ => ?_) <;> first | (exfalso; omega) | (refine hQ_ _ _ ?_; clear hQ_ Q_)) | (refine dec_splitn (Q := Q_) (fun hp_ => ?_) (fun hp_ => ?_) <;> first | (exfalso; omega) | (refine hQ_ _ _ ?_; clear hQ_ Q_)) | (refine hQ_ _ _ ?_; clear hQ_ Q_)))
  | (refine WC_cond fun K_ hK_ => ?_; simp (disch := omega) only [evT_tmp, upd_apply, WB_some, ↓reduceIte, reduceCtorEq, Nat.reduceEqDiff, Nat.reduceLT]; refine hK_ _ ?_; clear hK_ K_)))
      (refine endQ_ret _ _ rfl (ret1 (by decide)) ?_; simp only [upd_apply, ↓reduceIte, reduceCtorEq, Nat.reduceEqDiff]; refine WV_flat rfl (by omega) ?_)
      rw [← hg, Int.gcd_zero_right]
      exact ⟨by rw [Int.natAbs_of_nonneg hx.1], rfl⟩
    · have hm := tmod_lt hx.1 hy.1 hz
      (repeat' (first
  | (with_reducible first | refine WC_seq ?_ | refine WC_skip ?_ | refine WC_label ?_ | refine WC_scope ?_ | refine WC_block ?_ | refine WC_ret ?_ | refine WC_exit ?_ | refine seqQ_norm ?_ | refine seqQ_ret ?_ | refine seqQ_exit ?_ | refine blkQ_norm ?_ | refine blkQ_ret ?_ | refine blkQ_here ?_ | refine gateK_yes ?_ | refine gateK_none ?_ | refine condK_tt ?_ | refine condK_ff ?_ | refine roundQ_exit ?_ | refine roundQ_ret ?_)
  | refine WC_region ?_ | refine blkQ_out rfl ?_ | refine WO_nil ?_ | refine WD_nil ?_
  | ((first | refine WD_gate rfl rfl rfl rfl rfl fun K_ hK_ => ?_ | refine WO_gate rfl rfl rfl rfl rfl fun K_ hK_ => ?_); simp only [upd_apply, asB_bool, asB_tup, ↓reduceIte, reduceCtorEq, Nat.reduceEqDiff, Bool.not_true, Bool.not_false]; refine hK_ _ ?_; clear hK_ K_)
  | refine gateK_no (by decide) ?_
  | ((try first | refine WO_op rfl rfl rfl ?_ | refine WO_op0 rfl rfl ?_ | refine WD_op rfl rfl rfl ?_ | refine WD_op0 rfl rfl ?_); (refine WV_gen fun Q_ hQ_ => ?_; simp (disch := first | omega | (simp only [List.length_cons, List.length_nil, List.length_append]; omega)) only [bb, bp, argF, ↓reduceIte, reduceCtorEq, Nat.reduceEqDiff, Nat.reduceLT, Nat.reduceLeDiff, Nat.reduceAdd, Nat.reduceMul, Nat.reduceSub, Nat.reduceBEq, Int.reduceToNat, cond_true, cond_false, eq_self, beq_self_eq_true, h0, h1, b_rem hz]; first | (refine dec_split (Q := Q_) (fun hp_ => ?_) (fun hp_ => ?_) <;> first | (exfalso; omega) | (refine hQ_ _ _ ?_; clear hQ_ Q_)) | (refine dec_splitn (Q := Q_) (fun hp_ => ?_) (fun hp_ => ?_) <;> first | (exfalso; omega) | (refine hQ_ _ _ ?_; clear hQ_ Q_)) | (refine hQ_ _ _ ?_; clear hQ_ Q_)))
  | (refine WC_cond fun K_ hK_ => ?_; simp (disch := omega) only [evT_tmp, upd_apply, WB_some, ↓reduceIte, reduceCtorEq, Nat.reduceEqDiff, Nat.reduceLT]; refine hK_ _ ?_; clear hK_ K_)))
      refine WC_drawnB [.full, .full, .full, .full, .full, .full] (by kernel_rfl) ?_
      (repeat' (first
  | (with_reducible first | refine WC_seq ?_ | refine WC_skip ?_ | refine WC_label ?_ | refine WC_scope ?_ | refine WC_block ?_ | refine WC_ret ?_ | refine WC_exit ?_ | refine seqQ_norm ?_ | refine seqQ_ret ?_ | refine seqQ_exit ?_ | refine blkQ_norm ?_ | refine blkQ_ret ?_ | refine blkQ_here ?_ | refine gateK_yes ?_ | refine gateK_none ?_ | refine condK_tt ?_ | refine condK_ff ?_ | refine roundQ_exit ?_ | refine roundQ_ret ?_)
  | refine WC_region ?_ | refine blkQ_out rfl ?_ | refine WO_nil ?_ | refine WD_nil ?_
  | ((first | refine WD_gate rfl rfl rfl rfl rfl fun K_ hK_ => ?_ | refine WO_gate rfl rfl rfl rfl rfl fun K_ hK_ => ?_); simp only [upd_apply, asB_bool, asB_tup, ↓reduceIte, reduceCtorEq, Nat.reduceEqDiff, Bool.not_true, Bool.not_false]; refine hK_ _ ?_; clear hK_ K_)
  | refine gateK_no (by decide) ?_
  | ((try first | refine WO_op rfl rfl rfl ?_ | refine WO_op0 rfl rfl ?_ | refine WD_op rfl rfl rfl ?_ | refine WD_op0 rfl rfl ?_); (refine WV_gen fun Q_ hQ_ => ?_; simp (disch := first | omega | (simp only [List.length_cons, List.length_nil, List.length_append]; omega)) only [bb, bp, argF, ↓reduceIte, reduceCtorEq, Nat.reduceEqDiff, Nat.reduceLT, Nat.reduceLeDiff, Nat.reduceAdd, Nat.reduceMul, Nat.reduceSub, Nat.reduceBEq, Int.reduceToNat, cond_true, cond_false, eq_self, beq_self_eq_true, h0, h1, b_rem hz]; first | (refine dec_split (Q := Q_) (fun hp_ => ?_) (fun hp_ => ?_) <;> first | (exfalso; omega) | (refine hQ_ _ _ ?_; clear hQ_ Q_)) | (refine dec_splitn (Q := Q_) (fun hp_ => ?_) (fun hp_ => ?_) <;> first | (exfalso; omega) | (refine hQ_ _ _ ?_; clear hQ_ Q_)) | (refine hQ_ _ _ ?_; clear hQ_ Q_)))
  | (refine WC_cond fun K_ hK_ => ?_; simp (disch := omega) only [evT_tmp, upd_apply, WB_some, ↓reduceIte, reduceCtorEq, Nat.reduceEqDiff, Nat.reduceLT]; refine hK_ _ ?_; clear hK_ K_)))
      refine roundQ_again (y, x.tmod y) (by simp only; omega) ⟨hy, ⟨hm.1, by omega⟩, ?_, by simp only [upd_apply, ↓reduceIte, reduceCtorEq, Nat.reduceEqDiff], by simp only [upd_apply, ↓reduceIte, reduceCtorEq, Nat.reduceEqDiff], rfl, rfl⟩
      simp only
      rw [gcd_step hx.1 hy.1 hz, hg]
  · exact ⟨ha, hb, rfl, by simp only [upd_apply, ↓reduceIte, reduceCtorEq, Nat.reduceEqDiff], by simp only [upd_apply, ↓reduceIte, reduceCtorEq, Nat.reduceEqDiff], rfl, rfl⟩

/-- A fraction in least terms. -/
def frac (n d : Int) : AV := .agg [ii (n / (Int.gcd n d : Int)), ii (d / (Int.gcd n d : Int))]
theorem gcd_le {n d : Int} (hn : i63 n) (hd : 0 < d ∧ d ≤ 9223372036854775807) : 0 < (Int.gcd n d : Int) ∧ (Int.gcd n d : Int) ≤ 9223372036854775807 := by
  have h1 : 0 < Int.gcd n d := Int.gcd_pos_of_ne_zero_right _ (by omega)
  have h2 : (Int.gcd n d : Int) ∣ d := Int.gcd_dvd_right ..
  have h3 := Int.le_of_dvd hd.1 h2
  omega
theorem div_in {n g : Int} (hn : i63 n) (hg : 0 < g) : IntKind.i64.wrap (n.tdiv g) = n / g := by
  rw [Int.tdiv_eq_ediv_of_nonneg hn.1]
  have h1 : 0 ≤ n / g := Int.ediv_nonneg hn.1 (by omega)
  have h2 : n / g ≤ n := Int.ediv_le_self _ hn.1
  obtain ⟨a, b⟩ := hn
  exact wrap_in _ (by omega) (by omega)
theorem fraction (n d : Int) (hn : i63 n) (hd : 0 < d ∧ d ≤ 9223372036854775807) (h : H) (wf : Wf h) : (om Try.prog KK).call (.fn 45 [ii n, ii d]) h = .ok (frac n d) h := by
  refine WV_to (WV_call (fn := Try.f45) Try.func45 rfl rfl rfl rfl rfl ?_)
  simp only [argF]
  have hg := gcd_le hn hd
  have hz : (Int.gcd n d : Int) ≠ 0 := by omega
  (repeat' (first
  | (with_reducible first | refine WC_seq ?_ | refine WC_skip ?_ | refine WC_label ?_ | refine WC_scope ?_ | refine WC_block ?_ | refine WC_ret ?_ | refine WC_exit ?_ | refine seqQ_norm ?_ | refine seqQ_ret ?_ | refine seqQ_exit ?_ | refine blkQ_norm ?_ | refine blkQ_ret ?_ | refine blkQ_here ?_ | refine gateK_yes ?_ | refine gateK_none ?_ | refine condK_tt ?_ | refine condK_ff ?_ | refine roundQ_exit ?_ | refine roundQ_ret ?_)
  | refine WC_region ?_ | refine blkQ_out rfl ?_ | refine WO_nil ?_ | refine WD_nil ?_
  | ((first | refine WD_gate rfl rfl rfl rfl rfl fun K_ hK_ => ?_ | refine WO_gate rfl rfl rfl rfl rfl fun K_ hK_ => ?_); simp only [upd_apply, asB_bool, asB_tup, ↓reduceIte, reduceCtorEq, Nat.reduceEqDiff, Bool.not_true, Bool.not_false]; refine hK_ _ ?_; clear hK_ K_)
  | refine gateK_no (by decide) ?_
  | ((try first | refine WO_op rfl rfl rfl ?_ | refine WO_op0 rfl rfl ?_ | refine WD_op rfl rfl rfl ?_ | refine WD_op0 rfl rfl ?_); (refine WV_gen fun Q_ hQ_ => ?_; simp (disch := first | omega | (simp only [List.length_cons, List.length_nil, List.length_append]; omega)) only [bb, bp, argF, ↓reduceIte, reduceCtorEq, Nat.reduceEqDiff, Nat.reduceLT, Nat.reduceLeDiff, Nat.reduceAdd, Nat.reduceMul, Nat.reduceSub, Nat.reduceBEq, Int.reduceToNat, cond_true, cond_false, eq_self, beq_self_eq_true, newPtr_X wf, load1_X wf, loadAgg_X wf, store1_X wf, writeCells_X wf, tEvH1, bsl_47, newSlice_X wf]; first | (refine dec_split (Q := Q_) (fun hp_ => ?_) (fun hp_ => ?_) <;> first | (exfalso; omega) | (refine hQ_ _ _ ?_; clear hQ_ Q_)) | (refine dec_splitn (Q := Q_) (fun hp_ => ?_) (fun hp_ => ?_) <;> first | (exfalso; omega) | (refine hQ_ _ _ ?_; clear hQ_ Q_)) | (refine hQ_ _ _ ?_; clear hQ_ Q_) | (refine WV_eq (divisor _ _ hn ⟨by omega, hd.2⟩ _ (wf.X (Nat.le_add_right _ _))) ?_; refine hQ_ _ _ ?_; clear hQ_ Q_)))
  | (refine WC_cond fun K_ hK_ => ?_; simp (disch := omega) only [evT_tmp, upd_apply, WB_some, ↓reduceIte, reduceCtorEq, Nat.reduceEqDiff, Nat.reduceLT]; refine hK_ _ ?_; clear hK_ K_)))
  refine WC_drawnB [.full, .full, .full, .full, .full, .full, .full, .full] (by kernel_rfl) ?_
  (repeat' (first
  | (with_reducible first | refine WC_seq ?_ | refine WC_skip ?_ | refine WC_label ?_ | refine WC_scope ?_ | refine WC_block ?_ | refine WC_ret ?_ | refine WC_exit ?_ | refine seqQ_norm ?_ | refine seqQ_ret ?_ | refine seqQ_exit ?_ | refine blkQ_norm ?_ | refine blkQ_ret ?_ | refine blkQ_here ?_ | refine gateK_yes ?_ | refine gateK_none ?_ | refine condK_tt ?_ | refine condK_ff ?_ | refine roundQ_exit ?_ | refine roundQ_ret ?_)
  | refine WC_region ?_ | refine blkQ_out rfl ?_ | refine WO_nil ?_ | refine WD_nil ?_
  | ((first | refine WD_gate rfl rfl rfl rfl rfl fun K_ hK_ => ?_ | refine WO_gate rfl rfl rfl rfl rfl fun K_ hK_ => ?_); simp only [upd_apply, asB_bool, asB_tup, ↓reduceIte, reduceCtorEq, Nat.reduceEqDiff, Bool.not_true, Bool.not_false]; refine hK_ _ ?_; clear hK_ K_)
  | refine gateK_no (by decide) ?_
  | ((try first | refine WO_op rfl rfl rfl ?_ | refine WO_op0 rfl rfl ?_ | refine WD_op rfl rfl rfl ?_ | refine WD_op0 rfl rfl ?_); (refine WV_gen fun Q_ hQ_ => ?_; simp (disch := first | omega | (simp only [List.length_cons, List.length_nil, List.length_append]; omega)) only [bb, bp, argF, ↓reduceIte, reduceCtorEq, Nat.reduceEqDiff, Nat.reduceLT, Nat.reduceLeDiff, Nat.reduceAdd, Nat.reduceMul, Nat.reduceSub, Nat.reduceBEq, Int.reduceToNat, cond_true, cond_false, eq_self, beq_self_eq_true, b_quo hz, div_in hn hg.1, div_in (n := d) ⟨by omega, hd.2⟩ hg.1, newPtr_X wf, load1_X wf, loadAgg_X wf, store1_X wf, writeCells_X wf, tEvH1, bsl_47, newSlice_X wf]; first | (refine dec_split (Q := Q_) (fun hp_ => ?_) (fun hp_ => ?_) <;> first | (exfalso; omega) | (refine hQ_ _ _ ?_; clear hQ_ Q_)) | (refine dec_splitn (Q := Q_) (fun hp_ => ?_) (fun hp_ => ?_) <;> first | (exfalso; omega) | (refine hQ_ _ _ ?_; clear hQ_ Q_)) | (refine hQ_ _ _ ?_; clear hQ_ Q_)))
  | (refine WC_cond fun K_ hK_ => ?_; simp (disch := omega) only [evT_tmp, upd_apply, WB_some, ↓reduceIte, reduceCtorEq, Nat.reduceEqDiff, Nat.reduceLT]; refine hK_ _ ?_; clear hK_ K_)))
  refine endQ_ret _ _ rfl (retc0 (by decide) (by simp (disch := first | omega | (simp only [List.length_cons, List.length_nil, List.length_append]; omega)) only [bb, bp, argF, ↓reduceIte, reduceCtorEq, Nat.reduceEqDiff, Nat.reduceLT, Nat.reduceLeDiff, Nat.reduceAdd, Nat.reduceMul, Nat.reduceSub, Nat.reduceBEq, Int.reduceToNat, cond_true, cond_false, eq_self, beq_self_eq_true, loadAgg_X wf, tEvH1, bsl_47, newSlice_X wf]; rfl)) ?_
  refine WV_flat rfl (by omega) ?_
  exact ⟨rfl, rfl⟩
end Go.Proofs.Ytghondkiondeaab
end

/- EvH2 -/
section
/-
  LAYER 2: the places of a hull, one after the other.
-/
namespace Go.Proofs.Ytghondkiondeaab
open Go.Ev
set_option maxRecDepth 100000
set_option linter.unusedSimpArgs false
set_option linter.unusedVariables false
set_option maxHeartbeats 2000000

theorem tEvH2 : type_of% (And.intro (And.intro (And.intro (And.intro (@bs_75) (@ia_2)) (And.intro (@sz_2) (And.intro (@ia_3) (@sz_3)))) (And.intro (And.intro (@ia_22) (And.intro (@sz_22) (@ia_46))) (And.intro (@sz_46) (And.intro (@ia_52) (@sz_52))))) (And.intro (And.intro (And.intro (@ia_70) (And.intro (@sz_70) (@ze_70))) (And.intro (@ia_94) (And.intro (@sz_94) (@ze_94)))) (And.intro (And.intro (@ik_94) (And.intro (@fo_52_0) (@fo_24_2))) (And.intro (@pb_51) (And.intro (@pb_52) (@pb_53)))))) := And.intro (And.intro (And.intro (And.intro (@bs_75) (@ia_2)) (And.intro (@sz_2) (And.intro (@ia_3) (@sz_3)))) (And.intro (And.intro (@ia_22) (And.intro (@sz_22) (@ia_46))) (And.intro (@sz_46) (And.intro (@ia_52) (@sz_52))))) (And.intro (And.intro (And.intro (@ia_70) (And.intro (@sz_70) (@ze_70))) (And.intro (@ia_94) (And.intro (@sz_94) (@ze_94)))) (And.intro (And.intro (@ik_94) (And.intro (@fo_52_0) (@fo_24_2))) (And.intro (@pb_51) (And.intro (@pb_52) (@pb_53)))))
def wt (n i : Nat) : Int := if i = 0 ∨ i + 1 = n then 1 else if i < n then 2 else 0
def wts (n : Nat) : List AV := [ii (wt n 0), ii (wt n 1), ii (wt n 2), ii (wt n 3), ii (wt n 4), ii (wt n 5), ii (wt n 6), ii (wt n 7), ii (wt n 8), ii (wt n 9)]
theorem wts_get (n i : Nat) (hi : i < 10) : (wts n)[i]? = some (ii (wt n i)) := by
  match i, hi with
  | 0, _ => rfl | 1, _ => rfl | 2, _ => rfl | 3, _ => rfl | 4, _ => rfl | 5, _ => rfl | 6, _ => rfl | 7, _ => rfl | 8, _ => rfl | 9, _ => rfl
theorem wt_in (n i : Nat) : 0 ≤ wt n i ∧ wt n i ≤ 2 := by unfold wt; repeat' split
                                                          all_goals omega

/-- A hull in a heap, behind a pointer. -/
structure HullIn (hb : H) (p : Pos) (sp st : Int) (a : AV) (rvs : List AV) (rows : List (List (Int × Int))) (m : Nat) : Prop where
  wf : Wf hb
  l2 : ∀ J w, load1 p 2 (X hb J w) = some a
  ag : ∀ J w, loadAgg p 0 (some 3) (X hb J w) = some (.agg [ii sp, ii st, a])
  sl : Sl hb a 1 rows.length rvs
  row : ∀ i (hi : i < rows.length), ∃ v, rvs[i]? = some v ∧ Sl hb v 2 m (pairCells rows[i]) ∧ rows[i].length = m

def placeOf (n m : Nat) (i k : Nat) (r : Int × Int) : AV := .agg [ii r.1, ii r.2, ii (i : Int), ii (k : Int), ii (wt n i * wt m k)]
/-- The places, station by station. -/
def placesOf (rows : List (List (Int × Int))) (m : Nat) : List (List AV) :=
  (List.range (rows.length * m)).map fun q => [placeOf rows.length m (q / m) (q % m) ((rows.getD (q / m) []).getD (q % m) (0, 0))]
theorem placesOf_get {rows : List (List (Int × Int))} {m i k : Nat} (hi : i < rows.length) (hk : k < m) (hm : rows[i].length = m) :
    (placesOf rows m)[i * m + k]? = some [placeOf rows.length m i k (rows[i][k]'(by omega))] := by
  have hq : i * m + k < rows.length * m := by
    have : (i + 1) * m ≤ rows.length * m := Nat.mul_le_mul_right m hi
    rw [Nat.succ_mul] at this; omega
  have h1 : (i * m + k) / m = i := by rw [Nat.mul_comm, Nat.mul_add_div (by omega)]; rw [Nat.div_eq_of_lt hk]; omega
  have h2 : (i * m + k) % m = k := by rw [Nat.mul_comm, Nat.mul_add_mod]; exact Nat.mod_eq_of_lt hk
  unfold placesOf
  rw [List.getElem?_map, List.getElem?_range hq]
  simp only [Option.map_some, h1, h2]
  have hk' : k < rows[i].length := by omega
  simp [List.getD, hi, hk']
theorem placesOf_length (rows : List (List (Int × Int))) (m : Nat) : (placesOf rows m).length = rows.length * m := by unfold placesOf; simp

theorem places1 (p : Pos) (sp st : Int) (a : AV) (rvs : List AV) (rows : List (List (Int × Int))) (m : Nat) (hn : 2 ≤ rows.length ∧ rows.length ≤ 10) (hm : 2 ≤ m ∧ m ≤ 6)
    (hwt : ∀ n : Nat, 2 ≤ n → n ≤ 10 → ∀ h, Wf h → (om Try.prog KK).call (.fn 52 [ii (n : Int)]) h = .ok (.agg (wts n)) h)
    (hli : ∀ h, Wf h → HullIn h p sp st a rvs rows m → ∀ J w, w ≤ h.clock + J.length → (om Try.prog KK).call (.fn 53 [.agg [ii sp, ii st, a]]) (X h J w) = .ok (ii (m : Int)) (X h J w)) :
    Hands Try.prog KK (fun hb => HullIn hb p sp st a rvs rows m) (.fn 51 [] [.ptr p 0]) (placesOf rows m) := by
  intro l hb0 I D lo hlo0 hlow hI hy h0
  have hB := (hI 0 hb0 h0).1
  have wf := hB.wf
  rw [callV_fn, pb_51]
  show WV ((om Try.prog KK).call (.fn 51 [.yld l, .ptr p 0]) hb0) _
  refine WV_call (fn := Try.f51) Try.func51 rfl rfl rfl rfl rfl ?_
  simp only [argF]
  have hlen : ∀ h', lenE Try.prog 22 a h' = some (ii (rows.length : Int)) := fun h' => hB.sl.len un_22
  have hw1 : ∀ J w, w ≤ hb0.clock + J.length → (om Try.prog KK).call (.fn 52 [ii (rows.length : Int)]) (X hb0 J w) = .ok (.agg (wts rows.length)) (X hb0 J w) := fun J w hw => hwt _ hn.1 hn.2 _ (wf.X hw)
  have hw2 : ∀ J w, w ≤ hb0.clock + J.length → (om Try.prog KK).call (.fn 52 [ii (m : Int)]) (X hb0 J w) = .ok (.agg (wts m)) (X hb0 J w) := fun J w hw => hwt _ hm.1 (by omega) _ (wf.X hw)
  have hl1 := hli hb0 wf hB
  have hl2 := hB.l2
  have hag := hB.ag
  (repeat' (first
  | (with_reducible first | refine WC_seq ?_ | refine WC_skip ?_ | refine WC_label ?_ | refine WC_scope ?_ | refine WC_block ?_ | refine WC_ret ?_ | refine WC_exit ?_ | refine seqQ_norm ?_ | refine seqQ_ret ?_ | refine seqQ_exit ?_ | refine blkQ_norm ?_ | refine blkQ_ret ?_ | refine blkQ_here ?_ | refine gateK_yes ?_ | refine gateK_none ?_ | refine condK_tt ?_ | refine condK_ff ?_ | refine roundQ_exit ?_ | refine roundQ_ret ?_)
  | refine WC_region ?_ | refine blkQ_out rfl ?_ | refine WO_nil ?_ | refine WD_nil ?_
  | ((first | refine WD_gate rfl rfl rfl rfl rfl fun K_ hK_ => ?_ | refine WO_gate rfl rfl rfl rfl rfl fun K_ hK_ => ?_); simp only [upd_apply, asB_bool, asB_tup, ↓reduceIte, reduceCtorEq, Nat.reduceEqDiff, Bool.not_true, Bool.not_false]; refine hK_ _ ?_; clear hK_ K_)
  | refine gateK_no (by decide) ?_
  | ((try first | refine WO_op rfl rfl rfl ?_ | refine WO_op0 rfl rfl ?_ | refine WD_op rfl rfl rfl ?_ | refine WD_op0 rfl rfl ?_); (refine WV_gen fun Q_ hQ_ => ?_; simp (disch := first | omega | (simp only [List.length_cons, List.length_nil, List.length_append]; omega)) only [bb, bp, argF, ↓reduceIte, reduceCtorEq, Nat.reduceEqDiff, Nat.reduceLT, Nat.reduceLeDiff, Nat.reduceAdd, Nat.reduceMul, Nat.reduceSub, Nat.reduceBEq, Int.reduceToNat, cond_true, cond_false, eq_self, beq_self_eq_true, hlen, hw1, hw2, hl1, hl2, hag, newPtr_X wf, load1_X wf, loadAgg_X wf, store1_X wf, writeCells_X wf, tEvH2, indexAddrE_def (P := Try.prog) (t := 94)]; first | (refine dec_split (Q := Q_) (fun hp_ => ?_) (fun hp_ => ?_) <;> first | (exfalso; omega) | (refine hQ_ _ _ ?_; clear hQ_ Q_)) | (refine dec_splitn (Q := Q_) (fun hp_ => ?_) (fun hp_ => ?_) <;> first | (exfalso; omega) | (refine hQ_ _ _ ?_; clear hQ_ Q_)) | (refine hQ_ _ _ ?_; clear hQ_ Q_)))
  | (refine WC_cond fun K_ hK_ => ?_; simp (disch := omega) only [evT_tmp, upd_apply, WB_some, ↓reduceIte, reduceCtorEq, Nat.reduceEqDiff, Nat.reduceLT]; refine hK_ _ ?_; clear hK_ K_)))
  refine WC_drawnB [.no, .no, .no, .no, .no, .no, .no, .no, .no, .no, .full, .full] (by kernel_rfl) ?_
  (repeat' (first
  | (with_reducible first | refine WC_seq ?_ | refine WC_skip ?_ | refine WC_label ?_ | refine WC_scope ?_ | refine WC_block ?_ | refine WC_ret ?_ | refine WC_exit ?_ | refine seqQ_norm ?_ | refine seqQ_ret ?_ | refine seqQ_exit ?_ | refine blkQ_norm ?_ | refine blkQ_ret ?_ | refine blkQ_here ?_ | refine gateK_yes ?_ | refine gateK_none ?_ | refine condK_tt ?_ | refine condK_ff ?_ | refine roundQ_exit ?_ | refine roundQ_ret ?_)
  | refine WC_region ?_ | refine blkQ_out rfl ?_ | refine WO_nil ?_ | refine WD_nil ?_
  | ((first | refine WD_gate rfl rfl rfl rfl rfl fun K_ hK_ => ?_ | refine WO_gate rfl rfl rfl rfl rfl fun K_ hK_ => ?_); simp only [upd_apply, asB_bool, asB_tup, ↓reduceIte, reduceCtorEq, Nat.reduceEqDiff, Bool.not_true, Bool.not_false]; refine hK_ _ ?_; clear hK_ K_)
  | refine gateK_no (by decide) ?_
  | ((try first | refine WO_op rfl rfl rfl ?_ | refine WO_op0 rfl rfl ?_ | refine WD_op rfl rfl rfl ?_ | refine WD_op0 rfl rfl ?_); (refine WV_gen fun Q_ hQ_ => ?_; simp (disch := first | omega | (simp only [List.length_cons, List.length_nil, List.length_append]; omega)) only [bb, bp, argF, ↓reduceIte, reduceCtorEq, Nat.reduceEqDiff, Nat.reduceLT, Nat.reduceLeDiff, Nat.reduceAdd, Nat.reduceMul, Nat.reduceSub, Nat.reduceBEq, Int.reduceToNat, cond_true, cond_false, eq_self, beq_self_eq_true, hlen, hw1, hw2, hl1, hl2, hag, wts, newPtr_X wf, load1_X wf, loadAgg_X wf, store1_X wf, writeCells_X wf, tEvH2, indexAddrE_def (P := Try.prog) (t := 94)]; first | (refine dec_split (Q := Q_) (fun hp_ => ?_) (fun hp_ => ?_) <;> first | (exfalso; omega) | (refine hQ_ _ _ ?_; clear hQ_ Q_)) | (refine dec_splitn (Q := Q_) (fun hp_ => ?_) (fun hp_ => ?_) <;> first | (exfalso; omega) | (refine hQ_ _ _ ?_; clear hQ_ Q_)) | (refine hQ_ _ _ ?_; clear hQ_ Q_)))
  | (refine WC_cond fun K_ hK_ => ?_; simp (disch := omega) only [evT_tmp, upd_apply, WB_some, ↓reduceIte, reduceCtorEq, Nat.reduceEqDiff, Nat.reduceLT]; refine hK_ _ ?_; clear hK_ K_)))
  have hsame0 := (hI 0 hb0 h0).2
  refine WC_loop (fun (i : Nat) f d h' => i ≤ rows.length ∧ f 0 = .yld l ∧ f 1 = .ptr p 0 ∧ f 3 = .ptr (nx hb0 0) 0 ∧ f 4 = .ptr (nx hb0 1) 0 ∧ f 19 = a ∧ f 20 = ii (rows.length : Int) ∧ f 21 = ii (i : Int) ∧ d = [] ∧
    ∃ hb J w, h' = X hb (.cells (mkCells (wts rows.length)) 94 :: .cells (mkCells (wts m)) 94 :: J) w ∧ I (i * m) hb ∧ lo ≤ w ∧ w ≤ hb.clock ∧ (0 < i → w < hb.clock)) (fun i => rows.length - i) ?_ (rows.length + 1) 0 (by omega) ?_
  · clear wf hB hw1 hw2 hl1 hl2 hag
    rintro i f d h' ⟨hi, g0, g1, g3, g4, g19, g20, g21, rfl, hb, J, w, rfl, hIi, hlo, hw, hw0⟩
    have hB := (hI _ hb hIi).1
    have hs := (hI _ hb hIi).2
    have wf := hB.wf
    by_cases hlt : i < rows.length
    · obtain ⟨v, hv, hsv, hrl⟩ := hB.row i hlt
      obtain ⟨id, off, hix, hld⟩ := hB.sl.at1 wf hlt ik_22
      rw [hv] at hld
      have hlenv : ∀ h', lenE Try.prog 46 v h' = some (ii (m : Int)) := fun h' => hsv.len un_46
      (repeat' (first
  | (with_reducible first | refine WC_seq ?_ | refine WC_skip ?_ | refine WC_label ?_ | refine WC_scope ?_ | refine WC_block ?_ | refine WC_ret ?_ | refine WC_exit ?_ | refine seqQ_norm ?_ | refine seqQ_ret ?_ | refine seqQ_exit ?_ | refine blkQ_norm ?_ | refine blkQ_ret ?_ | refine blkQ_here ?_ | refine gateK_yes ?_ | refine gateK_none ?_ | refine condK_tt ?_ | refine condK_ff ?_ | refine roundQ_exit ?_ | refine roundQ_ret ?_)
  | refine WC_region ?_ | refine blkQ_out rfl ?_ | refine WO_nil ?_ | refine WD_nil ?_
  | ((first | refine WD_gate rfl rfl rfl rfl rfl fun K_ hK_ => ?_ | refine WO_gate rfl rfl rfl rfl rfl fun K_ hK_ => ?_); simp only [upd_apply, asB_bool, asB_tup, ↓reduceIte, reduceCtorEq, Nat.reduceEqDiff, Bool.not_true, Bool.not_false]; refine hK_ _ ?_; clear hK_ K_)
  | refine gateK_no (by decide) ?_
  | ((try first | refine WO_op rfl rfl rfl ?_ | refine WO_op0 rfl rfl ?_ | refine WD_op rfl rfl rfl ?_ | refine WD_op0 rfl rfl ?_); (refine WV_gen fun Q_ hQ_ => ?_; simp (disch := first | omega | (simp only [List.length_cons, List.length_nil, List.length_append]; omega)) only [bb, bp, argF, ↓reduceIte, reduceCtorEq, Nat.reduceEqDiff, Nat.reduceLT, Nat.reduceLeDiff, Nat.reduceAdd, Nat.reduceMul, Nat.reduceSub, Nat.reduceBEq, Int.reduceToNat, cond_true, cond_false, eq_self, beq_self_eq_true, g0, g1, g3, g4, g19, g20, g21, hix, hld, hlenv, newPtr_X wf, load1_X wf, loadAgg_X wf, store1_X wf, writeCells_X wf, tEvH2, indexAddrE_def (P := Try.prog) (t := 94)]; first | (refine dec_split (Q := Q_) (fun hp_ => ?_) (fun hp_ => ?_) <;> first | (exfalso; omega) | (refine hQ_ _ _ ?_; clear hQ_ Q_)) | (refine dec_splitn (Q := Q_) (fun hp_ => ?_) (fun hp_ => ?_) <;> first | (exfalso; omega) | (refine hQ_ _ _ ?_; clear hQ_ Q_)) | (refine hQ_ _ _ ?_; clear hQ_ Q_)))
  | (refine WC_cond fun K_ hK_ => ?_; simp (disch := omega) only [evT_tmp, upd_apply, WB_some, ↓reduceIte, reduceCtorEq, Nat.reduceEqDiff, Nat.reduceLT]; refine hK_ _ ?_; clear hK_ K_)))
      refine WC_loop (fun (k : Nat) f d h' => k ≤ m ∧ f 0 = .yld l ∧ f 1 = .ptr p 0 ∧ f 3 = .ptr (nx hb0 0) 0 ∧ f 4 = .ptr (nx hb0 1) 0 ∧ f 19 = a ∧ f 20 = ii (rows.length : Int) ∧ f 21 = ii (i : Int) ∧ f 5 = ii (i : Int) ∧ f 26 = v ∧ f 27 = ii (m : Int) ∧ f 28 = ii (k : Int) ∧ d = [] ∧
        ∃ hb J w, h' = X hb (.cells (mkCells (wts rows.length)) 94 :: .cells (mkCells (wts m)) 94 :: J) w ∧ I (i * m + k) hb ∧ lo ≤ w ∧ w ≤ hb.clock ∧ (0 < i * m + k → w < hb.clock)) (fun k => m - k) ?_ (m + 1) 0 (by omega) ?_
      · clear hB wf hs hix hld hlenv hsv hlo hw hw0 hIi
        clear g0 g1 g3 g4 g19 g20 g21
        rintro k f d h' ⟨hk, g0, g1, g3, g4, g19, g20, g21, g5, g26, g27, g28, rfl, hb, J, w, rfl, hIk, hlo, hw, hw0⟩
        have hB := (hI _ hb hIk).1
        have hs := (hI _ hb hIk).2
        have wf := hB.wf
        by_cases hkl : k < m
        · obtain ⟨v', hv', hsv, hrl⟩ := hB.row i hlt
          have : v' = v := Option.some.inj (hv'.symm.trans hv)
          subst this
          obtain ⟨id, off, hix, hld⟩ := hsv.at wf hkl ik_46
          have hkr : k < rows[i].length := by omega
          have hrow : ∀ l w, loadAgg id off (some 2) (X hb l w) = some (.agg [ii rows[i][k].1, ii rows[i][k].2]) := fun l w => by rw [(hld l w).2, pairCells_at hkr]
          have hpl := placesOf_get (rows := rows) hlt hkl hrl
          have ha1 := wts_get rows.length i (by omega)
          have ha2 := wts_get m k (by omega)
          have w1 := wt_in rows.length i
          have w2 := wt_in m k
          have hmul : 0 ≤ wt rows.length i * wt m k ∧ wt rows.length i * wt m k ≤ 4 := ⟨Int.mul_nonneg w1.1 w2.1, by
            have := Int.mul_le_mul w1.2 w2.2 w2.1 (by omega : (0 : Int) ≤ 2); omega⟩
          have hi10 : i < 10 := by omega
          have hk10 : k < 10 := by omega
          rw [← hs.nx 0] at g3
          rw [← hs.nx 1] at g4
          (repeat' (first
  | (with_reducible first | refine WC_seq ?_ | refine WC_skip ?_ | refine WC_label ?_ | refine WC_scope ?_ | refine WC_block ?_ | refine WC_ret ?_ | refine WC_exit ?_ | refine seqQ_norm ?_ | refine seqQ_ret ?_ | refine seqQ_exit ?_ | refine blkQ_norm ?_ | refine blkQ_ret ?_ | refine blkQ_here ?_ | refine gateK_yes ?_ | refine gateK_none ?_ | refine condK_tt ?_ | refine condK_ff ?_ | refine roundQ_exit ?_ | refine roundQ_ret ?_)
  | refine WC_region ?_ | refine blkQ_out rfl ?_ | refine WO_nil ?_ | refine WD_nil ?_
  | ((first | refine WD_gate rfl rfl rfl rfl rfl fun K_ hK_ => ?_ | refine WO_gate rfl rfl rfl rfl rfl fun K_ hK_ => ?_); simp only [upd_apply, asB_bool, asB_tup, ↓reduceIte, reduceCtorEq, Nat.reduceEqDiff, Bool.not_true, Bool.not_false]; refine hK_ _ ?_; clear hK_ K_)
  | refine gateK_no (by decide) ?_
  | ((try first | refine WO_op rfl rfl rfl ?_ | refine WO_op0 rfl rfl ?_ | refine WD_op rfl rfl rfl ?_ | refine WD_op0 rfl rfl ?_); (refine WV_gen fun Q_ hQ_ => ?_; simp (disch := first | omega | (simp only [List.length_cons, List.length_nil, List.length_append]; omega)) only [bb, bp, argF, ↓reduceIte, reduceCtorEq, Nat.reduceEqDiff, Nat.reduceLT, Nat.reduceLeDiff, Nat.reduceAdd, Nat.reduceMul, Nat.reduceSub, Nat.reduceBEq, Int.reduceToNat, cond_true, cond_false, eq_self, beq_self_eq_true, g0, g1, g3, g4, g19, g20, g21, g5, g26, g27, g28, hix, hrow, ha1, ha2, newPtr_X wf, load1_X wf, loadAgg_X wf, store1_X wf, writeCells_X wf, tEvH2, indexAddrE_def (P := Try.prog) (t := 94)]; first | (refine dec_split (Q := Q_) (fun hp_ => ?_) (fun hp_ => ?_) <;> first | (exfalso; omega) | (refine hQ_ _ _ ?_; clear hQ_ Q_)) | (refine dec_splitn (Q := Q_) (fun hp_ => ?_) (fun hp_ => ?_) <;> first | (exfalso; omega) | (refine hQ_ _ _ ?_; clear hQ_ Q_)) | (refine hQ_ _ _ ?_; clear hQ_ Q_)))
  | (refine WC_cond fun K_ hK_ => ?_; simp (disch := omega) only [evT_tmp, upd_apply, WB_some, ↓reduceIte, reduceCtorEq, Nat.reduceEqDiff, Nat.reduceLT]; refine hK_ _ ?_; clear hK_ K_)))
          refine WC_drawnB [.no, .no, .no, .no, .no, .no, .no, .no, .no, .no, .no, .full, .full, .full] (by kernel_rfl) ?_
          (repeat' (first
  | (with_reducible first | refine WC_seq ?_ | refine WC_skip ?_ | refine WC_label ?_ | refine WC_scope ?_ | refine WC_block ?_ | refine WC_ret ?_ | refine WC_exit ?_ | refine seqQ_norm ?_ | refine seqQ_ret ?_ | refine seqQ_exit ?_ | refine blkQ_norm ?_ | refine blkQ_ret ?_ | refine blkQ_here ?_ | refine gateK_yes ?_ | refine gateK_none ?_ | refine condK_tt ?_ | refine condK_ff ?_ | refine roundQ_exit ?_ | refine roundQ_ret ?_)
  | refine WC_region ?_ | refine blkQ_out rfl ?_ | refine WO_nil ?_ | refine WD_nil ?_
  | ((first | refine WD_gate rfl rfl rfl rfl rfl fun K_ hK_ => ?_ | refine WO_gate rfl rfl rfl rfl rfl fun K_ hK_ => ?_); simp only [upd_apply, asB_bool, asB_tup, ↓reduceIte, reduceCtorEq, Nat.reduceEqDiff, Bool.not_true, Bool.not_false]; refine hK_ _ ?_; clear hK_ K_)
  | refine gateK_no (by decide) ?_
  | ((try first | refine WO_op rfl rfl rfl ?_ | refine WO_op0 rfl rfl ?_ | refine WD_op rfl rfl rfl ?_ | refine WD_op0 rfl rfl ?_); (refine WV_gen fun Q_ hQ_ => ?_; simp (disch := first | omega | (simp only [List.length_cons, List.length_nil, List.length_append]; omega)) only [bb, bp, argF, ↓reduceIte, reduceCtorEq, Nat.reduceEqDiff, Nat.reduceLT, Nat.reduceLeDiff, Nat.reduceAdd, Nat.reduceMul, Nat.reduceSub, Nat.reduceBEq, Int.reduceToNat, cond_true, cond_false, eq_self, beq_self_eq_true, g0, g1, g3, g4, g19, g20, g21, g5, g26, g27, g28, hix, hrow, ha1, ha2, newPtr_X wf, load1_X wf, loadAgg_X wf, store1_X wf, writeCells_X wf, tEvH2, indexAddrE_def (P := Try.prog) (t := 94)]; first | (refine dec_split (Q := Q_) (fun hp_ => ?_) (fun hp_ => ?_) <;> first | (exfalso; omega) | (refine hQ_ _ _ ?_; clear hQ_ Q_)) | (refine dec_splitn (Q := Q_) (fun hp_ => ?_) (fun hp_ => ?_) <;> first | (exfalso; omega) | (refine hQ_ _ _ ?_; clear hQ_ Q_)) | (refine hQ_ _ _ ?_; clear hQ_ Q_)))
  | (refine WC_cond fun K_ hK_ => ?_; simp (disch := omega) only [evT_tmp, upd_apply, WB_some, ↓reduceIte, reduceCtorEq, Nat.reduceEqDiff, Nat.reduceLT]; refine hK_ _ ?_; clear hK_ K_)))
          refine WD_op rfl rfl rfl ?_
          refine WV_gen fun Q_ hQ_ => ?_
          simp (disch := first | omega | (simp only [List.length_cons, List.length_nil, List.length_append]; omega)) only [bb, bp, argF, ↓reduceIte, reduceCtorEq, Nat.reduceEqDiff, Nat.reduceLT, Nat.reduceLeDiff, Nat.reduceAdd, Nat.reduceMul, Nat.reduceSub, Nat.reduceBEq, Int.reduceToNat, cond_true, cond_false, eq_self, beq_self_eq_true, callV_yld, tEvH2, indexAddrE_def (P := Try.prog) (t := 94)]
          refine WV_yield (lo := lo) (by omega) (by first | omega | (simp only [List.length_cons, List.length_append, List.length_nil]; omega)) (by first | omega | (simp only [List.length_cons, List.length_append, List.length_nil]; omega)) (fun w2 hl2 hw2 => hy (i * m + k) _ hpl hb _ w2 hIk hl2 hw2) (fun hb' J' w' s hl' hw' => ⟨fun hI' => hQ_ _ _ ?_, fun hD' => hQ_ _ _ ?_⟩)
          · clear hQ_ Q_
            have sc := s.clock
            (repeat' (first
  | (with_reducible first | refine WC_seq ?_ | refine WC_skip ?_ | refine WC_label ?_ | refine WC_scope ?_ | refine WC_block ?_ | refine WC_ret ?_ | refine WC_exit ?_ | refine seqQ_norm ?_ | refine seqQ_ret ?_ | refine seqQ_exit ?_ | refine blkQ_norm ?_ | refine blkQ_ret ?_ | refine blkQ_here ?_ | refine gateK_yes ?_ | refine gateK_none ?_ | refine condK_tt ?_ | refine condK_ff ?_ | refine roundQ_exit ?_ | refine roundQ_ret ?_)
  | refine WC_region ?_ | refine blkQ_out rfl ?_ | refine WO_nil ?_ | refine WD_nil ?_
  | ((first | refine WD_gate rfl rfl rfl rfl rfl fun K_ hK_ => ?_ | refine WO_gate rfl rfl rfl rfl rfl fun K_ hK_ => ?_); simp only [upd_apply, asB_bool, asB_tup, ↓reduceIte, reduceCtorEq, Nat.reduceEqDiff, Bool.not_true, Bool.not_false]; refine hK_ _ ?_; clear hK_ K_)
  | refine gateK_no (by decide) ?_
  | ((try first | refine WO_op rfl rfl rfl ?_ | refine WO_op0 rfl rfl ?_ | refine WD_op rfl rfl rfl ?_ | refine WD_op0 rfl rfl ?_); (refine WV_gen fun Q_ hQ_ => ?_; simp (disch := first | omega | (simp only [List.length_cons, List.length_nil, List.length_append]; omega)) only [bb, bp, argF, ↓reduceIte, reduceCtorEq, Nat.reduceEqDiff, Nat.reduceLT, Nat.reduceLeDiff, Nat.reduceAdd, Nat.reduceMul, Nat.reduceSub, Nat.reduceBEq, Int.reduceToNat, cond_true, cond_false, eq_self, beq_self_eq_true, g28]; first | (refine dec_split (Q := Q_) (fun hp_ => ?_) (fun hp_ => ?_) <;> first | (exfalso; omega) | (refine hQ_ _ _ ?_; clear hQ_ Q_)) | (refine dec_splitn (Q := Q_) (fun hp_ => ?_) (fun hp_ => ?_) <;> first | (exfalso; omega) | (refine hQ_ _ _ ?_; clear hQ_ Q_)) | (refine hQ_ _ _ ?_; clear hQ_ Q_)))
  | (refine WC_cond fun K_ hK_ => ?_; simp (disch := omega) only [evT_tmp, upd_apply, WB_some, ↓reduceIte, reduceCtorEq, Nat.reduceEqDiff, Nat.reduceLT]; refine hK_ _ ?_; clear hK_ K_)))
            refine roundQ_again (k + 1) (by omega) ⟨hkl, by simp only [upd_apply, ↓reduceIte, reduceCtorEq, Nat.reduceEqDiff]; exact g0, by simp only [upd_apply, ↓reduceIte, reduceCtorEq, Nat.reduceEqDiff]; exact g1, by simp only [upd_apply, ↓reduceIte, reduceCtorEq, Nat.reduceEqDiff]; rw [g3, hs.nx 0], by simp only [upd_apply, ↓reduceIte, reduceCtorEq, Nat.reduceEqDiff]; rw [g4, hs.nx 1], by simp only [upd_apply, ↓reduceIte, reduceCtorEq, Nat.reduceEqDiff]; exact g19, by simp only [upd_apply, ↓reduceIte, reduceCtorEq, Nat.reduceEqDiff]; exact g20, by simp only [upd_apply, ↓reduceIte, reduceCtorEq, Nat.reduceEqDiff]; exact g21, by simp only [upd_apply, ↓reduceIte, reduceCtorEq, Nat.reduceEqDiff]; exact g5, by simp only [upd_apply, ↓reduceIte, reduceCtorEq, Nat.reduceEqDiff]; exact g26, by simp only [upd_apply, ↓reduceIte, reduceCtorEq, Nat.reduceEqDiff]; exact g27, by simp only [upd_apply, ↓reduceIte, reduceCtorEq, Nat.reduceEqDiff]; rfl, rfl, ?_⟩
            exact ⟨hb', _, _, rfl, hI', by omega, by rw [s.clock]; omega, fun _ => by rw [s.clock]; omega⟩
          · clear hQ_ Q_
            have sc := s.clock
            (repeat' (first
  | (with_reducible first | refine WC_seq ?_ | refine WC_skip ?_ | refine WC_label ?_ | refine WC_scope ?_ | refine WC_block ?_ | refine WC_ret ?_ | refine WC_exit ?_ | refine seqQ_norm ?_ | refine seqQ_ret ?_ | refine seqQ_exit ?_ | refine blkQ_norm ?_ | refine blkQ_ret ?_ | refine blkQ_here ?_ | refine gateK_yes ?_ | refine gateK_none ?_ | refine condK_tt ?_ | refine condK_ff ?_ | refine roundQ_exit ?_ | refine roundQ_ret ?_)
  | refine WC_region ?_ | refine blkQ_out rfl ?_ | refine WO_nil ?_ | refine WD_nil ?_
  | ((first | refine WD_gate rfl rfl rfl rfl rfl fun K_ hK_ => ?_ | refine WO_gate rfl rfl rfl rfl rfl fun K_ hK_ => ?_); simp only [upd_apply, asB_bool, asB_tup, ↓reduceIte, reduceCtorEq, Nat.reduceEqDiff, Bool.not_true, Bool.not_false]; refine hK_ _ ?_; clear hK_ K_)
  | refine gateK_no (by decide) ?_
  | ((try first | refine WO_op rfl rfl rfl ?_ | refine WO_op0 rfl rfl ?_ | refine WD_op rfl rfl rfl ?_ | refine WD_op0 rfl rfl ?_); (refine WV_gen fun Q_ hQ_ => ?_; simp (disch := first | omega | (simp only [List.length_cons, List.length_nil, List.length_append]; omega)) only [bb, bp, argF, ↓reduceIte, reduceCtorEq, Nat.reduceEqDiff, Nat.reduceLT, Nat.reduceLeDiff, Nat.reduceAdd, Nat.reduceMul, Nat.reduceSub, Nat.reduceBEq, Int.reduceToNat, cond_true, cond_false, eq_self, beq_self_eq_true, g28]; first | (refine dec_split (Q := Q_) (fun hp_ => ?_) (fun hp_ => ?_) <;> first | (exfalso; omega) | (refine hQ_ _ _ ?_; clear hQ_ Q_)) | (refine dec_splitn (Q := Q_) (fun hp_ => ?_) (fun hp_ => ?_) <;> first | (exfalso; omega) | (refine hQ_ _ _ ?_; clear hQ_ Q_)) | (refine hQ_ _ _ ?_; clear hQ_ Q_)))
  | (refine WC_cond fun K_ hK_ => ?_; simp (disch := omega) only [evT_tmp, upd_apply, WB_some, ↓reduceIte, reduceCtorEq, Nat.reduceEqDiff, Nat.reduceLT]; refine hK_ _ ?_; clear hK_ K_)))
            have hs' := hs.trans s
            refine endQ_ret _ (.tup []) rfl rfl (WV_out (by rw [← hs.clock]; omega) ⟨hb', _, _, rfl, hs', by omega, ?_, .inr hD'⟩)
            rw [s.clock]
            omega
        · have hke : k = m := by omega
          subst hke
          (repeat' (first
  | (with_reducible first | refine WC_seq ?_ | refine WC_skip ?_ | refine WC_label ?_ | refine WC_scope ?_ | refine WC_block ?_ | refine WC_ret ?_ | refine WC_exit ?_ | refine seqQ_norm ?_ | refine seqQ_ret ?_ | refine seqQ_exit ?_ | refine blkQ_norm ?_ | refine blkQ_ret ?_ | refine blkQ_here ?_ | refine gateK_yes ?_ | refine gateK_none ?_ | refine condK_tt ?_ | refine condK_ff ?_ | refine roundQ_exit ?_ | refine roundQ_ret ?_)
  | refine WC_region ?_ | refine blkQ_out rfl ?_ | refine WO_nil ?_ | refine WD_nil ?_
  | ((first | refine WD_gate rfl rfl rfl rfl rfl fun K_ hK_ => ?_ | refine WO_gate rfl rfl rfl rfl rfl fun K_ hK_ => ?_); simp only [upd_apply, asB_bool, asB_tup, ↓reduceIte, reduceCtorEq, Nat.reduceEqDiff, Bool.not_true, Bool.not_false]; refine hK_ _ ?_; clear hK_ K_)
  | refine gateK_no (by decide) ?_
  | ((try first | refine WO_op rfl rfl rfl ?_ | refine WO_op0 rfl rfl ?_ | refine WD_op rfl rfl rfl ?_ | refine WD_op0 rfl rfl ?_); (refine WV_gen fun Q_ hQ_ => ?_; simp (disch := first | omega | (simp only [List.length_cons, List.length_nil, List.length_append]; omega)) only [bb, bp, argF, ↓reduceIte, reduceCtorEq, Nat.reduceEqDiff, Nat.reduceLT, Nat.reduceLeDiff, Nat.reduceAdd, Nat.reduceMul, Nat.reduceSub, Nat.reduceBEq, Int.reduceToNat, cond_true, cond_false, eq_self, beq_self_eq_true, g0, g1, g3, g4, g19, g20, g21, g5, g26, g27, g28]; first | (refine dec_split (Q := Q_) (fun hp_ => ?_) (fun hp_ => ?_) <;> first | (exfalso; omega) | (refine hQ_ _ _ ?_; clear hQ_ Q_)) | (refine dec_splitn (Q := Q_) (fun hp_ => ?_) (fun hp_ => ?_) <;> first | (exfalso; omega) | (refine hQ_ _ _ ?_; clear hQ_ Q_)) | (refine hQ_ _ _ ?_; clear hQ_ Q_)))
  | (refine WC_cond fun K_ hK_ => ?_; simp (disch := omega) only [evT_tmp, upd_apply, WB_some, ↓reduceIte, reduceCtorEq, Nat.reduceEqDiff, Nat.reduceLT]; refine hK_ _ ?_; clear hK_ K_)))
          refine roundQ_again (i + 1) (by omega) ⟨hlt, by simp only [upd_apply, ↓reduceIte, reduceCtorEq, Nat.reduceEqDiff]; exact g0, by simp only [upd_apply, ↓reduceIte, reduceCtorEq, Nat.reduceEqDiff]; exact g1, by simp only [upd_apply, ↓reduceIte, reduceCtorEq, Nat.reduceEqDiff]; exact g3, by simp only [upd_apply, ↓reduceIte, reduceCtorEq, Nat.reduceEqDiff]; exact g4, by simp only [upd_apply, ↓reduceIte, reduceCtorEq, Nat.reduceEqDiff]; exact g19, by simp only [upd_apply, ↓reduceIte, reduceCtorEq, Nat.reduceEqDiff]; exact g20, by simp only [upd_apply, ↓reduceIte, reduceCtorEq, Nat.reduceEqDiff]; rfl, rfl, ?_⟩
          exact ⟨hb, _, _, rfl, by rw [Nat.succ_mul]; exact hIk, hlo, hw, fun _ => hw0 (by omega)⟩
      · exact ⟨Nat.zero_le _, by simp only [upd_apply, ↓reduceIte, reduceCtorEq, Nat.reduceEqDiff]; exact g0, by simp only [upd_apply, ↓reduceIte, reduceCtorEq, Nat.reduceEqDiff]; exact g1, by simp only [upd_apply, ↓reduceIte, reduceCtorEq, Nat.reduceEqDiff]; exact g3, by simp only [upd_apply, ↓reduceIte, reduceCtorEq, Nat.reduceEqDiff]; exact g4, by simp only [upd_apply, ↓reduceIte, reduceCtorEq, Nat.reduceEqDiff]; exact g19, by simp only [upd_apply, ↓reduceIte, reduceCtorEq, Nat.reduceEqDiff]; exact g20, by simp only [upd_apply, ↓reduceIte, reduceCtorEq, Nat.reduceEqDiff]; exact g21, by simp only [upd_apply, ↓reduceIte, reduceCtorEq, Nat.reduceEqDiff], by simp only [upd_apply, ↓reduceIte, reduceCtorEq, Nat.reduceEqDiff], by simp only [upd_apply, ↓reduceIte, reduceCtorEq, Nat.reduceEqDiff], by simp only [upd_apply, ↓reduceIte, reduceCtorEq, Nat.reduceEqDiff]; rfl, rfl, hb, _, _, rfl, hIi, hlo, hw, fun h => hw0 (by
          rcases Nat.eq_zero_or_pos i with rfl | h'
          · simp at h
          · exact h')⟩
    · have hie : i = rows.length := by omega
      subst hie
      (repeat' (first
  | (with_reducible first | refine WC_seq ?_ | refine WC_skip ?_ | refine WC_label ?_ | refine WC_scope ?_ | refine WC_block ?_ | refine WC_ret ?_ | refine WC_exit ?_ | refine seqQ_norm ?_ | refine seqQ_ret ?_ | refine seqQ_exit ?_ | refine blkQ_norm ?_ | refine blkQ_ret ?_ | refine blkQ_here ?_ | refine gateK_yes ?_ | refine gateK_none ?_ | refine condK_tt ?_ | refine condK_ff ?_ | refine roundQ_exit ?_ | refine roundQ_ret ?_)
  | refine WC_region ?_ | refine blkQ_out rfl ?_ | refine WO_nil ?_ | refine WD_nil ?_
  | ((first | refine WD_gate rfl rfl rfl rfl rfl fun K_ hK_ => ?_ | refine WO_gate rfl rfl rfl rfl rfl fun K_ hK_ => ?_); simp only [upd_apply, asB_bool, asB_tup, ↓reduceIte, reduceCtorEq, Nat.reduceEqDiff, Bool.not_true, Bool.not_false]; refine hK_ _ ?_; clear hK_ K_)
  | refine gateK_no (by decide) ?_
  | ((try first | refine WO_op rfl rfl rfl ?_ | refine WO_op0 rfl rfl ?_ | refine WD_op rfl rfl rfl ?_ | refine WD_op0 rfl rfl ?_); (refine WV_gen fun Q_ hQ_ => ?_; simp (disch := first | omega | (simp only [List.length_cons, List.length_nil, List.length_append]; omega)) only [bb, bp, argF, ↓reduceIte, reduceCtorEq, Nat.reduceEqDiff, Nat.reduceLT, Nat.reduceLeDiff, Nat.reduceAdd, Nat.reduceMul, Nat.reduceSub, Nat.reduceBEq, Int.reduceToNat, cond_true, cond_false, eq_self, beq_self_eq_true, g0, g1, g3, g4, g19, g20, g21]; first | (refine dec_split (Q := Q_) (fun hp_ => ?_) (fun hp_ => ?_) <;> first | (exfalso; omega) | (refine hQ_ _ _ ?_; clear hQ_ Q_)) | (refine dec_splitn (Q := Q_) (fun hp_ => ?_) (fun hp_ => ?_) <;> first | (exfalso; omega) | (refine hQ_ _ _ ?_; clear hQ_ Q_)) | (refine hQ_ _ _ ?_; clear hQ_ Q_)))
  | (refine WC_cond fun K_ hK_ => ?_; simp (disch := omega) only [evT_tmp, upd_apply, WB_some, ↓reduceIte, reduceCtorEq, Nat.reduceEqDiff, Nat.reduceLT]; refine hK_ _ ?_; clear hK_ K_)))
      refine endQ_ret _ (.tup []) rfl rfl (WV_out (by rw [← hs.clock]; exact hw0 (by omega)) ⟨hb, _, _, rfl, hs, by omega, ?_, .inl (by rw [placesOf_length]; exact hIi)⟩)
      omega
  · exact ⟨Nat.zero_le _, by simp only [upd_apply, ↓reduceIte, reduceCtorEq, Nat.reduceEqDiff], by simp only [upd_apply, ↓reduceIte, reduceCtorEq, Nat.reduceEqDiff], by simp only [upd_apply, ↓reduceIte, reduceCtorEq, Nat.reduceEqDiff], by simp only [upd_apply, ↓reduceIte, reduceCtorEq, Nat.reduceEqDiff], by simp only [upd_apply, ↓reduceIte, reduceCtorEq, Nat.reduceEqDiff], by simp only [upd_apply, ↓reduceIte, reduceCtorEq, Nat.reduceEqDiff], by simp only [upd_apply, ↓reduceIte, reduceCtorEq, Nat.reduceEqDiff]; rfl, rfl, hb0, [], _, rfl, by rw [Nat.zero_mul]; exact h0, Nat.le_trans hlo0 hlow, Nat.le_refl _, fun h => absurd h (Nat.lt_irrefl _)⟩
end Go.Proofs.Ytghondkiondeaab
end

/- EvH3 -/
section
/-
  LAYER 2: weights, and how many waterlines there are.
-/
namespace Go.Proofs.Ytghondkiondeaab
open Go.Ev
set_option maxRecDepth 100000
set_option linter.unusedSimpArgs false
set_option linter.unusedVariables false
set_option maxHeartbeats 2000000

theorem tEvH3 : type_of% (And.intro (And.intro (And.intro (And.intro (@ia_2) (@sz_2)) (And.intro (@ia_3) (@sz_3))) (And.intro (And.intro (@ia_22) (@sz_22)) (And.intro (@ia_46) (And.intro (@sz_46) (@ia_52))))) (And.intro (And.intro (And.intro (@sz_52) (@ia_94)) (And.intro (@sz_94) (@ze_94))) (And.intro (And.intro (@ik_94) (@fo_52_0)) (And.intro (@fo_24_2) (And.intro (@pb_52) (@pb_53)))))) := And.intro (And.intro (And.intro (And.intro (@ia_2) (@sz_2)) (And.intro (@ia_3) (@sz_3))) (And.intro (And.intro (@ia_22) (@sz_22)) (And.intro (@ia_46) (And.intro (@sz_46) (@ia_52))))) (And.intro (And.intro (And.intro (@sz_52) (@ia_94)) (And.intro (@sz_94) (@ze_94))) (And.intro (And.intro (@ik_94) (@fo_52_0)) (And.intro (@fo_24_2) (And.intro (@pb_52) (@pb_53)))))
theorem lines (p : Pos) (sp st : Int) (a : AV) (rvs : List AV) (rows : List (List (Int × Int))) (m : Nat) (hn : 0 < rows.length) (h : H) (wf : Wf h) (hB : HullIn h p sp st a rvs rows m) (J : List AO) (w : Nat) (hw : w ≤ h.clock + J.length) :
    (om Try.prog KK).call (.fn 53 [.agg [ii sp, ii st, a]]) (X h J w) = .ok (ii (m : Int)) (X h J w) := by
  obtain ⟨v, hv, hsv, hrl⟩ := hB.row 0 hn
  obtain ⟨id, off, hix, hld⟩ := (hB.sl.up wf J w).at1 (wf.X hw) (i := 0) hn ik_22
  rw [hv] at hld
  have hix' : indexAddrE Try.prog 22 a (.int .i64 0) = some (.ptr id off) := hix
  have hlenv : ∀ h', lenE Try.prog 46 v h' = some (ii (m : Int)) := fun h' => hsv.len un_46
  obtain ⟨hl, hsl⟩ : oneB a = true ∧ AV.cells a = [a] := by
    obtain ⟨_, ⟨rfl, _⟩ | ⟨_, _, _, _, _, _, rfl, _⟩⟩ := hB.sl <;> exact ⟨rfl, rfl⟩
  have wf' := wf.X hw
  generalize hX : X h J w = hb at *
  refine WV_to (WV_call (fn := Try.f53) Try.func53 rfl rfl rfl rfl rfl ?_)
  simp only [argF]
  (repeat' (first
  | (with_reducible first | refine WC_seq ?_ | refine WC_skip ?_ | refine WC_label ?_ | refine WC_scope ?_ | refine WC_block ?_ | refine WC_ret ?_ | refine WC_exit ?_ | refine seqQ_norm ?_ | refine seqQ_ret ?_ | refine seqQ_exit ?_ | refine blkQ_norm ?_ | refine blkQ_ret ?_ | refine blkQ_here ?_ | refine gateK_yes ?_ | refine gateK_none ?_ | refine condK_tt ?_ | refine condK_ff ?_ | refine roundQ_exit ?_ | refine roundQ_ret ?_)
  | refine WC_region ?_ | refine blkQ_out rfl ?_ | refine WO_nil ?_ | refine WD_nil ?_
  | ((first | refine WD_gate rfl rfl rfl rfl rfl fun K_ hK_ => ?_ | refine WO_gate rfl rfl rfl rfl rfl fun K_ hK_ => ?_); simp only [upd_apply, asB_bool, asB_tup, ↓reduceIte, reduceCtorEq, Nat.reduceEqDiff, Bool.not_true, Bool.not_false]; refine hK_ _ ?_; clear hK_ K_)
  | refine gateK_no (by decide) ?_
  | ((try first | refine WO_op rfl rfl rfl ?_ | refine WO_op0 rfl rfl ?_ | refine WD_op rfl rfl rfl ?_ | refine WD_op0 rfl rfl ?_); (refine WV_gen fun Q_ hQ_ => ?_; simp (disch := first | omega | (simp only [List.length_cons, List.length_nil, List.length_append]; omega)) only [bb, bp, argF, ↓reduceIte, reduceCtorEq, Nat.reduceEqDiff, Nat.reduceLT, Nat.reduceLeDiff, Nat.reduceAdd, Nat.reduceMul, Nat.reduceSub, Nat.reduceBEq, Int.reduceToNat, cond_true, cond_false, eq_self, beq_self_eq_true, hix', hld, hlenv, newPtr_X wf', load1_X wf', tEvH3, indexAddrE_def (P := Try.prog) (t := 94)]; first | (refine dec_split (Q := Q_) (fun hp_ => ?_) (fun hp_ => ?_) <;> first | (exfalso; omega) | (refine hQ_ _ _ ?_; clear hQ_ Q_)) | (refine dec_splitn (Q := Q_) (fun hp_ => ?_) (fun hp_ => ?_) <;> first | (exfalso; omega) | (refine hQ_ _ _ ?_; clear hQ_ Q_)) | (refine hQ_ _ _ ?_; clear hQ_ Q_)))
  | (refine WC_cond fun K_ hK_ => ?_; simp (disch := omega) only [evT_tmp, upd_apply, WB_some, ↓reduceIte, reduceCtorEq, Nat.reduceEqDiff, Nat.reduceLT]; refine hK_ _ ?_; clear hK_ K_)))
  (refine endQ_ret _ _ rfl (ret1 (by decide)) ?_; simp only [upd_apply, ↓reduceIte, reduceCtorEq, Nat.reduceEqDiff]; refine WV_flat rfl (by omega) ?_)
  exact ⟨rfl, rfl⟩

/-- After so many rounds. -/
def wtk (k : Nat) : List AV := [ii (if 0 < k then 2 else 0), ii (if 1 < k then 2 else 0), ii (if 2 < k then 2 else 0), ii (if 3 < k then 2 else 0), ii (if 4 < k then 2 else 0), ii (if 5 < k then 2 else 0), ii (if 6 < k then 2 else 0), ii (if 7 < k then 2 else 0), ii (if 8 < k then 2 else 0), ii (if 9 < k then 2 else 0)]
theorem wtk_set (k : Nat) (hk : k < 10) : (wtk k).set k (ii 2) = wtk (k + 1) := by
  match k, hk with
  | 0, _ => rfl | 1, _ => rfl | 2, _ => rfl | 3, _ => rfl | 4, _ => rfl | 5, _ => rfl | 6, _ => rfl | 7, _ => rfl | 8, _ => rfl | 9, _ => rfl
theorem wtk_len (k : Nat) : (wtk k).length = 10 := rfl
theorem wtk_end (n : Nat) (h2 : 2 ≤ n) (h10 : n ≤ 10) : ((wtk n).set 0 (ii 1)).set (n - 1) (ii 1) = wts n := by
  match n, h2, h10 with
  | 2, _, _ => rfl | 3, _, _ => rfl | 4, _, _ => rfl | 5, _, _ => rfl | 6, _, _ => rfl | 7, _, _ => rfl | 8, _, _ => rfl | 9, _, _ => rfl | 10, _, _ => rfl

theorem weights (n : Nat) (h2 : 2 ≤ n) (h10 : n ≤ 10) (h : H) (wf : Wf h) : (om Try.prog KK).call (.fn 52 [ii (n : Int)]) h = .ok (.agg (wts n)) h := by
  refine WV_to (WV_call (fn := Try.f52) Try.func52 rfl rfl rfl rfl rfl ?_)
  simp only [argF]
  (repeat' (first
  | (with_reducible first | refine WC_seq ?_ | refine WC_skip ?_ | refine WC_label ?_ | refine WC_scope ?_ | refine WC_block ?_ | refine WC_ret ?_ | refine WC_exit ?_ | refine seqQ_norm ?_ | refine seqQ_ret ?_ | refine seqQ_exit ?_ | refine blkQ_norm ?_ | refine blkQ_ret ?_ | refine blkQ_here ?_ | refine gateK_yes ?_ | refine gateK_none ?_ | refine condK_tt ?_ | refine condK_ff ?_ | refine roundQ_exit ?_ | refine roundQ_ret ?_)
  | refine WC_region ?_ | refine blkQ_out rfl ?_ | refine WO_nil ?_ | refine WD_nil ?_
  | ((first | refine WD_gate rfl rfl rfl rfl rfl fun K_ hK_ => ?_ | refine WO_gate rfl rfl rfl rfl rfl fun K_ hK_ => ?_); simp only [upd_apply, asB_bool, asB_tup, ↓reduceIte, reduceCtorEq, Nat.reduceEqDiff, Bool.not_true, Bool.not_false]; refine hK_ _ ?_; clear hK_ K_)
  | refine gateK_no (by decide) ?_
  | ((try first | refine WO_op rfl rfl rfl ?_ | refine WO_op0 rfl rfl ?_ | refine WD_op rfl rfl rfl ?_ | refine WD_op0 rfl rfl ?_); (refine WV_gen fun Q_ hQ_ => ?_; simp (disch := first | omega | (simp only [List.length_cons, List.length_nil, List.length_append]; omega)) only [bb, bp, argF, ↓reduceIte, reduceCtorEq, Nat.reduceEqDiff, Nat.reduceLT, Nat.reduceLeDiff, Nat.reduceAdd, Nat.reduceMul, Nat.reduceSub, Nat.reduceBEq, Int.reduceToNat, cond_true, cond_false, eq_self, beq_self_eq_true, newPtr_X wf, load1_X wf, loadAgg_X wf, store1_X wf, writeCells_X wf, tEvH3, indexAddrE_def (P := Try.prog) (t := 94)]; first | (refine dec_split (Q := Q_) (fun hp_ => ?_) (fun hp_ => ?_) <;> first | (exfalso; omega) | (refine hQ_ _ _ ?_; clear hQ_ Q_)) | (refine dec_splitn (Q := Q_) (fun hp_ => ?_) (fun hp_ => ?_) <;> first | (exfalso; omega) | (refine hQ_ _ _ ?_; clear hQ_ Q_)) | (refine hQ_ _ _ ?_; clear hQ_ Q_)))
  | (refine WC_cond fun K_ hK_ => ?_; simp (disch := omega) only [evT_tmp, upd_apply, WB_some, ↓reduceIte, reduceCtorEq, Nat.reduceEqDiff, Nat.reduceLT]; refine hK_ _ ?_; clear hK_ K_)))
  refine WC_loop (fun (k : Nat) f d h' => k ≤ n ∧ f 0 = ii (n : Int) ∧ f 2 = .ptr (nx h 0) 0 ∧ f 3 = .ptr (nx h 1) 0 ∧ f 5 = ii (n : Int) ∧ f 6 = ii (k : Int) ∧ d = [] ∧ h' = X h [.cells (mkCells (wtk 0)) 94, .cells (mkCells (wtk k)) 94] h.clock) (fun k => n - k) ?_ (n + 1) 0 (by omega) ?_
  · rintro k f d h' ⟨hk, g0, g2, g3, g5, g6, rfl, rfl⟩
    by_cases hlt : k < n
    · have hk10 : k < 10 := by omega
      (repeat' (first
  | (with_reducible first | refine WC_seq ?_ | refine WC_skip ?_ | refine WC_label ?_ | refine WC_scope ?_ | refine WC_block ?_ | refine WC_ret ?_ | refine WC_exit ?_ | refine seqQ_norm ?_ | refine seqQ_ret ?_ | refine seqQ_exit ?_ | refine blkQ_norm ?_ | refine blkQ_ret ?_ | refine blkQ_here ?_ | refine gateK_yes ?_ | refine gateK_none ?_ | refine condK_tt ?_ | refine condK_ff ?_ | refine roundQ_exit ?_ | refine roundQ_ret ?_)
  | refine WC_region ?_ | refine blkQ_out rfl ?_ | refine WO_nil ?_ | refine WD_nil ?_
  | ((first | refine WD_gate rfl rfl rfl rfl rfl fun K_ hK_ => ?_ | refine WO_gate rfl rfl rfl rfl rfl fun K_ hK_ => ?_); simp only [upd_apply, asB_bool, asB_tup, ↓reduceIte, reduceCtorEq, Nat.reduceEqDiff, Bool.not_true, Bool.not_false]; refine hK_ _ ?_; clear hK_ K_)
  | refine gateK_no (by decide) ?_
  | ((try first | refine WO_op rfl rfl rfl ?_ | refine WO_op0 rfl rfl ?_ | refine WD_op rfl rfl rfl ?_ | refine WD_op0 rfl rfl ?_); (refine WV_gen fun Q_ hQ_ => ?_; simp (disch := first | omega | (simp only [List.length_cons, List.length_nil, List.length_append]; omega)) only [bb, bp, argF, ↓reduceIte, reduceCtorEq, Nat.reduceEqDiff, Nat.reduceLT, Nat.reduceLeDiff, Nat.reduceAdd, Nat.reduceMul, Nat.reduceSub, Nat.reduceBEq, Int.reduceToNat, cond_true, cond_false, eq_self, beq_self_eq_true, g0, g2, g3, g5, g6, wtk_set k hk10, wtk_len, hk10, newPtr_X wf, load1_X wf, loadAgg_X wf, store1_X wf, writeCells_X wf, tEvH3, indexAddrE_def (P := Try.prog) (t := 94)]; first | (refine dec_split (Q := Q_) (fun hp_ => ?_) (fun hp_ => ?_) <;> first | (exfalso; omega) | (refine hQ_ _ _ ?_; clear hQ_ Q_)) | (refine dec_splitn (Q := Q_) (fun hp_ => ?_) (fun hp_ => ?_) <;> first | (exfalso; omega) | (refine hQ_ _ _ ?_; clear hQ_ Q_)) | (refine hQ_ _ _ ?_; clear hQ_ Q_)))
  | (refine WC_cond fun K_ hK_ => ?_; simp (disch := omega) only [evT_tmp, upd_apply, WB_some, ↓reduceIte, reduceCtorEq, Nat.reduceEqDiff, Nat.reduceLT]; refine hK_ _ ?_; clear hK_ K_)))
      refine roundQ_again (k + 1) (by omega) ⟨hlt, by simp only [upd_apply, ↓reduceIte, reduceCtorEq, Nat.reduceEqDiff]; exact g0, by simp only [upd_apply, ↓reduceIte, reduceCtorEq, Nat.reduceEqDiff]; exact g2, by simp only [upd_apply, ↓reduceIte, reduceCtorEq, Nat.reduceEqDiff]; exact g3, by simp only [upd_apply, ↓reduceIte, reduceCtorEq, Nat.reduceEqDiff]; exact g5, by simp only [upd_apply, ↓reduceIte, reduceCtorEq, Nat.reduceEqDiff]; rfl, rfl, ?_⟩
      rfl
    · have hke : k = n := by omega
      subst hke
      have e1 : (k : Int) - 1 = ((k - 1 : Nat) : Int) := by omega
      have hk0 : k - 1 < 10 := by omega
      have hdrop : List.drop 10 (wtk 0) = [] := rfl
      have he := wtk_end k h2 h10
      unfold ii at he
      (repeat' (first
  | (with_reducible first | refine WC_seq ?_ | refine WC_skip ?_ | refine WC_label ?_ | refine WC_scope ?_ | refine WC_block ?_ | refine WC_ret ?_ | refine WC_exit ?_ | refine seqQ_norm ?_ | refine seqQ_ret ?_ | refine seqQ_exit ?_ | refine blkQ_norm ?_ | refine blkQ_ret ?_ | refine blkQ_here ?_ | refine gateK_yes ?_ | refine gateK_none ?_ | refine condK_tt ?_ | refine condK_ff ?_ | refine roundQ_exit ?_ | refine roundQ_ret ?_)
  | refine WC_region ?_ | refine blkQ_out rfl ?_ | refine WO_nil ?_ | refine WD_nil ?_
  | ((first | refine WD_gate rfl rfl rfl rfl rfl fun K_ hK_ => ?_ | refine WO_gate rfl rfl rfl rfl rfl fun K_ hK_ => ?_); simp only [upd_apply, asB_bool, asB_tup, ↓reduceIte, reduceCtorEq, Nat.reduceEqDiff, Bool.not_true, Bool.not_false]; refine hK_ _ ?_; clear hK_ K_)
  | refine gateK_no (by decide) ?_
  | ((try first | refine WO_op rfl rfl rfl ?_ | refine WO_op0 rfl rfl ?_ | refine WD_op rfl rfl rfl ?_ | refine WD_op0 rfl rfl ?_); (refine WV_gen fun Q_ hQ_ => ?_; simp (disch := first | omega | (simp only [List.length_cons, List.length_nil, List.length_append]; omega)) only [bb, bp, argF, ↓reduceIte, reduceCtorEq, Nat.reduceEqDiff, Nat.reduceLT, Nat.reduceLeDiff, Nat.reduceAdd, Nat.reduceMul, Nat.reduceSub, Nat.reduceBEq, Int.reduceToNat, cond_true, cond_false, eq_self, beq_self_eq_true, g0, g2, g3, g5, g6, e1, wtk_len, hk0, he, wts, hdrop, List.length_set, newPtr_X wf, load1_X wf, loadAgg_X wf, store1_X wf, writeCells_X wf, tEvH3, indexAddrE_def (P := Try.prog) (t := 94)]; first | (refine dec_split (Q := Q_) (fun hp_ => ?_) (fun hp_ => ?_) <;> first | (exfalso; omega) | (refine hQ_ _ _ ?_; clear hQ_ Q_)) | (refine dec_splitn (Q := Q_) (fun hp_ => ?_) (fun hp_ => ?_) <;> first | (exfalso; omega) | (refine hQ_ _ _ ?_; clear hQ_ Q_)) | (refine hQ_ _ _ ?_; clear hQ_ Q_)))
  | (refine WC_cond fun K_ hK_ => ?_; simp (disch := omega) only [evT_tmp, upd_apply, WB_some, ↓reduceIte, reduceCtorEq, Nat.reduceEqDiff, Nat.reduceLT]; refine hK_ _ ?_; clear hK_ K_)))
      refine endQ_ret _ _ rfl (retc0 (by decide) (by simp (disch := first | omega | (simp only [List.length_cons, List.length_nil, List.length_append]; omega)) only [bb, bp, argF, ↓reduceIte, reduceCtorEq, Nat.reduceEqDiff, Nat.reduceLT, Nat.reduceLeDiff, Nat.reduceAdd, Nat.reduceMul, Nat.reduceSub, Nat.reduceBEq, Int.reduceToNat, cond_true, cond_false, eq_self, beq_self_eq_true, g2, hdrop, loadAgg_X wf, tEvH3, indexAddrE_def (P := Try.prog) (t := 94)]; rfl)) ?_
      refine WV_flat rfl (by omega) ?_
      exact ⟨rfl, rfl⟩
  · exact ⟨Nat.zero_le _, by simp only [upd_apply, ↓reduceIte, reduceCtorEq, Nat.reduceEqDiff], by simp only [upd_apply, ↓reduceIte, reduceCtorEq, Nat.reduceEqDiff], by simp only [upd_apply, ↓reduceIte, reduceCtorEq, Nat.reduceEqDiff], by simp only [upd_apply, ↓reduceIte, reduceCtorEq, Nat.reduceEqDiff], by simp only [upd_apply, ↓reduceIte, reduceCtorEq, Nat.reduceEqDiff]; rfl, rfl, rfl⟩
end Go.Proofs.Ytghondkiondeaab
end

/- EvH4 -/
section
/-
  LAYER 2: a hull's places, in any heap behind a pointer to the hull; the volume.
-/
namespace Go.Proofs.Ytghondkiondeaab
open Go.Ev
set_option maxRecDepth 100000
set_option linter.unusedSimpArgs false
set_option linter.unusedVariables false
set_option maxHeartbeats 2000000

theorem places (sp st : Int) (a : AV) (h : H) (wf : Wf h) (J : List AO) (w : Nat) (hw : w ≤ h.clock + J.length) :
    (om Try.prog KK).call (.fn 33 [.agg [ii sp, ii st, a]]) (X h J w) = .ok (.fn 51 [] [.ptr (nx h J.length) 0]) (X h (J ++ [.cells (mkCells [ii sp, ii st, a]) 52]) w) := by
  have wf' := wf.X hw
  have key : ∀ hb, Wf hb → (om Try.prog KK).call (.fn 33 [.agg [ii sp, ii st, a]]) hb = .ok (.fn 51 [] [.ptr (nx hb 0) 0]) (X hb [.cells (mkCells [ii sp, ii st, a]) 52] hb.w) := by
    clear wf wf'
    intro hb wf
    refine WV_to (WV_call (fn := Try.f33) Try.func33 rfl rfl rfl rfl rfl ?_)
    simp only [argF]
    (repeat' (first
  | (with_reducible first | refine WC_seq ?_ | refine WC_skip ?_ | refine WC_label ?_ | refine WC_scope ?_ | refine WC_block ?_ | refine WC_ret ?_ | refine WC_exit ?_ | refine seqQ_norm ?_ | refine seqQ_ret ?_ | refine seqQ_exit ?_ | refine blkQ_norm ?_ | refine blkQ_ret ?_ | refine blkQ_here ?_ | refine gateK_yes ?_ | refine gateK_none ?_ | refine condK_tt ?_ | refine condK_ff ?_ | refine roundQ_exit ?_ | refine roundQ_ret ?_)
  | refine WC_region ?_ | refine blkQ_out rfl ?_ | refine WO_nil ?_ | refine WD_nil ?_
  | ((first | refine WD_gate rfl rfl rfl rfl rfl fun K_ hK_ => ?_ | refine WO_gate rfl rfl rfl rfl rfl fun K_ hK_ => ?_); simp only [upd_apply, asB_bool, asB_tup, ↓reduceIte, reduceCtorEq, Nat.reduceEqDiff, Bool.not_true, Bool.not_false]; refine hK_ _ ?_; clear hK_ K_)
  | refine gateK_no (by decide) ?_
  | ((try first | refine WO_op rfl rfl rfl ?_ | refine WO_op0 rfl rfl ?_ | refine WD_op rfl rfl rfl ?_ | refine WD_op0 rfl rfl ?_); (refine WV_gen fun Q_ hQ_ => ?_; simp (disch := first | omega | (simp only [List.length_cons, List.length_nil, List.length_append]; omega)) only [bb, bp, argF, ↓reduceIte, reduceCtorEq, Nat.reduceEqDiff, Nat.reduceLT, Nat.reduceLeDiff, Nat.reduceAdd, Nat.reduceMul, Nat.reduceSub, Nat.reduceBEq, Int.reduceToNat, cond_true, cond_false, eq_self, beq_self_eq_true, newPtr_X wf, load1_X wf, loadAgg_X wf, store1_X wf, writeCells_X wf, makeFunc_def, ia_52, sz_52]; first | (refine dec_split (Q := Q_) (fun hp_ => ?_) (fun hp_ => ?_) <;> first | (exfalso; omega) | (refine hQ_ _ _ ?_; clear hQ_ Q_)) | (refine dec_splitn (Q := Q_) (fun hp_ => ?_) (fun hp_ => ?_) <;> first | (exfalso; omega) | (refine hQ_ _ _ ?_; clear hQ_ Q_)) | (refine hQ_ _ _ ?_; clear hQ_ Q_)))
  | (refine WC_cond fun K_ hK_ => ?_; simp (disch := omega) only [evT_tmp, upd_apply, WB_some, ↓reduceIte, reduceCtorEq, Nat.reduceEqDiff, Nat.reduceLT]; refine hK_ _ ?_; clear hK_ K_)))
    refine endQ_ret _ _ rfl (ret1 (by decide)) ?_
    simp only [upd_apply, ↓reduceIte, reduceCtorEq, Nat.reduceEqDiff]
    refine WV_ext (by
      show (_ && flat (.fn 51 [] [.ptr _ 0])) = false
      exact Bool.and_false _) ?_
    refine ⟨rfl, ?_⟩
    rw [Nat.min_eq_left wf.wle]
  rw [key _ wf', X_X, nx_X, X_w]
  rfl

/-- A hull that lies in a heap. -/
structure HullAt (h : H) (a : AV) (rvs : List AV) (rows : List (List (Int × Int))) (m : Nat) : Prop where
  wf : Wf h
  sl : Sl h a 1 rows.length rvs
  row : ∀ i (hi : i < rows.length), ∃ v, rvs[i]? = some v ∧ Sl h v 2 m (pairCells rows[i]) ∧ rows[i].length = m
theorem HullAt.up {h : H} {a : AV} {rvs : List AV} {rows : List (List (Int × Int))} {m : Nat} (x : HullAt h a rvs rows m) (l : List AO) (w : Nat) (hw : w ≤ h.clock + l.length) : HullAt (X h l w) a rvs rows m :=
  ⟨x.wf.X hw, x.sl.up x.wf l w, fun i hi => let ⟨v, h1, h2, h3⟩ := x.row i hi; ⟨v, h1, h2.up x.wf l w, h3⟩⟩
theorem HullAt.in {h : H} {a : AV} {rvs : List AV} {rows : List (List (Int × Int))} {m : Nat} (x : HullAt h a rvs rows m) {sp st : Int} {L : List AO} {w k : Nat} (hw : w ≤ h.clock + L.length) (hk : L[k]? = some (.cells (mkCells [ii sp, ii st, a]) 52)) :
    HullIn (X h L w) (nx h k) sp st a rvs rows m := by
  have hk' : ∀ J : List AO, (L ++ J)[k]? = some (.cells (mkCells [ii sp, ii st, a]) 52) := fun J => by rw [List.getElem?_append_left (lt_of_get hk), hk]
  refine ⟨x.wf.X hw, fun J w' => ?_, fun J w' => ?_, x.sl.up x.wf L w, fun i hi => ?_⟩
  · rw [X_X, load1_X x.wf, hk']; rfl
  · rw [X_X, loadAgg_X x.wf, hk']
    rw [aggAt_cells (by decide)]; rfl
  · obtain ⟨v, h1, h2, h3⟩ := x.row i hi
    exact ⟨v, h1, h2.up x.wf L w, h3⟩

theorem Hands.mono {P : Program} {K : List Con} {B B' : H → Prop} {fv : AV} {xs : List (List AV)} (hd : Hands P K B fv xs) (k : ∀ h, B' h → B h) : Hands P K B' fv xs :=
  fun l hb0 I D lo hlo hlw hI hy h0 => hd l hb0 I D lo hlo hlw (fun i h hi => ⟨k h (hI i h hi).1, (hI i h hi).2⟩) hy h0

/-- The loop over a hull's places. -/
theorem placesH {h : H} {a : AV} {rvs : List AV} {rows : List (List (Int × Int))} {m : Nat} (x : HullAt h a rvs rows m) (hn : 2 ≤ rows.length ∧ rows.length ≤ 10) (hm : 2 ≤ m ∧ m ≤ 6) (sp st : Int) (k : Nat) :
    Hands Try.prog KK (fun hb => ∃ L w, hb = X h L w ∧ w ≤ h.clock + L.length ∧ L[k]? = some (.cells (mkCells [ii sp, ii st, a]) 52)) (.fn 51 [] [.ptr (nx h k) 0]) (placesOf rows m) := by
  have := places1 (nx h k) sp st a rvs rows m hn hm (fun n h2 h10 h wf => weights n h2 h10 h wf) (fun h wf hB J w hw => lines _ sp st a rvs rows m (by omega) h wf hB J w hw)
  exact Hands.mono this fun hb ⟨L, w, e, hw, hk⟩ => by subst e; exact x.in hw hk

def psum (f : Nat → Int) : Nat → Int
  | 0 => 0
  | q + 1 => psum f q + f q
theorem psum_in {f : Nat → Int} {b : Int} : ∀ {q : Nat}, (∀ i, i < q → 0 ≤ f i ∧ f i ≤ b) → 0 ≤ psum f q ∧ psum f q ≤ q * b
  | 0, _ => by simp [psum]
  | q + 1, h => by
    have := psum_in (q := q) (fun i hi => h i (by omega))
    have h2 := h q (by omega)
    simp only [psum]
    have e : ((q + 1 : Nat) : Int) * b = q * b + b := by rw [Int.natCast_add, Int.add_mul]; omega
    omega

/-- The offset of a place in a grid. -/
def yat (gs : List Int) (m q : Nat) : Int := gs.getD (q / m * 6 + q % m) 0
def vterm (n m : Nat) (gs : List Int) (q : Nat) : Int := wt n (q / m) * wt m (q % m) * yat gs m q

theorem place_idx {n m q : Nat} (hm : m ≤ 6) (hn : n ≤ 10) (hq : q < n * m) : q / m < n ∧ q % m < m ∧ q / m * 6 + q % m < 60 := by
  have hm0 : 0 < m := by rcases Nat.eq_zero_or_pos m with rfl | h; · simp at hq
                         · exact h
  have h1 : q / m < n := (Nat.div_lt_iff_lt_mul hm0).2 hq
  have h2 : q % m < m := Nat.mod_lt _ hm0
  exact ⟨h1, h2, by omega⟩
theorem wt2 (n i m k : Nat) : 0 ≤ wt n i * wt m k ∧ wt n i * wt m k ≤ 4 := by
  have w1 := wt_in n i
  have w2 := wt_in m k
  refine ⟨Int.mul_nonneg w1.1 w2.1, ?_⟩
  have := Int.mul_le_mul w1.2 w2.2 w2.1 (by omega : (0 : Int) ≤ 2); omega
theorem mul_bd {a b x y : Int} (h1 : 0 ≤ a ∧ a ≤ x) (h2 : 0 ≤ b ∧ b ≤ y) : 0 ≤ a * b ∧ a * b ≤ x * y :=
  ⟨Int.mul_nonneg h1.1 h2.1, Int.mul_le_mul h1.2 h2.2 h2.1 (by omega)⟩
theorem vterm_in {n m : Nat} {gs : List Int} {q : Nat} (hy : 0 ≤ yat gs m q ∧ yat gs m q ≤ 500) : 0 ≤ vterm n m gs q ∧ vterm n m gs q ≤ 2000 := by
  have := mul_bd (wt2 n (q / m) m (q % m)) hy
  unfold vterm; omega
theorem placesOf_at {rows : List (List (Int × Int))} {m q : Nat} {x : List AV} (hx : (placesOf rows m)[q]? = some x) : q < rows.length * m ∧ x = [placeOf rows.length m (q / m) (q % m) ((rows.getD (q / m) []).getD (q % m) (0, 0))] := by
  have hq : q < rows.length * m := by have := lt_of_get hx; rwa [placesOf_length] at this
  unfold placesOf at hx
  rw [List.getElem?_map, List.getElem?_range hq] at hx
  exact ⟨hq, (Option.some.inj hx).symm⟩
theorem grid_get {gs : List Int} (hl : gs.length = 60) {i : Nat} (hi : i < 60) : (gs.map ii)[i]? = some (ii (gs.getD i 0)) := by
  rw [List.getElem?_map]; simp [List.getD, hl, hi]

theorem volume (sp st : Int) (hsp : 1 ≤ sp ∧ sp ≤ 1000) (hst : 1 ≤ st ∧ st ≤ 100) (a : AV) (rvs : List AV) (rows : List (List (Int × Int))) (m : Nat) (hn : 2 ≤ rows.length ∧ rows.length ≤ 10) (hm : 2 ≤ m ∧ m ≤ 6)
    (gs : List Int) (hl : gs.length = 60) (hy : ∀ q, q < rows.length * m → 0 ≤ yat gs m q ∧ yat gs m q ≤ 500) (h : H) (x : HullAt h a rvs rows m) :
    (om Try.prog KK).call (.fn 24 [.agg [ii sp, ii st, a], .agg (gs.map ii)]) h = .ok (frac (sp * st * psum (vterm rows.length m gs) (rows.length * m)) 2) h := by
  have wf := x.wf
  have hnm : rows.length * m ≤ 60 := by
    have := Nat.mul_le_mul hn.2 hm.2; omega
  refine WV_to (WV_call (fn := Try.f24) Try.func24 rfl rfl rfl rfl rfl ?_)
  simp only [argF]
  (repeat' (first
  | (with_reducible first | refine WC_seq ?_ | refine WC_skip ?_ | refine WC_label ?_ | refine WC_scope ?_ | refine WC_block ?_ | refine WC_ret ?_ | refine WC_exit ?_ | refine seqQ_norm ?_ | refine seqQ_ret ?_ | refine seqQ_exit ?_ | refine blkQ_norm ?_ | refine blkQ_ret ?_ | refine blkQ_here ?_ | refine gateK_yes ?_ | refine gateK_none ?_ | refine condK_tt ?_ | refine condK_ff ?_ | refine roundQ_exit ?_ | refine roundQ_ret ?_)
  | refine WC_region ?_ | refine blkQ_out rfl ?_ | refine WO_nil ?_ | refine WD_nil ?_
  | ((first | refine WD_gate rfl rfl rfl rfl rfl fun K_ hK_ => ?_ | refine WO_gate rfl rfl rfl rfl rfl fun K_ hK_ => ?_); simp only [upd_apply, asB_bool, asB_tup, ↓reduceIte, reduceCtorEq, Nat.reduceEqDiff, Bool.not_true, Bool.not_false]; refine hK_ _ ?_; clear hK_ K_)
  | refine gateK_no (by decide) ?_
  | ((try first | refine WO_op rfl rfl rfl ?_ | refine WO_op0 rfl rfl ?_ | refine WD_op rfl rfl rfl ?_ | refine WD_op0 rfl rfl ?_); (refine WV_gen fun Q_ hQ_ => ?_; simp (disch := first | omega | (simp only [List.length_cons, List.length_nil, List.length_append]; omega)) only [bb, bp, argF, ↓reduceIte, reduceCtorEq, Nat.reduceEqDiff, Nat.reduceLT, Nat.reduceLeDiff, Nat.reduceAdd, Nat.reduceMul, Nat.reduceSub, Nat.reduceBEq, Int.reduceToNat, cond_true, cond_false, eq_self, beq_self_eq_true, newPtr_X wf, load1_X wf, loadAgg_X wf, store1_X wf, writeCells_X wf, makeFunc_def, frac, ia_29, sz_29, ze_29, ia_2, sz_2, ze_2, ia_3, sz_3, ia_75, sz_75, ze_75, fo_75_1, fo_75_2, fo_75_3, fo_52_0, fo_24_0, fo_24_1, ia_52, sz_52, ik_56, ik_54, indexAddrE_def (P := Try.prog) (t := 56), indexAddrE_def (P := Try.prog) (t := 54), pb_33, pb_45, pb_24]; first | (refine dec_split (Q := Q_) (fun hp_ => ?_) (fun hp_ => ?_) <;> first | (exfalso; omega) | (refine hQ_ _ _ ?_; clear hQ_ Q_)) | (refine dec_splitn (Q := Q_) (fun hp_ => ?_) (fun hp_ => ?_) <;> first | (exfalso; omega) | (refine hQ_ _ _ ?_; clear hQ_ Q_)) | (refine hQ_ _ _ ?_; clear hQ_ Q_) | (refine WV_eq (places sp st a h wf _ _ (by simp only [List.length_append, List.length_cons, List.length_nil]; omega)) ?_; refine hQ_ _ _ ?_; clear hQ_ Q_)))
  | (refine WC_cond fun K_ hK_ => ?_; simp (disch := omega) only [evT_tmp, upd_apply, WB_some, ↓reduceIte, reduceCtorEq, Nat.reduceEqDiff, Nat.reduceLT]; refine hK_ _ ?_; clear hK_ K_)))
  simp only [List.length_cons, List.length_nil, List.cons_append, List.nil_append]
  refine WC_rangeX wf rfl (evT_tmp (by decide)) fun o ho => ?_
  simp only [upd_apply, ↓reduceIte, reduceCtorEq, Nat.reduceEqDiff, List.length_cons, List.length_nil, List.cons_append, List.nil_append, Nat.reduceAdd]
  refine WV.mono (placesH x hn hm sp st 4 (nx h 6) _ (fun q hb => ∃ w, hb = X h [.cells (mkCells [ii sp, ii st, a]) 52, .cells (mkCells (gs.map ii)) 56, .cells (mkCells [ii 0, ii 0]) 29, .cells (mkCells [ii (psum (vterm rows.length m gs) q)]) 2, .cells (mkCells [ii sp, ii st, a]) 52, .dfr, o] w ∧ w ≤ h.clock + 7)
    (fun _ => False) h.clock (Nat.le_refl _) (Nat.le_add_right _ _) ?_ ?_ ⟨h.clock, rfl, by omega⟩) ?_
  · rintro q hb ⟨w, rfl, hw⟩
    exact ⟨⟨_, w, rfl, hw, rfl⟩, Same.X rfl⟩
  · rintro q xx hx hb J w ⟨w0, rfl, hw0⟩ hlo hw
    obtain ⟨hq, rfl⟩ := placesOf_at hx
    rw [X_X]
    generalize (rows.getD (q / m) []).getD (q % m) (0, 0) = r
    simp only [List.cons_append, List.nil_append, placeOf]
    refine WV_yldX wf (k := 6) rfl ho (setParams1 rfl) ?_
    (repeat' (first
  | (with_reducible first | refine WC_seq ?_ | refine WC_skip ?_ | refine WC_label ?_ | refine WC_scope ?_ | refine WC_block ?_ | refine WC_ret ?_ | refine WC_exit ?_ | refine seqQ_norm ?_ | refine seqQ_ret ?_ | refine seqQ_exit ?_ | refine blkQ_norm ?_ | refine blkQ_ret ?_ | refine blkQ_here ?_ | refine gateK_yes ?_ | refine gateK_none ?_ | refine condK_tt ?_ | refine condK_ff ?_ | refine roundQ_exit ?_ | refine roundQ_ret ?_)
  | refine WC_region ?_ | refine blkQ_out rfl ?_ | refine WO_nil ?_ | refine WD_nil ?_
  | ((first | refine WD_gate rfl rfl rfl rfl rfl fun K_ hK_ => ?_ | refine WO_gate rfl rfl rfl rfl rfl fun K_ hK_ => ?_); simp only [upd_apply, asB_bool, asB_tup, ↓reduceIte, reduceCtorEq, Nat.reduceEqDiff, Bool.not_true, Bool.not_false]; refine hK_ _ ?_; clear hK_ K_)
  | refine gateK_no (by decide) ?_
  | ((try first | refine WO_op rfl rfl rfl ?_ | refine WO_op0 rfl rfl ?_ | refine WD_op rfl rfl rfl ?_ | refine WD_op0 rfl rfl ?_); (refine WV_gen fun Q_ hQ_ => ?_; simp (disch := first | omega | (simp only [List.length_cons, List.length_nil, List.length_append]; omega)) only [bb, bp, argF, ↓reduceIte, reduceCtorEq, Nat.reduceEqDiff, Nat.reduceLT, Nat.reduceLeDiff, Nat.reduceAdd, Nat.reduceMul, Nat.reduceSub, Nat.reduceBEq, Int.reduceToNat, cond_true, cond_false, eq_self, beq_self_eq_true, newPtr_X wf, load1_X wf, loadAgg_X wf, store1_X wf, writeCells_X wf, makeFunc_def, frac, ia_29, sz_29, ze_29, ia_2, sz_2, ze_2, ia_3, sz_3, ia_75, sz_75, ze_75, fo_75_1, fo_75_2, fo_75_3, fo_52_0, fo_24_0, fo_24_1, ia_52, sz_52, ik_56, ik_54, indexAddrE_def (P := Try.prog) (t := 56), indexAddrE_def (P := Try.prog) (t := 54), pb_33, pb_45, pb_24]; first | (refine dec_split (Q := Q_) (fun hp_ => ?_) (fun hp_ => ?_) <;> first | (exfalso; omega) | (refine hQ_ _ _ ?_; clear hQ_ Q_)) | (refine dec_splitn (Q := Q_) (fun hp_ => ?_) (fun hp_ => ?_) <;> first | (exfalso; omega) | (refine hQ_ _ _ ?_; clear hQ_ Q_)) | (refine hQ_ _ _ ?_; clear hQ_ Q_)))
  | (refine WC_cond fun K_ hK_ => ?_; simp (disch := omega) only [evT_tmp, upd_apply, WB_some, ↓reduceIte, reduceCtorEq, Nat.reduceEqDiff, Nat.reduceLT]; refine hK_ _ ?_; clear hK_ K_)))
    refine yldA_X wf (k := 6) rfl ho fun o' ho' => ?_
    obtain ⟨i1, i2, i3⟩ := place_idx hm.2 hn.2 hq
    have hg := grid_get hl i3
    have hw' : w ≤ h.clock + 7 + J.length := hw
    have hv := vterm_in (n := rows.length) (gs := gs) (hy q hq)
    have hs := psum_in (f := vterm rows.length m gs) (b := 2000) (q := q) (fun i hi => vterm_in (hy i (by omega)))
    have hd : vterm rows.length m gs q = wt rows.length (q / m) * wt m (q % m) * gs.getD (q / m * 6 + q % m) 0 := rfl
    rw [hd] at hv
    (repeat' (first
  | (with_reducible first | refine WC_seq ?_ | refine WC_skip ?_ | refine WC_label ?_ | refine WC_scope ?_ | refine WC_block ?_ | refine WC_ret ?_ | refine WC_exit ?_ | refine seqQ_norm ?_ | refine seqQ_ret ?_ | refine seqQ_exit ?_ | refine blkQ_norm ?_ | refine blkQ_ret ?_ | refine blkQ_here ?_ | refine gateK_yes ?_ | refine gateK_none ?_ | refine condK_tt ?_ | refine condK_ff ?_ | refine roundQ_exit ?_ | refine roundQ_ret ?_)
  | refine WC_region ?_ | refine blkQ_out rfl ?_ | refine WO_nil ?_ | refine WD_nil ?_
  | ((first | refine WD_gate rfl rfl rfl rfl rfl fun K_ hK_ => ?_ | refine WO_gate rfl rfl rfl rfl rfl fun K_ hK_ => ?_); simp only [upd_apply, asB_bool, asB_tup, ↓reduceIte, reduceCtorEq, Nat.reduceEqDiff, Bool.not_true, Bool.not_false]; refine hK_ _ ?_; clear hK_ K_)
  | refine gateK_no (by decide) ?_
  | ((try first | refine WO_op rfl rfl rfl ?_ | refine WO_op0 rfl rfl ?_ | refine WD_op rfl rfl rfl ?_ | refine WD_op0 rfl rfl ?_); (refine WV_gen fun Q_ hQ_ => ?_; simp (disch := first | omega | (simp only [List.length_cons, List.length_nil, List.length_append]; omega)) only [bb, bp, argF, ↓reduceIte, reduceCtorEq, Nat.reduceEqDiff, Nat.reduceLT, Nat.reduceLeDiff, Nat.reduceAdd, Nat.reduceMul, Nat.reduceSub, Nat.reduceBEq, Int.reduceToNat, cond_true, cond_false, eq_self, beq_self_eq_true, newPtr_X wf, load1_X wf, loadAgg_X wf, store1_X wf, writeCells_X wf, makeFunc_def, frac, ia_29, sz_29, ze_29, ia_2, sz_2, ze_2, ia_3, sz_3, ia_75, sz_75, ze_75, fo_75_1, fo_75_2, fo_75_3, fo_52_0, fo_24_0, fo_24_1, ia_52, sz_52, ik_56, ik_54, indexAddrE_def (P := Try.prog) (t := 56), indexAddrE_def (P := Try.prog) (t := 54), pb_33, pb_45, pb_24]; first | (refine dec_split (Q := Q_) (fun hp_ => ?_) (fun hp_ => ?_) <;> first | (exfalso; omega) | (refine hQ_ _ _ ?_; clear hQ_ Q_)) | (refine dec_splitn (Q := Q_) (fun hp_ => ?_) (fun hp_ => ?_) <;> first | (exfalso; omega) | (refine hQ_ _ _ ?_; clear hQ_ Q_)) | (refine hQ_ _ _ ?_; clear hQ_ Q_)))
  | (refine WC_cond fun K_ hK_ => ?_; simp (disch := omega) only [evT_tmp, upd_apply, WB_some, ↓reduceIte, reduceCtorEq, Nat.reduceEqDiff, Nat.reduceLT]; refine hK_ _ ?_; clear hK_ K_)))
    refine WC_drawnB [.no, .no, .no, .no, .no, .no, .no, .no, .no, .no, .no, .full, .full] (by kernel_rfl) ?_
    (repeat' (first
  | (with_reducible first | refine WC_seq ?_ | refine WC_skip ?_ | refine WC_label ?_ | refine WC_scope ?_ | refine WC_block ?_ | refine WC_ret ?_ | refine WC_exit ?_ | refine seqQ_norm ?_ | refine seqQ_ret ?_ | refine seqQ_exit ?_ | refine blkQ_norm ?_ | refine blkQ_ret ?_ | refine blkQ_here ?_ | refine gateK_yes ?_ | refine gateK_none ?_ | refine condK_tt ?_ | refine condK_ff ?_ | refine roundQ_exit ?_ | refine roundQ_ret ?_)
  | refine WC_region ?_ | refine blkQ_out rfl ?_ | refine WO_nil ?_ | refine WD_nil ?_
  | ((first | refine WD_gate rfl rfl rfl rfl rfl fun K_ hK_ => ?_ | refine WO_gate rfl rfl rfl rfl rfl fun K_ hK_ => ?_); simp only [upd_apply, asB_bool, asB_tup, ↓reduceIte, reduceCtorEq, Nat.reduceEqDiff, Bool.not_true, Bool.not_false]; refine hK_ _ ?_; clear hK_ K_)
  | refine gateK_no (by decide) ?_
  | ((try first | refine WO_op rfl rfl rfl ?_ | refine WO_op0 rfl rfl ?_ | refine WD_op rfl rfl rfl ?_ | refine WD_op0 rfl rfl ?_); (refine WV_gen fun Q_ hQ_ => ?_; simp (disch := first | omega | (simp only [List.length_cons, List.length_nil, List.length_append]; omega)) only [bb, bp, argF, ↓reduceIte, reduceCtorEq, Nat.reduceEqDiff, Nat.reduceLT, Nat.reduceLeDiff, Nat.reduceAdd, Nat.reduceMul, Nat.reduceSub, Nat.reduceBEq, Int.reduceToNat, cond_true, cond_false, eq_self, beq_self_eq_true, hg, newPtr_X wf, load1_X wf, loadAgg_X wf, store1_X wf, writeCells_X wf, makeFunc_def, frac, ia_29, sz_29, ze_29, ia_2, sz_2, ze_2, ia_3, sz_3, ia_75, sz_75, ze_75, fo_75_1, fo_75_2, fo_75_3, fo_52_0, fo_24_0, fo_24_1, ia_52, sz_52, ik_56, ik_54, indexAddrE_def (P := Try.prog) (t := 56), indexAddrE_def (P := Try.prog) (t := 54), pb_33, pb_45, pb_24]; first | (refine dec_split (Q := Q_) (fun hp_ => ?_) (fun hp_ => ?_) <;> first | (exfalso; omega) | (refine hQ_ _ _ ?_; clear hQ_ Q_)) | (refine dec_splitn (Q := Q_) (fun hp_ => ?_) (fun hp_ => ?_) <;> first | (exfalso; omega) | (refine hQ_ _ _ ?_; clear hQ_ Q_)) | (refine hQ_ _ _ ?_; clear hQ_ Q_)))
  | (refine WC_cond fun K_ hK_ => ?_; simp (disch := omega) only [evT_tmp, upd_apply, WB_some, ↓reduceIte, reduceCtorEq, Nat.reduceEqDiff, Nat.reduceLT]; refine hK_ _ ?_; clear hK_ K_)))
    refine yldB_X wf (k := 6) rfl ho' ?_
    simp only [List.set_cons_succ, List.set_cons_zero]
    rw [← ho]
    refine ⟨X h [.cells (mkCells [ii sp, ii st, a]) 52, .cells (mkCells (gs.map ii)) 56, .cells (mkCells [ii 0, ii 0]) 29, .cells (mkCells [ii (psum (vterm rows.length m gs) (q + 1))]) 2, .cells (mkCells [ii sp, ii st, a]) 52, .dfr, o] w0, _, _, by rw [X_X]; rfl, Same.X rfl, by omega, ?_, .inl ⟨rfl, w0, rfl, hw0⟩⟩
    show _ < h.clock + 7
    omega
  · rintro v h' ⟨hb, J, w, rfl, hs, hlo, hw, ⟨w0, rfl, hw0⟩ | hD⟩
    · rw [X_X, placesOf_length]
      refine rangeQ_X wf (k := 6) rfl ho (by decide) fun o' ho' => ?_
      have hs := psum_in (f := vterm rows.length m gs) (b := 2000) (q := rows.length * m) (fun i hi => vterm_in (hy i (by omega)))
      have hs2 : 0 ≤ psum (vterm rows.length m gs) (rows.length * m) ∧ psum (vterm rows.length m gs) (rows.length * m) ≤ 120000 := by omega
      have hss := mul_bd (a := sp) (b := st) ⟨by omega, hsp.2⟩ ⟨by omega, hst.2⟩
      have hs3 := mul_bd hss hs2
      simp only [List.cons_append, List.nil_append, List.set_cons_succ, List.set_cons_zero]
      (repeat' (first
  | (with_reducible first | refine WC_seq ?_ | refine WC_skip ?_ | refine WC_label ?_ | refine WC_scope ?_ | refine WC_block ?_ | refine WC_ret ?_ | refine WC_exit ?_ | refine seqQ_norm ?_ | refine seqQ_ret ?_ | refine seqQ_exit ?_ | refine blkQ_norm ?_ | refine blkQ_ret ?_ | refine blkQ_here ?_ | refine gateK_yes ?_ | refine gateK_none ?_ | refine condK_tt ?_ | refine condK_ff ?_ | refine roundQ_exit ?_ | refine roundQ_ret ?_)
  | refine WC_region ?_ | refine blkQ_out rfl ?_ | refine WO_nil ?_ | refine WD_nil ?_
  | ((first | refine WD_gate rfl rfl rfl rfl rfl fun K_ hK_ => ?_ | refine WO_gate rfl rfl rfl rfl rfl fun K_ hK_ => ?_); simp only [upd_apply, asB_bool, asB_tup, ↓reduceIte, reduceCtorEq, Nat.reduceEqDiff, Bool.not_true, Bool.not_false]; refine hK_ _ ?_; clear hK_ K_)
  | refine gateK_no (by decide) ?_
  | ((try first | refine WO_op rfl rfl rfl ?_ | refine WO_op0 rfl rfl ?_ | refine WD_op rfl rfl rfl ?_ | refine WD_op0 rfl rfl ?_); (refine WV_gen fun Q_ hQ_ => ?_; simp (disch := first | omega | (simp only [List.length_cons, List.length_nil, List.length_append]; omega)) only [bb, bp, argF, ↓reduceIte, reduceCtorEq, Nat.reduceEqDiff, Nat.reduceLT, Nat.reduceLeDiff, Nat.reduceAdd, Nat.reduceMul, Nat.reduceSub, Nat.reduceBEq, Int.reduceToNat, cond_true, cond_false, eq_self, beq_self_eq_true, newPtr_X wf, load1_X wf, loadAgg_X wf, store1_X wf, writeCells_X wf, makeFunc_def, frac, ia_29, sz_29, ze_29, ia_2, sz_2, ze_2, ia_3, sz_3, ia_75, sz_75, ze_75, fo_75_1, fo_75_2, fo_75_3, fo_52_0, fo_24_0, fo_24_1, ia_52, sz_52, ik_56, ik_54, indexAddrE_def (P := Try.prog) (t := 56), indexAddrE_def (P := Try.prog) (t := 54), pb_33, pb_45, pb_24]; first | (refine dec_split (Q := Q_) (fun hp_ => ?_) (fun hp_ => ?_) <;> first | (exfalso; omega) | (refine hQ_ _ _ ?_; clear hQ_ Q_)) | (refine dec_splitn (Q := Q_) (fun hp_ => ?_) (fun hp_ => ?_) <;> first | (exfalso; omega) | (refine hQ_ _ _ ?_; clear hQ_ Q_)) | (refine hQ_ _ _ ?_; clear hQ_ Q_) | (refine WV_eq (fraction _ _ ⟨hs3.1, by omega⟩ ⟨by decide, by decide⟩ _ (wf.X (by simp only [List.length_append, List.length_cons, List.length_nil]; omega))) ?_; refine hQ_ _ _ ?_; clear hQ_ Q_)))
  | (refine WC_cond fun K_ hK_ => ?_; simp (disch := omega) only [evT_tmp, upd_apply, WB_some, ↓reduceIte, reduceCtorEq, Nat.reduceEqDiff, Nat.reduceLT]; refine hK_ _ ?_; clear hK_ K_)))
      refine endQ_ret _ _ (takeAll_X wf (k := 5) rfl) (retc0 (by decide) (by simp (disch := first | omega | (simp only [List.length_cons, List.length_nil, List.length_append]; omega)) only [bb, bp, argF, ↓reduceIte, reduceCtorEq, Nat.reduceEqDiff, Nat.reduceLT, Nat.reduceLeDiff, Nat.reduceAdd, Nat.reduceMul, Nat.reduceSub, Nat.reduceBEq, Int.reduceToNat, cond_true, cond_false, eq_self, beq_self_eq_true, loadAgg_X wf, frac, ia_29, sz_29, ze_29, ia_2, sz_2, ze_2, ia_3, sz_3, ia_75, sz_75, ze_75, fo_75_1, fo_75_2, fo_75_3, fo_52_0, fo_24_0, fo_24_1, ia_52, sz_52, ik_56, ik_54, indexAddrE_def (P := Try.prog) (t := 56), indexAddrE_def (P := Try.prog) (t := 54), pb_33, pb_45, pb_24]; rfl)) ?_
      refine WV_flat rfl (by omega) ?_
      exact ⟨rfl, rfl⟩
    · exact hD.elim
end Go.Proofs.Ytghondkiondeaab
end

/- EvH5 -/
section
/-
  LAYER 2: the grid of offsets that are checked.
-/
namespace Go.Proofs.Ytghondkiondeaab
open Go.Ev
set_option maxRecDepth 100000
set_option linter.unusedSimpArgs false
set_option linter.unusedVariables false
set_option maxHeartbeats 2000000

/-- Offsets that lie in a heap. -/
structure YsAt (h : H) (b : AV) (yvs : List AV) (ys : List (List Int)) (m : Nat) : Prop where
  wf : Wf h
  sl : Sl h b 1 ys.length yvs
  row : ∀ i (hi : i < ys.length), ∃ v, yvs[i]? = some v ∧ Sl h v 1 m (ys[i].map ii) ∧ Cape 1 v ∧ ys[i].length = m
theorem YsAt.up {h : H} {b : AV} {yvs : List AV} {ys : List (List Int)} {m : Nat} (x : YsAt h b yvs ys m) (l : List AO) (w : Nat) (hw : w ≤ h.clock + l.length) : YsAt (X h l w) b yvs ys m :=
  ⟨x.wf.X hw, x.sl.up x.wf l w, fun i hi => let ⟨v, h1, h2, h3⟩ := x.row i hi; ⟨v, h1, h2.up x.wf l w, h3⟩⟩

/-- The grid behind so many stations. -/
def gridP (ys : List (List Int)) (i : Nat) : List Int := (List.range 60).map fun q => if q / 6 < i then (ys.getD (q / 6) []).getD (q % 6) 0 else 0
theorem flatL_ii : ∀ l : List Int, flatL (l.map ii) = true
  | [] => rfl
  | _ :: l => flatL_ii l

end Go.Proofs.Ytghondkiondeaab
end

/- EvH6 -/
section
/-
  LAYER 2: shares, and the number that is asked.
-/
namespace Go.Proofs.Ytghondkiondeaab
open Go.Ev
set_option maxRecDepth 100000
set_option linter.unusedSimpArgs false
set_option linter.unusedVariables false
set_option maxHeartbeats 2000000

theorem tEvH6 : type_of% (And.intro (And.intro (And.intro (And.intro (And.intro (@bs_91) (@bs_29)) (And.intro (@ia_29) (@sz_29))) (And.intro (And.intro (@ze_29) (@ia_91)) (And.intro (@sz_91) (And.intro (@ze_91) (@ia_62))))) (And.intro (And.intro (And.intro (@sz_62) (@ia_2)) (And.intro (@sz_2) (@ze_2))) (And.intro (And.intro (@ia_3) (@sz_3)) (And.intro (@ia_75) (And.intro (@sz_75) (@ze_75)))))) (And.intro (And.intro (And.intro (And.intro (@fo_75_1) (@fo_75_2)) (And.intro (@fo_75_3) (@fo_91_0))) (And.intro (And.intro (@fo_91_1) (@fo_52_0)) (And.intro (@fo_24_0) (And.intro (@fo_24_1) (@fo_24_2))))) (And.intro (And.intro (And.intro (@ia_52) (@sz_52)) (And.intro (@ik_56) (@ik_54))) (And.intro (And.intro (@pb_33) (@pb_45)) (And.intro (@pb_24) (And.intro (@pb_53) (@pb_48))))))) := And.intro (And.intro (And.intro (And.intro (And.intro (@bs_91) (@bs_29)) (And.intro (@ia_29) (@sz_29))) (And.intro (And.intro (@ze_29) (@ia_91)) (And.intro (@sz_91) (And.intro (@ze_91) (@ia_62))))) (And.intro (And.intro (And.intro (@sz_62) (@ia_2)) (And.intro (@sz_2) (@ze_2))) (And.intro (And.intro (@ia_3) (@sz_3)) (And.intro (@ia_75) (And.intro (@sz_75) (@ze_75)))))) (And.intro (And.intro (And.intro (And.intro (@fo_75_1) (@fo_75_2)) (And.intro (@fo_75_3) (@fo_91_0))) (And.intro (And.intro (@fo_91_1) (@fo_52_0)) (And.intro (@fo_24_0) (And.intro (@fo_24_1) (@fo_24_2))))) (And.intro (And.intro (And.intro (@ia_52) (@sz_52)) (And.intro (@ik_56) (@ik_54))) (And.intro (And.intro (@pb_33) (@pb_45)) (And.intro (@pb_24) (And.intro (@pb_53) (@pb_48))))))
theorem linesAt {h : H} {a : AV} {rvs : List AV} {rows : List (List (Int × Int))} {m : Nat} (x : HullAt h a rvs rows m) (hn : 0 < rows.length) (sp st : Int) (J : List AO) (w : Nat) (hw : w ≤ h.clock + J.length) :
    (om Try.prog KK).call (.fn 53 [.agg [ii sp, ii st, a]]) (X h J w) = .ok (ii (m : Int)) (X h J w) := by
  have hk : ([.cells (mkCells [ii sp, ii st, a]) 52] : List AO)[0]? = some (.cells (mkCells [ii sp, ii st, a]) 52) := rfl
  obtain ⟨v, hv, hsv, hrl⟩ := x.row 0 hn
  obtain ⟨id, off, hix, hld⟩ := (x.sl.up x.wf J w).at1 (x.wf.X hw) (i := 0) hn ik_22
  rw [hv] at hld
  have hix' : indexAddrE Try.prog 22 a (.int .i64 0) = some (.ptr id off) := hix
  have hlenv : ∀ h', lenE Try.prog 46 v h' = some (ii (m : Int)) := fun h' => hsv.len un_46
  obtain ⟨hl, hsl⟩ : oneB a = true ∧ AV.cells a = [a] := by
    obtain ⟨_, ⟨rfl, _⟩ | ⟨_, _, _, _, _, _, rfl, _⟩⟩ := x.sl <;> exact ⟨rfl, rfl⟩
  have wf := x.wf.X hw
  generalize X h J w = hb at *
  refine WV_to (WV_call (fn := Try.f53) Try.func53 rfl rfl rfl rfl rfl ?_)
  simp only [argF]
  (repeat' (first
  | (with_reducible first | refine WC_seq ?_ | refine WC_skip ?_ | refine WC_label ?_ | refine WC_scope ?_ | refine WC_block ?_ | refine WC_ret ?_ | refine WC_exit ?_ | refine seqQ_norm ?_ | refine seqQ_ret ?_ | refine seqQ_exit ?_ | refine blkQ_norm ?_ | refine blkQ_ret ?_ | refine blkQ_here ?_ | refine gateK_yes ?_ | refine gateK_none ?_ | refine condK_tt ?_ | refine condK_ff ?_ | refine roundQ_exit ?_ | refine roundQ_ret ?_)
  | refine WC_region ?_ | refine blkQ_out rfl ?_ | refine WO_nil ?_ | refine WD_nil ?_
  | ((first | refine WD_gate rfl rfl rfl rfl rfl fun K_ hK_ => ?_ | refine WO_gate rfl rfl rfl rfl rfl fun K_ hK_ => ?_); simp only [upd_apply, asB_bool, asB_tup, ↓reduceIte, reduceCtorEq, Nat.reduceEqDiff, Bool.not_true, Bool.not_false]; refine hK_ _ ?_; clear hK_ K_)
  | refine gateK_no (by decide) ?_
  | ((try first | refine WO_op rfl rfl rfl ?_ | refine WO_op0 rfl rfl ?_ | refine WD_op rfl rfl rfl ?_ | refine WD_op0 rfl rfl ?_); (refine WV_gen fun Q_ hQ_ => ?_; simp (disch := first | omega | (simp only [List.length_cons, List.length_nil, List.length_append]; omega)) only [bb, bp, argF, ↓reduceIte, reduceCtorEq, Nat.reduceEqDiff, Nat.reduceLT, Nat.reduceLeDiff, Nat.reduceAdd, Nat.reduceMul, Nat.reduceSub, Nat.reduceBEq, Int.reduceToNat, cond_true, cond_false, eq_self, beq_self_eq_true, hix', hld, hlenv, ia_22, sz_22, ia_46, sz_46, newPtr_X wf, load1_X wf, loadAgg_X wf, store1_X wf, writeCells_X wf, makeFunc_def, tEvH6, indexAddrE_def (P := Try.prog) (t := 56), indexAddrE_def (P := Try.prog) (t := 54)]; first | (refine dec_split (Q := Q_) (fun hp_ => ?_) (fun hp_ => ?_) <;> first | (exfalso; omega) | (refine hQ_ _ _ ?_; clear hQ_ Q_)) | (refine dec_splitn (Q := Q_) (fun hp_ => ?_) (fun hp_ => ?_) <;> first | (exfalso; omega) | (refine hQ_ _ _ ?_; clear hQ_ Q_)) | (refine hQ_ _ _ ?_; clear hQ_ Q_)))
  | (refine WC_cond fun K_ hK_ => ?_; simp (disch := omega) only [evT_tmp, upd_apply, WB_some, ↓reduceIte, reduceCtorEq, Nat.reduceEqDiff, Nat.reduceLT]; refine hK_ _ ?_; clear hK_ K_)))
  (refine endQ_ret _ _ rfl (ret1 (by decide)) ?_; simp only [upd_apply, ↓reduceIte, reduceCtorEq, Nat.reduceEqDiff]; refine WV_flat rfl (by omega) ?_)
  exact ⟨rfl, rfl⟩

/-- What a share is. -/
def numOf (g : Nat) (sp st : Int) (m i k : Nat) (w y : Int) : Int :=
  if g = 47 then sp * i * w * y else if g = 48 then st * k * w * y else if k + 1 = m then 3 * st * (st * k * w * y) + 2 * w * y * y * y else 3 * st * (st * k * w * y)
def denOf (g : Nat) (st : Int) (w y : Int) : Int := if g = 49 then 3 * st * (w * y) else w * y

theorem along (sp st : Int) (hsp : 1 ≤ sp ∧ sp ≤ 1000) (a lo hi : AV) (i k m : Nat) (hi9 : i < 10) (w y : Int) (hw : 0 ≤ w ∧ w ≤ 4) (hy : 0 ≤ y ∧ y ≤ 500) (h : H) (wf : Wf h) :
    (om Try.prog KK).call (.fn 47 [.agg [ii sp, ii st, a], .agg [lo, hi, ii (i : Int), ii (k : Int), ii w], ii y]) h = .ok (.agg [ii (numOf 47 sp st m i k w y), ii (denOf 47 st w y)]) h := by
  refine WV_to (WV_call (fn := Try.f47) Try.func47 rfl rfl rfl rfl rfl ?_)
  simp only [argF]
  have h1 := mul_bd (a := sp) (b := (i : Int)) (x := 1000) (y := 9) ⟨by omega, by omega⟩ ⟨by omega, by omega⟩
  have h2 := mul_bd h1 hw
  have h3 := mul_bd h2 hy
  have h4 := mul_bd hw hy
  (repeat' (first
  | (with_reducible first | refine WC_seq ?_ | refine WC_skip ?_ | refine WC_label ?_ | refine WC_scope ?_ | refine WC_block ?_ | refine WC_ret ?_ | refine WC_exit ?_ | refine seqQ_norm ?_ | refine seqQ_ret ?_ | refine seqQ_exit ?_ | refine blkQ_norm ?_ | refine blkQ_ret ?_ | refine blkQ_here ?_ | refine gateK_yes ?_ | refine gateK_none ?_ | refine condK_tt ?_ | refine condK_ff ?_ | refine roundQ_exit ?_ | refine roundQ_ret ?_)
  | refine WC_region ?_ | refine blkQ_out rfl ?_ | refine WO_nil ?_ | refine WD_nil ?_
  | ((first | refine WD_gate rfl rfl rfl rfl rfl fun K_ hK_ => ?_ | refine WO_gate rfl rfl rfl rfl rfl fun K_ hK_ => ?_); simp only [upd_apply, asB_bool, asB_tup, ↓reduceIte, reduceCtorEq, Nat.reduceEqDiff, Bool.not_true, Bool.not_false]; refine hK_ _ ?_; clear hK_ K_)
  | refine gateK_no (by decide) ?_
  | ((try first | refine WO_op rfl rfl rfl ?_ | refine WO_op0 rfl rfl ?_ | refine WD_op rfl rfl rfl ?_ | refine WD_op0 rfl rfl ?_); (refine WV_gen fun Q_ hQ_ => ?_; simp (disch := first | omega | (simp only [List.length_cons, List.length_nil, List.length_append]; omega)) only [bb, bp, argF, ↓reduceIte, reduceCtorEq, Nat.reduceEqDiff, Nat.reduceLT, Nat.reduceLeDiff, Nat.reduceAdd, Nat.reduceMul, Nat.reduceSub, Nat.reduceBEq, Int.reduceToNat, cond_true, cond_false, eq_self, beq_self_eq_true, newPtr_X wf, load1_X wf, loadAgg_X wf, store1_X wf, writeCells_X wf, makeFunc_def, tEvH6, indexAddrE_def (P := Try.prog) (t := 56), indexAddrE_def (P := Try.prog) (t := 54)]; first | (refine dec_split (Q := Q_) (fun hp_ => ?_) (fun hp_ => ?_) <;> first | (exfalso; omega) | (refine hQ_ _ _ ?_; clear hQ_ Q_)) | (refine dec_splitn (Q := Q_) (fun hp_ => ?_) (fun hp_ => ?_) <;> first | (exfalso; omega) | (refine hQ_ _ _ ?_; clear hQ_ Q_)) | (refine hQ_ _ _ ?_; clear hQ_ Q_)))
  | (refine WC_cond fun K_ hK_ => ?_; simp (disch := omega) only [evT_tmp, upd_apply, WB_some, ↓reduceIte, reduceCtorEq, Nat.reduceEqDiff, Nat.reduceLT]; refine hK_ _ ?_; clear hK_ K_)))
  refine endQ_ret _ _ rfl (retc0 (by decide) (by simp (disch := first | omega | (simp only [List.length_cons, List.length_nil, List.length_append]; omega)) only [bb, bp, argF, ↓reduceIte, reduceCtorEq, Nat.reduceEqDiff, Nat.reduceLT, Nat.reduceLeDiff, Nat.reduceAdd, Nat.reduceMul, Nat.reduceSub, Nat.reduceBEq, Int.reduceToNat, cond_true, cond_false, eq_self, beq_self_eq_true, loadAgg_X wf, tEvH6, indexAddrE_def (P := Try.prog) (t := 56), indexAddrE_def (P := Try.prog) (t := 54)]; rfl)) ?_
  refine WV_flat rfl (by omega) ?_
  exact ⟨rfl, rfl⟩
theorem above (sp st : Int) (hst : 1 ≤ st ∧ st ≤ 100) (a lo hi : AV) (i k m : Nat) (hk9 : k < 6) (w y : Int) (hw : 0 ≤ w ∧ w ≤ 4) (hy : 0 ≤ y ∧ y ≤ 500) (h : H) (wf : Wf h) :
    (om Try.prog KK).call (.fn 48 [.agg [ii sp, ii st, a], .agg [lo, hi, ii (i : Int), ii (k : Int), ii w], ii y]) h = .ok (.agg [ii (numOf 48 sp st m i k w y), ii (denOf 48 st w y)]) h := by
  refine WV_to (WV_call (fn := Try.f48) Try.func48 rfl rfl rfl rfl rfl ?_)
  simp only [argF]
  have h1 := mul_bd (a := st) (b := (k : Int)) (x := 100) (y := 5) ⟨by omega, by omega⟩ ⟨by omega, by omega⟩
  have h2 := mul_bd h1 hw
  have h3 := mul_bd h2 hy
  have h4 := mul_bd hw hy
  (repeat' (first
  | (with_reducible first | refine WC_seq ?_ | refine WC_skip ?_ | refine WC_label ?_ | refine WC_scope ?_ | refine WC_block ?_ | refine WC_ret ?_ | refine WC_exit ?_ | refine seqQ_norm ?_ | refine seqQ_ret ?_ | refine seqQ_exit ?_ | refine blkQ_norm ?_ | refine blkQ_ret ?_ | refine blkQ_here ?_ | refine gateK_yes ?_ | refine gateK_none ?_ | refine condK_tt ?_ | refine condK_ff ?_ | refine roundQ_exit ?_ | refine roundQ_ret ?_)
  | refine WC_region ?_ | refine blkQ_out rfl ?_ | refine WO_nil ?_ | refine WD_nil ?_
  | ((first | refine WD_gate rfl rfl rfl rfl rfl fun K_ hK_ => ?_ | refine WO_gate rfl rfl rfl rfl rfl fun K_ hK_ => ?_); simp only [upd_apply, asB_bool, asB_tup, ↓reduceIte, reduceCtorEq, Nat.reduceEqDiff, Bool.not_true, Bool.not_false]; refine hK_ _ ?_; clear hK_ K_)
  | refine gateK_no (by decide) ?_
  | ((try first | refine WO_op rfl rfl rfl ?_ | refine WO_op0 rfl rfl ?_ | refine WD_op rfl rfl rfl ?_ | refine WD_op0 rfl rfl ?_); (refine WV_gen fun Q_ hQ_ => ?_; simp (disch := first | omega | (simp only [List.length_cons, List.length_nil, List.length_append]; omega)) only [bb, bp, argF, ↓reduceIte, reduceCtorEq, Nat.reduceEqDiff, Nat.reduceLT, Nat.reduceLeDiff, Nat.reduceAdd, Nat.reduceMul, Nat.reduceSub, Nat.reduceBEq, Int.reduceToNat, cond_true, cond_false, eq_self, beq_self_eq_true, newPtr_X wf, load1_X wf, loadAgg_X wf, store1_X wf, writeCells_X wf, makeFunc_def, tEvH6, indexAddrE_def (P := Try.prog) (t := 56), indexAddrE_def (P := Try.prog) (t := 54)]; first | (refine dec_split (Q := Q_) (fun hp_ => ?_) (fun hp_ => ?_) <;> first | (exfalso; omega) | (refine hQ_ _ _ ?_; clear hQ_ Q_)) | (refine dec_splitn (Q := Q_) (fun hp_ => ?_) (fun hp_ => ?_) <;> first | (exfalso; omega) | (refine hQ_ _ _ ?_; clear hQ_ Q_)) | (refine hQ_ _ _ ?_; clear hQ_ Q_)))
  | (refine WC_cond fun K_ hK_ => ?_; simp (disch := omega) only [evT_tmp, upd_apply, WB_some, ↓reduceIte, reduceCtorEq, Nat.reduceEqDiff, Nat.reduceLT]; refine hK_ _ ?_; clear hK_ K_)))
  refine endQ_ret _ _ rfl (retc0 (by decide) (by simp (disch := first | omega | (simp only [List.length_cons, List.length_nil, List.length_append]; omega)) only [bb, bp, argF, ↓reduceIte, reduceCtorEq, Nat.reduceEqDiff, Nat.reduceLT, Nat.reduceLeDiff, Nat.reduceAdd, Nat.reduceMul, Nat.reduceSub, Nat.reduceBEq, Int.reduceToNat, cond_true, cond_false, eq_self, beq_self_eq_true, loadAgg_X wf, tEvH6, indexAddrE_def (P := Try.prog) (t := 56), indexAddrE_def (P := Try.prog) (t := 54)]; rfl)) ?_
  refine WV_flat rfl (by omega) ?_
  exact ⟨rfl, rfl⟩
theorem metaS (sp st : Int) (hst : 1 ≤ st ∧ st ≤ 100) (a lo hi : AV) (rvs : List AV) (rows : List (List (Int × Int))) (i k m : Nat) (hm : 2 ≤ m ∧ m ≤ 6) (hk9 : k < m) (w y : Int) (hw : 0 ≤ w ∧ w ≤ 4) (hy : 0 ≤ y ∧ y ≤ 500) (h : H)
    (x : HullAt h a rvs rows m) (hn : 0 < rows.length) (hlo : oneB lo = true) (hhi : oneB hi = true) (hlc : AV.cells lo = [lo]) (hhc : AV.cells hi = [hi]) :
    (om Try.prog KK).call (.fn 49 [.agg [ii sp, ii st, a], .agg [lo, hi, ii (i : Int), ii (k : Int), ii w], ii y]) h = .ok (.agg [ii (numOf 49 sp st m i k w y), ii (denOf 49 st w y)]) h := by
  have wf := x.wf
  refine WV_to (WV_call (fn := Try.f49) Try.func49 rfl rfl rfl rfl rfl ?_)
  simp only [argF]
  have h1 := mul_bd (a := st) (b := (k : Int)) (x := 100) (y := 5) ⟨by omega, by omega⟩ ⟨by omega, by omega⟩
  have h2 := mul_bd h1 hw
  have h3 := mul_bd h2 hy
  have h4 := mul_bd hw hy
  have h5 := mul_bd (a := 3 * st) (x := 300) ⟨by omega, by omega⟩ h3
  have h6 := mul_bd (a := 3 * st) (x := 300) ⟨by omega, by omega⟩ h4
  have h7 := mul_bd (a := 2 * w) (x := 8) ⟨by omega, by omega⟩ hy
  have h8 := mul_bd h7 hy
  have h9 := mul_bd h8 hy
  have hab : ∀ l w', w' ≤ h.clock + l.length → (om Try.prog KK).call (.fn 48 [.agg [ii sp, ii st, a], .agg [lo, hi, ii (i : Int), ii (k : Int), ii w], ii y]) (X h l w') = .ok (.agg [ii (st * k * w * y), ii (w * y)]) (X h l w') :=
    fun l w' hw' => above sp st hst a lo hi i k m (by omega) w y hw hy _ (wf.X hw')
  have hli := linesAt x hn sp st
  (repeat' (first
  | (with_reducible first | refine WC_seq ?_ | refine WC_skip ?_ | refine WC_label ?_ | refine WC_scope ?_ | refine WC_block ?_ | refine WC_ret ?_ | refine WC_exit ?_ | refine seqQ_norm ?_ | refine seqQ_ret ?_ | refine seqQ_exit ?_ | refine blkQ_norm ?_ | refine blkQ_ret ?_ | refine blkQ_here ?_ | refine gateK_yes ?_ | refine gateK_none ?_ | refine condK_tt ?_ | refine condK_ff ?_ | refine roundQ_exit ?_ | refine roundQ_ret ?_)
  | refine WC_region ?_ | refine blkQ_out rfl ?_ | refine WO_nil ?_ | refine WD_nil ?_
  | ((first | refine WD_gate rfl rfl rfl rfl rfl fun K_ hK_ => ?_ | refine WO_gate rfl rfl rfl rfl rfl fun K_ hK_ => ?_); simp only [upd_apply, asB_bool, asB_tup, ↓reduceIte, reduceCtorEq, Nat.reduceEqDiff, Bool.not_true, Bool.not_false]; refine hK_ _ ?_; clear hK_ K_)
  | refine gateK_no (by decide) ?_
  | ((try first | refine WO_op rfl rfl rfl ?_ | refine WO_op0 rfl rfl ?_ | refine WD_op rfl rfl rfl ?_ | refine WD_op0 rfl rfl ?_); (refine WV_gen fun Q_ hQ_ => ?_; simp (disch := first | omega | (simp only [List.length_cons, List.length_nil, List.length_append]; omega)) only [bb, bp, argF, ↓reduceIte, reduceCtorEq, Nat.reduceEqDiff, Nat.reduceLT, Nat.reduceLeDiff, Nat.reduceAdd, Nat.reduceMul, Nat.reduceSub, Nat.reduceBEq, Int.reduceToNat, cond_true, cond_false, eq_self, beq_self_eq_true, hab, newPtr_X wf, load1_X wf, loadAgg_X wf, store1_X wf, writeCells_X wf, makeFunc_def, tEvH6, indexAddrE_def (P := Try.prog) (t := 56), indexAddrE_def (P := Try.prog) (t := 54)]; first | (refine dec_split (Q := Q_) (fun hp_ => ?_) (fun hp_ => ?_) <;> first | (exfalso; omega) | (refine hQ_ _ _ ?_; clear hQ_ Q_)) | (refine dec_splitn (Q := Q_) (fun hp_ => ?_) (fun hp_ => ?_) <;> first | (exfalso; omega) | (refine hQ_ _ _ ?_; clear hQ_ Q_)) | (refine hQ_ _ _ ?_; clear hQ_ Q_)))
  | (refine WC_cond fun K_ hK_ => ?_; simp (disch := omega) only [evT_tmp, upd_apply, WB_some, ↓reduceIte, reduceCtorEq, Nat.reduceEqDiff, Nat.reduceLT]; refine hK_ _ ?_; clear hK_ K_)))
  refine WC_drawnB [.no, .no, .no, .no, .no, .full] (by kernel_rfl) ?_
  (repeat' (first
  | (with_reducible first | refine WC_seq ?_ | refine WC_skip ?_ | refine WC_label ?_ | refine WC_scope ?_ | refine WC_block ?_ | refine WC_ret ?_ | refine WC_exit ?_ | refine seqQ_norm ?_ | refine seqQ_ret ?_ | refine seqQ_exit ?_ | refine blkQ_norm ?_ | refine blkQ_ret ?_ | refine blkQ_here ?_ | refine gateK_yes ?_ | refine gateK_none ?_ | refine condK_tt ?_ | refine condK_ff ?_ | refine roundQ_exit ?_ | refine roundQ_ret ?_)
  | refine WC_region ?_ | refine blkQ_out rfl ?_ | refine WO_nil ?_ | refine WD_nil ?_
  | ((first | refine WD_gate rfl rfl rfl rfl rfl fun K_ hK_ => ?_ | refine WO_gate rfl rfl rfl rfl rfl fun K_ hK_ => ?_); simp only [upd_apply, asB_bool, asB_tup, ↓reduceIte, reduceCtorEq, Nat.reduceEqDiff, Bool.not_true, Bool.not_false]; refine hK_ _ ?_; clear hK_ K_)
  | refine gateK_no (by decide) ?_
  | ((try first | refine WO_op rfl rfl rfl ?_ | refine WO_op0 rfl rfl ?_ | refine WD_op rfl rfl rfl ?_ | refine WD_op0 rfl rfl ?_); (refine WV_gen fun Q_ hQ_ => ?_; simp (disch := first | omega | (simp only [List.length_cons, List.length_nil, List.length_append]; omega)) only [bb, bp, argF, ↓reduceIte, reduceCtorEq, Nat.reduceEqDiff, Nat.reduceLT, Nat.reduceLeDiff, Nat.reduceAdd, Nat.reduceMul, Nat.reduceSub, Nat.reduceBEq, Int.reduceToNat, cond_true, cond_false, eq_self, beq_self_eq_true, hab, hli, newPtr_X wf, load1_X wf, loadAgg_X wf, store1_X wf, writeCells_X wf, makeFunc_def, tEvH6, indexAddrE_def (P := Try.prog) (t := 56), indexAddrE_def (P := Try.prog) (t := 54)]; first | (refine dec_split (Q := Q_) (fun hp_ => ?_) (fun hp_ => ?_) <;> first | (exfalso; omega) | (refine hQ_ _ _ ?_; clear hQ_ Q_)) | (refine dec_splitn (Q := Q_) (fun hp_ => ?_) (fun hp_ => ?_) <;> first | (exfalso; omega) | (refine hQ_ _ _ ?_; clear hQ_ Q_)) | (refine hQ_ _ _ ?_; clear hQ_ Q_)))
  | (refine WC_cond fun K_ hK_ => ?_; simp (disch := omega) only [evT_tmp, upd_apply, WB_some, ↓reduceIte, reduceCtorEq, Nat.reduceEqDiff, Nat.reduceLT]; refine hK_ _ ?_; clear hK_ K_)))
  · have hk : k + 1 = m := by omega
    refine endQ_ret _ _ rfl (retc0 (by decide) (by simp (disch := first | omega | (simp only [List.length_cons, List.length_nil, List.length_append]; omega)) only [bb, bp, argF, ↓reduceIte, reduceCtorEq, Nat.reduceEqDiff, Nat.reduceLT, Nat.reduceLeDiff, Nat.reduceAdd, Nat.reduceMul, Nat.reduceSub, Nat.reduceBEq, Int.reduceToNat, cond_true, cond_false, eq_self, beq_self_eq_true, loadAgg_X wf, tEvH6, indexAddrE_def (P := Try.prog) (t := 56), indexAddrE_def (P := Try.prog) (t := 54)]; rfl)) ?_
    refine WV_flat rfl (by omega) ?_
    refine ⟨?_, rfl⟩
    simp only [numOf, denOf, hk, Nat.reduceEqDiff, ↓reduceIte]
  · have hk : ¬ k + 1 = m := by omega
    refine endQ_ret _ _ rfl (retc0 (by decide) (by simp (disch := first | omega | (simp only [List.length_cons, List.length_nil, List.length_append]; omega)) only [bb, bp, argF, ↓reduceIte, reduceCtorEq, Nat.reduceEqDiff, Nat.reduceLT, Nat.reduceLeDiff, Nat.reduceAdd, Nat.reduceMul, Nat.reduceSub, Nat.reduceBEq, Int.reduceToNat, cond_true, cond_false, eq_self, beq_self_eq_true, loadAgg_X wf, tEvH6, indexAddrE_def (P := Try.prog) (t := 56), indexAddrE_def (P := Try.prog) (t := 54)]; rfl)) ?_
    refine WV_flat rfl (by omega) ?_
    refine ⟨?_, rfl⟩
    simp only [numOf, denOf, hk, Nat.reduceEqDiff, ↓reduceIte]

/-- A share's value at a place. -/
def nuAt (g : Nat) (sp st : Int) (n m : Nat) (gs : List Int) (q : Nat) : Int := numOf g sp st m (q / m) (q % m) (wt n (q / m) * wt m (q % m)) (yat gs m q)
def deAt (g : Nat) (st : Int) (n m : Nat) (gs : List Int) (q : Nat) : Int := denOf g st (wt n (q / m) * wt m (q % m)) (yat gs m q)

theorem share {g : Nat} (hg : g = 47 ∨ g = 48 ∨ g = 49) (sp st : Int) (hsp : 1 ≤ sp ∧ sp ≤ 1000) (hst : 1 ≤ st ∧ st ≤ 100) (a lo hi : AV) (rvs : List AV) (rows : List (List (Int × Int))) (i k m : Nat) (hm : 2 ≤ m ∧ m ≤ 6) (hi9 : i < 10) (hk9 : k < m) (w y : Int) (hw : 0 ≤ w ∧ w ≤ 4) (hy : 0 ≤ y ∧ y ≤ 500) (h : H)
    (x : HullAt h a rvs rows m) (hn : 0 < rows.length) (hlo : oneB lo = true) (hhi : oneB hi = true) (hlc : AV.cells lo = [lo]) (hhc : AV.cells hi = [hi]) (J : List AO) (w' : Nat) (hw' : w' ≤ h.clock + J.length) :
    (om Try.prog KK).call (.fn g [.agg [ii sp, ii st, a], .agg [lo, hi, ii (i : Int), ii (k : Int), ii w], ii y]) (X h J w') = .ok (.agg [ii (numOf g sp st m i k w y), ii (denOf g st w y)]) (X h J w') := by
  rcases hg with rfl | rfl | rfl
  · exact along sp st hsp a lo hi i k m hi9 w y hw hy _ (x.wf.X hw')
  · exact above sp st hst a lo hi i k m (by omega) w y hw hy _ (x.wf.X hw')
  · exact metaS sp st hst a lo hi rvs rows i k m hm hk9 w y hw hy _ (x.up J w' hw') hn hlo hhi hlc hhc
theorem numOf_in {g : Nat} (hg : g = 47 ∨ g = 48 ∨ g = 49) {sp st : Int} (hsp : 1 ≤ sp ∧ sp ≤ 1000) (hst : 1 ≤ st ∧ st ≤ 100) {m i k : Nat} (hm : m ≤ 6) (hi9 : i < 10) (hk9 : k < m) {w y : Int} (hw : 0 ≤ w ∧ w ≤ 4) (hy : 0 ≤ y ∧ y ≤ 500) :
    (0 ≤ numOf g sp st m i k w y ∧ numOf g sp st m i k w y ≤ 2000000000) ∧ 0 ≤ denOf g st w y ∧ denOf g st w y ≤ 600000 := by
  have h1 := mul_bd (a := st) (b := (k : Int)) (x := 100) (y := 5) ⟨by omega, by omega⟩ ⟨by omega, by omega⟩
  have h2 := mul_bd h1 hw
  have h3 := mul_bd h2 hy
  have h4 := mul_bd hw hy
  have h5 := mul_bd (a := 3 * st) (x := 300) ⟨by omega, by omega⟩ h3
  have h6 := mul_bd (a := 3 * st) (x := 300) ⟨by omega, by omega⟩ h4
  have h7 := mul_bd (a := 2 * w) (x := 8) ⟨by omega, by omega⟩ hy
  have h8 := mul_bd h7 hy
  have h9 := mul_bd h8 hy
  have h11 := mul_bd (a := sp) (b := (i : Int)) (x := 1000) (y := 9) ⟨by omega, by omega⟩ ⟨by omega, by omega⟩
  have h12 := mul_bd h11 hw
  have h13 := mul_bd h12 hy
  rcases hg with rfl | rfl | rfl
  · simp only [numOf, denOf, Nat.reduceEqDiff, ↓reduceIte]; omega
  · simp only [numOf, denOf, Nat.reduceEqDiff, ↓reduceIte]; omega
  · simp only [numOf, denOf, Nat.reduceEqDiff, ↓reduceIte]
    split <;> omega

theorem number {g : Nat} (hg : g = 47 ∨ g = 48 ∨ g = 49) (sp st : Int) (hsp : 1 ≤ sp ∧ sp ≤ 1000) (hst : 1 ≤ st ∧ st ≤ 100) (a : AV) (rvs : List AV) (rows : List (List (Int × Int))) (m : Nat) (hn : 2 ≤ rows.length ∧ rows.length ≤ 10) (hm : 2 ≤ m ∧ m ≤ 6)
    (gs : List Int) (hl : gs.length = 60) (hy : ∀ q, q < rows.length * m → 0 ≤ yat gs m q ∧ yat gs m q ≤ 500) (h : H) (x : HullAt h a rvs rows m) (hpos : 0 < psum (deAt g st rows.length m gs) (rows.length * m)) :
    (om Try.prog KK).call (.fn 29 [.agg [ii sp, ii st, a], .fn g [.agg [ii sp, ii st, a]] [], .agg (gs.map ii)]) h = .ok (frac (psum (nuAt g sp st rows.length m gs) (rows.length * m)) (psum (deAt g st rows.length m gs) (rows.length * m))) h := by
  have wf := x.wf
  have hnm : rows.length * m ≤ 60 := by
    have := Nat.mul_le_mul hn.2 hm.2; omega
  have hpb : plainB Try.prog g = true := by rcases hg with rfl | rfl | rfl <;> first | exact pb_47 | exact pb_48 | exact pb_49
  have hpl := fun J w hw => places sp st a h wf J w hw
  have hbd : ∀ q, q < rows.length * m → (0 ≤ nuAt g sp st rows.length m gs q ∧ nuAt g sp st rows.length m gs q ≤ 2000000000) ∧ 0 ≤ deAt g st rows.length m gs q ∧ deAt g st rows.length m gs q ≤ 600000 := fun q hq => by
    obtain ⟨i1, i2, i3⟩ := place_idx hm.2 hn.2 hq
    exact numOf_in hg hsp hst hm.2 (by omega) i2 (wt2 _ _ _ _) (hy q hq)
  refine WV_to (WV_call (fn := Try.f29) Try.func29 rfl rfl rfl rfl rfl ?_)
  simp only [argF]
  (repeat' (first
  | (with_reducible first | refine WC_seq ?_ | refine WC_skip ?_ | refine WC_label ?_ | refine WC_scope ?_ | refine WC_block ?_ | refine WC_ret ?_ | refine WC_exit ?_ | refine seqQ_norm ?_ | refine seqQ_ret ?_ | refine seqQ_exit ?_ | refine blkQ_norm ?_ | refine blkQ_ret ?_ | refine blkQ_here ?_ | refine gateK_yes ?_ | refine gateK_none ?_ | refine condK_tt ?_ | refine condK_ff ?_ | refine roundQ_exit ?_ | refine roundQ_ret ?_)
  | refine WC_region ?_ | refine blkQ_out rfl ?_ | refine WO_nil ?_ | refine WD_nil ?_
  | ((first | refine WD_gate rfl rfl rfl rfl rfl fun K_ hK_ => ?_ | refine WO_gate rfl rfl rfl rfl rfl fun K_ hK_ => ?_); simp only [upd_apply, asB_bool, asB_tup, ↓reduceIte, reduceCtorEq, Nat.reduceEqDiff, Bool.not_true, Bool.not_false]; refine hK_ _ ?_; clear hK_ K_)
  | refine gateK_no (by decide) ?_
  | ((try first | refine WO_op rfl rfl rfl ?_ | refine WO_op0 rfl rfl ?_ | refine WD_op rfl rfl rfl ?_ | refine WD_op0 rfl rfl ?_); (refine WV_gen fun Q_ hQ_ => ?_; simp (disch := first | omega | (simp only [List.length_cons, List.length_nil, List.length_append]; omega)) only [bb, bp, argF, ↓reduceIte, reduceCtorEq, Nat.reduceEqDiff, Nat.reduceLT, Nat.reduceLeDiff, Nat.reduceAdd, Nat.reduceMul, Nat.reduceSub, Nat.reduceBEq, Int.reduceToNat, cond_true, cond_false, eq_self, beq_self_eq_true, newPtr_X wf, load1_X wf, loadAgg_X wf, store1_X wf, writeCells_X wf, makeFunc_def, tEvH6, indexAddrE_def (P := Try.prog) (t := 56), indexAddrE_def (P := Try.prog) (t := 54)]; first | (refine dec_split (Q := Q_) (fun hp_ => ?_) (fun hp_ => ?_) <;> first | (exfalso; omega) | (refine hQ_ _ _ ?_; clear hQ_ Q_)) | (refine dec_splitn (Q := Q_) (fun hp_ => ?_) (fun hp_ => ?_) <;> first | (exfalso; omega) | (refine hQ_ _ _ ?_; clear hQ_ Q_)) | (refine hQ_ _ _ ?_; clear hQ_ Q_) | (refine WV_eq (places sp st a h wf _ _ (by simp only [List.length_append, List.length_cons, List.length_nil]; omega)) ?_; refine hQ_ _ _ ?_; clear hQ_ Q_)))
  | (refine WC_cond fun K_ hK_ => ?_; simp (disch := omega) only [evT_tmp, upd_apply, WB_some, ↓reduceIte, reduceCtorEq, Nat.reduceEqDiff, Nat.reduceLT]; refine hK_ _ ?_; clear hK_ K_)))
  simp only [List.length_cons, List.length_nil, List.cons_append, List.nil_append]
  refine WC_rangeX wf rfl (evT_tmp (by decide)) fun o ho => ?_
  simp only [upd_apply, ↓reduceIte, reduceCtorEq, Nat.reduceEqDiff, List.length_cons, List.length_nil, List.cons_append, List.nil_append, Nat.reduceAdd]
  refine WV.mono (placesH x hn hm sp st 5 (nx h 7) _ (fun q hb => ∃ w, hb = X h [.cells (mkCells [ii sp, ii st, a]) 52, .cells (mkCells [.fn g [.agg [ii sp, ii st, a]] []]) 62, .cells (mkCells (gs.map ii)) 56, .cells (mkCells [ii 0, ii 0]) 29,
      .cells (mkCells [ii (psum (nuAt g sp st rows.length m gs) q), ii (psum (deAt g st rows.length m gs) q)]) 91, .cells (mkCells [ii sp, ii st, a]) 52, .dfr, o] w ∧ w ≤ h.clock + 8)
    (fun _ => False) h.clock (Nat.le_refl _) (Nat.le_add_right _ _) ?_ ?_ ⟨h.clock, rfl, by omega⟩) ?_
  · rintro q hb ⟨w, rfl, hw⟩
    exact ⟨⟨_, w, rfl, hw, rfl⟩, Same.X rfl⟩
  · rintro q xx hx hb J w ⟨w0, rfl, hw0⟩ hlo hw
    obtain ⟨hq, rfl⟩ := placesOf_at hx
    rw [X_X]
    generalize (rows.getD (q / m) []).getD (q % m) (0, 0) = r
    simp only [List.cons_append, List.nil_append, placeOf]
    refine WV_yldX wf (k := 7) rfl ho (setParams1 rfl) ?_
    (repeat' (first
  | (with_reducible first | refine WC_seq ?_ | refine WC_skip ?_ | refine WC_label ?_ | refine WC_scope ?_ | refine WC_block ?_ | refine WC_ret ?_ | refine WC_exit ?_ | refine seqQ_norm ?_ | refine seqQ_ret ?_ | refine seqQ_exit ?_ | refine blkQ_norm ?_ | refine blkQ_ret ?_ | refine blkQ_here ?_ | refine gateK_yes ?_ | refine gateK_none ?_ | refine condK_tt ?_ | refine condK_ff ?_ | refine roundQ_exit ?_ | refine roundQ_ret ?_)
  | refine WC_region ?_ | refine blkQ_out rfl ?_ | refine WO_nil ?_ | refine WD_nil ?_
  | ((first | refine WD_gate rfl rfl rfl rfl rfl fun K_ hK_ => ?_ | refine WO_gate rfl rfl rfl rfl rfl fun K_ hK_ => ?_); simp only [upd_apply, asB_bool, asB_tup, ↓reduceIte, reduceCtorEq, Nat.reduceEqDiff, Bool.not_true, Bool.not_false]; refine hK_ _ ?_; clear hK_ K_)
  | refine gateK_no (by decide) ?_
  | ((try first | refine WO_op rfl rfl rfl ?_ | refine WO_op0 rfl rfl ?_ | refine WD_op rfl rfl rfl ?_ | refine WD_op0 rfl rfl ?_); (refine WV_gen fun Q_ hQ_ => ?_; simp (disch := first | omega | (simp only [List.length_cons, List.length_nil, List.length_append]; omega)) only [bb, bp, argF, ↓reduceIte, reduceCtorEq, Nat.reduceEqDiff, Nat.reduceLT, Nat.reduceLeDiff, Nat.reduceAdd, Nat.reduceMul, Nat.reduceSub, Nat.reduceBEq, Int.reduceToNat, cond_true, cond_false, eq_self, beq_self_eq_true, newPtr_X wf, load1_X wf, loadAgg_X wf, store1_X wf, writeCells_X wf, makeFunc_def, tEvH6, indexAddrE_def (P := Try.prog) (t := 56), indexAddrE_def (P := Try.prog) (t := 54)]; first | (refine dec_split (Q := Q_) (fun hp_ => ?_) (fun hp_ => ?_) <;> first | (exfalso; omega) | (refine hQ_ _ _ ?_; clear hQ_ Q_)) | (refine dec_splitn (Q := Q_) (fun hp_ => ?_) (fun hp_ => ?_) <;> first | (exfalso; omega) | (refine hQ_ _ _ ?_; clear hQ_ Q_)) | (refine hQ_ _ _ ?_; clear hQ_ Q_)))
  | (refine WC_cond fun K_ hK_ => ?_; simp (disch := omega) only [evT_tmp, upd_apply, WB_some, ↓reduceIte, reduceCtorEq, Nat.reduceEqDiff, Nat.reduceLT]; refine hK_ _ ?_; clear hK_ K_)))
    refine yldA_X wf (k := 7) rfl ho fun o' ho' => ?_
    obtain ⟨i1, i2, i3⟩ := place_idx hm.2 hn.2 hq
    have hgg := grid_get hl i3
    have hw' : w ≤ h.clock + 8 + J.length := hw
    have hs1 := psum_in (f := nuAt g sp st rows.length m gs) (b := 2000000000) (q := q) (fun i hi => (hbd i (by omega)).1)
    have hs2 := psum_in (f := deAt g st rows.length m gs) (b := 600000) (q := q) (fun i hi => (hbd i (by omega)).2)
    have hb2 := hbd q hq
    have hsh := share hg sp st hsp hst a (ii r.1) (ii r.2) rvs rows (q / m) (q % m) m hm (by omega) i2 (wt rows.length (q / m) * wt m (q % m)) (gs.getD (q / m * 6 + q % m) 0) (wt2 _ _ _ _) (hy q hq) h x (by omega) rfl rfl rfl rfl
    have e1 : numOf g sp st m (q / m) (q % m) (wt rows.length (q / m) * wt m (q % m)) (gs.getD (q / m * 6 + q % m) 0) = nuAt g sp st rows.length m gs q := rfl
    have e2 : denOf g st (wt rows.length (q / m) * wt m (q % m)) (gs.getD (q / m * 6 + q % m) 0) = deAt g st rows.length m gs q := rfl
    rw [e1, e2] at hsh
    (repeat' (first
  | (with_reducible first | refine WC_seq ?_ | refine WC_skip ?_ | refine WC_label ?_ | refine WC_scope ?_ | refine WC_block ?_ | refine WC_ret ?_ | refine WC_exit ?_ | refine seqQ_norm ?_ | refine seqQ_ret ?_ | refine seqQ_exit ?_ | refine blkQ_norm ?_ | refine blkQ_ret ?_ | refine blkQ_here ?_ | refine gateK_yes ?_ | refine gateK_none ?_ | refine condK_tt ?_ | refine condK_ff ?_ | refine roundQ_exit ?_ | refine roundQ_ret ?_)
  | refine WC_region ?_ | refine blkQ_out rfl ?_ | refine WO_nil ?_ | refine WD_nil ?_
  | ((first | refine WD_gate rfl rfl rfl rfl rfl fun K_ hK_ => ?_ | refine WO_gate rfl rfl rfl rfl rfl fun K_ hK_ => ?_); simp only [upd_apply, asB_bool, asB_tup, ↓reduceIte, reduceCtorEq, Nat.reduceEqDiff, Bool.not_true, Bool.not_false]; refine hK_ _ ?_; clear hK_ K_)
  | refine gateK_no (by decide) ?_
  | ((try first | refine WO_op rfl rfl rfl ?_ | refine WO_op0 rfl rfl ?_ | refine WD_op rfl rfl rfl ?_ | refine WD_op0 rfl rfl ?_); (refine WV_gen fun Q_ hQ_ => ?_; simp (disch := first | omega | (simp only [List.length_cons, List.length_nil, List.length_append]; omega)) only [bb, bp, argF, ↓reduceIte, reduceCtorEq, Nat.reduceEqDiff, Nat.reduceLT, Nat.reduceLeDiff, Nat.reduceAdd, Nat.reduceMul, Nat.reduceSub, Nat.reduceBEq, Int.reduceToNat, cond_true, cond_false, eq_self, beq_self_eq_true, newPtr_X wf, load1_X wf, loadAgg_X wf, store1_X wf, writeCells_X wf, makeFunc_def, tEvH6, indexAddrE_def (P := Try.prog) (t := 56), indexAddrE_def (P := Try.prog) (t := 54)]; first | (refine dec_split (Q := Q_) (fun hp_ => ?_) (fun hp_ => ?_) <;> first | (exfalso; omega) | (refine hQ_ _ _ ?_; clear hQ_ Q_)) | (refine dec_splitn (Q := Q_) (fun hp_ => ?_) (fun hp_ => ?_) <;> first | (exfalso; omega) | (refine hQ_ _ _ ?_; clear hQ_ Q_)) | (refine hQ_ _ _ ?_; clear hQ_ Q_)))
  | (refine WC_cond fun K_ hK_ => ?_; simp (disch := omega) only [evT_tmp, upd_apply, WB_some, ↓reduceIte, reduceCtorEq, Nat.reduceEqDiff, Nat.reduceLT]; refine hK_ _ ?_; clear hK_ K_)))
    refine WC_drawnB [.no, .no, .no, .no, .no, .no, .no, .no, .no, .no, .no, .full] (by kernel_rfl) ?_
    (repeat' (first
  | (with_reducible first | refine WC_seq ?_ | refine WC_skip ?_ | refine WC_label ?_ | refine WC_scope ?_ | refine WC_block ?_ | refine WC_ret ?_ | refine WC_exit ?_ | refine seqQ_norm ?_ | refine seqQ_ret ?_ | refine seqQ_exit ?_ | refine blkQ_norm ?_ | refine blkQ_ret ?_ | refine blkQ_here ?_ | refine gateK_yes ?_ | refine gateK_none ?_ | refine condK_tt ?_ | refine condK_ff ?_ | refine roundQ_exit ?_ | refine roundQ_ret ?_)
  | refine WC_region ?_ | refine blkQ_out rfl ?_ | refine WO_nil ?_ | refine WD_nil ?_
  | ((first | refine WD_gate rfl rfl rfl rfl rfl fun K_ hK_ => ?_ | refine WO_gate rfl rfl rfl rfl rfl fun K_ hK_ => ?_); simp only [upd_apply, asB_bool, asB_tup, ↓reduceIte, reduceCtorEq, Nat.reduceEqDiff, Bool.not_true, Bool.not_false]; refine hK_ _ ?_; clear hK_ K_)
  | refine gateK_no (by decide) ?_
  | ((try first | refine WO_op rfl rfl rfl ?_ | refine WO_op0 rfl rfl ?_ | refine WD_op rfl rfl rfl ?_ | refine WD_op0 rfl rfl ?_); (refine WV_gen fun Q_ hQ_ => ?_; simp (disch := first | omega | (simp only [List.length_cons, List.length_nil, List.length_append]; omega)) only [bb, bp, argF, ↓reduceIte, reduceCtorEq, Nat.reduceEqDiff, Nat.reduceLT, Nat.reduceLeDiff, Nat.reduceAdd, Nat.reduceMul, Nat.reduceSub, Nat.reduceBEq, Int.reduceToNat, cond_true, cond_false, eq_self, beq_self_eq_true, hgg, hsh, hpb, callV_fn, newPtr_X wf, load1_X wf, loadAgg_X wf, store1_X wf, writeCells_X wf, makeFunc_def, tEvH6, indexAddrE_def (P := Try.prog) (t := 56), indexAddrE_def (P := Try.prog) (t := 54)]; first | (refine dec_split (Q := Q_) (fun hp_ => ?_) (fun hp_ => ?_) <;> first | (exfalso; omega) | (refine hQ_ _ _ ?_; clear hQ_ Q_)) | (refine dec_splitn (Q := Q_) (fun hp_ => ?_) (fun hp_ => ?_) <;> first | (exfalso; omega) | (refine hQ_ _ _ ?_; clear hQ_ Q_)) | (refine hQ_ _ _ ?_; clear hQ_ Q_)))
  | (refine WC_cond fun K_ hK_ => ?_; simp (disch := omega) only [evT_tmp, upd_apply, WB_some, ↓reduceIte, reduceCtorEq, Nat.reduceEqDiff, Nat.reduceLT]; refine hK_ _ ?_; clear hK_ K_)))
    refine yldB_X wf (k := 7) rfl ho' ?_
    simp only [List.set_cons_succ, List.set_cons_zero]
    rw [← ho]
    refine ⟨X h [.cells (mkCells [ii sp, ii st, a]) 52, .cells (mkCells [.fn g [.agg [ii sp, ii st, a]] []]) 62, .cells (mkCells (gs.map ii)) 56, .cells (mkCells [ii 0, ii 0]) 29,
      .cells (mkCells [ii (psum (nuAt g sp st rows.length m gs) (q + 1)), ii (psum (deAt g st rows.length m gs) (q + 1))]) 91, .cells (mkCells [ii sp, ii st, a]) 52, .dfr, o] w0, _, _, by rw [X_X]; rfl, Same.X rfl, by omega, ?_, .inl ⟨rfl, w0, rfl, hw0⟩⟩
    show _ < h.clock + 8
    omega
  · rintro v h' ⟨hb, J, w, rfl, hs, hlo, hw, ⟨w0, rfl, hw0⟩ | hD⟩
    · rw [X_X, placesOf_length]
      refine rangeQ_X wf (k := 7) rfl ho (by decide) fun o' ho' => ?_
      have hs1 := psum_in (f := nuAt g sp st rows.length m gs) (b := 2000000000) (q := rows.length * m) (fun i hi => (hbd i (by omega)).1)
      have hs2 := psum_in (f := deAt g st rows.length m gs) (b := 600000) (q := rows.length * m) (fun i hi => (hbd i (by omega)).2)
      simp only [List.cons_append, List.nil_append, List.set_cons_succ, List.set_cons_zero]
      (repeat' (first
  | (with_reducible first | refine WC_seq ?_ | refine WC_skip ?_ | refine WC_label ?_ | refine WC_scope ?_ | refine WC_block ?_ | refine WC_ret ?_ | refine WC_exit ?_ | refine seqQ_norm ?_ | refine seqQ_ret ?_ | refine seqQ_exit ?_ | refine blkQ_norm ?_ | refine blkQ_ret ?_ | refine blkQ_here ?_ | refine gateK_yes ?_ | refine gateK_none ?_ | refine condK_tt ?_ | refine condK_ff ?_ | refine roundQ_exit ?_ | refine roundQ_ret ?_)
  | refine WC_region ?_ | refine blkQ_out rfl ?_ | refine WO_nil ?_ | refine WD_nil ?_
  | ((first | refine WD_gate rfl rfl rfl rfl rfl fun K_ hK_ => ?_ | refine WO_gate rfl rfl rfl rfl rfl fun K_ hK_ => ?_); simp only [upd_apply, asB_bool, asB_tup, ↓reduceIte, reduceCtorEq, Nat.reduceEqDiff, Bool.not_true, Bool.not_false]; refine hK_ _ ?_; clear hK_ K_)
  | refine gateK_no (by decide) ?_
  | ((try first | refine WO_op rfl rfl rfl ?_ | refine WO_op0 rfl rfl ?_ | refine WD_op rfl rfl rfl ?_ | refine WD_op0 rfl rfl ?_); (refine WV_gen fun Q_ hQ_ => ?_; simp (disch := first | omega | (simp only [List.length_cons, List.length_nil, List.length_append]; omega)) only [bb, bp, argF, ↓reduceIte, reduceCtorEq, Nat.reduceEqDiff, Nat.reduceLT, Nat.reduceLeDiff, Nat.reduceAdd, Nat.reduceMul, Nat.reduceSub, Nat.reduceBEq, Int.reduceToNat, cond_true, cond_false, eq_self, beq_self_eq_true, frac, newPtr_X wf, load1_X wf, loadAgg_X wf, store1_X wf, writeCells_X wf, makeFunc_def, tEvH6, indexAddrE_def (P := Try.prog) (t := 56), indexAddrE_def (P := Try.prog) (t := 54)]; first | (refine dec_split (Q := Q_) (fun hp_ => ?_) (fun hp_ => ?_) <;> first | (exfalso; omega) | (refine hQ_ _ _ ?_; clear hQ_ Q_)) | (refine dec_splitn (Q := Q_) (fun hp_ => ?_) (fun hp_ => ?_) <;> first | (exfalso; omega) | (refine hQ_ _ _ ?_; clear hQ_ Q_)) | (refine hQ_ _ _ ?_; clear hQ_ Q_) | (refine WV_eq (fraction _ _ ⟨hs1.1, by omega⟩ ⟨hpos, by omega⟩ _ (wf.X (by simp only [List.length_append, List.length_cons, List.length_nil]; omega))) ?_; refine hQ_ _ _ ?_; clear hQ_ Q_)))
  | (refine WC_cond fun K_ hK_ => ?_; simp (disch := omega) only [evT_tmp, upd_apply, WB_some, ↓reduceIte, reduceCtorEq, Nat.reduceEqDiff, Nat.reduceLT]; refine hK_ _ ?_; clear hK_ K_)))
      refine endQ_ret _ _ (takeAll_X wf (k := 6) rfl) (retc0 (by decide) (by simp (disch := first | omega | (simp only [List.length_cons, List.length_nil, List.length_append]; omega)) only [bb, bp, argF, ↓reduceIte, reduceCtorEq, Nat.reduceEqDiff, Nat.reduceLT, Nat.reduceLeDiff, Nat.reduceAdd, Nat.reduceMul, Nat.reduceSub, Nat.reduceBEq, Int.reduceToNat, cond_true, cond_false, eq_self, beq_self_eq_true, loadAgg_X wf, frac, tEvH6, indexAddrE_def (P := Try.prog) (t := 56), indexAddrE_def (P := Try.prog) (t := 54)]; rfl)) ?_
      refine WV_flat rfl (by omega) ?_
      exact ⟨rfl, rfl⟩
    · exact hD.elim
end Go.Proofs.Ytghondkiondeaab
end

/- EvH7 -/
section
/-
  LAYER 2: which hulls are valid.
-/
namespace Go.Proofs.Ytghondkiondeaab
open Go.Ev
set_option maxRecDepth 100000
set_option linter.unusedSimpArgs false
set_option linter.unusedVariables false
set_option maxHeartbeats 2000000

theorem tEvH7 : type_of% (And.intro (And.intro (And.intro (And.intro (And.intro (@bs_91) (@bs_29)) (And.intro (@ia_29) (@sz_29))) (And.intro (And.intro (@ze_29) (@ia_2)) (And.intro (@sz_2) (@ze_2)))) (And.intro (And.intro (And.intro (@ia_3) (@sz_3)) (And.intro (@ia_47) (@sz_47))) (And.intro (And.intro (@ia_46) (@sz_46)) (And.intro (@ia_22) (@sz_22))))) (And.intro (And.intro (And.intro (And.intro (@ik_47) (@ik_46)) (And.intro (@ik_22) (@ia_70))) (And.intro (And.intro (@sz_70) (@ze_70)) (And.intro (@fo_70_0) (@fo_70_1)))) (And.intro (And.intro (And.intro (@fo_24_0) (@fo_24_1)) (And.intro (@fo_24_2) (@ia_24))) (And.intro (And.intro (@sz_24) (@pb_31)) (And.intro (@pb_32) (And.intro (@pb_50) (@pb_11))))))) := And.intro (And.intro (And.intro (And.intro (And.intro (@bs_91) (@bs_29)) (And.intro (@ia_29) (@sz_29))) (And.intro (And.intro (@ze_29) (@ia_2)) (And.intro (@sz_2) (@ze_2)))) (And.intro (And.intro (And.intro (@ia_3) (@sz_3)) (And.intro (@ia_47) (@sz_47))) (And.intro (And.intro (@ia_46) (@sz_46)) (And.intro (@ia_22) (@sz_22))))) (And.intro (And.intro (And.intro (And.intro (@ik_47) (@ik_46)) (And.intro (@ik_22) (@ia_70))) (And.intro (And.intro (@sz_70) (@ze_70)) (And.intro (@fo_70_0) (@fo_70_1)))) (And.intro (And.intro (And.intro (@fo_24_0) (@fo_24_1)) (And.intro (@fo_24_2) (@ia_24))) (And.intro (And.intro (@sz_24) (@pb_31)) (And.intro (@pb_32) (And.intro (@pb_50) (@pb_11))))))
theorem areWithin (lo hi : Int) (xs : List Int) (s : AV) (h : H) (wf : Wf h) (hs : Sl h s 1 xs.length (xs.map ii)) (hlen : xs.length ≤ 1000) :
    (om Try.prog KK).call (.fn 31 [ii lo, ii hi, s]) h = .ok (.bool (decide (∀ x, x ∈ xs → lo ≤ x ∧ x ≤ hi))) h := by
  refine WV_to (WV_call (fn := Try.f31) Try.func31 rfl rfl rfl rfl rfl ?_)
  simp only [argF]
  have hl : ∀ h', lenE Try.prog 47 s h' = some (ii (xs.length : Int)) := fun h' => hs.len un_47
  (repeat' (first
  | (with_reducible first | refine WC_seq ?_ | refine WC_skip ?_ | refine WC_label ?_ | refine WC_scope ?_ | refine WC_block ?_ | refine WC_ret ?_ | refine WC_exit ?_ | refine seqQ_norm ?_ | refine seqQ_ret ?_ | refine seqQ_exit ?_ | refine blkQ_norm ?_ | refine blkQ_ret ?_ | refine blkQ_here ?_ | refine gateK_yes ?_ | refine gateK_none ?_ | refine condK_tt ?_ | refine condK_ff ?_ | refine roundQ_exit ?_ | refine roundQ_ret ?_)
  | refine WC_region ?_ | refine blkQ_out rfl ?_ | refine WO_nil ?_ | refine WD_nil ?_
  | ((first | refine WD_gate rfl rfl rfl rfl rfl fun K_ hK_ => ?_ | refine WO_gate rfl rfl rfl rfl rfl fun K_ hK_ => ?_); simp only [upd_apply, asB_bool, asB_tup, ↓reduceIte, reduceCtorEq, Nat.reduceEqDiff, Bool.not_true, Bool.not_false]; refine hK_ _ ?_; clear hK_ K_)
  | refine gateK_no (by decide) ?_
  | ((try first | refine WO_op rfl rfl rfl ?_ | refine WO_op0 rfl rfl ?_ | refine WD_op rfl rfl rfl ?_ | refine WD_op0 rfl rfl ?_); (refine WV_gen fun Q_ hQ_ => ?_; simp (disch := first | omega | (simp only [List.length_cons, List.length_nil, List.length_append]; omega)) only [bb, bp, argF, ↓reduceIte, reduceCtorEq, Nat.reduceEqDiff, Nat.reduceLT, Nat.reduceLeDiff, Nat.reduceAdd, Nat.reduceMul, Nat.reduceSub, Nat.reduceBEq, Int.reduceToNat, cond_true, cond_false, eq_self, beq_self_eq_true, hl, newPtr_X wf, load1_X wf, loadAgg_X wf, store1_X wf, writeCells_X wf, makeFunc_def, tEvH7, bsl_47, newSlice_X wf]; first | (refine dec_split (Q := Q_) (fun hp_ => ?_) (fun hp_ => ?_) <;> first | (exfalso; omega) | (refine hQ_ _ _ ?_; clear hQ_ Q_)) | (refine dec_splitn (Q := Q_) (fun hp_ => ?_) (fun hp_ => ?_) <;> first | (exfalso; omega) | (refine hQ_ _ _ ?_; clear hQ_ Q_)) | (refine hQ_ _ _ ?_; clear hQ_ Q_)))
  | (refine WC_cond fun K_ hK_ => ?_; simp (disch := omega) only [evT_tmp, upd_apply, WB_some, ↓reduceIte, reduceCtorEq, Nat.reduceEqDiff, Nat.reduceLT]; refine hK_ _ ?_; clear hK_ K_)))
  refine WC_loop (fun (i : Nat) f d h' => i ≤ xs.length ∧ (∀ j, j < i → ∀ hj : j < xs.length, lo ≤ xs[j] ∧ xs[j] ≤ hi) ∧ f 0 = ii lo ∧ f 1 = ii hi ∧ f 9 = s ∧ f 10 = ii (xs.length : Int) ∧ f 11 = ii (i : Int) ∧ d = [] ∧ h' = X h [] h.clock) (fun i => xs.length - i) ?_ (xs.length + 1) 0 (by omega) ?_
  · rintro i f d h' ⟨hi', hall, g0, g1, g9, g10, g11, rfl, rfl⟩
    by_cases hlt : i < xs.length
    · obtain ⟨id, off, hix, hld⟩ := hs.at1 wf hlt ik_47
      rw [List.getElem?_map, List.getElem?_eq_getElem hlt, Option.map_some] at hld
      (repeat' (first
  | (with_reducible first | refine WC_seq ?_ | refine WC_skip ?_ | refine WC_label ?_ | refine WC_scope ?_ | refine WC_block ?_ | refine WC_ret ?_ | refine WC_exit ?_ | refine seqQ_norm ?_ | refine seqQ_ret ?_ | refine seqQ_exit ?_ | refine blkQ_norm ?_ | refine blkQ_ret ?_ | refine blkQ_here ?_ | refine gateK_yes ?_ | refine gateK_none ?_ | refine condK_tt ?_ | refine condK_ff ?_ | refine roundQ_exit ?_ | refine roundQ_ret ?_)
  | refine WC_region ?_ | refine blkQ_out rfl ?_ | refine WO_nil ?_ | refine WD_nil ?_
  | ((first | refine WD_gate rfl rfl rfl rfl rfl fun K_ hK_ => ?_ | refine WO_gate rfl rfl rfl rfl rfl fun K_ hK_ => ?_); simp only [upd_apply, asB_bool, asB_tup, ↓reduceIte, reduceCtorEq, Nat.reduceEqDiff, Bool.not_true, Bool.not_false]; refine hK_ _ ?_; clear hK_ K_)
  | refine gateK_no (by decide) ?_
  | ((try first | refine WO_op rfl rfl rfl ?_ | refine WO_op0 rfl rfl ?_ | refine WD_op rfl rfl rfl ?_ | refine WD_op0 rfl rfl ?_); (refine WV_gen fun Q_ hQ_ => ?_; simp (disch := first | omega | (simp only [List.length_cons, List.length_nil, List.length_append]; omega)) only [bb, bp, argF, ↓reduceIte, reduceCtorEq, Nat.reduceEqDiff, Nat.reduceLT, Nat.reduceLeDiff, Nat.reduceAdd, Nat.reduceMul, Nat.reduceSub, Nat.reduceBEq, Int.reduceToNat, cond_true, cond_false, eq_self, beq_self_eq_true, g0, g1, g9, g10, g11, hix, hld, newPtr_X wf, load1_X wf, loadAgg_X wf, store1_X wf, writeCells_X wf, makeFunc_def, tEvH7, bsl_47, newSlice_X wf]; first | (refine dec_split (Q := Q_) (fun hp_ => ?_) (fun hp_ => ?_) <;> first | (exfalso; omega) | (refine hQ_ _ _ ?_; clear hQ_ Q_)) | (refine dec_splitn (Q := Q_) (fun hp_ => ?_) (fun hp_ => ?_) <;> first | (exfalso; omega) | (refine hQ_ _ _ ?_; clear hQ_ Q_)) | (refine hQ_ _ _ ?_; clear hQ_ Q_)))
  | (refine WC_cond fun K_ hK_ => ?_; simp (disch := omega) only [evT_tmp, upd_apply, WB_some, ↓reduceIte, reduceCtorEq, Nat.reduceEqDiff, Nat.reduceLT]; refine hK_ _ ?_; clear hK_ K_)))
      · (refine endQ_ret _ _ rfl (ret1 (by decide)) ?_; simp only [upd_apply, ↓reduceIte, reduceCtorEq, Nat.reduceEqDiff]; refine WV_flat rfl (by omega) ?_)
        exact ⟨by rw [decide_eq_false (fun hh => by have := hh _ (List.getElem_mem hlt); omega)], rfl⟩
      · (refine endQ_ret _ _ rfl (ret1 (by decide)) ?_; simp only [upd_apply, ↓reduceIte, reduceCtorEq, Nat.reduceEqDiff]; refine WV_flat rfl (by omega) ?_)
        exact ⟨by rw [decide_eq_false (fun hh => by have := hh _ (List.getElem_mem hlt); omega)], rfl⟩
      · refine roundQ_again (i + 1) (by omega) ⟨hlt, ?_, by simp only [upd_apply, ↓reduceIte, reduceCtorEq, Nat.reduceEqDiff]; exact g0, by simp only [upd_apply, ↓reduceIte, reduceCtorEq, Nat.reduceEqDiff]; exact g1, by simp only [upd_apply, ↓reduceIte, reduceCtorEq, Nat.reduceEqDiff]; exact g9, by simp only [upd_apply, ↓reduceIte, reduceCtorEq, Nat.reduceEqDiff]; exact g10, by simp only [upd_apply, ↓reduceIte, reduceCtorEq, Nat.reduceEqDiff]; rfl, rfl, rfl⟩
        intro j hj hjl
        by_cases hji : j = i
        · subst hji; omega
        · exact hall j (by omega) hjl
    · have hie : i = xs.length := by omega
      subst hie
      (repeat' (first
  | (with_reducible first | refine WC_seq ?_ | refine WC_skip ?_ | refine WC_label ?_ | refine WC_scope ?_ | refine WC_block ?_ | refine WC_ret ?_ | refine WC_exit ?_ | refine seqQ_norm ?_ | refine seqQ_ret ?_ | refine seqQ_exit ?_ | refine blkQ_norm ?_ | refine blkQ_ret ?_ | refine blkQ_here ?_ | refine gateK_yes ?_ | refine gateK_none ?_ | refine condK_tt ?_ | refine condK_ff ?_ | refine roundQ_exit ?_ | refine roundQ_ret ?_)
  | refine WC_region ?_ | refine blkQ_out rfl ?_ | refine WO_nil ?_ | refine WD_nil ?_
  | ((first | refine WD_gate rfl rfl rfl rfl rfl fun K_ hK_ => ?_ | refine WO_gate rfl rfl rfl rfl rfl fun K_ hK_ => ?_); simp only [upd_apply, asB_bool, asB_tup, ↓reduceIte, reduceCtorEq, Nat.reduceEqDiff, Bool.not_true, Bool.not_false]; refine hK_ _ ?_; clear hK_ K_)
  | refine gateK_no (by decide) ?_
  | ((try first | refine WO_op rfl rfl rfl ?_ | refine WO_op0 rfl rfl ?_ | refine WD_op rfl rfl rfl ?_ | refine WD_op0 rfl rfl ?_); (refine WV_gen fun Q_ hQ_ => ?_; simp (disch := first | omega | (simp only [List.length_cons, List.length_nil, List.length_append]; omega)) only [bb, bp, argF, ↓reduceIte, reduceCtorEq, Nat.reduceEqDiff, Nat.reduceLT, Nat.reduceLeDiff, Nat.reduceAdd, Nat.reduceMul, Nat.reduceSub, Nat.reduceBEq, Int.reduceToNat, cond_true, cond_false, eq_self, beq_self_eq_true, g0, g1, g9, g10, g11, newPtr_X wf, load1_X wf, loadAgg_X wf, store1_X wf, writeCells_X wf, makeFunc_def, tEvH7, bsl_47, newSlice_X wf]; first | (refine dec_split (Q := Q_) (fun hp_ => ?_) (fun hp_ => ?_) <;> first | (exfalso; omega) | (refine hQ_ _ _ ?_; clear hQ_ Q_)) | (refine dec_splitn (Q := Q_) (fun hp_ => ?_) (fun hp_ => ?_) <;> first | (exfalso; omega) | (refine hQ_ _ _ ?_; clear hQ_ Q_)) | (refine hQ_ _ _ ?_; clear hQ_ Q_)))
  | (refine WC_cond fun K_ hK_ => ?_; simp (disch := omega) only [evT_tmp, upd_apply, WB_some, ↓reduceIte, reduceCtorEq, Nat.reduceEqDiff, Nat.reduceLT]; refine hK_ _ ?_; clear hK_ K_)))
      (refine endQ_ret _ _ rfl (ret1 (by decide)) ?_; simp only [upd_apply, ↓reduceIte, reduceCtorEq, Nat.reduceEqDiff]; refine WV_flat rfl (by omega) ?_)
      refine ⟨?_, rfl⟩
      rw [decide_eq_true]
      intro x hx
      obtain ⟨j, hj, rfl⟩ := List.getElem_of_mem hx
      exact hall j hj hj
  · exact ⟨Nat.zero_le _, fun j hj => absurd hj (Nat.not_lt_zero j), by simp only [upd_apply, ↓reduceIte, reduceCtorEq, Nat.reduceEqDiff], by simp only [upd_apply, ↓reduceIte, reduceCtorEq, Nat.reduceEqDiff], by simp only [upd_apply, ↓reduceIte, reduceCtorEq, Nat.reduceEqDiff], by simp only [upd_apply, ↓reduceIte, reduceCtorEq, Nat.reduceEqDiff], by simp only [upd_apply, ↓reduceIte, reduceCtorEq, Nat.reduceEqDiff]; rfl, rfl, rfl⟩

/-- Of one number, in a new slice. -/
theorem within1 {h : H} (wf : Wf h) {lo hi x : Int} {L : List AO} {w k : Nat} (hw : w ≤ h.clock + L.length) (hk : L[k]? = some (.cells (mkCells [ii x]) 2)) :
    (om Try.prog KK).call (.fn 31 [ii lo, ii hi, .sl (nx h k) 0 1 (some 1) 1]) (X h L w) = .ok (.bool (decide (lo ≤ x ∧ x ≤ hi))) (X h L w) := by
  refine (areWithin lo hi [x] (.sl (nx h k) 0 1 (some 1) 1) _ (wf.X hw) (Sl.new wf (cells := [ii x]) rfl hk) (by simp)).trans ?_
  simp
theorem within2 {h : H} (wf : Wf h) {lo hi x y : Int} {L : List AO} {w k : Nat} (hw : w ≤ h.clock + L.length) (hk : L[k]? = some (.cells (mkCells [ii x, ii y]) 2)) :
    (om Try.prog KK).call (.fn 31 [ii lo, ii hi, .sl (nx h k) 0 2 (some 2) 1]) (X h L w) = .ok (.bool (decide ((lo ≤ x ∧ x ≤ hi) ∧ lo ≤ y ∧ y ≤ hi))) (X h L w) := by
  refine (areWithin lo hi [x, y] (.sl (nx h k) 0 2 (some 2) 1) _ (wf.X hw) (Sl.new wf (cells := [ii x, ii y]) rfl hk) (by simp)).trans ?_
  simp

/-- The range of an offset. -/
def isOff (r : Int × Int) : Prop := 0 ≤ r.1 ∧ r.2 ≤ 500 ∧ r.1 ≤ r.2 ∧ r.2 - r.1 ≤ 20
instance (r : Int × Int) : Decidable (isOff r) := by unfold isOff; infer_instance
theorem isOffset (r : Int × Int) (h : H) (wf : Wf h) : (om Try.prog KK).call (.fn 50 [.agg [ii r.1, ii r.2]]) h = .ok (.bool (decide (isOff r))) h := by
  refine WV_to (WV_call (fn := Try.f50) Try.func50 rfl rfl rfl rfl rfl ?_)
  simp only [argF]
  (repeat' (first
  | (with_reducible first | refine WC_seq ?_ | refine WC_skip ?_ | refine WC_label ?_ | refine WC_scope ?_ | refine WC_block ?_ | refine WC_ret ?_ | refine WC_exit ?_ | refine seqQ_norm ?_ | refine seqQ_ret ?_ | refine seqQ_exit ?_ | refine blkQ_norm ?_ | refine blkQ_ret ?_ | refine blkQ_here ?_ | refine gateK_yes ?_ | refine gateK_none ?_ | refine condK_tt ?_ | refine condK_ff ?_ | refine roundQ_exit ?_ | refine roundQ_ret ?_)
  | refine WC_region ?_ | refine blkQ_out rfl ?_ | refine WO_nil ?_ | refine WD_nil ?_
  | ((first | refine WD_gate rfl rfl rfl rfl rfl fun K_ hK_ => ?_ | refine WO_gate rfl rfl rfl rfl rfl fun K_ hK_ => ?_); simp only [upd_apply, asB_bool, asB_tup, ↓reduceIte, reduceCtorEq, Nat.reduceEqDiff, Bool.not_true, Bool.not_false]; refine hK_ _ ?_; clear hK_ K_)
  | refine gateK_no (by decide) ?_
  | ((try first | refine WO_op rfl rfl rfl ?_ | refine WO_op0 rfl rfl ?_ | refine WD_op rfl rfl rfl ?_ | refine WD_op0 rfl rfl ?_); (refine WV_gen fun Q_ hQ_ => ?_; simp (disch := first | omega | (simp only [List.length_cons, List.length_nil, List.length_append]; omega)) only [bb, bp, argF, ↓reduceIte, reduceCtorEq, Nat.reduceEqDiff, Nat.reduceLT, Nat.reduceLeDiff, Nat.reduceAdd, Nat.reduceMul, Nat.reduceSub, Nat.reduceBEq, Int.reduceToNat, cond_true, cond_false, eq_self, beq_self_eq_true, newPtr_X wf, load1_X wf, loadAgg_X wf, store1_X wf, writeCells_X wf, makeFunc_def, tEvH7, bsl_47, newSlice_X wf]; first | (refine dec_split (Q := Q_) (fun hp_ => ?_) (fun hp_ => ?_) <;> first | (exfalso; omega) | (refine hQ_ _ _ ?_; clear hQ_ Q_)) | (refine dec_splitn (Q := Q_) (fun hp_ => ?_) (fun hp_ => ?_) <;> first | (exfalso; omega) | (refine hQ_ _ _ ?_; clear hQ_ Q_)) | (refine hQ_ _ _ ?_; clear hQ_ Q_) | (refine WV_eq (within2 wf (by simp only [List.length_append, List.length_cons, List.length_nil]; omega) rfl) ?_; first | (refine dec_split (Q := Q_) (fun hp_ => ?_) (fun hp_ => ?_) <;> first | (exfalso; omega) | (refine hQ_ _ _ ?_; clear hQ_ Q_)) | (refine hQ_ _ _ ?_; clear hQ_ Q_)) | (refine WV_unmarkc (within2 wf (by simp only [List.length_append, List.length_cons, List.length_nil]; omega) rfl) ?_; first | (refine dec_split (Q := Q_) (fun hp_ => ?_) (fun hp_ => ?_) <;> first | (exfalso; omega) | (refine hQ_ _ _ ?_; clear hQ_ Q_)) | (refine hQ_ _ _ ?_; clear hQ_ Q_))))
  | (refine WC_cond fun K_ hK_ => ?_; simp (disch := omega) only [evT_tmp, upd_apply, WB_some, ↓reduceIte, reduceCtorEq, Nat.reduceEqDiff, Nat.reduceLT]; refine hK_ _ ?_; clear hK_ K_)))
  all_goals (refine endQ_ret _ _ rfl (ret1 (by decide)) ?_; simp only [upd_apply, ↓reduceIte, reduceCtorEq, Nat.reduceEqDiff]; refine WV_flat rfl (by omega) ?_)
  all_goals refine ⟨?_, rfl⟩
  all_goals first | rw [decide_eq_true (by unfold isOff; omega)] | rw [decide_eq_false (by unfold isOff; omega)]

/-- A hull as it is handed over, valid or not. -/
structure HullR (h : H) (a : AV) (rvs : List AV) (rows : List (List (Int × Int))) : Prop where
  wf : Wf h
  sl : Sl h a 1 rows.length rvs
  row : ∀ i (hi : i < rows.length), ∃ v, rvs[i]? = some v ∧ Row h v 2 rows[i].length (pairCells rows[i])
theorem HullR.up {h : H} {a : AV} {rvs : List AV} {rows : List (List (Int × Int))} (x : HullR h a rvs rows) (l : List AO) (w : Nat) (hw : w ≤ h.clock + l.length) : HullR (X h l w) a rvs rows :=
  ⟨x.wf.X hw, x.sl.up x.wf l w, fun i hi => let ⟨v, h1, h2⟩ := x.row i hi; ⟨v, h1, h2.up x.wf l w⟩⟩
theorem HullR.at {h : H} {a : AV} {rvs : List AV} {rows : List (List (Int × Int))} (x : HullR h a rvs rows) {m : Nat} (hm : m ≠ 0) (hall : ∀ i (hi : i < rows.length), rows[i].length = m) : HullAt h a rvs rows m :=
  ⟨x.wf, x.sl, fun i hi => let ⟨v, h1, h2⟩ := x.row i hi; ⟨v, h1, by have := h2.sl (by rw [hall i hi]; exact hm); rwa [hall i hi] at this, hall i hi⟩⟩

/-- The greatest Lo. -/
def mx (l : List (Int × Int)) : Int := l.foldl (fun acc r => max acc r.1) 0
theorem mx_snoc (l : List (Int × Int)) (r : Int × Int) : mx (l ++ [r]) = max (mx l) r.1 := by unfold mx; rw [List.foldl_append]; rfl
theorem mx_nonneg (l : List (Int × Int)) : 0 ≤ mx l := by
  unfold mx
  have : ∀ (l : List (Int × Int)) (a : Int), 0 ≤ a → 0 ≤ l.foldl (fun acc r => max acc r.1) a := by
    intro l
    induction l with
    | nil => intro a h; exact h
    | cons r l ih => intro a h; exact ih _ (by show 0 ≤ max a r.1; omega)
  exact this l 0 (Int.le_refl 0)

def offs (rows : List (List (Int × Int))) : Prop := (∀ r ∈ rows.flatten, isOff r) ∧ 0 < mx rows.flatten
instance (rows : List (List (Int × Int))) : Decidable (offs rows) := by unfold offs; infer_instance
theorem take_flat {α : Type} {rows : List (List α)} {i : Nat} (hi : i < rows.length) : (rows.take (i + 1)).flatten = (rows.take i).flatten ++ rows[i] := by
  rw [List.take_succ_eq_append_getElem hi, List.flatten_append]; simp
theorem take_one {α : Type} {l : List α} {k : Nat} (hk : k < l.length) : l.take (k + 1) = l.take k ++ [l[k]] := List.take_succ_eq_append_getElem hk

theorem areOffsets (a : AV) (rvs : List AV) (rows : List (List (Int × Int))) (m : Nat) (hn : rows.length ≤ 10) (hm : m ≤ 6) (h : H) (x : HullAt h a rvs rows m) :
    (om Try.prog KK).call (.fn 32 [a]) h = .ok (.bool (decide (offs rows))) h := by
  have wf := x.wf
  refine WV_to (WV_call (fn := Try.f32) Try.func32 rfl rfl rfl rfl rfl ?_)
  simp only [argF]
  have hlen : ∀ h', lenE Try.prog 22 a h' = some (ii (rows.length : Int)) := fun h' => x.sl.len un_22
  have hio := fun r l w (hw : w ≤ h.clock + l.length) => isOffset r (X h l w) (wf.X hw)
  (repeat' (first
  | (with_reducible first | refine WC_seq ?_ | refine WC_skip ?_ | refine WC_label ?_ | refine WC_scope ?_ | refine WC_block ?_ | refine WC_ret ?_ | refine WC_exit ?_ | refine seqQ_norm ?_ | refine seqQ_ret ?_ | refine seqQ_exit ?_ | refine blkQ_norm ?_ | refine blkQ_ret ?_ | refine blkQ_here ?_ | refine gateK_yes ?_ | refine gateK_none ?_ | refine condK_tt ?_ | refine condK_ff ?_ | refine roundQ_exit ?_ | refine roundQ_ret ?_)
  | refine WC_region ?_ | refine blkQ_out rfl ?_ | refine WO_nil ?_ | refine WD_nil ?_
  | ((first | refine WD_gate rfl rfl rfl rfl rfl fun K_ hK_ => ?_ | refine WO_gate rfl rfl rfl rfl rfl fun K_ hK_ => ?_); simp only [upd_apply, asB_bool, asB_tup, ↓reduceIte, reduceCtorEq, Nat.reduceEqDiff, Bool.not_true, Bool.not_false]; refine hK_ _ ?_; clear hK_ K_)
  | refine gateK_no (by decide) ?_
  | ((try first | refine WO_op rfl rfl rfl ?_ | refine WO_op0 rfl rfl ?_ | refine WD_op rfl rfl rfl ?_ | refine WD_op0 rfl rfl ?_); (refine WV_gen fun Q_ hQ_ => ?_; simp (disch := first | omega | (simp only [List.length_cons, List.length_nil, List.length_append]; omega)) only [bb, bp, argF, ↓reduceIte, reduceCtorEq, Nat.reduceEqDiff, Nat.reduceLT, Nat.reduceLeDiff, Nat.reduceAdd, Nat.reduceMul, Nat.reduceSub, Nat.reduceBEq, Int.reduceToNat, cond_true, cond_false, eq_self, beq_self_eq_true, hlen, newPtr_X wf, load1_X wf, loadAgg_X wf, store1_X wf, writeCells_X wf, makeFunc_def, tEvH7, bsl_47, newSlice_X wf]; first | (refine dec_split (Q := Q_) (fun hp_ => ?_) (fun hp_ => ?_) <;> first | (exfalso; omega) | (refine hQ_ _ _ ?_; clear hQ_ Q_)) | (refine dec_splitn (Q := Q_) (fun hp_ => ?_) (fun hp_ => ?_) <;> first | (exfalso; omega) | (refine hQ_ _ _ ?_; clear hQ_ Q_)) | (refine hQ_ _ _ ?_; clear hQ_ Q_)))
  | (refine WC_cond fun K_ hK_ => ?_; simp (disch := omega) only [evT_tmp, upd_apply, WB_some, ↓reduceIte, reduceCtorEq, Nat.reduceEqDiff, Nat.reduceLT]; refine hK_ _ ?_; clear hK_ K_)))
  refine WC_loop (fun (i : Nat) f d h' => i ≤ rows.length ∧ (∀ r ∈ (rows.take i).flatten, isOff r) ∧ f 3 = ii (mx (rows.take i).flatten) ∧ f 8 = a ∧ f 9 = ii (rows.length : Int) ∧ f 10 = ii (i : Int) ∧ d = [] ∧ ∃ J, h' = X h J h.clock) (fun i => rows.length - i) ?_ (rows.length + 1) 0 (by omega) ?_
  · rintro i f d h' ⟨hi', hall, g3, g8, g9, g10, rfl, J, rfl⟩
    by_cases hlt : i < rows.length
    · obtain ⟨v, hv, hsv, hrl⟩ := x.row i hlt
      obtain ⟨id, off, hix, hld⟩ := x.sl.at1 wf hlt ik_22
      rw [hv] at hld
      have hlenv : ∀ h', lenE Try.prog 46 v h' = some (ii (m : Int)) := fun h' => hsv.len un_46
      (repeat' (first
  | (with_reducible first | refine WC_seq ?_ | refine WC_skip ?_ | refine WC_label ?_ | refine WC_scope ?_ | refine WC_block ?_ | refine WC_ret ?_ | refine WC_exit ?_ | refine seqQ_norm ?_ | refine seqQ_ret ?_ | refine seqQ_exit ?_ | refine blkQ_norm ?_ | refine blkQ_ret ?_ | refine blkQ_here ?_ | refine gateK_yes ?_ | refine gateK_none ?_ | refine condK_tt ?_ | refine condK_ff ?_ | refine roundQ_exit ?_ | refine roundQ_ret ?_)
  | refine WC_region ?_ | refine blkQ_out rfl ?_ | refine WO_nil ?_ | refine WD_nil ?_
  | ((first | refine WD_gate rfl rfl rfl rfl rfl fun K_ hK_ => ?_ | refine WO_gate rfl rfl rfl rfl rfl fun K_ hK_ => ?_); simp only [upd_apply, asB_bool, asB_tup, ↓reduceIte, reduceCtorEq, Nat.reduceEqDiff, Bool.not_true, Bool.not_false]; refine hK_ _ ?_; clear hK_ K_)
  | refine gateK_no (by decide) ?_
  | ((try first | refine WO_op rfl rfl rfl ?_ | refine WO_op0 rfl rfl ?_ | refine WD_op rfl rfl rfl ?_ | refine WD_op0 rfl rfl ?_); (refine WV_gen fun Q_ hQ_ => ?_; simp (disch := first | omega | (simp only [List.length_cons, List.length_nil, List.length_append]; omega)) only [bb, bp, argF, ↓reduceIte, reduceCtorEq, Nat.reduceEqDiff, Nat.reduceLT, Nat.reduceLeDiff, Nat.reduceAdd, Nat.reduceMul, Nat.reduceSub, Nat.reduceBEq, Int.reduceToNat, cond_true, cond_false, eq_self, beq_self_eq_true, g3, g8, g9, g10, hix, hld, hlenv, newPtr_X wf, load1_X wf, loadAgg_X wf, store1_X wf, writeCells_X wf, makeFunc_def, tEvH7, bsl_47, newSlice_X wf]; first | (refine dec_split (Q := Q_) (fun hp_ => ?_) (fun hp_ => ?_) <;> first | (exfalso; omega) | (refine hQ_ _ _ ?_; clear hQ_ Q_)) | (refine dec_splitn (Q := Q_) (fun hp_ => ?_) (fun hp_ => ?_) <;> first | (exfalso; omega) | (refine hQ_ _ _ ?_; clear hQ_ Q_)) | (refine hQ_ _ _ ?_; clear hQ_ Q_)))
  | (refine WC_cond fun K_ hK_ => ?_; simp (disch := omega) only [evT_tmp, upd_apply, WB_some, ↓reduceIte, reduceCtorEq, Nat.reduceEqDiff, Nat.reduceLT]; refine hK_ _ ?_; clear hK_ K_)))
      refine WC_loop (fun (k : Nat) f d h' => k ≤ m ∧ (∀ r ∈ (rows.take i).flatten ++ rows[i].take k, isOff r) ∧ f 3 = ii (mx ((rows.take i).flatten ++ rows[i].take k)) ∧ f 8 = a ∧ f 9 = ii (rows.length : Int) ∧ f 10 = ii (i : Int) ∧ f 14 = v ∧ f 15 = ii (m : Int) ∧ f 16 = ii (k : Int) ∧ d = [] ∧ ∃ J, h' = X h J h.clock)
        (fun k => m - k) ?_ (m + 1) 0 (by omega) ?_
      · clear g3 g8 g9 g10 hall
        rintro k f d h' ⟨hk, hall, g3, g8, g9, g10, g14, g15, g16, rfl, J, rfl⟩
        by_cases hkl : k < m
        · obtain ⟨id, off, hix, hld⟩ := hsv.at wf hkl ik_46
          have hkr : k < rows[i].length := by omega
          have hrow : ∀ l w, loadAgg id off (some 2) (X h l w) = some (.agg [ii rows[i][k].1, ii rows[i][k].2]) := fun l w => by rw [(hld l w).2, pairCells_at hkr]
          (repeat' (first
  | (with_reducible first | refine WC_seq ?_ | refine WC_skip ?_ | refine WC_label ?_ | refine WC_scope ?_ | refine WC_block ?_ | refine WC_ret ?_ | refine WC_exit ?_ | refine seqQ_norm ?_ | refine seqQ_ret ?_ | refine seqQ_exit ?_ | refine blkQ_norm ?_ | refine blkQ_ret ?_ | refine blkQ_here ?_ | refine gateK_yes ?_ | refine gateK_none ?_ | refine condK_tt ?_ | refine condK_ff ?_ | refine roundQ_exit ?_ | refine roundQ_ret ?_)
  | refine WC_region ?_ | refine blkQ_out rfl ?_ | refine WO_nil ?_ | refine WD_nil ?_
  | ((first | refine WD_gate rfl rfl rfl rfl rfl fun K_ hK_ => ?_ | refine WO_gate rfl rfl rfl rfl rfl fun K_ hK_ => ?_); simp only [upd_apply, asB_bool, asB_tup, ↓reduceIte, reduceCtorEq, Nat.reduceEqDiff, Bool.not_true, Bool.not_false]; refine hK_ _ ?_; clear hK_ K_)
  | refine gateK_no (by decide) ?_
  | ((try first | refine WO_op rfl rfl rfl ?_ | refine WO_op0 rfl rfl ?_ | refine WD_op rfl rfl rfl ?_ | refine WD_op0 rfl rfl ?_); (refine WV_gen fun Q_ hQ_ => ?_; simp (disch := first | omega | (simp only [List.length_cons, List.length_nil, List.length_append]; omega)) only [bb, bp, argF, ↓reduceIte, reduceCtorEq, Nat.reduceEqDiff, Nat.reduceLT, Nat.reduceLeDiff, Nat.reduceAdd, Nat.reduceMul, Nat.reduceSub, Nat.reduceBEq, Int.reduceToNat, cond_true, cond_false, eq_self, beq_self_eq_true, g3, g8, g9, g10, g14, g15, g16, hix, hrow, hio, newPtr_X wf, load1_X wf, loadAgg_X wf, store1_X wf, writeCells_X wf, makeFunc_def, tEvH7, bsl_47, newSlice_X wf]; first | (refine dec_split (Q := Q_) (fun hp_ => ?_) (fun hp_ => ?_) <;> first | (exfalso; omega) | (refine hQ_ _ _ ?_; clear hQ_ Q_)) | (refine dec_splitn (Q := Q_) (fun hp_ => ?_) (fun hp_ => ?_) <;> first | (exfalso; omega) | (refine hQ_ _ _ ?_; clear hQ_ Q_)) | (refine hQ_ _ _ ?_; clear hQ_ Q_)))
  | (refine WC_cond fun K_ hK_ => ?_; simp (disch := omega) only [evT_tmp, upd_apply, WB_some, ↓reduceIte, reduceCtorEq, Nat.reduceEqDiff, Nat.reduceLT]; refine hK_ _ ?_; clear hK_ K_)))
          · refine roundQ_again (k + 1) (by omega) ⟨hkl, ?_, ?_, by simp only [upd_apply, ↓reduceIte, reduceCtorEq, Nat.reduceEqDiff]; exact g8, by simp only [upd_apply, ↓reduceIte, reduceCtorEq, Nat.reduceEqDiff]; exact g9, by simp only [upd_apply, ↓reduceIte, reduceCtorEq, Nat.reduceEqDiff]; exact g10, by simp only [upd_apply, ↓reduceIte, reduceCtorEq, Nat.reduceEqDiff]; exact g14, by simp only [upd_apply, ↓reduceIte, reduceCtorEq, Nat.reduceEqDiff]; exact g15, by simp only [upd_apply, ↓reduceIte, reduceCtorEq, Nat.reduceEqDiff]; rfl, rfl, _, rfl⟩
            · intro r hr
              rw [take_one hkr, ← List.append_assoc] at hr
              rcases List.mem_append.1 hr with hr | hr
              · exact hall r hr
              · rw [List.mem_singleton.1 hr]; assumption
            · simp only [upd_apply, ↓reduceIte, reduceCtorEq, Nat.reduceEqDiff]
              rw [take_one hkr, ← List.append_assoc, mx_snoc]
          · (refine endQ_ret _ _ rfl (ret1 (by decide)) ?_; simp only [upd_apply, ↓reduceIte, reduceCtorEq, Nat.reduceEqDiff]; refine WV_flat rfl (by omega) ?_)
            refine ⟨?_, rfl⟩
            rw [decide_eq_false (fun hh => absurd (hh.1 rows[i][k] (List.mem_flatten.2 ⟨rows[i], List.getElem_mem _, List.getElem_mem _⟩)) (by assumption))]
        · have hke : k = m := by omega
          have htk : rows[i].take k = rows[i] := List.take_of_length_le (by omega)
          rw [htk, ← take_flat hlt] at hall g3
          (repeat' (first
  | (with_reducible first | refine WC_seq ?_ | refine WC_skip ?_ | refine WC_label ?_ | refine WC_scope ?_ | refine WC_block ?_ | refine WC_ret ?_ | refine WC_exit ?_ | refine seqQ_norm ?_ | refine seqQ_ret ?_ | refine seqQ_exit ?_ | refine blkQ_norm ?_ | refine blkQ_ret ?_ | refine blkQ_here ?_ | refine gateK_yes ?_ | refine gateK_none ?_ | refine condK_tt ?_ | refine condK_ff ?_ | refine roundQ_exit ?_ | refine roundQ_ret ?_)
  | refine WC_region ?_ | refine blkQ_out rfl ?_ | refine WO_nil ?_ | refine WD_nil ?_
  | ((first | refine WD_gate rfl rfl rfl rfl rfl fun K_ hK_ => ?_ | refine WO_gate rfl rfl rfl rfl rfl fun K_ hK_ => ?_); simp only [upd_apply, asB_bool, asB_tup, ↓reduceIte, reduceCtorEq, Nat.reduceEqDiff, Bool.not_true, Bool.not_false]; refine hK_ _ ?_; clear hK_ K_)
  | refine gateK_no (by decide) ?_
  | ((try first | refine WO_op rfl rfl rfl ?_ | refine WO_op0 rfl rfl ?_ | refine WD_op rfl rfl rfl ?_ | refine WD_op0 rfl rfl ?_); (refine WV_gen fun Q_ hQ_ => ?_; simp (disch := first | omega | (simp only [List.length_cons, List.length_nil, List.length_append]; omega)) only [bb, bp, argF, ↓reduceIte, reduceCtorEq, Nat.reduceEqDiff, Nat.reduceLT, Nat.reduceLeDiff, Nat.reduceAdd, Nat.reduceMul, Nat.reduceSub, Nat.reduceBEq, Int.reduceToNat, cond_true, cond_false, eq_self, beq_self_eq_true, g3, g8, g9, g10, g14, g15, g16, newPtr_X wf, load1_X wf, loadAgg_X wf, store1_X wf, writeCells_X wf, makeFunc_def, tEvH7, bsl_47, newSlice_X wf]; first | (refine dec_split (Q := Q_) (fun hp_ => ?_) (fun hp_ => ?_) <;> first | (exfalso; omega) | (refine hQ_ _ _ ?_; clear hQ_ Q_)) | (refine dec_splitn (Q := Q_) (fun hp_ => ?_) (fun hp_ => ?_) <;> first | (exfalso; omega) | (refine hQ_ _ _ ?_; clear hQ_ Q_)) | (refine hQ_ _ _ ?_; clear hQ_ Q_)))
  | (refine WC_cond fun K_ hK_ => ?_; simp (disch := omega) only [evT_tmp, upd_apply, WB_some, ↓reduceIte, reduceCtorEq, Nat.reduceEqDiff, Nat.reduceLT]; refine hK_ _ ?_; clear hK_ K_)))
          refine roundQ_again (i + 1) (by omega) ⟨hlt, hall, by simp only [upd_apply, ↓reduceIte, reduceCtorEq, Nat.reduceEqDiff]; exact g3, by simp only [upd_apply, ↓reduceIte, reduceCtorEq, Nat.reduceEqDiff]; exact g8, by simp only [upd_apply, ↓reduceIte, reduceCtorEq, Nat.reduceEqDiff]; exact g9, by simp only [upd_apply, ↓reduceIte, reduceCtorEq, Nat.reduceEqDiff]; rfl, rfl, _, rfl⟩
      · exact ⟨Nat.zero_le _, by simpa using hall, by simp only [upd_apply, ↓reduceIte, reduceCtorEq, Nat.reduceEqDiff]; simpa using g3, by simp only [upd_apply, ↓reduceIte, reduceCtorEq, Nat.reduceEqDiff]; exact g8, by simp only [upd_apply, ↓reduceIte, reduceCtorEq, Nat.reduceEqDiff]; exact g9, by simp only [upd_apply, ↓reduceIte, reduceCtorEq, Nat.reduceEqDiff]; exact g10, by simp only [upd_apply, ↓reduceIte, reduceCtorEq, Nat.reduceEqDiff], by simp only [upd_apply, ↓reduceIte, reduceCtorEq, Nat.reduceEqDiff], by simp only [upd_apply, ↓reduceIte, reduceCtorEq, Nat.reduceEqDiff]; rfl, rfl, _, rfl⟩
    · have hie : i = rows.length := by omega
      subst hie
      rw [List.take_length] at hall g3
      (repeat' (first
  | (with_reducible first | refine WC_seq ?_ | refine WC_skip ?_ | refine WC_label ?_ | refine WC_scope ?_ | refine WC_block ?_ | refine WC_ret ?_ | refine WC_exit ?_ | refine seqQ_norm ?_ | refine seqQ_ret ?_ | refine seqQ_exit ?_ | refine blkQ_norm ?_ | refine blkQ_ret ?_ | refine blkQ_here ?_ | refine gateK_yes ?_ | refine gateK_none ?_ | refine condK_tt ?_ | refine condK_ff ?_ | refine roundQ_exit ?_ | refine roundQ_ret ?_)
  | refine WC_region ?_ | refine blkQ_out rfl ?_ | refine WO_nil ?_ | refine WD_nil ?_
  | ((first | refine WD_gate rfl rfl rfl rfl rfl fun K_ hK_ => ?_ | refine WO_gate rfl rfl rfl rfl rfl fun K_ hK_ => ?_); simp only [upd_apply, asB_bool, asB_tup, ↓reduceIte, reduceCtorEq, Nat.reduceEqDiff, Bool.not_true, Bool.not_false]; refine hK_ _ ?_; clear hK_ K_)
  | refine gateK_no (by decide) ?_
  | ((try first | refine WO_op rfl rfl rfl ?_ | refine WO_op0 rfl rfl ?_ | refine WD_op rfl rfl rfl ?_ | refine WD_op0 rfl rfl ?_); (refine WV_gen fun Q_ hQ_ => ?_; simp (disch := first | omega | (simp only [List.length_cons, List.length_nil, List.length_append]; omega)) only [bb, bp, argF, ↓reduceIte, reduceCtorEq, Nat.reduceEqDiff, Nat.reduceLT, Nat.reduceLeDiff, Nat.reduceAdd, Nat.reduceMul, Nat.reduceSub, Nat.reduceBEq, Int.reduceToNat, cond_true, cond_false, eq_self, beq_self_eq_true, g3, g8, g9, g10, newPtr_X wf, load1_X wf, loadAgg_X wf, store1_X wf, writeCells_X wf, makeFunc_def, tEvH7, bsl_47, newSlice_X wf]; first | (refine dec_split (Q := Q_) (fun hp_ => ?_) (fun hp_ => ?_) <;> first | (exfalso; omega) | (refine hQ_ _ _ ?_; clear hQ_ Q_)) | (refine dec_splitn (Q := Q_) (fun hp_ => ?_) (fun hp_ => ?_) <;> first | (exfalso; omega) | (refine hQ_ _ _ ?_; clear hQ_ Q_)) | (refine hQ_ _ _ ?_; clear hQ_ Q_)))
  | (refine WC_cond fun K_ hK_ => ?_; simp (disch := omega) only [evT_tmp, upd_apply, WB_some, ↓reduceIte, reduceCtorEq, Nat.reduceEqDiff, Nat.reduceLT]; refine hK_ _ ?_; clear hK_ K_)))
      · (refine endQ_ret _ _ rfl (ret1 (by decide)) ?_; simp only [upd_apply, ↓reduceIte, reduceCtorEq, Nat.reduceEqDiff]; refine WV_flat rfl (by omega) ?_)
        exact ⟨by rw [decide_eq_true ⟨hall, by assumption⟩], rfl⟩
      · (refine endQ_ret _ _ rfl (ret1 (by decide)) ?_; simp only [upd_apply, ↓reduceIte, reduceCtorEq, Nat.reduceEqDiff]; refine WV_flat rfl (by omega) ?_)
        exact ⟨by rw [decide_eq_false (fun hh => absurd hh.2 (by assumption))], rfl⟩
  · exact ⟨Nat.zero_le _, by simp, by simp only [upd_apply, ↓reduceIte, reduceCtorEq, Nat.reduceEqDiff]; rfl, by simp only [upd_apply, ↓reduceIte, reduceCtorEq, Nat.reduceEqDiff], by simp only [upd_apply, ↓reduceIte, reduceCtorEq, Nat.reduceEqDiff], by simp only [upd_apply, ↓reduceIte, reduceCtorEq, Nat.reduceEqDiff]; rfl, rfl, [], rfl⟩

/-- The first row's length. -/
def m0 (rows : List (List (Int × Int))) : Nat := (rows.getD 0 []).length
/-- What a hull's check answers. -/
def hullErr (sp st : Int) (rows : List (List (Int × Int))) : Int :=
  if ¬ (2 ≤ rows.length ∧ rows.length ≤ 10) then 6 else if ¬ (2 ≤ m0 rows ∧ m0 rows ≤ 6) then 6 else if ¬ (∀ row ∈ rows, row.length = m0 rows) then 15
  else if ¬ ((1 ≤ sp ∧ sp ≤ 1000) ∧ (1 ≤ st ∧ st ≤ 100) ∧ offs rows) then 2 else 0

theorem checkHull (sp st : Int) (a : AV) (rvs : List AV) (rows : List (List (Int × Int))) (h : H) (x : HullR h a rvs rows) :
    (om Try.prog KK).call (.fn 11 [.agg [ii sp, ii st, a]]) h = .ok (ii (hullErr sp st rows)) h := by
  have wf := x.wf
  refine WV_to (WV_call (fn := Try.f11) Try.func11 rfl rfl rfl rfl rfl ?_)
  simp only [argF]
  have hlen : ∀ h', lenE Try.prog 22 a h' = some (ii (rows.length : Int)) := fun h' => x.sl.len un_22
  by_cases hn : 2 ≤ rows.length ∧ rows.length ≤ 10
  · have h0 : 0 < rows.length := by omega
    obtain ⟨v0, hv0, hsv0⟩ := x.row 0 h0
    obtain ⟨id, off, hix, hld⟩ := x.sl.at1 wf h0 ik_22
    rw [hv0] at hld
    have hix' : indexAddrE Try.prog 22 a (.int .i64 0) = some (.ptr id off) := hix
    have em : m0 rows = rows[0].length := by unfold m0; simp [List.getD, h0]
    have hlen0 : ∀ h', lenE Try.prog 46 v0 h' = some (ii (m0 rows : Int)) := fun h' => by rw [em]; exact hsv0.len un_46
    by_cases hm : 2 ≤ m0 rows ∧ m0 rows ≤ 6
    · (repeat' (first
  | (with_reducible first | refine WC_seq ?_ | refine WC_skip ?_ | refine WC_label ?_ | refine WC_scope ?_ | refine WC_block ?_ | refine WC_ret ?_ | refine WC_exit ?_ | refine seqQ_norm ?_ | refine seqQ_ret ?_ | refine seqQ_exit ?_ | refine blkQ_norm ?_ | refine blkQ_ret ?_ | refine blkQ_here ?_ | refine gateK_yes ?_ | refine gateK_none ?_ | refine condK_tt ?_ | refine condK_ff ?_ | refine roundQ_exit ?_ | refine roundQ_ret ?_)
  | refine WC_region ?_ | refine blkQ_out rfl ?_ | refine WO_nil ?_ | refine WD_nil ?_
  | ((first | refine WD_gate rfl rfl rfl rfl rfl fun K_ hK_ => ?_ | refine WO_gate rfl rfl rfl rfl rfl fun K_ hK_ => ?_); simp only [upd_apply, asB_bool, asB_tup, ↓reduceIte, reduceCtorEq, Nat.reduceEqDiff, Bool.not_true, Bool.not_false]; refine hK_ _ ?_; clear hK_ K_)
  | refine gateK_no (by decide) ?_
  | ((try first | refine WO_op rfl rfl rfl ?_ | refine WO_op0 rfl rfl ?_ | refine WD_op rfl rfl rfl ?_ | refine WD_op0 rfl rfl ?_); (refine WV_gen fun Q_ hQ_ => ?_; simp (disch := first | omega | (simp only [List.length_cons, List.length_nil, List.length_append]; omega)) only [bb, bp, argF, ↓reduceIte, reduceCtorEq, Nat.reduceEqDiff, Nat.reduceLT, Nat.reduceLeDiff, Nat.reduceAdd, Nat.reduceMul, Nat.reduceSub, Nat.reduceBEq, Int.reduceToNat, cond_true, cond_false, eq_self, beq_self_eq_true, hlen, hix', hld, hlen0, newPtr_X wf, load1_X wf, loadAgg_X wf, store1_X wf, writeCells_X wf, makeFunc_def, tEvH7, bsl_47, newSlice_X wf]; first | (refine dec_split (Q := Q_) (fun hp_ => ?_) (fun hp_ => ?_) <;> first | (exfalso; omega) | (refine hQ_ _ _ ?_; clear hQ_ Q_)) | (refine dec_splitn (Q := Q_) (fun hp_ => ?_) (fun hp_ => ?_) <;> first | (exfalso; omega) | (refine hQ_ _ _ ?_; clear hQ_ Q_)) | (refine hQ_ _ _ ?_; clear hQ_ Q_)))
  | (refine WC_cond fun K_ hK_ => ?_; simp (disch := omega) only [evT_tmp, upd_apply, WB_some, ↓reduceIte, reduceCtorEq, Nat.reduceEqDiff, Nat.reduceLT]; refine hK_ _ ?_; clear hK_ K_)))
      refine WC_loop (fun (i : Nat) f d h' => i ≤ rows.length ∧ (∀ j, j < i → ∀ hj : j < rows.length, rows[j].length = m0 rows) ∧ f 1 = .ptr (nx h 0) 0 ∧ f 4 = ii (m0 rows : Int) ∧ f 28 = a ∧ f 29 = ii (rows.length : Int) ∧ f 30 = ii (i : Int) ∧ d = [] ∧ h' = X h [.cells (mkCells [ii sp, ii st, a]) 24] h.clock)
        (fun i => rows.length - i) ?_ (rows.length + 1) 0 (by omega) ?_
      · rintro i f d h' ⟨hi', hall, g1, g4, g28, g29, g30, rfl, rfl⟩
        by_cases hlt : i < rows.length
        · obtain ⟨v, hv, hsv⟩ := x.row i hlt
          obtain ⟨id, off, hix, hld⟩ := x.sl.at1 wf hlt ik_22
          rw [hv] at hld
          have hlenv : ∀ h', lenE Try.prog 46 v h' = some (ii (rows[i].length : Int)) := fun h' => hsv.len un_46
          (repeat' (first
  | (with_reducible first | refine WC_seq ?_ | refine WC_skip ?_ | refine WC_label ?_ | refine WC_scope ?_ | refine WC_block ?_ | refine WC_ret ?_ | refine WC_exit ?_ | refine seqQ_norm ?_ | refine seqQ_ret ?_ | refine seqQ_exit ?_ | refine blkQ_norm ?_ | refine blkQ_ret ?_ | refine blkQ_here ?_ | refine gateK_yes ?_ | refine gateK_none ?_ | refine condK_tt ?_ | refine condK_ff ?_ | refine roundQ_exit ?_ | refine roundQ_ret ?_)
  | refine WC_region ?_ | refine blkQ_out rfl ?_ | refine WO_nil ?_ | refine WD_nil ?_
  | ((first | refine WD_gate rfl rfl rfl rfl rfl fun K_ hK_ => ?_ | refine WO_gate rfl rfl rfl rfl rfl fun K_ hK_ => ?_); simp only [upd_apply, asB_bool, asB_tup, ↓reduceIte, reduceCtorEq, Nat.reduceEqDiff, Bool.not_true, Bool.not_false]; refine hK_ _ ?_; clear hK_ K_)
  | refine gateK_no (by decide) ?_
  | ((try first | refine WO_op rfl rfl rfl ?_ | refine WO_op0 rfl rfl ?_ | refine WD_op rfl rfl rfl ?_ | refine WD_op0 rfl rfl ?_); (refine WV_gen fun Q_ hQ_ => ?_; simp (disch := first | omega | (simp only [List.length_cons, List.length_nil, List.length_append]; omega)) only [bb, bp, argF, ↓reduceIte, reduceCtorEq, Nat.reduceEqDiff, Nat.reduceLT, Nat.reduceLeDiff, Nat.reduceAdd, Nat.reduceMul, Nat.reduceSub, Nat.reduceBEq, Int.reduceToNat, cond_true, cond_false, eq_self, beq_self_eq_true, g1, g4, g28, g29, g30, hix, hld, hlenv, newPtr_X wf, load1_X wf, loadAgg_X wf, store1_X wf, writeCells_X wf, makeFunc_def, tEvH7, bsl_47, newSlice_X wf]; first | (refine dec_split (Q := Q_) (fun hp_ => ?_) (fun hp_ => ?_) <;> first | (exfalso; omega) | (refine hQ_ _ _ ?_; clear hQ_ Q_)) | (refine dec_splitn (Q := Q_) (fun hp_ => ?_) (fun hp_ => ?_) <;> first | (exfalso; omega) | (refine hQ_ _ _ ?_; clear hQ_ Q_)) | (refine hQ_ _ _ ?_; clear hQ_ Q_)))
  | (refine WC_cond fun K_ hK_ => ?_; simp (disch := omega) only [evT_tmp, upd_apply, WB_some, ↓reduceIte, reduceCtorEq, Nat.reduceEqDiff, Nat.reduceLT]; refine hK_ _ ?_; clear hK_ K_)))
          · refine roundQ_again (i + 1) (by omega) ⟨hlt, ?_, by simp only [upd_apply, ↓reduceIte, reduceCtorEq, Nat.reduceEqDiff]; exact g1, by simp only [upd_apply, ↓reduceIte, reduceCtorEq, Nat.reduceEqDiff]; exact g4, by simp only [upd_apply, ↓reduceIte, reduceCtorEq, Nat.reduceEqDiff]; exact g28, by simp only [upd_apply, ↓reduceIte, reduceCtorEq, Nat.reduceEqDiff]; exact g29, by simp only [upd_apply, ↓reduceIte, reduceCtorEq, Nat.reduceEqDiff]; rfl, rfl, rfl⟩
            intro j hj hjl
            by_cases hji : j = i
            · subst hji; omega
            · exact hall j (by omega) hjl
          · (refine endQ_ret _ _ rfl (ret1 (by decide)) ?_; simp only [upd_apply, ↓reduceIte, reduceCtorEq, Nat.reduceEqDiff]; refine WV_flat rfl (by omega) ?_)
            refine ⟨?_, rfl⟩
            unfold hullErr
            rw [if_neg (not_not_intro hn), if_neg (not_not_intro hm), if_pos (fun hh => by have := hh _ (List.getElem_mem hlt); omega)]
        · have hie : i = rows.length := by omega
          subst hie
          have hall2 : ∀ row ∈ rows, row.length = m0 rows := fun row hr => by
            obtain ⟨j, hj, rfl⟩ := List.getElem_of_mem hr
            exact hall j hj hj
          have xat := x.at (m := m0 rows) (by omega) (fun i hi => hall2 _ (List.getElem_mem hi))
          have hof : ∀ l w, w ≤ h.clock + l.length → (om Try.prog KK).call (.fn 32 [a]) (X h l w) = .ok (.bool (decide (offs rows))) (X h l w) := fun l w hw => areOffsets a rvs rows (m0 rows) hn.2 hm.2 _ (xat.up l w hw)
          (repeat' (first
  | (with_reducible first | refine WC_seq ?_ | refine WC_skip ?_ | refine WC_label ?_ | refine WC_scope ?_ | refine WC_block ?_ | refine WC_ret ?_ | refine WC_exit ?_ | refine seqQ_norm ?_ | refine seqQ_ret ?_ | refine seqQ_exit ?_ | refine blkQ_norm ?_ | refine blkQ_ret ?_ | refine blkQ_here ?_ | refine gateK_yes ?_ | refine gateK_none ?_ | refine condK_tt ?_ | refine condK_ff ?_ | refine roundQ_exit ?_ | refine roundQ_ret ?_)
  | refine WC_region ?_ | refine blkQ_out rfl ?_ | refine WO_nil ?_ | refine WD_nil ?_
  | ((first | refine WD_gate rfl rfl rfl rfl rfl fun K_ hK_ => ?_ | refine WO_gate rfl rfl rfl rfl rfl fun K_ hK_ => ?_); simp only [upd_apply, asB_bool, asB_tup, ↓reduceIte, reduceCtorEq, Nat.reduceEqDiff, Bool.not_true, Bool.not_false]; refine hK_ _ ?_; clear hK_ K_)
  | refine gateK_no (by decide) ?_
  | ((try first | refine WO_op rfl rfl rfl ?_ | refine WO_op0 rfl rfl ?_ | refine WD_op rfl rfl rfl ?_ | refine WD_op0 rfl rfl ?_); (refine WV_gen fun Q_ hQ_ => ?_; simp (disch := first | omega | (simp only [List.length_cons, List.length_nil, List.length_append]; omega)) only [bb, bp, argF, ↓reduceIte, reduceCtorEq, Nat.reduceEqDiff, Nat.reduceLT, Nat.reduceLeDiff, Nat.reduceAdd, Nat.reduceMul, Nat.reduceSub, Nat.reduceBEq, Int.reduceToNat, cond_true, cond_false, eq_self, beq_self_eq_true, g1, g4, g28, g29, g30, hof, newPtr_X wf, load1_X wf, loadAgg_X wf, store1_X wf, writeCells_X wf, makeFunc_def, tEvH7, bsl_47, newSlice_X wf]; first | (refine dec_split (Q := Q_) (fun hp_ => ?_) (fun hp_ => ?_) <;> first | (exfalso; omega) | (refine hQ_ _ _ ?_; clear hQ_ Q_)) | (refine dec_splitn (Q := Q_) (fun hp_ => ?_) (fun hp_ => ?_) <;> first | (exfalso; omega) | (refine hQ_ _ _ ?_; clear hQ_ Q_)) | (refine hQ_ _ _ ?_; clear hQ_ Q_) | (refine WV_eq (within1 wf (by simp only [List.length_append, List.length_cons, List.length_nil]; omega) rfl) ?_; first | (refine dec_split (Q := Q_) (fun hp_ => ?_) (fun hp_ => ?_) <;> first | (exfalso; omega) | (refine hQ_ _ _ ?_; clear hQ_ Q_)) | (refine hQ_ _ _ ?_; clear hQ_ Q_)) | (refine WV_unmarkc (within1 wf (by simp only [List.length_append, List.length_cons, List.length_nil]; omega) rfl) ?_; first | (refine dec_split (Q := Q_) (fun hp_ => ?_) (fun hp_ => ?_) <;> first | (exfalso; omega) | (refine hQ_ _ _ ?_; clear hQ_ Q_)) | (refine hQ_ _ _ ?_; clear hQ_ Q_))))
  | (refine WC_cond fun K_ hK_ => ?_; simp (disch := omega) only [evT_tmp, upd_apply, WB_some, ↓reduceIte, reduceCtorEq, Nat.reduceEqDiff, Nat.reduceLT]; refine hK_ _ ?_; clear hK_ K_)))
          all_goals (refine endQ_ret _ _ rfl (ret1 (by decide)) ?_; simp only [upd_apply, ↓reduceIte, reduceCtorEq, Nat.reduceEqDiff]; refine WV_flat rfl (by omega) ?_)
          all_goals refine ⟨?_, rfl⟩
          all_goals unfold hullErr
          all_goals rw [if_neg (not_not_intro hn), if_neg (not_not_intro hm), if_neg (not_not_intro hall2)]
          all_goals first
            | rw [if_neg (not_not_intro ⟨by assumption, by assumption, by assumption⟩)]
            | rw [if_pos (fun hh => absurd hh.1 (by assumption))]
            | rw [if_pos (fun hh => absurd hh.2.1 (by assumption))]
            | rw [if_pos (fun hh => absurd hh.2.2 (by assumption))]
      · exact ⟨Nat.zero_le _, fun j hj => absurd hj (Nat.not_lt_zero j), by simp only [upd_apply, ↓reduceIte, reduceCtorEq, Nat.reduceEqDiff], by simp only [upd_apply, ↓reduceIte, reduceCtorEq, Nat.reduceEqDiff], by simp only [upd_apply, ↓reduceIte, reduceCtorEq, Nat.reduceEqDiff], by simp only [upd_apply, ↓reduceIte, reduceCtorEq, Nat.reduceEqDiff], by simp only [upd_apply, ↓reduceIte, reduceCtorEq, Nat.reduceEqDiff]; rfl, rfl, rfl⟩
    · (repeat' (first
  | (with_reducible first | refine WC_seq ?_ | refine WC_skip ?_ | refine WC_label ?_ | refine WC_scope ?_ | refine WC_block ?_ | refine WC_ret ?_ | refine WC_exit ?_ | refine seqQ_norm ?_ | refine seqQ_ret ?_ | refine seqQ_exit ?_ | refine blkQ_norm ?_ | refine blkQ_ret ?_ | refine blkQ_here ?_ | refine gateK_yes ?_ | refine gateK_none ?_ | refine condK_tt ?_ | refine condK_ff ?_ | refine roundQ_exit ?_ | refine roundQ_ret ?_)
  | refine WC_region ?_ | refine blkQ_out rfl ?_ | refine WO_nil ?_ | refine WD_nil ?_
  | ((first | refine WD_gate rfl rfl rfl rfl rfl fun K_ hK_ => ?_ | refine WO_gate rfl rfl rfl rfl rfl fun K_ hK_ => ?_); simp only [upd_apply, asB_bool, asB_tup, ↓reduceIte, reduceCtorEq, Nat.reduceEqDiff, Bool.not_true, Bool.not_false]; refine hK_ _ ?_; clear hK_ K_)
  | refine gateK_no (by decide) ?_
  | ((try first | refine WO_op rfl rfl rfl ?_ | refine WO_op0 rfl rfl ?_ | refine WD_op rfl rfl rfl ?_ | refine WD_op0 rfl rfl ?_); (refine WV_gen fun Q_ hQ_ => ?_; simp (disch := first | omega | (simp only [List.length_cons, List.length_nil, List.length_append]; omega)) only [bb, bp, argF, ↓reduceIte, reduceCtorEq, Nat.reduceEqDiff, Nat.reduceLT, Nat.reduceLeDiff, Nat.reduceAdd, Nat.reduceMul, Nat.reduceSub, Nat.reduceBEq, Int.reduceToNat, cond_true, cond_false, eq_self, beq_self_eq_true, hlen, hix', hld, hlen0, newPtr_X wf, load1_X wf, loadAgg_X wf, store1_X wf, writeCells_X wf, makeFunc_def, tEvH7, bsl_47, newSlice_X wf]; first | (refine dec_split (Q := Q_) (fun hp_ => ?_) (fun hp_ => ?_) <;> first | (exfalso; omega) | (refine hQ_ _ _ ?_; clear hQ_ Q_)) | (refine dec_splitn (Q := Q_) (fun hp_ => ?_) (fun hp_ => ?_) <;> first | (exfalso; omega) | (refine hQ_ _ _ ?_; clear hQ_ Q_)) | (refine hQ_ _ _ ?_; clear hQ_ Q_)))
  | (refine WC_cond fun K_ hK_ => ?_; simp (disch := omega) only [evT_tmp, upd_apply, WB_some, ↓reduceIte, reduceCtorEq, Nat.reduceEqDiff, Nat.reduceLT]; refine hK_ _ ?_; clear hK_ K_)))
      all_goals (refine endQ_ret _ _ rfl (ret1 (by decide)) ?_; simp only [upd_apply, ↓reduceIte, reduceCtorEq, Nat.reduceEqDiff]; refine WV_flat rfl (by omega) ?_)
      all_goals exact ⟨by unfold hullErr; rw [if_neg (not_not_intro hn), if_pos hm], rfl⟩
  · (repeat' (first
  | (with_reducible first | refine WC_seq ?_ | refine WC_skip ?_ | refine WC_label ?_ | refine WC_scope ?_ | refine WC_block ?_ | refine WC_ret ?_ | refine WC_exit ?_ | refine seqQ_norm ?_ | refine seqQ_ret ?_ | refine seqQ_exit ?_ | refine blkQ_norm ?_ | refine blkQ_ret ?_ | refine blkQ_here ?_ | refine gateK_yes ?_ | refine gateK_none ?_ | refine condK_tt ?_ | refine condK_ff ?_ | refine roundQ_exit ?_ | refine roundQ_ret ?_)
  | refine WC_region ?_ | refine blkQ_out rfl ?_ | refine WO_nil ?_ | refine WD_nil ?_
  | ((first | refine WD_gate rfl rfl rfl rfl rfl fun K_ hK_ => ?_ | refine WO_gate rfl rfl rfl rfl rfl fun K_ hK_ => ?_); simp only [upd_apply, asB_bool, asB_tup, ↓reduceIte, reduceCtorEq, Nat.reduceEqDiff, Bool.not_true, Bool.not_false]; refine hK_ _ ?_; clear hK_ K_)
  | refine gateK_no (by decide) ?_
  | ((try first | refine WO_op rfl rfl rfl ?_ | refine WO_op0 rfl rfl ?_ | refine WD_op rfl rfl rfl ?_ | refine WD_op0 rfl rfl ?_); (refine WV_gen fun Q_ hQ_ => ?_; simp (disch := first | omega | (simp only [List.length_cons, List.length_nil, List.length_append]; omega)) only [bb, bp, argF, ↓reduceIte, reduceCtorEq, Nat.reduceEqDiff, Nat.reduceLT, Nat.reduceLeDiff, Nat.reduceAdd, Nat.reduceMul, Nat.reduceSub, Nat.reduceBEq, Int.reduceToNat, cond_true, cond_false, eq_self, beq_self_eq_true, hlen, newPtr_X wf, load1_X wf, loadAgg_X wf, store1_X wf, writeCells_X wf, makeFunc_def, tEvH7, bsl_47, newSlice_X wf]; first | (refine dec_split (Q := Q_) (fun hp_ => ?_) (fun hp_ => ?_) <;> first | (exfalso; omega) | (refine hQ_ _ _ ?_; clear hQ_ Q_)) | (refine dec_splitn (Q := Q_) (fun hp_ => ?_) (fun hp_ => ?_) <;> first | (exfalso; omega) | (refine hQ_ _ _ ?_; clear hQ_ Q_)) | (refine hQ_ _ _ ?_; clear hQ_ Q_)))
  | (refine WC_cond fun K_ hK_ => ?_; simp (disch := omega) only [evT_tmp, upd_apply, WB_some, ↓reduceIte, reduceCtorEq, Nat.reduceEqDiff, Nat.reduceLT]; refine hK_ _ ?_; clear hK_ K_)))
    all_goals (refine endQ_ret _ _ rfl (ret1 (by decide)) ?_; simp only [upd_apply, ↓reduceIte, reduceCtorEq, Nat.reduceEqDiff]; refine WV_flat rfl (by omega) ?_)
    all_goals exact ⟨by unfold hullErr; rw [if_pos hn], rfl⟩
end Go.Proofs.Ytghondkiondeaab
end

/- EvH8 -/
section
/-
  LAYER 2: which offsets are those of a true hull; the volume and the number that is asked.
-/
namespace Go.Proofs.Ytghondkiondeaab
open Go.Ev
set_option maxRecDepth 100000
set_option linter.unusedSimpArgs false
set_option linter.unusedVariables false
set_option maxHeartbeats 2000000

theorem hullErr_ok {sp st : Int} {rows : List (List (Int × Int))} (h : hullErr sp st rows = 0) :
    (2 ≤ rows.length ∧ rows.length ≤ 10) ∧ (2 ≤ m0 rows ∧ m0 rows ≤ 6) ∧ (∀ row ∈ rows, row.length = m0 rows) ∧ (1 ≤ sp ∧ sp ≤ 1000) ∧ (1 ≤ st ∧ st ≤ 100) ∧ offs rows := by
  unfold hullErr at h
  split at h
  · cases h
  split at h
  · cases h
  split at h
  · cases h
  split at h
  · cases h
  rename_i h1 h2 h3 h4
  have h3' := Classical.not_not.1 h3
  have h4' := Classical.not_not.1 h4
  exact ⟨Classical.not_not.1 h1, Classical.not_not.1 h2, h3', h4'⟩

/-- Offsets as they are handed over. -/
structure YsR (h : H) (b : AV) (yvs : List AV) (ys : List (List Int)) : Prop where
  wf : Wf h
  sl : Sl h b 1 ys.length yvs
  row : ∀ i (hi : i < ys.length), ∃ v, yvs[i]? = some v ∧ Row h v 1 ys[i].length (ys[i].map ii) ∧ Cape 1 v
theorem YsR.up {h : H} {b : AV} {yvs : List AV} {ys : List (List Int)} (x : YsR h b yvs ys) (l : List AO) (w : Nat) (hw : w ≤ h.clock + l.length) : YsR (X h l w) b yvs ys :=
  ⟨x.wf.X hw, x.sl.up x.wf l w, fun i hi => let ⟨v, h1, h2, h3⟩ := x.row i hi; ⟨v, h1, h2.up x.wf l w, h3⟩⟩
theorem YsR.at {h : H} {b : AV} {yvs : List AV} {ys : List (List Int)} (x : YsR h b yvs ys) {m : Nat} (hm : m ≠ 0) (hall : ∀ i (hi : i < ys.length), ys[i].length = m) : YsAt h b yvs ys m :=
  ⟨x.wf, x.sl, fun i hi => let ⟨v, h1, h2, h3⟩ := x.row i hi; ⟨v, h1, by have := h2.sl (by rw [hall i hi]; exact hm); rwa [hall i hi] at this, h3, hall i hi⟩⟩
theorem Sl.one {h : H} {a : AV} {m len : Nat} {cells : List AV} (s : Sl h a m len cells) : AV.cells a = [a] ∧ oneB a = true := by
  obtain ⟨_, ⟨rfl, _⟩ | ⟨_, _, _, _, _, _, rfl, _⟩⟩ := s <;> exact ⟨rfl, rfl⟩

/-- The range of a place, and its offset. -/
def rAt (rows : List (List (Int × Int))) (m q : Nat) : Int × Int := (rows.getD (q / m) []).getD (q % m) (0, 0)
def yAt (ys : List (List Int)) (m q : Nat) : Int := (ys.getD (q / m) []).getD (q % m) 0
def inR (rows : List (List (Int × Int))) (ys : List (List Int)) (m q : Nat) : Prop := (rAt rows m q).1 ≤ yAt ys m q ∧ yAt ys m q ≤ (rAt rows m q).2
instance (rows : List (List (Int × Int))) (ys : List (List Int)) (m q : Nat) : Decidable (inR rows ys m q) := by unfold inR; infer_instance
def trueErr (sp st : Int) (rows : List (List (Int × Int))) (ys : List (List Int)) : Int :=
  if hullErr sp st rows ≠ 0 then hullErr sp st rows else if ys.length ≠ rows.length then 15 else if ¬ (∀ y ∈ ys, y.length = m0 rows) then 15
  else if ¬ (∀ q, q < rows.length * m0 rows → inR rows ys (m0 rows) q) then 3 else 0

def doneO (o : AO) : Prop := ∃ g n tm ps sg bd dd, o = AO.loop .done .ret g n tm ps sg bd dd

end Go.Proofs.Ytghondkiondeaab
end

/- EvH9 -/
section
/-
  LAYER 2: what the package answers: the volume, and the number that is asked.
-/
namespace Go.Proofs.Ytghondkiondeaab
open Go.Ev
set_option maxRecDepth 100000
set_option linter.unusedSimpArgs false
set_option linter.unusedVariables false
set_option maxHeartbeats 2000000

theorem tEvH9 : type_of% (And.intro (And.intro (And.intro (And.intro (@bs_29) (And.intro (@bs_52) (@ia_29))) (And.intro (And.intro (@sz_29) (@ze_29)) (And.intro (@ia_30) (@sz_30)))) (And.intro (And.intro (And.intro (@ze_30) (@ia_2)) (And.intro (@sz_2) (@ze_2))) (And.intro (And.intro (@ia_3) (@sz_3)) (And.intro (@ia_62) (@sz_62))))) (And.intro (And.intro (And.intro (And.intro (@fo_24_0) (@fo_24_1)) (And.intro (@fo_24_2) (@ia_24))) (And.intro (And.intro (@sz_24) (@ia_52)) (And.intro (@sz_52) (@ze_52)))) (And.intro (And.intro (And.intro (@pb_31) (@pb_11)) (And.intro (@pb_33) (@pb_13))) (And.intro (And.intro (@pb_25) (@pb_24)) (And.intro (@pb_28) (@pb_29)))))) := And.intro (And.intro (And.intro (And.intro (@bs_29) (And.intro (@bs_52) (@ia_29))) (And.intro (And.intro (@sz_29) (@ze_29)) (And.intro (@ia_30) (@sz_30)))) (And.intro (And.intro (And.intro (@ze_30) (@ia_2)) (And.intro (@sz_2) (@ze_2))) (And.intro (And.intro (@ia_3) (@sz_3)) (And.intro (@ia_62) (@sz_62))))) (And.intro (And.intro (And.intro (And.intro (@fo_24_0) (@fo_24_1)) (And.intro (@fo_24_2) (@ia_24))) (And.intro (And.intro (@sz_24) (@ia_52)) (And.intro (@sz_52) (@ze_52)))) (And.intro (And.intro (And.intro (@pb_31) (@pb_11)) (And.intro (@pb_33) (@pb_13))) (And.intro (And.intro (@pb_25) (@pb_24)) (And.intro (@pb_28) (@pb_29)))))
theorem psum_congr {f g : Nat → Int} : ∀ {n : Nat}, (∀ q, q < n → f q = g q) → psum f n = psum g n
  | 0, _ => rfl
  | n + 1, h => by simp only [psum]; rw [psum_congr (fun q hq => h q (by omega)), h n (by omega)]
theorem psum_pos {f : Nat → Int} : ∀ {n q0 : Nat}, (∀ q, q < n → 0 ≤ f q) → q0 < n → 0 < f q0 → 0 < psum f n
  | 0, _, _, h, _ => absurd h (Nat.not_lt_zero _)
  | n + 1, q0, h0, h, hp => by
    simp only [psum]
    have hn : 0 ≤ psum f n := by
      clear hp h
      have : ∀ k, k ≤ n → 0 ≤ psum f k := by
        intro k
        induction k with
        | zero => intro _; exact Int.le_refl 0
        | succ k ih => intro hk; have := ih (by omega); have := h0 k (by omega); simp only [psum]; omega
      exact this n (Nat.le_refl n)
    by_cases hq : q0 = n
    · subst hq; omega
    · have := psum_pos (n := n) (q0 := q0) (fun q hq => h0 q (by omega)) (by omega) hp
      have := h0 n (by omega)
      omega

def W (n m q : Nat) : Int := wt n (q / m) * wt m (q % m)
theorem wt_pos {n i : Nat} (hi : i < n) : 1 ≤ wt n i := by
  unfold wt
  split
  · exact Int.le_refl 1
  · first | omega | (rw [if_pos hi]; omega)
theorem W_pos {n m q : Nat} (hm : 0 < m) (hq : q < n * m) : 1 ≤ W n m q := by
  have h1 := wt_pos ((Nat.div_lt_iff_lt_mul hm).2 hq)
  have h2 := wt_pos (Nat.mod_lt q hm)
  have := Int.mul_le_mul h1 h2 (by omega) (by omega)
  unfold W; omega

theorem rAt_mem {rows : List (List (Int × Int))} {m q : Nat} (hall : ∀ row ∈ rows, row.length = m) (hm : 0 < m) (hq : q < rows.length * m) : rAt rows m q ∈ rows.flatten := by
  have h1 := (Nat.div_lt_iff_lt_mul hm).2 hq
  have h2 := Nat.mod_lt q hm
  have h3 : q % m < rows[q / m].length := by rw [hall _ (List.getElem_mem h1)]; exact h2
  refine List.mem_flatten.2 ⟨rows[q / m], List.getElem_mem _, ?_⟩
  unfold rAt
  simp [List.getD, h1, h3]
theorem mx_pos {l : List (Int × Int)} (h : 0 < mx l) : ∃ r ∈ l, 0 < r.1 := by
  have : ∀ (l : List (Int × Int)) (a : Int), 0 < l.foldl (fun acc r => max acc r.1) a → 0 < a ∨ ∃ r ∈ l, 0 < r.1 := by
    intro l
    induction l with
    | nil => intro a h; exact .inl h
    | cons r l ih =>
      intro a h
      rcases ih _ h with h | ⟨r', h1, h2⟩
      · have h' : 0 < max a r.1 := h
        by_cases ha : 0 < a
        · exact .inl ha
        · exact .inr ⟨r, List.mem_cons_self, by omega⟩
      · exact .inr ⟨r', List.mem_cons_of_mem _ h1, h2⟩
  rcases this l 0 h with h | h
  · omega
  · exact h

/-- A hull that is valid and true. -/
structure IsTrue (sp st : Int) (rows : List (List (Int × Int))) (ys : List (List Int)) : Prop where
  n : 2 ≤ rows.length ∧ rows.length ≤ 10
  m : 2 ≤ m0 rows ∧ m0 rows ≤ 6
  all : ∀ row ∈ rows, row.length = m0 rows
  sp : 1 ≤ sp ∧ sp ≤ 1000
  st : 1 ≤ st ∧ st ≤ 100
  yn : ys.length = rows.length
  yall : ∀ y ∈ ys, y.length = m0 rows
  y : ∀ q, q < rows.length * m0 rows → 0 ≤ yAt ys (m0 rows) q ∧ yAt ys (m0 rows) q ≤ 500
  pos : ∃ q, q < rows.length * m0 rows ∧ 0 < yAt ys (m0 rows) q
theorem trueErr_ok {sp st : Int} {rows : List (List (Int × Int))} {ys : List (List Int)} (h : trueErr sp st rows ys = 0) : IsTrue sp st rows ys := by
  unfold trueErr at h
  split at h
  · contradiction
  split at h
  · cases h
  split at h
  · cases h
  split at h
  · cases h
  rename_i h1 h2 h3 h4
  obtain ⟨hn, hm, hall, hsp, hst, hof⟩ := hullErr_ok (Classical.not_not.1 h1)
  have h4' := Classical.not_not.1 h4
  refine ⟨hn, hm, hall, hsp, hst, Classical.not_not.1 h2, Classical.not_not.1 h3, fun q hq => ?_, ?_⟩
  · have hr := hof.1 _ (rAt_mem hall (by omega) hq)
    have hi := h4' q hq
    unfold isOff at hr
    unfold inR at hi
    omega
  · obtain ⟨r, hr, hp⟩ := mx_pos hof.2
    obtain ⟨row, h5, h6⟩ := List.mem_flatten.1 hr
    obtain ⟨i, hi, rfl⟩ := List.getElem_of_mem h5
    obtain ⟨k, hk, rfl⟩ := List.getElem_of_mem h6
    have hkm : k < m0 rows := by rw [← hall _ h5]; exact hk
    have hq : i * m0 rows + k < rows.length * m0 rows := by
      have : (i + 1) * m0 rows ≤ rows.length * m0 rows := Nat.mul_le_mul_right _ hi
      rw [Nat.succ_mul] at this; omega
    refine ⟨i * m0 rows + k, hq, ?_⟩
    have hin := h4' _ hq
    have e1 : (i * m0 rows + k) / m0 rows = i := by rw [Nat.mul_comm, Nat.mul_add_div (by omega), Nat.div_eq_of_lt hkm]; omega
    have e2 : (i * m0 rows + k) % m0 rows = k := by rw [Nat.mul_comm, Nat.mul_add_mod]; exact Nat.mod_eq_of_lt hkm
    have e3 : rAt rows (m0 rows) (i * m0 rows + k) = rows[i][k] := by unfold rAt; rw [e1, e2]; simp [List.getD, hi, hk]
    unfold inR at hin
    rw [e3] at hin
    omega

def allS (n m : Nat) (ys : List (List Int)) : Int := psum (fun q => W n m q * yAt ys m q) (n * m)
def numS (g : Nat) (sp st : Int) (n m : Nat) (ys : List (List Int)) : Int := psum (fun q => numOf g sp st m (q / m) (q % m) (W n m q) (yAt ys m q)) (n * m)
def denS (g : Nat) (st : Int) (n m : Nat) (ys : List (List Int)) : Int := psum (fun q => denOf g st (W n m q) (yAt ys m q)) (n * m)
theorem denS_pos {g : Nat} {sp st : Int} {rows : List (List (Int × Int))} {ys : List (List Int)} (t : IsTrue sp st rows ys) : 0 < denS g st rows.length (m0 rows) ys := by
  obtain ⟨q, hq, hp⟩ := t.pos
  have hst := t.st
  have key : ∀ q, q < rows.length * m0 rows → 0 ≤ W rows.length (m0 rows) q * yAt ys (m0 rows) q := fun q hq => Int.mul_nonneg (by have := W_pos (by have := t.m; omega) hq; omega) (t.y q hq).1
  have hw : 0 < W rows.length (m0 rows) q * yAt ys (m0 rows) q := Int.mul_pos (by have := W_pos (by have := t.m; omega) hq; omega) hp
  refine psum_pos (q0 := q) (fun q hq => ?_) hq ?_
  · unfold denOf
    split
    · exact Int.mul_nonneg (by omega) (key q hq)
    · exact key q hq
  · unfold denOf
    split
    · exact Int.mul_pos (by omega) hw
    · exact hw

def zeroR : AV := .agg [ii 0, ii 0]
def volOut (sp st : Int) (rows : List (List (Int × Int))) (ys : List (List Int)) : AV :=
  if trueErr sp st rows ys = 0 then .tup [frac (sp * st * allS rows.length (m0 rows) ys) 2, ii 0] else .tup [zeroR, ii (trueErr sp st rows ys)]

/-- Which share is asked for. -/
def gOf (what : Int) : Nat := if what = 0 then 47 else if what = 1 then 48 else 49
theorem gOf_or (what : Int) : gOf what = 47 ∨ gOf what = 48 ∨ gOf what = 49 := by
  unfold gOf
  by_cases h0 : what = 0
  · rw [if_pos h0]; exact .inl rfl
  · rw [if_neg h0]
    by_cases h1 : what = 1
    · rw [if_pos h1]; exact .inr (.inl rfl)
    · rw [if_neg h1]; exact .inr (.inr rfl)
theorem asked (sp st : Int) (a : AV) (what : Int) (hwh : 0 ≤ what ∧ what ≤ 2) (h : H) (wf : Wf h) (J : List AO) (w : Nat) (hw : w ≤ h.clock + J.length) :
    (om Try.prog KK).call (.fn 28 [.agg [ii sp, ii st, a], ii what]) (X h J w) = .ok (.tup [.fn (gOf what) [.agg [ii sp, ii st, a]] [], ii 0]) (X h (J ++ [.cells (mkCells [ii sp, ii st, a]) 52]) w) := by
  have wf' := wf.X hw
  have key : ∀ hb, Wf hb → (om Try.prog KK).call (.fn 28 [.agg [ii sp, ii st, a], ii what]) hb = .ok (.tup [.fn (gOf what) [.agg [ii sp, ii st, a]] [], ii 0]) (X hb [.cells (mkCells [ii sp, ii st, a]) 52] hb.w) := by
    clear wf wf'
    intro hb wf
    refine WV_to (WV_call (fn := Try.f28) Try.func28 rfl rfl rfl rfl rfl ?_)
    simp only [argF]
    (repeat' (first
  | (with_reducible first | refine WC_seq ?_ | refine WC_skip ?_ | refine WC_label ?_ | refine WC_scope ?_ | refine WC_block ?_ | refine WC_ret ?_ | refine WC_exit ?_ | refine seqQ_norm ?_ | refine seqQ_ret ?_ | refine seqQ_exit ?_ | refine blkQ_norm ?_ | refine blkQ_ret ?_ | refine blkQ_here ?_ | refine gateK_yes ?_ | refine gateK_none ?_ | refine condK_tt ?_ | refine condK_ff ?_ | refine roundQ_exit ?_ | refine roundQ_ret ?_)
  | refine WC_region ?_ | refine blkQ_out rfl ?_ | refine WO_nil ?_ | refine WD_nil ?_
  | ((first | refine WD_gate rfl rfl rfl rfl rfl fun K_ hK_ => ?_ | refine WO_gate rfl rfl rfl rfl rfl fun K_ hK_ => ?_); simp only [upd_apply, asB_bool, asB_tup, ↓reduceIte, reduceCtorEq, Nat.reduceEqDiff, Bool.not_true, Bool.not_false]; refine hK_ _ ?_; clear hK_ K_)
  | refine gateK_no (by decide) ?_
  | ((try first | refine WO_op rfl rfl rfl ?_ | refine WO_op0 rfl rfl ?_ | refine WD_op rfl rfl rfl ?_ | refine WD_op0 rfl rfl ?_); (refine WV_gen fun Q_ hQ_ => ?_; simp (disch := first | omega | (simp only [List.length_cons, List.length_nil, List.length_append]; omega)) only [bb, bp, argF, ↓reduceIte, reduceCtorEq, Nat.reduceEqDiff, Nat.reduceLT, Nat.reduceLeDiff, Nat.reduceAdd, Nat.reduceMul, Nat.reduceSub, Nat.reduceBEq, Int.reduceToNat, cond_true, cond_false, eq_self, beq_self_eq_true, newPtr_X wf, load1_X wf, loadAgg_X wf, store1_X wf, writeCells_X wf, makeFunc_def, tEvH9]; first | (refine dec_split (Q := Q_) (fun hp_ => ?_) (fun hp_ => ?_) <;> first | (exfalso; omega) | (refine hQ_ _ _ ?_; clear hQ_ Q_)) | (refine dec_splitn (Q := Q_) (fun hp_ => ?_) (fun hp_ => ?_) <;> first | (exfalso; omega) | (refine hQ_ _ _ ?_; clear hQ_ Q_)) | (refine hQ_ _ _ ?_; clear hQ_ Q_)))
  | (refine WC_cond fun K_ hK_ => ?_; simp (disch := omega) only [evT_tmp, upd_apply, WB_some, ↓reduceIte, reduceCtorEq, Nat.reduceEqDiff, Nat.reduceLT]; refine hK_ _ ?_; clear hK_ K_)))
    all_goals
      refine endQ_ret _ _ rfl (ret2 (by decide) (by decide)) ?_
      simp only [upd_apply, ↓reduceIte, reduceCtorEq, Nat.reduceEqDiff]
      refine WV_ext (by
        show (_ && flat (.tup [.fn _ [.agg _] [], ii 0])) = false
        exact Bool.and_false _) ?_
      refine ⟨?_, ?_⟩
      · unfold gOf
        first
          | (rw [if_pos (by omega)])
          | (rw [if_neg (by omega), if_pos (by omega)])
          | (rw [if_neg (by omega), if_neg (by omega)])
      · rw [Nat.min_eq_left wf.wle]
  rw [key _ wf', X_X, X_w]
theorem askedNot (sp st : Int) (a : AV) (what : Int) (hwh : ¬ (0 ≤ what ∧ what ≤ 2)) (h : H) (wf : Wf h) :
    (om Try.prog KK).call (.fn 28 [.agg [ii sp, ii st, a], ii what]) h = .ok (.tup [.nilf, ii 3]) h := by
  refine WV_to (WV_call (fn := Try.f28) Try.func28 rfl rfl rfl rfl rfl ?_)
  simp only [argF]
  (repeat' (first
  | (with_reducible first | refine WC_seq ?_ | refine WC_skip ?_ | refine WC_label ?_ | refine WC_scope ?_ | refine WC_block ?_ | refine WC_ret ?_ | refine WC_exit ?_ | refine seqQ_norm ?_ | refine seqQ_ret ?_ | refine seqQ_exit ?_ | refine blkQ_norm ?_ | refine blkQ_ret ?_ | refine blkQ_here ?_ | refine gateK_yes ?_ | refine gateK_none ?_ | refine condK_tt ?_ | refine condK_ff ?_ | refine roundQ_exit ?_ | refine roundQ_ret ?_)
  | refine WC_region ?_ | refine blkQ_out rfl ?_ | refine WO_nil ?_ | refine WD_nil ?_
  | ((first | refine WD_gate rfl rfl rfl rfl rfl fun K_ hK_ => ?_ | refine WO_gate rfl rfl rfl rfl rfl fun K_ hK_ => ?_); simp only [upd_apply, asB_bool, asB_tup, ↓reduceIte, reduceCtorEq, Nat.reduceEqDiff, Bool.not_true, Bool.not_false]; refine hK_ _ ?_; clear hK_ K_)
  | refine gateK_no (by decide) ?_
  | ((try first | refine WO_op rfl rfl rfl ?_ | refine WO_op0 rfl rfl ?_ | refine WD_op rfl rfl rfl ?_ | refine WD_op0 rfl rfl ?_); (refine WV_gen fun Q_ hQ_ => ?_; simp (disch := first | omega | (simp only [List.length_cons, List.length_nil, List.length_append]; omega)) only [bb, bp, argF, ↓reduceIte, reduceCtorEq, Nat.reduceEqDiff, Nat.reduceLT, Nat.reduceLeDiff, Nat.reduceAdd, Nat.reduceMul, Nat.reduceSub, Nat.reduceBEq, Int.reduceToNat, cond_true, cond_false, eq_self, beq_self_eq_true, newPtr_X wf, load1_X wf, loadAgg_X wf, store1_X wf, writeCells_X wf, makeFunc_def, tEvH9]; first | (refine dec_split (Q := Q_) (fun hp_ => ?_) (fun hp_ => ?_) <;> first | (exfalso; omega) | (refine hQ_ _ _ ?_; clear hQ_ Q_)) | (refine dec_splitn (Q := Q_) (fun hp_ => ?_) (fun hp_ => ?_) <;> first | (exfalso; omega) | (refine hQ_ _ _ ?_; clear hQ_ Q_)) | (refine hQ_ _ _ ?_; clear hQ_ Q_)))
  | (refine WC_cond fun K_ hK_ => ?_; simp (disch := omega) only [evT_tmp, upd_apply, WB_some, ↓reduceIte, reduceCtorEq, Nat.reduceEqDiff, Nat.reduceLT]; refine hK_ _ ?_; clear hK_ K_)))
  (refine endQ_ret _ _ rfl (ret2 (by decide) (by decide)) ?_; simp only [upd_apply, ↓reduceIte, reduceCtorEq, Nat.reduceEqDiff]; refine WV_flat rfl (by omega) ?_)
  exact ⟨rfl, rfl⟩

def valOut (sp st : Int) (rows : List (List (Int × Int))) (ys : List (List Int)) (what : Int) : AV :=
  if trueErr sp st rows ys = 0 then (if 0 ≤ what ∧ what ≤ 2 then .tup [frac (numS (gOf what) sp st rows.length (m0 rows) ys) (denS (gOf what) st rows.length (m0 rows) ys), ii 0] else .tup [zeroR, ii 3]) else .tup [zeroR, ii (trueErr sp st rows ys)]

end Go.Proofs.Ytghondkiondeaab
end
