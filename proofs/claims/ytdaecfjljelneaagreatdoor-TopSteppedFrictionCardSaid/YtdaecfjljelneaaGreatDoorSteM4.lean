import Derived.Test.YtdaecfjljelneaaGreatDoorSteM3
import Derived.Test.YtdaecfjljelneaaGreatDoorChecked
import Derived.KernelRfl
set_option linter.all false
/- EvsDf -/
section
/-
  FACTS OF THE PROGRAM: its types and functions.
-/
namespace Go.Proofs.YtdaecfjljelneaaGreatDoor
open Go.Ev
set_option maxRecDepth 100000
theorem ia_2 : isAggB Tryz.prog 2 = some false := by kernel_rfl
theorem sz_2 : sizeE Tryz.prog 2 = some 1 := by kernel_rfl
theorem ze_2 : zeroE Tryz.prog 2 = some (.int .i64 (0)) := by kernel_rfl
theorem el_2 : El Tryz.prog 2 1 8 (.int .i64 (0)) := ⟨by kernel_rfl, by kernel_rfl, rfl⟩
theorem un_2 : Tryz.prog.underlying 2 = some (.int .i64) := Tryz.underlying2
theorem ia_3 : isAggB Tryz.prog 3 = some false := by kernel_rfl
theorem sz_3 : sizeE Tryz.prog 3 = some 1 := by kernel_rfl
theorem ze_3 : zeroE Tryz.prog 3 = some (.int .i64 (0)) := by kernel_rfl
theorem ia_4 : isAggB Tryz.prog 4 = some false := by kernel_rfl
theorem sz_4 : sizeE Tryz.prog 4 = some 1 := by kernel_rfl
theorem ze_4 : zeroE Tryz.prog 4 = some (.bool false) := by kernel_rfl
theorem ia_5 : isAggB Tryz.prog 5 = some false := by kernel_rfl
theorem sz_5 : sizeE Tryz.prog 5 = some 1 := by kernel_rfl
theorem un_5 : Tryz.prog.underlying 5 = some (.int .u8) := Tryz.underlying5
theorem un_22 : Tryz.prog.underlying 22 = some (.int .u16) := Tryz.underlying22
theorem ik_23 : idxKind Tryz.prog 23 = some (none, 1) := by kernel_rfl
theorem un_23 : Tryz.prog.underlying 23 = some (.slice 5) := Tryz.underlying23
theorem ia_25 : isAggB Tryz.prog 25 = some false := by kernel_rfl
theorem sz_25 : sizeE Tryz.prog 25 = some 1 := by kernel_rfl
theorem bsl_25 (n : Nat) (parts : List (Nat × AV)) (h : H) : buildSliceE Tryz.prog 25 n parts h = bif Nat.ble (n * 1) 16777216 && Nat.beq 1 1 then (match fillE (fun i => some (i * 1, 1)) (zerosE [.int .i64 (0)] n) parts with | some cs => newSlice 2 cs n n 1 h | none => .no) else .no := by kernel_rfl
theorem ik_25 : idxKind Tryz.prog 25 = some (none, 1) := by kernel_rfl
theorem un_25 : Tryz.prog.underlying 25 = some (.slice 2) := Tryz.underlying25
theorem ni_25 : notInt Tryz.prog 25 = true := by kernel_rfl
theorem ia_27 : isAggB Tryz.prog 27 = some true := by kernel_rfl
theorem sz_27 : sizeE Tryz.prog 27 = some 2 := by kernel_rfl
theorem ze_27 : zeroE Tryz.prog 27 = some (.agg [.nils, .nils]) := by kernel_rfl
theorem fo_27_0 : fieldOff Tryz.prog 27 0 = some 0 := by kernel_rfl
theorem fo_27_1 : fieldOff Tryz.prog 27 1 = some 1 := by kernel_rfl
theorem bs_27 (parts : List (Nat × AV)) : buildE Tryz.prog 27 parts = match fillE (fun i => [(0, 1), (1, 1)][i]?) [.nils, .nils] parts with | some cs => some (.agg cs) | none => none := by kernel_rfl
theorem ia_28 : isAggB Tryz.prog 28 = some false := by kernel_rfl
theorem sz_28 : sizeE Tryz.prog 28 = some 1 := by kernel_rfl
theorem ze_28 : zeroE Tryz.prog 28 = some (.int .i64 (0)) := by kernel_rfl
theorem ia_35 : isAggB Tryz.prog 35 = some false := by kernel_rfl
theorem sz_35 : sizeE Tryz.prog 35 = some 1 := by kernel_rfl
theorem bsl_35 (n : Nat) (parts : List (Nat × AV)) (h : H) : buildSliceE Tryz.prog 35 n parts h = bif Nat.ble (n * 16) 16777216 && Nat.beq 16 16 then (match fillE (fun i => some (i * 16, 16)) (zerosE [.int .i64 (0), .int .i64 (0), .int .i64 (0), .int .i64 (0), .int .i64 (0), .int .i64 (0), .int .i64 (0), .int .i64 (0), .int .i64 (0), .int .i64 (0), .int .i64 (0), .int .i64 (0), .int .i64 (0), .int .i64 (0), .int .i64 (0), .int .i64 (0)] n) parts with | some cs => newSlice 46 cs n n 16 h | none => .no) else .no := by kernel_rfl
theorem ia_36 : isAggB Tryz.prog 36 = some false := by kernel_rfl
theorem sz_36 : sizeE Tryz.prog 36 = some 1 := by kernel_rfl
theorem bsl_36 (n : Nat) (parts : List (Nat × AV)) (h : H) : buildSliceE Tryz.prog 36 n parts h = bif Nat.ble (n * 2) 16777216 && Nat.beq 2 2 then (match fillE (fun i => some (i * 2, 2)) (zerosE [.nils, .nils] n) parts with | some cs => newSlice 27 cs n n 2 h | none => .no) else .no := by kernel_rfl
theorem ia_37 : isAggB Tryz.prog 37 = some false := by kernel_rfl
theorem sz_37 : sizeE Tryz.prog 37 = some 1 := by kernel_rfl
theorem ia_38 : isAggB Tryz.prog 38 = some true := by kernel_rfl
theorem sz_38 : sizeE Tryz.prog 38 = some 6 := by kernel_rfl
theorem ia_40 : isAggB Tryz.prog 40 = some false := by kernel_rfl
theorem sz_40 : sizeE Tryz.prog 40 = some 1 := by kernel_rfl
theorem bsl_40 (n : Nat) (parts : List (Nat × AV)) (h : H) : buildSliceE Tryz.prog 40 n parts h = bif Nat.ble (n * 2) 16777216 && Nat.beq 2 2 then (match fillE (fun i => some (i * 2, 2)) (zerosE [.int .i64 (0), .int .i64 (0)] n) parts with | some cs => newSlice 44 cs n n 2 h | none => .no) else .no := by kernel_rfl
theorem ia_42 : isAggB Tryz.prog 42 = some true := by kernel_rfl
theorem sz_42 : sizeE Tryz.prog 42 = some 2 := by kernel_rfl
theorem fo_42_0 : fieldOff Tryz.prog 42 0 = some 0 := by kernel_rfl
theorem fo_42_1 : fieldOff Tryz.prog 42 1 = some 1 := by kernel_rfl
theorem ia_44 : isAggB Tryz.prog 44 = some true := by kernel_rfl
theorem sz_44 : sizeE Tryz.prog 44 = some 2 := by kernel_rfl
theorem ze_44 : zeroE Tryz.prog 44 = some (.agg [.int .i64 (0), .int .i64 (0)]) := by kernel_rfl
theorem fo_44_0 : fieldOff Tryz.prog 44 0 = some 0 := by kernel_rfl
theorem fo_44_1 : fieldOff Tryz.prog 44 1 = some 1 := by kernel_rfl
theorem bs_44 (parts : List (Nat × AV)) : buildE Tryz.prog 44 parts = match fillE (fun i => [(0, 1), (1, 1)][i]?) [.int .i64 (0), .int .i64 (0)] parts with | some cs => some (.agg cs) | none => none := by kernel_rfl
theorem ia_46 : isAggB Tryz.prog 46 = some true := by kernel_rfl
theorem sz_46 : sizeE Tryz.prog 46 = some 16 := by kernel_rfl
theorem ze_46 : zeroE Tryz.prog 46 = some (.agg [.int .i64 (0), .int .i64 (0), .int .i64 (0), .int .i64 (0), .int .i64 (0), .int .i64 (0), .int .i64 (0), .int .i64 (0), .int .i64 (0), .int .i64 (0), .int .i64 (0), .int .i64 (0), .int .i64 (0), .int .i64 (0), .int .i64 (0), .int .i64 (0)]) := by kernel_rfl
theorem fo_46_0 : fieldOff Tryz.prog 46 0 = some 0 := by kernel_rfl
theorem fo_46_1 : fieldOff Tryz.prog 46 1 = some 1 := by kernel_rfl
theorem fo_46_2 : fieldOff Tryz.prog 46 2 = some 2 := by kernel_rfl
theorem fo_46_3 : fieldOff Tryz.prog 46 3 = some 3 := by kernel_rfl
theorem fo_46_4 : fieldOff Tryz.prog 46 4 = some 4 := by kernel_rfl
theorem fo_46_5 : fieldOff Tryz.prog 46 5 = some 6 := by kernel_rfl
theorem fo_46_6 : fieldOff Tryz.prog 46 6 = some 8 := by kernel_rfl
theorem fo_46_7 : fieldOff Tryz.prog 46 7 = some 10 := by kernel_rfl
theorem fo_46_8 : fieldOff Tryz.prog 46 8 = some 12 := by kernel_rfl
theorem fo_46_9 : fieldOff Tryz.prog 46 9 = some 14 := by kernel_rfl
theorem bs_46 (parts : List (Nat × AV)) : buildE Tryz.prog 46 parts = match fillE (fun i => [(0, 1), (1, 1), (2, 1), (3, 1), (4, 2), (6, 2), (8, 2), (10, 2), (12, 2), (14, 2)][i]?) [.int .i64 (0), .int .i64 (0), .int .i64 (0), .int .i64 (0), .int .i64 (0), .int .i64 (0), .int .i64 (0), .int .i64 (0), .int .i64 (0), .int .i64 (0), .int .i64 (0), .int .i64 (0), .int .i64 (0), .int .i64 (0), .int .i64 (0), .int .i64 (0)] parts with | some cs => some (.agg cs) | none => none := by kernel_rfl
theorem ia_53 : isAggB Tryz.prog 53 = some true := by kernel_rfl
theorem sz_53 : sizeE Tryz.prog 53 = some 6 := by kernel_rfl
theorem ze_53 : zeroE Tryz.prog 53 = some (.agg [.int .i64 (0), .int .i64 (0), .int .i64 (0), .int .i64 (0), .int .i64 (0), .int .i64 (0)]) := by kernel_rfl
theorem fo_53_0 : fieldOff Tryz.prog 53 0 = some 0 := by kernel_rfl
theorem fo_53_1 : fieldOff Tryz.prog 53 1 = some 1 := by kernel_rfl
theorem fo_53_2 : fieldOff Tryz.prog 53 2 = some 2 := by kernel_rfl
theorem fo_53_3 : fieldOff Tryz.prog 53 3 = some 3 := by kernel_rfl
theorem fo_53_4 : fieldOff Tryz.prog 53 4 = some 4 := by kernel_rfl
theorem fo_53_5 : fieldOff Tryz.prog 53 5 = some 5 := by kernel_rfl
theorem bs_53 (parts : List (Nat × AV)) : buildE Tryz.prog 53 parts = match fillE (fun i => [(0, 1), (1, 1), (2, 1), (3, 1), (4, 1), (5, 1)][i]?) [.int .i64 (0), .int .i64 (0), .int .i64 (0), .int .i64 (0), .int .i64 (0), .int .i64 (0)] parts with | some cs => some (.agg cs) | none => none := by kernel_rfl
theorem ia_82 : isAggB Tryz.prog 82 = some true := by kernel_rfl
theorem sz_82 : sizeE Tryz.prog 82 = some 2 := by kernel_rfl
theorem ze_82 : zeroE Tryz.prog 82 = some (.agg [.nils, .nils]) := by kernel_rfl
theorem fo_82_0 : fieldOff Tryz.prog 82 0 = some 0 := by kernel_rfl
theorem bs_82 (parts : List (Nat × AV)) : buildE Tryz.prog 82 parts = match fillE (fun i => [(0, 2)][i]?) [.nils, .nils] parts with | some cs => some (.agg cs) | none => none := by kernel_rfl
theorem ia_84 : isAggB Tryz.prog 84 = some false := by kernel_rfl
theorem sz_84 : sizeE Tryz.prog 84 = some 1 := by kernel_rfl
theorem ia_85 : isAggB Tryz.prog 85 = some false := by kernel_rfl
theorem sz_85 : sizeE Tryz.prog 85 = some 1 := by kernel_rfl
theorem ia_90 : isAggB Tryz.prog 90 = some false := by kernel_rfl
theorem sz_90 : sizeE Tryz.prog 90 = some 1 := by kernel_rfl
theorem ia_92 : isAggB Tryz.prog 92 = some true := by kernel_rfl
theorem sz_92 : sizeE Tryz.prog 92 = some 17 := by kernel_rfl
theorem ze_92 : zeroE Tryz.prog 92 = some (.agg [.int .i64 (0), .int .i64 (0), .int .i64 (0), .int .i64 (0), .int .i64 (0), .int .i64 (0), .int .i64 (0), .int .i64 (0), .int .i64 (0), .int .i64 (0), .int .i64 (0), .int .i64 (0), .int .i64 (0), .int .i64 (0), .int .i64 (0), .int .i64 (0), .nils]) := by kernel_rfl
theorem fo_92_0 : fieldOff Tryz.prog 92 0 = some 0 := by kernel_rfl
theorem fo_92_1 : fieldOff Tryz.prog 92 1 = some 16 := by kernel_rfl
theorem bs_92 (parts : List (Nat × AV)) : buildE Tryz.prog 92 parts = match fillE (fun i => [(0, 16), (16, 1)][i]?) [.int .i64 (0), .int .i64 (0), .int .i64 (0), .int .i64 (0), .int .i64 (0), .int .i64 (0), .int .i64 (0), .int .i64 (0), .int .i64 (0), .int .i64 (0), .int .i64 (0), .int .i64 (0), .int .i64 (0), .int .i64 (0), .int .i64 (0), .int .i64 (0), .nils] parts with | some cs => some (.agg cs) | none => none := by kernel_rfl
theorem ia_93 : isAggB Tryz.prog 93 = some false := by kernel_rfl
theorem sz_93 : sizeE Tryz.prog 93 = some 1 := by kernel_rfl
theorem ia_108 : isAggB Tryz.prog 108 = some true := by kernel_rfl
theorem sz_108 : sizeE Tryz.prog 108 = some 4 := by kernel_rfl
theorem ze_108 : zeroE Tryz.prog 108 = some (.agg [.int .i64 (0), .int .i64 (0), .int .i64 (0), .int .i64 (0)]) := by kernel_rfl
theorem fo_108_0 : fieldOff Tryz.prog 108 0 = some 0 := by kernel_rfl
theorem fo_108_1 : fieldOff Tryz.prog 108 1 = some 1 := by kernel_rfl
theorem fo_108_2 : fieldOff Tryz.prog 108 2 = some 2 := by kernel_rfl
theorem fo_108_3 : fieldOff Tryz.prog 108 3 = some 3 := by kernel_rfl
theorem bs_108 (parts : List (Nat × AV)) : buildE Tryz.prog 108 parts = match fillE (fun i => [(0, 1), (1, 1), (2, 1), (3, 1)][i]?) [.int .i64 (0), .int .i64 (0), .int .i64 (0), .int .i64 (0)] parts with | some cs => some (.agg cs) | none => none := by kernel_rfl
theorem ia_118 : isAggB Tryz.prog 118 = some false := by kernel_rfl
theorem sz_118 : sizeE Tryz.prog 118 = some 1 := by kernel_rfl
theorem ia_179 : isAggB Tryz.prog 179 = some true := by kernel_rfl
theorem sz_179 : sizeE Tryz.prog 179 = some 4 := by kernel_rfl
theorem ze_179 : zeroE Tryz.prog 179 = some (.agg [.int .i64 (0), .int .i64 (0), .int .i64 (0), .int .i64 (0)]) := by kernel_rfl
theorem fo_179_0 : fieldOff Tryz.prog 179 0 = some 0 := by kernel_rfl
theorem fo_179_1 : fieldOff Tryz.prog 179 1 = some 2 := by kernel_rfl
theorem fo_179_2 : fieldOff Tryz.prog 179 2 = some 3 := by kernel_rfl
theorem bs_179 (parts : List (Nat × AV)) : buildE Tryz.prog 179 parts = match fillE (fun i => [(0, 2), (2, 1), (3, 1)][i]?) [.int .i64 (0), .int .i64 (0), .int .i64 (0), .int .i64 (0)] parts with | some cs => some (.agg cs) | none => none := by kernel_rfl
theorem ia_250 : isAggB Tryz.prog 250 = some true := by kernel_rfl
theorem sz_250 : sizeE Tryz.prog 250 = some 2 := by kernel_rfl
theorem ze_250 : zeroE Tryz.prog 250 = some (.agg [.nils, .nils]) := by kernel_rfl
theorem fo_250_0 : fieldOff Tryz.prog 250 0 = some 0 := by kernel_rfl
theorem fo_250_1 : fieldOff Tryz.prog 250 1 = some 1 := by kernel_rfl
theorem bs_250 (parts : List (Nat × AV)) : buildE Tryz.prog 250 parts = match fillE (fun i => [(0, 1), (1, 1)][i]?) [.nils, .nils] parts with | some cs => some (.agg cs) | none => none := by kernel_rfl
theorem ia_253 : isAggB Tryz.prog 253 = some false := by kernel_rfl
theorem sz_253 : sizeE Tryz.prog 253 = some 1 := by kernel_rfl
theorem ia_254 : isAggB Tryz.prog 254 = some true := by kernel_rfl
theorem sz_254 : sizeE Tryz.prog 254 = some 2 := by kernel_rfl
theorem ze_254 : zeroE Tryz.prog 254 = some (.agg [.int .i64 (0), .int .i64 (0)]) := by kernel_rfl
theorem bs_254 (parts : List (Nat × AV)) : buildE Tryz.prog 254 parts = match fillE (fun i => some (i * 1, 1)) [.int .i64 (0), .int .i64 (0)] parts with | some cs => some (.agg cs) | none => none := by kernel_rfl
theorem ia_256 : isAggB Tryz.prog 256 = some false := by kernel_rfl
theorem sz_256 : sizeE Tryz.prog 256 = some 1 := by kernel_rfl
theorem ia_257 : isAggB Tryz.prog 257 = some false := by kernel_rfl
theorem sz_257 : sizeE Tryz.prog 257 = some 1 := by kernel_rfl
theorem ia_259 : isAggB Tryz.prog 259 = some false := by kernel_rfl
theorem sz_259 : sizeE Tryz.prog 259 = some 1 := by kernel_rfl
theorem bsl_259 (n : Nat) (parts : List (Nat × AV)) (h : H) : buildSliceE Tryz.prog 259 n parts h = bif Nat.ble (n * 4) 16777216 && Nat.beq 4 4 then (match fillE (fun i => some (i * 4, 4)) (zerosE [.int .i64 (0), .int .i64 (0), .int .i64 (0), .int .i64 (0)] n) parts with | some cs => newSlice 179 cs n n 4 h | none => .no) else .no := by kernel_rfl
theorem ik_259 : idxKind Tryz.prog 259 = some (none, 4) := by kernel_rfl
theorem un_259 : Tryz.prog.underlying 259 = some (.slice 179) := Tryz.underlying259
theorem ia_261 : isAggB Tryz.prog 261 = some false := by kernel_rfl
theorem sz_261 : sizeE Tryz.prog 261 = some 1 := by kernel_rfl
theorem ia_278 : isAggB Tryz.prog 278 = some false := by kernel_rfl
theorem sz_278 : sizeE Tryz.prog 278 = some 1 := by kernel_rfl
theorem pb_7 : plainB Tryz.prog 7 = true := by kernel_rfl
theorem pb_8 : plainB Tryz.prog 8 = true := by kernel_rfl
theorem pb_11 : plainB Tryz.prog 11 = true := by kernel_rfl
theorem pb_12 : plainB Tryz.prog 12 = true := by kernel_rfl
theorem pb_13 : plainB Tryz.prog 13 = true := by kernel_rfl
theorem pb_14 : plainB Tryz.prog 14 = true := by kernel_rfl
theorem pb_15 : plainB Tryz.prog 15 = true := by kernel_rfl
theorem pb_19 : plainB Tryz.prog 19 = true := by kernel_rfl
theorem pb_29 : plainB Tryz.prog 29 = true := by kernel_rfl
theorem pb_30 : plainB Tryz.prog 30 = true := by kernel_rfl
theorem pb_31 : plainB Tryz.prog 31 = true := by kernel_rfl
theorem pb_32 : plainB Tryz.prog 32 = true := by kernel_rfl
theorem pb_33 : plainB Tryz.prog 33 = true := by kernel_rfl
theorem pb_34 : plainB Tryz.prog 34 = true := by kernel_rfl
theorem pb_35 : plainB Tryz.prog 35 = true := by kernel_rfl
theorem pb_36 : plainB Tryz.prog 36 = true := by kernel_rfl
theorem pb_37 : plainB Tryz.prog 37 = true := by kernel_rfl
theorem pb_38 : plainB Tryz.prog 38 = true := by kernel_rfl
theorem pb_39 : plainB Tryz.prog 39 = true := by kernel_rfl
theorem pb_40 : plainB Tryz.prog 40 = true := by kernel_rfl
theorem pb_41 : plainB Tryz.prog 41 = true := by kernel_rfl
theorem pb_42 : plainB Tryz.prog 42 = true := by kernel_rfl
theorem pb_43 : plainB Tryz.prog 43 = true := by kernel_rfl
theorem pb_44 : plainB Tryz.prog 44 = true := by kernel_rfl
theorem pb_45 : plainB Tryz.prog 45 = true := by kernel_rfl
theorem pb_46 : plainB Tryz.prog 46 = true := by kernel_rfl
theorem pb_47 : plainB Tryz.prog 47 = true := by kernel_rfl
theorem pb_56 : plainB Tryz.prog 56 = true := by kernel_rfl
theorem pb_57 : plainB Tryz.prog 57 = true := by kernel_rfl
theorem pb_92 : plainB Tryz.prog 92 = true := by kernel_rfl
theorem pb_93 : plainB Tryz.prog 93 = true := by kernel_rfl
theorem pb_94 : plainB Tryz.prog 94 = true := by kernel_rfl
theorem pb_95 : plainB Tryz.prog 95 = true := by kernel_rfl
theorem pb_96 : plainB Tryz.prog 96 = true := by kernel_rfl
theorem pb_97 : plainB Tryz.prog 97 = true := by kernel_rfl
theorem pb_98 : plainB Tryz.prog 98 = true := by kernel_rfl
theorem pb_99 : plainB Tryz.prog 99 = true := by kernel_rfl
theorem pb_100 : plainB Tryz.prog 100 = true := by kernel_rfl
theorem pb_101 : plainB Tryz.prog 101 = true := by kernel_rfl
theorem pb_102 : plainB Tryz.prog 102 = true := by kernel_rfl
theorem pb_103 : plainB Tryz.prog 103 = true := by kernel_rfl
theorem pb_104 : plainB Tryz.prog 104 = true := by kernel_rfl
theorem pb_105 : plainB Tryz.prog 105 = true := by kernel_rfl
theorem pb_106 : plainB Tryz.prog 106 = true := by kernel_rfl
theorem pb_107 : plainB Tryz.prog 107 = true := by kernel_rfl
theorem pb_108 : plainB Tryz.prog 108 = true := by kernel_rfl
theorem pb_158 : plainB Tryz.prog 158 = true := by kernel_rfl
theorem pb_159 : plainB Tryz.prog 159 = true := by kernel_rfl
theorem pb_160 : plainB Tryz.prog 160 = true := by kernel_rfl
theorem pb_161 : plainB Tryz.prog 161 = true := by kernel_rfl
theorem pb_162 : plainB Tryz.prog 162 = true := by kernel_rfl
theorem pb_163 : plainB Tryz.prog 163 = true := by kernel_rfl
theorem pb_164 : plainB Tryz.prog 164 = true := by kernel_rfl
theorem pb_165 : plainB Tryz.prog 165 = true := by kernel_rfl
theorem pb_190 : plainB Tryz.prog 190 = true := by kernel_rfl
theorem pb_191 : plainB Tryz.prog 191 = true := by kernel_rfl
theorem pb_192 : plainB Tryz.prog 192 = true := by kernel_rfl
end Go.Proofs.YtdaecfjljelneaaGreatDoor
end

/- EvL8 -/
section
/-
  A SLICE THAT GROWS.
-/
namespace Go.Ev
section
variable {P : Program}

/-- A slice of the call's own that grows by append: it lies behind the first objects L0. -/
def Grow (h : H) (L0 G : List AO) (v : AV) (sz e len : Nat) (cs : List AV) : Prop :=
  cs.length = len * sz ∧ ((len = 0 ∧ v = .nils) ∨ ∃ idx, v = .sl (nx h (L0.length + idx)) 0 len none sz ∧ G[idx]? = some (.cells (mkCells cs) e))
theorem Grow.nil (h : H) (L0 G : List AO) (sz e : Nat) : Grow h L0 G .nils sz e 0 [] := ⟨by simp, .inl ⟨rfl, rfl⟩⟩
theorem Grow.resz {h : H} {L0 G : List AO} {v : AV} {sz e len : Nat} {cs : List AV} (g : Grow h L0 G v sz e len cs) (t : TypeId) : reszT P t v = v := by
  obtain ⟨_, ⟨_, rfl⟩ | ⟨idx, rfl, _⟩⟩ := g
  · exact reszT_nils
  · exact reszT_none
theorem Grow.sl {h : H} (wf : Wf h) {L0 G : List AO} {v : AV} {sz e len : Nat} {cs : List AV} (g : Grow h L0 G v sz e len cs) (w : Nat) : Sl (X h (L0 ++ G) w) v sz len cs := by
  obtain ⟨hl, ⟨rfl, rfl⟩ | ⟨idx, rfl, hg⟩⟩ := g
  · exact ⟨hl, .inl ⟨rfl, rfl⟩⟩
  · exact Sl.new wf hl (by rw [app_len]; exact hg)
theorem Grow.more {h : H} {L0 G : List AO} {v : AV} {sz e len : Nat} {cs : List AV} (g : Grow h L0 G v sz e len cs) (l : List AO) : Grow h L0 (G ++ l) v sz e len cs := by
  obtain ⟨hl, ⟨rfl, rfl⟩ | ⟨idx, rfl, hg⟩⟩ := g
  · exact ⟨hl, .inl ⟨rfl, rfl⟩⟩
  · exact ⟨hl, .inr ⟨idx, rfl, by rw [List.getElem?_append_left (List.getElem?_eq_some_iff.1 hg).1]; exact hg⟩⟩
theorem Grow.flat {h : H} {L0 G : List AO} {v : AV} {sz e len : Nat} {cs : List AV} (g : Grow h L0 G v sz e len cs) : AV.cells v = [v] ∧ oneB v = true := by
  obtain ⟨hl, ⟨rfl, rfl⟩ | ⟨idx, rfl, hg⟩⟩ := g <;> exact ⟨rfl, rfl⟩

theorem WV_keep {h : H} (wf : Wf h) {v : AV} {l : List AO} {w : Nat} {Q : AV → H → Prop} (hw : h.clock ≤ w) (q1 : flat v = true → Q v h) (q2 : flat v = false → Q v (X h l h.w)) : WV (pureCall h (.ok v (X h l w))) Q := by
  cases hf : flat v with
  | true => exact WV_flat hf hw (q1 hf)
  | false =>
    refine WV_ext (by rw [hf, Bool.and_false]) ?_
    rw [Nat.min_eq_left (Nat.le_trans wf.wle hw)]
    exact q2 hf
/-- A slice that the call has made is handed back. -/
theorem Grow.ret {h : H} (wf : Wf h) {L0 G : List AO} {v : AV} {sz e len : Nat} {cs : List AV} (g : Grow h L0 G v sz e len cs) {Q : AV → H → Prop} (q : ∀ M, Sl (X h M h.w) v sz len cs → Q v (X h M h.w)) {w : Nat} (hw : h.clock ≤ w) : WV (pureCall h (.ok v (X h (L0 ++ G) w))) Q := by
  refine WV_keep wf hw (fun hf => ?_) (fun _ => q _ (g.sl wf h.w))
  have := q []
  rw [X_self] at this
  refine this ?_
  obtain ⟨hl, ⟨rfl, rfl⟩ | ⟨idx, rfl, hg⟩⟩ := g
  · exact ⟨hl, .inl ⟨rfl, rfl⟩⟩
  · cases hf

/-- What is appended: cells that can be read. -/
theorem Grow.append {h : H} (wf : Wf h) {L0 G : List AO} {v : AV} {sz e len bytes : Nat} {z : AV} {cs : List AV} (g : Grow h L0 G v sz e len cs) {t : TypeId} (hu : P.underlying t = some (.slice e)) (hz : sizeE P e = some sz) (E : El P e sz bytes z)
    {n : Nat} {new : List AV} {x : AV} (hn : len + n ≤ 10000000) (hn0 : n ≠ 0) (hb : bytes ≤ 100000) (hc : new.length = n * sz) (ho : allOne new = true) (hs : ∀ w, srcCells (X h (L0 ++ G) w) sz x = some (n, new)) :
    ∃ v' G', Grow h L0 G' v' sz e (len + n) (cs ++ new) ∧ (∀ w, h.clock ≤ w → ∃ w', h.clock ≤ w' ∧ w' ≤ w ∧ appendE P t v x (X h (L0 ++ G) w) = .ok v' (X h (L0 ++ G') w')) := by
  obtain ⟨hl, ⟨rfl, rfl⟩ | ⟨idx, rfl, hg⟩⟩ := g
  · have hcs : cs = [] := List.length_eq_zero_iff.1 (by simpa using hl)
    subst hcs
    refine ⟨.sl (nx h (L0.length + G.length)) 0 n none sz, G ++ [.cells (mkCells new) e], ⟨by simpa using hc, .inr ⟨G.length, by rw [Nat.zero_add], by simp⟩⟩, fun w hw => ⟨w, hw, Nat.le_refl w, ?_⟩⟩
    have := append_nils (P := P) wf hu hz E (x := x) (l := L0 ++ G) (w := w) (by omega) hn0 hb (hs w) hc
    rw [List.length_append, List.append_assoc] at this
    exact this
  · have hi := (List.getElem?_eq_some_iff.1 hg).1
    refine ⟨.sl (nx h (L0.length + G.length)) 0 (len + n) none sz, G.set idx .dead ++ [.cells (mkCells (cs ++ new)) e], ⟨by rw [List.length_append, hl, hc, Nat.add_mul], .inr ⟨G.length, rfl, ?_⟩⟩, fun w hw => ⟨min (h.clock + (L0.length + idx)) w, by omega, Nat.min_le_right _ _, ?_⟩⟩
    rotate_right 1
    · have := append_more (P := P) wf hu hz E (x := x) (k := L0.length + idx) (l := L0 ++ G) (w := w) hn hn0 hb (by rw [app_len]; exact hg) hl (hs w) hc ho
      rw [List.length_append, set_app_len, List.append_assoc] at this
      exact this
    · rw [List.getElem?_append_right (by simp)]; simp

end
end Go.Ev
end

/- EvL13 -/
section
/-
  THE EQUATIONS OF ALL OPERATIONS, TOGETHER.
-/
namespace Go.Ev
theorem bb : type_of% (And.intro (And.intro (And.intro (And.intro (And.intro (And.intro (And.intro (@x_move) (@x_assign)) (And.intro (@x_pick) (And.intro (@x_alloc) (@x_box)))) (And.intro (And.intro (@x_build) (@x_load)) (And.intro (@x_store) (And.intro (@x_nilCheck) (@x_binOp))))) (And.intro (And.intro (And.intro (@x_unOp) (@x_convert)) (And.intro (@x_makeFunc) (And.intro (@x_makeMap) (@x_makeSlice)))) (And.intro (And.intro (@x_slice) (@x_fieldAddr)) (And.intro (@x_field) (And.intro (@x_indexAddr) (@x_index)))))) (And.intro (And.intro (And.intro (And.intro (@x_lookup) (@x_mapUpdate)) (And.intro (@x_extract) (And.intro (@x_callB) (@x_callF)))) (And.intro (And.intro (@x_callT) (@x_buildSlice)) (And.intro (@WV_okI) (And.intro (@on1_ok) (@of_ok))))) (And.intro (And.intro (And.intro (@done_ok) (@evT_tmp)) (And.intro (@get_tmp) (And.intro (@evT_int) (@evT_bool)))) (And.intro (And.intro (@evT_str) (@evT_nils)) (And.intro (@evT_nilm) (And.intro (@evT_nilp) (@evT_nilf))))))) (And.intro (And.intro (And.intro (And.intro (And.intro (@evT_func) (@upd_apply)) (And.intro (@evL_nil) (And.intro (@evL_cons') (@evParts_nil)))) (And.intro (And.intro (@evParts_cons) (@pickE_def)) (And.intro (@allocE_def) (And.intro (@cells_bool) (@cells_int))))) (And.intro (And.intro (And.intro (@cells_str) (@cells_ptr)) (And.intro (@cells_nilp) (And.intro (@cells_sl) (@cells_nils)))) (And.intro (And.intro (@cells_map) (@cells_nilm)) (And.intro (@cells_fn) (And.intro (@cells_nilf) (@cells_agg)))))) (And.intro (And.intro (And.intro (And.intro (@asPtr_ptr) (@asSl_sl)) (And.intro (@asB_bool) (And.intro (@asB_tup) (@asTup_tup)))) (And.intro (And.intro (@asI64_int) (@toNatE_lit)) (And.intro (@reszT_nils) (And.intro (@reszT_none) (@toNatE_int))))) (And.intro (And.intro (And.intro (@slicesE_def) (@optNat_none)) (And.intro (@optNat_def) (And.intro (@Int.toNat_natCast) (@cellsOf_cells)))) (And.intro (And.intro (@cellsOf_ro) (@cellsE_cells)) (And.intro (@oneB_bool) (And.intro (@oneB_int) (@oneB_str)))))))) (And.intro (And.intro (And.intro (And.intro (And.intro (And.intro (@oneB_ptr) (@oneB_nilp)) (And.intro (@oneB_sl) (And.intro (@oneB_nils) (@oneB_map)))) (And.intro (And.intro (@oneB_nilm) (@oneB_fn)) (And.intro (@oneB_nilf) (And.intro (@loadE_ptr) (@storeE_ptr))))) (And.intro (And.intro (And.intro (@storeCs_some) (@storeAll_one)) (And.intro (@storeAll_two) (And.intro (@fieldAddrE_ptr) (@addOff_some)))) (And.intro (And.intro (@indexAt_sl) (@indexAt_arr)) (And.intro (@extractE_tup) (And.intro (@nilCheck_fn) (@nilCheck_ptr)))))) (And.intro (And.intro (And.intro (And.intro (@nilCheck_yld) (@b_add)) (And.intro (@b_sub) (And.intro (@b_mul) (@b_eql)))) (And.intro (And.intro (@b_neq) (@b_lss)) (And.intro (@b_leq) (And.intro (@b_gtr) (@b_geq))))) (And.intro (And.intro (And.intro (@unE_not) (@unE_neg)) (And.intro (@bi_len) (And.intro (@bi_append) (@bi_copy)))) (And.intro (And.intro (@bi_max) (@bi_min)) (And.intro (@buildSliceO_def) (And.intro (@buildO_def) (@ble_dec))))))) (And.intro (And.intro (And.intro (And.intro (And.intro (@fillE_nil) (@fillE_cons)) (And.intro (@layOver_def) (And.intro (@zerosE_zero) (@zerosE_succ)))) (And.intro (And.intro (@wrap_in) (@min_ck)) (And.intro (@min_cc) (And.intro (@min_cl) (@Nat.min_self))))) (And.intro (And.intro (And.intro (@allOne_nil) (@allOne_cons)) (And.intro (@cellAt_cells) (And.intro (@cellAt_ro) (@aggAt_cells)))) (And.intro (And.intro (@storeAt_cells) (@writeAt_cells)) (And.intro (@splice_def) (And.intro (@marked_X) (@nx_X)))))) (And.intro (And.intro (And.intro (And.intro (@unmark_keep) (@unmark_full)) (And.intro (@app_len0) (And.intro (@app_len) (@set_app_len0)))) (And.intro (And.intro (@set_app_len) (@Nat.add_zero)) (And.intro (@Nat.zero_add) (And.intro (@Nat.mul_one) (@Nat.zero_mul))))) (And.intro (And.intro (And.intro (@Nat.one_mul) (@Bool.not_true)) (And.intro (@Bool.not_false) (And.intro (@Bool.true_and) (@Bool.and_true)))) (And.intro (And.intro (@Bool.false_and) (@Bool.and_false)) (And.intro (@decide_true) (And.intro (@decide_false) (@beq_dec))))))))) := And.intro (And.intro (And.intro (And.intro (And.intro (And.intro (And.intro (@x_move) (@x_assign)) (And.intro (@x_pick) (And.intro (@x_alloc) (@x_box)))) (And.intro (And.intro (@x_build) (@x_load)) (And.intro (@x_store) (And.intro (@x_nilCheck) (@x_binOp))))) (And.intro (And.intro (And.intro (@x_unOp) (@x_convert)) (And.intro (@x_makeFunc) (And.intro (@x_makeMap) (@x_makeSlice)))) (And.intro (And.intro (@x_slice) (@x_fieldAddr)) (And.intro (@x_field) (And.intro (@x_indexAddr) (@x_index)))))) (And.intro (And.intro (And.intro (And.intro (@x_lookup) (@x_mapUpdate)) (And.intro (@x_extract) (And.intro (@x_callB) (@x_callF)))) (And.intro (And.intro (@x_callT) (@x_buildSlice)) (And.intro (@WV_okI) (And.intro (@on1_ok) (@of_ok))))) (And.intro (And.intro (And.intro (@done_ok) (@evT_tmp)) (And.intro (@get_tmp) (And.intro (@evT_int) (@evT_bool)))) (And.intro (And.intro (@evT_str) (@evT_nils)) (And.intro (@evT_nilm) (And.intro (@evT_nilp) (@evT_nilf))))))) (And.intro (And.intro (And.intro (And.intro (And.intro (@evT_func) (@upd_apply)) (And.intro (@evL_nil) (And.intro (@evL_cons') (@evParts_nil)))) (And.intro (And.intro (@evParts_cons) (@pickE_def)) (And.intro (@allocE_def) (And.intro (@cells_bool) (@cells_int))))) (And.intro (And.intro (And.intro (@cells_str) (@cells_ptr)) (And.intro (@cells_nilp) (And.intro (@cells_sl) (@cells_nils)))) (And.intro (And.intro (@cells_map) (@cells_nilm)) (And.intro (@cells_fn) (And.intro (@cells_nilf) (@cells_agg)))))) (And.intro (And.intro (And.intro (And.intro (@asPtr_ptr) (@asSl_sl)) (And.intro (@asB_bool) (And.intro (@asB_tup) (@asTup_tup)))) (And.intro (And.intro (@asI64_int) (@toNatE_lit)) (And.intro (@reszT_nils) (And.intro (@reszT_none) (@toNatE_int))))) (And.intro (And.intro (And.intro (@slicesE_def) (@optNat_none)) (And.intro (@optNat_def) (And.intro (@Int.toNat_natCast) (@cellsOf_cells)))) (And.intro (And.intro (@cellsOf_ro) (@cellsE_cells)) (And.intro (@oneB_bool) (And.intro (@oneB_int) (@oneB_str)))))))) (And.intro (And.intro (And.intro (And.intro (And.intro (And.intro (@oneB_ptr) (@oneB_nilp)) (And.intro (@oneB_sl) (And.intro (@oneB_nils) (@oneB_map)))) (And.intro (And.intro (@oneB_nilm) (@oneB_fn)) (And.intro (@oneB_nilf) (And.intro (@loadE_ptr) (@storeE_ptr))))) (And.intro (And.intro (And.intro (@storeCs_some) (@storeAll_one)) (And.intro (@storeAll_two) (And.intro (@fieldAddrE_ptr) (@addOff_some)))) (And.intro (And.intro (@indexAt_sl) (@indexAt_arr)) (And.intro (@extractE_tup) (And.intro (@nilCheck_fn) (@nilCheck_ptr)))))) (And.intro (And.intro (And.intro (And.intro (@nilCheck_yld) (@b_add)) (And.intro (@b_sub) (And.intro (@b_mul) (@b_eql)))) (And.intro (And.intro (@b_neq) (@b_lss)) (And.intro (@b_leq) (And.intro (@b_gtr) (@b_geq))))) (And.intro (And.intro (And.intro (@unE_not) (@unE_neg)) (And.intro (@bi_len) (And.intro (@bi_append) (@bi_copy)))) (And.intro (And.intro (@bi_max) (@bi_min)) (And.intro (@buildSliceO_def) (And.intro (@buildO_def) (@ble_dec))))))) (And.intro (And.intro (And.intro (And.intro (And.intro (@fillE_nil) (@fillE_cons)) (And.intro (@layOver_def) (And.intro (@zerosE_zero) (@zerosE_succ)))) (And.intro (And.intro (@wrap_in) (@min_ck)) (And.intro (@min_cc) (And.intro (@min_cl) (@Nat.min_self))))) (And.intro (And.intro (And.intro (@allOne_nil) (@allOne_cons)) (And.intro (@cellAt_cells) (And.intro (@cellAt_ro) (@aggAt_cells)))) (And.intro (And.intro (@storeAt_cells) (@writeAt_cells)) (And.intro (@splice_def) (And.intro (@marked_X) (@nx_X)))))) (And.intro (And.intro (And.intro (And.intro (@unmark_keep) (@unmark_full)) (And.intro (@app_len0) (And.intro (@app_len) (@set_app_len0)))) (And.intro (And.intro (@set_app_len) (@Nat.add_zero)) (And.intro (@Nat.zero_add) (And.intro (@Nat.mul_one) (@Nat.zero_mul))))) (And.intro (And.intro (And.intro (@Nat.one_mul) (@Bool.not_true)) (And.intro (@Bool.not_false) (And.intro (@Bool.true_and) (@Bool.and_true)))) (And.intro (And.intro (@Bool.false_and) (@Bool.and_false)) (And.intro (@decide_true) (And.intro (@decide_false) (@beq_dec))))))))
end Go.Ev
end

/- EvL9 -/
section
/-
  RULES: loops over functions.
-/
namespace Go.Ev
section
variable {P : Program} {K : List Con}

theorem setParams1 {n t : Nat} {v : AV} {f : TF} (hk : (Nat.ble (Nat.succ t) n && Nat.ble (Nat.succ t) 384) = true) : setParams n [t] [v] (mkM f) = some (mkM (upd f t v)) := by
  rw [Bool.and_eq_true] at hk
  unfold setParams
  rw [hk.1, set_mkM _ _ _ (Nat.le_of_ble_eq_true hk.2)]; rfl
/-- Behind a round's body. -/
def yldB (l : Pos) (Q : AV → H → Prop) : CQ
  | .norm, _, _, h => ∃ st pend fn n tm params assign body dd h', getObj l h = some (.loop st pend fn n tm params assign body dd) ∧ setObj l (.loop .ready .norm fn n tm params assign body dd) h = some h' ∧ Q (.bool true) h'
  | .exit id, _, _, h => ∃ st pend fn n tm params assign body dd h', getObj l h = some (.loop st pend fn n tm params assign body dd) ∧ setObj l (.loop .done (.exit id) fn n tm params assign body dd) h = some h' ∧ Q (.bool false) h'
  | .ret, _, _, h => ∃ st pend fn n tm params assign body dd h', getObj l h = some (.loop st pend fn n tm params assign body dd) ∧ setObj l (.loop .done .ret fn n tm params assign body dd) h = some h' ∧ Q (.bool false) h'
/-- Behind a round's assignment. -/
def yldA (x : Cx) (l : Pos) (body : Code) (Q : AV → H → Prop) : CQ
  | .norm, f, d, h => ∃ pend fn n tm params assign body' dd h', getObj l h = some (.loop .ready pend fn n tm params assign body' dd) ∧ setObj l (.loop .busy pend fn n tm params assign body' dd) h = some h' ∧ WC x body f d h' (yldB l Q)
  | _, _, _, _ => False
theorem WV_yld {l : Pos} {args : List AV} {h : H} {Q : AV → H → Prop} {st : LoopState} {pend : J} {g n : Nat} {f0 f1 : TF} {params : Array Tmp} {assign body : Code} {dd : Pos}
    (hg : getObj l h = some (.loop st pend g n (mkM f0) params assign body dd)) (hp : setParams n params.toList args (mkM f0) = some (mkM f1))
    (w : WC ⟨P, K, g, n, some l⟩ assign f1 [] h (yldA ⟨P, K, g, n, some l⟩ l body Q)) : WV ((om P K).call (.yld l args) h) Q := by
  obtain ⟨j, f2, d2, h2, e, q⟩ := w
  have e1 := codeS_om assign e
  cases j with
  | exit id => exact q.elim
  | ret => exact q.elim
  | norm =>
    obtain ⟨pend', fn', n', tm', params', assign', body', dd', h3, g1, g2, ⟨j3, f3, d3, h4, e3, q3⟩⟩ := q
    have e4 := codeS_om body e3
    have run : ∀ v h5, endRoundE l (.ok j3 (Cx.fs ⟨P, K, g, n, some l⟩ f3 d3) h4) = .ok v h5 → (om P K).call (.yld l args) h = .ok v h5 := fun v h5 hq => by
      refine om_call_step rfl ?_
      show callYldE (om P K) l args h = _
      unfold callYldE
      rw [hg]
      dsimp only
      rw [hp]
      dsimp only
      have e1' : (om P K).code assign ⟨g, n, mkM f1, [], some l⟩ h = _ := e1
      rw [e1']
      unfold bodyE
      dsimp only
      rw [g1]
      dsimp only
      rw [g2]
      dsimp only
      rw [e4]; exact hq
    cases j3 with
    | norm =>
      obtain ⟨st, pend, fn, m, tm, ps, as', b, d5, h5, k1, k2, k3⟩ := q3
      refine ⟨_, h5, run _ h5 ?_, k3⟩
      show (match getObj l h4 with | some (.loop _ _ fn n tm params assign body d) => (match setObj l (.loop .ready .norm fn n tm params assign body d) h4 with | some h => RV.ok (.bool true) h | none => .no) | _ => .no) = _
      rw [k1]; dsimp only; rw [k2]
    | exit id =>
      obtain ⟨st, pend, fn, m, tm, ps, as', b, d5, h5, k1, k2, k3⟩ := q3
      refine ⟨_, h5, run _ h5 ?_, k3⟩
      show (match getObj l h4 with | some (.loop _ _ fn n tm params assign body d) => (match setObj l (.loop .done (.exit id) fn n tm params assign body d) h4 with | some h => RV.ok (.bool false) h | none => .no) | _ => .no) = _
      rw [k1]; dsimp only; rw [k2]
    | ret =>
      obtain ⟨st, pend, fn, m, tm, ps, as', b, d5, h5, k1, k2, k3⟩ := q3
      refine ⟨_, h5, run _ h5 ?_, k3⟩
      show (match getObj l h4 with | some (.loop _ _ fn n tm params assign body d) => (match setObj l (.loop .done .ret fn n tm params assign body d) h4 with | some h => RV.ok (.bool false) h | none => .no) | _ => .no) = _
      rw [k1]; dsimp only; rw [k2]

/-- Behind the call of the function that a loop is over. -/
def rangeQ (l : Pos) (f : TF) (d : List Pos) (Q : CQ) : AV → H → Prop := fun _ h => ∃ st pend fn n tm params assign body dd h', getObj l h = some (.loop st pend fn n tm params assign body dd) ∧ st ≠ .busy ∧ setObj l (.loop .exhausted pend fn n tm params assign body dd) h = some h' ∧ Q pend f d h'
theorem endLoop_ok {l : Pos} {fs : FS} {v : AV} {h h' : H} {st : LoopState} {pend : J} {fn n : Nat} {tm : M AV} {params : Array Tmp} {assign body : Code} {dd : Pos}
    (g : getObj l h = some (.loop st pend fn n tm params assign body dd)) (hst : st ≠ .busy) (s : setObj l (.loop .exhausted pend fn n tm params assign body dd) h = some h') : endLoopE l fs (.ok v h) = .ok pend fs h' := by
  unfold endLoopE
  dsimp only
  rw [g]
  cases st <;> dsimp only <;> first | exact absurd rfl hst | rw [s]
theorem WC_range {x : Cx} {fo : Operand} {params : Array Tmp} {assign body : Code} {f : TF} {d : List Pos} {h h1 h2 : H} {Q : CQ} {fv : AV} {dd l : Pos} (hr : x.r = none) (hf : evT (mkM f) fo = some fv)
    (hd : newObj .dfr h = some (dd, h1)) (hl : newObj (.loop .ready .norm x.g x.n (mkM f) params assign body dd) h1 = some (l, h2))
    (w : WV (callV x.P (om x.P x.K) fv [.yld l] h2) (rangeQ l f (dd :: d) Q)) : WC x (.rangeFunc fo params assign body) f d h Q := by
  obtain ⟨v, h3, e, st, pend, fn, n, tm, ps, as', b, d5, h4, k1, k2, k3, q⟩ := w
  refine ⟨pend, f, dd :: d, h4, ?_, q⟩
  show rangeE x.P (om x.P x.K) fo params assign body ⟨x.g, x.n, mkM f, d, x.r⟩ h = .ok pend ⟨x.g, x.n, mkM f, dd :: d, x.r⟩ h4
  rw [hr]
  unfold rangeE
  dsimp only
  rw [hf]
  dsimp only
  rw [hd]
  dsimp only
  unfold loopE
  dsimp only
  rw [hl]
  dsimp only
  rw [e]
  exact endLoop_ok k1 k2 k3
/-! ### Functions that yield a list -/
structure Same (h h' : H) : Prop where
  next : h'.next = h.next
  clock : h'.clock = h.clock
theorem Same.rfl' (h : H) : Same h h := ⟨rfl, rfl⟩
theorem Same.trans {a b c : H} (x : Same a b) (y : Same b c) : Same a c := ⟨y.next.trans x.next, y.clock.trans x.clock⟩
theorem Same.nx {a b : H} (x : Same a b) (k : Nat) : nx b k = nx a k := by unfold Go.Ev.nx; rw [x.next]
theorem Same.X {h : H} {G G' : List AO} {w w' : Nat} (e : G'.length = G.length) : Same (X h G w) (X h G' w') := ⟨by show nxP h.next G'.length = nxP h.next G.length; rw [e], by rw [X_clock, X_clock, e]⟩

/-- What a round leaves: the heap before the call, changed as the round does, and new objects behind it. -/
def YR (lo : Nat) (hb : H) (J : List AO) (I D : H → Prop) : AV → H → Prop := fun v h' => ∃ hb' J' w', h' = X hb' (J ++ J') w' ∧ Same hb hb' ∧ lo ≤ w' ∧ w' < hb.clock ∧ (v = .bool true ∧ I hb' ∨ v = .bool false ∧ D hb')
/-- The function value calls what it is given with each of these, till it is told to stop. -/
def Hands (P : Program) (K : List Con) (B : H → Prop) (fv : AV) (xs : List (List AV)) : Prop :=
  ∀ (l : Pos) (hb0 : H) (I : Nat → H → Prop) (D : H → Prop) (lo : Nat), lo ≤ hb0.w → hb0.w ≤ hb0.clock → (∀ i h, I i h → B h ∧ Same hb0 h) →
    (∀ i x, xs[i]? = some x → ∀ hb J w, I i hb → lo ≤ w → w ≤ hb.clock + J.length → WV ((om P K).call (.yld l x) (X hb J w)) (YR lo hb J (I (i + 1)) D)) →
    I 0 hb0 → WV (callV P (om P K) fv [.yld l] hb0) fun _ h' => ∃ hb J w, h' = X hb J w ∧ Same hb0 hb ∧ lo ≤ w ∧ w ≤ hb.clock + J.length ∧ (I xs.length hb ∨ D hb)

theorem WV_yieldO {l : Pos} {x : List AV} {hb : H} {J : List AO} {w lo : Nat} {I D : H → Prop} {Q : AV → H → Prop} (hlo : lo ≤ w) (hw : w ≤ hb.clock + J.length)
    (y : ∀ w, lo ≤ w → w ≤ hb.clock + J.length → WV ((om P K).call (.yld l x) (X hb J w)) (YR lo hb J I D))
    (q : ∀ hb' J' w', Same hb hb' → lo ≤ w' → w' < hb.clock → (I hb' → Q (.bool true) (X hb' (J ++ J') w')) ∧ (D hb' → Q (.bool false) (X hb' (J ++ J') w'))) :
    WV ((om P K).call (.yld l x) (X hb J w)) Q := by
  refine (y _ hlo hw).mono fun v h' ⟨hb', J', w', e, s, hl', hw', hv⟩ => ?_
  subst e
  have := q hb' J' w' s hl' hw'
  rcases hv with ⟨rfl, hi⟩ | ⟨rfl, hd⟩
  · exact this.1 hi
  · exact this.2 hd
/-- The end of a call that has changed what was there before. -/
theorem WV_out {h hb : H} {v : AV} {l : List AO} {w : Nat} {Q : AV → H → Prop} (hw : w < h.clock) (q : Q v (X hb l (min h.w w))) : WV (pureCall h (.ok v (X hb l w))) Q := by
  refine ⟨v, _, ?_, q⟩
  obtain ⟨objs, next, clock, w0⟩ := h
  have hb1 : Nat.ble clock w = false := by
    cases hc : Nat.ble clock w with
    | false => rfl
    | true => have := Nat.le_of_ble_eq_true hc; exact absurd hw (by show ¬ w < clock; omega)
  show (bif Nat.ble clock w && flat v then RV.ok v ⟨objs, next, clock, w0⟩ else RV.ok v ⟨pushAll hb.objs hb.next hb.clock l, nxP hb.next l.length, hb.clock + l.length, bif Nat.ble w0 w then w0 else w⟩) = _
  rw [hb1]
  have e : (bif Nat.ble w0 w then w0 else w) = min w0 w := by
    cases hb : Nat.ble w0 w with
    | true => have := Nat.le_of_ble_eq_true hb; simp only [cond]; omega
    | false => have : ¬ (w0 ≤ w) := fun hh => by rw [Nat.ble_eq_true_of_le hh] at hb; cases hb
               simp only [cond]; omega
  rw [e]; rfl
end
/-! ### The same, behind a heap with new objects -/
section
variable {P : Program} {K : List Con}
theorem WC_rangeX {x : Cx} {fo : Operand} {params : Array Tmp} {assign body : Code} {f : TF} {d : List Pos} {h : H} (wf : Wf h) {L : List AO} {w : Nat} {Q : CQ} {fv : AV} (hr : x.r = none) (hf : evT (mkM f) fo = some fv)
    (q : ∀ o, o = AO.loop .ready .norm x.g x.n (mkM f) params assign body (nx h L.length) → WV (callV x.P (om x.P x.K) fv [.yld (nx h (L.length + 1))] (X h (L ++ [.dfr, o]) w)) (rangeQ (nx h (L.length + 1)) f (nx h L.length :: d) Q)) : WC x (.rangeFunc fo params assign body) f d (X h L w) Q := by
  refine WC_range (dd := nx h L.length) (l := nx h (L.length + 1)) (h1 := X h (L ++ [.dfr]) w) hr hf (newObj_X wf .dfr L w) ?_ (q _ rfl)
  rw [newObj_X wf, List.append_assoc, List.length_append]; rfl
theorem WV_yldX {h : H} (wf : Wf h) {L : List AO} {w k : Nat} {o : AO} {args : List AV} {Q : AV → H → Prop} {st : LoopState} {pend : J} {g n : Nat} {f0 f1 : TF} {params : Array Tmp} {assign body : Code} {dd : Pos}
    (hk : L[k]? = some o) (ho : o = .loop st pend g n (mkM f0) params assign body dd) (hp : setParams n params.toList args (mkM f0) = some (mkM f1))
    (q : WC ⟨P, K, g, n, some (nx h k)⟩ assign f1 [] (X h L w) (yldA ⟨P, K, g, n, some (nx h k)⟩ (nx h k) body Q)) : WV ((om P K).call (.yld (nx h k) args) (X h L w)) Q :=
  WV_yld (by rw [getObj_new wf, hk, ho]) hp q
theorem lt_of_get {α : Type} {L : List α} {k : Nat} {o : α} (hk : L[k]? = some o) : k < L.length := by
  rcases Nat.lt_or_ge k L.length with h | h
  · exact h
  · rw [List.getElem?_eq_none h] at hk; cases hk
theorem yldA_X {x : Cx} {h : H} (wf : Wf h) {L : List AO} {w k : Nat} {o : AO} {Q : AV → H → Prop} {pend : J} {g n : Nat} {tm : M AV} {params : Array Tmp} {assign body body' : Code} {dd : Pos} {f : TF} {d : List Pos}
    (hk : L[k]? = some o) (ho : o = .loop .ready pend g n tm params assign body' dd)
    (q : ∀ o', o' = AO.loop .busy pend g n tm params assign body' dd → WC x body f d (X h (L.set k o') (min (h.clock + k) w)) (yldB (nx h k) Q)) : yldA x (nx h k) body Q .norm f d (X h L w) :=
  ⟨pend, g, n, tm, params, assign, body', dd, _, by rw [getObj_new wf, hk, ho], setObj_new L w k _ (lt_of_get hk), q _ rfl⟩
theorem yldB_ret_X {h : H} (wf : Wf h) {L : List AO} {w k : Nat} {o : AO} {Q : AV → H → Prop} {st : LoopState} {pend : J} {g n : Nat} {tm : M AV} {params : Array Tmp} {assign body : Code} {dd : Pos} {f : TF} {d : List Pos}
    (hk : L[k]? = some o) (ho : o = .loop st pend g n tm params assign body dd)
    (q : ∀ o', o' = AO.loop .done .ret g n tm params assign body dd → Q (.bool false) (X h (L.set k o') (min (h.clock + k) w))) : yldB (nx h k) Q .ret f d (X h L w) :=
  ⟨st, pend, g, n, tm, params, assign, body, dd, _, by rw [getObj_new wf, hk, ho], setObj_new L w k _ (lt_of_get hk), q _ rfl⟩
theorem rangeQ_X {h : H} (wf : Wf h) {L : List AO} {w k : Nat} {o : AO} {Q : CQ} {st : LoopState} {pend : J} {g n : Nat} {tm : M AV} {params : Array Tmp} {assign body : Code} {dd : Pos} {f : TF} {d : List Pos} {v : AV}
    (hk : L[k]? = some o) (ho : o = .loop st pend g n tm params assign body dd) (hst : st ≠ .busy)
    (q : ∀ o', o' = AO.loop .exhausted pend g n tm params assign body dd → Q pend f d (X h (L.set k o') (min (h.clock + k) w))) : rangeQ (nx h k) f d Q v (X h L w) :=
  ⟨st, pend, g, n, tm, params, assign, body, dd, _, by rw [getObj_new wf, hk, ho], hst, setObj_new L w k _ (lt_of_get hk), q _ rfl⟩
theorem takeAll_X {h : H} (wf : Wf h) {L : List AO} {w k : Nat} (hk : L[k]? = some .dfr) : takeAll [nx h k] (X h L w) = some (X h (L.set k .taken) (min (h.clock + k) w)) := by
  rw [takeAll, getObj_new wf, hk]
  dsimp only
  rw [setObj_new L w k _ (lt_of_get hk)]
  rfl
end
end Go.Ev
end

/- EvL10 -/
section
/-
  WHAT MORE OPERATIONS COME TO: division, conversions, structs held against one another.
-/
namespace Go.Ev
section
variable {P : Program}
theorem binE_slow {op t x y m n a} (h64 : bin64E op m n = none) (hs : binSlow P op t x y (.int .i64 m) (.int .i64 n) = some a) : binE P op t x y (.int .i64 m) (.int .i64 n) = some a := by
  unfold binE bin2; rw [asI64_int, asI64_int]; dsimp only; rw [h64]; exact hs
theorem pureVal_int {k : IntKind} {n : Int} : pureVal P (Sem.pure (.int k n)) = some (.int k n) := by
  show force0 (.int k n) = _
  exact force0_eq _
theorem b_quo {t x y m n} (hn : n ≠ 0) : binE P .quo t x y (.int .i64 m) (.int .i64 n) = some (.int .i64 (IntKind.i64.wrap (m.tdiv n))) := by
  refine binE_slow rfl ?_
  show pureVal P (Op.intDiv .quo .i64 m n) = _
  unfold Op.intDiv
  rw [if_neg hn]
  exact pureVal_int
theorem b_rem {t x y m n} (hn : n ≠ 0) : binE P .rem t x y (.int .i64 m) (.int .i64 n) = some (.int .i64 (m.tmod n)) := by
  refine binE_slow rfl ?_
  show pureVal P (Op.intDiv .rem .i64 m n) = _
  unfold Op.intDiv
  rw [if_neg hn]
  exact pureVal_int
theorem pureRun_then {α β : Type} {s : Sem α} {f : α → Sem β} {a : α} (h : pureRun P s = some a) : pureRun P (s >>= f) = pureRun P (f a) := by
  show pureRun P (Sem.bind s f) = _
  induction s with
  | pure b => simp [pureRun] at h; subst h; rfl
  | program k ih => exact ih P h
  | _ => simp [pureRun] at h
theorem pureRun_underlying {t : TypeId} {u : TypeDesc} (h : P.underlying t = some u) : pureRun P (underlying t) = some u := by
  show pureRun P (match P.underlying t with | some d => pure d | none => stuck "no such type") = _
  rw [h]; rfl
theorem c_int {s d : TypeId} {k k0 k' : IntKind} {n : Int} (hs : P.underlying s = some (.int k0)) (hd : P.underlying d = some (.int k')) : convE P s d (.int k n) = some (.int k' (k'.wrap n)) := by
  unfold convE; rw [hd]
  have e : pureRun P (convert s d (.int k n)) = some (.int k' (k'.wrap n)) := by
    unfold convert
    rw [pureRun_then (pureRun_underlying hs), pureRun_then (pureRun_underlying hd)]
    rfl
  show pureVal P (convert s d (.int k n)) = _
  unfold pureVal
  rw [e]
  exact force0_eq _
theorem makeFunc_def {tm : M AV} {g : FuncId} {first cap : Array Operand} {h : H} : makeFuncE tm (.func g) first cap h = (match evL tm first.toList with | some a => (match evL tm cap.toList with | some b => .ok (.fn g a b) h | none => .no) | none => .no) := by
  show (match evL tm first.toList, evL tm cap.toList with | some a, some b => RV.ok (.fn g a b) h | _, _ => .no) = _
  cases evL tm first.toList <;> cases evL tm cap.toList <;> rfl
theorem retc0 {h : H} {a t : Nat} {f : TF} {v : AV} (ha : a < 384) (hl : loadE P t (f a) h = some v) : retE P [.cell a t] (mkM f) h = .ok v h := by
  simp only [retE, resultsE, resultE, get_mkM _ _ ha, hl]
end
end Go.Ev
end

/- EvL11 -/
section
/-
  COPIES; rows that are slices, or empty at no block.
-/
namespace Go.Ev
section
variable {P : Program}
/-- A row: a slice, or an empty one at no block. -/
def Row (h : H) (v : AV) (m len : Nat) (cells : List AV) : Prop := Sl h v m len cells ∨ (len = 0 ∧ cells = [] ∧ ∃ id off esz, v = .sl id off 0 (some 0) esz)
theorem Row.up {h : H} (wf : Wf h) {v : AV} {m len : Nat} {cells : List AV} (s : Row h v m len cells) (l : List AO) (w : Nat) : Row (X h l w) v m len cells := by
  rcases s with s | s
  · exact .inl (s.up wf l w)
  · exact .inr s
theorem Row.len {h h' : H} {v : AV} {m len : Nat} {cells : List AV} (s : Row h v m len cells) {t e : TypeId} (hu : P.underlying t = some (.slice e)) : lenE P t v h' = some (.int .i64 (len : Int)) := by
  rcases s with s | ⟨rfl, rfl, id, off, esz, rfl⟩
  · exact s.len hu
  · unfold lenE; rw [hu]; rfl
theorem Row.sl {h : H} {v : AV} {m len : Nat} {cells : List AV} (s : Row h v m len cells) (h0 : len ≠ 0) : Sl h v m len cells := by
  rcases s with s | s
  · exact s
  · exact absurd s.1 h0
theorem Row.flat {h : H} {v : AV} {m len : Nat} {cells : List AV} (s : Row h v m len cells) : AV.cells v = [v] ∧ oneB v = true := by
  rcases s with ⟨_, ⟨rfl, _⟩ | ⟨_, _, _, _, _, _, rfl, _⟩⟩ | ⟨_, _, _, _, _, rfl⟩ <;> exact ⟨rfl, rfl⟩
end
end Go.Ev
end

/- EvL12 -/
section
/-
  STRUCTS OF TWO NUMBERS, HELD AGAINST ONE ANOTHER.
-/
namespace Go.Ev
section
variable {P : Program}
end
end Go.Ev
end

/- EvL14 -/
section
/-
  SLICES THAT ARE MADE; copies into shorter ones.
-/
namespace Go.Ev
section
variable {P : Program}
end
end Go.Ev
end

/- EvL15 -/
section
/-
  STRUCTS OF TWO NUMBERS THAT DIFFER; TRUTHS HELD AGAINST ONE ANOTHER.
-/
namespace Go.Ev
section
variable {P : Program}
end
end Go.Ev
end

/- EvL16 -/
section
/-
  THE EQUATIONS OF LISTS, TOGETHER.
-/
namespace Go.Ev
theorem bp : type_of% (And.intro (And.intro (And.intro (And.intro (@List.append_assoc.{0}) (@List.length_append.{0})) (And.intro (@List.length_cons.{0}) (@List.length_nil.{0}))) (And.intro (And.intro (@List.cons_append.{0}) (@List.nil_append.{0})) (And.intro (@List.append_nil.{0}) (And.intro (@List.getElem?_cons_zero.{0}) (@List.getElem?_cons_succ.{0}))))) (And.intro (And.intro (And.intro (@List.set_cons_zero.{0}) (@List.set_cons_succ.{0})) (And.intro (@List.drop_zero.{0}) (@List.drop_succ_cons.{0}))) (And.intro (And.intro (@List.take_zero.{0}) (@List.take_succ_cons.{0})) (And.intro (@List.take_nil.{0}) (And.intro (@List.drop_nil.{0}) (@List.toList_toArray.{0})))))) := And.intro (And.intro (And.intro (And.intro (@List.append_assoc.{0}) (@List.length_append.{0})) (And.intro (@List.length_cons.{0}) (@List.length_nil.{0}))) (And.intro (And.intro (@List.cons_append.{0}) (@List.nil_append.{0})) (And.intro (@List.append_nil.{0}) (And.intro (@List.getElem?_cons_zero.{0}) (@List.getElem?_cons_succ.{0}))))) (And.intro (And.intro (And.intro (@List.set_cons_zero.{0}) (@List.set_cons_succ.{0})) (And.intro (@List.drop_zero.{0}) (@List.drop_succ_cons.{0}))) (And.intro (And.intro (@List.take_zero.{0}) (@List.take_succ_cons.{0})) (And.intro (@List.take_nil.{0}) (And.intro (@List.drop_nil.{0}) (@List.toList_toArray.{0})))))

section
variable {P : Program}
/-- A slice whose cells have the size that its type says, if its room is not known. -/
def Cape (m : Nat) (a : AV) : Prop := ∀ id off l esz, a = .sl id off l none esz → esz = m
theorem Capd.cape {a : AV} (h : Capd a) (m : Nat) : Cape m a := fun id off l esz e => absurd e (h.1 id off l esz)
end
end Go.Ev
end

/- EvL19 -/
section
/-
  STRUCTS OF TWO STRUCTS OF TWO NUMBERS, HELD AGAINST ONE ANOTHER.
-/
namespace Go.Ev
section
variable {P : Program}
end
end Go.Ev
end

/- EvL17 -/
section
/-
  WHAT IS APPENDED IN A REGION OF FIXED ORDER.
-/
namespace Go.Ev
section
variable {P : Program}
end
end Go.Ev
end

/- EvL20 -/
section
/-
  SEVERAL SLICES THAT GROW SIDE BY SIDE.
-/
namespace Go.Ev
section
variable {P : Program}
/-- All that the slice v does not lie in stays. -/
def KeepsG (h : H) (B : Nat) (v : AV) (G G' : List AO) : Prop := ∀ (j : Nat) (o : AO), G[j]? = some o → (∀ a b c, v ≠ .sl (nx h (B + j)) 0 a b c) → G'[j]? = some o
theorem Grow.keep {h : H} {L0 G G' : List AO} {u v : AV} {sz e len : Nat} {cs : List AV} (g : Grow h L0 G u sz e len cs) (K : KeepsG h L0.length v G G') (hd : ∀ j a b c, u = .sl (nx h (L0.length + j)) 0 len none sz → v ≠ .sl (nx h (L0.length + j)) 0 a b c) : Grow h L0 G' u sz e len cs := by
  obtain ⟨hl, ⟨rfl, rfl⟩ | ⟨idx, rfl, hg⟩⟩ := g
  · exact ⟨hl, .inl ⟨rfl, rfl⟩⟩
  · exact ⟨hl, .inr ⟨idx, rfl, K idx _ hg fun a b c => hd idx a b c rfl⟩⟩
/-- A slice does not lie in a block of another kind. -/
theorem Grow.apart {h : H} {L0 G : List AO} {v : AV} {sz e len : Nat} {cs : List AV} (g : Grow h L0 G v sz e len cs) {j : Nat} {m' : M AV} {e' : TypeId} (hj : G[j]? = some (AO.cells m' e')) (he : e' ≠ e) : ∀ a b c, v ≠ .sl (nx h (L0.length + j)) 0 a b c := by
  intro a b c hv
  obtain ⟨hl, ⟨rfl, rfl⟩ | ⟨idx, rfl, hg⟩⟩ := g
  · cases hv
  · injection hv with h1
    have h2 := nxP_inj h1
    have : idx = j := by omega
    subst this
    rw [hj] at hg
    cases hg
    exact he rfl
end
end Go.Ev
end

/- EvsDk -/
section
/-
  The contracts of the closed parts of layers 1 to 4: their texts alone.
-/
namespace Go.Proofs.YtdaecfjljelneaaGreatDoor
open Go.Ev
noncomputable def cW : Con := ⟨26, [], [(.e, [(.int .i64 1099511627776), (.int .i64 1099511627776), (.int .i64 1099511627776)])], (.bool true), []⟩
noncomputable def cW2 : Con := ⟨27, [], [], (.bool true), []⟩
noncomputable def cW3 : Con := ⟨28, [], [], (.bool true), []⟩
noncomputable def cW4 : Con := ⟨29, [], [], (.bool true), []⟩
noncomputable def KK : List Con := [cW, cW2, cW3, cW4]
end Go.Proofs.YtdaecfjljelneaaGreatDoor
end

/- EvsF1 -/
section
/-
  LAYER 1: small functions.
-/
namespace Go.Proofs.YtdaecfjljelneaaGreatDoor
open Go.Ev
set_option maxRecDepth 100000
set_option linter.unusedSimpArgs false
set_option linter.unusedVariables false
set_option maxHeartbeats 2000000
theorem tEvsF1 : type_of% (And.intro (And.intro (And.intro (And.intro (@bs_108) (And.intro (@ia_2) (@sz_2))) (And.intro (And.intro (@ia_3) (@sz_3)) (And.intro (@ia_28) (@ia_44)))) (And.intro (And.intro (And.intro (@sz_44) (@ia_108)) (And.intro (@sz_108) (@ia_42))) (And.intro (And.intro (@sz_42) (@ia_40)) (And.intro (@ia_25) (@fo_108_0))))) (And.intro (And.intro (And.intro (@fo_108_1) (And.intro (@fo_108_2) (@fo_108_3))) (And.intro (And.intro (@fo_44_0) (@fo_44_1)) (And.intro (@fo_42_0) (@fo_42_1)))) (And.intro (And.intro (And.intro (@ze_108) (@ze_44)) (And.intro (@pb_34) (@pb_56))) (And.intro (And.intro (@pb_98) (@pb_99)) (And.intro (@pb_162) (@pb_35)))))) := And.intro (And.intro (And.intro (And.intro (@bs_108) (And.intro (@ia_2) (@sz_2))) (And.intro (And.intro (@ia_3) (@sz_3)) (And.intro (@ia_28) (@ia_44)))) (And.intro (And.intro (And.intro (@sz_44) (@ia_108)) (And.intro (@sz_108) (@ia_42))) (And.intro (And.intro (@sz_42) (@ia_40)) (And.intro (@ia_25) (@fo_108_0))))) (And.intro (And.intro (And.intro (@fo_108_1) (And.intro (@fo_108_2) (@fo_108_3))) (And.intro (And.intro (@fo_44_0) (@fo_44_1)) (And.intro (@fo_42_0) (@fo_42_1)))) (And.intro (And.intro (And.intro (@ze_108) (@ze_44)) (And.intro (@pb_34) (@pb_56))) (And.intro (And.intro (@pb_98) (@pb_99)) (And.intro (@pb_162) (@pb_35)))))
abbrev Off (y : Int) : Prop := -1000000 ≤ y ∧ y ≤ 1000000
def nextSign (s d : Int) : Int := if 0 < d then 1 else if d < 0 then 2 else s
def chg (s d : Int) : Int := if s ≠ 0 ∧ s ≠ nextSign s d then 1 else 0
abbrev ii (n : Int) : AV := .int .i64 n

theorem second (i a b s c : Int) (ha : Off a) (hb : Off b) (hc : Off c) (h : H) (wf : Wf h) :
    (om Tryz.prog KK).call (.fn 162 [.agg [ii i, ii a, ii b, ii s], ii c]) h = .ok (ii (a - 2 * b + c)) h := by
  refine WV_to (WV_call (fn := Tryz.f162) Tryz.func162 rfl rfl rfl rfl rfl ?_)
  simp only [argF]
  (repeat' (first
  | (with_reducible first | refine WC_seq ?_ | refine WC_skip ?_ | refine WC_label ?_ | refine WC_scope ?_ | refine WC_block ?_ | refine WC_ret ?_ | refine WC_exit ?_ | refine seqQ_norm ?_ | refine seqQ_ret ?_ | refine seqQ_exit ?_ | refine blkQ_norm ?_ | refine blkQ_ret ?_ | refine blkQ_here ?_ | refine gateK_yes ?_ | refine gateK_none ?_ | refine condK_tt ?_ | refine condK_ff ?_ | refine roundQ_exit ?_ | refine roundQ_ret ?_)
  | refine WC_region ?_ | refine blkQ_out rfl ?_ | refine WO_nil ?_ | refine WD_nil ?_
  | ((first | refine WD_gate rfl rfl rfl rfl rfl fun K_ hK_ => ?_ | refine WO_gate rfl rfl rfl rfl rfl fun K_ hK_ => ?_); simp only [upd_apply, asB_bool, asB_tup, ↓reduceIte, reduceCtorEq, Nat.reduceEqDiff, Bool.not_true, Bool.not_false]; refine hK_ _ ?_; clear hK_ K_)
  | refine gateK_no (by decide) ?_
  | ((try first | refine WO_op rfl rfl rfl ?_ | refine WO_op0 rfl rfl ?_ | refine WD_op rfl rfl rfl ?_ | refine WD_op0 rfl rfl ?_); (refine WV_gen fun Q_ hQ_ => ?_; simp (disch := first | omega | (simp only [List.length_cons, List.length_nil, List.length_append]; omega)) only [bb, bp, argF, ↓reduceIte, reduceCtorEq, Nat.reduceEqDiff, Nat.reduceLT, Nat.reduceLeDiff, Nat.reduceAdd, Nat.reduceMul, Nat.reduceSub, Nat.reduceBEq, Int.reduceToNat, cond_true, cond_false, eq_self, beq_self_eq_true, newPtr_X wf, load1_X wf, tEvsF1, bsl_25, newSlice_X wf]; first | (refine dec_split (Q := Q_) (fun hp_ => ?_) (fun hp_ => ?_) <;> first | (exfalso; omega) | (refine hQ_ _ _ ?_; clear hQ_ Q_)) | (refine dec_splitn (Q := Q_) (fun hp_ => ?_) (fun hp_ => ?_) <;> first | (exfalso; omega) | (refine hQ_ _ _ ?_; clear hQ_ Q_)) | (refine hQ_ _ _ ?_; clear hQ_ Q_)))
  | (refine WC_cond fun K_ hK_ => ?_; simp (disch := omega) only [evT_tmp, upd_apply, WB_some, ↓reduceIte, reduceCtorEq, Nat.reduceEqDiff, Nat.reduceLT]; refine hK_ _ ?_; clear hK_ K_)))
  (refine endQ_ret _ _ rfl (ret1 (by decide)) ?_; simp only [upd_apply, ↓reduceIte, reduceCtorEq, Nat.reduceEqDiff]; refine WV_flat rfl (by omega) ?_)
  exact ⟨rfl, rfl⟩

theorem isOffset (y : Int) (h : H) (wf : Wf h) : (om Tryz.prog KK).call (.fn 34 [ii y]) h = .ok (.bool (decide (Off y))) h := by
  refine WV_to (WV_call (fn := Tryz.f34) Tryz.func34 rfl rfl rfl rfl rfl ?_)
  simp only [argF]
  (repeat' (first
  | (with_reducible first | refine WC_seq ?_ | refine WC_skip ?_ | refine WC_label ?_ | refine WC_scope ?_ | refine WC_block ?_ | refine WC_ret ?_ | refine WC_exit ?_ | refine seqQ_norm ?_ | refine seqQ_ret ?_ | refine seqQ_exit ?_ | refine blkQ_norm ?_ | refine blkQ_ret ?_ | refine blkQ_here ?_ | refine gateK_yes ?_ | refine gateK_none ?_ | refine condK_tt ?_ | refine condK_ff ?_ | refine roundQ_exit ?_ | refine roundQ_ret ?_)
  | refine WC_region ?_ | refine blkQ_out rfl ?_ | refine WO_nil ?_ | refine WD_nil ?_
  | ((first | refine WD_gate rfl rfl rfl rfl rfl fun K_ hK_ => ?_ | refine WO_gate rfl rfl rfl rfl rfl fun K_ hK_ => ?_); simp only [upd_apply, asB_bool, asB_tup, ↓reduceIte, reduceCtorEq, Nat.reduceEqDiff, Bool.not_true, Bool.not_false]; refine hK_ _ ?_; clear hK_ K_)
  | refine gateK_no (by decide) ?_
  | ((try first | refine WO_op rfl rfl rfl ?_ | refine WO_op0 rfl rfl ?_ | refine WD_op rfl rfl rfl ?_ | refine WD_op0 rfl rfl ?_); (refine WV_gen fun Q_ hQ_ => ?_; simp (disch := first | omega | (simp only [List.length_cons, List.length_nil, List.length_append]; omega)) only [bb, bp, argF, ↓reduceIte, reduceCtorEq, Nat.reduceEqDiff, Nat.reduceLT, Nat.reduceLeDiff, Nat.reduceAdd, Nat.reduceMul, Nat.reduceSub, Nat.reduceBEq, Int.reduceToNat, cond_true, cond_false, eq_self, beq_self_eq_true]; first | (refine dec_split (Q := Q_) (fun hp_ => ?_) (fun hp_ => ?_) <;> first | (exfalso; omega) | (refine hQ_ _ _ ?_; clear hQ_ Q_)) | (refine dec_splitn (Q := Q_) (fun hp_ => ?_) (fun hp_ => ?_) <;> first | (exfalso; omega) | (refine hQ_ _ _ ?_; clear hQ_ Q_)) | (refine hQ_ _ _ ?_; clear hQ_ Q_)))
  | (refine WC_cond fun K_ hK_ => ?_; simp (disch := omega) only [evT_tmp, upd_apply, WB_some, ↓reduceIte, reduceCtorEq, Nat.reduceEqDiff, Nat.reduceLT]; refine hK_ _ ?_; clear hK_ K_)))
  all_goals (refine endQ_ret _ _ rfl (ret1 (by decide)) ?_; simp only [upd_apply, ↓reduceIte, reduceCtorEq, Nat.reduceEqDiff]; refine WV_flat rfl (by omega) ?_)
  all_goals exact ⟨by simp [*], rfl⟩

theorem bendTo (i a b s c : Int) (ha : Off a) (hb : Off b) (hc : Off c) (h : H) (wf : Wf h) :
    (om Tryz.prog KK).call (.fn 99 [.agg [ii i, ii a, ii b, ii s], ii c]) h = .ok (ii (max (a - 2 * b + c) (0 - (a - 2 * b + c)))) h := by
  refine WV_to (WV_call (fn := Tryz.f99) Tryz.func99 rfl rfl rfl rfl rfl ?_)
  simp only [argF]
  (repeat' (first
  | (with_reducible first | refine WC_seq ?_ | refine WC_skip ?_ | refine WC_label ?_ | refine WC_scope ?_ | refine WC_block ?_ | refine WC_ret ?_ | refine WC_exit ?_ | refine seqQ_norm ?_ | refine seqQ_ret ?_ | refine seqQ_exit ?_ | refine blkQ_norm ?_ | refine blkQ_ret ?_ | refine blkQ_here ?_ | refine gateK_yes ?_ | refine gateK_none ?_ | refine condK_tt ?_ | refine condK_ff ?_ | refine roundQ_exit ?_ | refine roundQ_ret ?_)
  | refine WC_region ?_ | refine blkQ_out rfl ?_ | refine WO_nil ?_ | refine WD_nil ?_
  | ((first | refine WD_gate rfl rfl rfl rfl rfl fun K_ hK_ => ?_ | refine WO_gate rfl rfl rfl rfl rfl fun K_ hK_ => ?_); simp only [upd_apply, asB_bool, asB_tup, ↓reduceIte, reduceCtorEq, Nat.reduceEqDiff, Bool.not_true, Bool.not_false]; refine hK_ _ ?_; clear hK_ K_)
  | refine gateK_no (by decide) ?_
  | ((try first | refine WO_op rfl rfl rfl ?_ | refine WO_op0 rfl rfl ?_ | refine WD_op rfl rfl rfl ?_ | refine WD_op0 rfl rfl ?_); (refine WV_gen fun Q_ hQ_ => ?_; simp (disch := first | omega | (simp only [List.length_cons, List.length_nil, List.length_append]; omega)) only [bb, bp, argF, ↓reduceIte, reduceCtorEq, Nat.reduceEqDiff, Nat.reduceLT, Nat.reduceLeDiff, Nat.reduceAdd, Nat.reduceMul, Nat.reduceSub, Nat.reduceBEq, Int.reduceToNat, cond_true, cond_false, eq_self, beq_self_eq_true, newPtr_X wf, load1_X wf, loadAgg_X wf, tEvsF1, bsl_25, newSlice_X wf]; first | (refine dec_split (Q := Q_) (fun hp_ => ?_) (fun hp_ => ?_) <;> first | (exfalso; omega) | (refine hQ_ _ _ ?_; clear hQ_ Q_)) | (refine dec_splitn (Q := Q_) (fun hp_ => ?_) (fun hp_ => ?_) <;> first | (exfalso; omega) | (refine hQ_ _ _ ?_; clear hQ_ Q_)) | (refine hQ_ _ _ ?_; clear hQ_ Q_) | (refine WV_eq (second _ _ _ _ _ (by omega) (by omega) (by omega) _ (wf.X (Nat.le_add_right _ _))) ?_; refine hQ_ _ _ ?_; clear hQ_ Q_)))
  | (refine WC_cond fun K_ hK_ => ?_; simp (disch := omega) only [evT_tmp, upd_apply, WB_some, ↓reduceIte, reduceCtorEq, Nat.reduceEqDiff, Nat.reduceLT]; refine hK_ _ ?_; clear hK_ K_)))
  (refine endQ_ret _ _ rfl (ret1 (by decide)) ?_; simp only [upd_apply, ↓reduceIte, reduceCtorEq, Nat.reduceEqDiff]; refine WV_flat rfl (by omega) ?_)
  exact ⟨rfl, rfl⟩

theorem tup_next {i b c x y : Int} {s d : Int} (e1 : x = nextSign s d) (e2 : y = chg s d) : AV.tup [.agg [ii i, ii b, ii c, ii x], ii y] = .tup [.agg [ii i, ii b, ii c, ii (nextSign s d)], ii (chg s d)] := by rw [e1, e2]
theorem next (i a b s c : Int) (hi : 0 ≤ i ∧ i ≤ 1000000) (ha : Off a) (hb : Off b) (hc : Off c) (h : H) (wf : Wf h) :
    (om Tryz.prog KK).call (.fn 98 [.agg [ii i, ii a, ii b, ii s], ii c]) h = .ok (.tup [.agg [ii (i + 1), ii b, ii c, ii (nextSign s (a - 2 * b + c))], ii (chg s (a - 2 * b + c))]) h := by
  refine WV_to (WV_call (fn := Tryz.f98) Tryz.func98 rfl rfl rfl rfl rfl ?_)
  simp only [argF]
  (repeat' (first
  | (with_reducible first | refine WC_seq ?_ | refine WC_skip ?_ | refine WC_label ?_ | refine WC_scope ?_ | refine WC_block ?_ | refine WC_ret ?_ | refine WC_exit ?_ | refine seqQ_norm ?_ | refine seqQ_ret ?_ | refine seqQ_exit ?_ | refine blkQ_norm ?_ | refine blkQ_ret ?_ | refine blkQ_here ?_ | refine gateK_yes ?_ | refine gateK_none ?_ | refine condK_tt ?_ | refine condK_ff ?_ | refine roundQ_exit ?_ | refine roundQ_ret ?_)
  | refine WC_region ?_ | refine blkQ_out rfl ?_ | refine WO_nil ?_ | refine WD_nil ?_
  | ((first | refine WD_gate rfl rfl rfl rfl rfl fun K_ hK_ => ?_ | refine WO_gate rfl rfl rfl rfl rfl fun K_ hK_ => ?_); simp only [upd_apply, asB_bool, asB_tup, ↓reduceIte, reduceCtorEq, Nat.reduceEqDiff, Bool.not_true, Bool.not_false]; refine hK_ _ ?_; clear hK_ K_)
  | refine gateK_no (by decide) ?_
  | ((try first | refine WO_op rfl rfl rfl ?_ | refine WO_op0 rfl rfl ?_ | refine WD_op rfl rfl rfl ?_ | refine WD_op0 rfl rfl ?_); (refine WV_gen fun Q_ hQ_ => ?_; simp (disch := first | omega | (simp only [List.length_cons, List.length_nil, List.length_append]; omega)) only [bb, bp, argF, ↓reduceIte, reduceCtorEq, Nat.reduceEqDiff, Nat.reduceLT, Nat.reduceLeDiff, Nat.reduceAdd, Nat.reduceMul, Nat.reduceSub, Nat.reduceBEq, Int.reduceToNat, cond_true, cond_false, eq_self, beq_self_eq_true, newPtr_X wf, load1_X wf, loadAgg_X wf, store1_X wf, writeCells_X wf, tEvsF1, bsl_25, newSlice_X wf]; first | (refine dec_split (Q := Q_) (fun hp_ => ?_) (fun hp_ => ?_) <;> first | (exfalso; omega) | (refine hQ_ _ _ ?_; clear hQ_ Q_)) | (refine dec_splitn (Q := Q_) (fun hp_ => ?_) (fun hp_ => ?_) <;> first | (exfalso; omega) | (refine hQ_ _ _ ?_; clear hQ_ Q_)) | (refine hQ_ _ _ ?_; clear hQ_ Q_) | (refine WV_eq (second _ _ _ _ _ (by omega) (by omega) (by omega) _ (wf.X (Nat.le_add_right _ _))) ?_; refine hQ_ _ _ ?_; clear hQ_ Q_)))
  | (refine WC_cond fun K_ hK_ => ?_; simp (disch := omega) only [evT_tmp, upd_apply, WB_some, ↓reduceIte, reduceCtorEq, Nat.reduceEqDiff, Nat.reduceLT]; refine hK_ _ ?_; clear hK_ K_)))
  all_goals (refine endQ_ret _ _ rfl (retc1 (by decide) (by decide) (by simp (disch := first | omega | (simp only [List.length_cons, List.length_nil, List.length_append]; omega)) only [bb, bp, argF, ↓reduceIte, reduceCtorEq, Nat.reduceEqDiff, Nat.reduceLT, Nat.reduceLeDiff, Nat.reduceAdd, Nat.reduceMul, Nat.reduceSub, Nat.reduceBEq, Int.reduceToNat, cond_true, cond_false, eq_self, beq_self_eq_true, loadAgg_X wf, tEvsF1, bsl_25, newSlice_X wf]; rfl)) ?_; simp only [upd_apply, ↓reduceIte, reduceCtorEq, Nat.reduceEqDiff]; refine WV_flat rfl (by omega) ?_)
  all_goals exact ⟨tup_next (by unfold nextSign; repeat' split
                                all_goals omega) (by unfold chg nextSign; repeat' split
                                                     all_goals omega), rfl⟩
end Go.Proofs.YtdaecfjljelneaaGreatDoor
end

/- EvsF2 -/
section
/-
  LAYER 1: sums, and what a line measures.
-/
namespace Go.Proofs.YtdaecfjljelneaaGreatDoor
open Go.Ev
set_option maxRecDepth 100000
set_option linter.unusedSimpArgs false
set_option linter.unusedVariables false

theorem tEvsF2 : type_of% (And.intro (And.intro (And.intro (And.intro (@bs_108) (And.intro (@ia_2) (@sz_2))) (And.intro (And.intro (@ia_3) (@sz_3)) (And.intro (@ia_28) (@ia_44)))) (And.intro (And.intro (And.intro (@sz_44) (@ia_108)) (And.intro (@sz_108) (@ia_42))) (And.intro (And.intro (@sz_42) (@ia_40)) (And.intro (@ia_25) (@fo_108_0))))) (And.intro (And.intro (And.intro (@fo_108_1) (And.intro (@fo_108_2) (@fo_108_3))) (And.intro (And.intro (@fo_44_0) (@fo_44_1)) (And.intro (@fo_42_0) (@fo_42_1)))) (And.intro (And.intro (And.intro (@ze_108) (@ze_44)) (And.intro (@pb_34) (@pb_56))) (And.intro (And.intro (@pb_98) (@pb_99)) (And.intro (@pb_162) (@pb_35)))))) := And.intro (And.intro (And.intro (And.intro (@bs_108) (And.intro (@ia_2) (@sz_2))) (And.intro (And.intro (@ia_3) (@sz_3)) (And.intro (@ia_28) (@ia_44)))) (And.intro (And.intro (And.intro (@sz_44) (@ia_108)) (And.intro (@sz_108) (@ia_42))) (And.intro (And.intro (@sz_42) (@ia_40)) (And.intro (@ia_25) (@fo_108_0))))) (And.intro (And.intro (And.intro (@fo_108_1) (And.intro (@fo_108_2) (@fo_108_3))) (And.intro (And.intro (@fo_44_0) (@fo_44_1)) (And.intro (@fo_42_0) (@fo_42_1)))) (And.intro (And.intro (And.intro (@ze_108) (@ze_44)) (And.intro (@pb_34) (@pb_56))) (And.intro (And.intro (@pb_98) (@pb_99)) (And.intro (@pb_162) (@pb_35)))))
def wsum (xs : List Int) : Int := xs.foldl (fun a x => IntKind.i64.wrap (a + x)) 0
theorem wsum_take (xs : List Int) (k : Nat) (hk : k < xs.length) : wsum (xs.take (k + 1)) = IntKind.i64.wrap (wsum (xs.take k) + xs[k]) := by
  unfold wsum
  rw [List.take_succ_eq_append_getElem hk, List.foldl_append]; rfl
theorem map_get {xs : List Int} {k : Nat} (hk : k < xs.length) : (xs.map ii)[k]? = some (ii xs[k]) := by simp [hk]

theorem sum (xs : List Int) (a : AV) (hn : xs.length ≤ 1000000) (h : H) (wf : Wf h) (hs : Sl h a 1 xs.length (xs.map ii)) :
    (om Tryz.prog KK).call (.fn 56 [a]) h = .ok (ii (wsum xs)) h := by
  refine WV_to (WV_call (fn := Tryz.f56) Tryz.func56 rfl rfl rfl rfl rfl ?_)
  simp only [argF]
  have hlen : ∀ h', lenE Tryz.prog 25 a h' = some (ii (xs.length : Int)) := fun h' => hs.len un_25
  (repeat' (first
  | (with_reducible first | refine WC_seq ?_ | refine WC_skip ?_ | refine WC_label ?_ | refine WC_scope ?_ | refine WC_block ?_ | refine WC_ret ?_ | refine WC_exit ?_ | refine seqQ_norm ?_ | refine seqQ_ret ?_ | refine seqQ_exit ?_ | refine blkQ_norm ?_ | refine blkQ_ret ?_ | refine blkQ_here ?_ | refine gateK_yes ?_ | refine gateK_none ?_ | refine condK_tt ?_ | refine condK_ff ?_ | refine roundQ_exit ?_ | refine roundQ_ret ?_)
  | refine WC_region ?_ | refine blkQ_out rfl ?_ | refine WO_nil ?_ | refine WD_nil ?_
  | ((first | refine WD_gate rfl rfl rfl rfl rfl fun K_ hK_ => ?_ | refine WO_gate rfl rfl rfl rfl rfl fun K_ hK_ => ?_); simp only [upd_apply, asB_bool, asB_tup, ↓reduceIte, reduceCtorEq, Nat.reduceEqDiff, Bool.not_true, Bool.not_false]; refine hK_ _ ?_; clear hK_ K_)
  | refine gateK_no (by decide) ?_
  | ((try first | refine WO_op rfl rfl rfl ?_ | refine WO_op0 rfl rfl ?_ | refine WD_op rfl rfl rfl ?_ | refine WD_op0 rfl rfl ?_); (refine WV_gen fun Q_ hQ_ => ?_; simp (disch := first | omega | (simp only [List.length_cons, List.length_nil, List.length_append]; omega)) only [bb, bp, argF, ↓reduceIte, reduceCtorEq, Nat.reduceEqDiff, Nat.reduceLT, Nat.reduceLeDiff, Nat.reduceAdd, Nat.reduceMul, Nat.reduceSub, Nat.reduceBEq, Int.reduceToNat, cond_true, cond_false, eq_self, beq_self_eq_true, hlen, tEvsF2, bsl_25, newSlice_X wf]; first | (refine dec_split (Q := Q_) (fun hp_ => ?_) (fun hp_ => ?_) <;> first | (exfalso; omega) | (refine hQ_ _ _ ?_; clear hQ_ Q_)) | (refine dec_splitn (Q := Q_) (fun hp_ => ?_) (fun hp_ => ?_) <;> first | (exfalso; omega) | (refine hQ_ _ _ ?_; clear hQ_ Q_)) | (refine hQ_ _ _ ?_; clear hQ_ Q_)))
  | (refine WC_cond fun K_ hK_ => ?_; simp (disch := omega) only [evT_tmp, upd_apply, WB_some, ↓reduceIte, reduceCtorEq, Nat.reduceEqDiff, Nat.reduceLT]; refine hK_ _ ?_; clear hK_ K_)))
  refine WC_loop (fun (k : Nat) f d h' => k ≤ xs.length ∧ f 6 = a ∧ f 7 = ii (xs.length : Int) ∧ f 8 = ii (k : Int) ∧ f 3 = ii (wsum (xs.take k)) ∧ d = [] ∧ h' = X h [] h.clock) (fun k => xs.length - k) ?_ (xs.length + 1) 0 (by omega) ?_
  · rintro k f d h' ⟨hk, h6, h7, h8, h3, rfl, rfl⟩
    by_cases hlt : k < xs.length
    · obtain ⟨id, off, hix, hld⟩ := hs.at1 wf hlt ik_25
      rw [map_get hlt] at hld
      have hw := wsum_take xs k hlt
      (repeat' (first
  | (with_reducible first | refine WC_seq ?_ | refine WC_skip ?_ | refine WC_label ?_ | refine WC_scope ?_ | refine WC_block ?_ | refine WC_ret ?_ | refine WC_exit ?_ | refine seqQ_norm ?_ | refine seqQ_ret ?_ | refine seqQ_exit ?_ | refine blkQ_norm ?_ | refine blkQ_ret ?_ | refine blkQ_here ?_ | refine gateK_yes ?_ | refine gateK_none ?_ | refine condK_tt ?_ | refine condK_ff ?_ | refine roundQ_exit ?_ | refine roundQ_ret ?_)
  | refine WC_region ?_ | refine blkQ_out rfl ?_ | refine WO_nil ?_ | refine WD_nil ?_
  | ((first | refine WD_gate rfl rfl rfl rfl rfl fun K_ hK_ => ?_ | refine WO_gate rfl rfl rfl rfl rfl fun K_ hK_ => ?_); simp only [upd_apply, asB_bool, asB_tup, ↓reduceIte, reduceCtorEq, Nat.reduceEqDiff, Bool.not_true, Bool.not_false]; refine hK_ _ ?_; clear hK_ K_)
  | refine gateK_no (by decide) ?_
  | ((try first | refine WO_op rfl rfl rfl ?_ | refine WO_op0 rfl rfl ?_ | refine WD_op rfl rfl rfl ?_ | refine WD_op0 rfl rfl ?_); (refine WV_gen fun Q_ hQ_ => ?_; simp (disch := first | omega | (simp only [List.length_cons, List.length_nil, List.length_append]; omega)) only [bb, bp, argF, ↓reduceIte, reduceCtorEq, Nat.reduceEqDiff, Nat.reduceLT, Nat.reduceLeDiff, Nat.reduceAdd, Nat.reduceMul, Nat.reduceSub, Nat.reduceBEq, Int.reduceToNat, cond_true, cond_false, eq_self, beq_self_eq_true, h6, h7, h8, h3, hix, hld, tEvsF2, bsl_25, newSlice_X wf]; first | (refine dec_split (Q := Q_) (fun hp_ => ?_) (fun hp_ => ?_) <;> first | (exfalso; omega) | (refine hQ_ _ _ ?_; clear hQ_ Q_)) | (refine dec_splitn (Q := Q_) (fun hp_ => ?_) (fun hp_ => ?_) <;> first | (exfalso; omega) | (refine hQ_ _ _ ?_; clear hQ_ Q_)) | (refine hQ_ _ _ ?_; clear hQ_ Q_)))
  | (refine WC_cond fun K_ hK_ => ?_; simp (disch := omega) only [evT_tmp, upd_apply, WB_some, ↓reduceIte, reduceCtorEq, Nat.reduceEqDiff, Nat.reduceLT]; refine hK_ _ ?_; clear hK_ K_)))
      exact roundQ_again (k + 1) (by omega) ⟨hlt, by simp only [upd_apply, ↓reduceIte, reduceCtorEq, Nat.reduceEqDiff]; exact h6, by simp only [upd_apply, ↓reduceIte, reduceCtorEq, Nat.reduceEqDiff]; exact h7, by simp only [upd_apply, ↓reduceIte, reduceCtorEq, Nat.reduceEqDiff]; rfl, by simp only [upd_apply, ↓reduceIte, reduceCtorEq, Nat.reduceEqDiff]; rw [hw], rfl, rfl⟩
    · have hkl : k = xs.length := by omega
      subst hkl
      rw [List.take_length] at h3
      (repeat' (first
  | (with_reducible first | refine WC_seq ?_ | refine WC_skip ?_ | refine WC_label ?_ | refine WC_scope ?_ | refine WC_block ?_ | refine WC_ret ?_ | refine WC_exit ?_ | refine seqQ_norm ?_ | refine seqQ_ret ?_ | refine seqQ_exit ?_ | refine blkQ_norm ?_ | refine blkQ_ret ?_ | refine blkQ_here ?_ | refine gateK_yes ?_ | refine gateK_none ?_ | refine condK_tt ?_ | refine condK_ff ?_ | refine roundQ_exit ?_ | refine roundQ_ret ?_)
  | refine WC_region ?_ | refine blkQ_out rfl ?_ | refine WO_nil ?_ | refine WD_nil ?_
  | ((first | refine WD_gate rfl rfl rfl rfl rfl fun K_ hK_ => ?_ | refine WO_gate rfl rfl rfl rfl rfl fun K_ hK_ => ?_); simp only [upd_apply, asB_bool, asB_tup, ↓reduceIte, reduceCtorEq, Nat.reduceEqDiff, Bool.not_true, Bool.not_false]; refine hK_ _ ?_; clear hK_ K_)
  | refine gateK_no (by decide) ?_
  | ((try first | refine WO_op rfl rfl rfl ?_ | refine WO_op0 rfl rfl ?_ | refine WD_op rfl rfl rfl ?_ | refine WD_op0 rfl rfl ?_); (refine WV_gen fun Q_ hQ_ => ?_; simp (disch := first | omega | (simp only [List.length_cons, List.length_nil, List.length_append]; omega)) only [bb, bp, argF, ↓reduceIte, reduceCtorEq, Nat.reduceEqDiff, Nat.reduceLT, Nat.reduceLeDiff, Nat.reduceAdd, Nat.reduceMul, Nat.reduceSub, Nat.reduceBEq, Int.reduceToNat, cond_true, cond_false, eq_self, beq_self_eq_true, h6, h7, h8, h3, tEvsF2, bsl_25, newSlice_X wf]; first | (refine dec_split (Q := Q_) (fun hp_ => ?_) (fun hp_ => ?_) <;> first | (exfalso; omega) | (refine hQ_ _ _ ?_; clear hQ_ Q_)) | (refine dec_splitn (Q := Q_) (fun hp_ => ?_) (fun hp_ => ?_) <;> first | (exfalso; omega) | (refine hQ_ _ _ ?_; clear hQ_ Q_)) | (refine hQ_ _ _ ?_; clear hQ_ Q_)))
  | (refine WC_cond fun K_ hK_ => ?_; simp (disch := omega) only [evT_tmp, upd_apply, WB_some, ↓reduceIte, reduceCtorEq, Nat.reduceEqDiff, Nat.reduceLT]; refine hK_ _ ?_; clear hK_ K_)))
      (refine endQ_ret _ _ rfl (ret1 (by decide)) ?_; simp only [upd_apply, ↓reduceIte, reduceCtorEq, Nat.reduceEqDiff]; refine WV_flat rfl (by omega) ?_)
      exact ⟨rfl, rfl⟩
  · refine ⟨Nat.zero_le _, by simp only [upd_apply, ↓reduceIte, reduceCtorEq, Nat.reduceEqDiff], by simp only [upd_apply, ↓reduceIte, reduceCtorEq, Nat.reduceEqDiff], by simp only [upd_apply, ↓reduceIte, reduceCtorEq, Nat.reduceEqDiff]; rfl, by simp only [upd_apply, ↓reduceIte, reduceCtorEq, Nat.reduceEqDiff]; rfl, rfl, rfl⟩
end Go.Proofs.YtdaecfjljelneaaGreatDoor
end

/- EvL25 -/
section
/-
  SLICES OF UNKNOWN CAPACITY: what is cut off in front.
-/
namespace Go.Ev
variable {P : Program}
/-- A slice's capacity, when it is known, is not less than its length. -/
def CapL (a : AV) : Prop := ∀ id off l c esz, a = .sl id off l (some c) esz → l ≤ c
/-- What is known of a slice that is cut, or measured: its capacity is not less than its length, or is unknown, and then its elements are as large as they say. -/
def CapU (m : Nat) (a : AV) : Prop := CapL a ∧ Cape m a
theorem Capd.capu {a : AV} (h : Capd a) (m : Nat) : CapU m a := ⟨h.2, h.cape m⟩
theorem Sl.fromU {h : H} {a : AV} {m len : Nat} {cells : List AV} (s : Sl h a m len cells) {k : Nat} (hk : k ≤ len) {t e : TypeId} (hu : P.underlying t = some (.slice e)) (hz : sizeE P e = some m) (hm : 0 < m) (hc : CapU m a) :
    ∃ b, sliceE P t (reszT P t a) (some k) none none = some b ∧ Sl h b m (len - k) (cells.drop (k * m)) := by
  by_cases hn : ∃ id off l esz, a = .sl id off l none esz
  · obtain ⟨id0, off0, l0, esz0, e0⟩ := hn
    obtain ⟨hl, ⟨rfl, rfl⟩ | ⟨id, off, cap, esz, o, cs, rfl, hg, hcs, hx⟩⟩ := s
    · cases e0
    · injection e0 with e1 e2 e3 e4 e5
      subst e4
      have he : esz = m := hc.2 _ _ _ _ rfl
      subst he
      have hr : reszT P t (.sl id off len none esz) = .sl id off len none esz := by unfold reszT; rw [hu]; dsimp only; rw [hz]; rfl
      rw [hr]
      clear hr
      have hb : boundsE len none (some k) none none = some (k, len, none) := by
        unfold boundsE
        show (bif Nat.ble len len && Nat.ble k len then some (k, len, (none : Option Nat)) else none) = _
        rw [Nat.ble_eq_true_of_le (Nat.le_refl _), Nat.ble_eq_true_of_le hk]; rfl
      have hof : sliceOf id off esz (some (k, len, none)) = some (.sl id (off + k * esz) (len - k) none esz) := by
        match k, hk with
        | 0, _ => show some (AV.sl id off len none esz) = _; rw [Nat.zero_mul, Nat.add_zero, Nat.sub_zero]
        | k + 1, _ =>
          show (bif Nat.beq (off + (k + 1) * esz) 0 then none else some (AV.sl id (off + (k + 1) * esz) (len - (k + 1)) none esz)) = _
          have : off + (k + 1) * esz ≠ 0 := by have := Nat.mul_pos (Nat.succ_pos k) hm; rw [Nat.succ_eq_add_one] at this; omega
          rw [show Nat.beq (off + (k + 1) * esz) 0 = false from by cases hb : Nat.beq (off + (k + 1) * esz) 0 with | false => rfl | true => exact absurd (Nat.eq_of_beq_eq_true hb) this]; rfl
      refine ⟨.sl id (off + k * esz) (len - k) none esz, ?_, ?_, .inr ⟨_, _, _, _, o, cs, rfl, hg, hcs, fun j hj => ?_⟩⟩
      · unfold sliceE; rw [hu]; dsimp only; rw [hz]; dsimp only
        rw [show Nat.beq esz esz = true from Nat.beq_refl esz, hb]; exact hof
      · rw [List.length_drop, hl, Nat.sub_mul]
      · have hmul : k * esz ≤ len * esz := Nat.mul_le_mul_right _ hk
        rw [List.getElem?_drop]
        have hj' : k * esz + j < len * esz := by rw [Nat.sub_mul] at hj; omega
        have := hx (k * esz + j) hj'
        rw [← this, Nat.add_assoc]
  · exact s.from hk hu hz (fun id off l esz e => hn ⟨id, off, l, esz, e⟩) hc.1
end Go.Ev
end

/- EvsF3 -/
section
/-
  LAYER 1: what a line measures, by the program.
-/
namespace Go.Proofs.YtdaecfjljelneaaGreatDoor
open Go.Ev
set_option maxRecDepth 100000
set_option linter.unusedSimpArgs false
set_option linter.unusedVariables false

theorem tEvsF3 : type_of% (And.intro (And.intro (And.intro (And.intro (@bs_108) (And.intro (@ia_2) (@sz_2))) (And.intro (And.intro (@ia_3) (@sz_3)) (And.intro (@ia_28) (@ia_44)))) (And.intro (And.intro (And.intro (@sz_44) (@ia_108)) (And.intro (@sz_108) (@ia_42))) (And.intro (And.intro (@sz_42) (@ia_40)) (And.intro (@ia_25) (@fo_108_0))))) (And.intro (And.intro (And.intro (@fo_108_1) (And.intro (@fo_108_2) (@fo_108_3))) (And.intro (And.intro (@fo_44_0) (@fo_44_1)) (And.intro (@fo_42_0) (@fo_42_1)))) (And.intro (And.intro (And.intro (@ze_108) (@ze_44)) (And.intro (@pb_34) (@pb_56))) (And.intro (And.intro (@pb_98) (@pb_99)) (And.intro (@pb_162) (@pb_35)))))) := And.intro (And.intro (And.intro (And.intro (@bs_108) (And.intro (@ia_2) (@sz_2))) (And.intro (And.intro (@ia_3) (@sz_3)) (And.intro (@ia_28) (@ia_44)))) (And.intro (And.intro (And.intro (@sz_44) (@ia_108)) (And.intro (@sz_108) (@ia_42))) (And.intro (And.intro (@sz_42) (@ia_40)) (And.intro (@ia_25) (@fo_108_0))))) (And.intro (And.intro (And.intro (@fo_108_1) (And.intro (@fo_108_2) (@fo_108_3))) (And.intro (And.intro (@fo_44_0) (@fo_44_1)) (And.intro (@fo_42_0) (@fo_42_1)))) (And.intro (And.intro (And.intro (@ze_108) (@ze_44)) (And.intro (@pb_34) (@pb_56))) (And.intro (And.intro (@pb_98) (@pb_99)) (And.intro (@pb_162) (@pb_35)))))
structure St5 where
  a : Int
  b : Int
  s : Int
  ch : Int
  be : Int
def St5.d (t : St5) (c : Int) : Int := t.a - 2 * t.b + c
def mstep (t : St5) (c : Int) : St5 := ⟨t.b, c, nextSign t.s (t.d c), t.ch + chg t.s (t.d c), t.be + max (t.d c) (0 - t.d c)⟩
def mfold (a b : Int) (r : List Int) : St5 := r.foldl mstep ⟨a, b, 0, 0, 0⟩
theorem mfold_snoc (a b : Int) (r : List Int) (c : Int) : mfold a b (r ++ [c]) = mstep (mfold a b r) c := by unfold mfold; rw [List.foldl_append]; rfl
theorem mfold_take (a b : Int) (r : List Int) (k : Nat) (hk : k < r.length) : mfold a b (r.take (k + 1)) = mstep (mfold a b (r.take k)) r[k] := by
  rw [List.take_succ_eq_append_getElem hk, mfold_snoc]
theorem chg_01 (s d : Int) : 0 ≤ chg s d ∧ chg s d ≤ 1 := by unfold chg; split <;> omega
structure St5.In (t : St5) (k : Nat) : Prop where
  a : Off t.a
  b : Off t.b
  ch0 : 0 ≤ t.ch
  ch1 : t.ch ≤ k
  be0 : 0 ≤ t.be
  be1 : t.be ≤ 4000000 * k
theorem mfold_in {a b : Int} {r : List Int} (ha : Off a) (hb : Off b) (hr : ∀ x ∈ r, Off x) : ∀ k, k ≤ r.length → (mfold a b (r.take k)).In k
  | 0, _ => by rw [List.take_zero]; exact ⟨ha, hb, Int.le_refl 0, Int.le_refl 0, Int.le_refl 0, Int.le_refl 0⟩
  | k + 1, hk => by
    have ih := mfold_in ha hb hr k (by omega)
    have hc : Off r[k] := hr _ (List.getElem_mem _)
    rw [mfold_take a b r k hk]
    have h1 := chg_01 (mfold a b (r.take k)).s ((mfold a b (r.take k)).d r[k])
    obtain ⟨i1, i2, i3, i4, i5, i6⟩ := ih
    have hd : -4000000 ≤ (mfold a b (r.take k)).d r[k] ∧ (mfold a b (r.take k)).d r[k] ≤ 4000000 := by
      unfold St5.d
      obtain ⟨x1, x2⟩ := i1; obtain ⟨y1, y2⟩ := i2; obtain ⟨z1, z2⟩ := hc
      omega
    exact ⟨i2, hc, by simp only [mstep]; omega, by simp only [mstep]; push_cast; omega, by simp only [mstep]; omega, by simp only [mstep]; push_cast; omega⟩

theorem sum2 {x y : Int} {h0 : H} (wf : Wf h0) {l : List AO} {w k e cap : Nat} (hk : l[k]? = some (.cells (mkCells [ii x, ii y]) e)) (hw : w ≤ h0.clock + l.length) (hx : -1000000000000000000 ≤ x ∧ x ≤ 1000000000000000000) (hy : -1000000000000000000 ≤ y ∧ y ≤ 1000000000000000000) :
    (om Tryz.prog KK).call (.fn 56 [.sl (nx h0 k) 0 2 (some cap) 1]) (X h0 l w) = .ok (ii (x + y)) (X h0 l w) := by
  have := sum [x, y] (.sl (nx h0 k) 0 2 (some cap) 1) (by simp) (X h0 l w) (wf.X hw) (Sl.new wf rfl hk)
  have e : wsum [x, y] = x + y := by
    show IntKind.i64.wrap (IntKind.i64.wrap (0 + x) + y) = _
    rw [wrap_in (0 + x) (by omega) (by omega), wrap_in _ (by omega) (by omega)]; omega
  rw [e] at this
  exact this

theorem measure (a0 b0 : Int) (r : List Int) (a : AV) (hn : r.length ≤ 1000000) (ha : Off a0) (hb : Off b0) (hr : ∀ x ∈ r, Off x) (hc : CapU 1 a) (h : H) (wf : Wf h) (hs : Sl h a 1 (r.length + 2) ((a0 :: b0 :: r).map ii)) :
    (om Tryz.prog KK).call (.fn 35 [a]) h = .ok (.tup [ii (mfold a0 b0 r).ch, ii (mfold a0 b0 r).be]) h := by
  refine WV_to (WV_call (fn := Tryz.f35) Tryz.func35 rfl rfl rfl rfl rfl ?_)
  simp only [argF]
  have hlen : ∀ h', lenE Tryz.prog 25 a h' = some (ii ((r.length + 2 : Nat) : Int)) := fun h' => hs.len un_25
  obtain ⟨i0, o0, hx0, hl0⟩ := hs.at1 wf (i := 0) (by omega) ik_25
  obtain ⟨i1, o1, hx1, hl1⟩ := hs.at1 wf (i := 1) (by omega) ik_25
  obtain ⟨b, hsl, hb'⟩ := hs.fromU (P := Tryz.prog) (k := 2) (by omega) un_25 sz_2 (by omega) hc
  have hx0' : indexAddrE Tryz.prog 25 a (.int .i64 0) = some (.ptr i0 o0) := hx0
  have hx1' : indexAddrE Tryz.prog 25 a (.int .i64 1) = some (.ptr i1 o1) := hx1
  have hl0' : ∀ l w, load1 i0 o0 (X h l w) = some (ii a0) := hl0
  have hl1' : ∀ l w, load1 i1 o1 (X h l w) = some (ii b0) := hl1
  have hb2 : Sl h b 1 r.length (r.map ii) := hb'
  have hlb : ∀ h', lenE Tryz.prog 25 b h' = some (ii (r.length : Int)) := fun h' => hb2.len un_25
  clear hx0 hx1 hl0 hl1 hb'
  (repeat' (first
  | (with_reducible first | refine WC_seq ?_ | refine WC_skip ?_ | refine WC_label ?_ | refine WC_scope ?_ | refine WC_block ?_ | refine WC_ret ?_ | refine WC_exit ?_ | refine seqQ_norm ?_ | refine seqQ_ret ?_ | refine seqQ_exit ?_ | refine blkQ_norm ?_ | refine blkQ_ret ?_ | refine blkQ_here ?_ | refine gateK_yes ?_ | refine gateK_none ?_ | refine condK_tt ?_ | refine condK_ff ?_ | refine roundQ_exit ?_ | refine roundQ_ret ?_)
  | refine WC_region ?_ | refine blkQ_out rfl ?_ | refine WO_nil ?_ | refine WD_nil ?_
  | ((first | refine WD_gate rfl rfl rfl rfl rfl fun K_ hK_ => ?_ | refine WO_gate rfl rfl rfl rfl rfl fun K_ hK_ => ?_); simp only [upd_apply, asB_bool, asB_tup, ↓reduceIte, reduceCtorEq, Nat.reduceEqDiff, Bool.not_true, Bool.not_false]; refine hK_ _ ?_; clear hK_ K_)
  | refine gateK_no (by decide) ?_
  | ((try first | refine WO_op rfl rfl rfl ?_ | refine WO_op0 rfl rfl ?_ | refine WD_op rfl rfl rfl ?_ | refine WD_op0 rfl rfl ?_); (refine WV_gen fun Q_ hQ_ => ?_; simp (disch := first | omega | (simp only [List.length_cons, List.length_nil, List.length_append]; omega)) only [bb, bp, argF, ↓reduceIte, reduceCtorEq, Nat.reduceEqDiff, Nat.reduceLT, Nat.reduceLeDiff, Nat.reduceAdd, Nat.reduceMul, Nat.reduceSub, Nat.reduceBEq, Int.reduceToNat, cond_true, cond_false, eq_self, beq_self_eq_true, hlen, tEvsF3, bsl_25, newSlice_X wf]; first | (refine dec_split (Q := Q_) (fun hp_ => ?_) (fun hp_ => ?_) <;> first | (exfalso; omega) | (refine hQ_ _ _ ?_; clear hQ_ Q_)) | (refine dec_splitn (Q := Q_) (fun hp_ => ?_) (fun hp_ => ?_) <;> first | (exfalso; omega) | (refine hQ_ _ _ ?_; clear hQ_ Q_)) | (refine hQ_ _ _ ?_; clear hQ_ Q_)))
  | (refine WC_cond fun K_ hK_ => ?_; simp (disch := omega) only [evT_tmp, upd_apply, WB_some, ↓reduceIte, reduceCtorEq, Nat.reduceEqDiff, Nat.reduceLT]; refine hK_ _ ?_; clear hK_ K_)))
  refine WC_drawnB [.no, .no, .no, .no, .no, .no, .no, .no, .full] (by kernel_rfl) ?_
  (repeat' (first
  | (with_reducible first | refine WC_seq ?_ | refine WC_skip ?_ | refine WC_label ?_ | refine WC_scope ?_ | refine WC_block ?_ | refine WC_ret ?_ | refine WC_exit ?_ | refine seqQ_norm ?_ | refine seqQ_ret ?_ | refine seqQ_exit ?_ | refine blkQ_norm ?_ | refine blkQ_ret ?_ | refine blkQ_here ?_ | refine gateK_yes ?_ | refine gateK_none ?_ | refine condK_tt ?_ | refine condK_ff ?_ | refine roundQ_exit ?_ | refine roundQ_ret ?_)
  | refine WC_region ?_ | refine blkQ_out rfl ?_ | refine WO_nil ?_ | refine WD_nil ?_
  | ((first | refine WD_gate rfl rfl rfl rfl rfl fun K_ hK_ => ?_ | refine WO_gate rfl rfl rfl rfl rfl fun K_ hK_ => ?_); simp only [upd_apply, asB_bool, asB_tup, ↓reduceIte, reduceCtorEq, Nat.reduceEqDiff, Bool.not_true, Bool.not_false]; refine hK_ _ ?_; clear hK_ K_)
  | refine gateK_no (by decide) ?_
  | ((try first | refine WO_op rfl rfl rfl ?_ | refine WO_op0 rfl rfl ?_ | refine WD_op rfl rfl rfl ?_ | refine WD_op0 rfl rfl ?_); (refine WV_gen fun Q_ hQ_ => ?_; simp (disch := first | omega | (simp only [List.length_cons, List.length_nil, List.length_append]; omega)) only [bb, bp, argF, ↓reduceIte, reduceCtorEq, Nat.reduceEqDiff, Nat.reduceLT, Nat.reduceLeDiff, Nat.reduceAdd, Nat.reduceMul, Nat.reduceSub, Nat.reduceBEq, Int.reduceToNat, cond_true, cond_false, eq_self, beq_self_eq_true, hx0', hx1', hl0', hl1', newPtr_X wf, load1_X wf, loadAgg_X wf, store1_X wf, writeCells_X wf, tEvsF3, bsl_25, newSlice_X wf]; first | (refine dec_split (Q := Q_) (fun hp_ => ?_) (fun hp_ => ?_) <;> first | (exfalso; omega) | (refine hQ_ _ _ ?_; clear hQ_ Q_)) | (refine dec_splitn (Q := Q_) (fun hp_ => ?_) (fun hp_ => ?_) <;> first | (exfalso; omega) | (refine hQ_ _ _ ?_; clear hQ_ Q_)) | (refine hQ_ _ _ ?_; clear hQ_ Q_)))
  | (refine WC_cond fun K_ hK_ => ?_; simp (disch := omega) only [evT_tmp, upd_apply, WB_some, ↓reduceIte, reduceCtorEq, Nat.reduceEqDiff, Nat.reduceLT]; refine hK_ _ ?_; clear hK_ K_)))
  (repeat' (first
  | (with_reducible first | refine WC_seq ?_ | refine WC_skip ?_ | refine WC_label ?_ | refine WC_scope ?_ | refine WC_block ?_ | refine WC_ret ?_ | refine WC_exit ?_ | refine seqQ_norm ?_ | refine seqQ_ret ?_ | refine seqQ_exit ?_ | refine blkQ_norm ?_ | refine blkQ_ret ?_ | refine blkQ_here ?_ | refine gateK_yes ?_ | refine gateK_none ?_ | refine condK_tt ?_ | refine condK_ff ?_ | refine roundQ_exit ?_ | refine roundQ_ret ?_)
  | refine WC_region ?_ | refine blkQ_out rfl ?_ | refine WO_nil ?_ | refine WD_nil ?_
  | ((first | refine WD_gate rfl rfl rfl rfl rfl fun K_ hK_ => ?_ | refine WO_gate rfl rfl rfl rfl rfl fun K_ hK_ => ?_); simp only [upd_apply, asB_bool, asB_tup, ↓reduceIte, reduceCtorEq, Nat.reduceEqDiff, Bool.not_true, Bool.not_false]; refine hK_ _ ?_; clear hK_ K_)
  | refine gateK_no (by decide) ?_
  | ((try first | refine WO_op rfl rfl rfl ?_ | refine WO_op0 rfl rfl ?_ | refine WD_op rfl rfl rfl ?_ | refine WD_op0 rfl rfl ?_); (refine WV_gen fun Q_ hQ_ => ?_; simp (disch := first | omega | (simp only [List.length_cons, List.length_nil, List.length_append]; omega)) only [bb, bp, argF, ↓reduceIte, reduceCtorEq, Nat.reduceEqDiff, Nat.reduceLT, Nat.reduceLeDiff, Nat.reduceAdd, Nat.reduceMul, Nat.reduceSub, Nat.reduceBEq, Int.reduceToNat, cond_true, cond_false, eq_self, beq_self_eq_true, hlb, hsl, newPtr_X wf, load1_X wf, loadAgg_X wf, store1_X wf, writeCells_X wf, tEvsF3, bsl_25, newSlice_X wf]; first | (refine dec_split (Q := Q_) (fun hp_ => ?_) (fun hp_ => ?_) <;> first | (exfalso; omega) | (refine hQ_ _ _ ?_; clear hQ_ Q_)) | (refine dec_splitn (Q := Q_) (fun hp_ => ?_) (fun hp_ => ?_) <;> first | (exfalso; omega) | (refine hQ_ _ _ ?_; clear hQ_ Q_)) | (refine hQ_ _ _ ?_; clear hQ_ Q_)))
  | (refine WC_cond fun K_ hK_ => ?_; simp (disch := omega) only [evT_tmp, upd_apply, WB_some, ↓reduceIte, reduceCtorEq, Nat.reduceEqDiff, Nat.reduceLT]; refine hK_ _ ?_; clear hK_ K_)))
  refine WC_loop (fun (k : Nat) f d h' => k ≤ r.length ∧ f 4 = .ptr (nx h 0) 0 ∧ f 20 = b ∧ f 21 = ii (r.length : Int) ∧ f 22 = ii (k : Int) ∧ f 2 = ii (mfold a0 b0 (r.take k)).ch ∧ f 3 = ii (mfold a0 b0 (r.take k)).be ∧ d = [] ∧
    ∃ G, h' = X h (.cells (mkCells [ii (k + 1), ii (mfold a0 b0 (r.take k)).a, ii (mfold a0 b0 (r.take k)).b, ii (mfold a0 b0 (r.take k)).s]) 108 :: G) h.clock) (fun k => r.length - k) ?_ (r.length + 1) 0 (by omega) ?_
  · rintro k f d h' ⟨hk, h4, h20, h21, h22, h2, h3, rfl, G, rfl⟩
    have hin := mfold_in ha hb hr k hk
    by_cases hlt : k < r.length
    · obtain ⟨id, off, hix, hld⟩ := hb2.at1 wf hlt ik_25
      rw [map_get hlt] at hld
      have hc' : Off r[k] := hr _ (List.getElem_mem _)
      have hst := mfold_take a0 b0 r k hlt
      have hin' := mfold_in ha hb hr (k + 1) hlt
      rw [hst] at hin'
      generalize hm : mfold a0 b0 (r.take k) = st at *
      generalize hcc : r[k] = c at *
      obtain ⟨sa, sb, ss, sch, sbe⟩ := st
      obtain ⟨i1, i2, i3, i4, i5, i6⟩ := hin
      obtain ⟨j1, j2, j3, j4, j5, j6⟩ := hin'
      simp only [mstep, St5.d] at i1 i2 i3 i4 i5 i6 j3 j4 j5 j6
      have q := chg_01 ss (sa - 2 * sb + c)
      (repeat' (first
  | (with_reducible first | refine WC_seq ?_ | refine WC_skip ?_ | refine WC_label ?_ | refine WC_scope ?_ | refine WC_block ?_ | refine WC_ret ?_ | refine WC_exit ?_ | refine seqQ_norm ?_ | refine seqQ_ret ?_ | refine seqQ_exit ?_ | refine blkQ_norm ?_ | refine blkQ_ret ?_ | refine blkQ_here ?_ | refine gateK_yes ?_ | refine gateK_none ?_ | refine condK_tt ?_ | refine condK_ff ?_ | refine roundQ_exit ?_ | refine roundQ_ret ?_)
  | refine WC_region ?_ | refine blkQ_out rfl ?_ | refine WO_nil ?_ | refine WD_nil ?_
  | ((first | refine WD_gate rfl rfl rfl rfl rfl fun K_ hK_ => ?_ | refine WO_gate rfl rfl rfl rfl rfl fun K_ hK_ => ?_); simp only [upd_apply, asB_bool, asB_tup, ↓reduceIte, reduceCtorEq, Nat.reduceEqDiff, Bool.not_true, Bool.not_false]; refine hK_ _ ?_; clear hK_ K_)
  | refine gateK_no (by decide) ?_
  | ((try first | refine WO_op rfl rfl rfl ?_ | refine WO_op0 rfl rfl ?_ | refine WD_op rfl rfl rfl ?_ | refine WD_op0 rfl rfl ?_); (refine WV_gen fun Q_ hQ_ => ?_; simp (disch := first | omega | (simp only [List.length_cons, List.length_nil, List.length_append]; omega)) only [bb, bp, argF, ↓reduceIte, reduceCtorEq, Nat.reduceEqDiff, Nat.reduceLT, Nat.reduceLeDiff, Nat.reduceAdd, Nat.reduceMul, Nat.reduceSub, Nat.reduceBEq, Int.reduceToNat, cond_true, cond_false, eq_self, beq_self_eq_true, h4, h20, h21, h22, h2, h3, hix, hld, newPtr_X wf, load1_X wf, loadAgg_X wf, store1_X wf, writeCells_X wf, tEvsF3, bsl_25, newSlice_X wf]; first | (refine dec_split (Q := Q_) (fun hp_ => ?_) (fun hp_ => ?_) <;> first | (exfalso; omega) | (refine hQ_ _ _ ?_; clear hQ_ Q_)) | (refine dec_splitn (Q := Q_) (fun hp_ => ?_) (fun hp_ => ?_) <;> first | (exfalso; omega) | (refine hQ_ _ _ ?_; clear hQ_ Q_)) | (refine hQ_ _ _ ?_; clear hQ_ Q_) | (refine WV_eq (next _ _ _ _ _ (by omega) i1 i2 hc' _ (wf.X (Nat.le_add_right _ _))) ?_; refine hQ_ _ _ ?_; clear hQ_ Q_) | (refine WV_eq (bendTo _ _ _ _ _ i1 i2 hc' _ (wf.X (Nat.le_add_right _ _))) ?_; refine hQ_ _ _ ?_; clear hQ_ Q_) | (refine WV_eq (sum2 wf (by simp only [app_len0, app_len, List.getElem?_cons_succ, List.getElem?_cons_zero]; rfl) (Nat.le_add_right _ _) (by omega) (by omega)) ?_; refine hQ_ _ _ ?_; clear hQ_ Q_)))
  | (refine WC_cond fun K_ hK_ => ?_; simp (disch := omega) only [evT_tmp, upd_apply, WB_some, ↓reduceIte, reduceCtorEq, Nat.reduceEqDiff, Nat.reduceLT]; refine hK_ _ ?_; clear hK_ K_)))
      refine roundQ_again (k + 1) (by omega) ⟨hlt, by simp only [upd_apply, ↓reduceIte, reduceCtorEq, Nat.reduceEqDiff]; exact h4, by simp only [upd_apply, ↓reduceIte, reduceCtorEq, Nat.reduceEqDiff]; exact h20, by simp only [upd_apply, ↓reduceIte, reduceCtorEq, Nat.reduceEqDiff]; exact h21, by simp only [upd_apply, ↓reduceIte, reduceCtorEq, Nat.reduceEqDiff]; rfl, by simp only [upd_apply, ↓reduceIte, reduceCtorEq, Nat.reduceEqDiff]; rw [hst]; rfl, by simp only [upd_apply, ↓reduceIte, reduceCtorEq, Nat.reduceEqDiff]; rw [hst]; rfl, rfl, ?_⟩
      rw [hst]
      exact ⟨_, rfl⟩
    · have hkl : k = r.length := by omega
      subst hkl
      rw [List.take_length] at h2 h3
      (repeat' (first
  | (with_reducible first | refine WC_seq ?_ | refine WC_skip ?_ | refine WC_label ?_ | refine WC_scope ?_ | refine WC_block ?_ | refine WC_ret ?_ | refine WC_exit ?_ | refine seqQ_norm ?_ | refine seqQ_ret ?_ | refine seqQ_exit ?_ | refine blkQ_norm ?_ | refine blkQ_ret ?_ | refine blkQ_here ?_ | refine gateK_yes ?_ | refine gateK_none ?_ | refine condK_tt ?_ | refine condK_ff ?_ | refine roundQ_exit ?_ | refine roundQ_ret ?_)
  | refine WC_region ?_ | refine blkQ_out rfl ?_ | refine WO_nil ?_ | refine WD_nil ?_
  | ((first | refine WD_gate rfl rfl rfl rfl rfl fun K_ hK_ => ?_ | refine WO_gate rfl rfl rfl rfl rfl fun K_ hK_ => ?_); simp only [upd_apply, asB_bool, asB_tup, ↓reduceIte, reduceCtorEq, Nat.reduceEqDiff, Bool.not_true, Bool.not_false]; refine hK_ _ ?_; clear hK_ K_)
  | refine gateK_no (by decide) ?_
  | ((try first | refine WO_op rfl rfl rfl ?_ | refine WO_op0 rfl rfl ?_ | refine WD_op rfl rfl rfl ?_ | refine WD_op0 rfl rfl ?_); (refine WV_gen fun Q_ hQ_ => ?_; simp (disch := first | omega | (simp only [List.length_cons, List.length_nil, List.length_append]; omega)) only [bb, bp, argF, ↓reduceIte, reduceCtorEq, Nat.reduceEqDiff, Nat.reduceLT, Nat.reduceLeDiff, Nat.reduceAdd, Nat.reduceMul, Nat.reduceSub, Nat.reduceBEq, Int.reduceToNat, cond_true, cond_false, eq_self, beq_self_eq_true, h4, h20, h21, h22, h2, h3, newPtr_X wf, load1_X wf, loadAgg_X wf, store1_X wf, writeCells_X wf, tEvsF3, bsl_25, newSlice_X wf]; first | (refine dec_split (Q := Q_) (fun hp_ => ?_) (fun hp_ => ?_) <;> first | (exfalso; omega) | (refine hQ_ _ _ ?_; clear hQ_ Q_)) | (refine dec_splitn (Q := Q_) (fun hp_ => ?_) (fun hp_ => ?_) <;> first | (exfalso; omega) | (refine hQ_ _ _ ?_; clear hQ_ Q_)) | (refine hQ_ _ _ ?_; clear hQ_ Q_)))
  | (refine WC_cond fun K_ hK_ => ?_; simp (disch := omega) only [evT_tmp, upd_apply, WB_some, ↓reduceIte, reduceCtorEq, Nat.reduceEqDiff, Nat.reduceLT]; refine hK_ _ ?_; clear hK_ K_)))
      (refine endQ_ret _ _ rfl (ret2 (by decide) (by decide)) ?_; simp only [upd_apply, ↓reduceIte, reduceCtorEq, Nat.reduceEqDiff]; refine WV_flat rfl (by omega) ?_)
      exact ⟨rfl, rfl⟩
  · refine ⟨Nat.zero_le _, by simp only [upd_apply, ↓reduceIte, reduceCtorEq, Nat.reduceEqDiff], by simp only [upd_apply, ↓reduceIte, reduceCtorEq, Nat.reduceEqDiff], by simp only [upd_apply, ↓reduceIte, reduceCtorEq, Nat.reduceEqDiff], by simp only [upd_apply, ↓reduceIte, reduceCtorEq, Nat.reduceEqDiff]; rfl, by simp only [upd_apply, ↓reduceIte, reduceCtorEq, Nat.reduceEqDiff]; rfl, by simp only [upd_apply, ↓reduceIte, reduceCtorEq, Nat.reduceEqDiff]; rfl, rfl, [], by rw [List.take_zero]; rfl⟩

theorem measure_short (xs : List Int) (a : AV) (hx : xs.length < 2) (h : H) (wf : Wf h) (hs : Sl h a 1 xs.length (xs.map ii)) :
    (om Tryz.prog KK).call (.fn 35 [a]) h = .ok (.tup [ii 0, ii 0]) h := by
  refine WV_to (WV_call (fn := Tryz.f35) Tryz.func35 rfl rfl rfl rfl rfl ?_)
  simp only [argF]
  have hlen : ∀ h', lenE Tryz.prog 25 a h' = some (ii (xs.length : Int)) := fun h' => hs.len un_25
  (repeat' (first
  | (with_reducible first | refine WC_seq ?_ | refine WC_skip ?_ | refine WC_label ?_ | refine WC_scope ?_ | refine WC_block ?_ | refine WC_ret ?_ | refine WC_exit ?_ | refine seqQ_norm ?_ | refine seqQ_ret ?_ | refine seqQ_exit ?_ | refine blkQ_norm ?_ | refine blkQ_ret ?_ | refine blkQ_here ?_ | refine gateK_yes ?_ | refine gateK_none ?_ | refine condK_tt ?_ | refine condK_ff ?_ | refine roundQ_exit ?_ | refine roundQ_ret ?_)
  | refine WC_region ?_ | refine blkQ_out rfl ?_ | refine WO_nil ?_ | refine WD_nil ?_
  | ((first | refine WD_gate rfl rfl rfl rfl rfl fun K_ hK_ => ?_ | refine WO_gate rfl rfl rfl rfl rfl fun K_ hK_ => ?_); simp only [upd_apply, asB_bool, asB_tup, ↓reduceIte, reduceCtorEq, Nat.reduceEqDiff, Bool.not_true, Bool.not_false]; refine hK_ _ ?_; clear hK_ K_)
  | refine gateK_no (by decide) ?_
  | ((try first | refine WO_op rfl rfl rfl ?_ | refine WO_op0 rfl rfl ?_ | refine WD_op rfl rfl rfl ?_ | refine WD_op0 rfl rfl ?_); (refine WV_gen fun Q_ hQ_ => ?_; simp (disch := first | omega | (simp only [List.length_cons, List.length_nil, List.length_append]; omega)) only [bb, bp, argF, ↓reduceIte, reduceCtorEq, Nat.reduceEqDiff, Nat.reduceLT, Nat.reduceLeDiff, Nat.reduceAdd, Nat.reduceMul, Nat.reduceSub, Nat.reduceBEq, Int.reduceToNat, cond_true, cond_false, eq_self, beq_self_eq_true, hlen, tEvsF3, bsl_25, newSlice_X wf]; first | (refine dec_split (Q := Q_) (fun hp_ => ?_) (fun hp_ => ?_) <;> first | (exfalso; omega) | (refine hQ_ _ _ ?_; clear hQ_ Q_)) | (refine dec_splitn (Q := Q_) (fun hp_ => ?_) (fun hp_ => ?_) <;> first | (exfalso; omega) | (refine hQ_ _ _ ?_; clear hQ_ Q_)) | (refine hQ_ _ _ ?_; clear hQ_ Q_)))
  | (refine WC_cond fun K_ hK_ => ?_; simp (disch := omega) only [evT_tmp, upd_apply, WB_some, ↓reduceIte, reduceCtorEq, Nat.reduceEqDiff, Nat.reduceLT]; refine hK_ _ ?_; clear hK_ K_)))
  (refine endQ_ret _ _ rfl (ret2 (by decide) (by decide)) ?_; simp only [upd_apply, ↓reduceIte, reduceCtorEq, Nat.reduceEqDiff]; refine WV_flat rfl (by omega) ?_)
  exact ⟨rfl, rfl⟩
end Go.Proofs.YtdaecfjljelneaaGreatDoor
end

/- EvsF4 -/
section
/-
  LAYER 1: Measure, CheckSpots and Check, by the program.
-/
namespace Go.Proofs.YtdaecfjljelneaaGreatDoor
open Go.Ev
set_option maxRecDepth 100000
set_option linter.unusedSimpArgs false
set_option linter.unusedVariables false

theorem tEvsF4 : type_of% (And.intro (And.intro (And.intro (And.intro (@bs_108) (And.intro (@ia_2) (@sz_2))) (And.intro (And.intro (@ia_3) (@sz_3)) (And.intro (@ia_28) (@ia_44)))) (And.intro (And.intro (And.intro (@sz_44) (@ia_108)) (And.intro (@sz_108) (@ia_42))) (And.intro (And.intro (@sz_42) (@ia_40)) (And.intro (@ia_25) (@fo_108_0))))) (And.intro (And.intro (And.intro (@fo_108_1) (And.intro (@fo_108_2) (@fo_108_3))) (And.intro (And.intro (@fo_44_0) (@fo_44_1)) (And.intro (@fo_42_0) (@fo_42_1)))) (And.intro (And.intro (And.intro (@ze_108) (@ze_44)) (And.intro (@pb_34) (@pb_56))) (And.intro (And.intro (@pb_98) (@pb_99)) (And.intro (@pb_162) (@pb_35)))))) := And.intro (And.intro (And.intro (And.intro (@bs_108) (And.intro (@ia_2) (@sz_2))) (And.intro (And.intro (@ia_3) (@sz_3)) (And.intro (@ia_28) (@ia_44)))) (And.intro (And.intro (And.intro (@sz_44) (@ia_108)) (And.intro (@sz_108) (@ia_42))) (And.intro (And.intro (@sz_42) (@ia_40)) (And.intro (@ia_25) (@fo_108_0))))) (And.intro (And.intro (And.intro (@fo_108_1) (And.intro (@fo_108_2) (@fo_108_3))) (And.intro (And.intro (@fo_44_0) (@fo_44_1)) (And.intro (@fo_42_0) (@fo_42_1)))) (And.intro (And.intro (And.intro (@ze_108) (@ze_44)) (And.intro (@pb_34) (@pb_56))) (And.intro (And.intro (@pb_98) (@pb_99)) (And.intro (@pb_162) (@pb_35)))))
/-- What a line measures. -/
def measOf : List Int → Int × Int
  | a :: b :: r => ((mfold a b r).ch, (mfold a b r).be)
  | _ => (0, 0)
theorem measure_any (xs : List Int) (a : AV) (hn : xs.length ≤ 1000000) (hx : ∀ x ∈ xs, Off x) (hc : CapU 1 a) (h : H) (wf : Wf h) (hs : Sl h a 1 xs.length (xs.map ii)) :
    (om Tryz.prog KK).call (.fn 35 [a]) h = .ok (.tup [ii (measOf xs).1, ii (measOf xs).2]) h := by
  match xs, hn, hx, hs with
  | [], hn, hx, hs => exact measure_short [] a (by simp) h wf hs
  | [x], hn, hx, hs => exact measure_short [x] a (by simp) h wf hs
  | x :: y :: r, hn, hx, hs => exact measure x y r a (by simp at hn; omega) (hx x (by simp)) (hx y (by simp)) (fun z hz => hx z (by simp [hz])) hc h wf hs

theorem all_step {α : Type} {p : α → Prop} {xs : List α} {k : Nat} (hk : k < xs.length) (h : ∀ i (hi : i < xs.length), i < k → p xs[i]) (hp : p xs[k]) : ∀ i (hi : i < xs.length), i < k + 1 → p xs[i] := fun i hi hik => by
  by_cases e : i = k
  · subst e; exact hp
  · exact h i hi (by omega)
theorem all_done {α : Type} {p : α → Prop} {xs : List α} (h : ∀ i (hi : i < xs.length), i < xs.length → p xs[i]) : ∀ x ∈ xs, p x := fun x hx => by
  obtain ⟨i, hi, rfl⟩ := List.getElem_of_mem hx
  exact h i hi hi
theorem all_not {α : Type} {p : α → Prop} {xs : List α} {k : Nat} (hk : k < xs.length) (hp : ¬ p xs[k]) : ¬ ∀ x ∈ xs, p x := fun h => hp (h _ (List.getElem_mem hk))

open Classical in
noncomputable def measR (xs : List Int) : Int × Int × Int := if xs.length = 0 ∨ 4096 < xs.length then (0, 0, 6) else if ∀ x ∈ xs, Off x then ((measOf xs).1, (measOf xs).2, 0) else (0, 0, 3)

theorem Measure (xs : List Int) (a : AV) (hn : xs.length ≤ 1000000) (hc : CapU 1 a) (h : H) (wf : Wf h) (hs : Sl h a 1 xs.length (xs.map ii)) :
    (om Tryz.prog KK).call (.fn 9 [a]) h = .ok (.tup [ii (measR xs).1, ii (measR xs).2.1, ii (measR xs).2.2]) h := by
  refine WV_to (WV_call (fn := Tryz.f9) Tryz.func9 rfl rfl rfl rfl rfl ?_)
  simp only [argF]
  have hlen : ∀ h', lenE Tryz.prog 25 a h' = some (ii (xs.length : Int)) := fun h' => hs.len un_25
  (repeat' (first
  | (with_reducible first | refine WC_seq ?_ | refine WC_skip ?_ | refine WC_label ?_ | refine WC_scope ?_ | refine WC_block ?_ | refine WC_ret ?_ | refine WC_exit ?_ | refine seqQ_norm ?_ | refine seqQ_ret ?_ | refine seqQ_exit ?_ | refine blkQ_norm ?_ | refine blkQ_ret ?_ | refine blkQ_here ?_ | refine gateK_yes ?_ | refine gateK_none ?_ | refine condK_tt ?_ | refine condK_ff ?_ | refine roundQ_exit ?_ | refine roundQ_ret ?_)
  | refine WC_region ?_ | refine blkQ_out rfl ?_ | refine WO_nil ?_ | refine WD_nil ?_
  | ((first | refine WD_gate rfl rfl rfl rfl rfl fun K_ hK_ => ?_ | refine WO_gate rfl rfl rfl rfl rfl fun K_ hK_ => ?_); simp only [upd_apply, asB_bool, asB_tup, ↓reduceIte, reduceCtorEq, Nat.reduceEqDiff, Bool.not_true, Bool.not_false]; refine hK_ _ ?_; clear hK_ K_)
  | refine gateK_no (by decide) ?_
  | ((try first | refine WO_op rfl rfl rfl ?_ | refine WO_op0 rfl rfl ?_ | refine WD_op rfl rfl rfl ?_ | refine WD_op0 rfl rfl ?_); (refine WV_gen fun Q_ hQ_ => ?_; simp (disch := first | omega | (simp only [List.length_cons, List.length_nil, List.length_append]; omega)) only [bb, bp, argF, ↓reduceIte, reduceCtorEq, Nat.reduceEqDiff, Nat.reduceLT, Nat.reduceLeDiff, Nat.reduceAdd, Nat.reduceMul, Nat.reduceSub, Nat.reduceBEq, Int.reduceToNat, cond_true, cond_false, eq_self, beq_self_eq_true, hlen, tEvsF4, bsl_25, newSlice_X wf]; first | (refine dec_split (Q := Q_) (fun hp_ => ?_) (fun hp_ => ?_) <;> first | (exfalso; omega) | (refine hQ_ _ _ ?_; clear hQ_ Q_)) | (refine dec_splitn (Q := Q_) (fun hp_ => ?_) (fun hp_ => ?_) <;> first | (exfalso; omega) | (refine hQ_ _ _ ?_; clear hQ_ Q_)) | (refine hQ_ _ _ ?_; clear hQ_ Q_)))
  | (refine WC_cond fun K_ hK_ => ?_; simp (disch := omega) only [evT_tmp, upd_apply, WB_some, ↓reduceIte, reduceCtorEq, Nat.reduceEqDiff, Nat.reduceLT]; refine hK_ _ ?_; clear hK_ K_)))
  · (refine endQ_ret _ _ rfl (ret3 (by decide) (by decide) (by decide)) ?_; simp only [upd_apply, ↓reduceIte, reduceCtorEq, Nat.reduceEqDiff]; refine WV_flat rfl (by omega) ?_)
    have e : measR xs = (0, 0, 6) := if_pos (by omega)
    rw [e]; exact ⟨rfl, rfl⟩
  · (refine endQ_ret _ _ rfl (ret3 (by decide) (by decide) (by decide)) ?_; simp only [upd_apply, ↓reduceIte, reduceCtorEq, Nat.reduceEqDiff]; refine WV_flat rfl (by omega) ?_)
    have e : measR xs = (0, 0, 6) := if_pos (by omega)
    rw [e]; exact ⟨rfl, rfl⟩
  have e1 : ¬ (xs.length = 0 ∨ 4096 < xs.length) := by omega
  refine WC_loop (fun (k : Nat) f d h' => k ≤ xs.length ∧ f 0 = a ∧ f 17 = a ∧ f 18 = ii (xs.length : Int) ∧ f 19 = ii (k : Int) ∧ d = [] ∧ h' = X h [] h.clock ∧ ∀ i (hi : i < xs.length), i < k → Off xs[i]) (fun k => xs.length - k) ?_ (xs.length + 1) 0 (by omega) ?_
  · rintro k f d h' ⟨hk, h0, h17, h18, h19, rfl, rfl, hall⟩
    by_cases hlt : k < xs.length
    · obtain ⟨id, off, hix, hld⟩ := hs.at1 wf hlt ik_25
      rw [map_get hlt] at hld
      (repeat' (first
  | (with_reducible first | refine WC_seq ?_ | refine WC_skip ?_ | refine WC_label ?_ | refine WC_scope ?_ | refine WC_block ?_ | refine WC_ret ?_ | refine WC_exit ?_ | refine seqQ_norm ?_ | refine seqQ_ret ?_ | refine seqQ_exit ?_ | refine blkQ_norm ?_ | refine blkQ_ret ?_ | refine blkQ_here ?_ | refine gateK_yes ?_ | refine gateK_none ?_ | refine condK_tt ?_ | refine condK_ff ?_ | refine roundQ_exit ?_ | refine roundQ_ret ?_)
  | refine WC_region ?_ | refine blkQ_out rfl ?_ | refine WO_nil ?_ | refine WD_nil ?_
  | ((first | refine WD_gate rfl rfl rfl rfl rfl fun K_ hK_ => ?_ | refine WO_gate rfl rfl rfl rfl rfl fun K_ hK_ => ?_); simp only [upd_apply, asB_bool, asB_tup, ↓reduceIte, reduceCtorEq, Nat.reduceEqDiff, Bool.not_true, Bool.not_false]; refine hK_ _ ?_; clear hK_ K_)
  | refine gateK_no (by decide) ?_
  | ((try first | refine WO_op rfl rfl rfl ?_ | refine WO_op0 rfl rfl ?_ | refine WD_op rfl rfl rfl ?_ | refine WD_op0 rfl rfl ?_); (refine WV_gen fun Q_ hQ_ => ?_; simp (disch := first | omega | (simp only [List.length_cons, List.length_nil, List.length_append]; omega)) only [bb, bp, argF, ↓reduceIte, reduceCtorEq, Nat.reduceEqDiff, Nat.reduceLT, Nat.reduceLeDiff, Nat.reduceAdd, Nat.reduceMul, Nat.reduceSub, Nat.reduceBEq, Int.reduceToNat, cond_true, cond_false, eq_self, beq_self_eq_true, h0, h17, h18, h19, hix, hld, tEvsF4, bsl_25, newSlice_X wf]; first | (refine dec_split (Q := Q_) (fun hp_ => ?_) (fun hp_ => ?_) <;> first | (exfalso; omega) | (refine hQ_ _ _ ?_; clear hQ_ Q_)) | (refine dec_splitn (Q := Q_) (fun hp_ => ?_) (fun hp_ => ?_) <;> first | (exfalso; omega) | (refine hQ_ _ _ ?_; clear hQ_ Q_)) | (refine hQ_ _ _ ?_; clear hQ_ Q_) | (refine WV_eq (isOffset _ _ (wf.X (Nat.le_add_right _ _))) ?_; refine hQ_ _ _ ?_; clear hQ_ Q_)))
  | (refine WC_cond fun K_ hK_ => ?_; simp (disch := omega) only [evT_tmp, upd_apply, WB_some, ↓reduceIte, reduceCtorEq, Nat.reduceEqDiff, Nat.reduceLT]; refine hK_ _ ?_; clear hK_ K_)))
      · exact roundQ_again (k + 1) (by omega) ⟨hlt, by simp only [upd_apply, ↓reduceIte, reduceCtorEq, Nat.reduceEqDiff]; exact h0, by simp only [upd_apply, ↓reduceIte, reduceCtorEq, Nat.reduceEqDiff]; exact h17, by simp only [upd_apply, ↓reduceIte, reduceCtorEq, Nat.reduceEqDiff]; exact h18, by simp only [upd_apply, ↓reduceIte, reduceCtorEq, Nat.reduceEqDiff]; rfl, rfl, rfl, all_step hlt hall ‹_›⟩
      · (refine endQ_ret _ _ rfl (ret3 (by decide) (by decide) (by decide)) ?_; simp only [upd_apply, ↓reduceIte, reduceCtorEq, Nat.reduceEqDiff]; refine WV_flat rfl (by omega) ?_)
        have e : measR xs = (0, 0, 3) := by unfold measR; rw [if_neg e1, if_neg (all_not hlt ‹_›)]
        rw [e]; exact ⟨rfl, rfl⟩
    · have hkl : k = xs.length := by omega
      subst hkl
      have hx := all_done hall
      (repeat' (first
  | (with_reducible first | refine WC_seq ?_ | refine WC_skip ?_ | refine WC_label ?_ | refine WC_scope ?_ | refine WC_block ?_ | refine WC_ret ?_ | refine WC_exit ?_ | refine seqQ_norm ?_ | refine seqQ_ret ?_ | refine seqQ_exit ?_ | refine blkQ_norm ?_ | refine blkQ_ret ?_ | refine blkQ_here ?_ | refine gateK_yes ?_ | refine gateK_none ?_ | refine condK_tt ?_ | refine condK_ff ?_ | refine roundQ_exit ?_ | refine roundQ_ret ?_)
  | refine WC_region ?_ | refine blkQ_out rfl ?_ | refine WO_nil ?_ | refine WD_nil ?_
  | ((first | refine WD_gate rfl rfl rfl rfl rfl fun K_ hK_ => ?_ | refine WO_gate rfl rfl rfl rfl rfl fun K_ hK_ => ?_); simp only [upd_apply, asB_bool, asB_tup, ↓reduceIte, reduceCtorEq, Nat.reduceEqDiff, Bool.not_true, Bool.not_false]; refine hK_ _ ?_; clear hK_ K_)
  | refine gateK_no (by decide) ?_
  | ((try first | refine WO_op rfl rfl rfl ?_ | refine WO_op0 rfl rfl ?_ | refine WD_op rfl rfl rfl ?_ | refine WD_op0 rfl rfl ?_); (refine WV_gen fun Q_ hQ_ => ?_; simp (disch := first | omega | (simp only [List.length_cons, List.length_nil, List.length_append]; omega)) only [bb, bp, argF, ↓reduceIte, reduceCtorEq, Nat.reduceEqDiff, Nat.reduceLT, Nat.reduceLeDiff, Nat.reduceAdd, Nat.reduceMul, Nat.reduceSub, Nat.reduceBEq, Int.reduceToNat, cond_true, cond_false, eq_self, beq_self_eq_true, h0, h17, h18, h19, tEvsF4, bsl_25, newSlice_X wf]; first | (refine dec_split (Q := Q_) (fun hp_ => ?_) (fun hp_ => ?_) <;> first | (exfalso; omega) | (refine hQ_ _ _ ?_; clear hQ_ Q_)) | (refine dec_splitn (Q := Q_) (fun hp_ => ?_) (fun hp_ => ?_) <;> first | (exfalso; omega) | (refine hQ_ _ _ ?_; clear hQ_ Q_)) | (refine hQ_ _ _ ?_; clear hQ_ Q_) | (refine WV_eq (measure_any xs a hn hx hc _ (wf.X (Nat.le_add_right _ _)) (hs.up wf _ _)) ?_; refine hQ_ _ _ ?_; clear hQ_ Q_)))
  | (refine WC_cond fun K_ hK_ => ?_; simp (disch := omega) only [evT_tmp, upd_apply, WB_some, ↓reduceIte, reduceCtorEq, Nat.reduceEqDiff, Nat.reduceLT]; refine hK_ _ ?_; clear hK_ K_)))
      (refine endQ_ret _ _ rfl (ret3 (by decide) (by decide) (by decide)) ?_; simp only [upd_apply, ↓reduceIte, reduceCtorEq, Nat.reduceEqDiff]; refine WV_flat rfl (by omega) ?_)
      have e : measR xs = ((measOf xs).1, (measOf xs).2, 0) := by unfold measR; rw [if_neg e1, if_pos hx]
      rw [e]; exact ⟨rfl, rfl⟩
  · refine ⟨Nat.zero_le _, by simp only [upd_apply, ↓reduceIte, reduceCtorEq, Nat.reduceEqDiff], by simp only [upd_apply, ↓reduceIte, reduceCtorEq, Nat.reduceEqDiff], by simp only [upd_apply, ↓reduceIte, reduceCtorEq, Nat.reduceEqDiff], by simp only [upd_apply, ↓reduceIte, reduceCtorEq, Nat.reduceEqDiff]; rfl, rfl, rfl, fun i _ hi => absurd hi (Nat.not_lt_zero i)⟩

end Go.Proofs.YtdaecfjljelneaaGreatDoor
end

/- EvsD1 -/
section
/-
  LAYER 4: small functions.
-/
namespace Go.Proofs.YtdaecfjljelneaaGreatDoor
open Go.Ev
set_option maxRecDepth 100000
set_option linter.unusedSimpArgs false
set_option linter.unusedVariables false
set_option maxHeartbeats 2000000
theorem tEvsD1 : type_of% (And.intro (And.intro (And.intro (And.intro (And.intro (And.intro (And.intro (@bs_27) (@bs_44)) (And.intro (@bs_46) (And.intro (@bs_53) (@bs_82)))) (And.intro (And.intro (@bs_92) (@bs_179)) (And.intro (@bs_250) (And.intro (@bs_254) (@ia_2))))) (And.intro (And.intro (And.intro (@sz_2) (@ia_3)) (And.intro (@sz_3) (And.intro (@ia_4) (@sz_4)))) (And.intro (And.intro (@ia_25) (@sz_25)) (And.intro (@ia_27) (And.intro (@sz_27) (@ia_28)))))) (And.intro (And.intro (And.intro (And.intro (@sz_28) (@ia_44)) (And.intro (@sz_44) (And.intro (@ia_46) (@sz_46)))) (And.intro (And.intro (@ia_53) (@sz_53)) (And.intro (@ia_36) (And.intro (@sz_36) (@ia_35))))) (And.intro (And.intro (And.intro (@sz_35) (@ia_37)) (And.intro (@sz_37) (And.intro (@ia_38) (@sz_38)))) (And.intro (And.intro (@ia_82) (@sz_82)) (And.intro (@ia_84) (And.intro (@sz_84) (@ia_118))))))) (And.intro (And.intro (And.intro (And.intro (And.intro (@sz_118) (@ia_90)) (And.intro (@sz_90) (And.intro (@ia_92) (@sz_92)))) (And.intro (And.intro (@ia_85) (@sz_85)) (And.intro (@ia_179) (And.intro (@sz_179) (@ia_93))))) (And.intro (And.intro (And.intro (@sz_93) (@ia_40)) (And.intro (@sz_40) (And.intro (@ia_250) (@sz_250)))) (And.intro (And.intro (@ia_253) (@sz_253)) (And.intro (@ia_259) (And.intro (@sz_259) (@ia_261)))))) (And.intro (And.intro (And.intro (And.intro (@sz_261) (@ia_256)) (And.intro (@sz_256) (And.intro (@ia_257) (@sz_257)))) (And.intro (And.intro (@ia_254) (@sz_254)) (And.intro (@ia_278) (And.intro (@sz_278) (@ze_2))))) (And.intro (And.intro (And.intro (@ze_3) (@ze_4)) (And.intro (@ze_27) (And.intro (@ze_28) (@ze_44)))) (And.intro (And.intro (@ze_46) (@ze_53)) (And.intro (@ze_82) (And.intro (@ze_92) (@ze_179)))))))) (And.intro (And.intro (And.intro (And.intro (And.intro (And.intro (@ze_250) (@ze_254)) (And.intro (@fo_27_0) (And.intro (@fo_27_1) (@fo_44_0)))) (And.intro (And.intro (@fo_44_1) (@fo_46_0)) (And.intro (@fo_46_1) (And.intro (@fo_46_2) (@fo_46_3))))) (And.intro (And.intro (And.intro (@fo_46_4) (@fo_46_5)) (And.intro (@fo_46_6) (And.intro (@fo_46_7) (@fo_46_8)))) (And.intro (And.intro (@fo_46_9) (@fo_53_0)) (And.intro (@fo_53_1) (And.intro (@fo_53_2) (@fo_53_3)))))) (And.intro (And.intro (And.intro (And.intro (@fo_53_4) (@fo_53_5)) (And.intro (@fo_82_0) (And.intro (@fo_92_0) (@fo_92_1)))) (And.intro (And.intro (@fo_179_0) (@fo_179_1)) (And.intro (@fo_179_2) (And.intro (@fo_250_0) (@fo_250_1))))) (And.intro (And.intro (And.intro (@pb_29) (@pb_8)) (And.intro (@pb_31) (And.intro (@pb_7) (@pb_19)))) (And.intro (And.intro (@pb_38) (@pb_14)) (And.intro (@pb_42) (And.intro (@pb_11) (@pb_13))))))) (And.intro (And.intro (And.intro (And.intro (And.intro (@pb_95) (@pb_15)) (And.intro (@pb_92) (And.intro (@pb_93) (@pb_94)))) (And.intro (And.intro (@pb_32) (@pb_33)) (And.intro (@pb_96) (And.intro (@pb_30) (@pb_57))))) (And.intro (And.intro (And.intro (@pb_100) (@pb_43)) (And.intro (@pb_44) (And.intro (@pb_45) (@pb_46)))) (And.intro (And.intro (@pb_105) (@pb_106)) (And.intro (@pb_37) (And.intro (@pb_40) (@pb_41)))))) (And.intro (And.intro (And.intro (And.intro (@pb_36) (@pb_12)) (And.intro (@pb_101) (And.intro (@pb_158) (@pb_159)))) (And.intro (And.intro (@pb_160) (@pb_161)) (And.intro (@pb_47) (And.intro (@pb_97) (@pb_107))))) (And.intro (And.intro (And.intro (@pb_108) (@pb_165)) (And.intro (@pb_102) (And.intro (@pb_103) (@pb_104)))) (And.intro (And.intro (@pb_39) (And.intro (@pb_164) (@pb_192))) (And.intro (@pb_163) (And.intro (@pb_190) (@pb_191))))))))) := And.intro (And.intro (And.intro (And.intro (And.intro (And.intro (And.intro (@bs_27) (@bs_44)) (And.intro (@bs_46) (And.intro (@bs_53) (@bs_82)))) (And.intro (And.intro (@bs_92) (@bs_179)) (And.intro (@bs_250) (And.intro (@bs_254) (@ia_2))))) (And.intro (And.intro (And.intro (@sz_2) (@ia_3)) (And.intro (@sz_3) (And.intro (@ia_4) (@sz_4)))) (And.intro (And.intro (@ia_25) (@sz_25)) (And.intro (@ia_27) (And.intro (@sz_27) (@ia_28)))))) (And.intro (And.intro (And.intro (And.intro (@sz_28) (@ia_44)) (And.intro (@sz_44) (And.intro (@ia_46) (@sz_46)))) (And.intro (And.intro (@ia_53) (@sz_53)) (And.intro (@ia_36) (And.intro (@sz_36) (@ia_35))))) (And.intro (And.intro (And.intro (@sz_35) (@ia_37)) (And.intro (@sz_37) (And.intro (@ia_38) (@sz_38)))) (And.intro (And.intro (@ia_82) (@sz_82)) (And.intro (@ia_84) (And.intro (@sz_84) (@ia_118))))))) (And.intro (And.intro (And.intro (And.intro (And.intro (@sz_118) (@ia_90)) (And.intro (@sz_90) (And.intro (@ia_92) (@sz_92)))) (And.intro (And.intro (@ia_85) (@sz_85)) (And.intro (@ia_179) (And.intro (@sz_179) (@ia_93))))) (And.intro (And.intro (And.intro (@sz_93) (@ia_40)) (And.intro (@sz_40) (And.intro (@ia_250) (@sz_250)))) (And.intro (And.intro (@ia_253) (@sz_253)) (And.intro (@ia_259) (And.intro (@sz_259) (@ia_261)))))) (And.intro (And.intro (And.intro (And.intro (@sz_261) (@ia_256)) (And.intro (@sz_256) (And.intro (@ia_257) (@sz_257)))) (And.intro (And.intro (@ia_254) (@sz_254)) (And.intro (@ia_278) (And.intro (@sz_278) (@ze_2))))) (And.intro (And.intro (And.intro (@ze_3) (@ze_4)) (And.intro (@ze_27) (And.intro (@ze_28) (@ze_44)))) (And.intro (And.intro (@ze_46) (@ze_53)) (And.intro (@ze_82) (And.intro (@ze_92) (@ze_179)))))))) (And.intro (And.intro (And.intro (And.intro (And.intro (And.intro (@ze_250) (@ze_254)) (And.intro (@fo_27_0) (And.intro (@fo_27_1) (@fo_44_0)))) (And.intro (And.intro (@fo_44_1) (@fo_46_0)) (And.intro (@fo_46_1) (And.intro (@fo_46_2) (@fo_46_3))))) (And.intro (And.intro (And.intro (@fo_46_4) (@fo_46_5)) (And.intro (@fo_46_6) (And.intro (@fo_46_7) (@fo_46_8)))) (And.intro (And.intro (@fo_46_9) (@fo_53_0)) (And.intro (@fo_53_1) (And.intro (@fo_53_2) (@fo_53_3)))))) (And.intro (And.intro (And.intro (And.intro (@fo_53_4) (@fo_53_5)) (And.intro (@fo_82_0) (And.intro (@fo_92_0) (@fo_92_1)))) (And.intro (And.intro (@fo_179_0) (@fo_179_1)) (And.intro (@fo_179_2) (And.intro (@fo_250_0) (@fo_250_1))))) (And.intro (And.intro (And.intro (@pb_29) (@pb_8)) (And.intro (@pb_31) (And.intro (@pb_7) (@pb_19)))) (And.intro (And.intro (@pb_38) (@pb_14)) (And.intro (@pb_42) (And.intro (@pb_11) (@pb_13))))))) (And.intro (And.intro (And.intro (And.intro (And.intro (@pb_95) (@pb_15)) (And.intro (@pb_92) (And.intro (@pb_93) (@pb_94)))) (And.intro (And.intro (@pb_32) (@pb_33)) (And.intro (@pb_96) (And.intro (@pb_30) (@pb_57))))) (And.intro (And.intro (And.intro (@pb_100) (@pb_43)) (And.intro (@pb_44) (And.intro (@pb_45) (@pb_46)))) (And.intro (And.intro (@pb_105) (@pb_106)) (And.intro (@pb_37) (And.intro (@pb_40) (@pb_41)))))) (And.intro (And.intro (And.intro (And.intro (@pb_36) (@pb_12)) (And.intro (@pb_101) (And.intro (@pb_158) (@pb_159)))) (And.intro (And.intro (@pb_160) (@pb_161)) (And.intro (@pb_47) (And.intro (@pb_97) (@pb_107))))) (And.intro (And.intro (And.intro (@pb_108) (@pb_165)) (And.intro (@pb_102) (And.intro (@pb_103) (@pb_104)))) (And.intro (And.intro (@pb_39) (And.intro (@pb_164) (@pb_192))) (And.intro (@pb_163) (And.intro (@pb_190) (@pb_191))))))))
/-- A test's numbers. -/
structure Te where
  (sp lo we al f0 f1 t0 t1 s0 s1 o0 o1 b0 b1 r0 r1 : Int)
/-- A truth's numbers. -/
structure Tr where
  (f t s o b r : Int)
abbrev i62 (n : Int) : Prop := -4000000000000000000 ≤ n ∧ n ≤ 4000000000000000000

theorem one (n : Int) (h : H) (wf : Wf h) : (om Tryz.prog KK).call (.fn 106 [ii n]) h = .ok (.agg [ii n, ii n]) h := by
  refine WV_to (WV_call (fn := Tryz.f106) Tryz.func106 rfl rfl rfl rfl rfl ?_)
  simp only [argF]
  (repeat' (first
  | (with_reducible first | refine WC_seq ?_ | refine WC_skip ?_ | refine WC_label ?_ | refine WC_scope ?_ | refine WC_block ?_ | refine WC_ret ?_ | refine WC_exit ?_ | refine seqQ_norm ?_ | refine seqQ_ret ?_ | refine seqQ_exit ?_ | refine blkQ_norm ?_ | refine blkQ_ret ?_ | refine blkQ_here ?_ | refine gateK_yes ?_ | refine gateK_none ?_ | refine condK_tt ?_ | refine condK_ff ?_ | refine roundQ_exit ?_ | refine roundQ_ret ?_)
  | refine WC_region ?_ | refine blkQ_out rfl ?_ | refine WO_nil ?_ | refine WD_nil ?_
  | ((first | refine WD_gate rfl rfl rfl rfl rfl fun K_ hK_ => ?_ | refine WO_gate rfl rfl rfl rfl rfl fun K_ hK_ => ?_); simp only [upd_apply, asB_bool, asB_tup, ↓reduceIte, reduceCtorEq, Nat.reduceEqDiff, Bool.not_true, Bool.not_false]; refine hK_ _ ?_; clear hK_ K_)
  | refine gateK_no (by decide) ?_
  | ((try first | refine WO_op rfl rfl rfl ?_ | refine WO_op0 rfl rfl ?_ | refine WD_op rfl rfl rfl ?_ | refine WD_op0 rfl rfl ?_); (refine WV_gen fun Q_ hQ_ => ?_; simp (disch := first | omega | (simp only [List.length_cons, List.length_nil, List.length_append]; omega)) only [bb, bp, argF, ↓reduceIte, reduceCtorEq, Nat.reduceEqDiff, Nat.reduceLT, Nat.reduceLeDiff, Nat.reduceAdd, Nat.reduceMul, Nat.reduceSub, Nat.reduceBEq, Int.reduceToNat, cond_true, cond_false, eq_self, beq_self_eq_true, newPtr_X wf, load1_X wf, loadAgg_X wf, store1_X wf, writeCells_X wf, makeFunc_def, tEvsD1, bsl_25, bsl_36, bsl_35, bsl_40, bsl_259, newSlice_X wf]; first | (refine dec_split (Q := Q_) (fun hp_ => ?_) (fun hp_ => ?_) <;> first | (exfalso; omega) | (refine hQ_ _ _ ?_; clear hQ_ Q_)) | (refine dec_splitn (Q := Q_) (fun hp_ => ?_) (fun hp_ => ?_) <;> first | (exfalso; omega) | (refine hQ_ _ _ ?_; clear hQ_ Q_)) | (refine hQ_ _ _ ?_; clear hQ_ Q_)))
  | (refine WC_cond fun K_ hK_ => ?_; simp (disch := omega) only [evT_tmp, upd_apply, WB_some, ↓reduceIte, reduceCtorEq, Nat.reduceEqDiff, Nat.reduceLT]; refine hK_ _ ?_; clear hK_ K_)))
  refine endQ_ret _ _ rfl (retc0 (by decide) (by simp (disch := first | omega | (simp only [List.length_cons, List.length_nil, List.length_append]; omega)) only [bb, bp, argF, ↓reduceIte, reduceCtorEq, Nat.reduceEqDiff, Nat.reduceLT, Nat.reduceLeDiff, Nat.reduceAdd, Nat.reduceMul, Nat.reduceSub, Nat.reduceBEq, Int.reduceToNat, cond_true, cond_false, eq_self, beq_self_eq_true, loadAgg_X wf, tEvsD1, bsl_25, bsl_36, bsl_35, bsl_40, bsl_259, newSlice_X wf]; rfl)) ?_
  refine WV_flat rfl (by omega) ?_
  exact ⟨rfl, rfl⟩

theorem between (n a b : Int) (h : H) (wf : Wf h) : (om Tryz.prog KK).call (.fn 30 [ii n, ii a, ii b]) h = .ok (.bool (decide (a ≤ n ∧ n ≤ b))) h := by
  refine WV_to (WV_call (fn := Tryz.f30) Tryz.func30 rfl rfl rfl rfl rfl ?_)
  simp only [argF]
  (repeat' (first
  | (with_reducible first | refine WC_seq ?_ | refine WC_skip ?_ | refine WC_label ?_ | refine WC_scope ?_ | refine WC_block ?_ | refine WC_ret ?_ | refine WC_exit ?_ | refine seqQ_norm ?_ | refine seqQ_ret ?_ | refine seqQ_exit ?_ | refine blkQ_norm ?_ | refine blkQ_ret ?_ | refine blkQ_here ?_ | refine gateK_yes ?_ | refine gateK_none ?_ | refine condK_tt ?_ | refine condK_ff ?_ | refine roundQ_exit ?_ | refine roundQ_ret ?_)
  | refine WC_region ?_ | refine blkQ_out rfl ?_ | refine WO_nil ?_ | refine WD_nil ?_
  | ((first | refine WD_gate rfl rfl rfl rfl rfl fun K_ hK_ => ?_ | refine WO_gate rfl rfl rfl rfl rfl fun K_ hK_ => ?_); simp only [upd_apply, asB_bool, asB_tup, ↓reduceIte, reduceCtorEq, Nat.reduceEqDiff, Bool.not_true, Bool.not_false]; refine hK_ _ ?_; clear hK_ K_)
  | refine gateK_no (by decide) ?_
  | ((try first | refine WO_op rfl rfl rfl ?_ | refine WO_op0 rfl rfl ?_ | refine WD_op rfl rfl rfl ?_ | refine WD_op0 rfl rfl ?_); (refine WV_gen fun Q_ hQ_ => ?_; simp (disch := first | omega | (simp only [List.length_cons, List.length_nil, List.length_append]; omega)) only [bb, bp, argF, ↓reduceIte, reduceCtorEq, Nat.reduceEqDiff, Nat.reduceLT, Nat.reduceLeDiff, Nat.reduceAdd, Nat.reduceMul, Nat.reduceSub, Nat.reduceBEq, Int.reduceToNat, cond_true, cond_false, eq_self, beq_self_eq_true, newPtr_X wf, load1_X wf, loadAgg_X wf, store1_X wf, writeCells_X wf, makeFunc_def, tEvsD1, bsl_25, bsl_36, bsl_35, bsl_40, bsl_259, newSlice_X wf]; first | (refine dec_split (Q := Q_) (fun hp_ => ?_) (fun hp_ => ?_) <;> first | (exfalso; omega) | (refine hQ_ _ _ ?_; clear hQ_ Q_)) | (refine dec_splitn (Q := Q_) (fun hp_ => ?_) (fun hp_ => ?_) <;> first | (exfalso; omega) | (refine hQ_ _ _ ?_; clear hQ_ Q_)) | (refine hQ_ _ _ ?_; clear hQ_ Q_)))
  | (refine WC_cond fun K_ hK_ => ?_; simp (disch := omega) only [evT_tmp, upd_apply, WB_some, ↓reduceIte, reduceCtorEq, Nat.reduceEqDiff, Nat.reduceLT]; refine hK_ _ ?_; clear hK_ K_)))
  all_goals (refine endQ_ret _ _ rfl (ret1 (by decide)) ?_; simp only [upd_apply, ↓reduceIte, reduceCtorEq, Nat.reduceEqDiff]; refine WV_flat rfl (by omega) ?_)
  all_goals exact ⟨by simp [*], rfl⟩

theorem into (lo hi n : Int) (h : H) (wf : Wf h) : (om Tryz.prog KK).call (.fn 107 [.agg [ii lo, ii hi], ii n]) h = .ok (ii (min (max n lo) hi)) h := by
  refine WV_to (WV_call (fn := Tryz.f107) Tryz.func107 rfl rfl rfl rfl rfl ?_)
  simp only [argF]
  (repeat' (first
  | (with_reducible first | refine WC_seq ?_ | refine WC_skip ?_ | refine WC_label ?_ | refine WC_scope ?_ | refine WC_block ?_ | refine WC_ret ?_ | refine WC_exit ?_ | refine seqQ_norm ?_ | refine seqQ_ret ?_ | refine seqQ_exit ?_ | refine blkQ_norm ?_ | refine blkQ_ret ?_ | refine blkQ_here ?_ | refine gateK_yes ?_ | refine gateK_none ?_ | refine condK_tt ?_ | refine condK_ff ?_ | refine roundQ_exit ?_ | refine roundQ_ret ?_)
  | refine WC_region ?_ | refine blkQ_out rfl ?_ | refine WO_nil ?_ | refine WD_nil ?_
  | ((first | refine WD_gate rfl rfl rfl rfl rfl fun K_ hK_ => ?_ | refine WO_gate rfl rfl rfl rfl rfl fun K_ hK_ => ?_); simp only [upd_apply, asB_bool, asB_tup, ↓reduceIte, reduceCtorEq, Nat.reduceEqDiff, Bool.not_true, Bool.not_false]; refine hK_ _ ?_; clear hK_ K_)
  | refine gateK_no (by decide) ?_
  | ((try first | refine WO_op rfl rfl rfl ?_ | refine WO_op0 rfl rfl ?_ | refine WD_op rfl rfl rfl ?_ | refine WD_op0 rfl rfl ?_); (refine WV_gen fun Q_ hQ_ => ?_; simp (disch := first | omega | (simp only [List.length_cons, List.length_nil, List.length_append]; omega)) only [bb, bp, argF, ↓reduceIte, reduceCtorEq, Nat.reduceEqDiff, Nat.reduceLT, Nat.reduceLeDiff, Nat.reduceAdd, Nat.reduceMul, Nat.reduceSub, Nat.reduceBEq, Int.reduceToNat, cond_true, cond_false, eq_self, beq_self_eq_true, bi_max, bi_min, newPtr_X wf, load1_X wf, loadAgg_X wf, store1_X wf, writeCells_X wf, makeFunc_def, tEvsD1, bsl_25, bsl_36, bsl_35, bsl_40, bsl_259, newSlice_X wf]; first | (refine dec_split (Q := Q_) (fun hp_ => ?_) (fun hp_ => ?_) <;> first | (exfalso; omega) | (refine hQ_ _ _ ?_; clear hQ_ Q_)) | (refine dec_splitn (Q := Q_) (fun hp_ => ?_) (fun hp_ => ?_) <;> first | (exfalso; omega) | (refine hQ_ _ _ ?_; clear hQ_ Q_)) | (refine hQ_ _ _ ?_; clear hQ_ Q_)))
  | (refine WC_cond fun K_ hK_ => ?_; simp (disch := omega) only [evT_tmp, upd_apply, WB_some, ↓reduceIte, reduceCtorEq, Nat.reduceEqDiff, Nat.reduceLT]; refine hK_ _ ?_; clear hK_ K_)))
  (refine endQ_ret _ _ rfl (ret1 (by decide)) ?_; simp only [upd_apply, ↓reduceIte, reduceCtorEq, Nat.reduceEqDiff]; refine WV_flat rfl (by omega) ?_)
  exact ⟨rfl, rfl⟩

theorem ends (lo hi : Int) (h : H) (wf : Wf h) : (om Tryz.prog KK).call (.fn 163 [.agg [ii lo, ii hi]]) h = .ok (.agg [ii lo, ii hi]) h := by
  refine WV_to (WV_call (fn := Tryz.f163) Tryz.func163 rfl rfl rfl rfl rfl ?_)
  simp only [argF]
  (repeat' (first
  | (with_reducible first | refine WC_seq ?_ | refine WC_skip ?_ | refine WC_label ?_ | refine WC_scope ?_ | refine WC_block ?_ | refine WC_ret ?_ | refine WC_exit ?_ | refine seqQ_norm ?_ | refine seqQ_ret ?_ | refine seqQ_exit ?_ | refine blkQ_norm ?_ | refine blkQ_ret ?_ | refine blkQ_here ?_ | refine gateK_yes ?_ | refine gateK_none ?_ | refine condK_tt ?_ | refine condK_ff ?_ | refine roundQ_exit ?_ | refine roundQ_ret ?_)
  | refine WC_region ?_ | refine blkQ_out rfl ?_ | refine WO_nil ?_ | refine WD_nil ?_
  | ((first | refine WD_gate rfl rfl rfl rfl rfl fun K_ hK_ => ?_ | refine WO_gate rfl rfl rfl rfl rfl fun K_ hK_ => ?_); simp only [upd_apply, asB_bool, asB_tup, ↓reduceIte, reduceCtorEq, Nat.reduceEqDiff, Bool.not_true, Bool.not_false]; refine hK_ _ ?_; clear hK_ K_)
  | refine gateK_no (by decide) ?_
  | ((try first | refine WO_op rfl rfl rfl ?_ | refine WO_op0 rfl rfl ?_ | refine WD_op rfl rfl rfl ?_ | refine WD_op0 rfl rfl ?_); (refine WV_gen fun Q_ hQ_ => ?_; simp (disch := first | omega | (simp only [List.length_cons, List.length_nil, List.length_append]; omega)) only [bb, bp, argF, ↓reduceIte, reduceCtorEq, Nat.reduceEqDiff, Nat.reduceLT, Nat.reduceLeDiff, Nat.reduceAdd, Nat.reduceMul, Nat.reduceSub, Nat.reduceBEq, Int.reduceToNat, cond_true, cond_false, eq_self, beq_self_eq_true, newPtr_X wf, load1_X wf, loadAgg_X wf, store1_X wf, writeCells_X wf, makeFunc_def, tEvsD1, bsl_25, bsl_36, bsl_35, bsl_40, bsl_259, newSlice_X wf]; first | (refine dec_split (Q := Q_) (fun hp_ => ?_) (fun hp_ => ?_) <;> first | (exfalso; omega) | (refine hQ_ _ _ ?_; clear hQ_ Q_)) | (refine dec_splitn (Q := Q_) (fun hp_ => ?_) (fun hp_ => ?_) <;> first | (exfalso; omega) | (refine hQ_ _ _ ?_; clear hQ_ Q_)) | (refine hQ_ _ _ ?_; clear hQ_ Q_)))
  | (refine WC_cond fun K_ hK_ => ?_; simp (disch := omega) only [evT_tmp, upd_apply, WB_some, ↓reduceIte, reduceCtorEq, Nat.reduceEqDiff, Nat.reduceLT]; refine hK_ _ ?_; clear hK_ K_)))
  refine endQ_ret _ _ rfl (retc0 (by decide) (by simp (disch := first | omega | (simp only [List.length_cons, List.length_nil, List.length_append]; omega)) only [bb, bp, argF, ↓reduceIte, reduceCtorEq, Nat.reduceEqDiff, Nat.reduceLT, Nat.reduceLeDiff, Nat.reduceAdd, Nat.reduceMul, Nat.reduceSub, Nat.reduceBEq, Int.reduceToNat, cond_true, cond_false, eq_self, beq_self_eq_true, loadAgg_X wf, tEvsD1, bsl_25, bsl_36, bsl_35, bsl_40, bsl_259, newSlice_X wf]; rfl)) ?_
  refine WV_flat rfl (by omega) ?_
  exact ⟨rfl, rfl⟩
end Go.Proofs.YtdaecfjljelneaaGreatDoor
end

/- EvsD2 -/
section
/-
  LAYER 4: tests, and the numbers of the model and the ship.
-/
namespace Go.Proofs.YtdaecfjljelneaaGreatDoor
open Go.Ev
set_option maxRecDepth 100000
set_option linter.unusedSimpArgs false
set_option linter.unusedVariables false
set_option maxHeartbeats 2000000
theorem tEvsD2 : type_of% (And.intro (And.intro (And.intro (And.intro (And.intro (And.intro (And.intro (@bs_27) (@bs_44)) (And.intro (@bs_46) (And.intro (@bs_53) (@bs_82)))) (And.intro (And.intro (@bs_92) (@bs_179)) (And.intro (@bs_250) (And.intro (@bs_254) (@ia_2))))) (And.intro (And.intro (And.intro (@sz_2) (@ia_3)) (And.intro (@sz_3) (And.intro (@ia_4) (@sz_4)))) (And.intro (And.intro (@ia_25) (@sz_25)) (And.intro (@ia_27) (And.intro (@sz_27) (@ia_28)))))) (And.intro (And.intro (And.intro (And.intro (@sz_28) (@ia_44)) (And.intro (@sz_44) (And.intro (@ia_46) (@sz_46)))) (And.intro (And.intro (@ia_53) (@sz_53)) (And.intro (@ia_36) (And.intro (@sz_36) (@ia_35))))) (And.intro (And.intro (And.intro (@sz_35) (@ia_37)) (And.intro (@sz_37) (And.intro (@ia_38) (@sz_38)))) (And.intro (And.intro (@ia_82) (@sz_82)) (And.intro (@ia_84) (And.intro (@sz_84) (@ia_118))))))) (And.intro (And.intro (And.intro (And.intro (And.intro (@sz_118) (@ia_90)) (And.intro (@sz_90) (And.intro (@ia_92) (@sz_92)))) (And.intro (And.intro (@ia_85) (@sz_85)) (And.intro (@ia_179) (And.intro (@sz_179) (@ia_93))))) (And.intro (And.intro (And.intro (@sz_93) (@ia_40)) (And.intro (@sz_40) (And.intro (@ia_250) (@sz_250)))) (And.intro (And.intro (@ia_253) (@sz_253)) (And.intro (@ia_259) (And.intro (@sz_259) (@ia_261)))))) (And.intro (And.intro (And.intro (And.intro (@sz_261) (@ia_256)) (And.intro (@sz_256) (And.intro (@ia_257) (@sz_257)))) (And.intro (And.intro (@ia_254) (@sz_254)) (And.intro (@ia_278) (And.intro (@sz_278) (@ze_2))))) (And.intro (And.intro (And.intro (@ze_3) (@ze_4)) (And.intro (@ze_27) (And.intro (@ze_28) (@ze_44)))) (And.intro (And.intro (@ze_46) (@ze_53)) (And.intro (@ze_82) (And.intro (@ze_92) (@ze_179)))))))) (And.intro (And.intro (And.intro (And.intro (And.intro (And.intro (@ze_250) (@ze_254)) (And.intro (@fo_27_0) (And.intro (@fo_27_1) (@fo_44_0)))) (And.intro (And.intro (@fo_44_1) (@fo_46_0)) (And.intro (@fo_46_1) (And.intro (@fo_46_2) (@fo_46_3))))) (And.intro (And.intro (And.intro (@fo_46_4) (@fo_46_5)) (And.intro (@fo_46_6) (And.intro (@fo_46_7) (@fo_46_8)))) (And.intro (And.intro (@fo_46_9) (@fo_53_0)) (And.intro (@fo_53_1) (And.intro (@fo_53_2) (@fo_53_3)))))) (And.intro (And.intro (And.intro (And.intro (@fo_53_4) (@fo_53_5)) (And.intro (@fo_82_0) (And.intro (@fo_92_0) (@fo_92_1)))) (And.intro (And.intro (@fo_179_0) (@fo_179_1)) (And.intro (@fo_179_2) (And.intro (@fo_250_0) (@fo_250_1))))) (And.intro (And.intro (And.intro (@pb_29) (@pb_8)) (And.intro (@pb_31) (And.intro (@pb_7) (@pb_19)))) (And.intro (And.intro (@pb_38) (@pb_14)) (And.intro (@pb_42) (And.intro (@pb_11) (@pb_13))))))) (And.intro (And.intro (And.intro (And.intro (And.intro (@pb_95) (@pb_15)) (And.intro (@pb_92) (And.intro (@pb_93) (@pb_94)))) (And.intro (And.intro (@pb_32) (@pb_33)) (And.intro (@pb_96) (And.intro (@pb_30) (@pb_57))))) (And.intro (And.intro (And.intro (@pb_100) (@pb_43)) (And.intro (@pb_44) (And.intro (@pb_45) (@pb_46)))) (And.intro (And.intro (@pb_105) (@pb_106)) (And.intro (@pb_37) (And.intro (@pb_40) (@pb_41)))))) (And.intro (And.intro (And.intro (And.intro (@pb_36) (@pb_12)) (And.intro (@pb_101) (And.intro (@pb_158) (@pb_159)))) (And.intro (And.intro (@pb_160) (@pb_161)) (And.intro (@pb_47) (And.intro (@pb_97) (@pb_107))))) (And.intro (And.intro (And.intro (@pb_108) (@pb_165)) (And.intro (@pb_102) (And.intro (@pb_103) (@pb_104)))) (And.intro (And.intro (@pb_39) (And.intro (@pb_164) (@pb_192))) (And.intro (@pb_163) (And.intro (@pb_190) (@pb_191))))))))) := And.intro (And.intro (And.intro (And.intro (And.intro (And.intro (And.intro (@bs_27) (@bs_44)) (And.intro (@bs_46) (And.intro (@bs_53) (@bs_82)))) (And.intro (And.intro (@bs_92) (@bs_179)) (And.intro (@bs_250) (And.intro (@bs_254) (@ia_2))))) (And.intro (And.intro (And.intro (@sz_2) (@ia_3)) (And.intro (@sz_3) (And.intro (@ia_4) (@sz_4)))) (And.intro (And.intro (@ia_25) (@sz_25)) (And.intro (@ia_27) (And.intro (@sz_27) (@ia_28)))))) (And.intro (And.intro (And.intro (And.intro (@sz_28) (@ia_44)) (And.intro (@sz_44) (And.intro (@ia_46) (@sz_46)))) (And.intro (And.intro (@ia_53) (@sz_53)) (And.intro (@ia_36) (And.intro (@sz_36) (@ia_35))))) (And.intro (And.intro (And.intro (@sz_35) (@ia_37)) (And.intro (@sz_37) (And.intro (@ia_38) (@sz_38)))) (And.intro (And.intro (@ia_82) (@sz_82)) (And.intro (@ia_84) (And.intro (@sz_84) (@ia_118))))))) (And.intro (And.intro (And.intro (And.intro (And.intro (@sz_118) (@ia_90)) (And.intro (@sz_90) (And.intro (@ia_92) (@sz_92)))) (And.intro (And.intro (@ia_85) (@sz_85)) (And.intro (@ia_179) (And.intro (@sz_179) (@ia_93))))) (And.intro (And.intro (And.intro (@sz_93) (@ia_40)) (And.intro (@sz_40) (And.intro (@ia_250) (@sz_250)))) (And.intro (And.intro (@ia_253) (@sz_253)) (And.intro (@ia_259) (And.intro (@sz_259) (@ia_261)))))) (And.intro (And.intro (And.intro (And.intro (@sz_261) (@ia_256)) (And.intro (@sz_256) (And.intro (@ia_257) (@sz_257)))) (And.intro (And.intro (@ia_254) (@sz_254)) (And.intro (@ia_278) (And.intro (@sz_278) (@ze_2))))) (And.intro (And.intro (And.intro (@ze_3) (@ze_4)) (And.intro (@ze_27) (And.intro (@ze_28) (@ze_44)))) (And.intro (And.intro (@ze_46) (@ze_53)) (And.intro (@ze_82) (And.intro (@ze_92) (@ze_179)))))))) (And.intro (And.intro (And.intro (And.intro (And.intro (And.intro (@ze_250) (@ze_254)) (And.intro (@fo_27_0) (And.intro (@fo_27_1) (@fo_44_0)))) (And.intro (And.intro (@fo_44_1) (@fo_46_0)) (And.intro (@fo_46_1) (And.intro (@fo_46_2) (@fo_46_3))))) (And.intro (And.intro (And.intro (@fo_46_4) (@fo_46_5)) (And.intro (@fo_46_6) (And.intro (@fo_46_7) (@fo_46_8)))) (And.intro (And.intro (@fo_46_9) (@fo_53_0)) (And.intro (@fo_53_1) (And.intro (@fo_53_2) (@fo_53_3)))))) (And.intro (And.intro (And.intro (And.intro (@fo_53_4) (@fo_53_5)) (And.intro (@fo_82_0) (And.intro (@fo_92_0) (@fo_92_1)))) (And.intro (And.intro (@fo_179_0) (@fo_179_1)) (And.intro (@fo_179_2) (And.intro (@fo_250_0) (@fo_250_1))))) (And.intro (And.intro (And.intro (@pb_29) (@pb_8)) (And.intro (@pb_31) (And.intro (@pb_7) (@pb_19)))) (And.intro (And.intro (@pb_38) (@pb_14)) (And.intro (@pb_42) (And.intro (@pb_11) (@pb_13))))))) (And.intro (And.intro (And.intro (And.intro (And.intro (@pb_95) (@pb_15)) (And.intro (@pb_92) (And.intro (@pb_93) (@pb_94)))) (And.intro (And.intro (@pb_32) (@pb_33)) (And.intro (@pb_96) (And.intro (@pb_30) (@pb_57))))) (And.intro (And.intro (And.intro (@pb_100) (@pb_43)) (And.intro (@pb_44) (And.intro (@pb_45) (@pb_46)))) (And.intro (And.intro (@pb_105) (@pb_106)) (And.intro (@pb_37) (And.intro (@pb_40) (@pb_41)))))) (And.intro (And.intro (And.intro (And.intro (@pb_36) (@pb_12)) (And.intro (@pb_101) (And.intro (@pb_158) (@pb_159)))) (And.intro (And.intro (@pb_160) (@pb_161)) (And.intro (@pb_47) (And.intro (@pb_97) (@pb_107))))) (And.intro (And.intro (And.intro (@pb_108) (@pb_165)) (And.intro (@pb_102) (And.intro (@pb_103) (@pb_104)))) (And.intro (And.intro (@pb_39) (And.intro (@pb_164) (@pb_192))) (And.intro (@pb_163) (And.intro (@pb_190) (@pb_191))))))))
/-- A valid test. -/
structure okT (T : Te) : Prop where
  sp : 1 ≤ T.sp ∧ T.sp ≤ 10000
  lo : 1 ≤ T.lo ∧ T.lo ≤ 10000
  we : 1 ≤ T.we ∧ T.we ≤ 1000000
  al : 1 ≤ T.al ∧ T.al ≤ 10
  f : 0 ≤ T.f0 ∧ T.f0 ≤ T.f1 ∧ T.f1 ≤ 100000000
  t : 500 ≤ T.t0 ∧ T.t0 ≤ T.t1 ∧ T.t1 ≤ 3000
  s : 500 ≤ T.s0 ∧ T.s0 ≤ T.s1 ∧ T.s1 ≤ 3000
  o : 0 ≤ T.o0 ∧ T.o0 ≤ T.o1 ∧ T.o1 ≤ 1000
  b : 0 ≤ T.b0 ∧ T.b0 ≤ T.b1 ∧ T.b1 ≤ 200
  r : 0 ≤ T.r0 ∧ T.r0 ≤ T.r1 ∧ T.r1 ≤ 2000
theorem okT_iff (T : Te) : okT T ↔ ((1 ≤ T.sp ∧ T.sp ≤ 10000) ∧ (1 ≤ T.lo ∧ T.lo ≤ 10000) ∧ (1 ≤ T.we ∧ T.we ≤ 1000000) ∧ (1 ≤ T.al ∧ T.al ≤ 10) ∧ (0 ≤ T.f0 ∧ T.f0 ≤ T.f1 ∧ T.f1 ≤ 100000000) ∧ (500 ≤ T.t0 ∧ T.t0 ≤ T.t1 ∧ T.t1 ≤ 3000) ∧ (500 ≤ T.s0 ∧ T.s0 ≤ T.s1 ∧ T.s1 ≤ 3000) ∧ (0 ≤ T.o0 ∧ T.o0 ≤ T.o1 ∧ T.o1 ≤ 1000) ∧ (0 ≤ T.b0 ∧ T.b0 ≤ T.b1 ∧ T.b1 ≤ 200) ∧ (0 ≤ T.r0 ∧ T.r0 ≤ T.r1 ∧ T.r1 ≤ 2000)) :=
  ⟨fun ⟨a, b, c, d, e, f, g, h, i, j⟩ => ⟨a, b, c, d, e, f, g, h, i, j⟩, fun ⟨a, b, c, d, e, f, g, h, i, j⟩ => ⟨a, b, c, d, e, f, g, h, i, j⟩⟩
instance (T : Te) : Decidable (okT T) := decidable_of_iff _ (okT_iff T).symm
theorem mul_bd {a b x y : Int} (ha : 0 ≤ a ∧ a ≤ x) (hb : 0 ≤ b ∧ b ≤ y) : 0 ≤ a * b ∧ a * b ≤ x * y :=
  ⟨Int.mul_nonneg ha.1 hb.1, Int.mul_le_mul ha.2 hb.2 hb.1 (by omega)⟩
theorem div_in {n g : Int} (hn : 0 ≤ n ∧ n ≤ 9223372036854775807) (hg : 0 < g) : IntKind.i64.wrap (n.tdiv g) = n / g := by
  rw [Int.tdiv_eq_ediv_of_nonneg hn.1]
  have h1 : 0 ≤ n / g := Int.ediv_nonneg hn.1 (by omega)
  have h2 : n / g ≤ n := Int.ediv_le_self _ hn.1
  obtain ⟨a, b⟩ := hn
  exact wrap_in _ (by omega) (by omega)
def mo (T : Te) (tank : Int) : Int := T.sp * T.lo / tank
def sh (T : Te) (sea : Int) : Int := T.sp * T.lo * T.al * T.al * T.al / sea
structure Prods (T : Te) : Prop where
  p2 : 0 ≤ T.sp * T.lo ∧ T.sp * T.lo ≤ 100000000
  p3 : 0 ≤ T.sp * T.lo * T.al ∧ T.sp * T.lo * T.al ≤ 1000000000
  p4 : 0 ≤ T.sp * T.lo * T.al * T.al ∧ T.sp * T.lo * T.al * T.al ≤ 10000000000
  p5 : 0 ≤ T.sp * T.lo * T.al * T.al * T.al ∧ T.sp * T.lo * T.al * T.al * T.al ≤ 100000000000
  w2 : 1 ≤ T.we * T.sp ∧ T.we * T.sp ≤ 10000000000
  w3 : 1 ≤ T.we * T.sp * T.sp ∧ T.we * T.sp * T.sp ≤ 100000000000000
theorem okT.prods {T : Te} (k : okT T) : Prods T := by
  have h2 := mul_bd (a := T.sp) (b := T.lo) (x := 10000) (y := 10000) ⟨by have := k.sp; omega, k.sp.2⟩ ⟨by have := k.lo; omega, k.lo.2⟩
  have ha : 0 ≤ T.al ∧ T.al ≤ 10 := ⟨by have := k.al; omega, k.al.2⟩
  have h3 := mul_bd h2 ha
  have h4 := mul_bd h3 ha
  have h5 := mul_bd h4 ha
  have hs : 0 ≤ T.sp ∧ T.sp ≤ 10000 := ⟨by have := k.sp; omega, k.sp.2⟩
  have w2 := mul_bd (a := T.we) (x := 1000000) ⟨by have := k.we; omega, k.we.2⟩ hs
  have w3 := mul_bd w2 hs
  have p1 := Int.mul_pos (show 0 < T.we by have := k.we; omega) (show 0 < T.sp by have := k.sp; omega)
  have p2 := Int.mul_pos p1 (show 0 < T.sp by have := k.sp; omega)
  exact ⟨⟨h2.1, by omega⟩, ⟨h3.1, by omega⟩, ⟨h4.1, by omega⟩, ⟨h5.1, by omega⟩, ⟨by omega, by omega⟩, ⟨by omega, by omega⟩⟩
theorem model (T : Te) (k : okT T) (lv : AV) (n : Int) (hn : 0 < n) (h : H) (wf : Wf h) : (om Tryz.prog KK).call (.fn 44 [.agg [ii T.sp, ii T.lo, ii T.we, ii T.al, ii T.f0, ii T.f1, ii T.t0, ii T.t1, ii T.s0, ii T.s1, ii T.o0, ii T.o1, ii T.b0, ii T.b1, ii T.r0, ii T.r1, lv], ii n]) h = .ok (ii (mo T n)) h := by
  refine WV_to (WV_call (fn := Tryz.f44) Tryz.func44 rfl rfl rfl rfl rfl ?_)
  simp only [argF]
  have hz : n ≠ 0 := by omega
  obtain ⟨p2, p3, p4, p5, -, -⟩ := k.prods
  (repeat' (first
  | (with_reducible first | refine WC_seq ?_ | refine WC_skip ?_ | refine WC_label ?_ | refine WC_scope ?_ | refine WC_block ?_ | refine WC_ret ?_ | refine WC_exit ?_ | refine seqQ_norm ?_ | refine seqQ_ret ?_ | refine seqQ_exit ?_ | refine blkQ_norm ?_ | refine blkQ_ret ?_ | refine blkQ_here ?_ | refine gateK_yes ?_ | refine gateK_none ?_ | refine condK_tt ?_ | refine condK_ff ?_ | refine roundQ_exit ?_ | refine roundQ_ret ?_)
  | refine WC_region ?_ | refine blkQ_out rfl ?_ | refine WO_nil ?_ | refine WD_nil ?_
  | ((first | refine WD_gate rfl rfl rfl rfl rfl fun K_ hK_ => ?_ | refine WO_gate rfl rfl rfl rfl rfl fun K_ hK_ => ?_); simp only [upd_apply, asB_bool, asB_tup, ↓reduceIte, reduceCtorEq, Nat.reduceEqDiff, Bool.not_true, Bool.not_false]; refine hK_ _ ?_; clear hK_ K_)
  | refine gateK_no (by decide) ?_
  | ((try first | refine WO_op rfl rfl rfl ?_ | refine WO_op0 rfl rfl ?_ | refine WD_op rfl rfl rfl ?_ | refine WD_op0 rfl rfl ?_); (refine WV_gen fun Q_ hQ_ => ?_; simp (disch := first | omega | (simp only [List.length_cons, List.length_nil, List.length_append]; omega)) only [bb, bp, argF, ↓reduceIte, reduceCtorEq, Nat.reduceEqDiff, Nat.reduceLT, Nat.reduceLeDiff, Nat.reduceAdd, Nat.reduceMul, Nat.reduceSub, Nat.reduceBEq, Int.reduceToNat, cond_true, cond_false, eq_self, beq_self_eq_true, b_quo hz, div_in (n := T.sp * T.lo) ⟨by omega, by omega⟩ hn, newPtr_X wf, load1_X wf, loadAgg_X wf, store1_X wf, writeCells_X wf, makeFunc_def, tEvsD2, bsl_25, bsl_36, bsl_35, bsl_40, bsl_259, newSlice_X wf]; first | (refine dec_split (Q := Q_) (fun hp_ => ?_) (fun hp_ => ?_) <;> first | (exfalso; omega) | (refine hQ_ _ _ ?_; clear hQ_ Q_)) | (refine dec_splitn (Q := Q_) (fun hp_ => ?_) (fun hp_ => ?_) <;> first | (exfalso; omega) | (refine hQ_ _ _ ?_; clear hQ_ Q_)) | (refine hQ_ _ _ ?_; clear hQ_ Q_)))
  | (refine WC_cond fun K_ hK_ => ?_; simp (disch := omega) only [evT_tmp, upd_apply, WB_some, ↓reduceIte, reduceCtorEq, Nat.reduceEqDiff, Nat.reduceLT]; refine hK_ _ ?_; clear hK_ K_)))
  (refine endQ_ret _ _ rfl (ret1 (by decide)) ?_; simp only [upd_apply, ↓reduceIte, reduceCtorEq, Nat.reduceEqDiff]; refine WV_flat rfl (by omega) ?_)
  exact ⟨rfl, rfl⟩
theorem numbers (T : Te) (k : okT T) (m n : Int) (hm : 0 < m) (hn : 0 < n) (h : H) (wf : Wf h) : (om Tryz.prog KK).call (.fn 100 [.agg [ii T.sp, ii T.lo, ii T.we, ii T.al, ii T.f0, ii T.f1, ii T.t0, ii T.t1, ii T.s0, ii T.s1, ii T.o0, ii T.o1, ii T.b0, ii T.b1, ii T.r0, ii T.r1], ii m, ii n]) h = .ok (.tup [ii (mo T m), ii (sh T n)]) h := by
  refine WV_to (WV_call (fn := Tryz.f100) Tryz.func100 rfl rfl rfl rfl rfl ?_)
  simp only [argF]
  have hz : n ≠ 0 := by omega
  have hz' : m ≠ 0 := by omega
  obtain ⟨p2, p3, p4, p5, -, -⟩ := k.prods
  (repeat' (first
  | (with_reducible first | refine WC_seq ?_ | refine WC_skip ?_ | refine WC_label ?_ | refine WC_scope ?_ | refine WC_block ?_ | refine WC_ret ?_ | refine WC_exit ?_ | refine seqQ_norm ?_ | refine seqQ_ret ?_ | refine seqQ_exit ?_ | refine blkQ_norm ?_ | refine blkQ_ret ?_ | refine blkQ_here ?_ | refine gateK_yes ?_ | refine gateK_none ?_ | refine condK_tt ?_ | refine condK_ff ?_ | refine roundQ_exit ?_ | refine roundQ_ret ?_)
  | refine WC_region ?_ | refine blkQ_out rfl ?_ | refine WO_nil ?_ | refine WD_nil ?_
  | ((first | refine WD_gate rfl rfl rfl rfl rfl fun K_ hK_ => ?_ | refine WO_gate rfl rfl rfl rfl rfl fun K_ hK_ => ?_); simp only [upd_apply, asB_bool, asB_tup, ↓reduceIte, reduceCtorEq, Nat.reduceEqDiff, Bool.not_true, Bool.not_false]; refine hK_ _ ?_; clear hK_ K_)
  | refine gateK_no (by decide) ?_
  | ((try first | refine WO_op rfl rfl rfl ?_ | refine WO_op0 rfl rfl ?_ | refine WD_op rfl rfl rfl ?_ | refine WD_op0 rfl rfl ?_); (refine WV_gen fun Q_ hQ_ => ?_; simp (disch := first | omega | (simp only [List.length_cons, List.length_nil, List.length_append]; omega)) only [bb, bp, argF, ↓reduceIte, reduceCtorEq, Nat.reduceEqDiff, Nat.reduceLT, Nat.reduceLeDiff, Nat.reduceAdd, Nat.reduceMul, Nat.reduceSub, Nat.reduceBEq, Int.reduceToNat, cond_true, cond_false, eq_self, beq_self_eq_true, newPtr_X wf, load1_X wf, loadAgg_X wf, store1_X wf, writeCells_X wf, makeFunc_def, tEvsD2, bsl_25, bsl_36, bsl_35, bsl_40, bsl_259, newSlice_X wf]; first | (refine dec_split (Q := Q_) (fun hp_ => ?_) (fun hp_ => ?_) <;> first | (exfalso; omega) | (refine hQ_ _ _ ?_; clear hQ_ Q_)) | (refine dec_splitn (Q := Q_) (fun hp_ => ?_) (fun hp_ => ?_) <;> first | (exfalso; omega) | (refine hQ_ _ _ ?_; clear hQ_ Q_)) | (refine hQ_ _ _ ?_; clear hQ_ Q_)))
  | (refine WC_cond fun K_ hK_ => ?_; simp (disch := omega) only [evT_tmp, upd_apply, WB_some, ↓reduceIte, reduceCtorEq, Nat.reduceEqDiff, Nat.reduceLT]; refine hK_ _ ?_; clear hK_ K_)))
  refine WC_drawnB (List.replicate 24 .no ++ [.full]) (by kernel_rfl) ?_
  (repeat' (first
  | (with_reducible first | refine WC_seq ?_ | refine WC_skip ?_ | refine WC_label ?_ | refine WC_scope ?_ | refine WC_block ?_ | refine WC_ret ?_ | refine WC_exit ?_ | refine seqQ_norm ?_ | refine seqQ_ret ?_ | refine seqQ_exit ?_ | refine blkQ_norm ?_ | refine blkQ_ret ?_ | refine blkQ_here ?_ | refine gateK_yes ?_ | refine gateK_none ?_ | refine condK_tt ?_ | refine condK_ff ?_ | refine roundQ_exit ?_ | refine roundQ_ret ?_)
  | refine WC_region ?_ | refine blkQ_out rfl ?_ | refine WO_nil ?_ | refine WD_nil ?_
  | ((first | refine WD_gate rfl rfl rfl rfl rfl fun K_ hK_ => ?_ | refine WO_gate rfl rfl rfl rfl rfl fun K_ hK_ => ?_); simp only [upd_apply, asB_bool, asB_tup, ↓reduceIte, reduceCtorEq, Nat.reduceEqDiff, Bool.not_true, Bool.not_false]; refine hK_ _ ?_; clear hK_ K_)
  | refine gateK_no (by decide) ?_
  | ((try first | refine WO_op rfl rfl rfl ?_ | refine WO_op0 rfl rfl ?_ | refine WD_op rfl rfl rfl ?_ | refine WD_op0 rfl rfl ?_); (refine WV_gen fun Q_ hQ_ => ?_; simp (disch := first | omega | (simp only [List.length_cons, List.length_nil, List.length_append]; omega)) only [bb, bp, argF, ↓reduceIte, reduceCtorEq, Nat.reduceEqDiff, Nat.reduceLT, Nat.reduceLeDiff, Nat.reduceAdd, Nat.reduceMul, Nat.reduceSub, Nat.reduceBEq, Int.reduceToNat, cond_true, cond_false, eq_self, beq_self_eq_true, b_quo hz, b_quo hz', div_in (n := T.sp * T.lo * T.al * T.al * T.al) ⟨by omega, by omega⟩ hn, div_in (n := T.sp * T.lo) ⟨by omega, by omega⟩ hm, newPtr_X wf, load1_X wf, loadAgg_X wf, store1_X wf, writeCells_X wf, makeFunc_def, tEvsD2, bsl_25, bsl_36, bsl_35, bsl_40, bsl_259, newSlice_X wf]; first | (refine dec_split (Q := Q_) (fun hp_ => ?_) (fun hp_ => ?_) <;> first | (exfalso; omega) | (refine hQ_ _ _ ?_; clear hQ_ Q_)) | (refine dec_splitn (Q := Q_) (fun hp_ => ?_) (fun hp_ => ?_) <;> first | (exfalso; omega) | (refine hQ_ _ _ ?_; clear hQ_ Q_)) | (refine hQ_ _ _ ?_; clear hQ_ Q_)))
  | (refine WC_cond fun K_ hK_ => ?_; simp (disch := omega) only [evT_tmp, upd_apply, WB_some, ↓reduceIte, reduceCtorEq, Nat.reduceEqDiff, Nat.reduceLT]; refine hK_ _ ?_; clear hK_ K_)))
  (refine endQ_ret _ _ rfl (ret2 (by decide) (by decide)) ?_; simp only [upd_apply, ↓reduceIte, reduceCtorEq, Nat.reduceEqDiff]; refine WV_flat rfl (by omega) ?_)
  exact ⟨rfl, rfl⟩
end Go.Proofs.YtdaecfjljelneaaGreatDoor
end

/- EvsD3 -/
section
/-
  LAYER 4: bounds that are kept.
-/
namespace Go.Proofs.YtdaecfjljelneaaGreatDoor
open Go.Ev
set_option maxRecDepth 100000
set_option linter.unusedSimpArgs false
set_option linter.unusedVariables false
set_option maxHeartbeats 2000000
/-! ### Lists of elements of one size, laid side by side -/
theorem tEvsD3 : type_of% (And.intro (And.intro (And.intro (And.intro (And.intro (And.intro (And.intro (@bs_27) (@bs_44)) (And.intro (@bs_46) (And.intro (@bs_53) (@bs_82)))) (And.intro (And.intro (@bs_92) (@bs_179)) (And.intro (@bs_250) (And.intro (@bs_254) (@ia_2))))) (And.intro (And.intro (And.intro (@sz_2) (@ia_3)) (And.intro (@sz_3) (And.intro (@ia_4) (@sz_4)))) (And.intro (And.intro (@ia_25) (@sz_25)) (And.intro (@ia_27) (And.intro (@sz_27) (@ia_28)))))) (And.intro (And.intro (And.intro (And.intro (@sz_28) (@ia_44)) (And.intro (@sz_44) (And.intro (@ia_46) (@sz_46)))) (And.intro (And.intro (@ia_53) (@sz_53)) (And.intro (@ia_36) (And.intro (@sz_36) (@ia_35))))) (And.intro (And.intro (And.intro (@sz_35) (@ia_37)) (And.intro (@sz_37) (And.intro (@ia_38) (@sz_38)))) (And.intro (And.intro (@ia_82) (@sz_82)) (And.intro (@ia_84) (And.intro (@sz_84) (@ia_118))))))) (And.intro (And.intro (And.intro (And.intro (And.intro (@sz_118) (@ia_90)) (And.intro (@sz_90) (And.intro (@ia_92) (@sz_92)))) (And.intro (And.intro (@ia_85) (@sz_85)) (And.intro (@ia_179) (And.intro (@sz_179) (@ia_93))))) (And.intro (And.intro (And.intro (@sz_93) (@ia_40)) (And.intro (@sz_40) (And.intro (@ia_250) (@sz_250)))) (And.intro (And.intro (@ia_253) (@sz_253)) (And.intro (@ia_259) (And.intro (@sz_259) (@ia_261)))))) (And.intro (And.intro (And.intro (And.intro (@sz_261) (@ia_256)) (And.intro (@sz_256) (And.intro (@ia_257) (@sz_257)))) (And.intro (And.intro (@ia_254) (@sz_254)) (And.intro (@ia_278) (And.intro (@sz_278) (@ze_2))))) (And.intro (And.intro (And.intro (@ze_3) (@ze_4)) (And.intro (@ze_27) (And.intro (@ze_28) (@ze_44)))) (And.intro (And.intro (@ze_46) (@ze_53)) (And.intro (@ze_82) (And.intro (@ze_92) (@ze_179)))))))) (And.intro (And.intro (And.intro (And.intro (And.intro (And.intro (@ze_250) (@ze_254)) (And.intro (@fo_27_0) (And.intro (@fo_27_1) (@fo_44_0)))) (And.intro (And.intro (@fo_44_1) (@fo_46_0)) (And.intro (@fo_46_1) (And.intro (@fo_46_2) (@fo_46_3))))) (And.intro (And.intro (And.intro (@fo_46_4) (@fo_46_5)) (And.intro (@fo_46_6) (And.intro (@fo_46_7) (@fo_46_8)))) (And.intro (And.intro (@fo_46_9) (@fo_53_0)) (And.intro (@fo_53_1) (And.intro (@fo_53_2) (@fo_53_3)))))) (And.intro (And.intro (And.intro (And.intro (@fo_53_4) (@fo_53_5)) (And.intro (@fo_82_0) (And.intro (@fo_92_0) (@fo_92_1)))) (And.intro (And.intro (@fo_179_0) (@fo_179_1)) (And.intro (@fo_179_2) (And.intro (@fo_250_0) (@fo_250_1))))) (And.intro (And.intro (And.intro (@pb_29) (@pb_8)) (And.intro (@pb_31) (And.intro (@pb_7) (@pb_19)))) (And.intro (And.intro (@pb_38) (@pb_14)) (And.intro (@pb_42) (And.intro (@pb_11) (@pb_13))))))) (And.intro (And.intro (And.intro (And.intro (And.intro (@pb_95) (@pb_15)) (And.intro (@pb_92) (And.intro (@pb_93) (@pb_94)))) (And.intro (And.intro (@pb_32) (@pb_33)) (And.intro (@pb_96) (And.intro (@pb_30) (@pb_57))))) (And.intro (And.intro (And.intro (@pb_100) (@pb_43)) (And.intro (@pb_44) (And.intro (@pb_45) (@pb_46)))) (And.intro (And.intro (@pb_105) (@pb_106)) (And.intro (@pb_37) (And.intro (@pb_40) (@pb_41)))))) (And.intro (And.intro (And.intro (And.intro (@pb_36) (@pb_12)) (And.intro (@pb_101) (And.intro (@pb_158) (@pb_159)))) (And.intro (And.intro (@pb_160) (@pb_161)) (And.intro (@pb_47) (And.intro (@pb_97) (@pb_107))))) (And.intro (And.intro (And.intro (@pb_108) (@pb_165)) (And.intro (@pb_102) (And.intro (@pb_103) (@pb_104)))) (And.intro (And.intro (@pb_39) (And.intro (@pb_164) (@pb_192))) (And.intro (@pb_163) (And.intro (@pb_190) (@pb_191))))))))) := And.intro (And.intro (And.intro (And.intro (And.intro (And.intro (And.intro (@bs_27) (@bs_44)) (And.intro (@bs_46) (And.intro (@bs_53) (@bs_82)))) (And.intro (And.intro (@bs_92) (@bs_179)) (And.intro (@bs_250) (And.intro (@bs_254) (@ia_2))))) (And.intro (And.intro (And.intro (@sz_2) (@ia_3)) (And.intro (@sz_3) (And.intro (@ia_4) (@sz_4)))) (And.intro (And.intro (@ia_25) (@sz_25)) (And.intro (@ia_27) (And.intro (@sz_27) (@ia_28)))))) (And.intro (And.intro (And.intro (And.intro (@sz_28) (@ia_44)) (And.intro (@sz_44) (And.intro (@ia_46) (@sz_46)))) (And.intro (And.intro (@ia_53) (@sz_53)) (And.intro (@ia_36) (And.intro (@sz_36) (@ia_35))))) (And.intro (And.intro (And.intro (@sz_35) (@ia_37)) (And.intro (@sz_37) (And.intro (@ia_38) (@sz_38)))) (And.intro (And.intro (@ia_82) (@sz_82)) (And.intro (@ia_84) (And.intro (@sz_84) (@ia_118))))))) (And.intro (And.intro (And.intro (And.intro (And.intro (@sz_118) (@ia_90)) (And.intro (@sz_90) (And.intro (@ia_92) (@sz_92)))) (And.intro (And.intro (@ia_85) (@sz_85)) (And.intro (@ia_179) (And.intro (@sz_179) (@ia_93))))) (And.intro (And.intro (And.intro (@sz_93) (@ia_40)) (And.intro (@sz_40) (And.intro (@ia_250) (@sz_250)))) (And.intro (And.intro (@ia_253) (@sz_253)) (And.intro (@ia_259) (And.intro (@sz_259) (@ia_261)))))) (And.intro (And.intro (And.intro (And.intro (@sz_261) (@ia_256)) (And.intro (@sz_256) (And.intro (@ia_257) (@sz_257)))) (And.intro (And.intro (@ia_254) (@sz_254)) (And.intro (@ia_278) (And.intro (@sz_278) (@ze_2))))) (And.intro (And.intro (And.intro (@ze_3) (@ze_4)) (And.intro (@ze_27) (And.intro (@ze_28) (@ze_44)))) (And.intro (And.intro (@ze_46) (@ze_53)) (And.intro (@ze_82) (And.intro (@ze_92) (@ze_179)))))))) (And.intro (And.intro (And.intro (And.intro (And.intro (And.intro (@ze_250) (@ze_254)) (And.intro (@fo_27_0) (And.intro (@fo_27_1) (@fo_44_0)))) (And.intro (And.intro (@fo_44_1) (@fo_46_0)) (And.intro (@fo_46_1) (And.intro (@fo_46_2) (@fo_46_3))))) (And.intro (And.intro (And.intro (@fo_46_4) (@fo_46_5)) (And.intro (@fo_46_6) (And.intro (@fo_46_7) (@fo_46_8)))) (And.intro (And.intro (@fo_46_9) (@fo_53_0)) (And.intro (@fo_53_1) (And.intro (@fo_53_2) (@fo_53_3)))))) (And.intro (And.intro (And.intro (And.intro (@fo_53_4) (@fo_53_5)) (And.intro (@fo_82_0) (And.intro (@fo_92_0) (@fo_92_1)))) (And.intro (And.intro (@fo_179_0) (@fo_179_1)) (And.intro (@fo_179_2) (And.intro (@fo_250_0) (@fo_250_1))))) (And.intro (And.intro (And.intro (@pb_29) (@pb_8)) (And.intro (@pb_31) (And.intro (@pb_7) (@pb_19)))) (And.intro (And.intro (@pb_38) (@pb_14)) (And.intro (@pb_42) (And.intro (@pb_11) (@pb_13))))))) (And.intro (And.intro (And.intro (And.intro (And.intro (@pb_95) (@pb_15)) (And.intro (@pb_92) (And.intro (@pb_93) (@pb_94)))) (And.intro (And.intro (@pb_32) (@pb_33)) (And.intro (@pb_96) (And.intro (@pb_30) (@pb_57))))) (And.intro (And.intro (And.intro (@pb_100) (@pb_43)) (And.intro (@pb_44) (And.intro (@pb_45) (@pb_46)))) (And.intro (And.intro (@pb_105) (@pb_106)) (And.intro (@pb_37) (And.intro (@pb_40) (@pb_41)))))) (And.intro (And.intro (And.intro (And.intro (@pb_36) (@pb_12)) (And.intro (@pb_101) (And.intro (@pb_158) (@pb_159)))) (And.intro (And.intro (@pb_160) (@pb_161)) (And.intro (@pb_47) (And.intro (@pb_97) (@pb_107))))) (And.intro (And.intro (And.intro (@pb_108) (@pb_165)) (And.intro (@pb_102) (And.intro (@pb_103) (@pb_104)))) (And.intro (And.intro (@pb_39) (And.intro (@pb_164) (@pb_192))) (And.intro (@pb_163) (And.intro (@pb_190) (@pb_191))))))))
theorem flat_at {α : Type} {f : α → List AV} {m : Nat} (hf : ∀ a, (f a).length = m) : ∀ {l : List α} {i : Nat} (hi : i < l.length), ((l.flatMap f).drop (i * m)).take m = f l[i]
  | [], i, hi => by simp at hi
  | a :: l, 0, _ => by
    rw [List.flatMap_cons, Nat.zero_mul, List.drop_zero, List.take_append_of_le_length (by rw [hf]; exact Nat.le_refl _), List.take_of_length_le (by rw [hf]; exact Nat.le_refl _)]; rfl
  | a :: l, i + 1, hi => by
    rw [List.flatMap_cons, Nat.succ_mul, Nat.add_comm, ← hf a, ← List.drop_drop, List.drop_left]
    have := flat_at hf (l := l) (i := i) (by simpa using hi)
    rw [hf a]
    exact this

/-- A bound: a range, and the least and greatest number that it may have. -/
abbrev Bd := Int × Int × Int × Int
def bdC (b : Bd) : List AV := [ii b.1, ii b.2.1, ii b.2.2.1, ii b.2.2.2]
theorem bdC_length (b : Bd) : (bdC b).length = 4 := rfl
abbrev kept (b : Bd) : Prop := b.2.2.1 ≤ b.1 ∧ b.1 ≤ b.2.1 ∧ b.2.1 ≤ b.2.2.2
def bad (b : Bd) : Bool := !decide (kept b)
def bads (bs : List Bd) : List (List AV) := (bs.filter bad).map fun b => [.agg (bdC b)]
theorem filter_at {α β : Type} {p : α → Bool} {f : α → β} {l : List α} {i : Nat} (hi : i < l.length) (hp : p l[i] = true) : ((l.filter p).map f)[((l.take i).filter p).length]? = some (f l[i]) := by
  have e : l = l.take i ++ l[i] :: l.drop (i + 1) := by rw [← List.drop_eq_getElem_cons hi, List.take_append_drop]
  have e2 : l.filter p = (l.take i).filter p ++ l[i] :: (l.drop (i + 1)).filter p := by
    conv => lhs; rw [e]
    rw [List.filter_append, List.filter_cons_of_pos hp]
  rw [List.getElem?_map, e2, List.getElem?_append_right (Nat.le_refl _), Nat.sub_self]
  rfl
theorem filter_step {α : Type} {p : α → Bool} {l : List α} {i : Nat} (hi : i < l.length) : ((l.take (i + 1)).filter p).length = ((l.take i).filter p).length + (if p l[i] = true then 1 else 0) := by
  rw [List.take_succ_eq_append_getElem hi, List.filter_append, List.length_append]
  congr 1
  by_cases h : p l[i] = true
  · rw [List.filter_cons_of_pos h, if_pos h]; rfl
  · rw [List.filter_cons_of_neg h, if_neg h]; rfl

structure BdsIn (hb : H) (p : Pos) (s : AV) (bs : List Bd) : Prop where
  wf : Wf hb
  ld : ∀ J w, load1 p 0 (X hb J w) = some s
  sl : Sl hb s 4 bs.length (bs.flatMap bdC)

theorem broken1 (p : Pos) (s : AV) (bs : List Bd) (hn : bs.length ≤ 1000) : Hands Tryz.prog KK (fun hb => BdsIn hb p s bs) (.fn 192 [] [.ptr p 0]) (bads bs) := by
  intro l hb0 I D lo hlo0 hlow hI hy h0
  have hB := (hI 0 hb0 h0).1
  have wf := hB.wf
  rw [callV_fn, pb_192]
  show WV ((om Tryz.prog KK).call (.fn 192 [.yld l, .ptr p 0]) hb0) _
  refine WV_call (fn := Tryz.f192) Tryz.func192 rfl rfl rfl rfl rfl ?_
  simp only [argF]
  have hlen : ∀ h', lenE Tryz.prog 259 s h' = some (ii (bs.length : Int)) := fun h' => hB.sl.len un_259
  have hld := hB.ld
  (repeat' (first
  | (with_reducible first | refine WC_seq ?_ | refine WC_skip ?_ | refine WC_label ?_ | refine WC_scope ?_ | refine WC_block ?_ | refine WC_ret ?_ | refine WC_exit ?_ | refine seqQ_norm ?_ | refine seqQ_ret ?_ | refine seqQ_exit ?_ | refine blkQ_norm ?_ | refine blkQ_ret ?_ | refine blkQ_here ?_ | refine gateK_yes ?_ | refine gateK_none ?_ | refine condK_tt ?_ | refine condK_ff ?_ | refine roundQ_exit ?_ | refine roundQ_ret ?_)
  | refine WC_region ?_ | refine blkQ_out rfl ?_ | refine WO_nil ?_ | refine WD_nil ?_
  | ((first | refine WD_gate rfl rfl rfl rfl rfl fun K_ hK_ => ?_ | refine WO_gate rfl rfl rfl rfl rfl fun K_ hK_ => ?_); simp only [upd_apply, asB_bool, asB_tup, ↓reduceIte, reduceCtorEq, Nat.reduceEqDiff, Bool.not_true, Bool.not_false]; refine hK_ _ ?_; clear hK_ K_)
  | refine gateK_no (by decide) ?_
  | ((try first | refine WO_op rfl rfl rfl ?_ | refine WO_op0 rfl rfl ?_ | refine WD_op rfl rfl rfl ?_ | refine WD_op0 rfl rfl ?_); (refine WV_gen fun Q_ hQ_ => ?_; simp (disch := first | omega | (simp only [List.length_cons, List.length_nil, List.length_append]; omega)) only [bb, bp, argF, ↓reduceIte, reduceCtorEq, Nat.reduceEqDiff, Nat.reduceLT, Nat.reduceLeDiff, Nat.reduceAdd, Nat.reduceMul, Nat.reduceSub, Nat.reduceBEq, Int.reduceToNat, cond_true, cond_false, eq_self, beq_self_eq_true, hlen, hld, newPtr_X wf, load1_X wf, loadAgg_X wf, store1_X wf, writeCells_X wf, makeFunc_def, tEvsD3, bsl_25, bsl_36, bsl_35, bsl_40, bsl_259, newSlice_X wf]; first | (refine dec_split (Q := Q_) (fun hp_ => ?_) (fun hp_ => ?_) <;> first | (exfalso; omega) | (refine hQ_ _ _ ?_; clear hQ_ Q_)) | (refine dec_splitn (Q := Q_) (fun hp_ => ?_) (fun hp_ => ?_) <;> first | (exfalso; omega) | (refine hQ_ _ _ ?_; clear hQ_ Q_)) | (refine hQ_ _ _ ?_; clear hQ_ Q_)))
  | (refine WC_cond fun K_ hK_ => ?_; simp (disch := omega) only [evT_tmp, upd_apply, WB_some, ↓reduceIte, reduceCtorEq, Nat.reduceEqDiff, Nat.reduceLT]; refine hK_ _ ?_; clear hK_ K_)))
  refine WC_loop (fun (i : Nat) f d h' => i ≤ bs.length ∧ f 0 = .yld l ∧ f 6 = s ∧ f 7 = ii (bs.length : Int) ∧ f 8 = ii (i : Int) ∧ d = [] ∧
    ∃ hb J w, h' = X hb J w ∧ I ((bs.take i).filter bad).length hb ∧ lo ≤ w ∧ w ≤ hb.clock ∧ (0 < ((bs.take i).filter bad).length → w < hb.clock) ∧ (((bs.take i).filter bad).length = 0 → hb = hb0 ∧ w = hb0.clock)) (fun i => bs.length - i) ?_ (bs.length + 1) 0 (by omega) ?_
  · clear wf hB hlen hld
    rintro i f d h' ⟨hi, g0, g6, g7, g8, rfl, hb, J, w, rfl, hIi, hlo, hw, hw0, hw1⟩
    have hB := (hI _ hb hIi).1
    have hs := (hI _ hb hIi).2
    have wf := hB.wf
    by_cases hlt : i < bs.length
    · obtain ⟨id, off, hix, hld⟩ := hB.sl.at wf hlt ik_259
      have hel : ∀ l w, loadAgg id off (some 4) (X hb l w) = some (.agg [ii bs[i].1, ii bs[i].2.1, ii bs[i].2.2.1, ii bs[i].2.2.2]) := fun l w => by rw [(hld l w).2, flat_at bdC_length hlt]; rfl
      have hst := filter_step (p := bad) hlt
      by_cases hk : kept bs[i]
      · have hbd : bad bs[i] = false := by unfold bad; rw [decide_eq_true hk]; rfl
        rw [hbd] at hst
        simp only [Bool.false_eq_true, ↓reduceIte, Nat.add_zero] at hst
        obtain ⟨k1, k2, k3⟩ := hk
        (repeat' (first
  | (with_reducible first | refine WC_seq ?_ | refine WC_skip ?_ | refine WC_label ?_ | refine WC_scope ?_ | refine WC_block ?_ | refine WC_ret ?_ | refine WC_exit ?_ | refine seqQ_norm ?_ | refine seqQ_ret ?_ | refine seqQ_exit ?_ | refine blkQ_norm ?_ | refine blkQ_ret ?_ | refine blkQ_here ?_ | refine gateK_yes ?_ | refine gateK_none ?_ | refine condK_tt ?_ | refine condK_ff ?_ | refine roundQ_exit ?_ | refine roundQ_ret ?_)
  | refine WC_region ?_ | refine blkQ_out rfl ?_ | refine WO_nil ?_ | refine WD_nil ?_
  | ((first | refine WD_gate rfl rfl rfl rfl rfl fun K_ hK_ => ?_ | refine WO_gate rfl rfl rfl rfl rfl fun K_ hK_ => ?_); simp only [upd_apply, asB_bool, asB_tup, ↓reduceIte, reduceCtorEq, Nat.reduceEqDiff, Bool.not_true, Bool.not_false]; refine hK_ _ ?_; clear hK_ K_)
  | refine gateK_no (by decide) ?_
  | ((try first | refine WO_op rfl rfl rfl ?_ | refine WO_op0 rfl rfl ?_ | refine WD_op rfl rfl rfl ?_ | refine WD_op0 rfl rfl ?_); (refine WV_gen fun Q_ hQ_ => ?_; simp (disch := first | omega | (simp only [List.length_cons, List.length_nil, List.length_append]; omega)) only [bb, bp, argF, ↓reduceIte, reduceCtorEq, Nat.reduceEqDiff, Nat.reduceLT, Nat.reduceLeDiff, Nat.reduceAdd, Nat.reduceMul, Nat.reduceSub, Nat.reduceBEq, Int.reduceToNat, cond_true, cond_false, eq_self, beq_self_eq_true, g0, g6, g7, g8, hix, hel, newPtr_X wf, load1_X wf, loadAgg_X wf, store1_X wf, writeCells_X wf, makeFunc_def, tEvsD3, bsl_25, bsl_36, bsl_35, bsl_40, bsl_259, newSlice_X wf]; first | (refine dec_split (Q := Q_) (fun hp_ => ?_) (fun hp_ => ?_) <;> first | (exfalso; omega) | (refine hQ_ _ _ ?_; clear hQ_ Q_)) | (refine dec_splitn (Q := Q_) (fun hp_ => ?_) (fun hp_ => ?_) <;> first | (exfalso; omega) | (refine hQ_ _ _ ?_; clear hQ_ Q_)) | (refine hQ_ _ _ ?_; clear hQ_ Q_)))
  | (refine WC_cond fun K_ hK_ => ?_; simp (disch := omega) only [evT_tmp, upd_apply, WB_some, ↓reduceIte, reduceCtorEq, Nat.reduceEqDiff, Nat.reduceLT]; refine hK_ _ ?_; clear hK_ K_)))
        refine roundQ_again (i + 1) (by omega) ⟨hlt, by simp only [upd_apply, ↓reduceIte, reduceCtorEq, Nat.reduceEqDiff]; exact g0, by simp only [upd_apply, ↓reduceIte, reduceCtorEq, Nat.reduceEqDiff]; exact g6, by simp only [upd_apply, ↓reduceIte, reduceCtorEq, Nat.reduceEqDiff]; exact g7, by simp only [upd_apply, ↓reduceIte, reduceCtorEq, Nat.reduceEqDiff]; rfl, rfl, ?_⟩
        rw [hst]
        exact ⟨hb, _, _, rfl, hIi, by omega, by omega, fun h => by have := hw0 h; omega, fun h => ⟨(hw1 h).1, by have := hw1 h; rw [this.1] at *; omega⟩⟩
      · have hbd : bad bs[i] = true := by unfold bad; rw [decide_eq_false hk]; rfl
        rw [hbd] at hst
        simp only [↓reduceIte] at hst
        have hat := filter_at (p := bad) (f := fun b : Bd => [AV.agg (bdC b)]) hlt hbd
        have hk' : ¬ (bs[i].2.2.1 ≤ bs[i].1 ∧ bs[i].1 ≤ bs[i].2.1 ∧ bs[i].2.1 ≤ bs[i].2.2.2) := hk
        clear hk hbd
        (repeat' (first
  | (with_reducible first | refine WC_seq ?_ | refine WC_skip ?_ | refine WC_label ?_ | refine WC_scope ?_ | refine WC_block ?_ | refine WC_ret ?_ | refine WC_exit ?_ | refine seqQ_norm ?_ | refine seqQ_ret ?_ | refine seqQ_exit ?_ | refine blkQ_norm ?_ | refine blkQ_ret ?_ | refine blkQ_here ?_ | refine gateK_yes ?_ | refine gateK_none ?_ | refine condK_tt ?_ | refine condK_ff ?_ | refine roundQ_exit ?_ | refine roundQ_ret ?_)
  | refine WC_region ?_ | refine blkQ_out rfl ?_ | refine WO_nil ?_ | refine WD_nil ?_
  | ((first | refine WD_gate rfl rfl rfl rfl rfl fun K_ hK_ => ?_ | refine WO_gate rfl rfl rfl rfl rfl fun K_ hK_ => ?_); simp only [upd_apply, asB_bool, asB_tup, ↓reduceIte, reduceCtorEq, Nat.reduceEqDiff, Bool.not_true, Bool.not_false]; refine hK_ _ ?_; clear hK_ K_)
  | refine gateK_no (by decide) ?_
  | ((try first | refine WO_op rfl rfl rfl ?_ | refine WO_op0 rfl rfl ?_ | refine WD_op rfl rfl rfl ?_ | refine WD_op0 rfl rfl ?_); (refine WV_gen fun Q_ hQ_ => ?_; simp (disch := first | omega | (simp only [List.length_cons, List.length_nil, List.length_append]; omega)) only [bb, bp, argF, ↓reduceIte, reduceCtorEq, Nat.reduceEqDiff, Nat.reduceLT, Nat.reduceLeDiff, Nat.reduceAdd, Nat.reduceMul, Nat.reduceSub, Nat.reduceBEq, Int.reduceToNat, cond_true, cond_false, eq_self, beq_self_eq_true, g0, g6, g7, g8, hix, hel, newPtr_X wf, load1_X wf, loadAgg_X wf, store1_X wf, writeCells_X wf, makeFunc_def, tEvsD3, bsl_25, bsl_36, bsl_35, bsl_40, bsl_259, newSlice_X wf]; first | (refine dec_split (Q := Q_) (fun hp_ => ?_) (fun hp_ => ?_) <;> first | (exfalso; omega) | (refine hQ_ _ _ ?_; clear hQ_ Q_)) | (refine dec_splitn (Q := Q_) (fun hp_ => ?_) (fun hp_ => ?_) <;> first | (exfalso; omega) | (refine hQ_ _ _ ?_; clear hQ_ Q_)) | (refine hQ_ _ _ ?_; clear hQ_ Q_)))
  | (refine WC_cond fun K_ hK_ => ?_; simp (disch := omega) only [evT_tmp, upd_apply, WB_some, ↓reduceIte, reduceCtorEq, Nat.reduceEqDiff, Nat.reduceLT]; refine hK_ _ ?_; clear hK_ K_)))
        all_goals (refine WV_gen fun Q_ hQ_ => ?_)
        all_goals (simp (disch := first | omega | (simp only [List.length_cons, List.length_nil, List.length_append]; omega)) only [bb, bp, argF, ↓reduceIte, reduceCtorEq, Nat.reduceEqDiff, Nat.reduceLT, Nat.reduceLeDiff, Nat.reduceAdd, Nat.reduceMul, Nat.reduceSub, Nat.reduceBEq, Int.reduceToNat, cond_true, cond_false, eq_self, beq_self_eq_true, g0, callV_yld, tEvsD3, bsl_25, bsl_36, bsl_35, bsl_40, bsl_259, newSlice_X wf])
        all_goals (refine WV_yieldO (lo := lo) (by omega) (by simp only [List.length_append, List.length_cons, List.length_nil]; omega) (fun w2 hl2 hw2 => hy _ _ hat hb _ w2 hIi hl2 hw2) (fun hb' J' w' s hl' hw' => ⟨fun hI' => hQ_ _ _ ?_, fun hD' => hQ_ _ _ ?_⟩))
        all_goals clear hQ_ Q_
        all_goals (have sc := s.clock)
        all_goals ((repeat' (first
  | (with_reducible first | refine WC_seq ?_ | refine WC_skip ?_ | refine WC_label ?_ | refine WC_scope ?_ | refine WC_block ?_ | refine WC_ret ?_ | refine WC_exit ?_ | refine seqQ_norm ?_ | refine seqQ_ret ?_ | refine seqQ_exit ?_ | refine blkQ_norm ?_ | refine blkQ_ret ?_ | refine blkQ_here ?_ | refine gateK_yes ?_ | refine gateK_none ?_ | refine condK_tt ?_ | refine condK_ff ?_ | refine roundQ_exit ?_ | refine roundQ_ret ?_)
  | refine WC_region ?_ | refine blkQ_out rfl ?_ | refine WO_nil ?_ | refine WD_nil ?_
  | ((first | refine WD_gate rfl rfl rfl rfl rfl fun K_ hK_ => ?_ | refine WO_gate rfl rfl rfl rfl rfl fun K_ hK_ => ?_); simp only [upd_apply, asB_bool, asB_tup, ↓reduceIte, reduceCtorEq, Nat.reduceEqDiff, Bool.not_true, Bool.not_false]; refine hK_ _ ?_; clear hK_ K_)
  | refine gateK_no (by decide) ?_
  | ((try first | refine WO_op rfl rfl rfl ?_ | refine WO_op0 rfl rfl ?_ | refine WD_op rfl rfl rfl ?_ | refine WD_op0 rfl rfl ?_); (refine WV_gen fun Q_ hQ_ => ?_; simp (disch := first | omega | (simp only [List.length_cons, List.length_nil, List.length_append]; omega)) only [bb, bp, argF, ↓reduceIte, reduceCtorEq, Nat.reduceEqDiff, Nat.reduceLT, Nat.reduceLeDiff, Nat.reduceAdd, Nat.reduceMul, Nat.reduceSub, Nat.reduceBEq, Int.reduceToNat, cond_true, cond_false, eq_self, beq_self_eq_true, g8]; first | (refine dec_split (Q := Q_) (fun hp_ => ?_) (fun hp_ => ?_) <;> first | (exfalso; omega) | (refine hQ_ _ _ ?_; clear hQ_ Q_)) | (refine dec_splitn (Q := Q_) (fun hp_ => ?_) (fun hp_ => ?_) <;> first | (exfalso; omega) | (refine hQ_ _ _ ?_; clear hQ_ Q_)) | (refine hQ_ _ _ ?_; clear hQ_ Q_)))
  | (refine WC_cond fun K_ hK_ => ?_; simp (disch := omega) only [evT_tmp, upd_apply, WB_some, ↓reduceIte, reduceCtorEq, Nat.reduceEqDiff, Nat.reduceLT]; refine hK_ _ ?_; clear hK_ K_))))
        all_goals first
          | (refine roundQ_again (i + 1) (by omega) ⟨hlt, by simp only [upd_apply, ↓reduceIte, reduceCtorEq, Nat.reduceEqDiff]; exact g0, by simp only [upd_apply, ↓reduceIte, reduceCtorEq, Nat.reduceEqDiff]; exact g6, by simp only [upd_apply, ↓reduceIte, reduceCtorEq, Nat.reduceEqDiff]; exact g7, by simp only [upd_apply, ↓reduceIte, reduceCtorEq, Nat.reduceEqDiff]; rfl, rfl, ?_⟩
             rw [hst]
             exact ⟨hb', _, _, rfl, hI', by omega, by omega, fun _ => by omega, fun h => by omega⟩)
          | (refine endQ_ret _ (.tup []) rfl rfl (WV_out (by rw [← hs.clock, ← s.clock]; omega) ⟨hb', _, _, rfl, hs.trans s, by omega, (by simp only [List.length_append, List.length_cons, List.length_nil]; omega), .inr hD'⟩))
    · have hie : i = bs.length := by omega
      subst hie
      (repeat' (first
  | (with_reducible first | refine WC_seq ?_ | refine WC_skip ?_ | refine WC_label ?_ | refine WC_scope ?_ | refine WC_block ?_ | refine WC_ret ?_ | refine WC_exit ?_ | refine seqQ_norm ?_ | refine seqQ_ret ?_ | refine seqQ_exit ?_ | refine blkQ_norm ?_ | refine blkQ_ret ?_ | refine blkQ_here ?_ | refine gateK_yes ?_ | refine gateK_none ?_ | refine condK_tt ?_ | refine condK_ff ?_ | refine roundQ_exit ?_ | refine roundQ_ret ?_)
  | refine WC_region ?_ | refine blkQ_out rfl ?_ | refine WO_nil ?_ | refine WD_nil ?_
  | ((first | refine WD_gate rfl rfl rfl rfl rfl fun K_ hK_ => ?_ | refine WO_gate rfl rfl rfl rfl rfl fun K_ hK_ => ?_); simp only [upd_apply, asB_bool, asB_tup, ↓reduceIte, reduceCtorEq, Nat.reduceEqDiff, Bool.not_true, Bool.not_false]; refine hK_ _ ?_; clear hK_ K_)
  | refine gateK_no (by decide) ?_
  | ((try first | refine WO_op rfl rfl rfl ?_ | refine WO_op0 rfl rfl ?_ | refine WD_op rfl rfl rfl ?_ | refine WD_op0 rfl rfl ?_); (refine WV_gen fun Q_ hQ_ => ?_; simp (disch := first | omega | (simp only [List.length_cons, List.length_nil, List.length_append]; omega)) only [bb, bp, argF, ↓reduceIte, reduceCtorEq, Nat.reduceEqDiff, Nat.reduceLT, Nat.reduceLeDiff, Nat.reduceAdd, Nat.reduceMul, Nat.reduceSub, Nat.reduceBEq, Int.reduceToNat, cond_true, cond_false, eq_self, beq_self_eq_true, g0, g6, g7, g8]; first | (refine dec_split (Q := Q_) (fun hp_ => ?_) (fun hp_ => ?_) <;> first | (exfalso; omega) | (refine hQ_ _ _ ?_; clear hQ_ Q_)) | (refine dec_splitn (Q := Q_) (fun hp_ => ?_) (fun hp_ => ?_) <;> first | (exfalso; omega) | (refine hQ_ _ _ ?_; clear hQ_ Q_)) | (refine hQ_ _ _ ?_; clear hQ_ Q_)))
  | (refine WC_cond fun K_ hK_ => ?_; simp (disch := omega) only [evT_tmp, upd_apply, WB_some, ↓reduceIte, reduceCtorEq, Nat.reduceEqDiff, Nat.reduceLT]; refine hK_ _ ?_; clear hK_ K_)))
      rw [List.take_of_length_le (Nat.le_refl _)] at hIi hw0 hw1
      have hxl : (bads bs).length = (bs.filter bad).length := by unfold bads; rw [List.length_map]
      rcases Nat.eq_zero_or_pos (bs.filter bad).length with hz | hz
      · obtain ⟨e1, e2⟩ := hw1 hz
        subst e1
        refine endQ_norm _ (.tup []) rfl rfl (WV_flat rfl (by omega) ⟨hb, [], hb.w, (X_self hb).symm, Same.rfl' hb, hlo0, by omega, .inl (by rw [hxl]; exact hIi)⟩)
      · refine endQ_norm _ (.tup []) rfl rfl (WV_out (by rw [← hs.clock]; exact hw0 hz) ⟨hb, _, _, rfl, hs, by omega, by omega, .inl (by rw [hxl]; exact hIi)⟩)
  · exact ⟨Nat.zero_le _, by simp only [upd_apply, ↓reduceIte, reduceCtorEq, Nat.reduceEqDiff], by simp only [upd_apply, ↓reduceIte, reduceCtorEq, Nat.reduceEqDiff], by simp only [upd_apply, ↓reduceIte, reduceCtorEq, Nat.reduceEqDiff], by simp only [upd_apply, ↓reduceIte, reduceCtorEq, Nat.reduceEqDiff]; rfl, rfl, hb0, [], _, rfl, by simpa using h0, by omega, by omega, fun h => by simp at h, fun _ => ⟨rfl, rfl⟩⟩

theorem broken (s : AV) (hc : AV.cells s = [s] ∧ oneB s = true) (h : H) (wf : Wf h) (J : List AO) (w : Nat) (hw : w ≤ h.clock + J.length) :
    (om Tryz.prog KK).call (.fn 165 [s]) (X h J w) = .ok (.fn 192 [] [.ptr (nx h J.length) 0]) (X h (J ++ [.cells (mkCells [s]) 259]) w) := by
  have wf' := wf.X hw
  have key : ∀ hb, Wf hb → (om Tryz.prog KK).call (.fn 165 [s]) hb = .ok (.fn 192 [] [.ptr (nx hb 0) 0]) (X hb [.cells (mkCells [s]) 259] hb.w) := by
    clear wf wf'
    intro hb wf
    refine WV_to (WV_call (fn := Tryz.f165) Tryz.func165 rfl rfl rfl rfl rfl ?_)
    simp only [argF]
    (repeat' (first
  | (with_reducible first | refine WC_seq ?_ | refine WC_skip ?_ | refine WC_label ?_ | refine WC_scope ?_ | refine WC_block ?_ | refine WC_ret ?_ | refine WC_exit ?_ | refine seqQ_norm ?_ | refine seqQ_ret ?_ | refine seqQ_exit ?_ | refine blkQ_norm ?_ | refine blkQ_ret ?_ | refine blkQ_here ?_ | refine gateK_yes ?_ | refine gateK_none ?_ | refine condK_tt ?_ | refine condK_ff ?_ | refine roundQ_exit ?_ | refine roundQ_ret ?_)
  | refine WC_region ?_ | refine blkQ_out rfl ?_ | refine WO_nil ?_ | refine WD_nil ?_
  | ((first | refine WD_gate rfl rfl rfl rfl rfl fun K_ hK_ => ?_ | refine WO_gate rfl rfl rfl rfl rfl fun K_ hK_ => ?_); simp only [upd_apply, asB_bool, asB_tup, ↓reduceIte, reduceCtorEq, Nat.reduceEqDiff, Bool.not_true, Bool.not_false]; refine hK_ _ ?_; clear hK_ K_)
  | refine gateK_no (by decide) ?_
  | ((try first | refine WO_op rfl rfl rfl ?_ | refine WO_op0 rfl rfl ?_ | refine WD_op rfl rfl rfl ?_ | refine WD_op0 rfl rfl ?_); (refine WV_gen fun Q_ hQ_ => ?_; simp (disch := first | omega | (simp only [List.length_cons, List.length_nil, List.length_append]; omega)) only [bb, bp, argF, ↓reduceIte, reduceCtorEq, Nat.reduceEqDiff, Nat.reduceLT, Nat.reduceLeDiff, Nat.reduceAdd, Nat.reduceMul, Nat.reduceSub, Nat.reduceBEq, Int.reduceToNat, cond_true, cond_false, eq_self, beq_self_eq_true, hc.1, newPtr_X wf, load1_X wf, loadAgg_X wf, store1_X wf, writeCells_X wf, makeFunc_def, tEvsD3, bsl_25, bsl_36, bsl_35, bsl_40, bsl_259, newSlice_X wf]; first | (refine dec_split (Q := Q_) (fun hp_ => ?_) (fun hp_ => ?_) <;> first | (exfalso; omega) | (refine hQ_ _ _ ?_; clear hQ_ Q_)) | (refine dec_splitn (Q := Q_) (fun hp_ => ?_) (fun hp_ => ?_) <;> first | (exfalso; omega) | (refine hQ_ _ _ ?_; clear hQ_ Q_)) | (refine hQ_ _ _ ?_; clear hQ_ Q_)))
  | (refine WC_cond fun K_ hK_ => ?_; simp (disch := omega) only [evT_tmp, upd_apply, WB_some, ↓reduceIte, reduceCtorEq, Nat.reduceEqDiff, Nat.reduceLT]; refine hK_ _ ?_; clear hK_ K_)))
    refine endQ_ret _ _ rfl (ret1 (by decide)) ?_
    simp only [upd_apply, ↓reduceIte, reduceCtorEq, Nat.reduceEqDiff]
    refine WV_ext (by
      show (_ && flat (.fn 192 [] [.ptr _ 0])) = false
      exact Bool.and_false _) ?_
    refine ⟨rfl, ?_⟩
    rw [Nat.min_eq_left wf.wle]
  rw [key _ wf', X_X, nx_X, X_w]
  rfl

def doneO (o : AO) : Prop := ∃ g' n' tm' ps' sg' bd' dd', o = .loop .done .ret g' n' tm' ps' sg' bd' dd'
theorem bads_nil {bs : List Bd} : (bads bs).length = 0 ↔ ∀ b ∈ bs, kept b := by
  unfold bads
  rw [List.length_map, List.length_eq_zero_iff, List.filter_eq_nil_iff]
  constructor
  · intro h b hb
    have := h b hb
    unfold bad at this
    simpa using this
  · intro h b hb
    unfold bad
    simpa using h b hb
theorem areKept (s : AV) (bs : List Bd) (hn : bs.length ≤ 1000) (h : H) (wf : Wf h) (sl : Sl h s 4 bs.length (bs.flatMap bdC)) :
    (om Tryz.prog KK).call (.fn 105 [s]) h = .ok (.bool (decide (∀ b ∈ bs, kept b))) h := by
  have hc : AV.cells s = [s] ∧ oneB s = true := by
    rcases sl with ⟨_, ⟨e, _⟩ | ⟨_, _, _, _, _, _, e, _⟩⟩ <;> rw [e] <;> exact ⟨rfl, rfl⟩
  refine WV_to (WV_call (fn := Tryz.f105) Tryz.func105 rfl rfl rfl rfl rfl ?_)
  simp only [argF]
  (repeat' (first
  | (with_reducible first | refine WC_seq ?_ | refine WC_skip ?_ | refine WC_label ?_ | refine WC_scope ?_ | refine WC_block ?_ | refine WC_ret ?_ | refine WC_exit ?_ | refine seqQ_norm ?_ | refine seqQ_ret ?_ | refine seqQ_exit ?_ | refine blkQ_norm ?_ | refine blkQ_ret ?_ | refine blkQ_here ?_ | refine gateK_yes ?_ | refine gateK_none ?_ | refine condK_tt ?_ | refine condK_ff ?_ | refine roundQ_exit ?_ | refine roundQ_ret ?_)
  | refine WC_region ?_ | refine blkQ_out rfl ?_ | refine WO_nil ?_ | refine WD_nil ?_
  | ((first | refine WD_gate rfl rfl rfl rfl rfl fun K_ hK_ => ?_ | refine WO_gate rfl rfl rfl rfl rfl fun K_ hK_ => ?_); simp only [upd_apply, asB_bool, asB_tup, ↓reduceIte, reduceCtorEq, Nat.reduceEqDiff, Bool.not_true, Bool.not_false]; refine hK_ _ ?_; clear hK_ K_)
  | refine gateK_no (by decide) ?_
  | ((try first | refine WO_op rfl rfl rfl ?_ | refine WO_op0 rfl rfl ?_ | refine WD_op rfl rfl rfl ?_ | refine WD_op0 rfl rfl ?_); (refine WV_gen fun Q_ hQ_ => ?_; simp (disch := first | omega | (simp only [List.length_cons, List.length_nil, List.length_append]; omega)) only [bb, bp, argF, ↓reduceIte, reduceCtorEq, Nat.reduceEqDiff, Nat.reduceLT, Nat.reduceLeDiff, Nat.reduceAdd, Nat.reduceMul, Nat.reduceSub, Nat.reduceBEq, Int.reduceToNat, cond_true, cond_false, eq_self, beq_self_eq_true, newPtr_X wf, load1_X wf, loadAgg_X wf, store1_X wf, writeCells_X wf, makeFunc_def, tEvsD3, bsl_25, bsl_36, bsl_35, bsl_40, bsl_259, newSlice_X wf]; first | (refine dec_split (Q := Q_) (fun hp_ => ?_) (fun hp_ => ?_) <;> first | (exfalso; omega) | (refine hQ_ _ _ ?_; clear hQ_ Q_)) | (refine dec_splitn (Q := Q_) (fun hp_ => ?_) (fun hp_ => ?_) <;> first | (exfalso; omega) | (refine hQ_ _ _ ?_; clear hQ_ Q_)) | (refine hQ_ _ _ ?_; clear hQ_ Q_) | (refine WV_eq (broken s hc h wf _ _ (by simp only [List.length_append, List.length_cons, List.length_nil]; omega)) ?_; refine hQ_ _ _ ?_; clear hQ_ Q_)))
  | (refine WC_cond fun K_ hK_ => ?_; simp (disch := omega) only [evT_tmp, upd_apply, WB_some, ↓reduceIte, reduceCtorEq, Nat.reduceEqDiff, Nat.reduceLT]; refine hK_ _ ?_; clear hK_ K_)))
  simp only [List.length_cons, List.length_nil, List.cons_append, List.nil_append]
  refine WC_rangeX wf rfl (evT_tmp (by decide)) fun o ho => ?_
  simp only [upd_apply, ↓reduceIte, reduceCtorEq, Nat.reduceEqDiff, List.length_cons, List.length_nil, List.cons_append, List.nil_append, Nat.reduceAdd]
  refine WV.mono (broken1 (nx h 1) s bs hn (nx h 3) _ (fun q hb => q = 0 ∧ ∃ w, hb = X h [.cells (mkCells [.bool false]) 4, .cells (mkCells [s]) 259, .dfr, o] w ∧ w ≤ h.clock + 4)
    (fun hb => ∃ w o2, hb = X h [.cells (mkCells [.bool false]) 4, .cells (mkCells [s]) 259, .dfr, o2] w ∧ w ≤ h.clock + 4 ∧ doneO o2 ∧ (bads bs).length ≠ 0) h.clock (Nat.le_refl _) (Nat.le_add_right _ _) ?_ ?_ ⟨rfl, h.clock, rfl, by omega⟩) ?_
  · rintro q hb ⟨_, w, rfl, hw⟩
    refine ⟨⟨wf.X hw, fun J w' => ?_, sl.up wf _ _⟩, Same.X rfl⟩
    rw [X_X, load1_X wf]; rfl
  · rintro q xx hx hb J w ⟨rfl, w0, rfl, hw0⟩ hlo hw
    have hq := lt_of_get hx
    obtain ⟨b, rfl⟩ : ∃ b, xx = [.agg (bdC b)] := by
      unfold bads at hx
      rw [List.getElem?_map] at hx
      cases hf : (bs.filter bad)[0]? with
      | none => rw [hf] at hx; cases hx
      | some b => rw [hf] at hx; exact ⟨b, (Option.some.inj hx).symm⟩
    have hw' : w ≤ h.clock + 4 + J.length := hw
    rw [X_X]
    simp only [List.cons_append, List.nil_append, bdC]
    refine WV_yldX wf (k := 3) rfl ho (setParams1 rfl) ?_
    (repeat' (first
  | (with_reducible first | refine WC_seq ?_ | refine WC_skip ?_ | refine WC_label ?_ | refine WC_scope ?_ | refine WC_block ?_ | refine WC_ret ?_ | refine WC_exit ?_ | refine seqQ_norm ?_ | refine seqQ_ret ?_ | refine seqQ_exit ?_ | refine blkQ_norm ?_ | refine blkQ_ret ?_ | refine blkQ_here ?_ | refine gateK_yes ?_ | refine gateK_none ?_ | refine condK_tt ?_ | refine condK_ff ?_ | refine roundQ_exit ?_ | refine roundQ_ret ?_)
  | refine WC_region ?_ | refine blkQ_out rfl ?_ | refine WO_nil ?_ | refine WD_nil ?_
  | ((first | refine WD_gate rfl rfl rfl rfl rfl fun K_ hK_ => ?_ | refine WO_gate rfl rfl rfl rfl rfl fun K_ hK_ => ?_); simp only [upd_apply, asB_bool, asB_tup, ↓reduceIte, reduceCtorEq, Nat.reduceEqDiff, Bool.not_true, Bool.not_false]; refine hK_ _ ?_; clear hK_ K_)
  | refine gateK_no (by decide) ?_
  | ((try first | refine WO_op rfl rfl rfl ?_ | refine WO_op0 rfl rfl ?_ | refine WD_op rfl rfl rfl ?_ | refine WD_op0 rfl rfl ?_); (refine WV_gen fun Q_ hQ_ => ?_; simp (disch := first | omega | (simp only [List.length_cons, List.length_nil, List.length_append]; omega)) only [bb, bp, argF, ↓reduceIte, reduceCtorEq, Nat.reduceEqDiff, Nat.reduceLT, Nat.reduceLeDiff, Nat.reduceAdd, Nat.reduceMul, Nat.reduceSub, Nat.reduceBEq, Int.reduceToNat, cond_true, cond_false, eq_self, beq_self_eq_true, newPtr_X wf, load1_X wf, loadAgg_X wf, store1_X wf, writeCells_X wf, makeFunc_def, tEvsD3, bsl_25, bsl_36, bsl_35, bsl_40, bsl_259, newSlice_X wf]; first | (refine dec_split (Q := Q_) (fun hp_ => ?_) (fun hp_ => ?_) <;> first | (exfalso; omega) | (refine hQ_ _ _ ?_; clear hQ_ Q_)) | (refine dec_splitn (Q := Q_) (fun hp_ => ?_) (fun hp_ => ?_) <;> first | (exfalso; omega) | (refine hQ_ _ _ ?_; clear hQ_ Q_)) | (refine hQ_ _ _ ?_; clear hQ_ Q_)))
  | (refine WC_cond fun K_ hK_ => ?_; simp (disch := omega) only [evT_tmp, upd_apply, WB_some, ↓reduceIte, reduceCtorEq, Nat.reduceEqDiff, Nat.reduceLT]; refine hK_ _ ?_; clear hK_ K_)))
    refine yldA_X wf (k := 3) rfl ho fun o' ho' => ?_
    (repeat' (first
  | (with_reducible first | refine WC_seq ?_ | refine WC_skip ?_ | refine WC_label ?_ | refine WC_scope ?_ | refine WC_block ?_ | refine WC_ret ?_ | refine WC_exit ?_ | refine seqQ_norm ?_ | refine seqQ_ret ?_ | refine seqQ_exit ?_ | refine blkQ_norm ?_ | refine blkQ_ret ?_ | refine blkQ_here ?_ | refine gateK_yes ?_ | refine gateK_none ?_ | refine condK_tt ?_ | refine condK_ff ?_ | refine roundQ_exit ?_ | refine roundQ_ret ?_)
  | refine WC_region ?_ | refine blkQ_out rfl ?_ | refine WO_nil ?_ | refine WD_nil ?_
  | ((first | refine WD_gate rfl rfl rfl rfl rfl fun K_ hK_ => ?_ | refine WO_gate rfl rfl rfl rfl rfl fun K_ hK_ => ?_); simp only [upd_apply, asB_bool, asB_tup, ↓reduceIte, reduceCtorEq, Nat.reduceEqDiff, Bool.not_true, Bool.not_false]; refine hK_ _ ?_; clear hK_ K_)
  | refine gateK_no (by decide) ?_
  | ((try first | refine WO_op rfl rfl rfl ?_ | refine WO_op0 rfl rfl ?_ | refine WD_op rfl rfl rfl ?_ | refine WD_op0 rfl rfl ?_); (refine WV_gen fun Q_ hQ_ => ?_; simp (disch := first | omega | (simp only [List.length_cons, List.length_nil, List.length_append]; omega)) only [bb, bp, argF, ↓reduceIte, reduceCtorEq, Nat.reduceEqDiff, Nat.reduceLT, Nat.reduceLeDiff, Nat.reduceAdd, Nat.reduceMul, Nat.reduceSub, Nat.reduceBEq, Int.reduceToNat, cond_true, cond_false, eq_self, beq_self_eq_true, newPtr_X wf, load1_X wf, loadAgg_X wf, store1_X wf, writeCells_X wf, makeFunc_def, tEvsD3, bsl_25, bsl_36, bsl_35, bsl_40, bsl_259, newSlice_X wf]; first | (refine dec_split (Q := Q_) (fun hp_ => ?_) (fun hp_ => ?_) <;> first | (exfalso; omega) | (refine hQ_ _ _ ?_; clear hQ_ Q_)) | (refine dec_splitn (Q := Q_) (fun hp_ => ?_) (fun hp_ => ?_) <;> first | (exfalso; omega) | (refine hQ_ _ _ ?_; clear hQ_ Q_)) | (refine hQ_ _ _ ?_; clear hQ_ Q_)))
  | (refine WC_cond fun K_ hK_ => ?_; simp (disch := omega) only [evT_tmp, upd_apply, WB_some, ↓reduceIte, reduceCtorEq, Nat.reduceEqDiff, Nat.reduceLT]; refine hK_ _ ?_; clear hK_ K_)))
    refine yldB_ret_X wf (k := 3) rfl ho' fun o2 ho2 => ?_
    simp only [List.set_cons_succ, List.set_cons_zero]
    refine ⟨X h [.cells (mkCells [.bool false]) 4, .cells (mkCells [s]) 259, .dfr, o2] w0, [], _, by rw [X_X, List.append_nil]; rfl, Same.X rfl, by omega, ?_, .inr ⟨rfl, w0, o2, rfl, hw0, ⟨_, _, _, _, _, _, _, ho2⟩, by omega⟩⟩
    show _ < h.clock + 4
    omega
  · rintro v h' ⟨hb, J, w, rfl, hs, hlo, hw, ⟨hz, w0, rfl, hw0⟩ | ⟨w0, o2, rfl, hw0, ⟨g', n', tm', ps', sg', bd', dd', ho2⟩, hnot⟩⟩
    · rw [X_X]
      refine rangeQ_X wf (k := 3) rfl ho (by decide) fun o' ho' => ?_
      simp only [List.cons_append, List.nil_append, List.set_cons_succ, List.set_cons_zero]
      (repeat' (first
  | (with_reducible first | refine WC_seq ?_ | refine WC_skip ?_ | refine WC_label ?_ | refine WC_scope ?_ | refine WC_block ?_ | refine WC_ret ?_ | refine WC_exit ?_ | refine seqQ_norm ?_ | refine seqQ_ret ?_ | refine seqQ_exit ?_ | refine blkQ_norm ?_ | refine blkQ_ret ?_ | refine blkQ_here ?_ | refine gateK_yes ?_ | refine gateK_none ?_ | refine condK_tt ?_ | refine condK_ff ?_ | refine roundQ_exit ?_ | refine roundQ_ret ?_)
  | refine WC_region ?_ | refine blkQ_out rfl ?_ | refine WO_nil ?_ | refine WD_nil ?_
  | ((first | refine WD_gate rfl rfl rfl rfl rfl fun K_ hK_ => ?_ | refine WO_gate rfl rfl rfl rfl rfl fun K_ hK_ => ?_); simp only [upd_apply, asB_bool, asB_tup, ↓reduceIte, reduceCtorEq, Nat.reduceEqDiff, Bool.not_true, Bool.not_false]; refine hK_ _ ?_; clear hK_ K_)
  | refine gateK_no (by decide) ?_
  | ((try first | refine WO_op rfl rfl rfl ?_ | refine WO_op0 rfl rfl ?_ | refine WD_op rfl rfl rfl ?_ | refine WD_op0 rfl rfl ?_); (refine WV_gen fun Q_ hQ_ => ?_; simp (disch := first | omega | (simp only [List.length_cons, List.length_nil, List.length_append]; omega)) only [bb, bp, argF, ↓reduceIte, reduceCtorEq, Nat.reduceEqDiff, Nat.reduceLT, Nat.reduceLeDiff, Nat.reduceAdd, Nat.reduceMul, Nat.reduceSub, Nat.reduceBEq, Int.reduceToNat, cond_true, cond_false, eq_self, beq_self_eq_true, newPtr_X wf, load1_X wf, loadAgg_X wf, store1_X wf, writeCells_X wf, makeFunc_def, tEvsD3, bsl_25, bsl_36, bsl_35, bsl_40, bsl_259, newSlice_X wf]; first | (refine dec_split (Q := Q_) (fun hp_ => ?_) (fun hp_ => ?_) <;> first | (exfalso; omega) | (refine hQ_ _ _ ?_; clear hQ_ Q_)) | (refine dec_splitn (Q := Q_) (fun hp_ => ?_) (fun hp_ => ?_) <;> first | (exfalso; omega) | (refine hQ_ _ _ ?_; clear hQ_ Q_)) | (refine hQ_ _ _ ?_; clear hQ_ Q_)))
  | (refine WC_cond fun K_ hK_ => ?_; simp (disch := omega) only [evT_tmp, upd_apply, WB_some, ↓reduceIte, reduceCtorEq, Nat.reduceEqDiff, Nat.reduceLT]; refine hK_ _ ?_; clear hK_ K_)))
      refine endQ_ret _ _ (takeAll_X wf (k := 2) rfl) (retc0 (by decide) (by simp (disch := first | omega | (simp only [List.length_cons, List.length_nil, List.length_append]; omega)) only [bb, bp, argF, ↓reduceIte, reduceCtorEq, Nat.reduceEqDiff, Nat.reduceLT, Nat.reduceLeDiff, Nat.reduceAdd, Nat.reduceMul, Nat.reduceSub, Nat.reduceBEq, Int.reduceToNat, cond_true, cond_false, eq_self, beq_self_eq_true, load1_X wf, tEvsD3, bsl_25, bsl_36, bsl_35, bsl_40, bsl_259, newSlice_X wf]; rfl)) ?_
      refine WV_flat rfl (by omega) ?_
      exact ⟨by rw [decide_eq_true (bads_nil.1 hz)], rfl⟩
    · rw [X_X]
      refine rangeQ_X wf (k := 3) rfl ho2 (by decide) fun o' ho' => ?_
      simp only [List.cons_append, List.nil_append, List.set_cons_succ, List.set_cons_zero]
      (repeat' (first
  | (with_reducible first | refine WC_seq ?_ | refine WC_skip ?_ | refine WC_label ?_ | refine WC_scope ?_ | refine WC_block ?_ | refine WC_ret ?_ | refine WC_exit ?_ | refine seqQ_norm ?_ | refine seqQ_ret ?_ | refine seqQ_exit ?_ | refine blkQ_norm ?_ | refine blkQ_ret ?_ | refine blkQ_here ?_ | refine gateK_yes ?_ | refine gateK_none ?_ | refine condK_tt ?_ | refine condK_ff ?_ | refine roundQ_exit ?_ | refine roundQ_ret ?_)
  | refine WC_region ?_ | refine blkQ_out rfl ?_ | refine WO_nil ?_ | refine WD_nil ?_
  | ((first | refine WD_gate rfl rfl rfl rfl rfl fun K_ hK_ => ?_ | refine WO_gate rfl rfl rfl rfl rfl fun K_ hK_ => ?_); simp only [upd_apply, asB_bool, asB_tup, ↓reduceIte, reduceCtorEq, Nat.reduceEqDiff, Bool.not_true, Bool.not_false]; refine hK_ _ ?_; clear hK_ K_)
  | refine gateK_no (by decide) ?_
  | ((try first | refine WO_op rfl rfl rfl ?_ | refine WO_op0 rfl rfl ?_ | refine WD_op rfl rfl rfl ?_ | refine WD_op0 rfl rfl ?_); (refine WV_gen fun Q_ hQ_ => ?_; simp (disch := first | omega | (simp only [List.length_cons, List.length_nil, List.length_append]; omega)) only [bb, bp, argF, ↓reduceIte, reduceCtorEq, Nat.reduceEqDiff, Nat.reduceLT, Nat.reduceLeDiff, Nat.reduceAdd, Nat.reduceMul, Nat.reduceSub, Nat.reduceBEq, Int.reduceToNat, cond_true, cond_false, eq_self, beq_self_eq_true, newPtr_X wf, load1_X wf, loadAgg_X wf, store1_X wf, writeCells_X wf, makeFunc_def, tEvsD3, bsl_25, bsl_36, bsl_35, bsl_40, bsl_259, newSlice_X wf]; first | (refine dec_split (Q := Q_) (fun hp_ => ?_) (fun hp_ => ?_) <;> first | (exfalso; omega) | (refine hQ_ _ _ ?_; clear hQ_ Q_)) | (refine dec_splitn (Q := Q_) (fun hp_ => ?_) (fun hp_ => ?_) <;> first | (exfalso; omega) | (refine hQ_ _ _ ?_; clear hQ_ Q_)) | (refine hQ_ _ _ ?_; clear hQ_ Q_)))
  | (refine WC_cond fun K_ hK_ => ?_; simp (disch := omega) only [evT_tmp, upd_apply, WB_some, ↓reduceIte, reduceCtorEq, Nat.reduceEqDiff, Nat.reduceLT]; refine hK_ _ ?_; clear hK_ K_)))
      refine endQ_ret _ _ (takeAll_X wf (k := 2) rfl) (retc0 (by decide) (by simp (disch := first | omega | (simp only [List.length_cons, List.length_nil, List.length_append]; omega)) only [bb, bp, argF, ↓reduceIte, reduceCtorEq, Nat.reduceEqDiff, Nat.reduceLT, Nat.reduceLeDiff, Nat.reduceAdd, Nat.reduceMul, Nat.reduceSub, Nat.reduceBEq, Int.reduceToNat, cond_true, cond_false, eq_self, beq_self_eq_true, load1_X wf, tEvsD3, bsl_25, bsl_36, bsl_35, bsl_40, bsl_259, newSlice_X wf]; rfl)) ?_
      refine WV_flat rfl (by omega) ?_
      exact ⟨by rw [decide_eq_false fun hh => hnot (bads_nil.2 hh)], rfl⟩
end Go.Proofs.YtdaecfjljelneaaGreatDoor
end
