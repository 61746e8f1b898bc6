import Derived.Test.YtghondkiondeaaaDoorM3
import Derived.Test.YtghondkiondeaaaDoorChecked
import Derived.KernelRfl
/- EvGf -/
section
/-
  FACTS OF THE PROGRAM: its types and functions.
-/
namespace Go.Proofs.YtghondkiondeaaaDoor
open Go.Ev
set_option maxRecDepth 100000
theorem ia_0 : isAggB Tryd.prog 0 = some false := by kernel_rfl
theorem sz_0 : sizeE Tryd.prog 0 = some 1 := by kernel_rfl
theorem ni_0 : notInt Tryd.prog 0 = true := by kernel_rfl
theorem ia_1 : isAggB Tryd.prog 1 = some false := by kernel_rfl
theorem sz_1 : sizeE Tryd.prog 1 = some 1 := by kernel_rfl
theorem ze_1 : zeroE Tryd.prog 1 = some (.nilf) := by kernel_rfl
theorem el_1 : El Tryd.prog 1 1 8 (.nilf) := ⟨by kernel_rfl, by kernel_rfl, rfl⟩
theorem ni_1 : notInt Tryd.prog 1 = true := by kernel_rfl
theorem ia_2 : isAggB Tryd.prog 2 = some false := by kernel_rfl
theorem sz_2 : sizeE Tryd.prog 2 = some 1 := by kernel_rfl
theorem ze_2 : zeroE Tryd.prog 2 = some (.int .i64 (0)) := by kernel_rfl
theorem el_2 : El Tryd.prog 2 1 8 (.int .i64 (0)) := ⟨by kernel_rfl, by kernel_rfl, rfl⟩
theorem un_2 : Tryd.prog.underlying 2 = some (.int .i64) := Tryd.underlying2
theorem ia_3 : isAggB Tryd.prog 3 = some false := by kernel_rfl
theorem sz_3 : sizeE Tryd.prog 3 = some 1 := by kernel_rfl
theorem ze_3 : zeroE Tryd.prog 3 = some (.int .i64 (0)) := by kernel_rfl
theorem el_3 : El Tryd.prog 3 1 8 (.int .i64 (0)) := ⟨by kernel_rfl, by kernel_rfl, rfl⟩
theorem un_3 : Tryd.prog.underlying 3 = some (.int .i64) := Tryd.underlying3
theorem ia_4 : isAggB Tryd.prog 4 = some false := by kernel_rfl
theorem sz_4 : sizeE Tryd.prog 4 = some 1 := by kernel_rfl
theorem ze_4 : zeroE Tryd.prog 4 = some (.bool false) := by kernel_rfl
theorem el_4 : El Tryd.prog 4 1 1 (.bool false) := ⟨by kernel_rfl, by kernel_rfl, rfl⟩
theorem un_4 : Tryd.prog.underlying 4 = some .bool := Tryd.underlying4
theorem ni_4 : notInt Tryd.prog 4 = true := by kernel_rfl
theorem ia_5 : isAggB Tryd.prog 5 = some false := by kernel_rfl
theorem sz_5 : sizeE Tryd.prog 5 = some 1 := by kernel_rfl
theorem ze_5 : zeroE Tryd.prog 5 = some (.int .u8 (0)) := by kernel_rfl
theorem el_5 : El Tryd.prog 5 1 1 (.int .u8 (0)) := ⟨by kernel_rfl, by kernel_rfl, rfl⟩
theorem un_5 : Tryd.prog.underlying 5 = some (.int .u8) := Tryd.underlying5
theorem ia_6 : isAggB Tryd.prog 6 = some false := by kernel_rfl
theorem sz_6 : sizeE Tryd.prog 6 = some 1 := by kernel_rfl
theorem ze_6 : zeroE Tryd.prog 6 = some (.int .u8 (0)) := by kernel_rfl
theorem el_6 : El Tryd.prog 6 1 1 (.int .u8 (0)) := ⟨by kernel_rfl, by kernel_rfl, rfl⟩
theorem un_6 : Tryd.prog.underlying 6 = some (.int .u8) := Tryd.underlying6
theorem ia_7 : isAggB Tryd.prog 7 = some true := by kernel_rfl
theorem sz_7 : sizeE Tryd.prog 7 = some 4 := by kernel_rfl
theorem ze_7 : zeroE Tryd.prog 7 = some (.agg [.int .i64 (0), .int .i64 (0), .bool false, .int .u8 (0)]) := by kernel_rfl
theorem fo_7_0 : fieldOff Tryd.prog 7 0 = some 0 := by kernel_rfl
theorem fo_7_1 : fieldOff Tryd.prog 7 1 = some 1 := by kernel_rfl
theorem fo_7_2 : fieldOff Tryd.prog 7 2 = some 2 := by kernel_rfl
theorem fo_7_3 : fieldOff Tryd.prog 7 3 = some 3 := by kernel_rfl
theorem bs_7 (parts : List (Nat × AV)) : buildE Tryd.prog 7 parts = match fillE (fun i => [(0, 1), (1, 1), (2, 1), (3, 1)][i]?) [.int .i64 (0), .int .i64 (0), .bool false, .int .u8 (0)] parts with | some cs => some (.agg cs) | none => none := by kernel_rfl
theorem el_7 : El Tryd.prog 7 4 24 (.agg [.int .i64 (0), .int .i64 (0), .bool false, .int .u8 (0)]) := ⟨by kernel_rfl, by kernel_rfl, rfl⟩
theorem ni_7 : notInt Tryd.prog 7 = true := by kernel_rfl
theorem ia_8 : isAggB Tryd.prog 8 = some true := by kernel_rfl
theorem sz_8 : sizeE Tryd.prog 8 = some 4 := by kernel_rfl
theorem ze_8 : zeroE Tryd.prog 8 = some (.agg [.int .i64 (0), .int .i64 (0), .bool false, .int .u8 (0)]) := by kernel_rfl
theorem fo_8_0 : fieldOff Tryd.prog 8 0 = some 0 := by kernel_rfl
theorem fo_8_1 : fieldOff Tryd.prog 8 1 = some 1 := by kernel_rfl
theorem fo_8_2 : fieldOff Tryd.prog 8 2 = some 2 := by kernel_rfl
theorem fo_8_3 : fieldOff Tryd.prog 8 3 = some 3 := by kernel_rfl
theorem bs_8 (parts : List (Nat × AV)) : buildE Tryd.prog 8 parts = match fillE (fun i => [(0, 1), (1, 1), (2, 1), (3, 1)][i]?) [.int .i64 (0), .int .i64 (0), .bool false, .int .u8 (0)] parts with | some cs => some (.agg cs) | none => none := by kernel_rfl
theorem el_8 : El Tryd.prog 8 4 24 (.agg [.int .i64 (0), .int .i64 (0), .bool false, .int .u8 (0)]) := ⟨by kernel_rfl, by kernel_rfl, rfl⟩
theorem ni_8 : notInt Tryd.prog 8 = true := by kernel_rfl
theorem ia_9 : isAggB Tryd.prog 9 = some false := by kernel_rfl
theorem sz_9 : sizeE Tryd.prog 9 = some 1 := by kernel_rfl
theorem ze_9 : zeroE Tryd.prog 9 = some (.str ⟨#[]⟩) := by kernel_rfl
theorem el_9 : El Tryd.prog 9 1 16 (.str ⟨#[]⟩) := ⟨by kernel_rfl, by kernel_rfl, rfl⟩
theorem ni_9 : notInt Tryd.prog 9 = true := by kernel_rfl
theorem ia_10 : isAggB Tryd.prog 10 = some false := by kernel_rfl
theorem sz_10 : sizeE Tryd.prog 10 = some 1 := by kernel_rfl
theorem ze_10 : zeroE Tryd.prog 10 = some (.str ⟨#[]⟩) := by kernel_rfl
theorem el_10 : El Tryd.prog 10 1 16 (.str ⟨#[]⟩) := ⟨by kernel_rfl, by kernel_rfl, rfl⟩
theorem ni_10 : notInt Tryd.prog 10 = true := by kernel_rfl
theorem ia_11 : isAggB Tryd.prog 11 = some false := by kernel_rfl
theorem sz_11 : sizeE Tryd.prog 11 = some 1 := by kernel_rfl
theorem ze_11 : zeroE Tryd.prog 11 = some (.str ⟨#[]⟩) := by kernel_rfl
theorem el_11 : El Tryd.prog 11 1 16 (.str ⟨#[]⟩) := ⟨by kernel_rfl, by kernel_rfl, rfl⟩
theorem ni_11 : notInt Tryd.prog 11 = true := by kernel_rfl
theorem ia_12 : isAggB Tryd.prog 12 = some false := by kernel_rfl
theorem sz_12 : sizeE Tryd.prog 12 = some 1 := by kernel_rfl
theorem ze_12 : zeroE Tryd.prog 12 = some (.int .u64 (0)) := by kernel_rfl
theorem el_12 : El Tryd.prog 12 1 8 (.int .u64 (0)) := ⟨by kernel_rfl, by kernel_rfl, rfl⟩
theorem un_12 : Tryd.prog.underlying 12 = some (.int .u64) := Tryd.underlying12
theorem ia_13 : isAggB Tryd.prog 13 = some true := by kernel_rfl
theorem sz_13 : sizeE Tryd.prog 13 = some 2 := by kernel_rfl
theorem ze_13 : zeroE Tryd.prog 13 = some (.agg [.str ⟨#[]⟩, .int .u64 (0)]) := by kernel_rfl
theorem fo_13_0 : fieldOff Tryd.prog 13 0 = some 0 := by kernel_rfl
theorem fo_13_1 : fieldOff Tryd.prog 13 1 = some 1 := by kernel_rfl
theorem bs_13 (parts : List (Nat × AV)) : buildE Tryd.prog 13 parts = match fillE (fun i => [(0, 1), (1, 1)][i]?) [.str ⟨#[]⟩, .int .u64 (0)] parts with | some cs => some (.agg cs) | none => none := by kernel_rfl
theorem el_13 : El Tryd.prog 13 2 24 (.agg [.str ⟨#[]⟩, .int .u64 (0)]) := ⟨by kernel_rfl, by kernel_rfl, rfl⟩
theorem ni_13 : notInt Tryd.prog 13 = true := by kernel_rfl
theorem ia_14 : isAggB Tryd.prog 14 = some true := by kernel_rfl
theorem sz_14 : sizeE Tryd.prog 14 = some 2 := by kernel_rfl
theorem ze_14 : zeroE Tryd.prog 14 = some (.agg [.str ⟨#[]⟩, .int .u64 (0)]) := by kernel_rfl
theorem fo_14_0 : fieldOff Tryd.prog 14 0 = some 0 := by kernel_rfl
theorem fo_14_1 : fieldOff Tryd.prog 14 1 = some 1 := by kernel_rfl
theorem bs_14 (parts : List (Nat × AV)) : buildE Tryd.prog 14 parts = match fillE (fun i => [(0, 1), (1, 1)][i]?) [.str ⟨#[]⟩, .int .u64 (0)] parts with | some cs => some (.agg cs) | none => none := by kernel_rfl
theorem el_14 : El Tryd.prog 14 2 24 (.agg [.str ⟨#[]⟩, .int .u64 (0)]) := ⟨by kernel_rfl, by kernel_rfl, rfl⟩
theorem ni_14 : notInt Tryd.prog 14 = true := by kernel_rfl
theorem ia_15 : isAggB Tryd.prog 15 = some false := by kernel_rfl
theorem sz_15 : sizeE Tryd.prog 15 = some 1 := by kernel_rfl
theorem ze_15 : zeroE Tryd.prog 15 = some (.nilp) := by kernel_rfl
theorem el_15 : El Tryd.prog 15 1 8 (.nilp) := ⟨by kernel_rfl, by kernel_rfl, rfl⟩
theorem ni_15 : notInt Tryd.prog 15 = true := by kernel_rfl
theorem ia_16 : isAggB Tryd.prog 16 = some false := by kernel_rfl
theorem sz_16 : sizeE Tryd.prog 16 = some 1 := by kernel_rfl
theorem ze_16 : zeroE Tryd.prog 16 = some (.nilp) := by kernel_rfl
theorem el_16 : El Tryd.prog 16 1 8 (.nilp) := ⟨by kernel_rfl, by kernel_rfl, rfl⟩
theorem ni_16 : notInt Tryd.prog 16 = true := by kernel_rfl
theorem ia_17 : isAggB Tryd.prog 17 = some false := by kernel_rfl
theorem sz_17 : sizeE Tryd.prog 17 = some 1 := by kernel_rfl
theorem ze_17 : zeroE Tryd.prog 17 = some (.nilp) := by kernel_rfl
theorem el_17 : El Tryd.prog 17 1 8 (.nilp) := ⟨by kernel_rfl, by kernel_rfl, rfl⟩
theorem ni_17 : notInt Tryd.prog 17 = true := by kernel_rfl
theorem ia_18 : isAggB Tryd.prog 18 = some true := by kernel_rfl
theorem sz_18 : sizeE Tryd.prog 18 = some 1 := by kernel_rfl
theorem ze_18 : zeroE Tryd.prog 18 = some (.agg [.nilp]) := by kernel_rfl
theorem fo_18_0 : fieldOff Tryd.prog 18 0 = some 0 := by kernel_rfl
theorem bs_18 (parts : List (Nat × AV)) : buildE Tryd.prog 18 parts = match fillE (fun i => [(0, 1)][i]?) [.nilp] parts with | some cs => some (.agg cs) | none => none := by kernel_rfl
theorem el_18 : El Tryd.prog 18 1 8 (.agg [.nilp]) := ⟨by kernel_rfl, by kernel_rfl, rfl⟩
theorem ni_18 : notInt Tryd.prog 18 = true := by kernel_rfl
theorem ia_19 : isAggB Tryd.prog 19 = some true := by kernel_rfl
theorem sz_19 : sizeE Tryd.prog 19 = some 1 := by kernel_rfl
theorem ze_19 : zeroE Tryd.prog 19 = some (.agg [.nilp]) := by kernel_rfl
theorem fo_19_0 : fieldOff Tryd.prog 19 0 = some 0 := by kernel_rfl
theorem bs_19 (parts : List (Nat × AV)) : buildE Tryd.prog 19 parts = match fillE (fun i => [(0, 1)][i]?) [.nilp] parts with | some cs => some (.agg cs) | none => none := by kernel_rfl
theorem el_19 : El Tryd.prog 19 1 8 (.agg [.nilp]) := ⟨by kernel_rfl, by kernel_rfl, rfl⟩
theorem ni_19 : notInt Tryd.prog 19 = true := by kernel_rfl
theorem ia_20 : isAggB Tryd.prog 20 = some false := by kernel_rfl
theorem sz_20 : sizeE Tryd.prog 20 = some 1 := by kernel_rfl
theorem ze_20 : zeroE Tryd.prog 20 = some (.nili) := by kernel_rfl
theorem el_20 : El Tryd.prog 20 1 16 (.nili) := ⟨by kernel_rfl, by kernel_rfl, rfl⟩
theorem ni_20 : notInt Tryd.prog 20 = true := by kernel_rfl
theorem ia_21 : isAggB Tryd.prog 21 = some false := by kernel_rfl
theorem sz_21 : sizeE Tryd.prog 21 = some 1 := by kernel_rfl
theorem ze_21 : zeroE Tryd.prog 21 = some (.int .i32 (0)) := by kernel_rfl
theorem el_21 : El Tryd.prog 21 1 4 (.int .i32 (0)) := ⟨by kernel_rfl, by kernel_rfl, rfl⟩
theorem un_21 : Tryd.prog.underlying 21 = some (.int .i32) := Tryd.underlying21
theorem ia_22 : isAggB Tryd.prog 22 = some false := by kernel_rfl
theorem sz_22 : sizeE Tryd.prog 22 = some 1 := by kernel_rfl
theorem ze_22 : zeroE Tryd.prog 22 = some (.nils) := by kernel_rfl
theorem bsl_22 (n : Nat) (parts : List (Nat × AV)) (h : H) : buildSliceE Tryd.prog 22 n parts h = bif Nat.ble (n * 2) 16777216 && Nat.beq 2 2 then (match fillE (fun i => some (i * 2, 2)) (zerosE [.int .i64 (0), .int .i64 (0)] n) parts with | some cs => newSlice 51 cs n n 2 h | none => .no) else .no := by kernel_rfl
theorem el_22 : El Tryd.prog 22 1 24 (.nils) := ⟨by kernel_rfl, by kernel_rfl, rfl⟩
theorem ik_22 : idxKind Tryd.prog 22 = some (none, 2) := by kernel_rfl
theorem un_22 : Tryd.prog.underlying 22 = some (.slice 51) := Tryd.underlying22
theorem ni_22 : notInt Tryd.prog 22 = true := by kernel_rfl
theorem ia_23 : isAggB Tryd.prog 23 = some true := by kernel_rfl
theorem sz_23 : sizeE Tryd.prog 23 = some 2 := by kernel_rfl
theorem ze_23 : zeroE Tryd.prog 23 = some (.agg [.nils, .int .i64 (0)]) := by kernel_rfl
theorem fo_23_0 : fieldOff Tryd.prog 23 0 = some 0 := by kernel_rfl
theorem fo_23_1 : fieldOff Tryd.prog 23 1 = some 1 := by kernel_rfl
theorem bs_23 (parts : List (Nat × AV)) : buildE Tryd.prog 23 parts = match fillE (fun i => [(0, 1), (1, 1)][i]?) [.nils, .int .i64 (0)] parts with | some cs => some (.agg cs) | none => none := by kernel_rfl
theorem el_23 : El Tryd.prog 23 2 32 (.agg [.nils, .int .i64 (0)]) := ⟨by kernel_rfl, by kernel_rfl, rfl⟩
theorem ni_23 : notInt Tryd.prog 23 = true := by kernel_rfl
theorem ia_24 : isAggB Tryd.prog 24 = some true := by kernel_rfl
theorem sz_24 : sizeE Tryd.prog 24 = some 2 := by kernel_rfl
theorem ze_24 : zeroE Tryd.prog 24 = some (.agg [.nils, .int .i64 (0)]) := by kernel_rfl
theorem fo_24_0 : fieldOff Tryd.prog 24 0 = some 0 := by kernel_rfl
theorem fo_24_1 : fieldOff Tryd.prog 24 1 = some 1 := by kernel_rfl
theorem bs_24 (parts : List (Nat × AV)) : buildE Tryd.prog 24 parts = match fillE (fun i => [(0, 1), (1, 1)][i]?) [.nils, .int .i64 (0)] parts with | some cs => some (.agg cs) | none => none := by kernel_rfl
theorem el_24 : El Tryd.prog 24 2 32 (.agg [.nils, .int .i64 (0)]) := ⟨by kernel_rfl, by kernel_rfl, rfl⟩
theorem ni_24 : notInt Tryd.prog 24 = true := by kernel_rfl
theorem ia_25 : isAggB Tryd.prog 25 = some false := by kernel_rfl
theorem sz_25 : sizeE Tryd.prog 25 = some 1 := by kernel_rfl
theorem ze_25 : zeroE Tryd.prog 25 = some (.nils) := by kernel_rfl
theorem bsl_25 (n : Nat) (parts : List (Nat × AV)) (h : H) : buildSliceE Tryd.prog 25 n parts h = bif Nat.ble (n * 1) 16777216 && Nat.beq 1 1 then (match fillE (fun i => some (i * 1, 1)) (zerosE [.int .i64 (0)] n) parts with | some cs => newSlice 2 cs n n 1 h | none => .no) else .no := by kernel_rfl
theorem el_25 : El Tryd.prog 25 1 24 (.nils) := ⟨by kernel_rfl, by kernel_rfl, rfl⟩
theorem ik_25 : idxKind Tryd.prog 25 = some (none, 1) := by kernel_rfl
theorem un_25 : Tryd.prog.underlying 25 = some (.slice 2) := Tryd.underlying25
theorem ni_25 : notInt Tryd.prog 25 = true := by kernel_rfl
theorem ia_26 : isAggB Tryd.prog 26 = some false := by kernel_rfl
theorem sz_26 : sizeE Tryd.prog 26 = some 1 := by kernel_rfl
theorem ze_26 : zeroE Tryd.prog 26 = some (.nilf) := by kernel_rfl
theorem el_26 : El Tryd.prog 26 1 8 (.nilf) := ⟨by kernel_rfl, by kernel_rfl, rfl⟩
theorem ni_26 : notInt Tryd.prog 26 = true := by kernel_rfl
theorem ia_27 : isAggB Tryd.prog 27 = some false := by kernel_rfl
theorem sz_27 : sizeE Tryd.prog 27 = some 1 := by kernel_rfl
theorem ze_27 : zeroE Tryd.prog 27 = some (.int .i64 (0)) := by kernel_rfl
theorem el_27 : El Tryd.prog 27 1 8 (.int .i64 (0)) := ⟨by kernel_rfl, by kernel_rfl, rfl⟩
theorem un_27 : Tryd.prog.underlying 27 = some (.int .i64) := Tryd.underlying27
theorem ia_28 : isAggB Tryd.prog 28 = some false := by kernel_rfl
theorem sz_28 : sizeE Tryd.prog 28 = some 1 := by kernel_rfl
theorem ni_28 : notInt Tryd.prog 28 = true := by kernel_rfl
theorem ia_29 : isAggB Tryd.prog 29 = some false := by kernel_rfl
theorem sz_29 : sizeE Tryd.prog 29 = some 1 := by kernel_rfl
theorem ze_29 : zeroE Tryd.prog 29 = some (.nilf) := by kernel_rfl
theorem el_29 : El Tryd.prog 29 1 8 (.nilf) := ⟨by kernel_rfl, by kernel_rfl, rfl⟩
theorem ni_29 : notInt Tryd.prog 29 = true := by kernel_rfl
theorem ia_30 : isAggB Tryd.prog 30 = some false := by kernel_rfl
theorem sz_30 : sizeE Tryd.prog 30 = some 1 := by kernel_rfl
theorem ni_30 : notInt Tryd.prog 30 = true := by kernel_rfl
theorem ia_31 : isAggB Tryd.prog 31 = some false := by kernel_rfl
theorem sz_31 : sizeE Tryd.prog 31 = some 1 := by kernel_rfl
theorem ze_31 : zeroE Tryd.prog 31 = some (.nilf) := by kernel_rfl
theorem el_31 : El Tryd.prog 31 1 8 (.nilf) := ⟨by kernel_rfl, by kernel_rfl, rfl⟩
theorem ni_31 : notInt Tryd.prog 31 = true := by kernel_rfl
theorem ia_32 : isAggB Tryd.prog 32 = some false := by kernel_rfl
theorem sz_32 : sizeE Tryd.prog 32 = some 1 := by kernel_rfl
theorem ze_32 : zeroE Tryd.prog 32 = some (.nilf) := by kernel_rfl
theorem el_32 : El Tryd.prog 32 1 8 (.nilf) := ⟨by kernel_rfl, by kernel_rfl, rfl⟩
theorem ni_32 : notInt Tryd.prog 32 = true := by kernel_rfl
theorem ia_33 : isAggB Tryd.prog 33 = some false := by kernel_rfl
theorem sz_33 : sizeE Tryd.prog 33 = some 1 := by kernel_rfl
theorem ze_33 : zeroE Tryd.prog 33 = some (.nilf) := by kernel_rfl
theorem el_33 : El Tryd.prog 33 1 8 (.nilf) := ⟨by kernel_rfl, by kernel_rfl, rfl⟩
theorem ni_33 : notInt Tryd.prog 33 = true := by kernel_rfl
theorem ia_34 : isAggB Tryd.prog 34 = some false := by kernel_rfl
theorem sz_34 : sizeE Tryd.prog 34 = some 1 := by kernel_rfl
theorem ze_34 : zeroE Tryd.prog 34 = some (.nilf) := by kernel_rfl
theorem el_34 : El Tryd.prog 34 1 8 (.nilf) := ⟨by kernel_rfl, by kernel_rfl, rfl⟩
theorem ni_34 : notInt Tryd.prog 34 = true := by kernel_rfl
theorem ia_35 : isAggB Tryd.prog 35 = some false := by kernel_rfl
theorem sz_35 : sizeE Tryd.prog 35 = some 1 := by kernel_rfl
theorem ni_35 : notInt Tryd.prog 35 = true := by kernel_rfl
theorem ia_36 : isAggB Tryd.prog 36 = some false := by kernel_rfl
theorem sz_36 : sizeE Tryd.prog 36 = some 1 := by kernel_rfl
theorem ze_36 : zeroE Tryd.prog 36 = some (.nilf) := by kernel_rfl
theorem el_36 : El Tryd.prog 36 1 8 (.nilf) := ⟨by kernel_rfl, by kernel_rfl, rfl⟩
theorem ni_36 : notInt Tryd.prog 36 = true := by kernel_rfl
theorem ia_37 : isAggB Tryd.prog 37 = some false := by kernel_rfl
theorem sz_37 : sizeE Tryd.prog 37 = some 1 := by kernel_rfl
theorem ze_37 : zeroE Tryd.prog 37 = some (.nilf) := by kernel_rfl
theorem el_37 : El Tryd.prog 37 1 8 (.nilf) := ⟨by kernel_rfl, by kernel_rfl, rfl⟩
theorem ni_37 : notInt Tryd.prog 37 = true := by kernel_rfl
theorem ia_38 : isAggB Tryd.prog 38 = some false := by kernel_rfl
theorem sz_38 : sizeE Tryd.prog 38 = some 1 := by kernel_rfl
theorem ni_38 : notInt Tryd.prog 38 = true := by kernel_rfl
theorem ia_39 : isAggB Tryd.prog 39 = some false := by kernel_rfl
theorem sz_39 : sizeE Tryd.prog 39 = some 1 := by kernel_rfl
theorem ze_39 : zeroE Tryd.prog 39 = some (.nilf) := by kernel_rfl
theorem el_39 : El Tryd.prog 39 1 8 (.nilf) := ⟨by kernel_rfl, by kernel_rfl, rfl⟩
theorem ni_39 : notInt Tryd.prog 39 = true := by kernel_rfl
theorem ia_40 : isAggB Tryd.prog 40 = some false := by kernel_rfl
theorem sz_40 : sizeE Tryd.prog 40 = some 1 := by kernel_rfl
theorem ze_40 : zeroE Tryd.prog 40 = some (.nilf) := by kernel_rfl
theorem el_40 : El Tryd.prog 40 1 8 (.nilf) := ⟨by kernel_rfl, by kernel_rfl, rfl⟩
theorem ni_40 : notInt Tryd.prog 40 = true := by kernel_rfl
theorem ia_41 : isAggB Tryd.prog 41 = some false := by kernel_rfl
theorem sz_41 : sizeE Tryd.prog 41 = some 1 := by kernel_rfl
theorem ni_41 : notInt Tryd.prog 41 = true := by kernel_rfl
theorem ia_42 : isAggB Tryd.prog 42 = some false := by kernel_rfl
theorem sz_42 : sizeE Tryd.prog 42 = some 1 := by kernel_rfl
theorem ze_42 : zeroE Tryd.prog 42 = some (.nilf) := by kernel_rfl
theorem el_42 : El Tryd.prog 42 1 8 (.nilf) := ⟨by kernel_rfl, by kernel_rfl, rfl⟩
theorem ni_42 : notInt Tryd.prog 42 = true := by kernel_rfl
theorem ia_43 : isAggB Tryd.prog 43 = some false := by kernel_rfl
theorem sz_43 : sizeE Tryd.prog 43 = some 1 := by kernel_rfl
theorem ze_43 : zeroE Tryd.prog 43 = some (.nilf) := by kernel_rfl
theorem el_43 : El Tryd.prog 43 1 8 (.nilf) := ⟨by kernel_rfl, by kernel_rfl, rfl⟩
theorem ni_43 : notInt Tryd.prog 43 = true := by kernel_rfl
theorem ia_44 : isAggB Tryd.prog 44 = some false := by kernel_rfl
theorem sz_44 : sizeE Tryd.prog 44 = some 1 := by kernel_rfl
theorem ze_44 : zeroE Tryd.prog 44 = some (.nilf) := by kernel_rfl
theorem el_44 : El Tryd.prog 44 1 8 (.nilf) := ⟨by kernel_rfl, by kernel_rfl, rfl⟩
theorem ni_44 : notInt Tryd.prog 44 = true := by kernel_rfl
theorem ia_45 : isAggB Tryd.prog 45 = some false := by kernel_rfl
theorem sz_45 : sizeE Tryd.prog 45 = some 1 := by kernel_rfl
theorem ze_45 : zeroE Tryd.prog 45 = some (.nils) := by kernel_rfl
theorem bsl_45 (n : Nat) (parts : List (Nat × AV)) (h : H) : buildSliceE Tryd.prog 45 n parts h = bif Nat.ble (n * 1) 16777216 && Nat.beq 1 1 then (match fillE (fun i => some (i * 1, 1)) (zerosE [.int .u8 (0)] n) parts with | some cs => newSlice 5 cs n n 1 h | none => .no) else .no := by kernel_rfl
theorem el_45 : El Tryd.prog 45 1 24 (.nils) := ⟨by kernel_rfl, by kernel_rfl, rfl⟩
theorem ik_45 : idxKind Tryd.prog 45 = some (none, 1) := by kernel_rfl
theorem un_45 : Tryd.prog.underlying 45 = some (.slice 5) := Tryd.underlying45
theorem ni_45 : notInt Tryd.prog 45 = true := by kernel_rfl
theorem ia_46 : isAggB Tryd.prog 46 = some false := by kernel_rfl
theorem sz_46 : sizeE Tryd.prog 46 = some 1 := by kernel_rfl
theorem ze_46 : zeroE Tryd.prog 46 = some (.nilf) := by kernel_rfl
theorem el_46 : El Tryd.prog 46 1 8 (.nilf) := ⟨by kernel_rfl, by kernel_rfl, rfl⟩
theorem ni_46 : notInt Tryd.prog 46 = true := by kernel_rfl
theorem ia_47 : isAggB Tryd.prog 47 = some false := by kernel_rfl
theorem sz_47 : sizeE Tryd.prog 47 = some 1 := by kernel_rfl
theorem ze_47 : zeroE Tryd.prog 47 = some (.nilf) := by kernel_rfl
theorem el_47 : El Tryd.prog 47 1 8 (.nilf) := ⟨by kernel_rfl, by kernel_rfl, rfl⟩
theorem ni_47 : notInt Tryd.prog 47 = true := by kernel_rfl
theorem ia_48 : isAggB Tryd.prog 48 = some false := by kernel_rfl
theorem sz_48 : sizeE Tryd.prog 48 = some 1 := by kernel_rfl
theorem ze_48 : zeroE Tryd.prog 48 = some (.nilf) := by kernel_rfl
theorem el_48 : El Tryd.prog 48 1 8 (.nilf) := ⟨by kernel_rfl, by kernel_rfl, rfl⟩
theorem ni_48 : notInt Tryd.prog 48 = true := by kernel_rfl
theorem ia_49 : isAggB Tryd.prog 49 = some false := by kernel_rfl
theorem sz_49 : sizeE Tryd.prog 49 = some 1 := by kernel_rfl
theorem ze_49 : zeroE Tryd.prog 49 = some (.int .i16 (0)) := by kernel_rfl
theorem el_49 : El Tryd.prog 49 1 2 (.int .i16 (0)) := ⟨by kernel_rfl, by kernel_rfl, rfl⟩
theorem un_49 : Tryd.prog.underlying 49 = some (.int .i16) := Tryd.underlying49
theorem ia_50 : isAggB Tryd.prog 50 = some true := by kernel_rfl
theorem sz_50 : sizeE Tryd.prog 50 = some 2 := by kernel_rfl
theorem ze_50 : zeroE Tryd.prog 50 = some (.agg [.int .i64 (0), .int .i64 (0)]) := by kernel_rfl
theorem fo_50_0 : fieldOff Tryd.prog 50 0 = some 0 := by kernel_rfl
theorem fo_50_1 : fieldOff Tryd.prog 50 1 = some 1 := by kernel_rfl
theorem bs_50 (parts : List (Nat × AV)) : buildE Tryd.prog 50 parts = match fillE (fun i => [(0, 1), (1, 1)][i]?) [.int .i64 (0), .int .i64 (0)] parts with | some cs => some (.agg cs) | none => none := by kernel_rfl
theorem el_50 : El Tryd.prog 50 2 16 (.agg [.int .i64 (0), .int .i64 (0)]) := ⟨by kernel_rfl, by kernel_rfl, rfl⟩
theorem ni_50 : notInt Tryd.prog 50 = true := by kernel_rfl
theorem ia_51 : isAggB Tryd.prog 51 = some true := by kernel_rfl
theorem sz_51 : sizeE Tryd.prog 51 = some 2 := by kernel_rfl
theorem ze_51 : zeroE Tryd.prog 51 = some (.agg [.int .i64 (0), .int .i64 (0)]) := by kernel_rfl
theorem fo_51_0 : fieldOff Tryd.prog 51 0 = some 0 := by kernel_rfl
theorem fo_51_1 : fieldOff Tryd.prog 51 1 = some 1 := by kernel_rfl
theorem bs_51 (parts : List (Nat × AV)) : buildE Tryd.prog 51 parts = match fillE (fun i => [(0, 1), (1, 1)][i]?) [.int .i64 (0), .int .i64 (0)] parts with | some cs => some (.agg cs) | none => none := by kernel_rfl
theorem el_51 : El Tryd.prog 51 2 16 (.agg [.int .i64 (0), .int .i64 (0)]) := ⟨by kernel_rfl, by kernel_rfl, rfl⟩
theorem ni_51 : notInt Tryd.prog 51 = true := by kernel_rfl
theorem ia_52 : isAggB Tryd.prog 52 = some false := by kernel_rfl
theorem sz_52 : sizeE Tryd.prog 52 = some 1 := by kernel_rfl
theorem ze_52 : zeroE Tryd.prog 52 = some (.nils) := by kernel_rfl
theorem bsl_52 (n : Nat) (parts : List (Nat × AV)) (h : H) : buildSliceE Tryd.prog 52 n parts h = bif Nat.ble (n * 1) 16777216 && Nat.beq 1 1 then (match fillE (fun i => some (i * 1, 1)) (zerosE [.nils] n) parts with | some cs => newSlice 25 cs n n 1 h | none => .no) else .no := by kernel_rfl
theorem el_52 : El Tryd.prog 52 1 24 (.nils) := ⟨by kernel_rfl, by kernel_rfl, rfl⟩
theorem ik_52 : idxKind Tryd.prog 52 = some (none, 1) := by kernel_rfl
theorem un_52 : Tryd.prog.underlying 52 = some (.slice 25) := Tryd.underlying52
theorem ni_52 : notInt Tryd.prog 52 = true := by kernel_rfl
theorem ia_53 : isAggB Tryd.prog 53 = some false := by kernel_rfl
theorem sz_53 : sizeE Tryd.prog 53 = some 1 := by kernel_rfl
theorem ze_53 : zeroE Tryd.prog 53 = some (.nilf) := by kernel_rfl
theorem el_53 : El Tryd.prog 53 1 8 (.nilf) := ⟨by kernel_rfl, by kernel_rfl, rfl⟩
theorem ni_53 : notInt Tryd.prog 53 = true := by kernel_rfl
theorem ia_54 : isAggB Tryd.prog 54 = some false := by kernel_rfl
theorem sz_54 : sizeE Tryd.prog 54 = some 1 := by kernel_rfl
theorem ze_54 : zeroE Tryd.prog 54 = some (.nilf) := by kernel_rfl
theorem el_54 : El Tryd.prog 54 1 8 (.nilf) := ⟨by kernel_rfl, by kernel_rfl, rfl⟩
theorem ni_54 : notInt Tryd.prog 54 = true := by kernel_rfl
theorem ia_55 : isAggB Tryd.prog 55 = some false := by kernel_rfl
theorem sz_55 : sizeE Tryd.prog 55 = some 1 := by kernel_rfl
theorem ze_55 : zeroE Tryd.prog 55 = some (.nilf) := by kernel_rfl
theorem el_55 : El Tryd.prog 55 1 8 (.nilf) := ⟨by kernel_rfl, by kernel_rfl, rfl⟩
theorem ni_55 : notInt Tryd.prog 55 = true := by kernel_rfl
theorem ia_56 : isAggB Tryd.prog 56 = some false := by kernel_rfl
theorem sz_56 : sizeE Tryd.prog 56 = some 1 := by kernel_rfl
theorem ni_56 : notInt Tryd.prog 56 = true := by kernel_rfl
theorem ia_57 : isAggB Tryd.prog 57 = some false := by kernel_rfl
theorem sz_57 : sizeE Tryd.prog 57 = some 1 := by kernel_rfl
theorem ze_57 : zeroE Tryd.prog 57 = some (.nilf) := by kernel_rfl
theorem el_57 : El Tryd.prog 57 1 8 (.nilf) := ⟨by kernel_rfl, by kernel_rfl, rfl⟩
theorem ni_57 : notInt Tryd.prog 57 = true := by kernel_rfl
theorem ia_58 : isAggB Tryd.prog 58 = some false := by kernel_rfl
theorem sz_58 : sizeE Tryd.prog 58 = some 1 := by kernel_rfl
theorem ni_58 : notInt Tryd.prog 58 = true := by kernel_rfl
theorem ia_59 : isAggB Tryd.prog 59 = some false := by kernel_rfl
theorem sz_59 : sizeE Tryd.prog 59 = some 1 := by kernel_rfl
theorem ze_59 : zeroE Tryd.prog 59 = some (.nilf) := by kernel_rfl
theorem el_59 : El Tryd.prog 59 1 8 (.nilf) := ⟨by kernel_rfl, by kernel_rfl, rfl⟩
theorem ni_59 : notInt Tryd.prog 59 = true := by kernel_rfl
theorem ia_60 : isAggB Tryd.prog 60 = some false := by kernel_rfl
theorem sz_60 : sizeE Tryd.prog 60 = some 1 := by kernel_rfl
theorem ze_60 : zeroE Tryd.prog 60 = some (.nilf) := by kernel_rfl
theorem el_60 : El Tryd.prog 60 1 8 (.nilf) := ⟨by kernel_rfl, by kernel_rfl, rfl⟩
theorem ni_60 : notInt Tryd.prog 60 = true := by kernel_rfl
theorem ia_61 : isAggB Tryd.prog 61 = some false := by kernel_rfl
theorem sz_61 : sizeE Tryd.prog 61 = some 1 := by kernel_rfl
theorem ze_61 : zeroE Tryd.prog 61 = some (.nilf) := by kernel_rfl
theorem el_61 : El Tryd.prog 61 1 8 (.nilf) := ⟨by kernel_rfl, by kernel_rfl, rfl⟩
theorem ni_61 : notInt Tryd.prog 61 = true := by kernel_rfl
theorem ia_62 : isAggB Tryd.prog 62 = some false := by kernel_rfl
theorem sz_62 : sizeE Tryd.prog 62 = some 1 := by kernel_rfl
theorem ze_62 : zeroE Tryd.prog 62 = some (.nilf) := by kernel_rfl
theorem el_62 : El Tryd.prog 62 1 8 (.nilf) := ⟨by kernel_rfl, by kernel_rfl, rfl⟩
theorem ni_62 : notInt Tryd.prog 62 = true := by kernel_rfl
theorem ia_63 : isAggB Tryd.prog 63 = some true := by kernel_rfl
theorem sz_63 : sizeE Tryd.prog 63 = some 2 := by kernel_rfl
theorem ze_63 : zeroE Tryd.prog 63 = some (.agg [.nils, .int .i64 (0)]) := by kernel_rfl
theorem fo_63_0 : fieldOff Tryd.prog 63 0 = some 0 := by kernel_rfl
theorem bs_63 (parts : List (Nat × AV)) : buildE Tryd.prog 63 parts = match fillE (fun i => [(0, 2)][i]?) [.nils, .int .i64 (0)] parts with | some cs => some (.agg cs) | none => none := by kernel_rfl
theorem el_63 : El Tryd.prog 63 2 32 (.agg [.nils, .int .i64 (0)]) := ⟨by kernel_rfl, by kernel_rfl, rfl⟩
theorem ni_63 : notInt Tryd.prog 63 = true := by kernel_rfl
theorem ia_64 : isAggB Tryd.prog 64 = some true := by kernel_rfl
theorem sz_64 : sizeE Tryd.prog 64 = some 2 := by kernel_rfl
theorem ze_64 : zeroE Tryd.prog 64 = some (.agg [.nils, .int .i64 (0)]) := by kernel_rfl
theorem fo_64_0 : fieldOff Tryd.prog 64 0 = some 0 := by kernel_rfl
theorem bs_64 (parts : List (Nat × AV)) : buildE Tryd.prog 64 parts = match fillE (fun i => [(0, 2)][i]?) [.nils, .int .i64 (0)] parts with | some cs => some (.agg cs) | none => none := by kernel_rfl
theorem el_64 : El Tryd.prog 64 2 32 (.agg [.nils, .int .i64 (0)]) := ⟨by kernel_rfl, by kernel_rfl, rfl⟩
theorem ni_64 : notInt Tryd.prog 64 = true := by kernel_rfl
theorem ia_65 : isAggB Tryd.prog 65 = some false := by kernel_rfl
theorem sz_65 : sizeE Tryd.prog 65 = some 1 := by kernel_rfl
theorem ze_65 : zeroE Tryd.prog 65 = some (.nils) := by kernel_rfl
theorem bsl_65 (n : Nat) (parts : List (Nat × AV)) (h : H) : buildSliceE Tryd.prog 65 n parts h = bif Nat.ble (n * 75) 16777216 && Nat.beq 75 75 then (match fillE (fun i => some (i * 75, 75)) (zerosE [.int .i64 (0), .int .i64 (0), .int .i64 (0), .int .i64 (0), .int .i64 (0), .int .i64 (0), .int .i64 (0), .int .i64 (0), .int .i64 (0), .int .i64 (0), .int .i64 (0), .int .i64 (0), .int .i64 (0), .int .i64 (0), .int .i64 (0), .int .i64 (0), .int .i64 (0), .int .i64 (0), .int .i64 (0), .int .i64 (0), .int .i64 (0), .int .i64 (0), .int .i64 (0), .int .i64 (0), .int .i64 (0), .int .i64 (0), .int .i64 (0), .int .i64 (0), .int .i64 (0), .int .i64 (0), .int .i64 (0), .int .i64 (0), .int .i64 (0), .int .i64 (0), .int .i64 (0), .int .i64 (0), .int .i64 (0), .int .i64 (0), .int .i64 (0), .int .i64 (0), .int .i64 (0), .int .i64 (0), .int .i64 (0), .int .i64 (0), .int .i64 (0), .int .i64 (0), .int .i64 (0), .int .i64 (0), .int .i64 (0), .int .i64 (0), .int .i64 (0), .int .i64 (0), .int .i64 (0), .int .i64 (0), .int .i64 (0), .int .i64 (0), .int .i64 (0), .int .i64 (0), .int .i64 (0), .int .i64 (0), .int .i64 (0), .int .i64 (0), .int .i64 (0), .int .i64 (0), .int .i64 (0), .int .i64 (0), .int .i64 (0), .int .i64 (0), .int .i64 (0), .int .i64 (0), .int .i64 (0), .int .i64 (0), .int .i64 (0), .int .i64 (0), .int .i64 (0)] n) parts with | some cs => newSlice 112 cs n n 75 h | none => .no) else .no := by kernel_rfl
theorem el_65 : El Tryd.prog 65 1 24 (.nils) := ⟨by kernel_rfl, by kernel_rfl, rfl⟩
theorem ik_65 : idxKind Tryd.prog 65 = some (none, 75) := by kernel_rfl
theorem un_65 : Tryd.prog.underlying 65 = some (.slice 112) := Tryd.underlying65
theorem ni_65 : notInt Tryd.prog 65 = true := by kernel_rfl
theorem ia_66 : isAggB Tryd.prog 66 = some true := by kernel_rfl
theorem sz_66 : sizeE Tryd.prog 66 = some 3 := by kernel_rfl
theorem ze_66 : zeroE Tryd.prog 66 = some (.agg [.nils, .int .i64 (0), .nils]) := by kernel_rfl
theorem fo_66_0 : fieldOff Tryd.prog 66 0 = some 0 := by kernel_rfl
theorem fo_66_1 : fieldOff Tryd.prog 66 1 = some 2 := by kernel_rfl
theorem bs_66 (parts : List (Nat × AV)) : buildE Tryd.prog 66 parts = match fillE (fun i => [(0, 2), (2, 1)][i]?) [.nils, .int .i64 (0), .nils] parts with | some cs => some (.agg cs) | none => none := by kernel_rfl
theorem el_66 : El Tryd.prog 66 3 56 (.agg [.nils, .int .i64 (0), .nils]) := ⟨by kernel_rfl, by kernel_rfl, rfl⟩
theorem ni_66 : notInt Tryd.prog 66 = true := by kernel_rfl
theorem ia_67 : isAggB Tryd.prog 67 = some true := by kernel_rfl
theorem sz_67 : sizeE Tryd.prog 67 = some 3 := by kernel_rfl
theorem ze_67 : zeroE Tryd.prog 67 = some (.agg [.nils, .int .i64 (0), .nils]) := by kernel_rfl
theorem fo_67_0 : fieldOff Tryd.prog 67 0 = some 0 := by kernel_rfl
theorem fo_67_1 : fieldOff Tryd.prog 67 1 = some 2 := by kernel_rfl
theorem bs_67 (parts : List (Nat × AV)) : buildE Tryd.prog 67 parts = match fillE (fun i => [(0, 2), (2, 1)][i]?) [.nils, .int .i64 (0), .nils] parts with | some cs => some (.agg cs) | none => none := by kernel_rfl
theorem el_67 : El Tryd.prog 67 3 56 (.agg [.nils, .int .i64 (0), .nils]) := ⟨by kernel_rfl, by kernel_rfl, rfl⟩
theorem ni_67 : notInt Tryd.prog 67 = true := by kernel_rfl
theorem ia_68 : isAggB Tryd.prog 68 = some false := by kernel_rfl
theorem sz_68 : sizeE Tryd.prog 68 = some 1 := by kernel_rfl
theorem ze_68 : zeroE Tryd.prog 68 = some (.nilf) := by kernel_rfl
theorem el_68 : El Tryd.prog 68 1 8 (.nilf) := ⟨by kernel_rfl, by kernel_rfl, rfl⟩
theorem ni_68 : notInt Tryd.prog 68 = true := by kernel_rfl
theorem ia_69 : isAggB Tryd.prog 69 = some false := by kernel_rfl
theorem sz_69 : sizeE Tryd.prog 69 = some 1 := by kernel_rfl
theorem ze_69 : zeroE Tryd.prog 69 = some (.nilf) := by kernel_rfl
theorem el_69 : El Tryd.prog 69 1 8 (.nilf) := ⟨by kernel_rfl, by kernel_rfl, rfl⟩
theorem ni_69 : notInt Tryd.prog 69 = true := by kernel_rfl
theorem ia_70 : isAggB Tryd.prog 70 = some true := by kernel_rfl
theorem sz_70 : sizeE Tryd.prog 70 = some 4 := by kernel_rfl
theorem ze_70 : zeroE Tryd.prog 70 = some (.agg [.int .i64 (0), .int .i64 (0), .int .i64 (0), .int .i64 (0)]) := by kernel_rfl
theorem fo_70_0 : fieldOff Tryd.prog 70 0 = some 0 := by kernel_rfl
theorem fo_70_1 : fieldOff Tryd.prog 70 1 = some 1 := by kernel_rfl
theorem fo_70_2 : fieldOff Tryd.prog 70 2 = some 2 := by kernel_rfl
theorem fo_70_3 : fieldOff Tryd.prog 70 3 = some 3 := by kernel_rfl
theorem bs_70 (parts : List (Nat × AV)) : buildE Tryd.prog 70 parts = match fillE (fun i => [(0, 1), (1, 1), (2, 1), (3, 1)][i]?) [.int .i64 (0), .int .i64 (0), .int .i64 (0), .int .i64 (0)] parts with | some cs => some (.agg cs) | none => none := by kernel_rfl
theorem el_70 : El Tryd.prog 70 4 32 (.agg [.int .i64 (0), .int .i64 (0), .int .i64 (0), .int .i64 (0)]) := ⟨by kernel_rfl, by kernel_rfl, rfl⟩
theorem ni_70 : notInt Tryd.prog 70 = true := by kernel_rfl
theorem ia_71 : isAggB Tryd.prog 71 = some true := by kernel_rfl
theorem sz_71 : sizeE Tryd.prog 71 = some 4 := by kernel_rfl
theorem ze_71 : zeroE Tryd.prog 71 = some (.agg [.int .i64 (0), .int .i64 (0), .int .i64 (0), .int .i64 (0)]) := by kernel_rfl
theorem fo_71_0 : fieldOff Tryd.prog 71 0 = some 0 := by kernel_rfl
theorem fo_71_1 : fieldOff Tryd.prog 71 1 = some 1 := by kernel_rfl
theorem fo_71_2 : fieldOff Tryd.prog 71 2 = some 2 := by kernel_rfl
theorem fo_71_3 : fieldOff Tryd.prog 71 3 = some 3 := by kernel_rfl
theorem bs_71 (parts : List (Nat × AV)) : buildE Tryd.prog 71 parts = match fillE (fun i => [(0, 1), (1, 1), (2, 1), (3, 1)][i]?) [.int .i64 (0), .int .i64 (0), .int .i64 (0), .int .i64 (0)] parts with | some cs => some (.agg cs) | none => none := by kernel_rfl
theorem el_71 : El Tryd.prog 71 4 32 (.agg [.int .i64 (0), .int .i64 (0), .int .i64 (0), .int .i64 (0)]) := ⟨by kernel_rfl, by kernel_rfl, rfl⟩
theorem ni_71 : notInt Tryd.prog 71 = true := by kernel_rfl
theorem ia_72 : isAggB Tryd.prog 72 = some false := by kernel_rfl
theorem sz_72 : sizeE Tryd.prog 72 = some 1 := by kernel_rfl
theorem ni_72 : notInt Tryd.prog 72 = true := by kernel_rfl
theorem ia_73 : isAggB Tryd.prog 73 = some false := by kernel_rfl
theorem sz_73 : sizeE Tryd.prog 73 = some 1 := by kernel_rfl
theorem ze_73 : zeroE Tryd.prog 73 = some (.nilf) := by kernel_rfl
theorem el_73 : El Tryd.prog 73 1 8 (.nilf) := ⟨by kernel_rfl, by kernel_rfl, rfl⟩
theorem ni_73 : notInt Tryd.prog 73 = true := by kernel_rfl
theorem ia_74 : isAggB Tryd.prog 74 = some false := by kernel_rfl
theorem sz_74 : sizeE Tryd.prog 74 = some 1 := by kernel_rfl
theorem ze_74 : zeroE Tryd.prog 74 = some (.nilf) := by kernel_rfl
theorem el_74 : El Tryd.prog 74 1 8 (.nilf) := ⟨by kernel_rfl, by kernel_rfl, rfl⟩
theorem ni_74 : notInt Tryd.prog 74 = true := by kernel_rfl
theorem ia_75 : isAggB Tryd.prog 75 = some false := by kernel_rfl
theorem sz_75 : sizeE Tryd.prog 75 = some 1 := by kernel_rfl
theorem ze_75 : zeroE Tryd.prog 75 = some (.nilf) := by kernel_rfl
theorem el_75 : El Tryd.prog 75 1 8 (.nilf) := ⟨by kernel_rfl, by kernel_rfl, rfl⟩
theorem ni_75 : notInt Tryd.prog 75 = true := by kernel_rfl
theorem ia_76 : isAggB Tryd.prog 76 = some false := by kernel_rfl
theorem sz_76 : sizeE Tryd.prog 76 = some 1 := by kernel_rfl
theorem ze_76 : zeroE Tryd.prog 76 = some (.nilf) := by kernel_rfl
theorem el_76 : El Tryd.prog 76 1 8 (.nilf) := ⟨by kernel_rfl, by kernel_rfl, rfl⟩
theorem ni_76 : notInt Tryd.prog 76 = true := by kernel_rfl
theorem ia_77 : isAggB Tryd.prog 77 = some false := by kernel_rfl
theorem sz_77 : sizeE Tryd.prog 77 = some 1 := by kernel_rfl
theorem ze_77 : zeroE Tryd.prog 77 = some (.nilf) := by kernel_rfl
theorem el_77 : El Tryd.prog 77 1 8 (.nilf) := ⟨by kernel_rfl, by kernel_rfl, rfl⟩
theorem ni_77 : notInt Tryd.prog 77 = true := by kernel_rfl
theorem ia_78 : isAggB Tryd.prog 78 = some false := by kernel_rfl
theorem sz_78 : sizeE Tryd.prog 78 = some 1 := by kernel_rfl
theorem ze_78 : zeroE Tryd.prog 78 = some (.nilf) := by kernel_rfl
theorem el_78 : El Tryd.prog 78 1 8 (.nilf) := ⟨by kernel_rfl, by kernel_rfl, rfl⟩
theorem ni_78 : notInt Tryd.prog 78 = true := by kernel_rfl
theorem ia_79 : isAggB Tryd.prog 79 = some false := by kernel_rfl
theorem sz_79 : sizeE Tryd.prog 79 = some 1 := by kernel_rfl
theorem ze_79 : zeroE Tryd.prog 79 = some (.nilf) := by kernel_rfl
theorem el_79 : El Tryd.prog 79 1 8 (.nilf) := ⟨by kernel_rfl, by kernel_rfl, rfl⟩
theorem ni_79 : notInt Tryd.prog 79 = true := by kernel_rfl
theorem ia_80 : isAggB Tryd.prog 80 = some false := by kernel_rfl
theorem sz_80 : sizeE Tryd.prog 80 = some 1 := by kernel_rfl
theorem ze_80 : zeroE Tryd.prog 80 = some (.nilf) := by kernel_rfl
theorem el_80 : El Tryd.prog 80 1 8 (.nilf) := ⟨by kernel_rfl, by kernel_rfl, rfl⟩
theorem ni_80 : notInt Tryd.prog 80 = true := by kernel_rfl
theorem ia_81 : isAggB Tryd.prog 81 = some false := by kernel_rfl
theorem sz_81 : sizeE Tryd.prog 81 = some 1 := by kernel_rfl
theorem ze_81 : zeroE Tryd.prog 81 = some (.nils) := by kernel_rfl
theorem bsl_81 (n : Nat) (parts : List (Nat × AV)) (h : H) : buildSliceE Tryd.prog 81 n parts h = bif Nat.ble (n * 4) 16777216 && Nat.beq 4 4 then (match fillE (fun i => some (i * 4, 4)) (zerosE [.int .i64 (0), .int .i64 (0), .int .i64 (0), .int .i64 (0)] n) parts with | some cs => newSlice 71 cs n n 4 h | none => .no) else .no := by kernel_rfl
theorem el_81 : El Tryd.prog 81 1 24 (.nils) := ⟨by kernel_rfl, by kernel_rfl, rfl⟩
theorem ik_81 : idxKind Tryd.prog 81 = some (none, 4) := by kernel_rfl
theorem un_81 : Tryd.prog.underlying 81 = some (.slice 71) := Tryd.underlying81
theorem ni_81 : notInt Tryd.prog 81 = true := by kernel_rfl
theorem ia_82 : isAggB Tryd.prog 82 = some false := by kernel_rfl
theorem sz_82 : sizeE Tryd.prog 82 = some 1 := by kernel_rfl
theorem ze_82 : zeroE Tryd.prog 82 = some (.nilf) := by kernel_rfl
theorem el_82 : El Tryd.prog 82 1 8 (.nilf) := ⟨by kernel_rfl, by kernel_rfl, rfl⟩
theorem ni_82 : notInt Tryd.prog 82 = true := by kernel_rfl
theorem ia_83 : isAggB Tryd.prog 83 = some false := by kernel_rfl
theorem sz_83 : sizeE Tryd.prog 83 = some 1 := by kernel_rfl
theorem ze_83 : zeroE Tryd.prog 83 = some (.nilm) := by kernel_rfl
theorem el_83 : El Tryd.prog 83 1 8 (.nilm) := ⟨by kernel_rfl, by kernel_rfl, rfl⟩
theorem un_83 : Tryd.prog.underlying 83 = some (.map 71 2) := Tryd.underlying83
theorem ni_83 : notInt Tryd.prog 83 = true := by kernel_rfl
theorem ia_84 : isAggB Tryd.prog 84 = some false := by kernel_rfl
theorem sz_84 : sizeE Tryd.prog 84 = some 1 := by kernel_rfl
theorem ze_84 : zeroE Tryd.prog 84 = some (.nilf) := by kernel_rfl
theorem el_84 : El Tryd.prog 84 1 8 (.nilf) := ⟨by kernel_rfl, by kernel_rfl, rfl⟩
theorem ni_84 : notInt Tryd.prog 84 = true := by kernel_rfl
theorem ia_85 : isAggB Tryd.prog 85 = some false := by kernel_rfl
theorem sz_85 : sizeE Tryd.prog 85 = some 1 := by kernel_rfl
theorem ze_85 : zeroE Tryd.prog 85 = some (.nilf) := by kernel_rfl
theorem el_85 : El Tryd.prog 85 1 8 (.nilf) := ⟨by kernel_rfl, by kernel_rfl, rfl⟩
theorem ni_85 : notInt Tryd.prog 85 = true := by kernel_rfl
theorem ia_86 : isAggB Tryd.prog 86 = some false := by kernel_rfl
theorem sz_86 : sizeE Tryd.prog 86 = some 1 := by kernel_rfl
theorem ze_86 : zeroE Tryd.prog 86 = some (.nils) := by kernel_rfl
theorem bsl_86 (n : Nat) (parts : List (Nat × AV)) (h : H) : buildSliceE Tryd.prog 86 n parts h = bif Nat.ble (n * 4) 16777216 && Nat.beq 4 4 then (match fillE (fun i => some (i * 4, 4)) (zerosE [.int .i64 (0), .int .i64 (0), .int .i64 (0), .int .i64 (0)] n) parts with | some cs => newSlice 89 cs n n 4 h | none => .no) else .no := by kernel_rfl
theorem el_86 : El Tryd.prog 86 1 24 (.nils) := ⟨by kernel_rfl, by kernel_rfl, rfl⟩
theorem ik_86 : idxKind Tryd.prog 86 = some (none, 4) := by kernel_rfl
theorem un_86 : Tryd.prog.underlying 86 = some (.slice 89) := Tryd.underlying86
theorem ni_86 : notInt Tryd.prog 86 = true := by kernel_rfl
theorem ia_87 : isAggB Tryd.prog 87 = some false := by kernel_rfl
theorem sz_87 : sizeE Tryd.prog 87 = some 1 := by kernel_rfl
theorem ze_87 : zeroE Tryd.prog 87 = some (.nilf) := by kernel_rfl
theorem el_87 : El Tryd.prog 87 1 8 (.nilf) := ⟨by kernel_rfl, by kernel_rfl, rfl⟩
theorem ni_87 : notInt Tryd.prog 87 = true := by kernel_rfl
theorem ia_88 : isAggB Tryd.prog 88 = some true := by kernel_rfl
theorem sz_88 : sizeE Tryd.prog 88 = some 4 := by kernel_rfl
theorem ze_88 : zeroE Tryd.prog 88 = some (.agg [.int .i64 (0), .int .i64 (0), .int .i64 (0), .int .i64 (0)]) := by kernel_rfl
theorem fo_88_0 : fieldOff Tryd.prog 88 0 = some 0 := by kernel_rfl
theorem fo_88_1 : fieldOff Tryd.prog 88 1 = some 1 := by kernel_rfl
theorem fo_88_2 : fieldOff Tryd.prog 88 2 = some 2 := by kernel_rfl
theorem fo_88_3 : fieldOff Tryd.prog 88 3 = some 3 := by kernel_rfl
theorem bs_88 (parts : List (Nat × AV)) : buildE Tryd.prog 88 parts = match fillE (fun i => [(0, 1), (1, 1), (2, 1), (3, 1)][i]?) [.int .i64 (0), .int .i64 (0), .int .i64 (0), .int .i64 (0)] parts with | some cs => some (.agg cs) | none => none := by kernel_rfl
theorem el_88 : El Tryd.prog 88 4 32 (.agg [.int .i64 (0), .int .i64 (0), .int .i64 (0), .int .i64 (0)]) := ⟨by kernel_rfl, by kernel_rfl, rfl⟩
theorem ni_88 : notInt Tryd.prog 88 = true := by kernel_rfl
theorem ia_89 : isAggB Tryd.prog 89 = some true := by kernel_rfl
theorem sz_89 : sizeE Tryd.prog 89 = some 4 := by kernel_rfl
theorem ze_89 : zeroE Tryd.prog 89 = some (.agg [.int .i64 (0), .int .i64 (0), .int .i64 (0), .int .i64 (0)]) := by kernel_rfl
theorem fo_89_0 : fieldOff Tryd.prog 89 0 = some 0 := by kernel_rfl
theorem fo_89_1 : fieldOff Tryd.prog 89 1 = some 1 := by kernel_rfl
theorem fo_89_2 : fieldOff Tryd.prog 89 2 = some 2 := by kernel_rfl
theorem fo_89_3 : fieldOff Tryd.prog 89 3 = some 3 := by kernel_rfl
theorem bs_89 (parts : List (Nat × AV)) : buildE Tryd.prog 89 parts = match fillE (fun i => [(0, 1), (1, 1), (2, 1), (3, 1)][i]?) [.int .i64 (0), .int .i64 (0), .int .i64 (0), .int .i64 (0)] parts with | some cs => some (.agg cs) | none => none := by kernel_rfl
theorem el_89 : El Tryd.prog 89 4 32 (.agg [.int .i64 (0), .int .i64 (0), .int .i64 (0), .int .i64 (0)]) := ⟨by kernel_rfl, by kernel_rfl, rfl⟩
theorem ni_89 : notInt Tryd.prog 89 = true := by kernel_rfl
theorem ia_90 : isAggB Tryd.prog 90 = some false := by kernel_rfl
theorem sz_90 : sizeE Tryd.prog 90 = some 1 := by kernel_rfl
theorem ni_90 : notInt Tryd.prog 90 = true := by kernel_rfl
theorem ia_91 : isAggB Tryd.prog 91 = some false := by kernel_rfl
theorem sz_91 : sizeE Tryd.prog 91 = some 1 := by kernel_rfl
theorem ze_91 : zeroE Tryd.prog 91 = some (.nilf) := by kernel_rfl
theorem el_91 : El Tryd.prog 91 1 8 (.nilf) := ⟨by kernel_rfl, by kernel_rfl, rfl⟩
theorem ni_91 : notInt Tryd.prog 91 = true := by kernel_rfl
theorem ia_92 : isAggB Tryd.prog 92 = some false := by kernel_rfl
theorem sz_92 : sizeE Tryd.prog 92 = some 1 := by kernel_rfl
theorem ze_92 : zeroE Tryd.prog 92 = some (.nilf) := by kernel_rfl
theorem el_92 : El Tryd.prog 92 1 8 (.nilf) := ⟨by kernel_rfl, by kernel_rfl, rfl⟩
theorem ni_92 : notInt Tryd.prog 92 = true := by kernel_rfl
theorem ia_93 : isAggB Tryd.prog 93 = some false := by kernel_rfl
theorem sz_93 : sizeE Tryd.prog 93 = some 1 := by kernel_rfl
theorem ze_93 : zeroE Tryd.prog 93 = some (.nils) := by kernel_rfl
theorem bsl_93 (n : Nat) (parts : List (Nat × AV)) (h : H) : buildSliceE Tryd.prog 93 n parts h = bif Nat.ble (n * 1) 16777216 && Nat.beq 1 1 then (match fillE (fun i => some (i * 1, 1)) (zerosE [.bool false] n) parts with | some cs => newSlice 4 cs n n 1 h | none => .no) else .no := by kernel_rfl
theorem el_93 : El Tryd.prog 93 1 24 (.nils) := ⟨by kernel_rfl, by kernel_rfl, rfl⟩
theorem ik_93 : idxKind Tryd.prog 93 = some (none, 1) := by kernel_rfl
theorem un_93 : Tryd.prog.underlying 93 = some (.slice 4) := Tryd.underlying93
theorem ni_93 : notInt Tryd.prog 93 = true := by kernel_rfl
theorem ia_94 : isAggB Tryd.prog 94 = some false := by kernel_rfl
theorem sz_94 : sizeE Tryd.prog 94 = some 1 := by kernel_rfl
theorem ze_94 : zeroE Tryd.prog 94 = some (.nilf) := by kernel_rfl
theorem el_94 : El Tryd.prog 94 1 8 (.nilf) := ⟨by kernel_rfl, by kernel_rfl, rfl⟩
theorem ni_94 : notInt Tryd.prog 94 = true := by kernel_rfl
theorem ia_95 : isAggB Tryd.prog 95 = some false := by kernel_rfl
theorem sz_95 : sizeE Tryd.prog 95 = some 1 := by kernel_rfl
theorem ze_95 : zeroE Tryd.prog 95 = some (.nilf) := by kernel_rfl
theorem el_95 : El Tryd.prog 95 1 8 (.nilf) := ⟨by kernel_rfl, by kernel_rfl, rfl⟩
theorem ni_95 : notInt Tryd.prog 95 = true := by kernel_rfl
theorem ia_96 : isAggB Tryd.prog 96 = some false := by kernel_rfl
theorem sz_96 : sizeE Tryd.prog 96 = some 1 := by kernel_rfl
theorem ze_96 : zeroE Tryd.prog 96 = some (.nilf) := by kernel_rfl
theorem el_96 : El Tryd.prog 96 1 8 (.nilf) := ⟨by kernel_rfl, by kernel_rfl, rfl⟩
theorem ni_96 : notInt Tryd.prog 96 = true := by kernel_rfl
theorem ia_97 : isAggB Tryd.prog 97 = some false := by kernel_rfl
theorem sz_97 : sizeE Tryd.prog 97 = some 1 := by kernel_rfl
theorem ze_97 : zeroE Tryd.prog 97 = some (.nilf) := by kernel_rfl
theorem el_97 : El Tryd.prog 97 1 8 (.nilf) := ⟨by kernel_rfl, by kernel_rfl, rfl⟩
theorem ni_97 : notInt Tryd.prog 97 = true := by kernel_rfl
theorem ia_98 : isAggB Tryd.prog 98 = some false := by kernel_rfl
theorem sz_98 : sizeE Tryd.prog 98 = some 1 := by kernel_rfl
theorem ze_98 : zeroE Tryd.prog 98 = some (.nilf) := by kernel_rfl
theorem el_98 : El Tryd.prog 98 1 8 (.nilf) := ⟨by kernel_rfl, by kernel_rfl, rfl⟩
theorem ni_98 : notInt Tryd.prog 98 = true := by kernel_rfl
theorem ia_99 : isAggB Tryd.prog 99 = some false := by kernel_rfl
theorem sz_99 : sizeE Tryd.prog 99 = some 1 := by kernel_rfl
theorem ze_99 : zeroE Tryd.prog 99 = some (.nilf) := by kernel_rfl
theorem el_99 : El Tryd.prog 99 1 8 (.nilf) := ⟨by kernel_rfl, by kernel_rfl, rfl⟩
theorem ni_99 : notInt Tryd.prog 99 = true := by kernel_rfl
theorem ia_100 : isAggB Tryd.prog 100 = some false := by kernel_rfl
theorem sz_100 : sizeE Tryd.prog 100 = some 1 := by kernel_rfl
theorem ze_100 : zeroE Tryd.prog 100 = some (.nilf) := by kernel_rfl
theorem el_100 : El Tryd.prog 100 1 8 (.nilf) := ⟨by kernel_rfl, by kernel_rfl, rfl⟩
theorem ni_100 : notInt Tryd.prog 100 = true := by kernel_rfl
theorem ia_101 : isAggB Tryd.prog 101 = some false := by kernel_rfl
theorem sz_101 : sizeE Tryd.prog 101 = some 1 := by kernel_rfl
theorem ze_101 : zeroE Tryd.prog 101 = some (.nilf) := by kernel_rfl
theorem el_101 : El Tryd.prog 101 1 8 (.nilf) := ⟨by kernel_rfl, by kernel_rfl, rfl⟩
theorem ni_101 : notInt Tryd.prog 101 = true := by kernel_rfl
theorem ia_102 : isAggB Tryd.prog 102 = some false := by kernel_rfl
theorem sz_102 : sizeE Tryd.prog 102 = some 1 := by kernel_rfl
theorem ze_102 : zeroE Tryd.prog 102 = some (.nilf) := by kernel_rfl
theorem el_102 : El Tryd.prog 102 1 8 (.nilf) := ⟨by kernel_rfl, by kernel_rfl, rfl⟩
theorem ni_102 : notInt Tryd.prog 102 = true := by kernel_rfl
theorem ia_103 : isAggB Tryd.prog 103 = some false := by kernel_rfl
theorem sz_103 : sizeE Tryd.prog 103 = some 1 := by kernel_rfl
theorem ze_103 : zeroE Tryd.prog 103 = some (.nilf) := by kernel_rfl
theorem el_103 : El Tryd.prog 103 1 8 (.nilf) := ⟨by kernel_rfl, by kernel_rfl, rfl⟩
theorem ni_103 : notInt Tryd.prog 103 = true := by kernel_rfl
theorem ia_104 : isAggB Tryd.prog 104 = some false := by kernel_rfl
theorem sz_104 : sizeE Tryd.prog 104 = some 1 := by kernel_rfl
theorem ze_104 : zeroE Tryd.prog 104 = some (.nilf) := by kernel_rfl
theorem el_104 : El Tryd.prog 104 1 8 (.nilf) := ⟨by kernel_rfl, by kernel_rfl, rfl⟩
theorem ni_104 : notInt Tryd.prog 104 = true := by kernel_rfl
theorem ia_105 : isAggB Tryd.prog 105 = some false := by kernel_rfl
theorem sz_105 : sizeE Tryd.prog 105 = some 1 := by kernel_rfl
theorem ze_105 : zeroE Tryd.prog 105 = some (.nilf) := by kernel_rfl
theorem el_105 : El Tryd.prog 105 1 8 (.nilf) := ⟨by kernel_rfl, by kernel_rfl, rfl⟩
theorem ni_105 : notInt Tryd.prog 105 = true := by kernel_rfl
theorem ia_106 : isAggB Tryd.prog 106 = some false := by kernel_rfl
theorem sz_106 : sizeE Tryd.prog 106 = some 1 := by kernel_rfl
theorem ze_106 : zeroE Tryd.prog 106 = some (.nilf) := by kernel_rfl
theorem el_106 : El Tryd.prog 106 1 8 (.nilf) := ⟨by kernel_rfl, by kernel_rfl, rfl⟩
theorem ni_106 : notInt Tryd.prog 106 = true := by kernel_rfl
theorem ia_107 : isAggB Tryd.prog 107 = some false := by kernel_rfl
theorem sz_107 : sizeE Tryd.prog 107 = some 1 := by kernel_rfl
theorem ze_107 : zeroE Tryd.prog 107 = some (.nilf) := by kernel_rfl
theorem el_107 : El Tryd.prog 107 1 8 (.nilf) := ⟨by kernel_rfl, by kernel_rfl, rfl⟩
theorem ni_107 : notInt Tryd.prog 107 = true := by kernel_rfl
theorem ia_108 : isAggB Tryd.prog 108 = some false := by kernel_rfl
theorem sz_108 : sizeE Tryd.prog 108 = some 1 := by kernel_rfl
theorem ze_108 : zeroE Tryd.prog 108 = some (.nilf) := by kernel_rfl
theorem el_108 : El Tryd.prog 108 1 8 (.nilf) := ⟨by kernel_rfl, by kernel_rfl, rfl⟩
theorem ni_108 : notInt Tryd.prog 108 = true := by kernel_rfl
theorem ia_109 : isAggB Tryd.prog 109 = some true := by kernel_rfl
theorem sz_109 : sizeE Tryd.prog 109 = some 3 := by kernel_rfl
theorem ze_109 : zeroE Tryd.prog 109 = some (.agg [.int .i64 (0), .int .i64 (0), .int .i64 (0)]) := by kernel_rfl
theorem bs_109 (parts : List (Nat × AV)) : buildE Tryd.prog 109 parts = match fillE (fun i => some (i * 1, 1)) [.int .i64 (0), .int .i64 (0), .int .i64 (0)] parts with | some cs => some (.agg cs) | none => none := by kernel_rfl
theorem el_109 : El Tryd.prog 109 3 24 (.agg [.int .i64 (0), .int .i64 (0), .int .i64 (0)]) := ⟨by kernel_rfl, by kernel_rfl, rfl⟩
theorem ik_109 : idxKind Tryd.prog 109 = some (some 3, 1) := by kernel_rfl
theorem un_109 : Tryd.prog.underlying 109 = some (.array 3 2) := Tryd.underlying109
theorem ni_109 : notInt Tryd.prog 109 = true := by kernel_rfl
theorem ia_110 : isAggB Tryd.prog 110 = some true := by kernel_rfl
theorem sz_110 : sizeE Tryd.prog 110 = some 15 := by kernel_rfl
theorem ze_110 : zeroE Tryd.prog 110 = some (.agg [.int .i64 (0), .int .i64 (0), .int .i64 (0), .int .i64 (0), .int .i64 (0), .int .i64 (0), .int .i64 (0), .int .i64 (0), .int .i64 (0), .int .i64 (0), .int .i64 (0), .int .i64 (0), .int .i64 (0), .int .i64 (0), .int .i64 (0)]) := by kernel_rfl
theorem bs_110 (parts : List (Nat × AV)) : buildE Tryd.prog 110 parts = match fillE (fun i => some (i * 3, 3)) [.int .i64 (0), .int .i64 (0), .int .i64 (0), .int .i64 (0), .int .i64 (0), .int .i64 (0), .int .i64 (0), .int .i64 (0), .int .i64 (0), .int .i64 (0), .int .i64 (0), .int .i64 (0), .int .i64 (0), .int .i64 (0), .int .i64 (0)] parts with | some cs => some (.agg cs) | none => none := by kernel_rfl
theorem el_110 : El Tryd.prog 110 15 120 (.agg [.int .i64 (0), .int .i64 (0), .int .i64 (0), .int .i64 (0), .int .i64 (0), .int .i64 (0), .int .i64 (0), .int .i64 (0), .int .i64 (0), .int .i64 (0), .int .i64 (0), .int .i64 (0), .int .i64 (0), .int .i64 (0), .int .i64 (0)]) := ⟨by kernel_rfl, by kernel_rfl, rfl⟩
theorem ik_110 : idxKind Tryd.prog 110 = some (some 5, 3) := by kernel_rfl
theorem un_110 : Tryd.prog.underlying 110 = some (.array 5 109) := Tryd.underlying110
theorem ni_110 : notInt Tryd.prog 110 = true := by kernel_rfl
theorem ia_111 : isAggB Tryd.prog 111 = some true := by kernel_rfl
theorem sz_111 : sizeE Tryd.prog 111 = some 75 := by kernel_rfl
theorem ze_111 : zeroE Tryd.prog 111 = some (.agg [.int .i64 (0), .int .i64 (0), .int .i64 (0), .int .i64 (0), .int .i64 (0), .int .i64 (0), .int .i64 (0), .int .i64 (0), .int .i64 (0), .int .i64 (0), .int .i64 (0), .int .i64 (0), .int .i64 (0), .int .i64 (0), .int .i64 (0), .int .i64 (0), .int .i64 (0), .int .i64 (0), .int .i64 (0), .int .i64 (0), .int .i64 (0), .int .i64 (0), .int .i64 (0), .int .i64 (0), .int .i64 (0), .int .i64 (0), .int .i64 (0), .int .i64 (0), .int .i64 (0), .int .i64 (0), .int .i64 (0), .int .i64 (0), .int .i64 (0), .int .i64 (0), .int .i64 (0), .int .i64 (0), .int .i64 (0), .int .i64 (0), .int .i64 (0), .int .i64 (0), .int .i64 (0), .int .i64 (0), .int .i64 (0), .int .i64 (0), .int .i64 (0), .int .i64 (0), .int .i64 (0), .int .i64 (0), .int .i64 (0), .int .i64 (0), .int .i64 (0), .int .i64 (0), .int .i64 (0), .int .i64 (0), .int .i64 (0), .int .i64 (0), .int .i64 (0), .int .i64 (0), .int .i64 (0), .int .i64 (0), .int .i64 (0), .int .i64 (0), .int .i64 (0), .int .i64 (0), .int .i64 (0), .int .i64 (0), .int .i64 (0), .int .i64 (0), .int .i64 (0), .int .i64 (0), .int .i64 (0), .int .i64 (0), .int .i64 (0), .int .i64 (0), .int .i64 (0)]) := by kernel_rfl
theorem bs_111 (parts : List (Nat × AV)) : buildE Tryd.prog 111 parts = match fillE (fun i => some (i * 15, 15)) [.int .i64 (0), .int .i64 (0), .int .i64 (0), .int .i64 (0), .int .i64 (0), .int .i64 (0), .int .i64 (0), .int .i64 (0), .int .i64 (0), .int .i64 (0), .int .i64 (0), .int .i64 (0), .int .i64 (0), .int .i64 (0), .int .i64 (0), .int .i64 (0), .int .i64 (0), .int .i64 (0), .int .i64 (0), .int .i64 (0), .int .i64 (0), .int .i64 (0), .int .i64 (0), .int .i64 (0), .int .i64 (0), .int .i64 (0), .int .i64 (0), .int .i64 (0), .int .i64 (0), .int .i64 (0), .int .i64 (0), .int .i64 (0), .int .i64 (0), .int .i64 (0), .int .i64 (0), .int .i64 (0), .int .i64 (0), .int .i64 (0), .int .i64 (0), .int .i64 (0), .int .i64 (0), .int .i64 (0), .int .i64 (0), .int .i64 (0), .int .i64 (0), .int .i64 (0), .int .i64 (0), .int .i64 (0), .int .i64 (0), .int .i64 (0), .int .i64 (0), .int .i64 (0), .int .i64 (0), .int .i64 (0), .int .i64 (0), .int .i64 (0), .int .i64 (0), .int .i64 (0), .int .i64 (0), .int .i64 (0), .int .i64 (0), .int .i64 (0), .int .i64 (0), .int .i64 (0), .int .i64 (0), .int .i64 (0), .int .i64 (0), .int .i64 (0), .int .i64 (0), .int .i64 (0), .int .i64 (0), .int .i64 (0), .int .i64 (0), .int .i64 (0), .int .i64 (0)] parts with | some cs => some (.agg cs) | none => none := by kernel_rfl
theorem el_111 : El Tryd.prog 111 75 600 (.agg [.int .i64 (0), .int .i64 (0), .int .i64 (0), .int .i64 (0), .int .i64 (0), .int .i64 (0), .int .i64 (0), .int .i64 (0), .int .i64 (0), .int .i64 (0), .int .i64 (0), .int .i64 (0), .int .i64 (0), .int .i64 (0), .int .i64 (0), .int .i64 (0), .int .i64 (0), .int .i64 (0), .int .i64 (0), .int .i64 (0), .int .i64 (0), .int .i64 (0), .int .i64 (0), .int .i64 (0), .int .i64 (0), .int .i64 (0), .int .i64 (0), .int .i64 (0), .int .i64 (0), .int .i64 (0), .int .i64 (0), .int .i64 (0), .int .i64 (0), .int .i64 (0), .int .i64 (0), .int .i64 (0), .int .i64 (0), .int .i64 (0), .int .i64 (0), .int .i64 (0), .int .i64 (0), .int .i64 (0), .int .i64 (0), .int .i64 (0), .int .i64 (0), .int .i64 (0), .int .i64 (0), .int .i64 (0), .int .i64 (0), .int .i64 (0), .int .i64 (0), .int .i64 (0), .int .i64 (0), .int .i64 (0), .int .i64 (0), .int .i64 (0), .int .i64 (0), .int .i64 (0), .int .i64 (0), .int .i64 (0), .int .i64 (0), .int .i64 (0), .int .i64 (0), .int .i64 (0), .int .i64 (0), .int .i64 (0), .int .i64 (0), .int .i64 (0), .int .i64 (0), .int .i64 (0), .int .i64 (0), .int .i64 (0), .int .i64 (0), .int .i64 (0), .int .i64 (0)]) := ⟨by kernel_rfl, by kernel_rfl, rfl⟩
theorem ik_111 : idxKind Tryd.prog 111 = some (some 5, 15) := by kernel_rfl
theorem un_111 : Tryd.prog.underlying 111 = some (.array 5 110) := Tryd.underlying111
theorem ni_111 : notInt Tryd.prog 111 = true := by kernel_rfl
theorem ia_112 : isAggB Tryd.prog 112 = some true := by kernel_rfl
theorem sz_112 : sizeE Tryd.prog 112 = some 75 := by kernel_rfl
theorem ze_112 : zeroE Tryd.prog 112 = some (.agg [.int .i64 (0), .int .i64 (0), .int .i64 (0), .int .i64 (0), .int .i64 (0), .int .i64 (0), .int .i64 (0), .int .i64 (0), .int .i64 (0), .int .i64 (0), .int .i64 (0), .int .i64 (0), .int .i64 (0), .int .i64 (0), .int .i64 (0), .int .i64 (0), .int .i64 (0), .int .i64 (0), .int .i64 (0), .int .i64 (0), .int .i64 (0), .int .i64 (0), .int .i64 (0), .int .i64 (0), .int .i64 (0), .int .i64 (0), .int .i64 (0), .int .i64 (0), .int .i64 (0), .int .i64 (0), .int .i64 (0), .int .i64 (0), .int .i64 (0), .int .i64 (0), .int .i64 (0), .int .i64 (0), .int .i64 (0), .int .i64 (0), .int .i64 (0), .int .i64 (0), .int .i64 (0), .int .i64 (0), .int .i64 (0), .int .i64 (0), .int .i64 (0), .int .i64 (0), .int .i64 (0), .int .i64 (0), .int .i64 (0), .int .i64 (0), .int .i64 (0), .int .i64 (0), .int .i64 (0), .int .i64 (0), .int .i64 (0), .int .i64 (0), .int .i64 (0), .int .i64 (0), .int .i64 (0), .int .i64 (0), .int .i64 (0), .int .i64 (0), .int .i64 (0), .int .i64 (0), .int .i64 (0), .int .i64 (0), .int .i64 (0), .int .i64 (0), .int .i64 (0), .int .i64 (0), .int .i64 (0), .int .i64 (0), .int .i64 (0), .int .i64 (0), .int .i64 (0)]) := by kernel_rfl
theorem bs_112 (parts : List (Nat × AV)) : buildE Tryd.prog 112 parts = match fillE (fun i => some (i * 15, 15)) [.int .i64 (0), .int .i64 (0), .int .i64 (0), .int .i64 (0), .int .i64 (0), .int .i64 (0), .int .i64 (0), .int .i64 (0), .int .i64 (0), .int .i64 (0), .int .i64 (0), .int .i64 (0), .int .i64 (0), .int .i64 (0), .int .i64 (0), .int .i64 (0), .int .i64 (0), .int .i64 (0), .int .i64 (0), .int .i64 (0), .int .i64 (0), .int .i64 (0), .int .i64 (0), .int .i64 (0), .int .i64 (0), .int .i64 (0), .int .i64 (0), .int .i64 (0), .int .i64 (0), .int .i64 (0), .int .i64 (0), .int .i64 (0), .int .i64 (0), .int .i64 (0), .int .i64 (0), .int .i64 (0), .int .i64 (0), .int .i64 (0), .int .i64 (0), .int .i64 (0), .int .i64 (0), .int .i64 (0), .int .i64 (0), .int .i64 (0), .int .i64 (0), .int .i64 (0), .int .i64 (0), .int .i64 (0), .int .i64 (0), .int .i64 (0), .int .i64 (0), .int .i64 (0), .int .i64 (0), .int .i64 (0), .int .i64 (0), .int .i64 (0), .int .i64 (0), .int .i64 (0), .int .i64 (0), .int .i64 (0), .int .i64 (0), .int .i64 (0), .int .i64 (0), .int .i64 (0), .int .i64 (0), .int .i64 (0), .int .i64 (0), .int .i64 (0), .int .i64 (0), .int .i64 (0), .int .i64 (0), .int .i64 (0), .int .i64 (0), .int .i64 (0), .int .i64 (0)] parts with | some cs => some (.agg cs) | none => none := by kernel_rfl
theorem el_112 : El Tryd.prog 112 75 600 (.agg [.int .i64 (0), .int .i64 (0), .int .i64 (0), .int .i64 (0), .int .i64 (0), .int .i64 (0), .int .i64 (0), .int .i64 (0), .int .i64 (0), .int .i64 (0), .int .i64 (0), .int .i64 (0), .int .i64 (0), .int .i64 (0), .int .i64 (0), .int .i64 (0), .int .i64 (0), .int .i64 (0), .int .i64 (0), .int .i64 (0), .int .i64 (0), .int .i64 (0), .int .i64 (0), .int .i64 (0), .int .i64 (0), .int .i64 (0), .int .i64 (0), .int .i64 (0), .int .i64 (0), .int .i64 (0), .int .i64 (0), .int .i64 (0), .int .i64 (0), .int .i64 (0), .int .i64 (0), .int .i64 (0), .int .i64 (0), .int .i64 (0), .int .i64 (0), .int .i64 (0), .int .i64 (0), .int .i64 (0), .int .i64 (0), .int .i64 (0), .int .i64 (0), .int .i64 (0), .int .i64 (0), .int .i64 (0), .int .i64 (0), .int .i64 (0), .int .i64 (0), .int .i64 (0), .int .i64 (0), .int .i64 (0), .int .i64 (0), .int .i64 (0), .int .i64 (0), .int .i64 (0), .int .i64 (0), .int .i64 (0), .int .i64 (0), .int .i64 (0), .int .i64 (0), .int .i64 (0), .int .i64 (0), .int .i64 (0), .int .i64 (0), .int .i64 (0), .int .i64 (0), .int .i64 (0), .int .i64 (0), .int .i64 (0), .int .i64 (0), .int .i64 (0), .int .i64 (0)]) := ⟨by kernel_rfl, by kernel_rfl, rfl⟩
theorem ik_112 : idxKind Tryd.prog 112 = some (some 5, 15) := by kernel_rfl
theorem un_112 : Tryd.prog.underlying 112 = some (.array 5 110) := Tryd.underlying112
theorem ni_112 : notInt Tryd.prog 112 = true := by kernel_rfl
theorem ia_113 : isAggB Tryd.prog 113 = some false := by kernel_rfl
theorem sz_113 : sizeE Tryd.prog 113 = some 1 := by kernel_rfl
theorem ze_113 : zeroE Tryd.prog 113 = some (.nilf) := by kernel_rfl
theorem el_113 : El Tryd.prog 113 1 8 (.nilf) := ⟨by kernel_rfl, by kernel_rfl, rfl⟩
theorem ni_113 : notInt Tryd.prog 113 = true := by kernel_rfl
theorem ia_114 : isAggB Tryd.prog 114 = some false := by kernel_rfl
theorem sz_114 : sizeE Tryd.prog 114 = some 1 := by kernel_rfl
theorem ze_114 : zeroE Tryd.prog 114 = some (.nilf) := by kernel_rfl
theorem el_114 : El Tryd.prog 114 1 8 (.nilf) := ⟨by kernel_rfl, by kernel_rfl, rfl⟩
theorem ni_114 : notInt Tryd.prog 114 = true := by kernel_rfl
theorem ia_115 : isAggB Tryd.prog 115 = some false := by kernel_rfl
theorem sz_115 : sizeE Tryd.prog 115 = some 1 := by kernel_rfl
theorem ze_115 : zeroE Tryd.prog 115 = some (.nilf) := by kernel_rfl
theorem el_115 : El Tryd.prog 115 1 8 (.nilf) := ⟨by kernel_rfl, by kernel_rfl, rfl⟩
theorem ni_115 : notInt Tryd.prog 115 = true := by kernel_rfl
theorem ia_116 : isAggB Tryd.prog 116 = some false := by kernel_rfl
theorem sz_116 : sizeE Tryd.prog 116 = some 1 := by kernel_rfl
theorem ze_116 : zeroE Tryd.prog 116 = some (.nilf) := by kernel_rfl
theorem el_116 : El Tryd.prog 116 1 8 (.nilf) := ⟨by kernel_rfl, by kernel_rfl, rfl⟩
theorem ni_116 : notInt Tryd.prog 116 = true := by kernel_rfl
theorem ia_117 : isAggB Tryd.prog 117 = some false := by kernel_rfl
theorem sz_117 : sizeE Tryd.prog 117 = some 1 := by kernel_rfl
theorem ze_117 : zeroE Tryd.prog 117 = some (.nilf) := by kernel_rfl
theorem el_117 : El Tryd.prog 117 1 8 (.nilf) := ⟨by kernel_rfl, by kernel_rfl, rfl⟩
theorem ni_117 : notInt Tryd.prog 117 = true := by kernel_rfl
theorem ia_118 : isAggB Tryd.prog 118 = some false := by kernel_rfl
theorem sz_118 : sizeE Tryd.prog 118 = some 1 := by kernel_rfl
theorem ze_118 : zeroE Tryd.prog 118 = some (.nilf) := by kernel_rfl
theorem el_118 : El Tryd.prog 118 1 8 (.nilf) := ⟨by kernel_rfl, by kernel_rfl, rfl⟩
theorem ni_118 : notInt Tryd.prog 118 = true := by kernel_rfl
theorem ia_119 : isAggB Tryd.prog 119 = some false := by kernel_rfl
theorem sz_119 : sizeE Tryd.prog 119 = some 1 := by kernel_rfl
theorem ze_119 : zeroE Tryd.prog 119 = some (.nilf) := by kernel_rfl
theorem el_119 : El Tryd.prog 119 1 8 (.nilf) := ⟨by kernel_rfl, by kernel_rfl, rfl⟩
theorem ni_119 : notInt Tryd.prog 119 = true := by kernel_rfl
theorem ia_120 : isAggB Tryd.prog 120 = some false := by kernel_rfl
theorem sz_120 : sizeE Tryd.prog 120 = some 1 := by kernel_rfl
theorem ze_120 : zeroE Tryd.prog 120 = some (.nilf) := by kernel_rfl
theorem el_120 : El Tryd.prog 120 1 8 (.nilf) := ⟨by kernel_rfl, by kernel_rfl, rfl⟩
theorem ni_120 : notInt Tryd.prog 120 = true := by kernel_rfl
theorem ia_121 : isAggB Tryd.prog 121 = some false := by kernel_rfl
theorem sz_121 : sizeE Tryd.prog 121 = some 1 := by kernel_rfl
theorem ze_121 : zeroE Tryd.prog 121 = some (.nilf) := by kernel_rfl
theorem el_121 : El Tryd.prog 121 1 8 (.nilf) := ⟨by kernel_rfl, by kernel_rfl, rfl⟩
theorem ni_121 : notInt Tryd.prog 121 = true := by kernel_rfl
theorem ia_122 : isAggB Tryd.prog 122 = some false := by kernel_rfl
theorem sz_122 : sizeE Tryd.prog 122 = some 1 := by kernel_rfl
theorem ze_122 : zeroE Tryd.prog 122 = some (.nilf) := by kernel_rfl
theorem el_122 : El Tryd.prog 122 1 8 (.nilf) := ⟨by kernel_rfl, by kernel_rfl, rfl⟩
theorem ni_122 : notInt Tryd.prog 122 = true := by kernel_rfl
theorem ia_123 : isAggB Tryd.prog 123 = some false := by kernel_rfl
theorem sz_123 : sizeE Tryd.prog 123 = some 1 := by kernel_rfl
theorem ze_123 : zeroE Tryd.prog 123 = some (.int .u64 (0)) := by kernel_rfl
theorem el_123 : El Tryd.prog 123 1 8 (.int .u64 (0)) := ⟨by kernel_rfl, by kernel_rfl, rfl⟩
theorem un_123 : Tryd.prog.underlying 123 = some (.int .u64) := Tryd.underlying123
theorem ia_124 : isAggB Tryd.prog 124 = some false := by kernel_rfl
theorem sz_124 : sizeE Tryd.prog 124 = some 1 := by kernel_rfl
theorem ni_124 : notInt Tryd.prog 124 = true := by kernel_rfl
theorem ia_125 : isAggB Tryd.prog 125 = some false := by kernel_rfl
theorem sz_125 : sizeE Tryd.prog 125 = some 1 := by kernel_rfl
theorem ze_125 : zeroE Tryd.prog 125 = some (.nilf) := by kernel_rfl
theorem el_125 : El Tryd.prog 125 1 8 (.nilf) := ⟨by kernel_rfl, by kernel_rfl, rfl⟩
theorem ni_125 : notInt Tryd.prog 125 = true := by kernel_rfl
theorem ia_126 : isAggB Tryd.prog 126 = some false := by kernel_rfl
theorem sz_126 : sizeE Tryd.prog 126 = some 1 := by kernel_rfl
theorem ze_126 : zeroE Tryd.prog 126 = some (.int .u32 (0)) := by kernel_rfl
theorem el_126 : El Tryd.prog 126 1 4 (.int .u32 (0)) := ⟨by kernel_rfl, by kernel_rfl, rfl⟩
theorem un_126 : Tryd.prog.underlying 126 = some (.int .u32) := Tryd.underlying126
theorem ia_127 : isAggB Tryd.prog 127 = some false := by kernel_rfl
theorem sz_127 : sizeE Tryd.prog 127 = some 1 := by kernel_rfl
theorem ni_127 : notInt Tryd.prog 127 = true := by kernel_rfl
theorem ia_128 : isAggB Tryd.prog 128 = some false := by kernel_rfl
theorem sz_128 : sizeE Tryd.prog 128 = some 1 := by kernel_rfl
theorem ze_128 : zeroE Tryd.prog 128 = some (.nilf) := by kernel_rfl
theorem el_128 : El Tryd.prog 128 1 8 (.nilf) := ⟨by kernel_rfl, by kernel_rfl, rfl⟩
theorem ni_128 : notInt Tryd.prog 128 = true := by kernel_rfl
theorem ia_129 : isAggB Tryd.prog 129 = some false := by kernel_rfl
theorem sz_129 : sizeE Tryd.prog 129 = some 1 := by kernel_rfl
theorem ze_129 : zeroE Tryd.prog 129 = some (.int .u64 (0)) := by kernel_rfl
theorem el_129 : El Tryd.prog 129 1 8 (.int .u64 (0)) := ⟨by kernel_rfl, by kernel_rfl, rfl⟩
theorem un_129 : Tryd.prog.underlying 129 = some (.int .u64) := Tryd.underlying129
theorem ia_130 : isAggB Tryd.prog 130 = some false := by kernel_rfl
theorem sz_130 : sizeE Tryd.prog 130 = some 1 := by kernel_rfl
theorem ni_130 : notInt Tryd.prog 130 = true := by kernel_rfl
theorem ia_131 : isAggB Tryd.prog 131 = some false := by kernel_rfl
theorem sz_131 : sizeE Tryd.prog 131 = some 1 := by kernel_rfl
theorem ze_131 : zeroE Tryd.prog 131 = some (.nilf) := by kernel_rfl
theorem el_131 : El Tryd.prog 131 1 8 (.nilf) := ⟨by kernel_rfl, by kernel_rfl, rfl⟩
theorem ni_131 : notInt Tryd.prog 131 = true := by kernel_rfl
theorem ia_132 : isAggB Tryd.prog 132 = some false := by kernel_rfl
theorem sz_132 : sizeE Tryd.prog 132 = some 1 := by kernel_rfl
theorem ze_132 : zeroE Tryd.prog 132 = some (.nilf) := by kernel_rfl
theorem el_132 : El Tryd.prog 132 1 8 (.nilf) := ⟨by kernel_rfl, by kernel_rfl, rfl⟩
theorem ni_132 : notInt Tryd.prog 132 = true := by kernel_rfl
theorem ia_133 : isAggB Tryd.prog 133 = some true := by kernel_rfl
theorem sz_133 : sizeE Tryd.prog 133 = some 4 := by kernel_rfl
theorem ze_133 : zeroE Tryd.prog 133 = some (.agg [.nilp, .nilp, .nilp, .str ⟨#[]⟩]) := by kernel_rfl
theorem fo_133_0 : fieldOff Tryd.prog 133 0 = some 0 := by kernel_rfl
theorem fo_133_1 : fieldOff Tryd.prog 133 1 = some 1 := by kernel_rfl
theorem fo_133_2 : fieldOff Tryd.prog 133 2 = some 2 := by kernel_rfl
theorem fo_133_3 : fieldOff Tryd.prog 133 3 = some 3 := by kernel_rfl
theorem bs_133 (parts : List (Nat × AV)) : buildE Tryd.prog 133 parts = match fillE (fun i => [(0, 1), (1, 1), (2, 1), (3, 1)][i]?) [.nilp, .nilp, .nilp, .str ⟨#[]⟩] parts with | some cs => some (.agg cs) | none => none := by kernel_rfl
theorem el_133 : El Tryd.prog 133 4 40 (.agg [.nilp, .nilp, .nilp, .str ⟨#[]⟩]) := ⟨by kernel_rfl, by kernel_rfl, rfl⟩
theorem ni_133 : notInt Tryd.prog 133 = true := by kernel_rfl
theorem ia_134 : isAggB Tryd.prog 134 = some true := by kernel_rfl
theorem sz_134 : sizeE Tryd.prog 134 = some 4 := by kernel_rfl
theorem ze_134 : zeroE Tryd.prog 134 = some (.agg [.nilp, .nilp, .nilp, .str ⟨#[]⟩]) := by kernel_rfl
theorem fo_134_0 : fieldOff Tryd.prog 134 0 = some 0 := by kernel_rfl
theorem fo_134_1 : fieldOff Tryd.prog 134 1 = some 1 := by kernel_rfl
theorem fo_134_2 : fieldOff Tryd.prog 134 2 = some 2 := by kernel_rfl
theorem fo_134_3 : fieldOff Tryd.prog 134 3 = some 3 := by kernel_rfl
theorem bs_134 (parts : List (Nat × AV)) : buildE Tryd.prog 134 parts = match fillE (fun i => [(0, 1), (1, 1), (2, 1), (3, 1)][i]?) [.nilp, .nilp, .nilp, .str ⟨#[]⟩] parts with | some cs => some (.agg cs) | none => none := by kernel_rfl
theorem el_134 : El Tryd.prog 134 4 40 (.agg [.nilp, .nilp, .nilp, .str ⟨#[]⟩]) := ⟨by kernel_rfl, by kernel_rfl, rfl⟩
theorem ni_134 : notInt Tryd.prog 134 = true := by kernel_rfl
theorem ia_135 : isAggB Tryd.prog 135 = some true := by kernel_rfl
theorem sz_135 : sizeE Tryd.prog 135 = some 0 := by kernel_rfl
theorem ze_135 : zeroE Tryd.prog 135 = some (.agg []) := by kernel_rfl
theorem bs_135 (parts : List (Nat × AV)) : buildE Tryd.prog 135 parts = match fillE (fun i => some (i * 1, 1)) [] parts with | some cs => some (.agg cs) | none => none := by kernel_rfl
theorem el_135 : El Tryd.prog 135 0 0 (.agg []) := ⟨by kernel_rfl, by kernel_rfl, rfl⟩
theorem ik_135 : idxKind Tryd.prog 135 = some (some 0, 1) := by kernel_rfl
theorem un_135 : Tryd.prog.underlying 135 = some (.array 0 16) := Tryd.underlying135
theorem ni_135 : notInt Tryd.prog 135 = true := by kernel_rfl
theorem ia_136 : isAggB Tryd.prog 136 = some true := by kernel_rfl
theorem sz_136 : sizeE Tryd.prog 136 = some 0 := by kernel_rfl
theorem ze_136 : zeroE Tryd.prog 136 = some (.agg []) := by kernel_rfl
theorem bs_136 (parts : List (Nat × AV)) : buildE Tryd.prog 136 parts = match fillE (fun i => [(0, 0)][i]?) [] parts with | some cs => some (.agg cs) | none => none := by kernel_rfl
theorem el_136 : El Tryd.prog 136 0 0 (.agg []) := ⟨by kernel_rfl, by kernel_rfl, rfl⟩
theorem ni_136 : notInt Tryd.prog 136 = true := by kernel_rfl
theorem ia_137 : isAggB Tryd.prog 137 = some true := by kernel_rfl
theorem sz_137 : sizeE Tryd.prog 137 = some 0 := by kernel_rfl
theorem ze_137 : zeroE Tryd.prog 137 = some (.agg []) := by kernel_rfl
theorem bs_137 (parts : List (Nat × AV)) : buildE Tryd.prog 137 parts = match fillE (fun i => [(0, 0)][i]?) [] parts with | some cs => some (.agg cs) | none => none := by kernel_rfl
theorem el_137 : El Tryd.prog 137 0 0 (.agg []) := ⟨by kernel_rfl, by kernel_rfl, rfl⟩
theorem ni_137 : notInt Tryd.prog 137 = true := by kernel_rfl
theorem ia_138 : isAggB Tryd.prog 138 = some false := by kernel_rfl
theorem sz_138 : sizeE Tryd.prog 138 = some 1 := by kernel_rfl
theorem ze_138 : zeroE Tryd.prog 138 = some (.int .u8 (0)) := by kernel_rfl
theorem el_138 : El Tryd.prog 138 1 1 (.int .u8 (0)) := ⟨by kernel_rfl, by kernel_rfl, rfl⟩
theorem un_138 : Tryd.prog.underlying 138 = some (.int .u8) := Tryd.underlying138
theorem ia_139 : isAggB Tryd.prog 139 = some false := by kernel_rfl
theorem sz_139 : sizeE Tryd.prog 139 = some 1 := by kernel_rfl
theorem ze_139 : zeroE Tryd.prog 139 = some (.int .u8 (0)) := by kernel_rfl
theorem el_139 : El Tryd.prog 139 1 1 (.int .u8 (0)) := ⟨by kernel_rfl, by kernel_rfl, rfl⟩
theorem un_139 : Tryd.prog.underlying 139 = some (.int .u8) := Tryd.underlying139
theorem ia_140 : isAggB Tryd.prog 140 = some false := by kernel_rfl
theorem sz_140 : sizeE Tryd.prog 140 = some 1 := by kernel_rfl
theorem ze_140 : zeroE Tryd.prog 140 = some (.nilf) := by kernel_rfl
theorem el_140 : El Tryd.prog 140 1 8 (.nilf) := ⟨by kernel_rfl, by kernel_rfl, rfl⟩
theorem ni_140 : notInt Tryd.prog 140 = true := by kernel_rfl
theorem ia_141 : isAggB Tryd.prog 141 = some false := by kernel_rfl
theorem sz_141 : sizeE Tryd.prog 141 = some 1 := by kernel_rfl
theorem ze_141 : zeroE Tryd.prog 141 = some (.nilp) := by kernel_rfl
theorem el_141 : El Tryd.prog 141 1 8 (.nilp) := ⟨by kernel_rfl, by kernel_rfl, rfl⟩
theorem ni_141 : notInt Tryd.prog 141 = true := by kernel_rfl
theorem ia_142 : isAggB Tryd.prog 142 = some false := by kernel_rfl
theorem sz_142 : sizeE Tryd.prog 142 = some 1 := by kernel_rfl
theorem ze_142 : zeroE Tryd.prog 142 = some (.int .i32 (0)) := by kernel_rfl
theorem el_142 : El Tryd.prog 142 1 4 (.int .i32 (0)) := ⟨by kernel_rfl, by kernel_rfl, rfl⟩
theorem un_142 : Tryd.prog.underlying 142 = some (.int .i32) := Tryd.underlying142
theorem ia_143 : isAggB Tryd.prog 143 = some false := by kernel_rfl
theorem sz_143 : sizeE Tryd.prog 143 = some 1 := by kernel_rfl
theorem ze_143 : zeroE Tryd.prog 143 = some (.int .i32 (0)) := by kernel_rfl
theorem el_143 : El Tryd.prog 143 1 4 (.int .i32 (0)) := ⟨by kernel_rfl, by kernel_rfl, rfl⟩
theorem un_143 : Tryd.prog.underlying 143 = some (.int .i32) := Tryd.underlying143
theorem ia_144 : isAggB Tryd.prog 144 = some true := by kernel_rfl
theorem sz_144 : sizeE Tryd.prog 144 = some 11 := by kernel_rfl
theorem ze_144 : zeroE Tryd.prog 144 = some (.agg [.int .u64 (0), .int .u64 (0), .int .u32 (0), .int .u8 (0), .int .u8 (0), .int .u8 (0), .int .u8 (0), .nilf, .nilp, .int .i32 (0), .int .i32 (0)]) := by kernel_rfl
theorem fo_144_0 : fieldOff Tryd.prog 144 0 = some 0 := by kernel_rfl
theorem fo_144_1 : fieldOff Tryd.prog 144 1 = some 1 := by kernel_rfl
theorem fo_144_2 : fieldOff Tryd.prog 144 2 = some 2 := by kernel_rfl
theorem fo_144_3 : fieldOff Tryd.prog 144 3 = some 3 := by kernel_rfl
theorem fo_144_4 : fieldOff Tryd.prog 144 4 = some 4 := by kernel_rfl
theorem fo_144_5 : fieldOff Tryd.prog 144 5 = some 5 := by kernel_rfl
theorem fo_144_6 : fieldOff Tryd.prog 144 6 = some 6 := by kernel_rfl
theorem fo_144_7 : fieldOff Tryd.prog 144 7 = some 7 := by kernel_rfl
theorem fo_144_8 : fieldOff Tryd.prog 144 8 = some 8 := by kernel_rfl
theorem fo_144_9 : fieldOff Tryd.prog 144 9 = some 9 := by kernel_rfl
theorem fo_144_10 : fieldOff Tryd.prog 144 10 = some 10 := by kernel_rfl
theorem bs_144 (parts : List (Nat × AV)) : buildE Tryd.prog 144 parts = match fillE (fun i => [(0, 1), (1, 1), (2, 1), (3, 1), (4, 1), (5, 1), (6, 1), (7, 1), (8, 1), (9, 1), (10, 1)][i]?) [.int .u64 (0), .int .u64 (0), .int .u32 (0), .int .u8 (0), .int .u8 (0), .int .u8 (0), .int .u8 (0), .nilf, .nilp, .int .i32 (0), .int .i32 (0)] parts with | some cs => some (.agg cs) | none => none := by kernel_rfl
theorem el_144 : El Tryd.prog 144 11 48 (.agg [.int .u64 (0), .int .u64 (0), .int .u32 (0), .int .u8 (0), .int .u8 (0), .int .u8 (0), .int .u8 (0), .nilf, .nilp, .int .i32 (0), .int .i32 (0)]) := ⟨by kernel_rfl, by kernel_rfl, rfl⟩
theorem ni_144 : notInt Tryd.prog 144 = true := by kernel_rfl
theorem ia_145 : isAggB Tryd.prog 145 = some true := by kernel_rfl
theorem sz_145 : sizeE Tryd.prog 145 = some 11 := by kernel_rfl
theorem ze_145 : zeroE Tryd.prog 145 = some (.agg [.int .u64 (0), .int .u64 (0), .int .u32 (0), .int .u8 (0), .int .u8 (0), .int .u8 (0), .int .u8 (0), .nilf, .nilp, .int .i32 (0), .int .i32 (0)]) := by kernel_rfl
theorem fo_145_0 : fieldOff Tryd.prog 145 0 = some 0 := by kernel_rfl
theorem fo_145_1 : fieldOff Tryd.prog 145 1 = some 1 := by kernel_rfl
theorem fo_145_2 : fieldOff Tryd.prog 145 2 = some 2 := by kernel_rfl
theorem fo_145_3 : fieldOff Tryd.prog 145 3 = some 3 := by kernel_rfl
theorem fo_145_4 : fieldOff Tryd.prog 145 4 = some 4 := by kernel_rfl
theorem fo_145_5 : fieldOff Tryd.prog 145 5 = some 5 := by kernel_rfl
theorem fo_145_6 : fieldOff Tryd.prog 145 6 = some 6 := by kernel_rfl
theorem fo_145_7 : fieldOff Tryd.prog 145 7 = some 7 := by kernel_rfl
theorem fo_145_8 : fieldOff Tryd.prog 145 8 = some 8 := by kernel_rfl
theorem fo_145_9 : fieldOff Tryd.prog 145 9 = some 9 := by kernel_rfl
theorem fo_145_10 : fieldOff Tryd.prog 145 10 = some 10 := by kernel_rfl
theorem bs_145 (parts : List (Nat × AV)) : buildE Tryd.prog 145 parts = match fillE (fun i => [(0, 1), (1, 1), (2, 1), (3, 1), (4, 1), (5, 1), (6, 1), (7, 1), (8, 1), (9, 1), (10, 1)][i]?) [.int .u64 (0), .int .u64 (0), .int .u32 (0), .int .u8 (0), .int .u8 (0), .int .u8 (0), .int .u8 (0), .nilf, .nilp, .int .i32 (0), .int .i32 (0)] parts with | some cs => some (.agg cs) | none => none := by kernel_rfl
theorem el_145 : El Tryd.prog 145 11 48 (.agg [.int .u64 (0), .int .u64 (0), .int .u32 (0), .int .u8 (0), .int .u8 (0), .int .u8 (0), .int .u8 (0), .nilf, .nilp, .int .i32 (0), .int .i32 (0)]) := ⟨by kernel_rfl, by kernel_rfl, rfl⟩
theorem ni_145 : notInt Tryd.prog 145 = true := by kernel_rfl
theorem ia_146 : isAggB Tryd.prog 146 = some false := by kernel_rfl
theorem sz_146 : sizeE Tryd.prog 146 = some 1 := by kernel_rfl
theorem ze_146 : zeroE Tryd.prog 146 = some (.nilp) := by kernel_rfl
theorem el_146 : El Tryd.prog 146 1 8 (.nilp) := ⟨by kernel_rfl, by kernel_rfl, rfl⟩
theorem ni_146 : notInt Tryd.prog 146 = true := by kernel_rfl
theorem pb_2 : plainB Tryd.prog 2 = true := by kernel_rfl
theorem pb_3 : plainB Tryd.prog 3 = true := by kernel_rfl
theorem pb_4 : plainB Tryd.prog 4 = true := by kernel_rfl
theorem pb_5 : plainB Tryd.prog 5 = true := by kernel_rfl
theorem pb_6 : plainB Tryd.prog 6 = true := by kernel_rfl
theorem pb_7 : plainB Tryd.prog 7 = true := by kernel_rfl
theorem pb_8 : plainB Tryd.prog 8 = true := by kernel_rfl
theorem pb_9 : plainB Tryd.prog 9 = true := by kernel_rfl
theorem pb_10 : plainB Tryd.prog 10 = true := by kernel_rfl
theorem pb_11 : plainB Tryd.prog 11 = true := by kernel_rfl
theorem pb_12 : plainB Tryd.prog 12 = true := by kernel_rfl
theorem pb_13 : plainB Tryd.prog 13 = true := by kernel_rfl
theorem pb_14 : plainB Tryd.prog 14 = true := by kernel_rfl
theorem pb_15 : plainB Tryd.prog 15 = true := by kernel_rfl
theorem pb_16 : plainB Tryd.prog 16 = true := by kernel_rfl
theorem pb_17 : plainB Tryd.prog 17 = true := by kernel_rfl
theorem pb_18 : plainB Tryd.prog 18 = true := by kernel_rfl
theorem pb_19 : plainB Tryd.prog 19 = true := by kernel_rfl
theorem pb_20 : plainB Tryd.prog 20 = true := by kernel_rfl
theorem pb_21 : plainB Tryd.prog 21 = true := by kernel_rfl
theorem pb_22 : plainB Tryd.prog 22 = true := by kernel_rfl
theorem pb_23 : plainB Tryd.prog 23 = true := by kernel_rfl
theorem pb_24 : plainB Tryd.prog 24 = true := by kernel_rfl
theorem pb_25 : plainB Tryd.prog 25 = true := by kernel_rfl
theorem pb_26 : plainB Tryd.prog 26 = true := by kernel_rfl
theorem pb_27 : plainB Tryd.prog 27 = true := by kernel_rfl
theorem pb_28 : plainB Tryd.prog 28 = true := by kernel_rfl
theorem pb_29 : plainB Tryd.prog 29 = true := by kernel_rfl
theorem pb_30 : plainB Tryd.prog 30 = true := by kernel_rfl
theorem pb_31 : plainB Tryd.prog 31 = true := by kernel_rfl
theorem pb_32 : plainB Tryd.prog 32 = true := by kernel_rfl
theorem pb_33 : plainB Tryd.prog 33 = true := by kernel_rfl
theorem pb_34 : plainB Tryd.prog 34 = true := by kernel_rfl
theorem pb_35 : plainB Tryd.prog 35 = true := by kernel_rfl
theorem pb_36 : plainB Tryd.prog 36 = true := by kernel_rfl
theorem pb_37 : plainB Tryd.prog 37 = true := by kernel_rfl
theorem pb_38 : plainB Tryd.prog 38 = true := by kernel_rfl
theorem pb_39 : plainB Tryd.prog 39 = true := by kernel_rfl
theorem pb_40 : plainB Tryd.prog 40 = true := by kernel_rfl
theorem pb_41 : plainB Tryd.prog 41 = true := by kernel_rfl
theorem pb_42 : plainB Tryd.prog 42 = true := by kernel_rfl
theorem pb_43 : plainB Tryd.prog 43 = true := by kernel_rfl
theorem pb_44 : plainB Tryd.prog 44 = true := by kernel_rfl
theorem pb_45 : plainB Tryd.prog 45 = true := by kernel_rfl
theorem pb_46 : plainB Tryd.prog 46 = true := by kernel_rfl
theorem pb_47 : plainB Tryd.prog 47 = true := by kernel_rfl
theorem pb_48 : plainB Tryd.prog 48 = true := by kernel_rfl
theorem pb_49 : plainB Tryd.prog 49 = true := by kernel_rfl
theorem pb_50 : plainB Tryd.prog 50 = true := by kernel_rfl
theorem pb_51 : plainB Tryd.prog 51 = true := by kernel_rfl
theorem pb_52 : plainB Tryd.prog 52 = true := by kernel_rfl
theorem pb_53 : plainB Tryd.prog 53 = true := by kernel_rfl
theorem pb_54 : plainB Tryd.prog 54 = true := by kernel_rfl
theorem pb_55 : plainB Tryd.prog 55 = true := by kernel_rfl
theorem pb_56 : plainB Tryd.prog 56 = true := by kernel_rfl
theorem pb_57 : plainB Tryd.prog 57 = true := by kernel_rfl
theorem pb_58 : plainB Tryd.prog 58 = true := by kernel_rfl
theorem pb_59 : plainB Tryd.prog 59 = true := by kernel_rfl
theorem pb_60 : plainB Tryd.prog 60 = true := by kernel_rfl
theorem pb_61 : plainB Tryd.prog 61 = true := by kernel_rfl
theorem pb_62 : plainB Tryd.prog 62 = true := by kernel_rfl
theorem pb_63 : plainB Tryd.prog 63 = true := by kernel_rfl
theorem pb_64 : plainB Tryd.prog 64 = true := by kernel_rfl
theorem pb_65 : plainB Tryd.prog 65 = true := by kernel_rfl
theorem pb_66 : plainB Tryd.prog 66 = true := by kernel_rfl
theorem pb_67 : plainB Tryd.prog 67 = true := by kernel_rfl
theorem pb_68 : plainB Tryd.prog 68 = true := by kernel_rfl
theorem pb_69 : plainB Tryd.prog 69 = true := by kernel_rfl
theorem pb_70 : plainB Tryd.prog 70 = true := by kernel_rfl
theorem pb_71 : plainB Tryd.prog 71 = true := by kernel_rfl
theorem pb_72 : plainB Tryd.prog 72 = true := by kernel_rfl
theorem pb_73 : plainB Tryd.prog 73 = true := by kernel_rfl
theorem pb_74 : plainB Tryd.prog 74 = true := by kernel_rfl
theorem pb_75 : plainB Tryd.prog 75 = true := by kernel_rfl
theorem pb_76 : plainB Tryd.prog 76 = true := by kernel_rfl
theorem pb_77 : plainB Tryd.prog 77 = true := by kernel_rfl
theorem pb_78 : plainB Tryd.prog 78 = true := by kernel_rfl
theorem pb_79 : plainB Tryd.prog 79 = true := by kernel_rfl
theorem pb_80 : plainB Tryd.prog 80 = true := by kernel_rfl
theorem pb_81 : plainB Tryd.prog 81 = true := by kernel_rfl
theorem pb_82 : plainB Tryd.prog 82 = true := by kernel_rfl
theorem pb_83 : plainB Tryd.prog 83 = true := by kernel_rfl
theorem pb_84 : plainB Tryd.prog 84 = true := by kernel_rfl
theorem pb_85 : plainB Tryd.prog 85 = true := by kernel_rfl
theorem pb_105 : plainB Tryd.prog 105 = true := by kernel_rfl
end Go.Proofs.YtghondkiondeaaaDoor
end

/- EvL8 -/
section
/-
  A SLICE THAT GROWS.
-/
namespace Go.Ev
section
variable {P : Program}

/-- A slice of the call's own that grows by append: it lies behind the first objects L0. -/
def Grow (h : H) (L0 G : List AO) (v : AV) (sz e len : Nat) (cs : List AV) : Prop :=
  cs.length = len * sz ∧ ((len = 0 ∧ v = .nils) ∨ ∃ idx, v = .sl (nx h (L0.length + idx)) 0 len none sz ∧ G[idx]? = some (.cells (mkCells cs) e))
theorem Grow.nil (h : H) (L0 G : List AO) (sz e : Nat) : Grow h L0 G .nils sz e 0 [] := ⟨by simp, .inl ⟨rfl, rfl⟩⟩
theorem Grow.resz {h : H} {L0 G : List AO} {v : AV} {sz e len : Nat} {cs : List AV} (g : Grow h L0 G v sz e len cs) (t : TypeId) : reszT P t v = v := by
  obtain ⟨_, ⟨_, rfl⟩ | ⟨idx, rfl, _⟩⟩ := g
  · exact reszT_nils
  · exact reszT_none
theorem Grow.sl {h : H} (wf : Wf h) {L0 G : List AO} {v : AV} {sz e len : Nat} {cs : List AV} (g : Grow h L0 G v sz e len cs) (w : Nat) : Sl (X h (L0 ++ G) w) v sz len cs := by
  obtain ⟨hl, ⟨rfl, rfl⟩ | ⟨idx, rfl, hg⟩⟩ := g
  · exact ⟨hl, .inl ⟨rfl, rfl⟩⟩
  · exact Sl.new wf hl (by rw [app_len]; exact hg)
theorem Grow.more {h : H} {L0 G : List AO} {v : AV} {sz e len : Nat} {cs : List AV} (g : Grow h L0 G v sz e len cs) (l : List AO) : Grow h L0 (G ++ l) v sz e len cs := by
  obtain ⟨hl, ⟨rfl, rfl⟩ | ⟨idx, rfl, hg⟩⟩ := g
  · exact ⟨hl, .inl ⟨rfl, rfl⟩⟩
  · exact ⟨hl, .inr ⟨idx, rfl, by rw [List.getElem?_append_left (List.getElem?_eq_some_iff.1 hg).1]; exact hg⟩⟩
theorem Grow.flat {h : H} {L0 G : List AO} {v : AV} {sz e len : Nat} {cs : List AV} (g : Grow h L0 G v sz e len cs) : AV.cells v = [v] ∧ oneB v = true := by
  obtain ⟨hl, ⟨rfl, rfl⟩ | ⟨idx, rfl, hg⟩⟩ := g <;> exact ⟨rfl, rfl⟩

theorem WV_keep {h : H} (wf : Wf h) {v : AV} {l : List AO} {w : Nat} {Q : AV → H → Prop} (hw : h.clock ≤ w) (q1 : flat v = true → Q v h) (q2 : flat v = false → Q v (X h l h.w)) : WV (pureCall h (.ok v (X h l w))) Q := by
  cases hf : flat v with
  | true => exact WV_flat hf hw (q1 hf)
  | false =>
    refine WV_ext (by rw [hf, Bool.and_false]) ?_
    rw [Nat.min_eq_left (Nat.le_trans wf.wle hw)]
    exact q2 hf
/-- A slice that the call has made is handed back. -/
theorem Grow.ret {h : H} (wf : Wf h) {L0 G : List AO} {v : AV} {sz e len : Nat} {cs : List AV} (g : Grow h L0 G v sz e len cs) {Q : AV → H → Prop} (q : ∀ M, Sl (X h M h.w) v sz len cs → Q v (X h M h.w)) {w : Nat} (hw : h.clock ≤ w) : WV (pureCall h (.ok v (X h (L0 ++ G) w))) Q := by
  refine WV_keep wf hw (fun hf => ?_) (fun _ => q _ (g.sl wf h.w))
  have := q []
  rw [X_self] at this
  refine this ?_
  obtain ⟨hl, ⟨rfl, rfl⟩ | ⟨idx, rfl, hg⟩⟩ := g
  · exact ⟨hl, .inl ⟨rfl, rfl⟩⟩
  · cases hf

/-- What is appended: cells that can be read. -/
theorem Grow.append {h : H} (wf : Wf h) {L0 G : List AO} {v : AV} {sz e len bytes : Nat} {z : AV} {cs : List AV} (g : Grow h L0 G v sz e len cs) {t : TypeId} (hu : P.underlying t = some (.slice e)) (hz : sizeE P e = some sz) (E : El P e sz bytes z)
    {n : Nat} {new : List AV} {x : AV} (hn : len + n ≤ 10000000) (hn0 : n ≠ 0) (hb : bytes ≤ 100000) (hc : new.length = n * sz) (ho : allOne new = true) (hs : ∀ w, srcCells (X h (L0 ++ G) w) sz x = some (n, new)) :
    ∃ v' G', Grow h L0 G' v' sz e (len + n) (cs ++ new) ∧ (∀ w, h.clock ≤ w → ∃ w', h.clock ≤ w' ∧ w' ≤ w ∧ appendE P t v x (X h (L0 ++ G) w) = .ok v' (X h (L0 ++ G') w')) := by
  obtain ⟨hl, ⟨rfl, rfl⟩ | ⟨idx, rfl, hg⟩⟩ := g
  · have hcs : cs = [] := List.length_eq_zero_iff.1 (by simpa using hl)
    subst hcs
    refine ⟨.sl (nx h (L0.length + G.length)) 0 n none sz, G ++ [.cells (mkCells new) e], ⟨by simpa using hc, .inr ⟨G.length, by rw [Nat.zero_add], by simp⟩⟩, fun w hw => ⟨w, hw, Nat.le_refl w, ?_⟩⟩
    have := append_nils (P := P) wf hu hz E (x := x) (l := L0 ++ G) (w := w) (by omega) hn0 hb (hs w) hc
    rw [List.length_append, List.append_assoc] at this
    exact this
  · have hi := (List.getElem?_eq_some_iff.1 hg).1
    refine ⟨.sl (nx h (L0.length + G.length)) 0 (len + n) none sz, G.set idx .dead ++ [.cells (mkCells (cs ++ new)) e], ⟨by rw [List.length_append, hl, hc, Nat.add_mul], .inr ⟨G.length, rfl, ?_⟩⟩, fun w hw => ⟨min (h.clock + (L0.length + idx)) w, by omega, Nat.min_le_right _ _, ?_⟩⟩
    rotate_right 1
    · have := append_more (P := P) wf hu hz E (x := x) (k := L0.length + idx) (l := L0 ++ G) (w := w) hn hn0 hb (by rw [app_len]; exact hg) hl (hs w) hc ho
      rw [List.length_append, set_app_len, List.append_assoc] at this
      exact this
    · rw [List.getElem?_append_right (by simp)]; simp

/-- In a region whose order is drawn, behind all else: a new slice is appended. -/
theorem Grow.appendD {h : H} (wf : Wf h) {L0 G : List AO} {v : AV} {sz e len bytes : Nat} {z : AV} {cs : List AV} (g : Grow h L0 G v sz e len cs) {t : TypeId} (hu : P.underlying t = some (.slice e)) (hz : sizeE P e = some sz) (E : El P e sz bytes z)
    {n : Nat} {new : List AV} (hn : len + n ≤ 10000000) (hn0 : n ≠ 0) (hb : bytes ≤ 100000) (hc : new.length = n * sz) (ho : allOne new = true) :
    ∃ v' G', Grow h L0 G' v' sz e (len + n) (cs ++ new) ∧
      (∀ tm op w, h.clock ≤ w → unmark .full tm op (X h (L0 ++ (G ++ [.cells (mkCells new) e])) h.clock) (appendE P t v (.sl (nx h (L0.length + G.length)) 0 n (some n) sz) (X h (L0 ++ (G ++ [.cells (mkCells new) e])) w)) = .ok v' (X h (L0 ++ G') h.clock)) ∧
      (appendE P t v (.sl (nx h (L0.length + G.length)) 0 n (some n) sz) (X h (L0 ++ (G ++ [.cells (mkCells new) e])) h.clock) = .ok v' (X h (L0 ++ G') h.clock)) := by
  obtain ⟨v', G', hg', happ⟩ := (g.more [.cells (mkCells new) e]).append (P := P) wf hu hz E (x := .sl (nx h (L0.length + G.length)) 0 n (some n) sz) hn hn0 hb hc ho (fun w => src_new (e := e) wf (by rw [← List.append_assoc]; rw [show L0.length + G.length = (L0 ++ G).length from by simp]; simp) hc)
  refine ⟨v', G', hg', fun tm op w hw => ?_, ?_⟩
  · obtain ⟨w', h1, h2, h3⟩ := happ w hw
    rw [h3, unmark_full, Nat.min_eq_left h1]
  · obtain ⟨w', h1, h2, h3⟩ := happ h.clock (Nat.le_refl _)
    rw [h3, show w' = h.clock from by omega]
end
end Go.Ev
end

/- EvGk -/
section
/-
  The contract of the closed part: its text alone.
-/
namespace Go.Proofs.YtghondkiondeaaaDoor
open Go.Ev
noncomputable def cW : Con := ⟨9, [], [(.e, [(.int .i64 1099511627776), (.int .i64 1099511627776), (.int .i64 1099511627776)])], (.bool true), []⟩
noncomputable def KK : List Con := [cW]
end Go.Proofs.YtghondkiondeaaaDoor
end

/- EvF1 -/
section
/-
  LAYER 1: small functions.
-/
namespace Go.Proofs.YtghondkiondeaaaDoor
open Go.Ev
set_option maxRecDepth 100000
set_option linter.unusedSimpArgs false
set_option linter.unusedVariables false
set_option maxHeartbeats 2000000
abbrev Off (y : Int) : Prop := -1000000 ≤ y ∧ y ≤ 1000000
def nextSign (s d : Int) : Int := if 0 < d then 1 else if d < 0 then 2 else s
def chg (s d : Int) : Int := if s ≠ 0 ∧ s ≠ nextSign s d then 1 else 0
abbrev ii (n : Int) : AV := .int .i64 n

theorem second (i a b s c : Int) (ha : Off a) (hb : Off b) (hc : Off c) (h : H) (wf : Wf h) :
    (om Tryd.prog KK).call (.fn 78 [.agg [ii i, ii a, ii b, ii s], ii c]) h = .ok (ii (a - 2 * b + c)) h := by
  refine WV_to (WV_call (fn := Tryd.f78) Tryd.func78 rfl rfl rfl rfl rfl ?_)
  simp only [argF]
  (repeat' (first
  | (with_reducible refine WC_seq ?_) | (refine WC_region ?_) | (with_reducible refine WC_skip ?_) | (with_reducible refine WC_label ?_) | (with_reducible refine WC_scope ?_) | (with_reducible refine WC_block ?_) | (with_reducible refine WC_ret ?_) | (with_reducible refine WC_exit ?_)
  | (with_reducible refine seqQ_norm ?_) | (with_reducible refine seqQ_ret ?_) | (with_reducible refine seqQ_exit ?_) | (with_reducible refine blkQ_norm ?_) | (with_reducible refine blkQ_ret ?_) | (with_reducible refine blkQ_here ?_) | (refine blkQ_out rfl ?_)
  | (refine WO_nil ?_)
  | (refine WD_nil ?_)
  | (refine WD_gate rfl rfl rfl rfl rfl fun K_ hK_ => ?_; simp only [upd_apply, asB_bool, asB_tup, ↓reduceIte, reduceCtorEq, Nat.reduceEqDiff, Bool.not_true, Bool.not_false]; refine hK_ _ ?_; clear hK_ K_)
  | (refine WO_gate rfl rfl rfl rfl rfl fun K_ hK_ => ?_; simp only [upd_apply, asB_bool, asB_tup, ↓reduceIte, reduceCtorEq, Nat.reduceEqDiff, Bool.not_true, Bool.not_false]; refine hK_ _ ?_; clear hK_ K_)
  | (with_reducible refine gateK_yes ?_) | (refine gateK_no (by decide) ?_) | (with_reducible refine gateK_none ?_)
  | ((try first | refine WO_op rfl rfl rfl ?_ | refine WO_op0 rfl rfl ?_ | refine WD_op rfl rfl rfl ?_ | refine WD_op0 rfl rfl ?_); (refine WV_gen fun Q_ hQ_ => ?_; simp (disch := first | omega | (simp only [List.length_cons, List.length_nil, List.length_append]; omega)) only [x_move, x_assign, x_pick, x_alloc, x_box, x_build, x_load, x_store, x_nilCheck, x_binOp, x_unOp, x_convert, x_makeFunc, x_makeMap, x_makeSlice, x_slice, x_fieldAddr, x_field, x_indexAddr, x_index, x_lookup, x_mapUpdate, x_extract, x_callB, x_callF, x_callT, x_buildSlice, WV_okI, on1_ok, of_ok, done_ok, evT_tmp, get_tmp, evT_int, evT_bool, evT_str, evT_nils, evT_nilm, evT_nilp, evT_nilf, evT_func, upd_apply, evL_nil, evL_cons', evParts_nil, evParts_cons, pickE_def, allocE_def, cells_bool, cells_int, cells_str, cells_ptr, cells_nilp, cells_sl, cells_nils, cells_map, cells_nilm, cells_fn, cells_nilf, cells_agg, asPtr_ptr, asSl_sl, asB_bool, asB_tup, asTup_tup, asI64_int, toNatE_lit, reszT_nils, reszT_none, toNatE_int, slicesE_def, optNat_none, optNat_def, Int.reduceToNat, Int.toNat_natCast, cellsOf_cells, cellsOf_ro, cellsE_cells, oneB_bool, oneB_int, oneB_str, oneB_ptr, oneB_nilp, oneB_sl, oneB_nils, oneB_map, oneB_nilm, oneB_fn, oneB_nilf, loadE_ptr, storeE_ptr, storeCs_some, storeAll_one, storeAll_two, fieldAddrE_ptr, addOff_some, indexAt_sl, indexAt_arr, extractE_tup, nilCheck_fn, nilCheck_ptr, nilCheck_yld, b_add, b_sub, b_mul, b_eql, b_neq, b_lss, b_leq, b_gtr, b_geq, unE_not, unE_neg, bi_len, bi_append, bi_copy, bi_max, bi_min, buildSliceO_def, buildO_def, ble_dec, fillE_nil, fillE_cons, layOver_def, zerosE_zero, zerosE_succ, wrap_in, min_ck, min_cc, min_cl, Nat.min_self, allOne_nil, allOne_cons, cellAt_cells, cellAt_ro, aggAt_cells, storeAt_cells, writeAt_cells, splice_def, marked_X, nx_X, unmark_keep, unmark_full, app_len0, app_len, set_app_len0, set_app_len, List.append_assoc, List.length_append, argF, cond_true, cond_false, ↓reduceIte, reduceCtorEq, Nat.reduceEqDiff, Nat.reduceLT, Nat.reduceLeDiff, Nat.reduceAdd, Nat.reduceMul, Nat.reduceSub, Nat.reduceBEq, Nat.add_zero, Nat.zero_add, Nat.mul_one, Nat.zero_mul, Nat.one_mul, List.length_cons, List.length_nil, List.cons_append, List.nil_append, List.append_nil, List.getElem?_cons_zero, List.getElem?_cons_succ, List.set_cons_zero, List.set_cons_succ, List.drop_zero, List.drop_succ_cons, List.take_zero, List.take_succ_cons, List.take_nil, List.drop_nil, Bool.not_true, Bool.not_false, Bool.true_and, Bool.and_true, Bool.false_and, Bool.and_false, decide_true, decide_false, eq_self, List.toList_toArray, beq_dec, beq_self_eq_true, newPtr_X wf, load1_X wf, bs_71, bsl_25, newSlice_X wf, ia_2, sz_2, ia_3, sz_3, ia_27, ia_51, sz_51, ia_71, sz_71, ia_24, sz_24, ia_22, ia_25, fo_71_0, fo_71_1, fo_71_2, fo_71_3, fo_51_0, fo_51_1, fo_24_0, fo_24_1, ze_71, ze_51, pb_33, pb_36, pb_60, pb_61, pb_78, pb_34, pb_37, pb_14]; first | (refine dec_split (Q := Q_) (fun hp_ => ?_) (fun hp_ => ?_) <;> first | (exfalso; omega) | (refine hQ_ _ _ ?_; clear hQ_ Q_)) | (refine dec_splitn (Q := Q_) (fun hp_ => ?_) (fun hp_ => ?_) <;> first | (exfalso; omega) | (refine hQ_ _ _ ?_; clear hQ_ Q_)) | (refine hQ_ _ _ ?_; clear hQ_ Q_)))
  | (refine WC_cond fun K_ hK_ => ?_; simp (disch := omega) only [evT_tmp, upd_apply, WB_some, ↓reduceIte, reduceCtorEq, Nat.reduceEqDiff, Nat.reduceLT]; refine hK_ _ ?_; clear hK_ K_)
  | (with_reducible refine condK_tt ?_) | (with_reducible refine condK_ff ?_) | (with_reducible refine roundQ_exit ?_) | (with_reducible refine roundQ_ret ?_)))
  (refine endQ_ret _ _ rfl (ret1 (by decide)) ?_; simp only [upd_apply, ↓reduceIte, reduceCtorEq, Nat.reduceEqDiff]; refine WV_flat rfl (by omega) ?_)
  exact ⟨rfl, rfl⟩

theorem isOffset (y : Int) (h : H) (wf : Wf h) : (om Tryd.prog KK).call (.fn 33 [ii y]) h = .ok (.bool (decide (Off y))) h := by
  refine WV_to (WV_call (fn := Tryd.f33) Tryd.func33 rfl rfl rfl rfl rfl ?_)
  simp only [argF]
  (repeat' (first
  | (with_reducible refine WC_seq ?_) | (refine WC_region ?_) | (with_reducible refine WC_skip ?_) | (with_reducible refine WC_label ?_) | (with_reducible refine WC_scope ?_) | (with_reducible refine WC_block ?_) | (with_reducible refine WC_ret ?_) | (with_reducible refine WC_exit ?_)
  | (with_reducible refine seqQ_norm ?_) | (with_reducible refine seqQ_ret ?_) | (with_reducible refine seqQ_exit ?_) | (with_reducible refine blkQ_norm ?_) | (with_reducible refine blkQ_ret ?_) | (with_reducible refine blkQ_here ?_) | (refine blkQ_out rfl ?_)
  | (refine WO_nil ?_)
  | (refine WD_nil ?_)
  | (refine WD_gate rfl rfl rfl rfl rfl fun K_ hK_ => ?_; simp only [upd_apply, asB_bool, asB_tup, ↓reduceIte, reduceCtorEq, Nat.reduceEqDiff, Bool.not_true, Bool.not_false]; refine hK_ _ ?_; clear hK_ K_)
  | (refine WO_gate rfl rfl rfl rfl rfl fun K_ hK_ => ?_; simp only [upd_apply, asB_bool, asB_tup, ↓reduceIte, reduceCtorEq, Nat.reduceEqDiff, Bool.not_true, Bool.not_false]; refine hK_ _ ?_; clear hK_ K_)
  | (with_reducible refine gateK_yes ?_) | (refine gateK_no (by decide) ?_) | (with_reducible refine gateK_none ?_)
  | ((try first | refine WO_op rfl rfl rfl ?_ | refine WO_op0 rfl rfl ?_ | refine WD_op rfl rfl rfl ?_ | refine WD_op0 rfl rfl ?_); (refine WV_gen fun Q_ hQ_ => ?_; simp (disch := first | omega | (simp only [List.length_cons, List.length_nil, List.length_append]; omega)) only [x_move, x_assign, x_pick, x_alloc, x_box, x_build, x_load, x_store, x_nilCheck, x_binOp, x_unOp, x_convert, x_makeFunc, x_makeMap, x_makeSlice, x_slice, x_fieldAddr, x_field, x_indexAddr, x_index, x_lookup, x_mapUpdate, x_extract, x_callB, x_callF, x_callT, x_buildSlice, WV_okI, on1_ok, of_ok, done_ok, evT_tmp, get_tmp, evT_int, evT_bool, evT_str, evT_nils, evT_nilm, evT_nilp, evT_nilf, evT_func, upd_apply, evL_nil, evL_cons', evParts_nil, evParts_cons, pickE_def, allocE_def, cells_bool, cells_int, cells_str, cells_ptr, cells_nilp, cells_sl, cells_nils, cells_map, cells_nilm, cells_fn, cells_nilf, cells_agg, asPtr_ptr, asSl_sl, asB_bool, asB_tup, asTup_tup, asI64_int, toNatE_lit, reszT_nils, reszT_none, toNatE_int, slicesE_def, optNat_none, optNat_def, Int.reduceToNat, Int.toNat_natCast, cellsOf_cells, cellsOf_ro, cellsE_cells, oneB_bool, oneB_int, oneB_str, oneB_ptr, oneB_nilp, oneB_sl, oneB_nils, oneB_map, oneB_nilm, oneB_fn, oneB_nilf, loadE_ptr, storeE_ptr, storeCs_some, storeAll_one, storeAll_two, fieldAddrE_ptr, addOff_some, indexAt_sl, indexAt_arr, extractE_tup, nilCheck_fn, nilCheck_ptr, nilCheck_yld, b_add, b_sub, b_mul, b_eql, b_neq, b_lss, b_leq, b_gtr, b_geq, unE_not, unE_neg, bi_len, bi_append, bi_copy, bi_max, bi_min, buildSliceO_def, buildO_def, ble_dec, fillE_nil, fillE_cons, layOver_def, zerosE_zero, zerosE_succ, wrap_in, min_ck, min_cc, min_cl, Nat.min_self, allOne_nil, allOne_cons, cellAt_cells, cellAt_ro, aggAt_cells, storeAt_cells, writeAt_cells, splice_def, marked_X, nx_X, unmark_keep, unmark_full, app_len0, app_len, set_app_len0, set_app_len, List.append_assoc, List.length_append, argF, cond_true, cond_false, ↓reduceIte, reduceCtorEq, Nat.reduceEqDiff, Nat.reduceLT, Nat.reduceLeDiff, Nat.reduceAdd, Nat.reduceMul, Nat.reduceSub, Nat.reduceBEq, Nat.add_zero, Nat.zero_add, Nat.mul_one, Nat.zero_mul, Nat.one_mul, List.length_cons, List.length_nil, List.cons_append, List.nil_append, List.append_nil, List.getElem?_cons_zero, List.getElem?_cons_succ, List.set_cons_zero, List.set_cons_succ, List.drop_zero, List.drop_succ_cons, List.take_zero, List.take_succ_cons, List.take_nil, List.drop_nil, Bool.not_true, Bool.not_false, Bool.true_and, Bool.and_true, Bool.false_and, Bool.and_false, decide_true, decide_false, eq_self, List.toList_toArray, beq_dec, beq_self_eq_true]; first | (refine dec_split (Q := Q_) (fun hp_ => ?_) (fun hp_ => ?_) <;> first | (exfalso; omega) | (refine hQ_ _ _ ?_; clear hQ_ Q_)) | (refine dec_splitn (Q := Q_) (fun hp_ => ?_) (fun hp_ => ?_) <;> first | (exfalso; omega) | (refine hQ_ _ _ ?_; clear hQ_ Q_)) | (refine hQ_ _ _ ?_; clear hQ_ Q_)))
  | (refine WC_cond fun K_ hK_ => ?_; simp (disch := omega) only [evT_tmp, upd_apply, WB_some, ↓reduceIte, reduceCtorEq, Nat.reduceEqDiff, Nat.reduceLT]; refine hK_ _ ?_; clear hK_ K_)
  | (with_reducible refine condK_tt ?_) | (with_reducible refine condK_ff ?_) | (with_reducible refine roundQ_exit ?_) | (with_reducible refine roundQ_ret ?_)))
  all_goals (refine endQ_ret _ _ rfl (ret1 (by decide)) ?_; simp only [upd_apply, ↓reduceIte, reduceCtorEq, Nat.reduceEqDiff]; refine WV_flat rfl (by omega) ?_)
  all_goals exact ⟨by simp [*], rfl⟩

theorem isSpot (lo hi : Int) (h : H) (wf : Wf h) : (om Tryd.prog KK).call (.fn 37 [.agg [ii lo, ii hi]]) h = .ok (.bool (decide (Off lo ∧ Off hi ∧ lo ≤ hi ∧ hi - lo ≤ 4))) h := by
  refine WV_to (WV_call (fn := Tryd.f37) Tryd.func37 rfl rfl rfl rfl rfl ?_)
  simp only [argF]
  (repeat' (first
  | (with_reducible refine WC_seq ?_) | (refine WC_region ?_) | (with_reducible refine WC_skip ?_) | (with_reducible refine WC_label ?_) | (with_reducible refine WC_scope ?_) | (with_reducible refine WC_block ?_) | (with_reducible refine WC_ret ?_) | (with_reducible refine WC_exit ?_)
  | (with_reducible refine seqQ_norm ?_) | (with_reducible refine seqQ_ret ?_) | (with_reducible refine seqQ_exit ?_) | (with_reducible refine blkQ_norm ?_) | (with_reducible refine blkQ_ret ?_) | (with_reducible refine blkQ_here ?_) | (refine blkQ_out rfl ?_)
  | (refine WO_nil ?_)
  | (refine WD_nil ?_)
  | (refine WD_gate rfl rfl rfl rfl rfl fun K_ hK_ => ?_; simp only [upd_apply, asB_bool, asB_tup, ↓reduceIte, reduceCtorEq, Nat.reduceEqDiff, Bool.not_true, Bool.not_false]; refine hK_ _ ?_; clear hK_ K_)
  | (refine WO_gate rfl rfl rfl rfl rfl fun K_ hK_ => ?_; simp only [upd_apply, asB_bool, asB_tup, ↓reduceIte, reduceCtorEq, Nat.reduceEqDiff, Bool.not_true, Bool.not_false]; refine hK_ _ ?_; clear hK_ K_)
  | (with_reducible refine gateK_yes ?_) | (refine gateK_no (by decide) ?_) | (with_reducible refine gateK_none ?_)
  | ((try first | refine WO_op rfl rfl rfl ?_ | refine WO_op0 rfl rfl ?_ | refine WD_op rfl rfl rfl ?_ | refine WD_op0 rfl rfl ?_); (refine WV_gen fun Q_ hQ_ => ?_; simp (disch := first | omega | (simp only [List.length_cons, List.length_nil, List.length_append]; omega)) only [x_move, x_assign, x_pick, x_alloc, x_box, x_build, x_load, x_store, x_nilCheck, x_binOp, x_unOp, x_convert, x_makeFunc, x_makeMap, x_makeSlice, x_slice, x_fieldAddr, x_field, x_indexAddr, x_index, x_lookup, x_mapUpdate, x_extract, x_callB, x_callF, x_callT, x_buildSlice, WV_okI, on1_ok, of_ok, done_ok, evT_tmp, get_tmp, evT_int, evT_bool, evT_str, evT_nils, evT_nilm, evT_nilp, evT_nilf, evT_func, upd_apply, evL_nil, evL_cons', evParts_nil, evParts_cons, pickE_def, allocE_def, cells_bool, cells_int, cells_str, cells_ptr, cells_nilp, cells_sl, cells_nils, cells_map, cells_nilm, cells_fn, cells_nilf, cells_agg, asPtr_ptr, asSl_sl, asB_bool, asB_tup, asTup_tup, asI64_int, toNatE_lit, reszT_nils, reszT_none, toNatE_int, slicesE_def, optNat_none, optNat_def, Int.reduceToNat, Int.toNat_natCast, cellsOf_cells, cellsOf_ro, cellsE_cells, oneB_bool, oneB_int, oneB_str, oneB_ptr, oneB_nilp, oneB_sl, oneB_nils, oneB_map, oneB_nilm, oneB_fn, oneB_nilf, loadE_ptr, storeE_ptr, storeCs_some, storeAll_one, storeAll_two, fieldAddrE_ptr, addOff_some, indexAt_sl, indexAt_arr, extractE_tup, nilCheck_fn, nilCheck_ptr, nilCheck_yld, b_add, b_sub, b_mul, b_eql, b_neq, b_lss, b_leq, b_gtr, b_geq, unE_not, unE_neg, bi_len, bi_append, bi_copy, bi_max, bi_min, buildSliceO_def, buildO_def, ble_dec, fillE_nil, fillE_cons, layOver_def, zerosE_zero, zerosE_succ, wrap_in, min_ck, min_cc, min_cl, Nat.min_self, allOne_nil, allOne_cons, cellAt_cells, cellAt_ro, aggAt_cells, storeAt_cells, writeAt_cells, splice_def, marked_X, nx_X, unmark_keep, unmark_full, app_len0, app_len, set_app_len0, set_app_len, List.append_assoc, List.length_append, argF, cond_true, cond_false, ↓reduceIte, reduceCtorEq, Nat.reduceEqDiff, Nat.reduceLT, Nat.reduceLeDiff, Nat.reduceAdd, Nat.reduceMul, Nat.reduceSub, Nat.reduceBEq, Nat.add_zero, Nat.zero_add, Nat.mul_one, Nat.zero_mul, Nat.one_mul, List.length_cons, List.length_nil, List.cons_append, List.nil_append, List.append_nil, List.getElem?_cons_zero, List.getElem?_cons_succ, List.set_cons_zero, List.set_cons_succ, List.drop_zero, List.drop_succ_cons, List.take_zero, List.take_succ_cons, List.take_nil, List.drop_nil, Bool.not_true, Bool.not_false, Bool.true_and, Bool.and_true, Bool.false_and, Bool.and_false, decide_true, decide_false, eq_self, List.toList_toArray, beq_dec, beq_self_eq_true, newPtr_X wf, load1_X wf, bs_71, bsl_25, newSlice_X wf, ia_2, sz_2, ia_3, sz_3, ia_27, ia_51, sz_51, ia_71, sz_71, ia_24, sz_24, ia_22, ia_25, fo_71_0, fo_71_1, fo_71_2, fo_71_3, fo_51_0, fo_51_1, fo_24_0, fo_24_1, ze_71, ze_51, pb_33, pb_36, pb_60, pb_61, pb_78, pb_34, pb_37, pb_14]; first | (refine dec_split (Q := Q_) (fun hp_ => ?_) (fun hp_ => ?_) <;> first | (exfalso; omega) | (refine hQ_ _ _ ?_; clear hQ_ Q_)) | (refine dec_splitn (Q := Q_) (fun hp_ => ?_) (fun hp_ => ?_) <;> first | (exfalso; omega) | (refine hQ_ _ _ ?_; clear hQ_ Q_)) | (refine hQ_ _ _ ?_; clear hQ_ Q_) | (refine WV_eq (isOffset _ _ (wf.X (Nat.le_add_right _ _))) ?_; refine hQ_ _ _ ?_; clear hQ_ Q_)))
  | (refine WC_cond fun K_ hK_ => ?_; simp (disch := omega) only [evT_tmp, upd_apply, WB_some, ↓reduceIte, reduceCtorEq, Nat.reduceEqDiff, Nat.reduceLT]; refine hK_ _ ?_; clear hK_ K_)
  | (with_reducible refine condK_tt ?_) | (with_reducible refine condK_ff ?_) | (with_reducible refine roundQ_exit ?_) | (with_reducible refine roundQ_ret ?_)))
  all_goals (refine endQ_ret _ _ rfl (ret1 (by decide)) ?_; simp only [upd_apply, ↓reduceIte, reduceCtorEq, Nat.reduceEqDiff]; refine WV_flat rfl (by omega) ?_)
  all_goals exact ⟨by simp [*], rfl⟩

theorem bendTo (i a b s c : Int) (ha : Off a) (hb : Off b) (hc : Off c) (h : H) (wf : Wf h) :
    (om Tryd.prog KK).call (.fn 61 [.agg [ii i, ii a, ii b, ii s], ii c]) h = .ok (ii (max (a - 2 * b + c) (0 - (a - 2 * b + c)))) h := by
  refine WV_to (WV_call (fn := Tryd.f61) Tryd.func61 rfl rfl rfl rfl rfl ?_)
  simp only [argF]
  (repeat' (first
  | (with_reducible refine WC_seq ?_) | (refine WC_region ?_) | (with_reducible refine WC_skip ?_) | (with_reducible refine WC_label ?_) | (with_reducible refine WC_scope ?_) | (with_reducible refine WC_block ?_) | (with_reducible refine WC_ret ?_) | (with_reducible refine WC_exit ?_)
  | (with_reducible refine seqQ_norm ?_) | (with_reducible refine seqQ_ret ?_) | (with_reducible refine seqQ_exit ?_) | (with_reducible refine blkQ_norm ?_) | (with_reducible refine blkQ_ret ?_) | (with_reducible refine blkQ_here ?_) | (refine blkQ_out rfl ?_)
  | (refine WO_nil ?_)
  | (refine WD_nil ?_)
  | (refine WD_gate rfl rfl rfl rfl rfl fun K_ hK_ => ?_; simp only [upd_apply, asB_bool, asB_tup, ↓reduceIte, reduceCtorEq, Nat.reduceEqDiff, Bool.not_true, Bool.not_false]; refine hK_ _ ?_; clear hK_ K_)
  | (refine WO_gate rfl rfl rfl rfl rfl fun K_ hK_ => ?_; simp only [upd_apply, asB_bool, asB_tup, ↓reduceIte, reduceCtorEq, Nat.reduceEqDiff, Bool.not_true, Bool.not_false]; refine hK_ _ ?_; clear hK_ K_)
  | (with_reducible refine gateK_yes ?_) | (refine gateK_no (by decide) ?_) | (with_reducible refine gateK_none ?_)
  | ((try first | refine WO_op rfl rfl rfl ?_ | refine WO_op0 rfl rfl ?_ | refine WD_op rfl rfl rfl ?_ | refine WD_op0 rfl rfl ?_); (refine WV_gen fun Q_ hQ_ => ?_; simp (disch := first | omega | (simp only [List.length_cons, List.length_nil, List.length_append]; omega)) only [x_move, x_assign, x_pick, x_alloc, x_box, x_build, x_load, x_store, x_nilCheck, x_binOp, x_unOp, x_convert, x_makeFunc, x_makeMap, x_makeSlice, x_slice, x_fieldAddr, x_field, x_indexAddr, x_index, x_lookup, x_mapUpdate, x_extract, x_callB, x_callF, x_callT, x_buildSlice, WV_okI, on1_ok, of_ok, done_ok, evT_tmp, get_tmp, evT_int, evT_bool, evT_str, evT_nils, evT_nilm, evT_nilp, evT_nilf, evT_func, upd_apply, evL_nil, evL_cons', evParts_nil, evParts_cons, pickE_def, allocE_def, cells_bool, cells_int, cells_str, cells_ptr, cells_nilp, cells_sl, cells_nils, cells_map, cells_nilm, cells_fn, cells_nilf, cells_agg, asPtr_ptr, asSl_sl, asB_bool, asB_tup, asTup_tup, asI64_int, toNatE_lit, reszT_nils, reszT_none, toNatE_int, slicesE_def, optNat_none, optNat_def, Int.reduceToNat, Int.toNat_natCast, cellsOf_cells, cellsOf_ro, cellsE_cells, oneB_bool, oneB_int, oneB_str, oneB_ptr, oneB_nilp, oneB_sl, oneB_nils, oneB_map, oneB_nilm, oneB_fn, oneB_nilf, loadE_ptr, storeE_ptr, storeCs_some, storeAll_one, storeAll_two, fieldAddrE_ptr, addOff_some, indexAt_sl, indexAt_arr, extractE_tup, nilCheck_fn, nilCheck_ptr, nilCheck_yld, b_add, b_sub, b_mul, b_eql, b_neq, b_lss, b_leq, b_gtr, b_geq, unE_not, unE_neg, bi_len, bi_append, bi_copy, bi_max, bi_min, buildSliceO_def, buildO_def, ble_dec, fillE_nil, fillE_cons, layOver_def, zerosE_zero, zerosE_succ, wrap_in, min_ck, min_cc, min_cl, Nat.min_self, allOne_nil, allOne_cons, cellAt_cells, cellAt_ro, aggAt_cells, storeAt_cells, writeAt_cells, splice_def, marked_X, nx_X, unmark_keep, unmark_full, app_len0, app_len, set_app_len0, set_app_len, List.append_assoc, List.length_append, argF, cond_true, cond_false, ↓reduceIte, reduceCtorEq, Nat.reduceEqDiff, Nat.reduceLT, Nat.reduceLeDiff, Nat.reduceAdd, Nat.reduceMul, Nat.reduceSub, Nat.reduceBEq, Nat.add_zero, Nat.zero_add, Nat.mul_one, Nat.zero_mul, Nat.one_mul, List.length_cons, List.length_nil, List.cons_append, List.nil_append, List.append_nil, List.getElem?_cons_zero, List.getElem?_cons_succ, List.set_cons_zero, List.set_cons_succ, List.drop_zero, List.drop_succ_cons, List.take_zero, List.take_succ_cons, List.take_nil, List.drop_nil, Bool.not_true, Bool.not_false, Bool.true_and, Bool.and_true, Bool.false_and, Bool.and_false, decide_true, decide_false, eq_self, List.toList_toArray, beq_dec, beq_self_eq_true, newPtr_X wf, load1_X wf, loadAgg_X wf, bs_71, bsl_25, newSlice_X wf, ia_2, sz_2, ia_3, sz_3, ia_27, ia_51, sz_51, ia_71, sz_71, ia_24, sz_24, ia_22, ia_25, fo_71_0, fo_71_1, fo_71_2, fo_71_3, fo_51_0, fo_51_1, fo_24_0, fo_24_1, ze_71, ze_51, pb_33, pb_36, pb_60, pb_61, pb_78, pb_34, pb_37, pb_14]; first | (refine dec_split (Q := Q_) (fun hp_ => ?_) (fun hp_ => ?_) <;> first | (exfalso; omega) | (refine hQ_ _ _ ?_; clear hQ_ Q_)) | (refine dec_splitn (Q := Q_) (fun hp_ => ?_) (fun hp_ => ?_) <;> first | (exfalso; omega) | (refine hQ_ _ _ ?_; clear hQ_ Q_)) | (refine hQ_ _ _ ?_; clear hQ_ Q_) | (refine WV_eq (second _ _ _ _ _ (by omega) (by omega) (by omega) _ (wf.X (Nat.le_add_right _ _))) ?_; refine hQ_ _ _ ?_; clear hQ_ Q_)))
  | (refine WC_cond fun K_ hK_ => ?_; simp (disch := omega) only [evT_tmp, upd_apply, WB_some, ↓reduceIte, reduceCtorEq, Nat.reduceEqDiff, Nat.reduceLT]; refine hK_ _ ?_; clear hK_ K_)
  | (with_reducible refine condK_tt ?_) | (with_reducible refine condK_ff ?_) | (with_reducible refine roundQ_exit ?_) | (with_reducible refine roundQ_ret ?_)))
  (refine endQ_ret _ _ rfl (ret1 (by decide)) ?_; simp only [upd_apply, ↓reduceIte, reduceCtorEq, Nat.reduceEqDiff]; refine WV_flat rfl (by omega) ?_)
  exact ⟨rfl, rfl⟩

theorem tup_next {i b c x y : Int} {s d : Int} (e1 : x = nextSign s d) (e2 : y = chg s d) : AV.tup [.agg [ii i, ii b, ii c, ii x], ii y] = .tup [.agg [ii i, ii b, ii c, ii (nextSign s d)], ii (chg s d)] := by rw [e1, e2]
theorem next (i a b s c : Int) (hi : 0 ≤ i ∧ i ≤ 1000000) (ha : Off a) (hb : Off b) (hc : Off c) (h : H) (wf : Wf h) :
    (om Tryd.prog KK).call (.fn 60 [.agg [ii i, ii a, ii b, ii s], ii c]) h = .ok (.tup [.agg [ii (i + 1), ii b, ii c, ii (nextSign s (a - 2 * b + c))], ii (chg s (a - 2 * b + c))]) h := by
  refine WV_to (WV_call (fn := Tryd.f60) Tryd.func60 rfl rfl rfl rfl rfl ?_)
  simp only [argF]
  (repeat' (first
  | (with_reducible refine WC_seq ?_) | (refine WC_region ?_) | (with_reducible refine WC_skip ?_) | (with_reducible refine WC_label ?_) | (with_reducible refine WC_scope ?_) | (with_reducible refine WC_block ?_) | (with_reducible refine WC_ret ?_) | (with_reducible refine WC_exit ?_)
  | (with_reducible refine seqQ_norm ?_) | (with_reducible refine seqQ_ret ?_) | (with_reducible refine seqQ_exit ?_) | (with_reducible refine blkQ_norm ?_) | (with_reducible refine blkQ_ret ?_) | (with_reducible refine blkQ_here ?_) | (refine blkQ_out rfl ?_)
  | (refine WO_nil ?_)
  | (refine WD_nil ?_)
  | (refine WD_gate rfl rfl rfl rfl rfl fun K_ hK_ => ?_; simp only [upd_apply, asB_bool, asB_tup, ↓reduceIte, reduceCtorEq, Nat.reduceEqDiff, Bool.not_true, Bool.not_false]; refine hK_ _ ?_; clear hK_ K_)
  | (refine WO_gate rfl rfl rfl rfl rfl fun K_ hK_ => ?_; simp only [upd_apply, asB_bool, asB_tup, ↓reduceIte, reduceCtorEq, Nat.reduceEqDiff, Bool.not_true, Bool.not_false]; refine hK_ _ ?_; clear hK_ K_)
  | (with_reducible refine gateK_yes ?_) | (refine gateK_no (by decide) ?_) | (with_reducible refine gateK_none ?_)
  | ((try first | refine WO_op rfl rfl rfl ?_ | refine WO_op0 rfl rfl ?_ | refine WD_op rfl rfl rfl ?_ | refine WD_op0 rfl rfl ?_); (refine WV_gen fun Q_ hQ_ => ?_; simp (disch := first | omega | (simp only [List.length_cons, List.length_nil, List.length_append]; omega)) only [x_move, x_assign, x_pick, x_alloc, x_box, x_build, x_load, x_store, x_nilCheck, x_binOp, x_unOp, x_convert, x_makeFunc, x_makeMap, x_makeSlice, x_slice, x_fieldAddr, x_field, x_indexAddr, x_index, x_lookup, x_mapUpdate, x_extract, x_callB, x_callF, x_callT, x_buildSlice, WV_okI, on1_ok, of_ok, done_ok, evT_tmp, get_tmp, evT_int, evT_bool, evT_str, evT_nils, evT_nilm, evT_nilp, evT_nilf, evT_func, upd_apply, evL_nil, evL_cons', evParts_nil, evParts_cons, pickE_def, allocE_def, cells_bool, cells_int, cells_str, cells_ptr, cells_nilp, cells_sl, cells_nils, cells_map, cells_nilm, cells_fn, cells_nilf, cells_agg, asPtr_ptr, asSl_sl, asB_bool, asB_tup, asTup_tup, asI64_int, toNatE_lit, reszT_nils, reszT_none, toNatE_int, slicesE_def, optNat_none, optNat_def, Int.reduceToNat, Int.toNat_natCast, cellsOf_cells, cellsOf_ro, cellsE_cells, oneB_bool, oneB_int, oneB_str, oneB_ptr, oneB_nilp, oneB_sl, oneB_nils, oneB_map, oneB_nilm, oneB_fn, oneB_nilf, loadE_ptr, storeE_ptr, storeCs_some, storeAll_one, storeAll_two, fieldAddrE_ptr, addOff_some, indexAt_sl, indexAt_arr, extractE_tup, nilCheck_fn, nilCheck_ptr, nilCheck_yld, b_add, b_sub, b_mul, b_eql, b_neq, b_lss, b_leq, b_gtr, b_geq, unE_not, unE_neg, bi_len, bi_append, bi_copy, bi_max, bi_min, buildSliceO_def, buildO_def, ble_dec, fillE_nil, fillE_cons, layOver_def, zerosE_zero, zerosE_succ, wrap_in, min_ck, min_cc, min_cl, Nat.min_self, allOne_nil, allOne_cons, cellAt_cells, cellAt_ro, aggAt_cells, storeAt_cells, writeAt_cells, splice_def, marked_X, nx_X, unmark_keep, unmark_full, app_len0, app_len, set_app_len0, set_app_len, List.append_assoc, List.length_append, argF, cond_true, cond_false, ↓reduceIte, reduceCtorEq, Nat.reduceEqDiff, Nat.reduceLT, Nat.reduceLeDiff, Nat.reduceAdd, Nat.reduceMul, Nat.reduceSub, Nat.reduceBEq, Nat.add_zero, Nat.zero_add, Nat.mul_one, Nat.zero_mul, Nat.one_mul, List.length_cons, List.length_nil, List.cons_append, List.nil_append, List.append_nil, List.getElem?_cons_zero, List.getElem?_cons_succ, List.set_cons_zero, List.set_cons_succ, List.drop_zero, List.drop_succ_cons, List.take_zero, List.take_succ_cons, List.take_nil, List.drop_nil, Bool.not_true, Bool.not_false, Bool.true_and, Bool.and_true, Bool.false_and, Bool.and_false, decide_true, decide_false, eq_self, List.toList_toArray, beq_dec, beq_self_eq_true, newPtr_X wf, load1_X wf, loadAgg_X wf, store1_X wf, writeCells_X wf, bs_71, bsl_25, newSlice_X wf, ia_2, sz_2, ia_3, sz_3, ia_27, ia_51, sz_51, ia_71, sz_71, ia_24, sz_24, ia_22, ia_25, fo_71_0, fo_71_1, fo_71_2, fo_71_3, fo_51_0, fo_51_1, fo_24_0, fo_24_1, ze_71, ze_51, pb_33, pb_36, pb_60, pb_61, pb_78, pb_34, pb_37, pb_14]; first | (refine dec_split (Q := Q_) (fun hp_ => ?_) (fun hp_ => ?_) <;> first | (exfalso; omega) | (refine hQ_ _ _ ?_; clear hQ_ Q_)) | (refine dec_splitn (Q := Q_) (fun hp_ => ?_) (fun hp_ => ?_) <;> first | (exfalso; omega) | (refine hQ_ _ _ ?_; clear hQ_ Q_)) | (refine hQ_ _ _ ?_; clear hQ_ Q_) | (refine WV_eq (second _ _ _ _ _ (by omega) (by omega) (by omega) _ (wf.X (Nat.le_add_right _ _))) ?_; refine hQ_ _ _ ?_; clear hQ_ Q_)))
  | (refine WC_cond fun K_ hK_ => ?_; simp (disch := omega) only [evT_tmp, upd_apply, WB_some, ↓reduceIte, reduceCtorEq, Nat.reduceEqDiff, Nat.reduceLT]; refine hK_ _ ?_; clear hK_ K_)
  | (with_reducible refine condK_tt ?_) | (with_reducible refine condK_ff ?_) | (with_reducible refine roundQ_exit ?_) | (with_reducible refine roundQ_ret ?_)))
  all_goals (refine endQ_ret _ _ rfl (retc1 (by decide) (by decide) (by simp (disch := first | omega | (simp only [List.length_cons, List.length_nil, List.length_append]; omega)) only [x_move, x_assign, x_pick, x_alloc, x_box, x_build, x_load, x_store, x_nilCheck, x_binOp, x_unOp, x_convert, x_makeFunc, x_makeMap, x_makeSlice, x_slice, x_fieldAddr, x_field, x_indexAddr, x_index, x_lookup, x_mapUpdate, x_extract, x_callB, x_callF, x_callT, x_buildSlice, WV_okI, on1_ok, of_ok, done_ok, evT_tmp, get_tmp, evT_int, evT_bool, evT_str, evT_nils, evT_nilm, evT_nilp, evT_nilf, evT_func, upd_apply, evL_nil, evL_cons', evParts_nil, evParts_cons, pickE_def, allocE_def, cells_bool, cells_int, cells_str, cells_ptr, cells_nilp, cells_sl, cells_nils, cells_map, cells_nilm, cells_fn, cells_nilf, cells_agg, asPtr_ptr, asSl_sl, asB_bool, asB_tup, asTup_tup, asI64_int, toNatE_lit, reszT_nils, reszT_none, toNatE_int, slicesE_def, optNat_none, optNat_def, Int.reduceToNat, Int.toNat_natCast, cellsOf_cells, cellsOf_ro, cellsE_cells, oneB_bool, oneB_int, oneB_str, oneB_ptr, oneB_nilp, oneB_sl, oneB_nils, oneB_map, oneB_nilm, oneB_fn, oneB_nilf, loadE_ptr, storeE_ptr, storeCs_some, storeAll_one, storeAll_two, fieldAddrE_ptr, addOff_some, indexAt_sl, indexAt_arr, extractE_tup, nilCheck_fn, nilCheck_ptr, nilCheck_yld, b_add, b_sub, b_mul, b_eql, b_neq, b_lss, b_leq, b_gtr, b_geq, unE_not, unE_neg, bi_len, bi_append, bi_copy, bi_max, bi_min, buildSliceO_def, buildO_def, ble_dec, fillE_nil, fillE_cons, layOver_def, zerosE_zero, zerosE_succ, wrap_in, min_ck, min_cc, min_cl, Nat.min_self, allOne_nil, allOne_cons, cellAt_cells, cellAt_ro, aggAt_cells, storeAt_cells, writeAt_cells, splice_def, marked_X, nx_X, unmark_keep, unmark_full, app_len0, app_len, set_app_len0, set_app_len, List.append_assoc, List.length_append, argF, cond_true, cond_false, ↓reduceIte, reduceCtorEq, Nat.reduceEqDiff, Nat.reduceLT, Nat.reduceLeDiff, Nat.reduceAdd, Nat.reduceMul, Nat.reduceSub, Nat.reduceBEq, Nat.add_zero, Nat.zero_add, Nat.mul_one, Nat.zero_mul, Nat.one_mul, List.length_cons, List.length_nil, List.cons_append, List.nil_append, List.append_nil, List.getElem?_cons_zero, List.getElem?_cons_succ, List.set_cons_zero, List.set_cons_succ, List.drop_zero, List.drop_succ_cons, List.take_zero, List.take_succ_cons, List.take_nil, List.drop_nil, Bool.not_true, Bool.not_false, Bool.true_and, Bool.and_true, Bool.false_and, Bool.and_false, decide_true, decide_false, eq_self, List.toList_toArray, beq_dec, beq_self_eq_true, loadAgg_X wf, bs_71, bsl_25, newSlice_X wf, ia_2, sz_2, ia_3, sz_3, ia_27, ia_51, sz_51, ia_71, sz_71, ia_24, sz_24, ia_22, ia_25, fo_71_0, fo_71_1, fo_71_2, fo_71_3, fo_51_0, fo_51_1, fo_24_0, fo_24_1, ze_71, ze_51, pb_33, pb_36, pb_60, pb_61, pb_78, pb_34, pb_37, pb_14]; rfl)) ?_; simp only [upd_apply, ↓reduceIte, reduceCtorEq, Nat.reduceEqDiff]; refine WV_flat rfl (by omega) ?_)
  all_goals exact ⟨tup_next (by unfold nextSign; repeat' split
                                all_goals omega) (by unfold chg nextSign; repeat' split
                                                     all_goals omega), rfl⟩
end Go.Proofs.YtghondkiondeaaaDoor
end

/- EvF2 -/
section
/-
  LAYER 1: sums, and what a line measures.
-/
namespace Go.Proofs.YtghondkiondeaaaDoor
open Go.Ev
set_option maxRecDepth 100000
set_option linter.unusedSimpArgs false
set_option linter.unusedVariables false

def wsum (xs : List Int) : Int := xs.foldl (fun a x => IntKind.i64.wrap (a + x)) 0
theorem wsum_take (xs : List Int) (k : Nat) (hk : k < xs.length) : wsum (xs.take (k + 1)) = IntKind.i64.wrap (wsum (xs.take k) + xs[k]) := by
  unfold wsum
  rw [List.take_succ_eq_append_getElem hk, List.foldl_append]; rfl
theorem map_get {xs : List Int} {k : Nat} (hk : k < xs.length) : (xs.map ii)[k]? = some (ii xs[k]) := by simp [hk]

theorem sum (xs : List Int) (a : AV) (hn : xs.length ≤ 1000000) (h : H) (wf : Wf h) (hs : Sl h a 1 xs.length (xs.map ii)) :
    (om Tryd.prog KK).call (.fn 36 [a]) h = .ok (ii (wsum xs)) h := by
  refine WV_to (WV_call (fn := Tryd.f36) Tryd.func36 rfl rfl rfl rfl rfl ?_)
  simp only [argF]
  have hlen : ∀ h', lenE Tryd.prog 25 a h' = some (ii (xs.length : Int)) := fun h' => hs.len un_25
  (repeat' (first
  | (with_reducible refine WC_seq ?_) | (refine WC_region ?_) | (with_reducible refine WC_skip ?_) | (with_reducible refine WC_label ?_) | (with_reducible refine WC_scope ?_) | (with_reducible refine WC_block ?_) | (with_reducible refine WC_ret ?_) | (with_reducible refine WC_exit ?_)
  | (with_reducible refine seqQ_norm ?_) | (with_reducible refine seqQ_ret ?_) | (with_reducible refine seqQ_exit ?_) | (with_reducible refine blkQ_norm ?_) | (with_reducible refine blkQ_ret ?_) | (with_reducible refine blkQ_here ?_) | (refine blkQ_out rfl ?_)
  | (refine WO_nil ?_)
  | (refine WD_nil ?_)
  | (refine WD_gate rfl rfl rfl rfl rfl fun K_ hK_ => ?_; simp only [upd_apply, asB_bool, asB_tup, ↓reduceIte, reduceCtorEq, Nat.reduceEqDiff, Bool.not_true, Bool.not_false]; refine hK_ _ ?_; clear hK_ K_)
  | (refine WO_gate rfl rfl rfl rfl rfl fun K_ hK_ => ?_; simp only [upd_apply, asB_bool, asB_tup, ↓reduceIte, reduceCtorEq, Nat.reduceEqDiff, Bool.not_true, Bool.not_false]; refine hK_ _ ?_; clear hK_ K_)
  | (with_reducible refine gateK_yes ?_) | (refine gateK_no (by decide) ?_) | (with_reducible refine gateK_none ?_)
  | ((try first | refine WO_op rfl rfl rfl ?_ | refine WO_op0 rfl rfl ?_ | refine WD_op rfl rfl rfl ?_ | refine WD_op0 rfl rfl ?_); (refine WV_gen fun Q_ hQ_ => ?_; simp (disch := first | omega | (simp only [List.length_cons, List.length_nil, List.length_append]; omega)) only [x_move, x_assign, x_pick, x_alloc, x_box, x_build, x_load, x_store, x_nilCheck, x_binOp, x_unOp, x_convert, x_makeFunc, x_makeMap, x_makeSlice, x_slice, x_fieldAddr, x_field, x_indexAddr, x_index, x_lookup, x_mapUpdate, x_extract, x_callB, x_callF, x_callT, x_buildSlice, WV_okI, on1_ok, of_ok, done_ok, evT_tmp, get_tmp, evT_int, evT_bool, evT_str, evT_nils, evT_nilm, evT_nilp, evT_nilf, evT_func, upd_apply, evL_nil, evL_cons', evParts_nil, evParts_cons, pickE_def, allocE_def, cells_bool, cells_int, cells_str, cells_ptr, cells_nilp, cells_sl, cells_nils, cells_map, cells_nilm, cells_fn, cells_nilf, cells_agg, asPtr_ptr, asSl_sl, asB_bool, asB_tup, asTup_tup, asI64_int, toNatE_lit, reszT_nils, reszT_none, toNatE_int, slicesE_def, optNat_none, optNat_def, Int.reduceToNat, Int.toNat_natCast, cellsOf_cells, cellsOf_ro, cellsE_cells, oneB_bool, oneB_int, oneB_str, oneB_ptr, oneB_nilp, oneB_sl, oneB_nils, oneB_map, oneB_nilm, oneB_fn, oneB_nilf, loadE_ptr, storeE_ptr, storeCs_some, storeAll_one, storeAll_two, fieldAddrE_ptr, addOff_some, indexAt_sl, indexAt_arr, extractE_tup, nilCheck_fn, nilCheck_ptr, nilCheck_yld, b_add, b_sub, b_mul, b_eql, b_neq, b_lss, b_leq, b_gtr, b_geq, unE_not, unE_neg, bi_len, bi_append, bi_copy, bi_max, bi_min, buildSliceO_def, buildO_def, ble_dec, fillE_nil, fillE_cons, layOver_def, zerosE_zero, zerosE_succ, wrap_in, min_ck, min_cc, min_cl, Nat.min_self, allOne_nil, allOne_cons, cellAt_cells, cellAt_ro, aggAt_cells, storeAt_cells, writeAt_cells, splice_def, marked_X, nx_X, unmark_keep, unmark_full, app_len0, app_len, set_app_len0, set_app_len, List.append_assoc, List.length_append, argF, cond_true, cond_false, ↓reduceIte, reduceCtorEq, Nat.reduceEqDiff, Nat.reduceLT, Nat.reduceLeDiff, Nat.reduceAdd, Nat.reduceMul, Nat.reduceSub, Nat.reduceBEq, Nat.add_zero, Nat.zero_add, Nat.mul_one, Nat.zero_mul, Nat.one_mul, List.length_cons, List.length_nil, List.cons_append, List.nil_append, List.append_nil, List.getElem?_cons_zero, List.getElem?_cons_succ, List.set_cons_zero, List.set_cons_succ, List.drop_zero, List.drop_succ_cons, List.take_zero, List.take_succ_cons, List.take_nil, List.drop_nil, Bool.not_true, Bool.not_false, Bool.true_and, Bool.and_true, Bool.false_and, Bool.and_false, decide_true, decide_false, eq_self, List.toList_toArray, beq_dec, beq_self_eq_true, hlen, bs_71, bsl_25, newSlice_X wf, ia_2, sz_2, ia_3, sz_3, ia_27, ia_51, sz_51, ia_71, sz_71, ia_24, sz_24, ia_22, ia_25, fo_71_0, fo_71_1, fo_71_2, fo_71_3, fo_51_0, fo_51_1, fo_24_0, fo_24_1, ze_71, ze_51, pb_33, pb_36, pb_60, pb_61, pb_78, pb_34, pb_37, pb_14]; first | (refine dec_split (Q := Q_) (fun hp_ => ?_) (fun hp_ => ?_) <;> first | (exfalso; omega) | (refine hQ_ _ _ ?_; clear hQ_ Q_)) | (refine dec_splitn (Q := Q_) (fun hp_ => ?_) (fun hp_ => ?_) <;> first | (exfalso; omega) | (refine hQ_ _ _ ?_; clear hQ_ Q_)) | (refine hQ_ _ _ ?_; clear hQ_ Q_)))
  | (refine WC_cond fun K_ hK_ => ?_; simp (disch := omega) only [evT_tmp, upd_apply, WB_some, ↓reduceIte, reduceCtorEq, Nat.reduceEqDiff, Nat.reduceLT]; refine hK_ _ ?_; clear hK_ K_)
  | (with_reducible refine condK_tt ?_) | (with_reducible refine condK_ff ?_) | (with_reducible refine roundQ_exit ?_) | (with_reducible refine roundQ_ret ?_)))
  refine WC_loop (fun (k : Nat) f d h' => k ≤ xs.length ∧ f 6 = a ∧ f 7 = ii (xs.length : Int) ∧ f 8 = ii (k : Int) ∧ f 3 = ii (wsum (xs.take k)) ∧ d = [] ∧ h' = X h [] h.clock) (fun k => xs.length - k) ?_ (xs.length + 1) 0 (by omega) ?_
  · rintro k f d h' ⟨hk, h6, h7, h8, h3, rfl, rfl⟩
    by_cases hlt : k < xs.length
    · obtain ⟨id, off, hix, hld⟩ := hs.at1 wf hlt ik_25
      rw [map_get hlt] at hld
      have hw := wsum_take xs k hlt
      (repeat' (first
  | (with_reducible refine WC_seq ?_) | (refine WC_region ?_) | (with_reducible refine WC_skip ?_) | (with_reducible refine WC_label ?_) | (with_reducible refine WC_scope ?_) | (with_reducible refine WC_block ?_) | (with_reducible refine WC_ret ?_) | (with_reducible refine WC_exit ?_)
  | (with_reducible refine seqQ_norm ?_) | (with_reducible refine seqQ_ret ?_) | (with_reducible refine seqQ_exit ?_) | (with_reducible refine blkQ_norm ?_) | (with_reducible refine blkQ_ret ?_) | (with_reducible refine blkQ_here ?_) | (refine blkQ_out rfl ?_)
  | (refine WO_nil ?_)
  | (refine WD_nil ?_)
  | (refine WD_gate rfl rfl rfl rfl rfl fun K_ hK_ => ?_; simp only [upd_apply, asB_bool, asB_tup, ↓reduceIte, reduceCtorEq, Nat.reduceEqDiff, Bool.not_true, Bool.not_false]; refine hK_ _ ?_; clear hK_ K_)
  | (refine WO_gate rfl rfl rfl rfl rfl fun K_ hK_ => ?_; simp only [upd_apply, asB_bool, asB_tup, ↓reduceIte, reduceCtorEq, Nat.reduceEqDiff, Bool.not_true, Bool.not_false]; refine hK_ _ ?_; clear hK_ K_)
  | (with_reducible refine gateK_yes ?_) | (refine gateK_no (by decide) ?_) | (with_reducible refine gateK_none ?_)
  | ((try first | refine WO_op rfl rfl rfl ?_ | refine WO_op0 rfl rfl ?_ | refine WD_op rfl rfl rfl ?_ | refine WD_op0 rfl rfl ?_); (refine WV_gen fun Q_ hQ_ => ?_; simp (disch := first | omega | (simp only [List.length_cons, List.length_nil, List.length_append]; omega)) only [x_move, x_assign, x_pick, x_alloc, x_box, x_build, x_load, x_store, x_nilCheck, x_binOp, x_unOp, x_convert, x_makeFunc, x_makeMap, x_makeSlice, x_slice, x_fieldAddr, x_field, x_indexAddr, x_index, x_lookup, x_mapUpdate, x_extract, x_callB, x_callF, x_callT, x_buildSlice, WV_okI, on1_ok, of_ok, done_ok, evT_tmp, get_tmp, evT_int, evT_bool, evT_str, evT_nils, evT_nilm, evT_nilp, evT_nilf, evT_func, upd_apply, evL_nil, evL_cons', evParts_nil, evParts_cons, pickE_def, allocE_def, cells_bool, cells_int, cells_str, cells_ptr, cells_nilp, cells_sl, cells_nils, cells_map, cells_nilm, cells_fn, cells_nilf, cells_agg, asPtr_ptr, asSl_sl, asB_bool, asB_tup, asTup_tup, asI64_int, toNatE_lit, reszT_nils, reszT_none, toNatE_int, slicesE_def, optNat_none, optNat_def, Int.reduceToNat, Int.toNat_natCast, cellsOf_cells, cellsOf_ro, cellsE_cells, oneB_bool, oneB_int, oneB_str, oneB_ptr, oneB_nilp, oneB_sl, oneB_nils, oneB_map, oneB_nilm, oneB_fn, oneB_nilf, loadE_ptr, storeE_ptr, storeCs_some, storeAll_one, storeAll_two, fieldAddrE_ptr, addOff_some, indexAt_sl, indexAt_arr, extractE_tup, nilCheck_fn, nilCheck_ptr, nilCheck_yld, b_add, b_sub, b_mul, b_eql, b_neq, b_lss, b_leq, b_gtr, b_geq, unE_not, unE_neg, bi_len, bi_append, bi_copy, bi_max, bi_min, buildSliceO_def, buildO_def, ble_dec, fillE_nil, fillE_cons, layOver_def, zerosE_zero, zerosE_succ, wrap_in, min_ck, min_cc, min_cl, Nat.min_self, allOne_nil, allOne_cons, cellAt_cells, cellAt_ro, aggAt_cells, storeAt_cells, writeAt_cells, splice_def, marked_X, nx_X, unmark_keep, unmark_full, app_len0, app_len, set_app_len0, set_app_len, List.append_assoc, List.length_append, argF, cond_true, cond_false, ↓reduceIte, reduceCtorEq, Nat.reduceEqDiff, Nat.reduceLT, Nat.reduceLeDiff, Nat.reduceAdd, Nat.reduceMul, Nat.reduceSub, Nat.reduceBEq, Nat.add_zero, Nat.zero_add, Nat.mul_one, Nat.zero_mul, Nat.one_mul, List.length_cons, List.length_nil, List.cons_append, List.nil_append, List.append_nil, List.getElem?_cons_zero, List.getElem?_cons_succ, List.set_cons_zero, List.set_cons_succ, List.drop_zero, List.drop_succ_cons, List.take_zero, List.take_succ_cons, List.take_nil, List.drop_nil, Bool.not_true, Bool.not_false, Bool.true_and, Bool.and_true, Bool.false_and, Bool.and_false, decide_true, decide_false, eq_self, List.toList_toArray, beq_dec, beq_self_eq_true, h6, h7, h8, h3, hix, hld, bs_71, bsl_25, newSlice_X wf, ia_2, sz_2, ia_3, sz_3, ia_27, ia_51, sz_51, ia_71, sz_71, ia_24, sz_24, ia_22, ia_25, fo_71_0, fo_71_1, fo_71_2, fo_71_3, fo_51_0, fo_51_1, fo_24_0, fo_24_1, ze_71, ze_51, pb_33, pb_36, pb_60, pb_61, pb_78, pb_34, pb_37, pb_14]; first | (refine dec_split (Q := Q_) (fun hp_ => ?_) (fun hp_ => ?_) <;> first | (exfalso; omega) | (refine hQ_ _ _ ?_; clear hQ_ Q_)) | (refine dec_splitn (Q := Q_) (fun hp_ => ?_) (fun hp_ => ?_) <;> first | (exfalso; omega) | (refine hQ_ _ _ ?_; clear hQ_ Q_)) | (refine hQ_ _ _ ?_; clear hQ_ Q_)))
  | (refine WC_cond fun K_ hK_ => ?_; simp (disch := omega) only [evT_tmp, upd_apply, WB_some, ↓reduceIte, reduceCtorEq, Nat.reduceEqDiff, Nat.reduceLT]; refine hK_ _ ?_; clear hK_ K_)
  | (with_reducible refine condK_tt ?_) | (with_reducible refine condK_ff ?_) | (with_reducible refine roundQ_exit ?_) | (with_reducible refine roundQ_ret ?_)))
      exact roundQ_again (k + 1) (by omega) ⟨hlt, by simp only [upd_apply, ↓reduceIte, reduceCtorEq, Nat.reduceEqDiff]; exact h6, by simp only [upd_apply, ↓reduceIte, reduceCtorEq, Nat.reduceEqDiff]; exact h7, by simp only [upd_apply, ↓reduceIte, reduceCtorEq, Nat.reduceEqDiff]; rfl, by simp only [upd_apply, ↓reduceIte, reduceCtorEq, Nat.reduceEqDiff]; rw [hw], rfl, rfl⟩
    · have hkl : k = xs.length := by omega
      subst hkl
      rw [List.take_length] at h3
      (repeat' (first
  | (with_reducible refine WC_seq ?_) | (refine WC_region ?_) | (with_reducible refine WC_skip ?_) | (with_reducible refine WC_label ?_) | (with_reducible refine WC_scope ?_) | (with_reducible refine WC_block ?_) | (with_reducible refine WC_ret ?_) | (with_reducible refine WC_exit ?_)
  | (with_reducible refine seqQ_norm ?_) | (with_reducible refine seqQ_ret ?_) | (with_reducible refine seqQ_exit ?_) | (with_reducible refine blkQ_norm ?_) | (with_reducible refine blkQ_ret ?_) | (with_reducible refine blkQ_here ?_) | (refine blkQ_out rfl ?_)
  | (refine WO_nil ?_)
  | (refine WD_nil ?_)
  | (refine WD_gate rfl rfl rfl rfl rfl fun K_ hK_ => ?_; simp only [upd_apply, asB_bool, asB_tup, ↓reduceIte, reduceCtorEq, Nat.reduceEqDiff, Bool.not_true, Bool.not_false]; refine hK_ _ ?_; clear hK_ K_)
  | (refine WO_gate rfl rfl rfl rfl rfl fun K_ hK_ => ?_; simp only [upd_apply, asB_bool, asB_tup, ↓reduceIte, reduceCtorEq, Nat.reduceEqDiff, Bool.not_true, Bool.not_false]; refine hK_ _ ?_; clear hK_ K_)
  | (with_reducible refine gateK_yes ?_) | (refine gateK_no (by decide) ?_) | (with_reducible refine gateK_none ?_)
  | ((try first | refine WO_op rfl rfl rfl ?_ | refine WO_op0 rfl rfl ?_ | refine WD_op rfl rfl rfl ?_ | refine WD_op0 rfl rfl ?_); (refine WV_gen fun Q_ hQ_ => ?_; simp (disch := first | omega | (simp only [List.length_cons, List.length_nil, List.length_append]; omega)) only [x_move, x_assign, x_pick, x_alloc, x_box, x_build, x_load, x_store, x_nilCheck, x_binOp, x_unOp, x_convert, x_makeFunc, x_makeMap, x_makeSlice, x_slice, x_fieldAddr, x_field, x_indexAddr, x_index, x_lookup, x_mapUpdate, x_extract, x_callB, x_callF, x_callT, x_buildSlice, WV_okI, on1_ok, of_ok, done_ok, evT_tmp, get_tmp, evT_int, evT_bool, evT_str, evT_nils, evT_nilm, evT_nilp, evT_nilf, evT_func, upd_apply, evL_nil, evL_cons', evParts_nil, evParts_cons, pickE_def, allocE_def, cells_bool, cells_int, cells_str, cells_ptr, cells_nilp, cells_sl, cells_nils, cells_map, cells_nilm, cells_fn, cells_nilf, cells_agg, asPtr_ptr, asSl_sl, asB_bool, asB_tup, asTup_tup, asI64_int, toNatE_lit, reszT_nils, reszT_none, toNatE_int, slicesE_def, optNat_none, optNat_def, Int.reduceToNat, Int.toNat_natCast, cellsOf_cells, cellsOf_ro, cellsE_cells, oneB_bool, oneB_int, oneB_str, oneB_ptr, oneB_nilp, oneB_sl, oneB_nils, oneB_map, oneB_nilm, oneB_fn, oneB_nilf, loadE_ptr, storeE_ptr, storeCs_some, storeAll_one, storeAll_two, fieldAddrE_ptr, addOff_some, indexAt_sl, indexAt_arr, extractE_tup, nilCheck_fn, nilCheck_ptr, nilCheck_yld, b_add, b_sub, b_mul, b_eql, b_neq, b_lss, b_leq, b_gtr, b_geq, unE_not, unE_neg, bi_len, bi_append, bi_copy, bi_max, bi_min, buildSliceO_def, buildO_def, ble_dec, fillE_nil, fillE_cons, layOver_def, zerosE_zero, zerosE_succ, wrap_in, min_ck, min_cc, min_cl, Nat.min_self, allOne_nil, allOne_cons, cellAt_cells, cellAt_ro, aggAt_cells, storeAt_cells, writeAt_cells, splice_def, marked_X, nx_X, unmark_keep, unmark_full, app_len0, app_len, set_app_len0, set_app_len, List.append_assoc, List.length_append, argF, cond_true, cond_false, ↓reduceIte, reduceCtorEq, Nat.reduceEqDiff, Nat.reduceLT, Nat.reduceLeDiff, Nat.reduceAdd, Nat.reduceMul, Nat.reduceSub, Nat.reduceBEq, Nat.add_zero, Nat.zero_add, Nat.mul_one, Nat.zero_mul, Nat.one_mul, List.length_cons, List.length_nil, List.cons_append, List.nil_append, List.append_nil, List.getElem?_cons_zero, List.getElem?_cons_succ, List.set_cons_zero, List.set_cons_succ, List.drop_zero, List.drop_succ_cons, List.take_zero, List.take_succ_cons, List.take_nil, List.drop_nil, Bool.not_true, Bool.not_false, Bool.true_and, Bool.and_true, Bool.false_and, Bool.and_false, decide_true, decide_false, eq_self, List.toList_toArray, beq_dec, beq_self_eq_true, h6, h7, h8, h3, bs_71, bsl_25, newSlice_X wf, ia_2, sz_2, ia_3, sz_3, ia_27, ia_51, sz_51, ia_71, sz_71, ia_24, sz_24, ia_22, ia_25, fo_71_0, fo_71_1, fo_71_2, fo_71_3, fo_51_0, fo_51_1, fo_24_0, fo_24_1, ze_71, ze_51, pb_33, pb_36, pb_60, pb_61, pb_78, pb_34, pb_37, pb_14]; first | (refine dec_split (Q := Q_) (fun hp_ => ?_) (fun hp_ => ?_) <;> first | (exfalso; omega) | (refine hQ_ _ _ ?_; clear hQ_ Q_)) | (refine dec_splitn (Q := Q_) (fun hp_ => ?_) (fun hp_ => ?_) <;> first | (exfalso; omega) | (refine hQ_ _ _ ?_; clear hQ_ Q_)) | (refine hQ_ _ _ ?_; clear hQ_ Q_)))
  | (refine WC_cond fun K_ hK_ => ?_; simp (disch := omega) only [evT_tmp, upd_apply, WB_some, ↓reduceIte, reduceCtorEq, Nat.reduceEqDiff, Nat.reduceLT]; refine hK_ _ ?_; clear hK_ K_)
  | (with_reducible refine condK_tt ?_) | (with_reducible refine condK_ff ?_) | (with_reducible refine roundQ_exit ?_) | (with_reducible refine roundQ_ret ?_)))
      (refine endQ_ret _ _ rfl (ret1 (by decide)) ?_; simp only [upd_apply, ↓reduceIte, reduceCtorEq, Nat.reduceEqDiff]; refine WV_flat rfl (by omega) ?_)
      exact ⟨rfl, rfl⟩
  · refine ⟨Nat.zero_le _, by simp only [upd_apply, ↓reduceIte, reduceCtorEq, Nat.reduceEqDiff], by simp only [upd_apply, ↓reduceIte, reduceCtorEq, Nat.reduceEqDiff], by simp only [upd_apply, ↓reduceIte, reduceCtorEq, Nat.reduceEqDiff]; rfl, by simp only [upd_apply, ↓reduceIte, reduceCtorEq, Nat.reduceEqDiff]; rfl, rfl, rfl⟩
end Go.Proofs.YtghondkiondeaaaDoor
end

/- EvF3 -/
section
/-
  LAYER 1: what a line measures, by the program.
-/
namespace Go.Proofs.YtghondkiondeaaaDoor
open Go.Ev
set_option maxRecDepth 100000
set_option linter.unusedSimpArgs false
set_option linter.unusedVariables false

structure St5 where
  a : Int
  b : Int
  s : Int
  ch : Int
  be : Int
def St5.d (t : St5) (c : Int) : Int := t.a - 2 * t.b + c
def mstep (t : St5) (c : Int) : St5 := ⟨t.b, c, nextSign t.s (t.d c), t.ch + chg t.s (t.d c), t.be + max (t.d c) (0 - t.d c)⟩
def mfold (a b : Int) (r : List Int) : St5 := r.foldl mstep ⟨a, b, 0, 0, 0⟩
theorem mfold_snoc (a b : Int) (r : List Int) (c : Int) : mfold a b (r ++ [c]) = mstep (mfold a b r) c := by unfold mfold; rw [List.foldl_append]; rfl
theorem mfold_take (a b : Int) (r : List Int) (k : Nat) (hk : k < r.length) : mfold a b (r.take (k + 1)) = mstep (mfold a b (r.take k)) r[k] := by
  rw [List.take_succ_eq_append_getElem hk, mfold_snoc]
theorem chg_01 (s d : Int) : 0 ≤ chg s d ∧ chg s d ≤ 1 := by unfold chg; split <;> omega
structure St5.In (t : St5) (k : Nat) : Prop where
  a : Off t.a
  b : Off t.b
  ch0 : 0 ≤ t.ch
  ch1 : t.ch ≤ k
  be0 : 0 ≤ t.be
  be1 : t.be ≤ 4000000 * k
theorem mfold_in {a b : Int} {r : List Int} (ha : Off a) (hb : Off b) (hr : ∀ x ∈ r, Off x) : ∀ k, k ≤ r.length → (mfold a b (r.take k)).In k
  | 0, _ => by rw [List.take_zero]; exact ⟨ha, hb, Int.le_refl 0, Int.le_refl 0, Int.le_refl 0, Int.le_refl 0⟩
  | k + 1, hk => by
    have ih := mfold_in ha hb hr k (by omega)
    have hc : Off r[k] := hr _ (List.getElem_mem _)
    rw [mfold_take a b r k hk]
    have h1 := chg_01 (mfold a b (r.take k)).s ((mfold a b (r.take k)).d r[k])
    obtain ⟨i1, i2, i3, i4, i5, i6⟩ := ih
    have hd : -4000000 ≤ (mfold a b (r.take k)).d r[k] ∧ (mfold a b (r.take k)).d r[k] ≤ 4000000 := by
      unfold St5.d
      obtain ⟨x1, x2⟩ := i1; obtain ⟨y1, y2⟩ := i2; obtain ⟨z1, z2⟩ := hc
      omega
    exact ⟨i2, hc, by simp only [mstep]; omega, by simp only [mstep]; push_cast; omega, by simp only [mstep]; omega, by simp only [mstep]; push_cast; omega⟩

theorem sum2 {x y : Int} {h0 : H} (wf : Wf h0) {l : List AO} {w k e cap : Nat} (hk : l[k]? = some (.cells (mkCells [ii x, ii y]) e)) (hw : w ≤ h0.clock + l.length) (hx : -1000000000000000000 ≤ x ∧ x ≤ 1000000000000000000) (hy : -1000000000000000000 ≤ y ∧ y ≤ 1000000000000000000) :
    (om Tryd.prog KK).call (.fn 36 [.sl (nx h0 k) 0 2 (some cap) 1]) (X h0 l w) = .ok (ii (x + y)) (X h0 l w) := by
  have := sum [x, y] (.sl (nx h0 k) 0 2 (some cap) 1) (by simp) (X h0 l w) (wf.X hw) (Sl.new wf rfl hk)
  have e : wsum [x, y] = x + y := by
    show IntKind.i64.wrap (IntKind.i64.wrap (0 + x) + y) = _
    rw [wrap_in (0 + x) (by omega) (by omega), wrap_in _ (by omega) (by omega)]; omega
  rw [e] at this
  exact this

theorem measure (a0 b0 : Int) (r : List Int) (a : AV) (hn : r.length ≤ 1000000) (ha : Off a0) (hb : Off b0) (hr : ∀ x ∈ r, Off x) (hc : Capd a) (h : H) (wf : Wf h) (hs : Sl h a 1 (r.length + 2) ((a0 :: b0 :: r).map ii)) :
    (om Tryd.prog KK).call (.fn 34 [a]) h = .ok (.tup [ii (mfold a0 b0 r).ch, ii (mfold a0 b0 r).be]) h := by
  refine WV_to (WV_call (fn := Tryd.f34) Tryd.func34 rfl rfl rfl rfl rfl ?_)
  simp only [argF]
  have hlen : ∀ h', lenE Tryd.prog 25 a h' = some (ii ((r.length + 2 : Nat) : Int)) := fun h' => hs.len un_25
  obtain ⟨i0, o0, hx0, hl0⟩ := hs.at1 wf (i := 0) (by omega) ik_25
  obtain ⟨i1, o1, hx1, hl1⟩ := hs.at1 wf (i := 1) (by omega) ik_25
  obtain ⟨b, hsl, hb'⟩ := hs.from (P := Tryd.prog) (k := 2) (by omega) un_25 sz_2 hc.1 hc.2
  have hx0' : indexAddrE Tryd.prog 25 a (.int .i64 0) = some (.ptr i0 o0) := hx0
  have hx1' : indexAddrE Tryd.prog 25 a (.int .i64 1) = some (.ptr i1 o1) := hx1
  have hl0' : ∀ l w, load1 i0 o0 (X h l w) = some (ii a0) := hl0
  have hl1' : ∀ l w, load1 i1 o1 (X h l w) = some (ii b0) := hl1
  have hb2 : Sl h b 1 r.length (r.map ii) := hb'
  have hlb : ∀ h', lenE Tryd.prog 25 b h' = some (ii (r.length : Int)) := fun h' => hb2.len un_25
  clear hx0 hx1 hl0 hl1 hb'
  (repeat' (first
  | (with_reducible refine WC_seq ?_) | (refine WC_region ?_) | (with_reducible refine WC_skip ?_) | (with_reducible refine WC_label ?_) | (with_reducible refine WC_scope ?_) | (with_reducible refine WC_block ?_) | (with_reducible refine WC_ret ?_) | (with_reducible refine WC_exit ?_)
  | (with_reducible refine seqQ_norm ?_) | (with_reducible refine seqQ_ret ?_) | (with_reducible refine seqQ_exit ?_) | (with_reducible refine blkQ_norm ?_) | (with_reducible refine blkQ_ret ?_) | (with_reducible refine blkQ_here ?_) | (refine blkQ_out rfl ?_)
  | (refine WO_nil ?_)
  | (refine WD_nil ?_)
  | (refine WD_gate rfl rfl rfl rfl rfl fun K_ hK_ => ?_; simp only [upd_apply, asB_bool, asB_tup, ↓reduceIte, reduceCtorEq, Nat.reduceEqDiff, Bool.not_true, Bool.not_false]; refine hK_ _ ?_; clear hK_ K_)
  | (refine WO_gate rfl rfl rfl rfl rfl fun K_ hK_ => ?_; simp only [upd_apply, asB_bool, asB_tup, ↓reduceIte, reduceCtorEq, Nat.reduceEqDiff, Bool.not_true, Bool.not_false]; refine hK_ _ ?_; clear hK_ K_)
  | (with_reducible refine gateK_yes ?_) | (refine gateK_no (by decide) ?_) | (with_reducible refine gateK_none ?_)
  | ((try first | refine WO_op rfl rfl rfl ?_ | refine WO_op0 rfl rfl ?_ | refine WD_op rfl rfl rfl ?_ | refine WD_op0 rfl rfl ?_); (refine WV_gen fun Q_ hQ_ => ?_; simp (disch := first | omega | (simp only [List.length_cons, List.length_nil, List.length_append]; omega)) only [x_move, x_assign, x_pick, x_alloc, x_box, x_build, x_load, x_store, x_nilCheck, x_binOp, x_unOp, x_convert, x_makeFunc, x_makeMap, x_makeSlice, x_slice, x_fieldAddr, x_field, x_indexAddr, x_index, x_lookup, x_mapUpdate, x_extract, x_callB, x_callF, x_callT, x_buildSlice, WV_okI, on1_ok, of_ok, done_ok, evT_tmp, get_tmp, evT_int, evT_bool, evT_str, evT_nils, evT_nilm, evT_nilp, evT_nilf, evT_func, upd_apply, evL_nil, evL_cons', evParts_nil, evParts_cons, pickE_def, allocE_def, cells_bool, cells_int, cells_str, cells_ptr, cells_nilp, cells_sl, cells_nils, cells_map, cells_nilm, cells_fn, cells_nilf, cells_agg, asPtr_ptr, asSl_sl, asB_bool, asB_tup, asTup_tup, asI64_int, toNatE_lit, reszT_nils, reszT_none, toNatE_int, slicesE_def, optNat_none, optNat_def, Int.reduceToNat, Int.toNat_natCast, cellsOf_cells, cellsOf_ro, cellsE_cells, oneB_bool, oneB_int, oneB_str, oneB_ptr, oneB_nilp, oneB_sl, oneB_nils, oneB_map, oneB_nilm, oneB_fn, oneB_nilf, loadE_ptr, storeE_ptr, storeCs_some, storeAll_one, storeAll_two, fieldAddrE_ptr, addOff_some, indexAt_sl, indexAt_arr, extractE_tup, nilCheck_fn, nilCheck_ptr, nilCheck_yld, b_add, b_sub, b_mul, b_eql, b_neq, b_lss, b_leq, b_gtr, b_geq, unE_not, unE_neg, bi_len, bi_append, bi_copy, bi_max, bi_min, buildSliceO_def, buildO_def, ble_dec, fillE_nil, fillE_cons, layOver_def, zerosE_zero, zerosE_succ, wrap_in, min_ck, min_cc, min_cl, Nat.min_self, allOne_nil, allOne_cons, cellAt_cells, cellAt_ro, aggAt_cells, storeAt_cells, writeAt_cells, splice_def, marked_X, nx_X, unmark_keep, unmark_full, app_len0, app_len, set_app_len0, set_app_len, List.append_assoc, List.length_append, argF, cond_true, cond_false, ↓reduceIte, reduceCtorEq, Nat.reduceEqDiff, Nat.reduceLT, Nat.reduceLeDiff, Nat.reduceAdd, Nat.reduceMul, Nat.reduceSub, Nat.reduceBEq, Nat.add_zero, Nat.zero_add, Nat.mul_one, Nat.zero_mul, Nat.one_mul, List.length_cons, List.length_nil, List.cons_append, List.nil_append, List.append_nil, List.getElem?_cons_zero, List.getElem?_cons_succ, List.set_cons_zero, List.set_cons_succ, List.drop_zero, List.drop_succ_cons, List.take_zero, List.take_succ_cons, List.take_nil, List.drop_nil, Bool.not_true, Bool.not_false, Bool.true_and, Bool.and_true, Bool.false_and, Bool.and_false, decide_true, decide_false, eq_self, List.toList_toArray, beq_dec, beq_self_eq_true, hlen, bs_71, bsl_25, newSlice_X wf, ia_2, sz_2, ia_3, sz_3, ia_27, ia_51, sz_51, ia_71, sz_71, ia_24, sz_24, ia_22, ia_25, fo_71_0, fo_71_1, fo_71_2, fo_71_3, fo_51_0, fo_51_1, fo_24_0, fo_24_1, ze_71, ze_51, pb_33, pb_36, pb_60, pb_61, pb_78, pb_34, pb_37, pb_14]; first | (refine dec_split (Q := Q_) (fun hp_ => ?_) (fun hp_ => ?_) <;> first | (exfalso; omega) | (refine hQ_ _ _ ?_; clear hQ_ Q_)) | (refine dec_splitn (Q := Q_) (fun hp_ => ?_) (fun hp_ => ?_) <;> first | (exfalso; omega) | (refine hQ_ _ _ ?_; clear hQ_ Q_)) | (refine hQ_ _ _ ?_; clear hQ_ Q_)))
  | (refine WC_cond fun K_ hK_ => ?_; simp (disch := omega) only [evT_tmp, upd_apply, WB_some, ↓reduceIte, reduceCtorEq, Nat.reduceEqDiff, Nat.reduceLT]; refine hK_ _ ?_; clear hK_ K_)
  | (with_reducible refine condK_tt ?_) | (with_reducible refine condK_ff ?_) | (with_reducible refine roundQ_exit ?_) | (with_reducible refine roundQ_ret ?_)))
  refine WC_drawnB [.no, .no, .no, .no, .no, .no, .no, .no, .full] (by kernel_rfl) ?_
  (repeat' (first
  | (with_reducible refine WC_seq ?_) | (refine WC_region ?_) | (with_reducible refine WC_skip ?_) | (with_reducible refine WC_label ?_) | (with_reducible refine WC_scope ?_) | (with_reducible refine WC_block ?_) | (with_reducible refine WC_ret ?_) | (with_reducible refine WC_exit ?_)
  | (with_reducible refine seqQ_norm ?_) | (with_reducible refine seqQ_ret ?_) | (with_reducible refine seqQ_exit ?_) | (with_reducible refine blkQ_norm ?_) | (with_reducible refine blkQ_ret ?_) | (with_reducible refine blkQ_here ?_) | (refine blkQ_out rfl ?_)
  | (refine WO_nil ?_)
  | (refine WD_nil ?_)
  | (refine WD_gate rfl rfl rfl rfl rfl fun K_ hK_ => ?_; simp only [upd_apply, asB_bool, asB_tup, ↓reduceIte, reduceCtorEq, Nat.reduceEqDiff, Bool.not_true, Bool.not_false]; refine hK_ _ ?_; clear hK_ K_)
  | (refine WO_gate rfl rfl rfl rfl rfl fun K_ hK_ => ?_; simp only [upd_apply, asB_bool, asB_tup, ↓reduceIte, reduceCtorEq, Nat.reduceEqDiff, Bool.not_true, Bool.not_false]; refine hK_ _ ?_; clear hK_ K_)
  | (with_reducible refine gateK_yes ?_) | (refine gateK_no (by decide) ?_) | (with_reducible refine gateK_none ?_)
  | ((try first | refine WO_op rfl rfl rfl ?_ | refine WO_op0 rfl rfl ?_ | refine WD_op rfl rfl rfl ?_ | refine WD_op0 rfl rfl ?_); (refine WV_gen fun Q_ hQ_ => ?_; simp (disch := first | omega | (simp only [List.length_cons, List.length_nil, List.length_append]; omega)) only [x_move, x_assign, x_pick, x_alloc, x_box, x_build, x_load, x_store, x_nilCheck, x_binOp, x_unOp, x_convert, x_makeFunc, x_makeMap, x_makeSlice, x_slice, x_fieldAddr, x_field, x_indexAddr, x_index, x_lookup, x_mapUpdate, x_extract, x_callB, x_callF, x_callT, x_buildSlice, WV_okI, on1_ok, of_ok, done_ok, evT_tmp, get_tmp, evT_int, evT_bool, evT_str, evT_nils, evT_nilm, evT_nilp, evT_nilf, evT_func, upd_apply, evL_nil, evL_cons', evParts_nil, evParts_cons, pickE_def, allocE_def, cells_bool, cells_int, cells_str, cells_ptr, cells_nilp, cells_sl, cells_nils, cells_map, cells_nilm, cells_fn, cells_nilf, cells_agg, asPtr_ptr, asSl_sl, asB_bool, asB_tup, asTup_tup, asI64_int, toNatE_lit, reszT_nils, reszT_none, toNatE_int, slicesE_def, optNat_none, optNat_def, Int.reduceToNat, Int.toNat_natCast, cellsOf_cells, cellsOf_ro, cellsE_cells, oneB_bool, oneB_int, oneB_str, oneB_ptr, oneB_nilp, oneB_sl, oneB_nils, oneB_map, oneB_nilm, oneB_fn, oneB_nilf, loadE_ptr, storeE_ptr, storeCs_some, storeAll_one, storeAll_two, fieldAddrE_ptr, addOff_some, indexAt_sl, indexAt_arr, extractE_tup, nilCheck_fn, nilCheck_ptr, nilCheck_yld, b_add, b_sub, b_mul, b_eql, b_neq, b_lss, b_leq, b_gtr, b_geq, unE_not, unE_neg, bi_len, bi_append, bi_copy, bi_max, bi_min, buildSliceO_def, buildO_def, ble_dec, fillE_nil, fillE_cons, layOver_def, zerosE_zero, zerosE_succ, wrap_in, min_ck, min_cc, min_cl, Nat.min_self, allOne_nil, allOne_cons, cellAt_cells, cellAt_ro, aggAt_cells, storeAt_cells, writeAt_cells, splice_def, marked_X, nx_X, unmark_keep, unmark_full, app_len0, app_len, set_app_len0, set_app_len, List.append_assoc, List.length_append, argF, cond_true, cond_false, ↓reduceIte, reduceCtorEq, Nat.reduceEqDiff, Nat.reduceLT, Nat.reduceLeDiff, Nat.reduceAdd, Nat.reduceMul, Nat.reduceSub, Nat.reduceBEq, Nat.add_zero, Nat.zero_add, Nat.mul_one, Nat.zero_mul, Nat.one_mul, List.length_cons, List.length_nil, List.cons_append, List.nil_append, List.append_nil, List.getElem?_cons_zero, List.getElem?_cons_succ, List.set_cons_zero, List.set_cons_succ, List.drop_zero, List.drop_succ_cons, List.take_zero, List.take_succ_cons, List.take_nil, List.drop_nil, Bool.not_true, Bool.not_false, Bool.true_and, Bool.and_true, Bool.false_and, Bool.and_false, decide_true, decide_false, eq_self, List.toList_toArray, beq_dec, beq_self_eq_true, hx0', hx1', hl0', hl1', newPtr_X wf, load1_X wf, loadAgg_X wf, store1_X wf, writeCells_X wf, bs_71, bsl_25, newSlice_X wf, ia_2, sz_2, ia_3, sz_3, ia_27, ia_51, sz_51, ia_71, sz_71, ia_24, sz_24, ia_22, ia_25, fo_71_0, fo_71_1, fo_71_2, fo_71_3, fo_51_0, fo_51_1, fo_24_0, fo_24_1, ze_71, ze_51, pb_33, pb_36, pb_60, pb_61, pb_78, pb_34, pb_37, pb_14]; first | (refine dec_split (Q := Q_) (fun hp_ => ?_) (fun hp_ => ?_) <;> first | (exfalso; omega) | (refine hQ_ _ _ ?_; clear hQ_ Q_)) | (refine dec_splitn (Q := Q_) (fun hp_ => ?_) (fun hp_ => ?_) <;> first | (exfalso; omega) | (refine hQ_ _ _ ?_; clear hQ_ Q_)) | (refine hQ_ _ _ ?_; clear hQ_ Q_)))
  | (refine WC_cond fun K_ hK_ => ?_; simp (disch := omega) only [evT_tmp, upd_apply, WB_some, ↓reduceIte, reduceCtorEq, Nat.reduceEqDiff, Nat.reduceLT]; refine hK_ _ ?_; clear hK_ K_)
  | (with_reducible refine condK_tt ?_) | (with_reducible refine condK_ff ?_) | (with_reducible refine roundQ_exit ?_) | (with_reducible refine roundQ_ret ?_)))
  (repeat' (first
  | (with_reducible refine WC_seq ?_) | (refine WC_region ?_) | (with_reducible refine WC_skip ?_) | (with_reducible refine WC_label ?_) | (with_reducible refine WC_scope ?_) | (with_reducible refine WC_block ?_) | (with_reducible refine WC_ret ?_) | (with_reducible refine WC_exit ?_)
  | (with_reducible refine seqQ_norm ?_) | (with_reducible refine seqQ_ret ?_) | (with_reducible refine seqQ_exit ?_) | (with_reducible refine blkQ_norm ?_) | (with_reducible refine blkQ_ret ?_) | (with_reducible refine blkQ_here ?_) | (refine blkQ_out rfl ?_)
  | (refine WO_nil ?_)
  | (refine WD_nil ?_)
  | (refine WD_gate rfl rfl rfl rfl rfl fun K_ hK_ => ?_; simp only [upd_apply, asB_bool, asB_tup, ↓reduceIte, reduceCtorEq, Nat.reduceEqDiff, Bool.not_true, Bool.not_false]; refine hK_ _ ?_; clear hK_ K_)
  | (refine WO_gate rfl rfl rfl rfl rfl fun K_ hK_ => ?_; simp only [upd_apply, asB_bool, asB_tup, ↓reduceIte, reduceCtorEq, Nat.reduceEqDiff, Bool.not_true, Bool.not_false]; refine hK_ _ ?_; clear hK_ K_)
  | (with_reducible refine gateK_yes ?_) | (refine gateK_no (by decide) ?_) | (with_reducible refine gateK_none ?_)
  | ((try first | refine WO_op rfl rfl rfl ?_ | refine WO_op0 rfl rfl ?_ | refine WD_op rfl rfl rfl ?_ | refine WD_op0 rfl rfl ?_); (refine WV_gen fun Q_ hQ_ => ?_; simp (disch := first | omega | (simp only [List.length_cons, List.length_nil, List.length_append]; omega)) only [x_move, x_assign, x_pick, x_alloc, x_box, x_build, x_load, x_store, x_nilCheck, x_binOp, x_unOp, x_convert, x_makeFunc, x_makeMap, x_makeSlice, x_slice, x_fieldAddr, x_field, x_indexAddr, x_index, x_lookup, x_mapUpdate, x_extract, x_callB, x_callF, x_callT, x_buildSlice, WV_okI, on1_ok, of_ok, done_ok, evT_tmp, get_tmp, evT_int, evT_bool, evT_str, evT_nils, evT_nilm, evT_nilp, evT_nilf, evT_func, upd_apply, evL_nil, evL_cons', evParts_nil, evParts_cons, pickE_def, allocE_def, cells_bool, cells_int, cells_str, cells_ptr, cells_nilp, cells_sl, cells_nils, cells_map, cells_nilm, cells_fn, cells_nilf, cells_agg, asPtr_ptr, asSl_sl, asB_bool, asB_tup, asTup_tup, asI64_int, toNatE_lit, reszT_nils, reszT_none, toNatE_int, slicesE_def, optNat_none, optNat_def, Int.reduceToNat, Int.toNat_natCast, cellsOf_cells, cellsOf_ro, cellsE_cells, oneB_bool, oneB_int, oneB_str, oneB_ptr, oneB_nilp, oneB_sl, oneB_nils, oneB_map, oneB_nilm, oneB_fn, oneB_nilf, loadE_ptr, storeE_ptr, storeCs_some, storeAll_one, storeAll_two, fieldAddrE_ptr, addOff_some, indexAt_sl, indexAt_arr, extractE_tup, nilCheck_fn, nilCheck_ptr, nilCheck_yld, b_add, b_sub, b_mul, b_eql, b_neq, b_lss, b_leq, b_gtr, b_geq, unE_not, unE_neg, bi_len, bi_append, bi_copy, bi_max, bi_min, buildSliceO_def, buildO_def, ble_dec, fillE_nil, fillE_cons, layOver_def, zerosE_zero, zerosE_succ, wrap_in, min_ck, min_cc, min_cl, Nat.min_self, allOne_nil, allOne_cons, cellAt_cells, cellAt_ro, aggAt_cells, storeAt_cells, writeAt_cells, splice_def, marked_X, nx_X, unmark_keep, unmark_full, app_len0, app_len, set_app_len0, set_app_len, List.append_assoc, List.length_append, argF, cond_true, cond_false, ↓reduceIte, reduceCtorEq, Nat.reduceEqDiff, Nat.reduceLT, Nat.reduceLeDiff, Nat.reduceAdd, Nat.reduceMul, Nat.reduceSub, Nat.reduceBEq, Nat.add_zero, Nat.zero_add, Nat.mul_one, Nat.zero_mul, Nat.one_mul, List.length_cons, List.length_nil, List.cons_append, List.nil_append, List.append_nil, List.getElem?_cons_zero, List.getElem?_cons_succ, List.set_cons_zero, List.set_cons_succ, List.drop_zero, List.drop_succ_cons, List.take_zero, List.take_succ_cons, List.take_nil, List.drop_nil, Bool.not_true, Bool.not_false, Bool.true_and, Bool.and_true, Bool.false_and, Bool.and_false, decide_true, decide_false, eq_self, List.toList_toArray, beq_dec, beq_self_eq_true, hlb, hsl, newPtr_X wf, load1_X wf, loadAgg_X wf, store1_X wf, writeCells_X wf, bs_71, bsl_25, newSlice_X wf, ia_2, sz_2, ia_3, sz_3, ia_27, ia_51, sz_51, ia_71, sz_71, ia_24, sz_24, ia_22, ia_25, fo_71_0, fo_71_1, fo_71_2, fo_71_3, fo_51_0, fo_51_1, fo_24_0, fo_24_1, ze_71, ze_51, pb_33, pb_36, pb_60, pb_61, pb_78, pb_34, pb_37, pb_14]; first | (refine dec_split (Q := Q_) (fun hp_ => ?_) (fun hp_ => ?_) <;> first | (exfalso; omega) | (refine hQ_ _ _ ?_; clear hQ_ Q_)) | (refine dec_splitn (Q := Q_) (fun hp_ => ?_) (fun hp_ => ?_) <;> first | (exfalso; omega) | (refine hQ_ _ _ ?_; clear hQ_ Q_)) | (refine hQ_ _ _ ?_; clear hQ_ Q_)))
  | (refine WC_cond fun K_ hK_ => ?_; simp (disch := omega) only [evT_tmp, upd_apply, WB_some, ↓reduceIte, reduceCtorEq, Nat.reduceEqDiff, Nat.reduceLT]; refine hK_ _ ?_; clear hK_ K_)
  | (with_reducible refine condK_tt ?_) | (with_reducible refine condK_ff ?_) | (with_reducible refine roundQ_exit ?_) | (with_reducible refine roundQ_ret ?_)))
  refine WC_loop (fun (k : Nat) f d h' => k ≤ r.length ∧ f 4 = .ptr (nx h 0) 0 ∧ f 20 = b ∧ f 21 = ii (r.length : Int) ∧ f 22 = ii (k : Int) ∧ f 2 = ii (mfold a0 b0 (r.take k)).ch ∧ f 3 = ii (mfold a0 b0 (r.take k)).be ∧ d = [] ∧
    ∃ G, h' = X h (.cells (mkCells [ii (k + 1), ii (mfold a0 b0 (r.take k)).a, ii (mfold a0 b0 (r.take k)).b, ii (mfold a0 b0 (r.take k)).s]) 71 :: G) h.clock) (fun k => r.length - k) ?_ (r.length + 1) 0 (by omega) ?_
  · rintro k f d h' ⟨hk, h4, h20, h21, h22, h2, h3, rfl, G, rfl⟩
    have hin := mfold_in ha hb hr k hk
    by_cases hlt : k < r.length
    · obtain ⟨id, off, hix, hld⟩ := hb2.at1 wf hlt ik_25
      rw [map_get hlt] at hld
      have hc' : Off r[k] := hr _ (List.getElem_mem _)
      have hst := mfold_take a0 b0 r k hlt
      have hin' := mfold_in ha hb hr (k + 1) hlt
      rw [hst] at hin'
      generalize hm : mfold a0 b0 (r.take k) = st at *
      generalize hcc : r[k] = c at *
      obtain ⟨sa, sb, ss, sch, sbe⟩ := st
      obtain ⟨i1, i2, i3, i4, i5, i6⟩ := hin
      obtain ⟨j1, j2, j3, j4, j5, j6⟩ := hin'
      simp only [mstep, St5.d] at i1 i2 i3 i4 i5 i6 j3 j4 j5 j6
      have q := chg_01 ss (sa - 2 * sb + c)
      (repeat' (first
  | (with_reducible refine WC_seq ?_) | (refine WC_region ?_) | (with_reducible refine WC_skip ?_) | (with_reducible refine WC_label ?_) | (with_reducible refine WC_scope ?_) | (with_reducible refine WC_block ?_) | (with_reducible refine WC_ret ?_) | (with_reducible refine WC_exit ?_)
  | (with_reducible refine seqQ_norm ?_) | (with_reducible refine seqQ_ret ?_) | (with_reducible refine seqQ_exit ?_) | (with_reducible refine blkQ_norm ?_) | (with_reducible refine blkQ_ret ?_) | (with_reducible refine blkQ_here ?_) | (refine blkQ_out rfl ?_)
  | (refine WO_nil ?_)
  | (refine WD_nil ?_)
  | (refine WD_gate rfl rfl rfl rfl rfl fun K_ hK_ => ?_; simp only [upd_apply, asB_bool, asB_tup, ↓reduceIte, reduceCtorEq, Nat.reduceEqDiff, Bool.not_true, Bool.not_false]; refine hK_ _ ?_; clear hK_ K_)
  | (refine WO_gate rfl rfl rfl rfl rfl fun K_ hK_ => ?_; simp only [upd_apply, asB_bool, asB_tup, ↓reduceIte, reduceCtorEq, Nat.reduceEqDiff, Bool.not_true, Bool.not_false]; refine hK_ _ ?_; clear hK_ K_)
  | (with_reducible refine gateK_yes ?_) | (refine gateK_no (by decide) ?_) | (with_reducible refine gateK_none ?_)
  | ((try first | refine WO_op rfl rfl rfl ?_ | refine WO_op0 rfl rfl ?_ | refine WD_op rfl rfl rfl ?_ | refine WD_op0 rfl rfl ?_); (refine WV_gen fun Q_ hQ_ => ?_; simp (disch := first | omega | (simp only [List.length_cons, List.length_nil, List.length_append]; omega)) only [x_move, x_assign, x_pick, x_alloc, x_box, x_build, x_load, x_store, x_nilCheck, x_binOp, x_unOp, x_convert, x_makeFunc, x_makeMap, x_makeSlice, x_slice, x_fieldAddr, x_field, x_indexAddr, x_index, x_lookup, x_mapUpdate, x_extract, x_callB, x_callF, x_callT, x_buildSlice, WV_okI, on1_ok, of_ok, done_ok, evT_tmp, get_tmp, evT_int, evT_bool, evT_str, evT_nils, evT_nilm, evT_nilp, evT_nilf, evT_func, upd_apply, evL_nil, evL_cons', evParts_nil, evParts_cons, pickE_def, allocE_def, cells_bool, cells_int, cells_str, cells_ptr, cells_nilp, cells_sl, cells_nils, cells_map, cells_nilm, cells_fn, cells_nilf, cells_agg, asPtr_ptr, asSl_sl, asB_bool, asB_tup, asTup_tup, asI64_int, toNatE_lit, reszT_nils, reszT_none, toNatE_int, slicesE_def, optNat_none, optNat_def, Int.reduceToNat, Int.toNat_natCast, cellsOf_cells, cellsOf_ro, cellsE_cells, oneB_bool, oneB_int, oneB_str, oneB_ptr, oneB_nilp, oneB_sl, oneB_nils, oneB_map, oneB_nilm, oneB_fn, oneB_nilf, loadE_ptr, storeE_ptr, storeCs_some, storeAll_one, storeAll_two, fieldAddrE_ptr, addOff_some, indexAt_sl, indexAt_arr, extractE_tup, nilCheck_fn, nilCheck_ptr, nilCheck_yld, b_add, b_sub, b_mul, b_eql, b_neq, b_lss, b_leq, b_gtr, b_geq, unE_not, unE_neg, bi_len, bi_append, bi_copy, bi_max, bi_min, buildSliceO_def, buildO_def, ble_dec, fillE_nil, fillE_cons, layOver_def, zerosE_zero, zerosE_succ, wrap_in, min_ck, min_cc, min_cl, Nat.min_self, allOne_nil, allOne_cons, cellAt_cells, cellAt_ro, aggAt_cells, storeAt_cells, writeAt_cells, splice_def, marked_X, nx_X, unmark_keep, unmark_full, app_len0, app_len, set_app_len0, set_app_len, List.append_assoc, List.length_append, argF, cond_true, cond_false, ↓reduceIte, reduceCtorEq, Nat.reduceEqDiff, Nat.reduceLT, Nat.reduceLeDiff, Nat.reduceAdd, Nat.reduceMul, Nat.reduceSub, Nat.reduceBEq, Nat.add_zero, Nat.zero_add, Nat.mul_one, Nat.zero_mul, Nat.one_mul, List.length_cons, List.length_nil, List.cons_append, List.nil_append, List.append_nil, List.getElem?_cons_zero, List.getElem?_cons_succ, List.set_cons_zero, List.set_cons_succ, List.drop_zero, List.drop_succ_cons, List.take_zero, List.take_succ_cons, List.take_nil, List.drop_nil, Bool.not_true, Bool.not_false, Bool.true_and, Bool.and_true, Bool.false_and, Bool.and_false, decide_true, decide_false, eq_self, List.toList_toArray, beq_dec, beq_self_eq_true, h4, h20, h21, h22, h2, h3, hix, hld, newPtr_X wf, load1_X wf, loadAgg_X wf, store1_X wf, writeCells_X wf, bs_71, bsl_25, newSlice_X wf, ia_2, sz_2, ia_3, sz_3, ia_27, ia_51, sz_51, ia_71, sz_71, ia_24, sz_24, ia_22, ia_25, fo_71_0, fo_71_1, fo_71_2, fo_71_3, fo_51_0, fo_51_1, fo_24_0, fo_24_1, ze_71, ze_51, pb_33, pb_36, pb_60, pb_61, pb_78, pb_34, pb_37, pb_14]; first | (refine dec_split (Q := Q_) (fun hp_ => ?_) (fun hp_ => ?_) <;> first | (exfalso; omega) | (refine hQ_ _ _ ?_; clear hQ_ Q_)) | (refine dec_splitn (Q := Q_) (fun hp_ => ?_) (fun hp_ => ?_) <;> first | (exfalso; omega) | (refine hQ_ _ _ ?_; clear hQ_ Q_)) | (refine hQ_ _ _ ?_; clear hQ_ Q_) | (refine WV_eq (next _ _ _ _ _ (by omega) i1 i2 hc' _ (wf.X (Nat.le_add_right _ _))) ?_; refine hQ_ _ _ ?_; clear hQ_ Q_) | (refine WV_eq (bendTo _ _ _ _ _ i1 i2 hc' _ (wf.X (Nat.le_add_right _ _))) ?_; refine hQ_ _ _ ?_; clear hQ_ Q_) | (refine WV_eq (sum2 wf (by simp only [app_len0, app_len, List.getElem?_cons_succ, List.getElem?_cons_zero]; rfl) (Nat.le_add_right _ _) (by omega) (by omega)) ?_; refine hQ_ _ _ ?_; clear hQ_ Q_)))
  | (refine WC_cond fun K_ hK_ => ?_; simp (disch := omega) only [evT_tmp, upd_apply, WB_some, ↓reduceIte, reduceCtorEq, Nat.reduceEqDiff, Nat.reduceLT]; refine hK_ _ ?_; clear hK_ K_)
  | (with_reducible refine condK_tt ?_) | (with_reducible refine condK_ff ?_) | (with_reducible refine roundQ_exit ?_) | (with_reducible refine roundQ_ret ?_)))
      refine roundQ_again (k + 1) (by omega) ⟨hlt, by simp only [upd_apply, ↓reduceIte, reduceCtorEq, Nat.reduceEqDiff]; exact h4, by simp only [upd_apply, ↓reduceIte, reduceCtorEq, Nat.reduceEqDiff]; exact h20, by simp only [upd_apply, ↓reduceIte, reduceCtorEq, Nat.reduceEqDiff]; exact h21, by simp only [upd_apply, ↓reduceIte, reduceCtorEq, Nat.reduceEqDiff]; rfl, by simp only [upd_apply, ↓reduceIte, reduceCtorEq, Nat.reduceEqDiff]; rw [hst]; rfl, by simp only [upd_apply, ↓reduceIte, reduceCtorEq, Nat.reduceEqDiff]; rw [hst]; rfl, rfl, ?_⟩
      rw [hst]
      exact ⟨_, rfl⟩
    · have hkl : k = r.length := by omega
      subst hkl
      rw [List.take_length] at h2 h3
      (repeat' (first
  | (with_reducible refine WC_seq ?_) | (refine WC_region ?_) | (with_reducible refine WC_skip ?_) | (with_reducible refine WC_label ?_) | (with_reducible refine WC_scope ?_) | (with_reducible refine WC_block ?_) | (with_reducible refine WC_ret ?_) | (with_reducible refine WC_exit ?_)
  | (with_reducible refine seqQ_norm ?_) | (with_reducible refine seqQ_ret ?_) | (with_reducible refine seqQ_exit ?_) | (with_reducible refine blkQ_norm ?_) | (with_reducible refine blkQ_ret ?_) | (with_reducible refine blkQ_here ?_) | (refine blkQ_out rfl ?_)
  | (refine WO_nil ?_)
  | (refine WD_nil ?_)
  | (refine WD_gate rfl rfl rfl rfl rfl fun K_ hK_ => ?_; simp only [upd_apply, asB_bool, asB_tup, ↓reduceIte, reduceCtorEq, Nat.reduceEqDiff, Bool.not_true, Bool.not_false]; refine hK_ _ ?_; clear hK_ K_)
  | (refine WO_gate rfl rfl rfl rfl rfl fun K_ hK_ => ?_; simp only [upd_apply, asB_bool, asB_tup, ↓reduceIte, reduceCtorEq, Nat.reduceEqDiff, Bool.not_true, Bool.not_false]; refine hK_ _ ?_; clear hK_ K_)
  | (with_reducible refine gateK_yes ?_) | (refine gateK_no (by decide) ?_) | (with_reducible refine gateK_none ?_)
  | ((try first | refine WO_op rfl rfl rfl ?_ | refine WO_op0 rfl rfl ?_ | refine WD_op rfl rfl rfl ?_ | refine WD_op0 rfl rfl ?_); (refine WV_gen fun Q_ hQ_ => ?_; simp (disch := first | omega | (simp only [List.length_cons, List.length_nil, List.length_append]; omega)) only [x_move, x_assign, x_pick, x_alloc, x_box, x_build, x_load, x_store, x_nilCheck, x_binOp, x_unOp, x_convert, x_makeFunc, x_makeMap, x_makeSlice, x_slice, x_fieldAddr, x_field, x_indexAddr, x_index, x_lookup, x_mapUpdate, x_extract, x_callB, x_callF, x_callT, x_buildSlice, WV_okI, on1_ok, of_ok, done_ok, evT_tmp, get_tmp, evT_int, evT_bool, evT_str, evT_nils, evT_nilm, evT_nilp, evT_nilf, evT_func, upd_apply, evL_nil, evL_cons', evParts_nil, evParts_cons, pickE_def, allocE_def, cells_bool, cells_int, cells_str, cells_ptr, cells_nilp, cells_sl, cells_nils, cells_map, cells_nilm, cells_fn, cells_nilf, cells_agg, asPtr_ptr, asSl_sl, asB_bool, asB_tup, asTup_tup, asI64_int, toNatE_lit, reszT_nils, reszT_none, toNatE_int, slicesE_def, optNat_none, optNat_def, Int.reduceToNat, Int.toNat_natCast, cellsOf_cells, cellsOf_ro, cellsE_cells, oneB_bool, oneB_int, oneB_str, oneB_ptr, oneB_nilp, oneB_sl, oneB_nils, oneB_map, oneB_nilm, oneB_fn, oneB_nilf, loadE_ptr, storeE_ptr, storeCs_some, storeAll_one, storeAll_two, fieldAddrE_ptr, addOff_some, indexAt_sl, indexAt_arr, extractE_tup, nilCheck_fn, nilCheck_ptr, nilCheck_yld, b_add, b_sub, b_mul, b_eql, b_neq, b_lss, b_leq, b_gtr, b_geq, unE_not, unE_neg, bi_len, bi_append, bi_copy, bi_max, bi_min, buildSliceO_def, buildO_def, ble_dec, fillE_nil, fillE_cons, layOver_def, zerosE_zero, zerosE_succ, wrap_in, min_ck, min_cc, min_cl, Nat.min_self, allOne_nil, allOne_cons, cellAt_cells, cellAt_ro, aggAt_cells, storeAt_cells, writeAt_cells, splice_def, marked_X, nx_X, unmark_keep, unmark_full, app_len0, app_len, set_app_len0, set_app_len, List.append_assoc, List.length_append, argF, cond_true, cond_false, ↓reduceIte, reduceCtorEq, Nat.reduceEqDiff, Nat.reduceLT, Nat.reduceLeDiff, Nat.reduceAdd, Nat.reduceMul, Nat.reduceSub, Nat.reduceBEq, Nat.add_zero, Nat.zero_add, Nat.mul_one, Nat.zero_mul, Nat.one_mul, List.length_cons, List.length_nil, List.cons_append, List.nil_append, List.append_nil, List.getElem?_cons_zero, List.getElem?_cons_succ, List.set_cons_zero, List.set_cons_succ, List.drop_zero, List.drop_succ_cons, List.take_zero, List.take_succ_cons, List.take_nil, List.drop_nil, Bool.not_true, Bool.not_false, Bool.true_and, Bool.and_true, Bool.false_and, Bool.and_false, decide_true, decide_false, eq_self, List.toList_toArray, beq_dec, beq_self_eq_true, h4, h20, h21, h22, h2, h3, newPtr_X wf, load1_X wf, loadAgg_X wf, store1_X wf, writeCells_X wf, bs_71, bsl_25, newSlice_X wf, ia_2, sz_2, ia_3, sz_3, ia_27, ia_51, sz_51, ia_71, sz_71, ia_24, sz_24, ia_22, ia_25, fo_71_0, fo_71_1, fo_71_2, fo_71_3, fo_51_0, fo_51_1, fo_24_0, fo_24_1, ze_71, ze_51, pb_33, pb_36, pb_60, pb_61, pb_78, pb_34, pb_37, pb_14]; first | (refine dec_split (Q := Q_) (fun hp_ => ?_) (fun hp_ => ?_) <;> first | (exfalso; omega) | (refine hQ_ _ _ ?_; clear hQ_ Q_)) | (refine dec_splitn (Q := Q_) (fun hp_ => ?_) (fun hp_ => ?_) <;> first | (exfalso; omega) | (refine hQ_ _ _ ?_; clear hQ_ Q_)) | (refine hQ_ _ _ ?_; clear hQ_ Q_)))
  | (refine WC_cond fun K_ hK_ => ?_; simp (disch := omega) only [evT_tmp, upd_apply, WB_some, ↓reduceIte, reduceCtorEq, Nat.reduceEqDiff, Nat.reduceLT]; refine hK_ _ ?_; clear hK_ K_)
  | (with_reducible refine condK_tt ?_) | (with_reducible refine condK_ff ?_) | (with_reducible refine roundQ_exit ?_) | (with_reducible refine roundQ_ret ?_)))
      (refine endQ_ret _ _ rfl (ret2 (by decide) (by decide)) ?_; simp only [upd_apply, ↓reduceIte, reduceCtorEq, Nat.reduceEqDiff]; refine WV_flat rfl (by omega) ?_)
      exact ⟨rfl, rfl⟩
  · refine ⟨Nat.zero_le _, by simp only [upd_apply, ↓reduceIte, reduceCtorEq, Nat.reduceEqDiff], by simp only [upd_apply, ↓reduceIte, reduceCtorEq, Nat.reduceEqDiff], by simp only [upd_apply, ↓reduceIte, reduceCtorEq, Nat.reduceEqDiff], by simp only [upd_apply, ↓reduceIte, reduceCtorEq, Nat.reduceEqDiff]; rfl, by simp only [upd_apply, ↓reduceIte, reduceCtorEq, Nat.reduceEqDiff]; rfl, by simp only [upd_apply, ↓reduceIte, reduceCtorEq, Nat.reduceEqDiff]; rfl, rfl, [], by rw [List.take_zero]; rfl⟩

theorem measure_short (xs : List Int) (a : AV) (hx : xs.length < 2) (h : H) (wf : Wf h) (hs : Sl h a 1 xs.length (xs.map ii)) :
    (om Tryd.prog KK).call (.fn 34 [a]) h = .ok (.tup [ii 0, ii 0]) h := by
  refine WV_to (WV_call (fn := Tryd.f34) Tryd.func34 rfl rfl rfl rfl rfl ?_)
  simp only [argF]
  have hlen : ∀ h', lenE Tryd.prog 25 a h' = some (ii (xs.length : Int)) := fun h' => hs.len un_25
  (repeat' (first
  | (with_reducible refine WC_seq ?_) | (refine WC_region ?_) | (with_reducible refine WC_skip ?_) | (with_reducible refine WC_label ?_) | (with_reducible refine WC_scope ?_) | (with_reducible refine WC_block ?_) | (with_reducible refine WC_ret ?_) | (with_reducible refine WC_exit ?_)
  | (with_reducible refine seqQ_norm ?_) | (with_reducible refine seqQ_ret ?_) | (with_reducible refine seqQ_exit ?_) | (with_reducible refine blkQ_norm ?_) | (with_reducible refine blkQ_ret ?_) | (with_reducible refine blkQ_here ?_) | (refine blkQ_out rfl ?_)
  | (refine WO_nil ?_)
  | (refine WD_nil ?_)
  | (refine WD_gate rfl rfl rfl rfl rfl fun K_ hK_ => ?_; simp only [upd_apply, asB_bool, asB_tup, ↓reduceIte, reduceCtorEq, Nat.reduceEqDiff, Bool.not_true, Bool.not_false]; refine hK_ _ ?_; clear hK_ K_)
  | (refine WO_gate rfl rfl rfl rfl rfl fun K_ hK_ => ?_; simp only [upd_apply, asB_bool, asB_tup, ↓reduceIte, reduceCtorEq, Nat.reduceEqDiff, Bool.not_true, Bool.not_false]; refine hK_ _ ?_; clear hK_ K_)
  | (with_reducible refine gateK_yes ?_) | (refine gateK_no (by decide) ?_) | (with_reducible refine gateK_none ?_)
  | ((try first | refine WO_op rfl rfl rfl ?_ | refine WO_op0 rfl rfl ?_ | refine WD_op rfl rfl rfl ?_ | refine WD_op0 rfl rfl ?_); (refine WV_gen fun Q_ hQ_ => ?_; simp (disch := first | omega | (simp only [List.length_cons, List.length_nil, List.length_append]; omega)) only [x_move, x_assign, x_pick, x_alloc, x_box, x_build, x_load, x_store, x_nilCheck, x_binOp, x_unOp, x_convert, x_makeFunc, x_makeMap, x_makeSlice, x_slice, x_fieldAddr, x_field, x_indexAddr, x_index, x_lookup, x_mapUpdate, x_extract, x_callB, x_callF, x_callT, x_buildSlice, WV_okI, on1_ok, of_ok, done_ok, evT_tmp, get_tmp, evT_int, evT_bool, evT_str, evT_nils, evT_nilm, evT_nilp, evT_nilf, evT_func, upd_apply, evL_nil, evL_cons', evParts_nil, evParts_cons, pickE_def, allocE_def, cells_bool, cells_int, cells_str, cells_ptr, cells_nilp, cells_sl, cells_nils, cells_map, cells_nilm, cells_fn, cells_nilf, cells_agg, asPtr_ptr, asSl_sl, asB_bool, asB_tup, asTup_tup, asI64_int, toNatE_lit, reszT_nils, reszT_none, toNatE_int, slicesE_def, optNat_none, optNat_def, Int.reduceToNat, Int.toNat_natCast, cellsOf_cells, cellsOf_ro, cellsE_cells, oneB_bool, oneB_int, oneB_str, oneB_ptr, oneB_nilp, oneB_sl, oneB_nils, oneB_map, oneB_nilm, oneB_fn, oneB_nilf, loadE_ptr, storeE_ptr, storeCs_some, storeAll_one, storeAll_two, fieldAddrE_ptr, addOff_some, indexAt_sl, indexAt_arr, extractE_tup, nilCheck_fn, nilCheck_ptr, nilCheck_yld, b_add, b_sub, b_mul, b_eql, b_neq, b_lss, b_leq, b_gtr, b_geq, unE_not, unE_neg, bi_len, bi_append, bi_copy, bi_max, bi_min, buildSliceO_def, buildO_def, ble_dec, fillE_nil, fillE_cons, layOver_def, zerosE_zero, zerosE_succ, wrap_in, min_ck, min_cc, min_cl, Nat.min_self, allOne_nil, allOne_cons, cellAt_cells, cellAt_ro, aggAt_cells, storeAt_cells, writeAt_cells, splice_def, marked_X, nx_X, unmark_keep, unmark_full, app_len0, app_len, set_app_len0, set_app_len, List.append_assoc, List.length_append, argF, cond_true, cond_false, ↓reduceIte, reduceCtorEq, Nat.reduceEqDiff, Nat.reduceLT, Nat.reduceLeDiff, Nat.reduceAdd, Nat.reduceMul, Nat.reduceSub, Nat.reduceBEq, Nat.add_zero, Nat.zero_add, Nat.mul_one, Nat.zero_mul, Nat.one_mul, List.length_cons, List.length_nil, List.cons_append, List.nil_append, List.append_nil, List.getElem?_cons_zero, List.getElem?_cons_succ, List.set_cons_zero, List.set_cons_succ, List.drop_zero, List.drop_succ_cons, List.take_zero, List.take_succ_cons, List.take_nil, List.drop_nil, Bool.not_true, Bool.not_false, Bool.true_and, Bool.and_true, Bool.false_and, Bool.and_false, decide_true, decide_false, eq_self, List.toList_toArray, beq_dec, beq_self_eq_true, hlen, bs_71, bsl_25, newSlice_X wf, ia_2, sz_2, ia_3, sz_3, ia_27, ia_51, sz_51, ia_71, sz_71, ia_24, sz_24, ia_22, ia_25, fo_71_0, fo_71_1, fo_71_2, fo_71_3, fo_51_0, fo_51_1, fo_24_0, fo_24_1, ze_71, ze_51, pb_33, pb_36, pb_60, pb_61, pb_78, pb_34, pb_37, pb_14]; first | (refine dec_split (Q := Q_) (fun hp_ => ?_) (fun hp_ => ?_) <;> first | (exfalso; omega) | (refine hQ_ _ _ ?_; clear hQ_ Q_)) | (refine dec_splitn (Q := Q_) (fun hp_ => ?_) (fun hp_ => ?_) <;> first | (exfalso; omega) | (refine hQ_ _ _ ?_; clear hQ_ Q_)) | (refine hQ_ _ _ ?_; clear hQ_ Q_)))
  | (refine WC_cond fun K_ hK_ => ?_; simp (disch := omega) only [evT_tmp, upd_apply, WB_some, ↓reduceIte, reduceCtorEq, Nat.reduceEqDiff, Nat.reduceLT]; refine hK_ _ ?_; clear hK_ K_)
  | (with_reducible refine condK_tt ?_) | (with_reducible refine condK_ff ?_) | (with_reducible refine roundQ_exit ?_) | (with_reducible refine roundQ_ret ?_)))
  (refine endQ_ret _ _ rfl (ret2 (by decide) (by decide)) ?_; simp only [upd_apply, ↓reduceIte, reduceCtorEq, Nat.reduceEqDiff]; refine WV_flat rfl (by omega) ?_)
  exact ⟨rfl, rfl⟩
end Go.Proofs.YtghondkiondeaaaDoor
end

/- EvF4 -/
section
/-
  LAYER 1: Measure, CheckSpots and Check, by the program.
-/
namespace Go.Proofs.YtghondkiondeaaaDoor
open Go.Ev
set_option maxRecDepth 100000
set_option linter.unusedSimpArgs false
set_option linter.unusedVariables false

/-- What a line measures. -/
def measOf : List Int → Int × Int
  | a :: b :: r => ((mfold a b r).ch, (mfold a b r).be)
  | _ => (0, 0)
theorem measure_any (xs : List Int) (a : AV) (hn : xs.length ≤ 1000000) (hx : ∀ x ∈ xs, Off x) (hc : Capd a) (h : H) (wf : Wf h) (hs : Sl h a 1 xs.length (xs.map ii)) :
    (om Tryd.prog KK).call (.fn 34 [a]) h = .ok (.tup [ii (measOf xs).1, ii (measOf xs).2]) h := by
  match xs, hn, hx, hs with
  | [], hn, hx, hs => exact measure_short [] a (by simp) h wf hs
  | [x], hn, hx, hs => exact measure_short [x] a (by simp) h wf hs
  | x :: y :: r, hn, hx, hs => exact measure x y r a (by simp at hn; omega) (hx x (by simp)) (hx y (by simp)) (fun z hz => hx z (by simp [hz])) hc h wf hs

theorem all_step {α : Type} {p : α → Prop} {xs : List α} {k : Nat} (hk : k < xs.length) (h : ∀ i (hi : i < xs.length), i < k → p xs[i]) (hp : p xs[k]) : ∀ i (hi : i < xs.length), i < k + 1 → p xs[i] := fun i hi hik => by
  by_cases e : i = k
  · subst e; exact hp
  · exact h i hi (by omega)
theorem all_done {α : Type} {p : α → Prop} {xs : List α} (h : ∀ i (hi : i < xs.length), i < xs.length → p xs[i]) : ∀ x ∈ xs, p x := fun x hx => by
  obtain ⟨i, hi, rfl⟩ := List.getElem_of_mem hx
  exact h i hi hi
theorem all_not {α : Type} {p : α → Prop} {xs : List α} {k : Nat} (hk : k < xs.length) (hp : ¬ p xs[k]) : ¬ ∀ x ∈ xs, p x := fun h => hp (h _ (List.getElem_mem hk))

open Classical in
noncomputable def measR (xs : List Int) : Int × Int × Int := if xs.length = 0 ∨ 4096 < xs.length then (0, 0, 6) else if ∀ x ∈ xs, Off x then ((measOf xs).1, (measOf xs).2, 0) else (0, 0, 3)

theorem Measure (xs : List Int) (a : AV) (hn : xs.length ≤ 1000000) (hc : Capd a) (h : H) (wf : Wf h) (hs : Sl h a 1 xs.length (xs.map ii)) :
    (om Tryd.prog KK).call (.fn 10 [a]) h = .ok (.tup [ii (measR xs).1, ii (measR xs).2.1, ii (measR xs).2.2]) h := by
  refine WV_to (WV_call (fn := Tryd.f10) Tryd.func10 rfl rfl rfl rfl rfl ?_)
  simp only [argF]
  have hlen : ∀ h', lenE Tryd.prog 25 a h' = some (ii (xs.length : Int)) := fun h' => hs.len un_25
  (repeat' (first
  | (with_reducible refine WC_seq ?_) | (refine WC_region ?_) | (with_reducible refine WC_skip ?_) | (with_reducible refine WC_label ?_) | (with_reducible refine WC_scope ?_) | (with_reducible refine WC_block ?_) | (with_reducible refine WC_ret ?_) | (with_reducible refine WC_exit ?_)
  | (with_reducible refine seqQ_norm ?_) | (with_reducible refine seqQ_ret ?_) | (with_reducible refine seqQ_exit ?_) | (with_reducible refine blkQ_norm ?_) | (with_reducible refine blkQ_ret ?_) | (with_reducible refine blkQ_here ?_) | (refine blkQ_out rfl ?_)
  | (refine WO_nil ?_)
  | (refine WD_nil ?_)
  | (refine WD_gate rfl rfl rfl rfl rfl fun K_ hK_ => ?_; simp only [upd_apply, asB_bool, asB_tup, ↓reduceIte, reduceCtorEq, Nat.reduceEqDiff, Bool.not_true, Bool.not_false]; refine hK_ _ ?_; clear hK_ K_)
  | (refine WO_gate rfl rfl rfl rfl rfl fun K_ hK_ => ?_; simp only [upd_apply, asB_bool, asB_tup, ↓reduceIte, reduceCtorEq, Nat.reduceEqDiff, Bool.not_true, Bool.not_false]; refine hK_ _ ?_; clear hK_ K_)
  | (with_reducible refine gateK_yes ?_) | (refine gateK_no (by decide) ?_) | (with_reducible refine gateK_none ?_)
  | ((try first | refine WO_op rfl rfl rfl ?_ | refine WO_op0 rfl rfl ?_ | refine WD_op rfl rfl rfl ?_ | refine WD_op0 rfl rfl ?_); (refine WV_gen fun Q_ hQ_ => ?_; simp (disch := first | omega | (simp only [List.length_cons, List.length_nil, List.length_append]; omega)) only [x_move, x_assign, x_pick, x_alloc, x_box, x_build, x_load, x_store, x_nilCheck, x_binOp, x_unOp, x_convert, x_makeFunc, x_makeMap, x_makeSlice, x_slice, x_fieldAddr, x_field, x_indexAddr, x_index, x_lookup, x_mapUpdate, x_extract, x_callB, x_callF, x_callT, x_buildSlice, WV_okI, on1_ok, of_ok, done_ok, evT_tmp, get_tmp, evT_int, evT_bool, evT_str, evT_nils, evT_nilm, evT_nilp, evT_nilf, evT_func, upd_apply, evL_nil, evL_cons', evParts_nil, evParts_cons, pickE_def, allocE_def, cells_bool, cells_int, cells_str, cells_ptr, cells_nilp, cells_sl, cells_nils, cells_map, cells_nilm, cells_fn, cells_nilf, cells_agg, asPtr_ptr, asSl_sl, asB_bool, asB_tup, asTup_tup, asI64_int, toNatE_lit, reszT_nils, reszT_none, toNatE_int, slicesE_def, optNat_none, optNat_def, Int.reduceToNat, Int.toNat_natCast, cellsOf_cells, cellsOf_ro, cellsE_cells, oneB_bool, oneB_int, oneB_str, oneB_ptr, oneB_nilp, oneB_sl, oneB_nils, oneB_map, oneB_nilm, oneB_fn, oneB_nilf, loadE_ptr, storeE_ptr, storeCs_some, storeAll_one, storeAll_two, fieldAddrE_ptr, addOff_some, indexAt_sl, indexAt_arr, extractE_tup, nilCheck_fn, nilCheck_ptr, nilCheck_yld, b_add, b_sub, b_mul, b_eql, b_neq, b_lss, b_leq, b_gtr, b_geq, unE_not, unE_neg, bi_len, bi_append, bi_copy, bi_max, bi_min, buildSliceO_def, buildO_def, ble_dec, fillE_nil, fillE_cons, layOver_def, zerosE_zero, zerosE_succ, wrap_in, min_ck, min_cc, min_cl, Nat.min_self, allOne_nil, allOne_cons, cellAt_cells, cellAt_ro, aggAt_cells, storeAt_cells, writeAt_cells, splice_def, marked_X, nx_X, unmark_keep, unmark_full, app_len0, app_len, set_app_len0, set_app_len, List.append_assoc, List.length_append, argF, cond_true, cond_false, ↓reduceIte, reduceCtorEq, Nat.reduceEqDiff, Nat.reduceLT, Nat.reduceLeDiff, Nat.reduceAdd, Nat.reduceMul, Nat.reduceSub, Nat.reduceBEq, Nat.add_zero, Nat.zero_add, Nat.mul_one, Nat.zero_mul, Nat.one_mul, List.length_cons, List.length_nil, List.cons_append, List.nil_append, List.append_nil, List.getElem?_cons_zero, List.getElem?_cons_succ, List.set_cons_zero, List.set_cons_succ, List.drop_zero, List.drop_succ_cons, List.take_zero, List.take_succ_cons, List.take_nil, List.drop_nil, Bool.not_true, Bool.not_false, Bool.true_and, Bool.and_true, Bool.false_and, Bool.and_false, decide_true, decide_false, eq_self, List.toList_toArray, beq_dec, beq_self_eq_true, hlen, bs_71, bsl_25, newSlice_X wf, ia_2, sz_2, ia_3, sz_3, ia_27, ia_51, sz_51, ia_71, sz_71, ia_24, sz_24, ia_22, ia_25, fo_71_0, fo_71_1, fo_71_2, fo_71_3, fo_51_0, fo_51_1, fo_24_0, fo_24_1, ze_71, ze_51, pb_33, pb_36, pb_60, pb_61, pb_78, pb_34, pb_37, pb_14]; first | (refine dec_split (Q := Q_) (fun hp_ => ?_) (fun hp_ => ?_) <;> first | (exfalso; omega) | (refine hQ_ _ _ ?_; clear hQ_ Q_)) | (refine dec_splitn (Q := Q_) (fun hp_ => ?_) (fun hp_ => ?_) <;> first | (exfalso; omega) | (refine hQ_ _ _ ?_; clear hQ_ Q_)) | (refine hQ_ _ _ ?_; clear hQ_ Q_)))
  | (refine WC_cond fun K_ hK_ => ?_; simp (disch := omega) only [evT_tmp, upd_apply, WB_some, ↓reduceIte, reduceCtorEq, Nat.reduceEqDiff, Nat.reduceLT]; refine hK_ _ ?_; clear hK_ K_)
  | (with_reducible refine condK_tt ?_) | (with_reducible refine condK_ff ?_) | (with_reducible refine roundQ_exit ?_) | (with_reducible refine roundQ_ret ?_)))
  · (refine endQ_ret _ _ rfl (ret3 (by decide) (by decide) (by decide)) ?_; simp only [upd_apply, ↓reduceIte, reduceCtorEq, Nat.reduceEqDiff]; refine WV_flat rfl (by omega) ?_)
    have e : measR xs = (0, 0, 6) := if_pos (by omega)
    rw [e]; exact ⟨rfl, rfl⟩
  · (refine endQ_ret _ _ rfl (ret3 (by decide) (by decide) (by decide)) ?_; simp only [upd_apply, ↓reduceIte, reduceCtorEq, Nat.reduceEqDiff]; refine WV_flat rfl (by omega) ?_)
    have e : measR xs = (0, 0, 6) := if_pos (by omega)
    rw [e]; exact ⟨rfl, rfl⟩
  have e1 : ¬ (xs.length = 0 ∨ 4096 < xs.length) := by omega
  refine WC_loop (fun (k : Nat) f d h' => k ≤ xs.length ∧ f 0 = a ∧ f 17 = a ∧ f 18 = ii (xs.length : Int) ∧ f 19 = ii (k : Int) ∧ d = [] ∧ h' = X h [] h.clock ∧ ∀ i (hi : i < xs.length), i < k → Off xs[i]) (fun k => xs.length - k) ?_ (xs.length + 1) 0 (by omega) ?_
  · rintro k f d h' ⟨hk, h0, h17, h18, h19, rfl, rfl, hall⟩
    by_cases hlt : k < xs.length
    · obtain ⟨id, off, hix, hld⟩ := hs.at1 wf hlt ik_25
      rw [map_get hlt] at hld
      (repeat' (first
  | (with_reducible refine WC_seq ?_) | (refine WC_region ?_) | (with_reducible refine WC_skip ?_) | (with_reducible refine WC_label ?_) | (with_reducible refine WC_scope ?_) | (with_reducible refine WC_block ?_) | (with_reducible refine WC_ret ?_) | (with_reducible refine WC_exit ?_)
  | (with_reducible refine seqQ_norm ?_) | (with_reducible refine seqQ_ret ?_) | (with_reducible refine seqQ_exit ?_) | (with_reducible refine blkQ_norm ?_) | (with_reducible refine blkQ_ret ?_) | (with_reducible refine blkQ_here ?_) | (refine blkQ_out rfl ?_)
  | (refine WO_nil ?_)
  | (refine WD_nil ?_)
  | (refine WD_gate rfl rfl rfl rfl rfl fun K_ hK_ => ?_; simp only [upd_apply, asB_bool, asB_tup, ↓reduceIte, reduceCtorEq, Nat.reduceEqDiff, Bool.not_true, Bool.not_false]; refine hK_ _ ?_; clear hK_ K_)
  | (refine WO_gate rfl rfl rfl rfl rfl fun K_ hK_ => ?_; simp only [upd_apply, asB_bool, asB_tup, ↓reduceIte, reduceCtorEq, Nat.reduceEqDiff, Bool.not_true, Bool.not_false]; refine hK_ _ ?_; clear hK_ K_)
  | (with_reducible refine gateK_yes ?_) | (refine gateK_no (by decide) ?_) | (with_reducible refine gateK_none ?_)
  | ((try first | refine WO_op rfl rfl rfl ?_ | refine WO_op0 rfl rfl ?_ | refine WD_op rfl rfl rfl ?_ | refine WD_op0 rfl rfl ?_); (refine WV_gen fun Q_ hQ_ => ?_; simp (disch := first | omega | (simp only [List.length_cons, List.length_nil, List.length_append]; omega)) only [x_move, x_assign, x_pick, x_alloc, x_box, x_build, x_load, x_store, x_nilCheck, x_binOp, x_unOp, x_convert, x_makeFunc, x_makeMap, x_makeSlice, x_slice, x_fieldAddr, x_field, x_indexAddr, x_index, x_lookup, x_mapUpdate, x_extract, x_callB, x_callF, x_callT, x_buildSlice, WV_okI, on1_ok, of_ok, done_ok, evT_tmp, get_tmp, evT_int, evT_bool, evT_str, evT_nils, evT_nilm, evT_nilp, evT_nilf, evT_func, upd_apply, evL_nil, evL_cons', evParts_nil, evParts_cons, pickE_def, allocE_def, cells_bool, cells_int, cells_str, cells_ptr, cells_nilp, cells_sl, cells_nils, cells_map, cells_nilm, cells_fn, cells_nilf, cells_agg, asPtr_ptr, asSl_sl, asB_bool, asB_tup, asTup_tup, asI64_int, toNatE_lit, reszT_nils, reszT_none, toNatE_int, slicesE_def, optNat_none, optNat_def, Int.reduceToNat, Int.toNat_natCast, cellsOf_cells, cellsOf_ro, cellsE_cells, oneB_bool, oneB_int, oneB_str, oneB_ptr, oneB_nilp, oneB_sl, oneB_nils, oneB_map, oneB_nilm, oneB_fn, oneB_nilf, loadE_ptr, storeE_ptr, storeCs_some, storeAll_one, storeAll_two, fieldAddrE_ptr, addOff_some, indexAt_sl, indexAt_arr, extractE_tup, nilCheck_fn, nilCheck_ptr, nilCheck_yld, b_add, b_sub, b_mul, b_eql, b_neq, b_lss, b_leq, b_gtr, b_geq, unE_not, unE_neg, bi_len, bi_append, bi_copy, bi_max, bi_min, buildSliceO_def, buildO_def, ble_dec, fillE_nil, fillE_cons, layOver_def, zerosE_zero, zerosE_succ, wrap_in, min_ck, min_cc, min_cl, Nat.min_self, allOne_nil, allOne_cons, cellAt_cells, cellAt_ro, aggAt_cells, storeAt_cells, writeAt_cells, splice_def, marked_X, nx_X, unmark_keep, unmark_full, app_len0, app_len, set_app_len0, set_app_len, List.append_assoc, List.length_append, argF, cond_true, cond_false, ↓reduceIte, reduceCtorEq, Nat.reduceEqDiff, Nat.reduceLT, Nat.reduceLeDiff, Nat.reduceAdd, Nat.reduceMul, Nat.reduceSub, Nat.reduceBEq, Nat.add_zero, Nat.zero_add, Nat.mul_one, Nat.zero_mul, Nat.one_mul, List.length_cons, List.length_nil, List.cons_append, List.nil_append, List.append_nil, List.getElem?_cons_zero, List.getElem?_cons_succ, List.set_cons_zero, List.set_cons_succ, List.drop_zero, List.drop_succ_cons, List.take_zero, List.take_succ_cons, List.take_nil, List.drop_nil, Bool.not_true, Bool.not_false, Bool.true_and, Bool.and_true, Bool.false_and, Bool.and_false, decide_true, decide_false, eq_self, List.toList_toArray, beq_dec, beq_self_eq_true, h0, h17, h18, h19, hix, hld, bs_71, bsl_25, newSlice_X wf, ia_2, sz_2, ia_3, sz_3, ia_27, ia_51, sz_51, ia_71, sz_71, ia_24, sz_24, ia_22, ia_25, fo_71_0, fo_71_1, fo_71_2, fo_71_3, fo_51_0, fo_51_1, fo_24_0, fo_24_1, ze_71, ze_51, pb_33, pb_36, pb_60, pb_61, pb_78, pb_34, pb_37, pb_14]; first | (refine dec_split (Q := Q_) (fun hp_ => ?_) (fun hp_ => ?_) <;> first | (exfalso; omega) | (refine hQ_ _ _ ?_; clear hQ_ Q_)) | (refine dec_splitn (Q := Q_) (fun hp_ => ?_) (fun hp_ => ?_) <;> first | (exfalso; omega) | (refine hQ_ _ _ ?_; clear hQ_ Q_)) | (refine hQ_ _ _ ?_; clear hQ_ Q_) | (refine WV_eq (isOffset _ _ (wf.X (Nat.le_add_right _ _))) ?_; refine hQ_ _ _ ?_; clear hQ_ Q_)))
  | (refine WC_cond fun K_ hK_ => ?_; simp (disch := omega) only [evT_tmp, upd_apply, WB_some, ↓reduceIte, reduceCtorEq, Nat.reduceEqDiff, Nat.reduceLT]; refine hK_ _ ?_; clear hK_ K_)
  | (with_reducible refine condK_tt ?_) | (with_reducible refine condK_ff ?_) | (with_reducible refine roundQ_exit ?_) | (with_reducible refine roundQ_ret ?_)))
      · exact roundQ_again (k + 1) (by omega) ⟨hlt, by simp only [upd_apply, ↓reduceIte, reduceCtorEq, Nat.reduceEqDiff]; exact h0, by simp only [upd_apply, ↓reduceIte, reduceCtorEq, Nat.reduceEqDiff]; exact h17, by simp only [upd_apply, ↓reduceIte, reduceCtorEq, Nat.reduceEqDiff]; exact h18, by simp only [upd_apply, ↓reduceIte, reduceCtorEq, Nat.reduceEqDiff]; rfl, rfl, rfl, all_step hlt hall ‹_›⟩
      · (refine endQ_ret _ _ rfl (ret3 (by decide) (by decide) (by decide)) ?_; simp only [upd_apply, ↓reduceIte, reduceCtorEq, Nat.reduceEqDiff]; refine WV_flat rfl (by omega) ?_)
        have e : measR xs = (0, 0, 3) := by unfold measR; rw [if_neg e1, if_neg (all_not hlt ‹_›)]
        rw [e]; exact ⟨rfl, rfl⟩
    · have hkl : k = xs.length := by omega
      subst hkl
      have hx := all_done hall
      (repeat' (first
  | (with_reducible refine WC_seq ?_) | (refine WC_region ?_) | (with_reducible refine WC_skip ?_) | (with_reducible refine WC_label ?_) | (with_reducible refine WC_scope ?_) | (with_reducible refine WC_block ?_) | (with_reducible refine WC_ret ?_) | (with_reducible refine WC_exit ?_)
  | (with_reducible refine seqQ_norm ?_) | (with_reducible refine seqQ_ret ?_) | (with_reducible refine seqQ_exit ?_) | (with_reducible refine blkQ_norm ?_) | (with_reducible refine blkQ_ret ?_) | (with_reducible refine blkQ_here ?_) | (refine blkQ_out rfl ?_)
  | (refine WO_nil ?_)
  | (refine WD_nil ?_)
  | (refine WD_gate rfl rfl rfl rfl rfl fun K_ hK_ => ?_; simp only [upd_apply, asB_bool, asB_tup, ↓reduceIte, reduceCtorEq, Nat.reduceEqDiff, Bool.not_true, Bool.not_false]; refine hK_ _ ?_; clear hK_ K_)
  | (refine WO_gate rfl rfl rfl rfl rfl fun K_ hK_ => ?_; simp only [upd_apply, asB_bool, asB_tup, ↓reduceIte, reduceCtorEq, Nat.reduceEqDiff, Bool.not_true, Bool.not_false]; refine hK_ _ ?_; clear hK_ K_)
  | (with_reducible refine gateK_yes ?_) | (refine gateK_no (by decide) ?_) | (with_reducible refine gateK_none ?_)
  | ((try first | refine WO_op rfl rfl rfl ?_ | refine WO_op0 rfl rfl ?_ | refine WD_op rfl rfl rfl ?_ | refine WD_op0 rfl rfl ?_); (refine WV_gen fun Q_ hQ_ => ?_; simp (disch := first | omega | (simp only [List.length_cons, List.length_nil, List.length_append]; omega)) only [x_move, x_assign, x_pick, x_alloc, x_box, x_build, x_load, x_store, x_nilCheck, x_binOp, x_unOp, x_convert, x_makeFunc, x_makeMap, x_makeSlice, x_slice, x_fieldAddr, x_field, x_indexAddr, x_index, x_lookup, x_mapUpdate, x_extract, x_callB, x_callF, x_callT, x_buildSlice, WV_okI, on1_ok, of_ok, done_ok, evT_tmp, get_tmp, evT_int, evT_bool, evT_str, evT_nils, evT_nilm, evT_nilp, evT_nilf, evT_func, upd_apply, evL_nil, evL_cons', evParts_nil, evParts_cons, pickE_def, allocE_def, cells_bool, cells_int, cells_str, cells_ptr, cells_nilp, cells_sl, cells_nils, cells_map, cells_nilm, cells_fn, cells_nilf, cells_agg, asPtr_ptr, asSl_sl, asB_bool, asB_tup, asTup_tup, asI64_int, toNatE_lit, reszT_nils, reszT_none, toNatE_int, slicesE_def, optNat_none, optNat_def, Int.reduceToNat, Int.toNat_natCast, cellsOf_cells, cellsOf_ro, cellsE_cells, oneB_bool, oneB_int, oneB_str, oneB_ptr, oneB_nilp, oneB_sl, oneB_nils, oneB_map, oneB_nilm, oneB_fn, oneB_nilf, loadE_ptr, storeE_ptr, storeCs_some, storeAll_one, storeAll_two, fieldAddrE_ptr, addOff_some, indexAt_sl, indexAt_arr, extractE_tup, nilCheck_fn, nilCheck_ptr, nilCheck_yld, b_add, b_sub, b_mul, b_eql, b_neq, b_lss, b_leq, b_gtr, b_geq, unE_not, unE_neg, bi_len, bi_append, bi_copy, bi_max, bi_min, buildSliceO_def, buildO_def, ble_dec, fillE_nil, fillE_cons, layOver_def, zerosE_zero, zerosE_succ, wrap_in, min_ck, min_cc, min_cl, Nat.min_self, allOne_nil, allOne_cons, cellAt_cells, cellAt_ro, aggAt_cells, storeAt_cells, writeAt_cells, splice_def, marked_X, nx_X, unmark_keep, unmark_full, app_len0, app_len, set_app_len0, set_app_len, List.append_assoc, List.length_append, argF, cond_true, cond_false, ↓reduceIte, reduceCtorEq, Nat.reduceEqDiff, Nat.reduceLT, Nat.reduceLeDiff, Nat.reduceAdd, Nat.reduceMul, Nat.reduceSub, Nat.reduceBEq, Nat.add_zero, Nat.zero_add, Nat.mul_one, Nat.zero_mul, Nat.one_mul, List.length_cons, List.length_nil, List.cons_append, List.nil_append, List.append_nil, List.getElem?_cons_zero, List.getElem?_cons_succ, List.set_cons_zero, List.set_cons_succ, List.drop_zero, List.drop_succ_cons, List.take_zero, List.take_succ_cons, List.take_nil, List.drop_nil, Bool.not_true, Bool.not_false, Bool.true_and, Bool.and_true, Bool.false_and, Bool.and_false, decide_true, decide_false, eq_self, List.toList_toArray, beq_dec, beq_self_eq_true, h0, h17, h18, h19, bs_71, bsl_25, newSlice_X wf, ia_2, sz_2, ia_3, sz_3, ia_27, ia_51, sz_51, ia_71, sz_71, ia_24, sz_24, ia_22, ia_25, fo_71_0, fo_71_1, fo_71_2, fo_71_3, fo_51_0, fo_51_1, fo_24_0, fo_24_1, ze_71, ze_51, pb_33, pb_36, pb_60, pb_61, pb_78, pb_34, pb_37, pb_14]; first | (refine dec_split (Q := Q_) (fun hp_ => ?_) (fun hp_ => ?_) <;> first | (exfalso; omega) | (refine hQ_ _ _ ?_; clear hQ_ Q_)) | (refine dec_splitn (Q := Q_) (fun hp_ => ?_) (fun hp_ => ?_) <;> first | (exfalso; omega) | (refine hQ_ _ _ ?_; clear hQ_ Q_)) | (refine hQ_ _ _ ?_; clear hQ_ Q_) | (refine WV_eq (measure_any xs a hn hx hc _ (wf.X (Nat.le_add_right _ _)) (hs.up wf _ _)) ?_; refine hQ_ _ _ ?_; clear hQ_ Q_)))
  | (refine WC_cond fun K_ hK_ => ?_; simp (disch := omega) only [evT_tmp, upd_apply, WB_some, ↓reduceIte, reduceCtorEq, Nat.reduceEqDiff, Nat.reduceLT]; refine hK_ _ ?_; clear hK_ K_)
  | (with_reducible refine condK_tt ?_) | (with_reducible refine condK_ff ?_) | (with_reducible refine roundQ_exit ?_) | (with_reducible refine roundQ_ret ?_)))
      (refine endQ_ret _ _ rfl (ret3 (by decide) (by decide) (by decide)) ?_; simp only [upd_apply, ↓reduceIte, reduceCtorEq, Nat.reduceEqDiff]; refine WV_flat rfl (by omega) ?_)
      have e : measR xs = ((measOf xs).1, (measOf xs).2, 0) := by unfold measR; rw [if_neg e1, if_pos hx]
      rw [e]; exact ⟨rfl, rfl⟩
  · refine ⟨Nat.zero_le _, by simp only [upd_apply, ↓reduceIte, reduceCtorEq, Nat.reduceEqDiff], by simp only [upd_apply, ↓reduceIte, reduceCtorEq, Nat.reduceEqDiff], by simp only [upd_apply, ↓reduceIte, reduceCtorEq, Nat.reduceEqDiff], by simp only [upd_apply, ↓reduceIte, reduceCtorEq, Nat.reduceEqDiff]; rfl, rfl, rfl, fun i _ hi => absurd hi (Nat.not_lt_zero i)⟩

abbrev spotCells := pairCells
theorem spotCells_at {sp : List (Int × Int)} {i : Nat} (hi : i < sp.length) : ((spotCells sp).drop (i * 2)).take 2 = [ii sp[i].1, ii sp[i].2] := pairCells_at hi
theorem spotCells_get {sp : List (Int × Int)} {i : Nat} (hi : i < sp.length) : (spotCells sp)[i * 2 + 0]? = some (ii sp[i].1) ∧ (spotCells sp)[i * 2 + 1]? = some (ii sp[i].2) := by
  have h := spotCells_at hi
  have g : ∀ k, k < 2 → (spotCells sp)[i * 2 + k]? = [ii sp[i].1, ii sp[i].2][k]? := fun k hk => by
    rw [← h, List.getElem?_take_of_lt hk, List.getElem?_drop]
  exact ⟨g 0 (by omega), g 1 (by omega)⟩

def SpotOK (p : Int × Int) : Prop := Off p.1 ∧ Off p.2 ∧ p.1 ≤ p.2 ∧ p.2 - p.1 ≤ 4
instance (p : Int × Int) : Decidable (SpotOK p) := by unfold SpotOK; infer_instance
open Classical in
noncomputable def spotsR (sp : List (Int × Int)) (turn : Int) : Int := if sp.length = 0 ∨ 24 < sp.length then 6 else if (∀ p ∈ sp, SpotOK p) ∧ 0 ≤ turn ∧ turn ≤ 1000000 then 0 else 2

theorem CheckSpots (sp : List (Int × Int)) (turn : Int) (a : AV) (hn : sp.length ≤ 1000000) (h : H) (wf : Wf h) (hs : Sl h a 2 sp.length (spotCells sp)) :
    (om Tryd.prog KK).call (.fn 14 [.agg [a, ii turn]]) h = .ok (ii (spotsR sp turn)) h := by
  refine WV_to (WV_call (fn := Tryd.f14) Tryd.func14 rfl rfl rfl rfl rfl ?_)
  simp only [argF]
  have hlen : ∀ h', lenE Tryd.prog 22 a h' = some (ii (sp.length : Int)) := fun h' => hs.len un_22
  have ha1 : oneB a = true ∧ AV.cells a = [a] := by obtain ⟨_, ⟨rfl, _⟩ | ⟨_, _, _, _, _, _, rfl, _⟩⟩ := hs <;> exact ⟨rfl, rfl⟩
  (repeat' (first
  | (with_reducible refine WC_seq ?_) | (refine WC_region ?_) | (with_reducible refine WC_skip ?_) | (with_reducible refine WC_label ?_) | (with_reducible refine WC_scope ?_) | (with_reducible refine WC_block ?_) | (with_reducible refine WC_ret ?_) | (with_reducible refine WC_exit ?_)
  | (with_reducible refine seqQ_norm ?_) | (with_reducible refine seqQ_ret ?_) | (with_reducible refine seqQ_exit ?_) | (with_reducible refine blkQ_norm ?_) | (with_reducible refine blkQ_ret ?_) | (with_reducible refine blkQ_here ?_) | (refine blkQ_out rfl ?_)
  | (refine WO_nil ?_)
  | (refine WD_nil ?_)
  | (refine WD_gate rfl rfl rfl rfl rfl fun K_ hK_ => ?_; simp only [upd_apply, asB_bool, asB_tup, ↓reduceIte, reduceCtorEq, Nat.reduceEqDiff, Bool.not_true, Bool.not_false]; refine hK_ _ ?_; clear hK_ K_)
  | (refine WO_gate rfl rfl rfl rfl rfl fun K_ hK_ => ?_; simp only [upd_apply, asB_bool, asB_tup, ↓reduceIte, reduceCtorEq, Nat.reduceEqDiff, Bool.not_true, Bool.not_false]; refine hK_ _ ?_; clear hK_ K_)
  | (with_reducible refine gateK_yes ?_) | (refine gateK_no (by decide) ?_) | (with_reducible refine gateK_none ?_)
  | ((try first | refine WO_op rfl rfl rfl ?_ | refine WO_op0 rfl rfl ?_ | refine WD_op rfl rfl rfl ?_ | refine WD_op0 rfl rfl ?_); (refine WV_gen fun Q_ hQ_ => ?_; simp (disch := first | omega | (simp only [List.length_cons, List.length_nil, List.length_append]; omega)) only [x_move, x_assign, x_pick, x_alloc, x_box, x_build, x_load, x_store, x_nilCheck, x_binOp, x_unOp, x_convert, x_makeFunc, x_makeMap, x_makeSlice, x_slice, x_fieldAddr, x_field, x_indexAddr, x_index, x_lookup, x_mapUpdate, x_extract, x_callB, x_callF, x_callT, x_buildSlice, WV_okI, on1_ok, of_ok, done_ok, evT_tmp, get_tmp, evT_int, evT_bool, evT_str, evT_nils, evT_nilm, evT_nilp, evT_nilf, evT_func, upd_apply, evL_nil, evL_cons', evParts_nil, evParts_cons, pickE_def, allocE_def, cells_bool, cells_int, cells_str, cells_ptr, cells_nilp, cells_sl, cells_nils, cells_map, cells_nilm, cells_fn, cells_nilf, cells_agg, asPtr_ptr, asSl_sl, asB_bool, asB_tup, asTup_tup, asI64_int, toNatE_lit, reszT_nils, reszT_none, toNatE_int, slicesE_def, optNat_none, optNat_def, Int.reduceToNat, Int.toNat_natCast, cellsOf_cells, cellsOf_ro, cellsE_cells, oneB_bool, oneB_int, oneB_str, oneB_ptr, oneB_nilp, oneB_sl, oneB_nils, oneB_map, oneB_nilm, oneB_fn, oneB_nilf, loadE_ptr, storeE_ptr, storeCs_some, storeAll_one, storeAll_two, fieldAddrE_ptr, addOff_some, indexAt_sl, indexAt_arr, extractE_tup, nilCheck_fn, nilCheck_ptr, nilCheck_yld, b_add, b_sub, b_mul, b_eql, b_neq, b_lss, b_leq, b_gtr, b_geq, unE_not, unE_neg, bi_len, bi_append, bi_copy, bi_max, bi_min, buildSliceO_def, buildO_def, ble_dec, fillE_nil, fillE_cons, layOver_def, zerosE_zero, zerosE_succ, wrap_in, min_ck, min_cc, min_cl, Nat.min_self, allOne_nil, allOne_cons, cellAt_cells, cellAt_ro, aggAt_cells, storeAt_cells, writeAt_cells, splice_def, marked_X, nx_X, unmark_keep, unmark_full, app_len0, app_len, set_app_len0, set_app_len, List.append_assoc, List.length_append, argF, cond_true, cond_false, ↓reduceIte, reduceCtorEq, Nat.reduceEqDiff, Nat.reduceLT, Nat.reduceLeDiff, Nat.reduceAdd, Nat.reduceMul, Nat.reduceSub, Nat.reduceBEq, Nat.add_zero, Nat.zero_add, Nat.mul_one, Nat.zero_mul, Nat.one_mul, List.length_cons, List.length_nil, List.cons_append, List.nil_append, List.append_nil, List.getElem?_cons_zero, List.getElem?_cons_succ, List.set_cons_zero, List.set_cons_succ, List.drop_zero, List.drop_succ_cons, List.take_zero, List.take_succ_cons, List.take_nil, List.drop_nil, Bool.not_true, Bool.not_false, Bool.true_and, Bool.and_true, Bool.false_and, Bool.and_false, decide_true, decide_false, eq_self, List.toList_toArray, beq_dec, beq_self_eq_true, hlen, newPtr_X wf, load1_X wf, loadAgg_X wf, store1_X wf, writeCells_X wf, bs_71, bsl_25, newSlice_X wf, ia_2, sz_2, ia_3, sz_3, ia_27, ia_51, sz_51, ia_71, sz_71, ia_24, sz_24, ia_22, ia_25, fo_71_0, fo_71_1, fo_71_2, fo_71_3, fo_51_0, fo_51_1, fo_24_0, fo_24_1, ze_71, ze_51, pb_33, pb_36, pb_60, pb_61, pb_78, pb_34, pb_37, pb_14]; first | (refine dec_split (Q := Q_) (fun hp_ => ?_) (fun hp_ => ?_) <;> first | (exfalso; omega) | (refine hQ_ _ _ ?_; clear hQ_ Q_)) | (refine dec_splitn (Q := Q_) (fun hp_ => ?_) (fun hp_ => ?_) <;> first | (exfalso; omega) | (refine hQ_ _ _ ?_; clear hQ_ Q_)) | (refine hQ_ _ _ ?_; clear hQ_ Q_)))
  | (refine WC_cond fun K_ hK_ => ?_; simp (disch := omega) only [evT_tmp, upd_apply, WB_some, ↓reduceIte, reduceCtorEq, Nat.reduceEqDiff, Nat.reduceLT]; refine hK_ _ ?_; clear hK_ K_)
  | (with_reducible refine condK_tt ?_) | (with_reducible refine condK_ff ?_) | (with_reducible refine roundQ_exit ?_) | (with_reducible refine roundQ_ret ?_)))
  · (refine endQ_ret _ _ rfl (ret1 (by decide)) ?_; simp only [upd_apply, ↓reduceIte, reduceCtorEq, Nat.reduceEqDiff]; refine WV_flat rfl (by omega) ?_)
    have e : spotsR sp turn = 6 := if_pos (by omega)
    rw [e]; exact ⟨rfl, rfl⟩
  · (refine endQ_ret _ _ rfl (ret1 (by decide)) ?_; simp only [upd_apply, ↓reduceIte, reduceCtorEq, Nat.reduceEqDiff]; refine WV_flat rfl (by omega) ?_)
    have e : spotsR sp turn = 6 := if_pos (by omega)
    rw [e]; exact ⟨rfl, rfl⟩
  have e1 : ¬ (sp.length = 0 ∨ 24 < sp.length) := by omega
  refine WC_loop (fun (k : Nat) f d h' => k ≤ sp.length ∧ f 1 = .ptr (nx h 0) 0 ∧ f 16 = a ∧ f 17 = ii (sp.length : Int) ∧ f 18 = ii (k : Int) ∧ d = [] ∧ (∃ G, h' = X h (.cells (mkCells [a, ii turn]) 24 :: G) h.clock) ∧ ∀ i (hi : i < sp.length), i < k → SpotOK sp[i]) (fun k => sp.length - k) ?_ (sp.length + 1) 0 (by omega) ?_
  · rintro k f d h' ⟨hk, h1, h16, h17, h18, rfl, ⟨G, rfl⟩, hall⟩
    by_cases hlt : k < sp.length
    · obtain ⟨id, off, hix, hld⟩ := hs.at wf hlt ik_22
      have hld' : ∀ l w, loadAgg id off (some 2) (X h l w) = some (.agg [ii sp[k].1, ii sp[k].2]) := fun l w => by rw [(hld l w).2, spotCells_at hlt]
      clear hld
      (repeat' (first
  | (with_reducible refine WC_seq ?_) | (refine WC_region ?_) | (with_reducible refine WC_skip ?_) | (with_reducible refine WC_label ?_) | (with_reducible refine WC_scope ?_) | (with_reducible refine WC_block ?_) | (with_reducible refine WC_ret ?_) | (with_reducible refine WC_exit ?_)
  | (with_reducible refine seqQ_norm ?_) | (with_reducible refine seqQ_ret ?_) | (with_reducible refine seqQ_exit ?_) | (with_reducible refine blkQ_norm ?_) | (with_reducible refine blkQ_ret ?_) | (with_reducible refine blkQ_here ?_) | (refine blkQ_out rfl ?_)
  | (refine WO_nil ?_)
  | (refine WD_nil ?_)
  | (refine WD_gate rfl rfl rfl rfl rfl fun K_ hK_ => ?_; simp only [upd_apply, asB_bool, asB_tup, ↓reduceIte, reduceCtorEq, Nat.reduceEqDiff, Bool.not_true, Bool.not_false]; refine hK_ _ ?_; clear hK_ K_)
  | (refine WO_gate rfl rfl rfl rfl rfl fun K_ hK_ => ?_; simp only [upd_apply, asB_bool, asB_tup, ↓reduceIte, reduceCtorEq, Nat.reduceEqDiff, Bool.not_true, Bool.not_false]; refine hK_ _ ?_; clear hK_ K_)
  | (with_reducible refine gateK_yes ?_) | (refine gateK_no (by decide) ?_) | (with_reducible refine gateK_none ?_)
  | ((try first | refine WO_op rfl rfl rfl ?_ | refine WO_op0 rfl rfl ?_ | refine WD_op rfl rfl rfl ?_ | refine WD_op0 rfl rfl ?_); (refine WV_gen fun Q_ hQ_ => ?_; simp (disch := first | omega | (simp only [List.length_cons, List.length_nil, List.length_append]; omega)) only [x_move, x_assign, x_pick, x_alloc, x_box, x_build, x_load, x_store, x_nilCheck, x_binOp, x_unOp, x_convert, x_makeFunc, x_makeMap, x_makeSlice, x_slice, x_fieldAddr, x_field, x_indexAddr, x_index, x_lookup, x_mapUpdate, x_extract, x_callB, x_callF, x_callT, x_buildSlice, WV_okI, on1_ok, of_ok, done_ok, evT_tmp, get_tmp, evT_int, evT_bool, evT_str, evT_nils, evT_nilm, evT_nilp, evT_nilf, evT_func, upd_apply, evL_nil, evL_cons', evParts_nil, evParts_cons, pickE_def, allocE_def, cells_bool, cells_int, cells_str, cells_ptr, cells_nilp, cells_sl, cells_nils, cells_map, cells_nilm, cells_fn, cells_nilf, cells_agg, asPtr_ptr, asSl_sl, asB_bool, asB_tup, asTup_tup, asI64_int, toNatE_lit, reszT_nils, reszT_none, toNatE_int, slicesE_def, optNat_none, optNat_def, Int.reduceToNat, Int.toNat_natCast, cellsOf_cells, cellsOf_ro, cellsE_cells, oneB_bool, oneB_int, oneB_str, oneB_ptr, oneB_nilp, oneB_sl, oneB_nils, oneB_map, oneB_nilm, oneB_fn, oneB_nilf, loadE_ptr, storeE_ptr, storeCs_some, storeAll_one, storeAll_two, fieldAddrE_ptr, addOff_some, indexAt_sl, indexAt_arr, extractE_tup, nilCheck_fn, nilCheck_ptr, nilCheck_yld, b_add, b_sub, b_mul, b_eql, b_neq, b_lss, b_leq, b_gtr, b_geq, unE_not, unE_neg, bi_len, bi_append, bi_copy, bi_max, bi_min, buildSliceO_def, buildO_def, ble_dec, fillE_nil, fillE_cons, layOver_def, zerosE_zero, zerosE_succ, wrap_in, min_ck, min_cc, min_cl, Nat.min_self, allOne_nil, allOne_cons, cellAt_cells, cellAt_ro, aggAt_cells, storeAt_cells, writeAt_cells, splice_def, marked_X, nx_X, unmark_keep, unmark_full, app_len0, app_len, set_app_len0, set_app_len, List.append_assoc, List.length_append, argF, cond_true, cond_false, ↓reduceIte, reduceCtorEq, Nat.reduceEqDiff, Nat.reduceLT, Nat.reduceLeDiff, Nat.reduceAdd, Nat.reduceMul, Nat.reduceSub, Nat.reduceBEq, Nat.add_zero, Nat.zero_add, Nat.mul_one, Nat.zero_mul, Nat.one_mul, List.length_cons, List.length_nil, List.cons_append, List.nil_append, List.append_nil, List.getElem?_cons_zero, List.getElem?_cons_succ, List.set_cons_zero, List.set_cons_succ, List.drop_zero, List.drop_succ_cons, List.take_zero, List.take_succ_cons, List.take_nil, List.drop_nil, Bool.not_true, Bool.not_false, Bool.true_and, Bool.and_true, Bool.false_and, Bool.and_false, decide_true, decide_false, eq_self, List.toList_toArray, beq_dec, beq_self_eq_true, h1, h16, h17, h18, hix, hld', newPtr_X wf, load1_X wf, loadAgg_X wf, store1_X wf, writeCells_X wf, bs_71, bsl_25, newSlice_X wf, ia_2, sz_2, ia_3, sz_3, ia_27, ia_51, sz_51, ia_71, sz_71, ia_24, sz_24, ia_22, ia_25, fo_71_0, fo_71_1, fo_71_2, fo_71_3, fo_51_0, fo_51_1, fo_24_0, fo_24_1, ze_71, ze_51, pb_33, pb_36, pb_60, pb_61, pb_78, pb_34, pb_37, pb_14]; first | (refine dec_split (Q := Q_) (fun hp_ => ?_) (fun hp_ => ?_) <;> first | (exfalso; omega) | (refine hQ_ _ _ ?_; clear hQ_ Q_)) | (refine dec_splitn (Q := Q_) (fun hp_ => ?_) (fun hp_ => ?_) <;> first | (exfalso; omega) | (refine hQ_ _ _ ?_; clear hQ_ Q_)) | (refine hQ_ _ _ ?_; clear hQ_ Q_) | (refine WV_eq (isSpot _ _ _ (wf.X (Nat.le_add_right _ _))) ?_; refine hQ_ _ _ ?_; clear hQ_ Q_)))
  | (refine WC_cond fun K_ hK_ => ?_; simp (disch := omega) only [evT_tmp, upd_apply, WB_some, ↓reduceIte, reduceCtorEq, Nat.reduceEqDiff, Nat.reduceLT]; refine hK_ _ ?_; clear hK_ K_)
  | (with_reducible refine condK_tt ?_) | (with_reducible refine condK_ff ?_) | (with_reducible refine roundQ_exit ?_) | (with_reducible refine roundQ_ret ?_)))
      · exact roundQ_again (k + 1) (by omega) ⟨hlt, by simp only [upd_apply, ↓reduceIte, reduceCtorEq, Nat.reduceEqDiff]; exact h1, by simp only [upd_apply, ↓reduceIte, reduceCtorEq, Nat.reduceEqDiff]; exact h16, by simp only [upd_apply, ↓reduceIte, reduceCtorEq, Nat.reduceEqDiff]; exact h17, by simp only [upd_apply, ↓reduceIte, reduceCtorEq, Nat.reduceEqDiff]; rfl, rfl, ⟨_, rfl⟩, all_step hlt hall ‹_›⟩
      · (refine endQ_ret _ _ rfl (ret1 (by decide)) ?_; simp only [upd_apply, ↓reduceIte, reduceCtorEq, Nat.reduceEqDiff]; refine WV_flat rfl (by omega) ?_)
        have e : spotsR sp turn = 2 := by unfold spotsR; rw [if_neg e1, if_neg (fun hh => all_not (p := SpotOK) hlt ‹_› hh.1)]
        rw [e]; exact ⟨rfl, rfl⟩
    · have hkl : k = sp.length := by omega
      subst hkl
      have hx := all_done hall
      (repeat' (first
  | (with_reducible refine WC_seq ?_) | (refine WC_region ?_) | (with_reducible refine WC_skip ?_) | (with_reducible refine WC_label ?_) | (with_reducible refine WC_scope ?_) | (with_reducible refine WC_block ?_) | (with_reducible refine WC_ret ?_) | (with_reducible refine WC_exit ?_)
  | (with_reducible refine seqQ_norm ?_) | (with_reducible refine seqQ_ret ?_) | (with_reducible refine seqQ_exit ?_) | (with_reducible refine blkQ_norm ?_) | (with_reducible refine blkQ_ret ?_) | (with_reducible refine blkQ_here ?_) | (refine blkQ_out rfl ?_)
  | (refine WO_nil ?_)
  | (refine WD_nil ?_)
  | (refine WD_gate rfl rfl rfl rfl rfl fun K_ hK_ => ?_; simp only [upd_apply, asB_bool, asB_tup, ↓reduceIte, reduceCtorEq, Nat.reduceEqDiff, Bool.not_true, Bool.not_false]; refine hK_ _ ?_; clear hK_ K_)
  | (refine WO_gate rfl rfl rfl rfl rfl fun K_ hK_ => ?_; simp only [upd_apply, asB_bool, asB_tup, ↓reduceIte, reduceCtorEq, Nat.reduceEqDiff, Bool.not_true, Bool.not_false]; refine hK_ _ ?_; clear hK_ K_)
  | (with_reducible refine gateK_yes ?_) | (refine gateK_no (by decide) ?_) | (with_reducible refine gateK_none ?_)
  | ((try first | refine WO_op rfl rfl rfl ?_ | refine WO_op0 rfl rfl ?_ | refine WD_op rfl rfl rfl ?_ | refine WD_op0 rfl rfl ?_); (refine WV_gen fun Q_ hQ_ => ?_; simp (disch := first | omega | (simp only [List.length_cons, List.length_nil, List.length_append]; omega)) only [x_move, x_assign, x_pick, x_alloc, x_box, x_build, x_load, x_store, x_nilCheck, x_binOp, x_unOp, x_convert, x_makeFunc, x_makeMap, x_makeSlice, x_slice, x_fieldAddr, x_field, x_indexAddr, x_index, x_lookup, x_mapUpdate, x_extract, x_callB, x_callF, x_callT, x_buildSlice, WV_okI, on1_ok, of_ok, done_ok, evT_tmp, get_tmp, evT_int, evT_bool, evT_str, evT_nils, evT_nilm, evT_nilp, evT_nilf, evT_func, upd_apply, evL_nil, evL_cons', evParts_nil, evParts_cons, pickE_def, allocE_def, cells_bool, cells_int, cells_str, cells_ptr, cells_nilp, cells_sl, cells_nils, cells_map, cells_nilm, cells_fn, cells_nilf, cells_agg, asPtr_ptr, asSl_sl, asB_bool, asB_tup, asTup_tup, asI64_int, toNatE_lit, reszT_nils, reszT_none, toNatE_int, slicesE_def, optNat_none, optNat_def, Int.reduceToNat, Int.toNat_natCast, cellsOf_cells, cellsOf_ro, cellsE_cells, oneB_bool, oneB_int, oneB_str, oneB_ptr, oneB_nilp, oneB_sl, oneB_nils, oneB_map, oneB_nilm, oneB_fn, oneB_nilf, loadE_ptr, storeE_ptr, storeCs_some, storeAll_one, storeAll_two, fieldAddrE_ptr, addOff_some, indexAt_sl, indexAt_arr, extractE_tup, nilCheck_fn, nilCheck_ptr, nilCheck_yld, b_add, b_sub, b_mul, b_eql, b_neq, b_lss, b_leq, b_gtr, b_geq, unE_not, unE_neg, bi_len, bi_append, bi_copy, bi_max, bi_min, buildSliceO_def, buildO_def, ble_dec, fillE_nil, fillE_cons, layOver_def, zerosE_zero, zerosE_succ, wrap_in, min_ck, min_cc, min_cl, Nat.min_self, allOne_nil, allOne_cons, cellAt_cells, cellAt_ro, aggAt_cells, storeAt_cells, writeAt_cells, splice_def, marked_X, nx_X, unmark_keep, unmark_full, app_len0, app_len, set_app_len0, set_app_len, List.append_assoc, List.length_append, argF, cond_true, cond_false, ↓reduceIte, reduceCtorEq, Nat.reduceEqDiff, Nat.reduceLT, Nat.reduceLeDiff, Nat.reduceAdd, Nat.reduceMul, Nat.reduceSub, Nat.reduceBEq, Nat.add_zero, Nat.zero_add, Nat.mul_one, Nat.zero_mul, Nat.one_mul, List.length_cons, List.length_nil, List.cons_append, List.nil_append, List.append_nil, List.getElem?_cons_zero, List.getElem?_cons_succ, List.set_cons_zero, List.set_cons_succ, List.drop_zero, List.drop_succ_cons, List.take_zero, List.take_succ_cons, List.take_nil, List.drop_nil, Bool.not_true, Bool.not_false, Bool.true_and, Bool.and_true, Bool.false_and, Bool.and_false, decide_true, decide_false, eq_self, List.toList_toArray, beq_dec, beq_self_eq_true, h1, h16, h17, h18, newPtr_X wf, load1_X wf, loadAgg_X wf, store1_X wf, writeCells_X wf, bs_71, bsl_25, newSlice_X wf, ia_2, sz_2, ia_3, sz_3, ia_27, ia_51, sz_51, ia_71, sz_71, ia_24, sz_24, ia_22, ia_25, fo_71_0, fo_71_1, fo_71_2, fo_71_3, fo_51_0, fo_51_1, fo_24_0, fo_24_1, ze_71, ze_51, pb_33, pb_36, pb_60, pb_61, pb_78, pb_34, pb_37, pb_14]; first | (refine dec_split (Q := Q_) (fun hp_ => ?_) (fun hp_ => ?_) <;> first | (exfalso; omega) | (refine hQ_ _ _ ?_; clear hQ_ Q_)) | (refine dec_splitn (Q := Q_) (fun hp_ => ?_) (fun hp_ => ?_) <;> first | (exfalso; omega) | (refine hQ_ _ _ ?_; clear hQ_ Q_)) | (refine hQ_ _ _ ?_; clear hQ_ Q_)))
  | (refine WC_cond fun K_ hK_ => ?_; simp (disch := omega) only [evT_tmp, upd_apply, WB_some, ↓reduceIte, reduceCtorEq, Nat.reduceEqDiff, Nat.reduceLT]; refine hK_ _ ?_; clear hK_ K_)
  | (with_reducible refine condK_tt ?_) | (with_reducible refine condK_ff ?_) | (with_reducible refine roundQ_exit ?_) | (with_reducible refine roundQ_ret ?_)))
      · (refine endQ_ret _ _ rfl (ret1 (by decide)) ?_; simp only [upd_apply, ↓reduceIte, reduceCtorEq, Nat.reduceEqDiff]; refine WV_flat rfl (by omega) ?_)
        have e : spotsR sp turn = 2 := by unfold spotsR; rw [if_neg e1, if_neg (by omega)]
        rw [e]; exact ⟨rfl, rfl⟩
      · (refine endQ_ret _ _ rfl (ret1 (by decide)) ?_; simp only [upd_apply, ↓reduceIte, reduceCtorEq, Nat.reduceEqDiff]; refine WV_flat rfl (by omega) ?_)
        have e : spotsR sp turn = 2 := by unfold spotsR; rw [if_neg e1, if_neg (by omega)]
        rw [e]; exact ⟨rfl, rfl⟩
      · (refine endQ_ret _ _ rfl (ret1 (by decide)) ?_; simp only [upd_apply, ↓reduceIte, reduceCtorEq, Nat.reduceEqDiff]; refine WV_flat rfl (by omega) ?_)
        have e : spotsR sp turn = 0 := by unfold spotsR; rw [if_neg e1, if_pos ⟨hx, by omega, by omega⟩]
        rw [e]; exact ⟨rfl, rfl⟩
  · refine ⟨Nat.zero_le _, by simp only [upd_apply, ↓reduceIte, reduceCtorEq, Nat.reduceEqDiff], by simp only [upd_apply, ↓reduceIte, reduceCtorEq, Nat.reduceEqDiff], by simp only [upd_apply, ↓reduceIte, reduceCtorEq, Nat.reduceEqDiff], by simp only [upd_apply, ↓reduceIte, reduceCtorEq, Nat.reduceEqDiff]; rfl, rfl, ⟨[], rfl⟩, fun i _ hi => absurd hi (Nat.not_lt_zero i)⟩
end Go.Proofs.YtghondkiondeaaaDoor
end
