import Derived.Test.YtghondkiondeaaaDoorM4
import Derived.Test.YtghondkiondeaaaDoorChecked
import Derived.Eval
import Derived.KernelRfl
import Derived.Test.YtghondkiondeaaaDoorCards
import Derived.Test.YtghondkiondeaaaDoorTie
import Derived.WalkKit
import Derived.ProofKit
import Derived.OpenShut
import Derived.Deep.DeepHandedRow
import Derived.Lib.LaidTab
/- EvF5 -/
section
/-
  LAYER 1: Check, by the program.
-/
namespace Go.Proofs.YtghondkiondeaaaDoor
open Go.Ev
set_option maxRecDepth 100000
set_option linter.unusedSimpArgs false
set_option linter.unusedVariables false

def InAt (sp : List (Int × Int)) (xs : List Int) (i : Nat) : Prop := ∀ (p : Int × Int) (x : Int), sp[i]? = some p → xs[i]? = some x → p.1 ≤ x ∧ x ≤ p.2
open Classical in
noncomputable def checkR (sp : List (Int × Int)) (turn : Int) (xs : List Int) : Int × Int :=
  if spotsR sp turn ≠ 0 then (0, spotsR sp turn) else if xs.length ≠ sp.length then (0, 15) else if ∀ i, i < sp.length → InAt sp xs i then ((measOf xs).2 + turn * (measOf xs).1, 0) else (0, 17)

theorem spotsR_ok {sp : List (Int × Int)} {turn : Int} (h : spotsR sp turn = 0) : 0 < sp.length ∧ sp.length ≤ 24 ∧ (∀ p ∈ sp, SpotOK p) ∧ 0 ≤ turn ∧ turn ≤ 1000000 := by
  unfold spotsR at h
  split at h
  · cases h
  · rename_i h1
    split at h
    · rename_i h2; exact ⟨by omega, by omega, h2.1, h2.2.1, h2.2.2⟩
    · cases h
theorem measOf_in {xs : List Int} (hx : ∀ x ∈ xs, Off x) : 0 ≤ (measOf xs).1 ∧ (measOf xs).1 ≤ xs.length ∧ 0 ≤ (measOf xs).2 ∧ (measOf xs).2 ≤ 4000000 * xs.length := by
  match xs, hx with
  | [], _ => exact ⟨Int.le_refl 0, by simp [measOf], Int.le_refl 0, by simp [measOf]⟩
  | [x], _ => exact ⟨Int.le_refl 0, by simp [measOf], Int.le_refl 0, by simp [measOf]⟩
  | x :: y :: r, hx =>
    have h := mfold_in (hx x (by simp)) (hx y (by simp)) (fun z hz => hx z (by simp [hz])) r.length (Nat.le_refl _)
    rw [List.take_length] at h
    obtain ⟨_, _, c1, c2, c3, c4⟩ := h
    simp only [measOf, List.length_cons]
    push_cast
    omega

theorem Check (sp : List (Int × Int)) (turn : Int) (a : AV) (xs : List Int) (b : AV) (hn : sp.length ≤ 1000000) (hm : xs.length ≤ 1000000) (hc : Capd b) (h : H) (wf : Wf h) (hs : Sl h a 2 sp.length (spotCells sp)) (hx : Sl h b 1 xs.length (xs.map ii)) :
    (om Tryd.prog KK).call (.fn 12 [.agg [a, ii turn], b]) h = .ok (.tup [ii (checkR sp turn xs).1, ii (checkR sp turn xs).2]) h := by
  refine WV_to (WV_call (fn := Tryd.f12) Tryd.func12 rfl rfl rfl rfl rfl ?_)
  simp only [argF]
  have hlen : ∀ h', lenE Tryd.prog 22 a h' = some (ii (sp.length : Int)) := fun h' => hs.len un_22
  have hlb : ∀ h', lenE Tryd.prog 25 b h' = some (ii (xs.length : Int)) := fun h' => hx.len un_25
  (repeat' (first
  | (with_reducible refine WC_seq ?_) | (refine WC_region ?_) | (with_reducible refine WC_skip ?_) | (with_reducible refine WC_label ?_) | (with_reducible refine WC_scope ?_) | (with_reducible refine WC_block ?_) | (with_reducible refine WC_ret ?_) | (with_reducible refine WC_exit ?_)
  | (with_reducible refine seqQ_norm ?_) | (with_reducible refine seqQ_ret ?_) | (with_reducible refine seqQ_exit ?_) | (with_reducible refine blkQ_norm ?_) | (with_reducible refine blkQ_ret ?_) | (with_reducible refine blkQ_here ?_) | (refine blkQ_out rfl ?_)
  | (refine WO_nil ?_)
  | (refine WD_nil ?_)
  | (refine WD_gate rfl rfl rfl rfl rfl fun K_ hK_ => ?_; simp only [upd_apply, asB_bool, asB_tup, ↓reduceIte, reduceCtorEq, Nat.reduceEqDiff, Bool.not_true, Bool.not_false]; refine hK_ _ ?_; clear hK_ K_)
  | (refine WO_gate rfl rfl rfl rfl rfl fun K_ hK_ => ?_; simp only [upd_apply, asB_bool, asB_tup, ↓reduceIte, reduceCtorEq, Nat.reduceEqDiff, Bool.not_true, Bool.not_false]; refine hK_ _ ?_; clear hK_ K_)
  | (with_reducible refine gateK_yes ?_) | (refine gateK_no (by decide) ?_) | (with_reducible refine gateK_none ?_)
  | ((try first | refine WO_op rfl rfl rfl ?_ | refine WO_op0 rfl rfl ?_ | refine WD_op rfl rfl rfl ?_ | refine WD_op0 rfl rfl ?_); (refine WV_gen fun Q_ hQ_ => ?_; simp (disch := first | omega | (simp only [List.length_cons, List.length_nil, List.length_append]; omega)) only [x_move, x_assign, x_pick, x_alloc, x_box, x_build, x_load, x_store, x_nilCheck, x_binOp, x_unOp, x_convert, x_makeFunc, x_makeMap, x_makeSlice, x_slice, x_fieldAddr, x_field, x_indexAddr, x_index, x_lookup, x_mapUpdate, x_extract, x_callB, x_callF, x_callT, x_buildSlice, WV_okI, on1_ok, of_ok, done_ok, evT_tmp, get_tmp, evT_int, evT_bool, evT_str, evT_nils, evT_nilm, evT_nilp, evT_nilf, evT_func, upd_apply, evL_nil, evL_cons', evParts_nil, evParts_cons, pickE_def, allocE_def, cells_bool, cells_int, cells_str, cells_ptr, cells_nilp, cells_sl, cells_nils, cells_map, cells_nilm, cells_fn, cells_nilf, cells_agg, asPtr_ptr, asSl_sl, asB_bool, asB_tup, asTup_tup, asI64_int, toNatE_lit, reszT_nils, reszT_none, toNatE_int, slicesE_def, optNat_none, optNat_def, Int.reduceToNat, Int.toNat_natCast, cellsOf_cells, cellsOf_ro, cellsE_cells, oneB_bool, oneB_int, oneB_str, oneB_ptr, oneB_nilp, oneB_sl, oneB_nils, oneB_map, oneB_nilm, oneB_fn, oneB_nilf, loadE_ptr, storeE_ptr, storeCs_some, storeAll_one, storeAll_two, fieldAddrE_ptr, addOff_some, indexAt_sl, indexAt_arr, extractE_tup, nilCheck_fn, nilCheck_ptr, nilCheck_yld, b_add, b_sub, b_mul, b_eql, b_neq, b_lss, b_leq, b_gtr, b_geq, unE_not, unE_neg, bi_len, bi_append, bi_copy, bi_max, bi_min, buildSliceO_def, buildO_def, ble_dec, fillE_nil, fillE_cons, layOver_def, zerosE_zero, zerosE_succ, wrap_in, min_ck, min_cc, min_cl, Nat.min_self, allOne_nil, allOne_cons, cellAt_cells, cellAt_ro, aggAt_cells, storeAt_cells, writeAt_cells, splice_def, marked_X, nx_X, unmark_keep, unmark_full, app_len0, app_len, set_app_len0, set_app_len, List.append_assoc, List.length_append, argF, cond_true, cond_false, ↓reduceIte, reduceCtorEq, Nat.reduceEqDiff, Nat.reduceLT, Nat.reduceLeDiff, Nat.reduceAdd, Nat.reduceMul, Nat.reduceSub, Nat.reduceBEq, Nat.add_zero, Nat.zero_add, Nat.mul_one, Nat.zero_mul, Nat.one_mul, List.length_cons, List.length_nil, List.cons_append, List.nil_append, List.append_nil, List.getElem?_cons_zero, List.getElem?_cons_succ, List.set_cons_zero, List.set_cons_succ, List.drop_zero, List.drop_succ_cons, List.take_zero, List.take_succ_cons, List.take_nil, List.drop_nil, Bool.not_true, Bool.not_false, Bool.true_and, Bool.and_true, Bool.false_and, Bool.and_false, decide_true, decide_false, eq_self, List.toList_toArray, beq_dec, beq_self_eq_true, hlen, hlb, newPtr_X wf, load1_X wf, loadAgg_X wf, store1_X wf, writeCells_X wf, bs_71, bsl_25, newSlice_X wf, ia_2, sz_2, ia_3, sz_3, ia_27, ia_51, sz_51, ia_71, sz_71, ia_24, sz_24, ia_22, ia_25, fo_71_0, fo_71_1, fo_71_2, fo_71_3, fo_51_0, fo_51_1, fo_24_0, fo_24_1, ze_71, ze_51, pb_33, pb_36, pb_60, pb_61, pb_78, pb_34, pb_37, pb_14]; first | (refine dec_split (Q := Q_) (fun hp_ => ?_) (fun hp_ => ?_) <;> first | (exfalso; omega) | (refine hQ_ _ _ ?_; clear hQ_ Q_)) | (refine dec_splitn (Q := Q_) (fun hp_ => ?_) (fun hp_ => ?_) <;> first | (exfalso; omega) | (refine hQ_ _ _ ?_; clear hQ_ Q_)) | (refine hQ_ _ _ ?_; clear hQ_ Q_) | (refine WV_eq (CheckSpots sp turn a hn _ (wf.X (Nat.le_add_right _ _)) (hs.up wf _ _)) ?_; refine hQ_ _ _ ?_; clear hQ_ Q_)))
  | (refine WC_cond fun K_ hK_ => ?_; simp (disch := omega) only [evT_tmp, upd_apply, WB_some, ↓reduceIte, reduceCtorEq, Nat.reduceEqDiff, Nat.reduceLT]; refine hK_ _ ?_; clear hK_ K_)
  | (with_reducible refine condK_tt ?_) | (with_reducible refine condK_ff ?_) | (with_reducible refine roundQ_exit ?_) | (with_reducible refine roundQ_ret ?_)))
  · have e0 : spotsR sp turn = 0 := by assumption
    have e1' : ¬ xs.length ≠ sp.length := by omega
    have e0' : ¬ spotsR sp turn ≠ 0 := fun hh => hh e0
    obtain ⟨g1, g2, g3, g4, g5⟩ := spotsR_ok e0
    refine WC_loop (fun (k : Nat) f d h' => k ≤ sp.length ∧ f 1 = b ∧ f 2 = .ptr (nx h 0) 0 ∧ f 23 = a ∧ f 24 = ii (sp.length : Int) ∧ f 25 = ii (k : Int) ∧ d = [] ∧ (∃ G, h' = X h (.cells (mkCells [a, ii turn]) 24 :: G) h.clock) ∧ ∀ i, i < k → InAt sp xs i) (fun k => sp.length - k) ?_ (sp.length + 1) 0 (by omega) ?_
    · rintro k f d h' ⟨hk, q1, q2, q23, q24, q25, rfl, ⟨G, rfl⟩, hall⟩
      by_cases hlt : k < sp.length
      · obtain ⟨id, off, hix, hld⟩ := hs.at wf hlt ik_22
        have hld' : ∀ l w, loadAgg id off (some 2) (X h l w) = some (.agg [ii sp[k].1, ii sp[k].2]) := fun l w => by rw [(hld l w).2, spotCells_at hlt]
        clear hld
        obtain ⟨id2, off2, hix2, hld2⟩ := hx.at1 wf (i := k) (by omega) ik_25
        rw [map_get (by omega)] at hld2
        have hsk : sp[k]? = some sp[k] := List.getElem?_eq_getElem hlt
        have hxk : xs[k]? = some xs[k] := List.getElem?_eq_getElem (by omega)
        (repeat' (first
  | (with_reducible refine WC_seq ?_) | (refine WC_region ?_) | (with_reducible refine WC_skip ?_) | (with_reducible refine WC_label ?_) | (with_reducible refine WC_scope ?_) | (with_reducible refine WC_block ?_) | (with_reducible refine WC_ret ?_) | (with_reducible refine WC_exit ?_)
  | (with_reducible refine seqQ_norm ?_) | (with_reducible refine seqQ_ret ?_) | (with_reducible refine seqQ_exit ?_) | (with_reducible refine blkQ_norm ?_) | (with_reducible refine blkQ_ret ?_) | (with_reducible refine blkQ_here ?_) | (refine blkQ_out rfl ?_)
  | (refine WO_nil ?_)
  | (refine WD_nil ?_)
  | (refine WD_gate rfl rfl rfl rfl rfl fun K_ hK_ => ?_; simp only [upd_apply, asB_bool, asB_tup, ↓reduceIte, reduceCtorEq, Nat.reduceEqDiff, Bool.not_true, Bool.not_false]; refine hK_ _ ?_; clear hK_ K_)
  | (refine WO_gate rfl rfl rfl rfl rfl fun K_ hK_ => ?_; simp only [upd_apply, asB_bool, asB_tup, ↓reduceIte, reduceCtorEq, Nat.reduceEqDiff, Bool.not_true, Bool.not_false]; refine hK_ _ ?_; clear hK_ K_)
  | (with_reducible refine gateK_yes ?_) | (refine gateK_no (by decide) ?_) | (with_reducible refine gateK_none ?_)
  | ((try first | refine WO_op rfl rfl rfl ?_ | refine WO_op0 rfl rfl ?_ | refine WD_op rfl rfl rfl ?_ | refine WD_op0 rfl rfl ?_); (refine WV_gen fun Q_ hQ_ => ?_; simp (disch := first | omega | (simp only [List.length_cons, List.length_nil, List.length_append]; omega)) only [x_move, x_assign, x_pick, x_alloc, x_box, x_build, x_load, x_store, x_nilCheck, x_binOp, x_unOp, x_convert, x_makeFunc, x_makeMap, x_makeSlice, x_slice, x_fieldAddr, x_field, x_indexAddr, x_index, x_lookup, x_mapUpdate, x_extract, x_callB, x_callF, x_callT, x_buildSlice, WV_okI, on1_ok, of_ok, done_ok, evT_tmp, get_tmp, evT_int, evT_bool, evT_str, evT_nils, evT_nilm, evT_nilp, evT_nilf, evT_func, upd_apply, evL_nil, evL_cons', evParts_nil, evParts_cons, pickE_def, allocE_def, cells_bool, cells_int, cells_str, cells_ptr, cells_nilp, cells_sl, cells_nils, cells_map, cells_nilm, cells_fn, cells_nilf, cells_agg, asPtr_ptr, asSl_sl, asB_bool, asB_tup, asTup_tup, asI64_int, toNatE_lit, reszT_nils, reszT_none, toNatE_int, slicesE_def, optNat_none, optNat_def, Int.reduceToNat, Int.toNat_natCast, cellsOf_cells, cellsOf_ro, cellsE_cells, oneB_bool, oneB_int, oneB_str, oneB_ptr, oneB_nilp, oneB_sl, oneB_nils, oneB_map, oneB_nilm, oneB_fn, oneB_nilf, loadE_ptr, storeE_ptr, storeCs_some, storeAll_one, storeAll_two, fieldAddrE_ptr, addOff_some, indexAt_sl, indexAt_arr, extractE_tup, nilCheck_fn, nilCheck_ptr, nilCheck_yld, b_add, b_sub, b_mul, b_eql, b_neq, b_lss, b_leq, b_gtr, b_geq, unE_not, unE_neg, bi_len, bi_append, bi_copy, bi_max, bi_min, buildSliceO_def, buildO_def, ble_dec, fillE_nil, fillE_cons, layOver_def, zerosE_zero, zerosE_succ, wrap_in, min_ck, min_cc, min_cl, Nat.min_self, allOne_nil, allOne_cons, cellAt_cells, cellAt_ro, aggAt_cells, storeAt_cells, writeAt_cells, splice_def, marked_X, nx_X, unmark_keep, unmark_full, app_len0, app_len, set_app_len0, set_app_len, List.append_assoc, List.length_append, argF, cond_true, cond_false, ↓reduceIte, reduceCtorEq, Nat.reduceEqDiff, Nat.reduceLT, Nat.reduceLeDiff, Nat.reduceAdd, Nat.reduceMul, Nat.reduceSub, Nat.reduceBEq, Nat.add_zero, Nat.zero_add, Nat.mul_one, Nat.zero_mul, Nat.one_mul, List.length_cons, List.length_nil, List.cons_append, List.nil_append, List.append_nil, List.getElem?_cons_zero, List.getElem?_cons_succ, List.set_cons_zero, List.set_cons_succ, List.drop_zero, List.drop_succ_cons, List.take_zero, List.take_succ_cons, List.take_nil, List.drop_nil, Bool.not_true, Bool.not_false, Bool.true_and, Bool.and_true, Bool.false_and, Bool.and_false, decide_true, decide_false, eq_self, List.toList_toArray, beq_dec, beq_self_eq_true, q1, q2, q23, q24, q25, hix, hld', newPtr_X wf, load1_X wf, loadAgg_X wf, store1_X wf, writeCells_X wf, bs_71, bsl_25, newSlice_X wf, ia_2, sz_2, ia_3, sz_3, ia_27, ia_51, sz_51, ia_71, sz_71, ia_24, sz_24, ia_22, ia_25, fo_71_0, fo_71_1, fo_71_2, fo_71_3, fo_51_0, fo_51_1, fo_24_0, fo_24_1, ze_71, ze_51, pb_33, pb_36, pb_60, pb_61, pb_78, pb_34, pb_37, pb_14]; first | (refine dec_split (Q := Q_) (fun hp_ => ?_) (fun hp_ => ?_) <;> first | (exfalso; omega) | (refine hQ_ _ _ ?_; clear hQ_ Q_)) | (refine dec_splitn (Q := Q_) (fun hp_ => ?_) (fun hp_ => ?_) <;> first | (exfalso; omega) | (refine hQ_ _ _ ?_; clear hQ_ Q_)) | (refine hQ_ _ _ ?_; clear hQ_ Q_)))
  | (refine WC_cond fun K_ hK_ => ?_; simp (disch := omega) only [evT_tmp, upd_apply, WB_some, ↓reduceIte, reduceCtorEq, Nat.reduceEqDiff, Nat.reduceLT]; refine hK_ _ ?_; clear hK_ K_)
  | (with_reducible refine condK_tt ?_) | (with_reducible refine condK_ff ?_) | (with_reducible refine roundQ_exit ?_) | (with_reducible refine roundQ_ret ?_)))
        refine WC_drawnB [.no, .no, .no, .no, .no, .no, .full, .full, .no, .no, .no, .no, .no, .no, .full, .full] (by kernel_rfl) ?_
        (repeat' (first
  | (with_reducible refine WC_seq ?_) | (refine WC_region ?_) | (with_reducible refine WC_skip ?_) | (with_reducible refine WC_label ?_) | (with_reducible refine WC_scope ?_) | (with_reducible refine WC_block ?_) | (with_reducible refine WC_ret ?_) | (with_reducible refine WC_exit ?_)
  | (with_reducible refine seqQ_norm ?_) | (with_reducible refine seqQ_ret ?_) | (with_reducible refine seqQ_exit ?_) | (with_reducible refine blkQ_norm ?_) | (with_reducible refine blkQ_ret ?_) | (with_reducible refine blkQ_here ?_) | (refine blkQ_out rfl ?_)
  | (refine WO_nil ?_)
  | (refine WD_nil ?_)
  | (refine WD_gate rfl rfl rfl rfl rfl fun K_ hK_ => ?_; simp only [upd_apply, asB_bool, asB_tup, ↓reduceIte, reduceCtorEq, Nat.reduceEqDiff, Bool.not_true, Bool.not_false]; refine hK_ _ ?_; clear hK_ K_)
  | (refine WO_gate rfl rfl rfl rfl rfl fun K_ hK_ => ?_; simp only [upd_apply, asB_bool, asB_tup, ↓reduceIte, reduceCtorEq, Nat.reduceEqDiff, Bool.not_true, Bool.not_false]; refine hK_ _ ?_; clear hK_ K_)
  | (with_reducible refine gateK_yes ?_) | (refine gateK_no (by decide) ?_) | (with_reducible refine gateK_none ?_)
  | ((try first | refine WO_op rfl rfl rfl ?_ | refine WO_op0 rfl rfl ?_ | refine WD_op rfl rfl rfl ?_ | refine WD_op0 rfl rfl ?_); (refine WV_gen fun Q_ hQ_ => ?_; simp (disch := first | omega | (simp only [List.length_cons, List.length_nil, List.length_append]; omega)) only [x_move, x_assign, x_pick, x_alloc, x_box, x_build, x_load, x_store, x_nilCheck, x_binOp, x_unOp, x_convert, x_makeFunc, x_makeMap, x_makeSlice, x_slice, x_fieldAddr, x_field, x_indexAddr, x_index, x_lookup, x_mapUpdate, x_extract, x_callB, x_callF, x_callT, x_buildSlice, WV_okI, on1_ok, of_ok, done_ok, evT_tmp, get_tmp, evT_int, evT_bool, evT_str, evT_nils, evT_nilm, evT_nilp, evT_nilf, evT_func, upd_apply, evL_nil, evL_cons', evParts_nil, evParts_cons, pickE_def, allocE_def, cells_bool, cells_int, cells_str, cells_ptr, cells_nilp, cells_sl, cells_nils, cells_map, cells_nilm, cells_fn, cells_nilf, cells_agg, asPtr_ptr, asSl_sl, asB_bool, asB_tup, asTup_tup, asI64_int, toNatE_lit, reszT_nils, reszT_none, toNatE_int, slicesE_def, optNat_none, optNat_def, Int.reduceToNat, Int.toNat_natCast, cellsOf_cells, cellsOf_ro, cellsE_cells, oneB_bool, oneB_int, oneB_str, oneB_ptr, oneB_nilp, oneB_sl, oneB_nils, oneB_map, oneB_nilm, oneB_fn, oneB_nilf, loadE_ptr, storeE_ptr, storeCs_some, storeAll_one, storeAll_two, fieldAddrE_ptr, addOff_some, indexAt_sl, indexAt_arr, extractE_tup, nilCheck_fn, nilCheck_ptr, nilCheck_yld, b_add, b_sub, b_mul, b_eql, b_neq, b_lss, b_leq, b_gtr, b_geq, unE_not, unE_neg, bi_len, bi_append, bi_copy, bi_max, bi_min, buildSliceO_def, buildO_def, ble_dec, fillE_nil, fillE_cons, layOver_def, zerosE_zero, zerosE_succ, wrap_in, min_ck, min_cc, min_cl, Nat.min_self, allOne_nil, allOne_cons, cellAt_cells, cellAt_ro, aggAt_cells, storeAt_cells, writeAt_cells, splice_def, marked_X, nx_X, unmark_keep, unmark_full, app_len0, app_len, set_app_len0, set_app_len, List.append_assoc, List.length_append, argF, cond_true, cond_false, ↓reduceIte, reduceCtorEq, Nat.reduceEqDiff, Nat.reduceLT, Nat.reduceLeDiff, Nat.reduceAdd, Nat.reduceMul, Nat.reduceSub, Nat.reduceBEq, Nat.add_zero, Nat.zero_add, Nat.mul_one, Nat.zero_mul, Nat.one_mul, List.length_cons, List.length_nil, List.cons_append, List.nil_append, List.append_nil, List.getElem?_cons_zero, List.getElem?_cons_succ, List.set_cons_zero, List.set_cons_succ, List.drop_zero, List.drop_succ_cons, List.take_zero, List.take_succ_cons, List.take_nil, List.drop_nil, Bool.not_true, Bool.not_false, Bool.true_and, Bool.and_true, Bool.false_and, Bool.and_false, decide_true, decide_false, eq_self, List.toList_toArray, beq_dec, beq_self_eq_true, q1, q2, q23, q24, q25, hix2, hld2, newPtr_X wf, load1_X wf, loadAgg_X wf, store1_X wf, writeCells_X wf, bs_71, bsl_25, newSlice_X wf, ia_2, sz_2, ia_3, sz_3, ia_27, ia_51, sz_51, ia_71, sz_71, ia_24, sz_24, ia_22, ia_25, fo_71_0, fo_71_1, fo_71_2, fo_71_3, fo_51_0, fo_51_1, fo_24_0, fo_24_1, ze_71, ze_51, pb_33, pb_36, pb_60, pb_61, pb_78, pb_34, pb_37, pb_14]; first | (refine dec_split (Q := Q_) (fun hp_ => ?_) (fun hp_ => ?_) <;> first | (exfalso; omega) | (refine hQ_ _ _ ?_; clear hQ_ Q_)) | (refine dec_splitn (Q := Q_) (fun hp_ => ?_) (fun hp_ => ?_) <;> first | (exfalso; omega) | (refine hQ_ _ _ ?_; clear hQ_ Q_)) | (refine hQ_ _ _ ?_; clear hQ_ Q_)))
  | (refine WC_cond fun K_ hK_ => ?_; simp (disch := omega) only [evT_tmp, upd_apply, WB_some, ↓reduceIte, reduceCtorEq, Nat.reduceEqDiff, Nat.reduceLT]; refine hK_ _ ?_; clear hK_ K_)
  | (with_reducible refine condK_tt ?_) | (with_reducible refine condK_ff ?_) | (with_reducible refine roundQ_exit ?_) | (with_reducible refine roundQ_ret ?_)))
        · (refine endQ_ret _ _ rfl (ret2 (by decide) (by decide)) ?_; simp only [upd_apply, ↓reduceIte, reduceCtorEq, Nat.reduceEqDiff]; refine WV_flat rfl (by omega) ?_)
          have e : checkR sp turn xs = (0, 17) := by unfold checkR; rw [if_neg e0', if_neg e1', if_neg (fun hh => by have := hh k hlt _ _ hsk hxk; omega)]
          rw [e]; exact ⟨rfl, rfl⟩
        · (refine endQ_ret _ _ rfl (ret2 (by decide) (by decide)) ?_; simp only [upd_apply, ↓reduceIte, reduceCtorEq, Nat.reduceEqDiff]; refine WV_flat rfl (by omega) ?_)
          have e : checkR sp turn xs = (0, 17) := by unfold checkR; rw [if_neg e0', if_neg e1', if_neg (fun hh => by have := hh k hlt _ _ hsk hxk; omega)]
          rw [e]; exact ⟨rfl, rfl⟩
        · refine roundQ_again (k + 1) (by omega) ⟨hlt, by simp only [upd_apply, ↓reduceIte, reduceCtorEq, Nat.reduceEqDiff]; exact q1, by simp only [upd_apply, ↓reduceIte, reduceCtorEq, Nat.reduceEqDiff]; exact q2, by simp only [upd_apply, ↓reduceIte, reduceCtorEq, Nat.reduceEqDiff]; exact q23, by simp only [upd_apply, ↓reduceIte, reduceCtorEq, Nat.reduceEqDiff]; exact q24, by simp only [upd_apply, ↓reduceIte, reduceCtorEq, Nat.reduceEqDiff]; rfl, rfl, ⟨_, rfl⟩, fun i hi => ?_⟩
          by_cases hik : i = k
          · subst hik
            intro p x hp hx'
            rw [hsk] at hp; rw [hxk] at hx'; cases hp; cases hx'
            omega
          · exact hall i (by omega)
      · have hkl : k = sp.length := by omega
        subst hkl
        have hoff : ∀ x ∈ xs, Off x := fun x hxm => by
          obtain ⟨i, hi, rfl⟩ := List.getElem_of_mem hxm
          have h1 := g3 _ (List.getElem_mem (by omega : i < sp.length))
          have h2 := hall i (by omega) _ _ (List.getElem?_eq_getElem (by omega)) (List.getElem?_eq_getElem hi)
          obtain ⟨⟨_, _⟩, ⟨_, _⟩, _⟩ := h1
          exact ⟨by omega, by omega⟩
        have hmi := measOf_in hoff
        have b1 : 0 ≤ turn * (measOf xs).1 := Int.mul_nonneg (by omega) (by omega)
        have b2 : turn * (measOf xs).1 ≤ 1000000 * 24 := Int.mul_le_mul (by omega) (by omega) (by omega) (by omega)
        (repeat' (first
  | (with_reducible refine WC_seq ?_) | (refine WC_region ?_) | (with_reducible refine WC_skip ?_) | (with_reducible refine WC_label ?_) | (with_reducible refine WC_scope ?_) | (with_reducible refine WC_block ?_) | (with_reducible refine WC_ret ?_) | (with_reducible refine WC_exit ?_)
  | (with_reducible refine seqQ_norm ?_) | (with_reducible refine seqQ_ret ?_) | (with_reducible refine seqQ_exit ?_) | (with_reducible refine blkQ_norm ?_) | (with_reducible refine blkQ_ret ?_) | (with_reducible refine blkQ_here ?_) | (refine blkQ_out rfl ?_)
  | (refine WO_nil ?_)
  | (refine WD_nil ?_)
  | (refine WD_gate rfl rfl rfl rfl rfl fun K_ hK_ => ?_; simp only [upd_apply, asB_bool, asB_tup, ↓reduceIte, reduceCtorEq, Nat.reduceEqDiff, Bool.not_true, Bool.not_false]; refine hK_ _ ?_; clear hK_ K_)
  | (refine WO_gate rfl rfl rfl rfl rfl fun K_ hK_ => ?_; simp only [upd_apply, asB_bool, asB_tup, ↓reduceIte, reduceCtorEq, Nat.reduceEqDiff, Bool.not_true, Bool.not_false]; refine hK_ _ ?_; clear hK_ K_)
  | (with_reducible refine gateK_yes ?_) | (refine gateK_no (by decide) ?_) | (with_reducible refine gateK_none ?_)
  | ((try first | refine WO_op rfl rfl rfl ?_ | refine WO_op0 rfl rfl ?_ | refine WD_op rfl rfl rfl ?_ | refine WD_op0 rfl rfl ?_); (refine WV_gen fun Q_ hQ_ => ?_; simp (disch := first | omega | (simp only [List.length_cons, List.length_nil, List.length_append]; omega)) only [x_move, x_assign, x_pick, x_alloc, x_box, x_build, x_load, x_store, x_nilCheck, x_binOp, x_unOp, x_convert, x_makeFunc, x_makeMap, x_makeSlice, x_slice, x_fieldAddr, x_field, x_indexAddr, x_index, x_lookup, x_mapUpdate, x_extract, x_callB, x_callF, x_callT, x_buildSlice, WV_okI, on1_ok, of_ok, done_ok, evT_tmp, get_tmp, evT_int, evT_bool, evT_str, evT_nils, evT_nilm, evT_nilp, evT_nilf, evT_func, upd_apply, evL_nil, evL_cons', evParts_nil, evParts_cons, pickE_def, allocE_def, cells_bool, cells_int, cells_str, cells_ptr, cells_nilp, cells_sl, cells_nils, cells_map, cells_nilm, cells_fn, cells_nilf, cells_agg, asPtr_ptr, asSl_sl, asB_bool, asB_tup, asTup_tup, asI64_int, toNatE_lit, reszT_nils, reszT_none, toNatE_int, slicesE_def, optNat_none, optNat_def, Int.reduceToNat, Int.toNat_natCast, cellsOf_cells, cellsOf_ro, cellsE_cells, oneB_bool, oneB_int, oneB_str, oneB_ptr, oneB_nilp, oneB_sl, oneB_nils, oneB_map, oneB_nilm, oneB_fn, oneB_nilf, loadE_ptr, storeE_ptr, storeCs_some, storeAll_one, storeAll_two, fieldAddrE_ptr, addOff_some, indexAt_sl, indexAt_arr, extractE_tup, nilCheck_fn, nilCheck_ptr, nilCheck_yld, b_add, b_sub, b_mul, b_eql, b_neq, b_lss, b_leq, b_gtr, b_geq, unE_not, unE_neg, bi_len, bi_append, bi_copy, bi_max, bi_min, buildSliceO_def, buildO_def, ble_dec, fillE_nil, fillE_cons, layOver_def, zerosE_zero, zerosE_succ, wrap_in, min_ck, min_cc, min_cl, Nat.min_self, allOne_nil, allOne_cons, cellAt_cells, cellAt_ro, aggAt_cells, storeAt_cells, writeAt_cells, splice_def, marked_X, nx_X, unmark_keep, unmark_full, app_len0, app_len, set_app_len0, set_app_len, List.append_assoc, List.length_append, argF, cond_true, cond_false, ↓reduceIte, reduceCtorEq, Nat.reduceEqDiff, Nat.reduceLT, Nat.reduceLeDiff, Nat.reduceAdd, Nat.reduceMul, Nat.reduceSub, Nat.reduceBEq, Nat.add_zero, Nat.zero_add, Nat.mul_one, Nat.zero_mul, Nat.one_mul, List.length_cons, List.length_nil, List.cons_append, List.nil_append, List.append_nil, List.getElem?_cons_zero, List.getElem?_cons_succ, List.set_cons_zero, List.set_cons_succ, List.drop_zero, List.drop_succ_cons, List.take_zero, List.take_succ_cons, List.take_nil, List.drop_nil, Bool.not_true, Bool.not_false, Bool.true_and, Bool.and_true, Bool.false_and, Bool.and_false, decide_true, decide_false, eq_self, List.toList_toArray, beq_dec, beq_self_eq_true, q1, q2, q23, q24, q25, newPtr_X wf, load1_X wf, loadAgg_X wf, store1_X wf, writeCells_X wf, bs_71, bsl_25, newSlice_X wf, ia_2, sz_2, ia_3, sz_3, ia_27, ia_51, sz_51, ia_71, sz_71, ia_24, sz_24, ia_22, ia_25, fo_71_0, fo_71_1, fo_71_2, fo_71_3, fo_51_0, fo_51_1, fo_24_0, fo_24_1, ze_71, ze_51, pb_33, pb_36, pb_60, pb_61, pb_78, pb_34, pb_37, pb_14]; first | (refine dec_split (Q := Q_) (fun hp_ => ?_) (fun hp_ => ?_) <;> first | (exfalso; omega) | (refine hQ_ _ _ ?_; clear hQ_ Q_)) | (refine dec_splitn (Q := Q_) (fun hp_ => ?_) (fun hp_ => ?_) <;> first | (exfalso; omega) | (refine hQ_ _ _ ?_; clear hQ_ Q_)) | (refine hQ_ _ _ ?_; clear hQ_ Q_) | (refine WV_eq (measure_any xs b hm hoff hc _ (wf.X (Nat.le_add_right _ _)) (hx.up wf _ _)) ?_; refine hQ_ _ _ ?_; clear hQ_ Q_) | (refine WV_eq (sum2 wf (by simp only [app_len0, app_len, List.getElem?_cons_succ, List.getElem?_cons_zero]; rfl) (Nat.le_add_right _ _) (by omega) (by omega)) ?_; refine hQ_ _ _ ?_; clear hQ_ Q_)))
  | (refine WC_cond fun K_ hK_ => ?_; simp (disch := omega) only [evT_tmp, upd_apply, WB_some, ↓reduceIte, reduceCtorEq, Nat.reduceEqDiff, Nat.reduceLT]; refine hK_ _ ?_; clear hK_ K_)
  | (with_reducible refine condK_tt ?_) | (with_reducible refine condK_ff ?_) | (with_reducible refine roundQ_exit ?_) | (with_reducible refine roundQ_ret ?_)))
        (refine endQ_ret _ _ rfl (ret2 (by decide) (by decide)) ?_; simp only [upd_apply, ↓reduceIte, reduceCtorEq, Nat.reduceEqDiff]; refine WV_flat rfl (by omega) ?_)
        have e : checkR sp turn xs = ((measOf xs).2 + turn * (measOf xs).1, 0) := by unfold checkR; rw [if_neg e0', if_neg e1', if_pos hall]
        rw [e]; exact ⟨rfl, rfl⟩
    · refine ⟨Nat.zero_le _, by simp only [upd_apply, ↓reduceIte, reduceCtorEq, Nat.reduceEqDiff], by simp only [upd_apply, ↓reduceIte, reduceCtorEq, Nat.reduceEqDiff], by simp only [upd_apply, ↓reduceIte, reduceCtorEq, Nat.reduceEqDiff], by simp only [upd_apply, ↓reduceIte, reduceCtorEq, Nat.reduceEqDiff], by simp only [upd_apply, ↓reduceIte, reduceCtorEq, Nat.reduceEqDiff]; rfl, rfl, ⟨[], rfl⟩, fun i hi => absurd hi (Nat.not_lt_zero i)⟩
  · (refine endQ_ret _ _ rfl (ret2 (by decide) (by decide)) ?_; simp only [upd_apply, ↓reduceIte, reduceCtorEq, Nat.reduceEqDiff]; refine WV_flat rfl (by omega) ?_)
    have e0 : spotsR sp turn = 0 := by assumption
    have e : checkR sp turn xs = (0, 15) := by unfold checkR; rw [if_neg (fun hh => hh e0), if_pos (by omega)]
    rw [e]; exact ⟨rfl, rfl⟩
  · (refine endQ_ret _ _ rfl (ret2 (by decide) (by decide)) ?_; simp only [upd_apply, ↓reduceIte, reduceCtorEq, Nat.reduceEqDiff]; refine WV_flat rfl (by omega) ?_)
    have e : checkR sp turn xs = (0, spotsR sp turn) := if_pos ‹_›
    rw [e]; exact ⟨rfl, rfl⟩
end Go.Proofs.YtghondkiondeaaaDoor
end

/- EvR1 -/
section
/-
  LAYER 1: the reference's small functions.
-/
namespace Go.Proofs.YtghondkiondeaaaDoor
open Go.Ev
set_option maxRecDepth 100000
set_option linter.unusedSimpArgs false
set_option linter.unusedVariables false
set_option maxHeartbeats 2000000

theorem amount (y : Int) (hy : -9000000000000000000 ≤ y ∧ y ≤ 9000000000000000000) (h : H) (wf : Wf h) : (om Tryd.prog KK).call (.fn 63 [ii y]) h = .ok (ii (max y (0 - y))) h := by
  refine WV_to (WV_call (fn := Tryd.f63) Tryd.func63 rfl rfl rfl rfl rfl ?_)
  simp only [argF]
  (repeat' (first
  | (with_reducible refine WC_seq ?_) | (refine WC_region ?_) | (with_reducible refine WC_skip ?_) | (with_reducible refine WC_label ?_) | (with_reducible refine WC_scope ?_) | (with_reducible refine WC_block ?_) | (with_reducible refine WC_ret ?_) | (with_reducible refine WC_exit ?_)
  | (with_reducible refine seqQ_norm ?_) | (with_reducible refine seqQ_ret ?_) | (with_reducible refine seqQ_exit ?_) | (with_reducible refine blkQ_norm ?_) | (with_reducible refine blkQ_ret ?_) | (with_reducible refine blkQ_here ?_) | (refine blkQ_out rfl ?_)
  | (refine WO_nil ?_)
  | (refine WD_nil ?_)
  | (refine WD_gate rfl rfl rfl rfl rfl fun K_ hK_ => ?_; simp only [upd_apply, asB_bool, asB_tup, ↓reduceIte, reduceCtorEq, Nat.reduceEqDiff, Bool.not_true, Bool.not_false]; refine hK_ _ ?_; clear hK_ K_)
  | (refine WO_gate rfl rfl rfl rfl rfl fun K_ hK_ => ?_; simp only [upd_apply, asB_bool, asB_tup, ↓reduceIte, reduceCtorEq, Nat.reduceEqDiff, Bool.not_true, Bool.not_false]; refine hK_ _ ?_; clear hK_ K_)
  | (with_reducible refine gateK_yes ?_) | (refine gateK_no (by decide) ?_) | (with_reducible refine gateK_none ?_)
  | ((try first | refine WO_op rfl rfl rfl ?_ | refine WO_op0 rfl rfl ?_ | refine WD_op rfl rfl rfl ?_ | refine WD_op0 rfl rfl ?_); (refine WV_gen fun Q_ hQ_ => ?_; simp (disch := first | omega | (simp only [List.length_cons, List.length_nil, List.length_append]; omega)) only [x_move, x_assign, x_pick, x_alloc, x_box, x_build, x_load, x_store, x_nilCheck, x_binOp, x_unOp, x_convert, x_makeFunc, x_makeMap, x_makeSlice, x_slice, x_fieldAddr, x_field, x_indexAddr, x_index, x_lookup, x_mapUpdate, x_extract, x_callB, x_callF, x_callT, x_buildSlice, WV_okI, on1_ok, of_ok, done_ok, evT_tmp, get_tmp, evT_int, evT_bool, evT_str, evT_nils, evT_nilm, evT_nilp, evT_nilf, evT_func, upd_apply, evL_nil, evL_cons', evParts_nil, evParts_cons, pickE_def, allocE_def, cells_bool, cells_int, cells_str, cells_ptr, cells_nilp, cells_sl, cells_nils, cells_map, cells_nilm, cells_fn, cells_nilf, cells_agg, asPtr_ptr, asSl_sl, asB_bool, asB_tup, asTup_tup, asI64_int, toNatE_lit, reszT_nils, reszT_none, toNatE_int, slicesE_def, optNat_none, optNat_def, Int.reduceToNat, Int.toNat_natCast, cellsOf_cells, cellsOf_ro, cellsE_cells, oneB_bool, oneB_int, oneB_str, oneB_ptr, oneB_nilp, oneB_sl, oneB_nils, oneB_map, oneB_nilm, oneB_fn, oneB_nilf, loadE_ptr, storeE_ptr, storeCs_some, storeAll_one, storeAll_two, fieldAddrE_ptr, addOff_some, indexAt_sl, indexAt_arr, extractE_tup, nilCheck_fn, nilCheck_ptr, nilCheck_yld, b_add, b_sub, b_mul, b_eql, b_neq, b_lss, b_leq, b_gtr, b_geq, unE_not, unE_neg, bi_len, bi_append, bi_copy, bi_max, bi_min, buildSliceO_def, buildO_def, ble_dec, fillE_nil, fillE_cons, layOver_def, zerosE_zero, zerosE_succ, wrap_in, min_ck, min_cc, min_cl, Nat.min_self, allOne_nil, allOne_cons, cellAt_cells, cellAt_ro, aggAt_cells, storeAt_cells, writeAt_cells, splice_def, marked_X, nx_X, unmark_keep, unmark_full, app_len0, app_len, set_app_len0, set_app_len, List.append_assoc, List.length_append, argF, cond_true, cond_false, ↓reduceIte, reduceCtorEq, Nat.reduceEqDiff, Nat.reduceLT, Nat.reduceLeDiff, Nat.reduceAdd, Nat.reduceMul, Nat.reduceSub, Nat.reduceBEq, Nat.add_zero, Nat.zero_add, Nat.mul_one, Nat.zero_mul, Nat.one_mul, List.length_cons, List.length_nil, List.cons_append, List.nil_append, List.append_nil, List.getElem?_cons_zero, List.getElem?_cons_succ, List.set_cons_zero, List.set_cons_succ, List.drop_zero, List.drop_succ_cons, List.take_zero, List.take_succ_cons, List.take_nil, List.drop_nil, Bool.not_true, Bool.not_false, Bool.true_and, Bool.and_true, Bool.false_and, Bool.and_false, decide_true, decide_false, eq_self, List.toList_toArray, beq_dec, beq_self_eq_true]; first | (refine dec_split (Q := Q_) (fun hp_ => ?_) (fun hp_ => ?_) <;> first | (exfalso; omega) | (refine hQ_ _ _ ?_; clear hQ_ Q_)) | (refine dec_splitn (Q := Q_) (fun hp_ => ?_) (fun hp_ => ?_) <;> first | (exfalso; omega) | (refine hQ_ _ _ ?_; clear hQ_ Q_)) | (refine hQ_ _ _ ?_; clear hQ_ Q_)))
  | (refine WC_cond fun K_ hK_ => ?_; simp (disch := omega) only [evT_tmp, upd_apply, WB_some, ↓reduceIte, reduceCtorEq, Nat.reduceEqDiff, Nat.reduceLT]; refine hK_ _ ?_; clear hK_ K_)
  | (with_reducible refine condK_tt ?_) | (with_reducible refine condK_ff ?_) | (with_reducible refine roundQ_exit ?_) | (with_reducible refine roundQ_ret ?_)))
  (refine endQ_ret _ _ rfl (ret1 (by decide)) ?_; simp only [upd_apply, ↓reduceIte, reduceCtorEq, Nat.reduceEqDiff]; refine WV_flat rfl (by omega) ?_)
  exact ⟨rfl, rfl⟩

/-- Second differences. -/
def sd (xs : List Int) (i : Nat) : Int := xs.getD i 0 - 2 * xs.getD (i + 1) 0 + xs.getD (i + 2) 0
def sds (xs : List Int) (k : Nat) : List Int := (List.range k).map (sd xs)
theorem sds_length (xs : List Int) (k : Nat) : (sds xs k).length = k := by unfold sds; simp
theorem sds_snoc (xs : List Int) (k : Nat) : sds xs (k + 1) = sds xs k ++ [sd xs k] := by unfold sds; rw [List.range_succ, List.map_append]; rfl
theorem getD_get {xs : List Int} {i : Nat} (hi : i < xs.length) : xs.getD i 0 = xs[i] := by simp [hi]

theorem Bends (xs : List Int) (a : AV) (hn : xs.length ≤ 1000000) (hx : ∀ x ∈ xs, Off x) (h : H) (wf : Wf h) (hs : Sl h a 1 xs.length (xs.map ii)) :
    WV ((om Tryd.prog KK).call (.fn 62 [a]) h) fun v h' => ∃ M, h' = X h M h.w ∧ Sl h' v 1 (xs.length - 2) ((sds xs (xs.length - 2)).map ii) := by
  refine WV_call (fn := Tryd.f62) Tryd.func62 rfl rfl rfl rfl rfl ?_
  simp only [argF]
  have hlen : ∀ h', lenE Tryd.prog 25 a h' = some (ii (xs.length : Int)) := fun h' => hs.len un_25
  (repeat' (first
  | (with_reducible refine WC_seq ?_) | (refine WC_region ?_) | (with_reducible refine WC_skip ?_) | (with_reducible refine WC_label ?_) | (with_reducible refine WC_scope ?_) | (with_reducible refine WC_block ?_) | (with_reducible refine WC_ret ?_) | (with_reducible refine WC_exit ?_)
  | (with_reducible refine seqQ_norm ?_) | (with_reducible refine seqQ_ret ?_) | (with_reducible refine seqQ_exit ?_) | (with_reducible refine blkQ_norm ?_) | (with_reducible refine blkQ_ret ?_) | (with_reducible refine blkQ_here ?_) | (refine blkQ_out rfl ?_)
  | (refine WO_nil ?_)
  | (refine WD_nil ?_)
  | (refine WD_gate rfl rfl rfl rfl rfl fun K_ hK_ => ?_; simp only [upd_apply, asB_bool, asB_tup, ↓reduceIte, reduceCtorEq, Nat.reduceEqDiff, Bool.not_true, Bool.not_false]; refine hK_ _ ?_; clear hK_ K_)
  | (refine WO_gate rfl rfl rfl rfl rfl fun K_ hK_ => ?_; simp only [upd_apply, asB_bool, asB_tup, ↓reduceIte, reduceCtorEq, Nat.reduceEqDiff, Bool.not_true, Bool.not_false]; refine hK_ _ ?_; clear hK_ K_)
  | (with_reducible refine gateK_yes ?_) | (refine gateK_no (by decide) ?_) | (with_reducible refine gateK_none ?_)
  | ((try first | refine WO_op rfl rfl rfl ?_ | refine WO_op0 rfl rfl ?_ | refine WD_op rfl rfl rfl ?_ | refine WD_op0 rfl rfl ?_); (refine WV_gen fun Q_ hQ_ => ?_; simp (disch := first | omega | (simp only [List.length_cons, List.length_nil, List.length_append]; omega)) only [x_move, x_assign, x_pick, x_alloc, x_box, x_build, x_load, x_store, x_nilCheck, x_binOp, x_unOp, x_convert, x_makeFunc, x_makeMap, x_makeSlice, x_slice, x_fieldAddr, x_field, x_indexAddr, x_index, x_lookup, x_mapUpdate, x_extract, x_callB, x_callF, x_callT, x_buildSlice, WV_okI, on1_ok, of_ok, done_ok, evT_tmp, get_tmp, evT_int, evT_bool, evT_str, evT_nils, evT_nilm, evT_nilp, evT_nilf, evT_func, upd_apply, evL_nil, evL_cons', evParts_nil, evParts_cons, pickE_def, allocE_def, cells_bool, cells_int, cells_str, cells_ptr, cells_nilp, cells_sl, cells_nils, cells_map, cells_nilm, cells_fn, cells_nilf, cells_agg, asPtr_ptr, asSl_sl, asB_bool, asB_tup, asTup_tup, asI64_int, toNatE_lit, reszT_nils, reszT_none, toNatE_int, slicesE_def, optNat_none, optNat_def, Int.reduceToNat, Int.toNat_natCast, cellsOf_cells, cellsOf_ro, cellsE_cells, oneB_bool, oneB_int, oneB_str, oneB_ptr, oneB_nilp, oneB_sl, oneB_nils, oneB_map, oneB_nilm, oneB_fn, oneB_nilf, loadE_ptr, storeE_ptr, storeCs_some, storeAll_one, storeAll_two, fieldAddrE_ptr, addOff_some, indexAt_sl, indexAt_arr, extractE_tup, nilCheck_fn, nilCheck_ptr, nilCheck_yld, b_add, b_sub, b_mul, b_eql, b_neq, b_lss, b_leq, b_gtr, b_geq, unE_not, unE_neg, bi_len, bi_append, bi_copy, bi_max, bi_min, buildSliceO_def, buildO_def, ble_dec, fillE_nil, fillE_cons, layOver_def, zerosE_zero, zerosE_succ, wrap_in, min_ck, min_cc, min_cl, Nat.min_self, allOne_nil, allOne_cons, cellAt_cells, cellAt_ro, aggAt_cells, storeAt_cells, writeAt_cells, splice_def, marked_X, nx_X, unmark_keep, unmark_full, app_len0, app_len, set_app_len0, set_app_len, List.append_assoc, List.length_append, argF, cond_true, cond_false, ↓reduceIte, reduceCtorEq, Nat.reduceEqDiff, Nat.reduceLT, Nat.reduceLeDiff, Nat.reduceAdd, Nat.reduceMul, Nat.reduceSub, Nat.reduceBEq, Nat.add_zero, Nat.zero_add, Nat.mul_one, Nat.zero_mul, Nat.one_mul, List.length_cons, List.length_nil, List.cons_append, List.nil_append, List.append_nil, List.getElem?_cons_zero, List.getElem?_cons_succ, List.set_cons_zero, List.set_cons_succ, List.drop_zero, List.drop_succ_cons, List.take_zero, List.take_succ_cons, List.take_nil, List.drop_nil, Bool.not_true, Bool.not_false, Bool.true_and, Bool.and_true, Bool.false_and, Bool.and_false, decide_true, decide_false, eq_self, List.toList_toArray, beq_dec, beq_self_eq_true, hlen, newPtr_X wf, load1_X wf, loadAgg_X wf, store1_X wf, writeCells_X wf, bs_71, bsl_25, newSlice_X wf, ia_2, sz_2, ia_3, sz_3, ia_27, ia_51, sz_51, ia_71, sz_71, ia_24, sz_24, ia_22, ia_25, fo_71_0, fo_71_1, fo_71_2, fo_71_3, fo_51_0, fo_51_1, fo_24_0, fo_24_1, ze_71, ze_51, pb_33, pb_36, pb_60, pb_61, pb_78, pb_34, pb_37, pb_14, pb_62, pb_63, pb_35, pb_15, pb_30, ni_25]; first | (refine dec_split (Q := Q_) (fun hp_ => ?_) (fun hp_ => ?_) <;> first | (exfalso; omega) | (refine hQ_ _ _ ?_; clear hQ_ Q_)) | (refine dec_splitn (Q := Q_) (fun hp_ => ?_) (fun hp_ => ?_) <;> first | (exfalso; omega) | (refine hQ_ _ _ ?_; clear hQ_ Q_)) | (refine hQ_ _ _ ?_; clear hQ_ Q_)))
  | (refine WC_cond fun K_ hK_ => ?_; simp (disch := omega) only [evT_tmp, upd_apply, WB_some, ↓reduceIte, reduceCtorEq, Nat.reduceEqDiff, Nat.reduceLT]; refine hK_ _ ?_; clear hK_ K_)
  | (with_reducible refine condK_tt ?_) | (with_reducible refine condK_ff ?_) | (with_reducible refine roundQ_exit ?_) | (with_reducible refine roundQ_ret ?_)))
  refine WC_loop (fun (k : Nat) f d h' => k ≤ xs.length - 2 ∧ f 0 = a ∧ f 4 = ii ((k : Int) + 1) ∧ d = [] ∧ ∃ G, h' = X h G h.clock ∧ Grow h [] G (f 3) 1 2 k ((sds xs k).map ii)) (fun k => xs.length - 2 - k) ?_ (xs.length + 1) 0 (by omega) ?_
  · rintro k f d h' ⟨hk, q0, q4, rfl, G, rfl, hout⟩
    by_cases hlt : k < xs.length - 2
    · obtain ⟨ia, oa, hxa, hla⟩ := hs.at1 wf (i := k) (by omega) ik_25
      obtain ⟨ib, ob, hxb, hlb⟩ := hs.at1 wf (i := k + 1) (by omega) ik_25
      obtain ⟨ic, oc, hxc, hlc⟩ := hs.at1 wf (i := k + 2) (by omega) ik_25
      rw [map_get (by omega), ← getD_get] at hla hlb hlc
      have ha : Off (xs.getD k 0) := by rw [getD_get (by omega)]; exact hx _ (List.getElem_mem _)
      have hb : Off (xs.getD (k + 1) 0) := by rw [getD_get (by omega)]; exact hx _ (List.getElem_mem _)
      have hc : Off (xs.getD (k + 2) 0) := by rw [getD_get (by omega)]; exact hx _ (List.getElem_mem _)
      have hxb' : indexAddrE Tryd.prog 25 a (.int .i64 ((k : Int) + 1)) = some (.ptr ib ob) := hxb
      have hxc' : indexAddrE Tryd.prog 25 a (.int .i64 ((k : Int) + 1 + 1)) = some (.ptr ic oc) := hxc
      have hxa' : indexAddrE Tryd.prog 25 a (.int .i64 ((k : Int) + 1 - 1)) = some (.ptr ia oa) := by rw [show (k : Int) + 1 - 1 = (k : Int) from by omega]; exact hxa
      clear hxa hxb hxc
      have hr3 := hout.resz (P := Tryd.prog) 25
      obtain ⟨v, G', hg', happ, _⟩ := hout.appendD (P := Tryd.prog) wf un_25 sz_2 el_2 (n := 1) (new := [ii (sd xs k)]) (by omega) (by omega) (by omega) rfl rfl
      have happ' := fun tm op => happ tm op (h.clock + (G.length + 1)) (Nat.le_add_right _ _)
      simp only [List.length_nil, Nat.zero_add, List.nil_append, sd] at happ'
      clear happ
      (repeat' (first
  | (with_reducible refine WC_seq ?_) | (refine WC_region ?_) | (with_reducible refine WC_skip ?_) | (with_reducible refine WC_label ?_) | (with_reducible refine WC_scope ?_) | (with_reducible refine WC_block ?_) | (with_reducible refine WC_ret ?_) | (with_reducible refine WC_exit ?_)
  | (with_reducible refine seqQ_norm ?_) | (with_reducible refine seqQ_ret ?_) | (with_reducible refine seqQ_exit ?_) | (with_reducible refine blkQ_norm ?_) | (with_reducible refine blkQ_ret ?_) | (with_reducible refine blkQ_here ?_) | (refine blkQ_out rfl ?_)
  | (refine WO_nil ?_)
  | (refine WD_nil ?_)
  | (refine WD_gate rfl rfl rfl rfl rfl fun K_ hK_ => ?_; simp only [upd_apply, asB_bool, asB_tup, ↓reduceIte, reduceCtorEq, Nat.reduceEqDiff, Bool.not_true, Bool.not_false]; refine hK_ _ ?_; clear hK_ K_)
  | (refine WO_gate rfl rfl rfl rfl rfl fun K_ hK_ => ?_; simp only [upd_apply, asB_bool, asB_tup, ↓reduceIte, reduceCtorEq, Nat.reduceEqDiff, Bool.not_true, Bool.not_false]; refine hK_ _ ?_; clear hK_ K_)
  | (with_reducible refine gateK_yes ?_) | (refine gateK_no (by decide) ?_) | (with_reducible refine gateK_none ?_)
  | ((try first | refine WO_op rfl rfl rfl ?_ | refine WO_op0 rfl rfl ?_ | refine WD_op rfl rfl rfl ?_ | refine WD_op0 rfl rfl ?_); (refine WV_gen fun Q_ hQ_ => ?_; simp (disch := first | omega | (simp only [List.length_cons, List.length_nil, List.length_append]; omega)) only [x_move, x_assign, x_pick, x_alloc, x_box, x_build, x_load, x_store, x_nilCheck, x_binOp, x_unOp, x_convert, x_makeFunc, x_makeMap, x_makeSlice, x_slice, x_fieldAddr, x_field, x_indexAddr, x_index, x_lookup, x_mapUpdate, x_extract, x_callB, x_callF, x_callT, x_buildSlice, WV_okI, on1_ok, of_ok, done_ok, evT_tmp, get_tmp, evT_int, evT_bool, evT_str, evT_nils, evT_nilm, evT_nilp, evT_nilf, evT_func, upd_apply, evL_nil, evL_cons', evParts_nil, evParts_cons, pickE_def, allocE_def, cells_bool, cells_int, cells_str, cells_ptr, cells_nilp, cells_sl, cells_nils, cells_map, cells_nilm, cells_fn, cells_nilf, cells_agg, asPtr_ptr, asSl_sl, asB_bool, asB_tup, asTup_tup, asI64_int, toNatE_lit, reszT_nils, reszT_none, toNatE_int, slicesE_def, optNat_none, optNat_def, Int.reduceToNat, Int.toNat_natCast, cellsOf_cells, cellsOf_ro, cellsE_cells, oneB_bool, oneB_int, oneB_str, oneB_ptr, oneB_nilp, oneB_sl, oneB_nils, oneB_map, oneB_nilm, oneB_fn, oneB_nilf, loadE_ptr, storeE_ptr, storeCs_some, storeAll_one, storeAll_two, fieldAddrE_ptr, addOff_some, indexAt_sl, indexAt_arr, extractE_tup, nilCheck_fn, nilCheck_ptr, nilCheck_yld, b_add, b_sub, b_mul, b_eql, b_neq, b_lss, b_leq, b_gtr, b_geq, unE_not, unE_neg, bi_len, bi_append, bi_copy, bi_max, bi_min, buildSliceO_def, buildO_def, ble_dec, fillE_nil, fillE_cons, layOver_def, zerosE_zero, zerosE_succ, wrap_in, min_ck, min_cc, min_cl, Nat.min_self, allOne_nil, allOne_cons, cellAt_cells, cellAt_ro, aggAt_cells, storeAt_cells, writeAt_cells, splice_def, marked_X, nx_X, unmark_keep, unmark_full, app_len0, app_len, set_app_len0, set_app_len, List.append_assoc, List.length_append, argF, cond_true, cond_false, ↓reduceIte, reduceCtorEq, Nat.reduceEqDiff, Nat.reduceLT, Nat.reduceLeDiff, Nat.reduceAdd, Nat.reduceMul, Nat.reduceSub, Nat.reduceBEq, Nat.add_zero, Nat.zero_add, Nat.mul_one, Nat.zero_mul, Nat.one_mul, List.length_cons, List.length_nil, List.cons_append, List.nil_append, List.append_nil, List.getElem?_cons_zero, List.getElem?_cons_succ, List.set_cons_zero, List.set_cons_succ, List.drop_zero, List.drop_succ_cons, List.take_zero, List.take_succ_cons, List.take_nil, List.drop_nil, Bool.not_true, Bool.not_false, Bool.true_and, Bool.and_true, Bool.false_and, Bool.and_false, decide_true, decide_false, eq_self, List.toList_toArray, beq_dec, beq_self_eq_true, q0, q4, hlen, newPtr_X wf, load1_X wf, loadAgg_X wf, store1_X wf, writeCells_X wf, bs_71, bsl_25, newSlice_X wf, ia_2, sz_2, ia_3, sz_3, ia_27, ia_51, sz_51, ia_71, sz_71, ia_24, sz_24, ia_22, ia_25, fo_71_0, fo_71_1, fo_71_2, fo_71_3, fo_51_0, fo_51_1, fo_24_0, fo_24_1, ze_71, ze_51, pb_33, pb_36, pb_60, pb_61, pb_78, pb_34, pb_37, pb_14, pb_62, pb_63, pb_35, pb_15, pb_30, ni_25]; first | (refine dec_split (Q := Q_) (fun hp_ => ?_) (fun hp_ => ?_) <;> first | (exfalso; omega) | (refine hQ_ _ _ ?_; clear hQ_ Q_)) | (refine dec_splitn (Q := Q_) (fun hp_ => ?_) (fun hp_ => ?_) <;> first | (exfalso; omega) | (refine hQ_ _ _ ?_; clear hQ_ Q_)) | (refine hQ_ _ _ ?_; clear hQ_ Q_)))
  | (refine WC_cond fun K_ hK_ => ?_; simp (disch := omega) only [evT_tmp, upd_apply, WB_some, ↓reduceIte, reduceCtorEq, Nat.reduceEqDiff, Nat.reduceLT]; refine hK_ _ ?_; clear hK_ K_)
  | (with_reducible refine condK_tt ?_) | (with_reducible refine condK_ff ?_) | (with_reducible refine roundQ_exit ?_) | (with_reducible refine roundQ_ret ?_)))
      refine WC_drawnB [.no, .no, .no, .no, .no, .no, .no, .no, .no, .no, .no, .no, .no, .no, .no, .no, .no, .full, .full, .full, .full] (by kernel_rfl) ?_
      (repeat' (first
  | (with_reducible refine WC_seq ?_) | (refine WC_region ?_) | (with_reducible refine WC_skip ?_) | (with_reducible refine WC_label ?_) | (with_reducible refine WC_scope ?_) | (with_reducible refine WC_block ?_) | (with_reducible refine WC_ret ?_) | (with_reducible refine WC_exit ?_)
  | (with_reducible refine seqQ_norm ?_) | (with_reducible refine seqQ_ret ?_) | (with_reducible refine seqQ_exit ?_) | (with_reducible refine blkQ_norm ?_) | (with_reducible refine blkQ_ret ?_) | (with_reducible refine blkQ_here ?_) | (refine blkQ_out rfl ?_)
  | (refine WO_nil ?_)
  | (refine WD_nil ?_)
  | (refine WD_gate rfl rfl rfl rfl rfl fun K_ hK_ => ?_; simp only [upd_apply, asB_bool, asB_tup, ↓reduceIte, reduceCtorEq, Nat.reduceEqDiff, Bool.not_true, Bool.not_false]; refine hK_ _ ?_; clear hK_ K_)
  | (refine WO_gate rfl rfl rfl rfl rfl fun K_ hK_ => ?_; simp only [upd_apply, asB_bool, asB_tup, ↓reduceIte, reduceCtorEq, Nat.reduceEqDiff, Bool.not_true, Bool.not_false]; refine hK_ _ ?_; clear hK_ K_)
  | (with_reducible refine gateK_yes ?_) | (refine gateK_no (by decide) ?_) | (with_reducible refine gateK_none ?_)
  | ((try first | refine WO_op rfl rfl rfl ?_ | refine WO_op0 rfl rfl ?_ | refine WD_op rfl rfl rfl ?_ | refine WD_op0 rfl rfl ?_); (refine WV_gen fun Q_ hQ_ => ?_; simp (disch := first | omega | (simp only [List.length_cons, List.length_nil, List.length_append]; omega)) only [x_move, x_assign, x_pick, x_alloc, x_box, x_build, x_load, x_store, x_nilCheck, x_binOp, x_unOp, x_convert, x_makeFunc, x_makeMap, x_makeSlice, x_slice, x_fieldAddr, x_field, x_indexAddr, x_index, x_lookup, x_mapUpdate, x_extract, x_callB, x_callF, x_callT, x_buildSlice, WV_okI, on1_ok, of_ok, done_ok, evT_tmp, get_tmp, evT_int, evT_bool, evT_str, evT_nils, evT_nilm, evT_nilp, evT_nilf, evT_func, upd_apply, evL_nil, evL_cons', evParts_nil, evParts_cons, pickE_def, allocE_def, cells_bool, cells_int, cells_str, cells_ptr, cells_nilp, cells_sl, cells_nils, cells_map, cells_nilm, cells_fn, cells_nilf, cells_agg, asPtr_ptr, asSl_sl, asB_bool, asB_tup, asTup_tup, asI64_int, toNatE_lit, reszT_nils, reszT_none, toNatE_int, slicesE_def, optNat_none, optNat_def, Int.reduceToNat, Int.toNat_natCast, cellsOf_cells, cellsOf_ro, cellsE_cells, oneB_bool, oneB_int, oneB_str, oneB_ptr, oneB_nilp, oneB_sl, oneB_nils, oneB_map, oneB_nilm, oneB_fn, oneB_nilf, loadE_ptr, storeE_ptr, storeCs_some, storeAll_one, storeAll_two, fieldAddrE_ptr, addOff_some, indexAt_sl, indexAt_arr, extractE_tup, nilCheck_fn, nilCheck_ptr, nilCheck_yld, b_add, b_sub, b_mul, b_eql, b_neq, b_lss, b_leq, b_gtr, b_geq, unE_not, unE_neg, bi_len, bi_append, bi_copy, bi_max, bi_min, buildSliceO_def, buildO_def, ble_dec, fillE_nil, fillE_cons, layOver_def, zerosE_zero, zerosE_succ, wrap_in, min_ck, min_cc, min_cl, Nat.min_self, allOne_nil, allOne_cons, cellAt_cells, cellAt_ro, aggAt_cells, storeAt_cells, writeAt_cells, splice_def, marked_X, nx_X, unmark_keep, unmark_full, app_len0, app_len, set_app_len0, set_app_len, List.append_assoc, List.length_append, argF, cond_true, cond_false, ↓reduceIte, reduceCtorEq, Nat.reduceEqDiff, Nat.reduceLT, Nat.reduceLeDiff, Nat.reduceAdd, Nat.reduceMul, Nat.reduceSub, Nat.reduceBEq, Nat.add_zero, Nat.zero_add, Nat.mul_one, Nat.zero_mul, Nat.one_mul, List.length_cons, List.length_nil, List.cons_append, List.nil_append, List.append_nil, List.getElem?_cons_zero, List.getElem?_cons_succ, List.set_cons_zero, List.set_cons_succ, List.drop_zero, List.drop_succ_cons, List.take_zero, List.take_succ_cons, List.take_nil, List.drop_nil, Bool.not_true, Bool.not_false, Bool.true_and, Bool.and_true, Bool.false_and, Bool.and_false, decide_true, decide_false, eq_self, List.toList_toArray, beq_dec, beq_self_eq_true, q0, q4, hlen, hxa', hxb', hxc', hla, hlb, hlc, hr3, happ', reszT_some un_25 sz_2, newPtr_X wf, load1_X wf, loadAgg_X wf, store1_X wf, writeCells_X wf, bs_71, bsl_25, newSlice_X wf, ia_2, sz_2, ia_3, sz_3, ia_27, ia_51, sz_51, ia_71, sz_71, ia_24, sz_24, ia_22, ia_25, fo_71_0, fo_71_1, fo_71_2, fo_71_3, fo_51_0, fo_51_1, fo_24_0, fo_24_1, ze_71, ze_51, pb_33, pb_36, pb_60, pb_61, pb_78, pb_34, pb_37, pb_14, pb_62, pb_63, pb_35, pb_15, pb_30, ni_25]; first | (refine dec_split (Q := Q_) (fun hp_ => ?_) (fun hp_ => ?_) <;> first | (exfalso; omega) | (refine hQ_ _ _ ?_; clear hQ_ Q_)) | (refine dec_splitn (Q := Q_) (fun hp_ => ?_) (fun hp_ => ?_) <;> first | (exfalso; omega) | (refine hQ_ _ _ ?_; clear hQ_ Q_)) | (refine hQ_ _ _ ?_; clear hQ_ Q_)))
  | (refine WC_cond fun K_ hK_ => ?_; simp (disch := omega) only [evT_tmp, upd_apply, WB_some, ↓reduceIte, reduceCtorEq, Nat.reduceEqDiff, Nat.reduceLT]; refine hK_ _ ?_; clear hK_ K_)
  | (with_reducible refine condK_tt ?_) | (with_reducible refine condK_ff ?_) | (with_reducible refine roundQ_exit ?_) | (with_reducible refine roundQ_ret ?_)))
      refine roundQ_again (k + 1) (by omega) ⟨by omega, by simp only [upd_apply, ↓reduceIte, reduceCtorEq, Nat.reduceEqDiff]; exact q0, by simp only [upd_apply, ↓reduceIte, reduceCtorEq, Nat.reduceEqDiff]; rfl, rfl, G', rfl, ?_⟩
      simp only [upd_apply, ↓reduceIte, reduceCtorEq, Nat.reduceEqDiff]
      rw [sds_snoc, List.map_append]
      exact hg'
    · have hkl : k = xs.length - 2 := by omega
      (repeat' (first
  | (with_reducible refine WC_seq ?_) | (refine WC_region ?_) | (with_reducible refine WC_skip ?_) | (with_reducible refine WC_label ?_) | (with_reducible refine WC_scope ?_) | (with_reducible refine WC_block ?_) | (with_reducible refine WC_ret ?_) | (with_reducible refine WC_exit ?_)
  | (with_reducible refine seqQ_norm ?_) | (with_reducible refine seqQ_ret ?_) | (with_reducible refine seqQ_exit ?_) | (with_reducible refine blkQ_norm ?_) | (with_reducible refine blkQ_ret ?_) | (with_reducible refine blkQ_here ?_) | (refine blkQ_out rfl ?_)
  | (refine WO_nil ?_)
  | (refine WD_nil ?_)
  | (refine WD_gate rfl rfl rfl rfl rfl fun K_ hK_ => ?_; simp only [upd_apply, asB_bool, asB_tup, ↓reduceIte, reduceCtorEq, Nat.reduceEqDiff, Bool.not_true, Bool.not_false]; refine hK_ _ ?_; clear hK_ K_)
  | (refine WO_gate rfl rfl rfl rfl rfl fun K_ hK_ => ?_; simp only [upd_apply, asB_bool, asB_tup, ↓reduceIte, reduceCtorEq, Nat.reduceEqDiff, Bool.not_true, Bool.not_false]; refine hK_ _ ?_; clear hK_ K_)
  | (with_reducible refine gateK_yes ?_) | (refine gateK_no (by decide) ?_) | (with_reducible refine gateK_none ?_)
  | ((try first | refine WO_op rfl rfl rfl ?_ | refine WO_op0 rfl rfl ?_ | refine WD_op rfl rfl rfl ?_ | refine WD_op0 rfl rfl ?_); (refine WV_gen fun Q_ hQ_ => ?_; simp (disch := first | omega | (simp only [List.length_cons, List.length_nil, List.length_append]; omega)) only [x_move, x_assign, x_pick, x_alloc, x_box, x_build, x_load, x_store, x_nilCheck, x_binOp, x_unOp, x_convert, x_makeFunc, x_makeMap, x_makeSlice, x_slice, x_fieldAddr, x_field, x_indexAddr, x_index, x_lookup, x_mapUpdate, x_extract, x_callB, x_callF, x_callT, x_buildSlice, WV_okI, on1_ok, of_ok, done_ok, evT_tmp, get_tmp, evT_int, evT_bool, evT_str, evT_nils, evT_nilm, evT_nilp, evT_nilf, evT_func, upd_apply, evL_nil, evL_cons', evParts_nil, evParts_cons, pickE_def, allocE_def, cells_bool, cells_int, cells_str, cells_ptr, cells_nilp, cells_sl, cells_nils, cells_map, cells_nilm, cells_fn, cells_nilf, cells_agg, asPtr_ptr, asSl_sl, asB_bool, asB_tup, asTup_tup, asI64_int, toNatE_lit, reszT_nils, reszT_none, toNatE_int, slicesE_def, optNat_none, optNat_def, Int.reduceToNat, Int.toNat_natCast, cellsOf_cells, cellsOf_ro, cellsE_cells, oneB_bool, oneB_int, oneB_str, oneB_ptr, oneB_nilp, oneB_sl, oneB_nils, oneB_map, oneB_nilm, oneB_fn, oneB_nilf, loadE_ptr, storeE_ptr, storeCs_some, storeAll_one, storeAll_two, fieldAddrE_ptr, addOff_some, indexAt_sl, indexAt_arr, extractE_tup, nilCheck_fn, nilCheck_ptr, nilCheck_yld, b_add, b_sub, b_mul, b_eql, b_neq, b_lss, b_leq, b_gtr, b_geq, unE_not, unE_neg, bi_len, bi_append, bi_copy, bi_max, bi_min, buildSliceO_def, buildO_def, ble_dec, fillE_nil, fillE_cons, layOver_def, zerosE_zero, zerosE_succ, wrap_in, min_ck, min_cc, min_cl, Nat.min_self, allOne_nil, allOne_cons, cellAt_cells, cellAt_ro, aggAt_cells, storeAt_cells, writeAt_cells, splice_def, marked_X, nx_X, unmark_keep, unmark_full, app_len0, app_len, set_app_len0, set_app_len, List.append_assoc, List.length_append, argF, cond_true, cond_false, ↓reduceIte, reduceCtorEq, Nat.reduceEqDiff, Nat.reduceLT, Nat.reduceLeDiff, Nat.reduceAdd, Nat.reduceMul, Nat.reduceSub, Nat.reduceBEq, Nat.add_zero, Nat.zero_add, Nat.mul_one, Nat.zero_mul, Nat.one_mul, List.length_cons, List.length_nil, List.cons_append, List.nil_append, List.append_nil, List.getElem?_cons_zero, List.getElem?_cons_succ, List.set_cons_zero, List.set_cons_succ, List.drop_zero, List.drop_succ_cons, List.take_zero, List.take_succ_cons, List.take_nil, List.drop_nil, Bool.not_true, Bool.not_false, Bool.true_and, Bool.and_true, Bool.false_and, Bool.and_false, decide_true, decide_false, eq_self, List.toList_toArray, beq_dec, beq_self_eq_true, q0, q4, hlen, newPtr_X wf, load1_X wf, loadAgg_X wf, store1_X wf, writeCells_X wf, bs_71, bsl_25, newSlice_X wf, ia_2, sz_2, ia_3, sz_3, ia_27, ia_51, sz_51, ia_71, sz_71, ia_24, sz_24, ia_22, ia_25, fo_71_0, fo_71_1, fo_71_2, fo_71_3, fo_51_0, fo_51_1, fo_24_0, fo_24_1, ze_71, ze_51, pb_33, pb_36, pb_60, pb_61, pb_78, pb_34, pb_37, pb_14, pb_62, pb_63, pb_35, pb_15, pb_30, ni_25]; first | (refine dec_split (Q := Q_) (fun hp_ => ?_) (fun hp_ => ?_) <;> first | (exfalso; omega) | (refine hQ_ _ _ ?_; clear hQ_ Q_)) | (refine dec_splitn (Q := Q_) (fun hp_ => ?_) (fun hp_ => ?_) <;> first | (exfalso; omega) | (refine hQ_ _ _ ?_; clear hQ_ Q_)) | (refine hQ_ _ _ ?_; clear hQ_ Q_)))
  | (refine WC_cond fun K_ hK_ => ?_; simp (disch := omega) only [evT_tmp, upd_apply, WB_some, ↓reduceIte, reduceCtorEq, Nat.reduceEqDiff, Nat.reduceLT]; refine hK_ _ ?_; clear hK_ K_)
  | (with_reducible refine condK_tt ?_) | (with_reducible refine condK_ff ?_) | (with_reducible refine roundQ_exit ?_) | (with_reducible refine roundQ_ret ?_)))
      refine endQ_ret _ _ rfl (ret1 (by decide)) ?_
      simp only [upd_apply, ↓reduceIte, reduceCtorEq, Nat.reduceEqDiff]
      rw [← hkl]
      exact hout.ret wf (fun M hM => ⟨M, rfl, hM⟩) (Nat.le_refl _)
  · refine ⟨Nat.zero_le _, by simp only [upd_apply, ↓reduceIte, reduceCtorEq, Nat.reduceEqDiff], by simp only [upd_apply, ↓reduceIte, reduceCtorEq, Nat.reduceEqDiff]; rfl, rfl, [], rfl, ?_⟩
    simp only [upd_apply, ↓reduceIte, reduceCtorEq, Nat.reduceEqDiff]
    exact Grow.nil h [] [] 1 2
end Go.Proofs.YtghondkiondeaaaDoor
end

/- EvR2 -/
section
/-
  LAYER 1: what a line measures, by the reference.
-/
namespace Go.Proofs.YtghondkiondeaaaDoor
open Go.Ev
set_option maxRecDepth 100000
set_option linter.unusedSimpArgs false
set_option linter.unusedVariables false
set_option maxHeartbeats 2000000

structure R3 where
  ch : Int
  be : Int
  last : Int
def turns (last d : Int) : Prop := last > 0 ∧ d < 0 ∨ last < 0 ∧ d > 0
instance (last d : Int) : Decidable (turns last d) := by unfold turns; infer_instance
def rstep (t : R3) (d : Int) : R3 := ⟨if turns t.last d then t.ch + 1 else t.ch, t.be + max d (0 - d), if d = 0 then t.last else d⟩
def rfold (l : List Int) : R3 := l.foldl rstep ⟨0, 0, 0⟩
theorem rfold_snoc (l : List Int) (d : Int) : rfold (l ++ [d]) = rstep (rfold l) d := by unfold rfold; rw [List.foldl_append]; rfl
theorem rfold_sds (xs : List Int) (k : Nat) : rfold (sds xs (k + 1)) = rstep (rfold (sds xs k)) (sd xs k) := by rw [sds_snoc, rfold_snoc]

def signOf (l : Int) : Int := if 0 < l then 1 else if l < 0 then 2 else 0
theorem sign_step (last d : Int) : nextSign (signOf last) d = signOf (if d = 0 then last else d) := by
  unfold nextSign signOf
  repeat' split
  all_goals omega
theorem chg_turns (last d : Int) : chg (signOf last) d = if turns last d then 1 else 0 := by
  unfold chg nextSign signOf turns
  repeat' split
  all_goals omega
/-- Both ways of measuring are one. -/
theorem both (a b : Int) (r : List Int) : ∀ k, k ≤ r.length → (mfold a b (r.take k)).a = (a :: b :: r).getD k 0 ∧ (mfold a b (r.take k)).b = (a :: b :: r).getD (k + 1) 0 ∧ (mfold a b (r.take k)).s = signOf (rfold (sds (a :: b :: r) k)).last ∧
    (mfold a b (r.take k)).ch = (rfold (sds (a :: b :: r) k)).ch ∧ (mfold a b (r.take k)).be = (rfold (sds (a :: b :: r) k)).be
  | 0, _ => ⟨rfl, rfl, rfl, rfl, rfl⟩
  | k + 1, hk => by
    obtain ⟨i1, i2, i3, i4, i5⟩ := both a b r k (by omega)
    have hd : (mfold a b (r.take k)).d r[k] = sd (a :: b :: r) k := by
      unfold St5.d sd
      rw [i1, i2]
      simp [show k < r.length from hk]
    rw [mfold_take a b r k hk, rfold_sds]
    unfold mstep rstep
    rw [hd]
    refine ⟨i2, ?_, ?_, ?_, ?_⟩
    · simp [show k < r.length from hk]
    · dsimp only; rw [i3]; exact sign_step _ _
    · dsimp only; rw [i3, i4, chg_turns]; split <;> omega
    · dsimp only; rw [i5]
theorem measOf_ref (xs : List Int) : (measOf xs).1 = (rfold (sds xs (xs.length - 2))).ch ∧ (measOf xs).2 = (rfold (sds xs (xs.length - 2))).be := by
  match xs with
  | [] => exact ⟨rfl, rfl⟩
  | [x] => exact ⟨rfl, rfl⟩
  | a :: b :: r =>
    have h := both a b r r.length (Nat.le_refl _)
    rw [List.take_length] at h
    exact ⟨h.2.2.2.1, h.2.2.2.2⟩
theorem sd_off {xs : List Int} (hx : ∀ x ∈ xs, Off x) {k : Nat} (hk : k < xs.length - 2) : -4000000 ≤ sd xs k ∧ sd xs k ≤ 4000000 := by
  have g : ∀ i, i < xs.length → Off (xs.getD i 0) := fun i hi => by rw [getD_get hi]; exact hx _ (List.getElem_mem _)
  obtain ⟨a1, a2⟩ := g k (by omega)
  obtain ⟨b1, b2⟩ := g (k + 1) (by omega)
  obtain ⟨c1, c2⟩ := g (k + 2) (by omega)
  unfold sd
  omega
theorem rfold_in {xs : List Int} (hx : ∀ x ∈ xs, Off x) : ∀ k, k ≤ xs.length - 2 → 0 ≤ (rfold (sds xs k)).ch ∧ (rfold (sds xs k)).ch ≤ k ∧ 0 ≤ (rfold (sds xs k)).be ∧ (rfold (sds xs k)).be ≤ 4000000 * k
  | 0, _ => ⟨Int.le_refl 0, Int.le_refl 0, Int.le_refl 0, Int.le_refl 0⟩
  | k + 1, hk => by
    have ih := rfold_in hx k (by omega)
    have hd := sd_off hx (k := k) (by omega)
    rw [rfold_sds]
    unfold rstep
    dsimp only
    push_cast
    refine ⟨?_, ?_, ?_, ?_⟩
    · split <;> omega
    · split <;> omega
    · omega
    · omega

theorem rmeasure (xs : List Int) (a : AV) (hn : xs.length ≤ 1000000) (hx : ∀ x ∈ xs, Off x) (h : H) (wf : Wf h) (hs : Sl h a 1 xs.length (xs.map ii)) :
    (om Tryd.prog KK).call (.fn 35 [a]) h = .ok (.tup [ii (measOf xs).1, ii (measOf xs).2]) h := by
  rw [(measOf_ref xs).1, (measOf_ref xs).2]
  refine WV_to (WV_call (fn := Tryd.f35) Tryd.func35 rfl rfl rfl rfl rfl ?_)
  simp only [argF]
  (repeat' (first
  | (with_reducible refine WC_seq ?_) | (refine WC_region ?_) | (with_reducible refine WC_skip ?_) | (with_reducible refine WC_label ?_) | (with_reducible refine WC_scope ?_) | (with_reducible refine WC_block ?_) | (with_reducible refine WC_ret ?_) | (with_reducible refine WC_exit ?_)
  | (with_reducible refine seqQ_norm ?_) | (with_reducible refine seqQ_ret ?_) | (with_reducible refine seqQ_exit ?_) | (with_reducible refine blkQ_norm ?_) | (with_reducible refine blkQ_ret ?_) | (with_reducible refine blkQ_here ?_) | (refine blkQ_out rfl ?_)
  | (refine WO_nil ?_)
  | (refine WD_nil ?_)
  | (refine WD_gate rfl rfl rfl rfl rfl fun K_ hK_ => ?_; simp only [upd_apply, asB_bool, asB_tup, ↓reduceIte, reduceCtorEq, Nat.reduceEqDiff, Bool.not_true, Bool.not_false]; refine hK_ _ ?_; clear hK_ K_)
  | (refine WO_gate rfl rfl rfl rfl rfl fun K_ hK_ => ?_; simp only [upd_apply, asB_bool, asB_tup, ↓reduceIte, reduceCtorEq, Nat.reduceEqDiff, Bool.not_true, Bool.not_false]; refine hK_ _ ?_; clear hK_ K_)
  | (with_reducible refine gateK_yes ?_) | (refine gateK_no (by decide) ?_) | (with_reducible refine gateK_none ?_)
  | ((try first | refine WO_op rfl rfl rfl ?_ | refine WO_op0 rfl rfl ?_ | refine WD_op rfl rfl rfl ?_ | refine WD_op0 rfl rfl ?_); (refine WV_gen fun Q_ hQ_ => ?_; simp (disch := first | omega | (simp only [List.length_cons, List.length_nil, List.length_append]; omega)) only [x_move, x_assign, x_pick, x_alloc, x_box, x_build, x_load, x_store, x_nilCheck, x_binOp, x_unOp, x_convert, x_makeFunc, x_makeMap, x_makeSlice, x_slice, x_fieldAddr, x_field, x_indexAddr, x_index, x_lookup, x_mapUpdate, x_extract, x_callB, x_callF, x_callT, x_buildSlice, WV_okI, on1_ok, of_ok, done_ok, evT_tmp, get_tmp, evT_int, evT_bool, evT_str, evT_nils, evT_nilm, evT_nilp, evT_nilf, evT_func, upd_apply, evL_nil, evL_cons', evParts_nil, evParts_cons, pickE_def, allocE_def, cells_bool, cells_int, cells_str, cells_ptr, cells_nilp, cells_sl, cells_nils, cells_map, cells_nilm, cells_fn, cells_nilf, cells_agg, asPtr_ptr, asSl_sl, asB_bool, asB_tup, asTup_tup, asI64_int, toNatE_lit, reszT_nils, reszT_none, toNatE_int, slicesE_def, optNat_none, optNat_def, Int.reduceToNat, Int.toNat_natCast, cellsOf_cells, cellsOf_ro, cellsE_cells, oneB_bool, oneB_int, oneB_str, oneB_ptr, oneB_nilp, oneB_sl, oneB_nils, oneB_map, oneB_nilm, oneB_fn, oneB_nilf, loadE_ptr, storeE_ptr, storeCs_some, storeAll_one, storeAll_two, fieldAddrE_ptr, addOff_some, indexAt_sl, indexAt_arr, extractE_tup, nilCheck_fn, nilCheck_ptr, nilCheck_yld, b_add, b_sub, b_mul, b_eql, b_neq, b_lss, b_leq, b_gtr, b_geq, unE_not, unE_neg, bi_len, bi_append, bi_copy, bi_max, bi_min, buildSliceO_def, buildO_def, ble_dec, fillE_nil, fillE_cons, layOver_def, zerosE_zero, zerosE_succ, wrap_in, min_ck, min_cc, min_cl, Nat.min_self, allOne_nil, allOne_cons, cellAt_cells, cellAt_ro, aggAt_cells, storeAt_cells, writeAt_cells, splice_def, marked_X, nx_X, unmark_keep, unmark_full, app_len0, app_len, set_app_len0, set_app_len, List.append_assoc, List.length_append, argF, cond_true, cond_false, ↓reduceIte, reduceCtorEq, Nat.reduceEqDiff, Nat.reduceLT, Nat.reduceLeDiff, Nat.reduceAdd, Nat.reduceMul, Nat.reduceSub, Nat.reduceBEq, Nat.add_zero, Nat.zero_add, Nat.mul_one, Nat.zero_mul, Nat.one_mul, List.length_cons, List.length_nil, List.cons_append, List.nil_append, List.append_nil, List.getElem?_cons_zero, List.getElem?_cons_succ, List.set_cons_zero, List.set_cons_succ, List.drop_zero, List.drop_succ_cons, List.take_zero, List.take_succ_cons, List.take_nil, List.drop_nil, Bool.not_true, Bool.not_false, Bool.true_and, Bool.and_true, Bool.false_and, Bool.and_false, decide_true, decide_false, eq_self, List.toList_toArray, beq_dec, beq_self_eq_true, newPtr_X wf, load1_X wf, loadAgg_X wf, store1_X wf, writeCells_X wf, bs_71, bsl_25, newSlice_X wf, ia_2, sz_2, ia_3, sz_3, ia_27, ia_51, sz_51, ia_71, sz_71, ia_24, sz_24, ia_22, ia_25, fo_71_0, fo_71_1, fo_71_2, fo_71_3, fo_51_0, fo_51_1, fo_24_0, fo_24_1, ze_71, ze_51, pb_33, pb_36, pb_60, pb_61, pb_78, pb_34, pb_37, pb_14, pb_62, pb_63, pb_35, pb_15, pb_30, ni_25]; first | (refine dec_split (Q := Q_) (fun hp_ => ?_) (fun hp_ => ?_) <;> first | (exfalso; omega) | (refine hQ_ _ _ ?_; clear hQ_ Q_)) | (refine dec_splitn (Q := Q_) (fun hp_ => ?_) (fun hp_ => ?_) <;> first | (exfalso; omega) | (refine hQ_ _ _ ?_; clear hQ_ Q_)) | (refine hQ_ _ _ ?_; clear hQ_ Q_)))
  | (refine WC_cond fun K_ hK_ => ?_; simp (disch := omega) only [evT_tmp, upd_apply, WB_some, ↓reduceIte, reduceCtorEq, Nat.reduceEqDiff, Nat.reduceLT]; refine hK_ _ ?_; clear hK_ K_)
  | (with_reducible refine condK_tt ?_) | (with_reducible refine condK_ff ?_) | (with_reducible refine roundQ_exit ?_) | (with_reducible refine roundQ_ret ?_)))
  refine WO_op rfl rfl rfl ?_
  refine WV_gen fun Q_ hQ_ => ?_
  simp (disch := first | omega | (simp only [List.length_cons, List.length_nil, List.length_append]; omega)) only [x_move, x_assign, x_pick, x_alloc, x_box, x_build, x_load, x_store, x_nilCheck, x_binOp, x_unOp, x_convert, x_makeFunc, x_makeMap, x_makeSlice, x_slice, x_fieldAddr, x_field, x_indexAddr, x_index, x_lookup, x_mapUpdate, x_extract, x_callB, x_callF, x_callT, x_buildSlice, WV_okI, on1_ok, of_ok, done_ok, evT_tmp, get_tmp, evT_int, evT_bool, evT_str, evT_nils, evT_nilm, evT_nilp, evT_nilf, evT_func, upd_apply, evL_nil, evL_cons', evParts_nil, evParts_cons, pickE_def, allocE_def, cells_bool, cells_int, cells_str, cells_ptr, cells_nilp, cells_sl, cells_nils, cells_map, cells_nilm, cells_fn, cells_nilf, cells_agg, asPtr_ptr, asSl_sl, asB_bool, asB_tup, asTup_tup, asI64_int, toNatE_lit, reszT_nils, reszT_none, toNatE_int, slicesE_def, optNat_none, optNat_def, Int.reduceToNat, Int.toNat_natCast, cellsOf_cells, cellsOf_ro, cellsE_cells, oneB_bool, oneB_int, oneB_str, oneB_ptr, oneB_nilp, oneB_sl, oneB_nils, oneB_map, oneB_nilm, oneB_fn, oneB_nilf, loadE_ptr, storeE_ptr, storeCs_some, storeAll_one, storeAll_two, fieldAddrE_ptr, addOff_some, indexAt_sl, indexAt_arr, extractE_tup, nilCheck_fn, nilCheck_ptr, nilCheck_yld, b_add, b_sub, b_mul, b_eql, b_neq, b_lss, b_leq, b_gtr, b_geq, unE_not, unE_neg, bi_len, bi_append, bi_copy, bi_max, bi_min, buildSliceO_def, buildO_def, ble_dec, fillE_nil, fillE_cons, layOver_def, zerosE_zero, zerosE_succ, wrap_in, min_ck, min_cc, min_cl, Nat.min_self, allOne_nil, allOne_cons, cellAt_cells, cellAt_ro, aggAt_cells, storeAt_cells, writeAt_cells, splice_def, marked_X, nx_X, unmark_keep, unmark_full, app_len0, app_len, set_app_len0, set_app_len, List.append_assoc, List.length_append, argF, cond_true, cond_false, ↓reduceIte, reduceCtorEq, Nat.reduceEqDiff, Nat.reduceLT, Nat.reduceLeDiff, Nat.reduceAdd, Nat.reduceMul, Nat.reduceSub, Nat.reduceBEq, Nat.add_zero, Nat.zero_add, Nat.mul_one, Nat.zero_mul, Nat.one_mul, List.length_cons, List.length_nil, List.cons_append, List.nil_append, List.append_nil, List.getElem?_cons_zero, List.getElem?_cons_succ, List.set_cons_zero, List.set_cons_succ, List.drop_zero, List.drop_succ_cons, List.take_zero, List.take_succ_cons, List.take_nil, List.drop_nil, Bool.not_true, Bool.not_false, Bool.true_and, Bool.and_true, Bool.false_and, Bool.and_false, decide_true, decide_false, eq_self, List.toList_toArray, beq_dec, beq_self_eq_true, bs_71, bsl_25, newSlice_X wf, ia_2, sz_2, ia_3, sz_3, ia_27, ia_51, sz_51, ia_71, sz_71, ia_24, sz_24, ia_22, ia_25, fo_71_0, fo_71_1, fo_71_2, fo_71_3, fo_51_0, fo_51_1, fo_24_0, fo_24_1, ze_71, ze_51, pb_33, pb_36, pb_60, pb_61, pb_78, pb_34, pb_37, pb_14, pb_62, pb_63, pb_35, pb_15, pb_30, ni_25]
  refine (Bends xs a hn hx _ (wf.X (Nat.le_add_right _ _)) (hs.up wf _ _)).mono ?_
  rintro v h' ⟨M, e, hM⟩
  rw [X_X, X_w, List.nil_append] at e
  subst e
  have wfM : Wf (X h M h.clock) := wf.X (Nat.le_add_right _ _)
  refine hQ_ _ _ ?_
  clear hQ_ Q_
  have hlv : ∀ h', lenE Tryd.prog 25 v h' = some (ii ((xs.length - 2 : Nat) : Int)) := fun h' => hM.len un_25
  (repeat' (first
  | (with_reducible refine WC_seq ?_) | (refine WC_region ?_) | (with_reducible refine WC_skip ?_) | (with_reducible refine WC_label ?_) | (with_reducible refine WC_scope ?_) | (with_reducible refine WC_block ?_) | (with_reducible refine WC_ret ?_) | (with_reducible refine WC_exit ?_)
  | (with_reducible refine seqQ_norm ?_) | (with_reducible refine seqQ_ret ?_) | (with_reducible refine seqQ_exit ?_) | (with_reducible refine blkQ_norm ?_) | (with_reducible refine blkQ_ret ?_) | (with_reducible refine blkQ_here ?_) | (refine blkQ_out rfl ?_)
  | (refine WO_nil ?_)
  | (refine WD_nil ?_)
  | (refine WD_gate rfl rfl rfl rfl rfl fun K_ hK_ => ?_; simp only [upd_apply, asB_bool, asB_tup, ↓reduceIte, reduceCtorEq, Nat.reduceEqDiff, Bool.not_true, Bool.not_false]; refine hK_ _ ?_; clear hK_ K_)
  | (refine WO_gate rfl rfl rfl rfl rfl fun K_ hK_ => ?_; simp only [upd_apply, asB_bool, asB_tup, ↓reduceIte, reduceCtorEq, Nat.reduceEqDiff, Bool.not_true, Bool.not_false]; refine hK_ _ ?_; clear hK_ K_)
  | (with_reducible refine gateK_yes ?_) | (refine gateK_no (by decide) ?_) | (with_reducible refine gateK_none ?_)
  | ((try first | refine WO_op rfl rfl rfl ?_ | refine WO_op0 rfl rfl ?_ | refine WD_op rfl rfl rfl ?_ | refine WD_op0 rfl rfl ?_); (refine WV_gen fun Q_ hQ_ => ?_; simp (disch := first | omega | (simp only [List.length_cons, List.length_nil, List.length_append]; omega)) only [x_move, x_assign, x_pick, x_alloc, x_box, x_build, x_load, x_store, x_nilCheck, x_binOp, x_unOp, x_convert, x_makeFunc, x_makeMap, x_makeSlice, x_slice, x_fieldAddr, x_field, x_indexAddr, x_index, x_lookup, x_mapUpdate, x_extract, x_callB, x_callF, x_callT, x_buildSlice, WV_okI, on1_ok, of_ok, done_ok, evT_tmp, get_tmp, evT_int, evT_bool, evT_str, evT_nils, evT_nilm, evT_nilp, evT_nilf, evT_func, upd_apply, evL_nil, evL_cons', evParts_nil, evParts_cons, pickE_def, allocE_def, cells_bool, cells_int, cells_str, cells_ptr, cells_nilp, cells_sl, cells_nils, cells_map, cells_nilm, cells_fn, cells_nilf, cells_agg, asPtr_ptr, asSl_sl, asB_bool, asB_tup, asTup_tup, asI64_int, toNatE_lit, reszT_nils, reszT_none, toNatE_int, slicesE_def, optNat_none, optNat_def, Int.reduceToNat, Int.toNat_natCast, cellsOf_cells, cellsOf_ro, cellsE_cells, oneB_bool, oneB_int, oneB_str, oneB_ptr, oneB_nilp, oneB_sl, oneB_nils, oneB_map, oneB_nilm, oneB_fn, oneB_nilf, loadE_ptr, storeE_ptr, storeCs_some, storeAll_one, storeAll_two, fieldAddrE_ptr, addOff_some, indexAt_sl, indexAt_arr, extractE_tup, nilCheck_fn, nilCheck_ptr, nilCheck_yld, b_add, b_sub, b_mul, b_eql, b_neq, b_lss, b_leq, b_gtr, b_geq, unE_not, unE_neg, bi_len, bi_append, bi_copy, bi_max, bi_min, buildSliceO_def, buildO_def, ble_dec, fillE_nil, fillE_cons, layOver_def, zerosE_zero, zerosE_succ, wrap_in, min_ck, min_cc, min_cl, Nat.min_self, allOne_nil, allOne_cons, cellAt_cells, cellAt_ro, aggAt_cells, storeAt_cells, writeAt_cells, splice_def, marked_X, nx_X, unmark_keep, unmark_full, app_len0, app_len, set_app_len0, set_app_len, List.append_assoc, List.length_append, argF, cond_true, cond_false, ↓reduceIte, reduceCtorEq, Nat.reduceEqDiff, Nat.reduceLT, Nat.reduceLeDiff, Nat.reduceAdd, Nat.reduceMul, Nat.reduceSub, Nat.reduceBEq, Nat.add_zero, Nat.zero_add, Nat.mul_one, Nat.zero_mul, Nat.one_mul, List.length_cons, List.length_nil, List.cons_append, List.nil_append, List.append_nil, List.getElem?_cons_zero, List.getElem?_cons_succ, List.set_cons_zero, List.set_cons_succ, List.drop_zero, List.drop_succ_cons, List.take_zero, List.take_succ_cons, List.take_nil, List.drop_nil, Bool.not_true, Bool.not_false, Bool.true_and, Bool.and_true, Bool.false_and, Bool.and_false, decide_true, decide_false, eq_self, List.toList_toArray, beq_dec, beq_self_eq_true, hlv, newPtr_X wf, load1_X wf, loadAgg_X wf, store1_X wf, writeCells_X wf, bs_71, bsl_25, newSlice_X wf, ia_2, sz_2, ia_3, sz_3, ia_27, ia_51, sz_51, ia_71, sz_71, ia_24, sz_24, ia_22, ia_25, fo_71_0, fo_71_1, fo_71_2, fo_71_3, fo_51_0, fo_51_1, fo_24_0, fo_24_1, ze_71, ze_51, pb_33, pb_36, pb_60, pb_61, pb_78, pb_34, pb_37, pb_14, pb_62, pb_63, pb_35, pb_15, pb_30, ni_25]; first | (refine dec_split (Q := Q_) (fun hp_ => ?_) (fun hp_ => ?_) <;> first | (exfalso; omega) | (refine hQ_ _ _ ?_; clear hQ_ Q_)) | (refine dec_splitn (Q := Q_) (fun hp_ => ?_) (fun hp_ => ?_) <;> first | (exfalso; omega) | (refine hQ_ _ _ ?_; clear hQ_ Q_)) | (refine hQ_ _ _ ?_; clear hQ_ Q_)))
  | (refine WC_cond fun K_ hK_ => ?_; simp (disch := omega) only [evT_tmp, upd_apply, WB_some, ↓reduceIte, reduceCtorEq, Nat.reduceEqDiff, Nat.reduceLT]; refine hK_ _ ?_; clear hK_ K_)
  | (with_reducible refine condK_tt ?_) | (with_reducible refine condK_ff ?_) | (with_reducible refine roundQ_exit ?_) | (with_reducible refine roundQ_ret ?_)))
  refine WC_loop (fun (k : Nat) f d h' => k ≤ xs.length - 2 ∧ f 7 = v ∧ f 8 = ii (k : Int) ∧ f 4 = ii (rfold (sds xs k)).ch ∧ f 5 = ii (rfold (sds xs k)).be ∧ f 6 = ii (rfold (sds xs k)).last ∧ d = [] ∧ h' = X h M h.clock) (fun k => xs.length - 2 - k) ?_ (xs.length + 1) 0 (by omega) ?_
  · rintro k f d h' ⟨hk, q7, q8, q4, q5, q6, rfl, rfl⟩
    by_cases hlt : k < xs.length - 2
    · obtain ⟨id, off, hix, hld⟩ := hM.at1 wfM (i := k) hlt ik_25
      have hld' : load1 id off (X h M h.clock) = some (ii (sd xs k)) := by
        have := hld [] (X h M h.clock).w
        rw [X_self] at this
        rw [this]
        simp [sds, hlt]
      clear hld
      have hin := rfold_in hx k hk
      have hst := rfold_sds xs k
      have hd := sd_off hx hlt
      generalize hr : rfold (sds xs k) = t at *
      generalize hdd : sd xs k = d at *
      obtain ⟨tc, tb, tl⟩ := t
      dsimp only at hin q4 q5 q6
      (repeat' (first
  | (with_reducible refine WC_seq ?_) | (refine WC_region ?_) | (with_reducible refine WC_skip ?_) | (with_reducible refine WC_label ?_) | (with_reducible refine WC_scope ?_) | (with_reducible refine WC_block ?_) | (with_reducible refine WC_ret ?_) | (with_reducible refine WC_exit ?_)
  | (with_reducible refine seqQ_norm ?_) | (with_reducible refine seqQ_ret ?_) | (with_reducible refine seqQ_exit ?_) | (with_reducible refine blkQ_norm ?_) | (with_reducible refine blkQ_ret ?_) | (with_reducible refine blkQ_here ?_) | (refine blkQ_out rfl ?_)
  | (refine WO_nil ?_)
  | (refine WD_nil ?_)
  | (refine WD_gate rfl rfl rfl rfl rfl fun K_ hK_ => ?_; simp only [upd_apply, asB_bool, asB_tup, ↓reduceIte, reduceCtorEq, Nat.reduceEqDiff, Bool.not_true, Bool.not_false]; refine hK_ _ ?_; clear hK_ K_)
  | (refine WO_gate rfl rfl rfl rfl rfl fun K_ hK_ => ?_; simp only [upd_apply, asB_bool, asB_tup, ↓reduceIte, reduceCtorEq, Nat.reduceEqDiff, Bool.not_true, Bool.not_false]; refine hK_ _ ?_; clear hK_ K_)
  | (with_reducible refine gateK_yes ?_) | (refine gateK_no (by decide) ?_) | (with_reducible refine gateK_none ?_)
  | ((try first | refine WO_op rfl rfl rfl ?_ | refine WO_op0 rfl rfl ?_ | refine WD_op rfl rfl rfl ?_ | refine WD_op0 rfl rfl ?_); (refine WV_gen fun Q_ hQ_ => ?_; simp (disch := first | omega | (simp only [List.length_cons, List.length_nil, List.length_append]; omega)) only [x_move, x_assign, x_pick, x_alloc, x_box, x_build, x_load, x_store, x_nilCheck, x_binOp, x_unOp, x_convert, x_makeFunc, x_makeMap, x_makeSlice, x_slice, x_fieldAddr, x_field, x_indexAddr, x_index, x_lookup, x_mapUpdate, x_extract, x_callB, x_callF, x_callT, x_buildSlice, WV_okI, on1_ok, of_ok, done_ok, evT_tmp, get_tmp, evT_int, evT_bool, evT_str, evT_nils, evT_nilm, evT_nilp, evT_nilf, evT_func, upd_apply, evL_nil, evL_cons', evParts_nil, evParts_cons, pickE_def, allocE_def, cells_bool, cells_int, cells_str, cells_ptr, cells_nilp, cells_sl, cells_nils, cells_map, cells_nilm, cells_fn, cells_nilf, cells_agg, asPtr_ptr, asSl_sl, asB_bool, asB_tup, asTup_tup, asI64_int, toNatE_lit, reszT_nils, reszT_none, toNatE_int, slicesE_def, optNat_none, optNat_def, Int.reduceToNat, Int.toNat_natCast, cellsOf_cells, cellsOf_ro, cellsE_cells, oneB_bool, oneB_int, oneB_str, oneB_ptr, oneB_nilp, oneB_sl, oneB_nils, oneB_map, oneB_nilm, oneB_fn, oneB_nilf, loadE_ptr, storeE_ptr, storeCs_some, storeAll_one, storeAll_two, fieldAddrE_ptr, addOff_some, indexAt_sl, indexAt_arr, extractE_tup, nilCheck_fn, nilCheck_ptr, nilCheck_yld, b_add, b_sub, b_mul, b_eql, b_neq, b_lss, b_leq, b_gtr, b_geq, unE_not, unE_neg, bi_len, bi_append, bi_copy, bi_max, bi_min, buildSliceO_def, buildO_def, ble_dec, fillE_nil, fillE_cons, layOver_def, zerosE_zero, zerosE_succ, wrap_in, min_ck, min_cc, min_cl, Nat.min_self, allOne_nil, allOne_cons, cellAt_cells, cellAt_ro, aggAt_cells, storeAt_cells, writeAt_cells, splice_def, marked_X, nx_X, unmark_keep, unmark_full, app_len0, app_len, set_app_len0, set_app_len, List.append_assoc, List.length_append, argF, cond_true, cond_false, ↓reduceIte, reduceCtorEq, Nat.reduceEqDiff, Nat.reduceLT, Nat.reduceLeDiff, Nat.reduceAdd, Nat.reduceMul, Nat.reduceSub, Nat.reduceBEq, Nat.add_zero, Nat.zero_add, Nat.mul_one, Nat.zero_mul, Nat.one_mul, List.length_cons, List.length_nil, List.cons_append, List.nil_append, List.append_nil, List.getElem?_cons_zero, List.getElem?_cons_succ, List.set_cons_zero, List.set_cons_succ, List.drop_zero, List.drop_succ_cons, List.take_zero, List.take_succ_cons, List.take_nil, List.drop_nil, Bool.not_true, Bool.not_false, Bool.true_and, Bool.and_true, Bool.false_and, Bool.and_false, decide_true, decide_false, eq_self, List.toList_toArray, beq_dec, beq_self_eq_true, q7, q8, q4, q5, q6, hix, hld', hlv, newPtr_X wf, load1_X wf, loadAgg_X wf, store1_X wf, writeCells_X wf, bs_71, bsl_25, newSlice_X wf, ia_2, sz_2, ia_3, sz_3, ia_27, ia_51, sz_51, ia_71, sz_71, ia_24, sz_24, ia_22, ia_25, fo_71_0, fo_71_1, fo_71_2, fo_71_3, fo_51_0, fo_51_1, fo_24_0, fo_24_1, ze_71, ze_51, pb_33, pb_36, pb_60, pb_61, pb_78, pb_34, pb_37, pb_14, pb_62, pb_63, pb_35, pb_15, pb_30, ni_25]; first | (refine dec_split (Q := Q_) (fun hp_ => ?_) (fun hp_ => ?_) <;> first | (exfalso; omega) | (refine hQ_ _ _ ?_; clear hQ_ Q_)) | (refine dec_splitn (Q := Q_) (fun hp_ => ?_) (fun hp_ => ?_) <;> first | (exfalso; omega) | (refine hQ_ _ _ ?_; clear hQ_ Q_)) | (refine hQ_ _ _ ?_; clear hQ_ Q_) | (refine WV_eq (amount _ (by omega) _ (wf.X (Nat.le_add_right _ _))) ?_; refine hQ_ _ _ ?_; clear hQ_ Q_)))
  | (refine WC_cond fun K_ hK_ => ?_; simp (disch := omega) only [evT_tmp, upd_apply, WB_some, ↓reduceIte, reduceCtorEq, Nat.reduceEqDiff, Nat.reduceLT]; refine hK_ _ ?_; clear hK_ K_)
  | (with_reducible refine condK_tt ?_) | (with_reducible refine condK_ff ?_) | (with_reducible refine roundQ_exit ?_) | (with_reducible refine roundQ_ret ?_)))
      all_goals (refine roundQ_again (k + 1) (by omega) ⟨by omega, by simp only [upd_apply, ↓reduceIte, reduceCtorEq, Nat.reduceEqDiff]; exact q7, by simp only [upd_apply, ↓reduceIte, reduceCtorEq, Nat.reduceEqDiff]; rfl, ?_, by simp only [upd_apply, ↓reduceIte, reduceCtorEq, Nat.reduceEqDiff]; rw [hst]; rfl, ?_, rfl, rfl⟩)
      all_goals (simp only [upd_apply, ↓reduceIte, reduceCtorEq, Nat.reduceEqDiff]; rw [hst]; simp only [q4, q6, rstep, turns]; refine congrArg (AV.int .i64) ?_; repeat' split)
      all_goals omega
    · have hkl : k = xs.length - 2 := by omega
      subst hkl
      (repeat' (first
  | (with_reducible refine WC_seq ?_) | (refine WC_region ?_) | (with_reducible refine WC_skip ?_) | (with_reducible refine WC_label ?_) | (with_reducible refine WC_scope ?_) | (with_reducible refine WC_block ?_) | (with_reducible refine WC_ret ?_) | (with_reducible refine WC_exit ?_)
  | (with_reducible refine seqQ_norm ?_) | (with_reducible refine seqQ_ret ?_) | (with_reducible refine seqQ_exit ?_) | (with_reducible refine blkQ_norm ?_) | (with_reducible refine blkQ_ret ?_) | (with_reducible refine blkQ_here ?_) | (refine blkQ_out rfl ?_)
  | (refine WO_nil ?_)
  | (refine WD_nil ?_)
  | (refine WD_gate rfl rfl rfl rfl rfl fun K_ hK_ => ?_; simp only [upd_apply, asB_bool, asB_tup, ↓reduceIte, reduceCtorEq, Nat.reduceEqDiff, Bool.not_true, Bool.not_false]; refine hK_ _ ?_; clear hK_ K_)
  | (refine WO_gate rfl rfl rfl rfl rfl fun K_ hK_ => ?_; simp only [upd_apply, asB_bool, asB_tup, ↓reduceIte, reduceCtorEq, Nat.reduceEqDiff, Bool.not_true, Bool.not_false]; refine hK_ _ ?_; clear hK_ K_)
  | (with_reducible refine gateK_yes ?_) | (refine gateK_no (by decide) ?_) | (with_reducible refine gateK_none ?_)
  | ((try first | refine WO_op rfl rfl rfl ?_ | refine WO_op0 rfl rfl ?_ | refine WD_op rfl rfl rfl ?_ | refine WD_op0 rfl rfl ?_); (refine WV_gen fun Q_ hQ_ => ?_; simp (disch := first | omega | (simp only [List.length_cons, List.length_nil, List.length_append]; omega)) only [x_move, x_assign, x_pick, x_alloc, x_box, x_build, x_load, x_store, x_nilCheck, x_binOp, x_unOp, x_convert, x_makeFunc, x_makeMap, x_makeSlice, x_slice, x_fieldAddr, x_field, x_indexAddr, x_index, x_lookup, x_mapUpdate, x_extract, x_callB, x_callF, x_callT, x_buildSlice, WV_okI, on1_ok, of_ok, done_ok, evT_tmp, get_tmp, evT_int, evT_bool, evT_str, evT_nils, evT_nilm, evT_nilp, evT_nilf, evT_func, upd_apply, evL_nil, evL_cons', evParts_nil, evParts_cons, pickE_def, allocE_def, cells_bool, cells_int, cells_str, cells_ptr, cells_nilp, cells_sl, cells_nils, cells_map, cells_nilm, cells_fn, cells_nilf, cells_agg, asPtr_ptr, asSl_sl, asB_bool, asB_tup, asTup_tup, asI64_int, toNatE_lit, reszT_nils, reszT_none, toNatE_int, slicesE_def, optNat_none, optNat_def, Int.reduceToNat, Int.toNat_natCast, cellsOf_cells, cellsOf_ro, cellsE_cells, oneB_bool, oneB_int, oneB_str, oneB_ptr, oneB_nilp, oneB_sl, oneB_nils, oneB_map, oneB_nilm, oneB_fn, oneB_nilf, loadE_ptr, storeE_ptr, storeCs_some, storeAll_one, storeAll_two, fieldAddrE_ptr, addOff_some, indexAt_sl, indexAt_arr, extractE_tup, nilCheck_fn, nilCheck_ptr, nilCheck_yld, b_add, b_sub, b_mul, b_eql, b_neq, b_lss, b_leq, b_gtr, b_geq, unE_not, unE_neg, bi_len, bi_append, bi_copy, bi_max, bi_min, buildSliceO_def, buildO_def, ble_dec, fillE_nil, fillE_cons, layOver_def, zerosE_zero, zerosE_succ, wrap_in, min_ck, min_cc, min_cl, Nat.min_self, allOne_nil, allOne_cons, cellAt_cells, cellAt_ro, aggAt_cells, storeAt_cells, writeAt_cells, splice_def, marked_X, nx_X, unmark_keep, unmark_full, app_len0, app_len, set_app_len0, set_app_len, List.append_assoc, List.length_append, argF, cond_true, cond_false, ↓reduceIte, reduceCtorEq, Nat.reduceEqDiff, Nat.reduceLT, Nat.reduceLeDiff, Nat.reduceAdd, Nat.reduceMul, Nat.reduceSub, Nat.reduceBEq, Nat.add_zero, Nat.zero_add, Nat.mul_one, Nat.zero_mul, Nat.one_mul, List.length_cons, List.length_nil, List.cons_append, List.nil_append, List.append_nil, List.getElem?_cons_zero, List.getElem?_cons_succ, List.set_cons_zero, List.set_cons_succ, List.drop_zero, List.drop_succ_cons, List.take_zero, List.take_succ_cons, List.take_nil, List.drop_nil, Bool.not_true, Bool.not_false, Bool.true_and, Bool.and_true, Bool.false_and, Bool.and_false, decide_true, decide_false, eq_self, List.toList_toArray, beq_dec, beq_self_eq_true, q7, q8, q4, q5, q6, hlv, newPtr_X wf, load1_X wf, loadAgg_X wf, store1_X wf, writeCells_X wf, bs_71, bsl_25, newSlice_X wf, ia_2, sz_2, ia_3, sz_3, ia_27, ia_51, sz_51, ia_71, sz_71, ia_24, sz_24, ia_22, ia_25, fo_71_0, fo_71_1, fo_71_2, fo_71_3, fo_51_0, fo_51_1, fo_24_0, fo_24_1, ze_71, ze_51, pb_33, pb_36, pb_60, pb_61, pb_78, pb_34, pb_37, pb_14, pb_62, pb_63, pb_35, pb_15, pb_30, ni_25]; first | (refine dec_split (Q := Q_) (fun hp_ => ?_) (fun hp_ => ?_) <;> first | (exfalso; omega) | (refine hQ_ _ _ ?_; clear hQ_ Q_)) | (refine dec_splitn (Q := Q_) (fun hp_ => ?_) (fun hp_ => ?_) <;> first | (exfalso; omega) | (refine hQ_ _ _ ?_; clear hQ_ Q_)) | (refine hQ_ _ _ ?_; clear hQ_ Q_)))
  | (refine WC_cond fun K_ hK_ => ?_; simp (disch := omega) only [evT_tmp, upd_apply, WB_some, ↓reduceIte, reduceCtorEq, Nat.reduceEqDiff, Nat.reduceLT]; refine hK_ _ ?_; clear hK_ K_)
  | (with_reducible refine condK_tt ?_) | (with_reducible refine condK_ff ?_) | (with_reducible refine roundQ_exit ?_) | (with_reducible refine roundQ_ret ?_)))
      (refine endQ_ret _ _ rfl (ret2 (by decide) (by decide)) ?_; simp only [upd_apply, ↓reduceIte, reduceCtorEq, Nat.reduceEqDiff]; refine WV_flat rfl (by omega) ?_)
      exact ⟨rfl, rfl⟩
  · exact ⟨Nat.zero_le _, by simp only [upd_apply, ↓reduceIte, reduceCtorEq, Nat.reduceEqDiff], by simp only [upd_apply, ↓reduceIte, reduceCtorEq, Nat.reduceEqDiff]; rfl, by simp only [upd_apply, ↓reduceIte, reduceCtorEq, Nat.reduceEqDiff]; rfl, by simp only [upd_apply, ↓reduceIte, reduceCtorEq, Nat.reduceEqDiff]; rfl, by simp only [upd_apply, ↓reduceIte, reduceCtorEq, Nat.reduceEqDiff]; rfl, rfl, rfl⟩
end Go.Proofs.YtghondkiondeaaaDoor
end

/- EvR3 -/
section
/-
  LAYER 1: the reference's Measure, CheckSpots, Cost and Check.
-/
namespace Go.Proofs.YtghondkiondeaaaDoor
open Go.Ev
set_option maxRecDepth 100000
set_option linter.unusedSimpArgs false
set_option linter.unusedVariables false
set_option maxHeartbeats 2000000

theorem rMeasure (xs : List Int) (a : AV) (hn : xs.length ≤ 1000000) (h : H) (wf : Wf h) (hs : Sl h a 1 xs.length (xs.map ii)) :
    (om Tryd.prog KK).call (.fn 11 [a]) h = .ok (.tup [ii (measR xs).1, ii (measR xs).2.1, ii (measR xs).2.2]) h := by
  refine WV_to (WV_call (fn := Tryd.f11) Tryd.func11 rfl rfl rfl rfl rfl ?_)
  simp only [argF]
  have hlen : ∀ h', lenE Tryd.prog 25 a h' = some (ii (xs.length : Int)) := fun h' => hs.len un_25
  (repeat' (first
  | (with_reducible refine WC_seq ?_) | (refine WC_region ?_) | (with_reducible refine WC_skip ?_) | (with_reducible refine WC_label ?_) | (with_reducible refine WC_scope ?_) | (with_reducible refine WC_block ?_) | (with_reducible refine WC_ret ?_) | (with_reducible refine WC_exit ?_)
  | (with_reducible refine seqQ_norm ?_) | (with_reducible refine seqQ_ret ?_) | (with_reducible refine seqQ_exit ?_) | (with_reducible refine blkQ_norm ?_) | (with_reducible refine blkQ_ret ?_) | (with_reducible refine blkQ_here ?_) | (refine blkQ_out rfl ?_)
  | (refine WO_nil ?_)
  | (refine WD_nil ?_)
  | (refine WD_gate rfl rfl rfl rfl rfl fun K_ hK_ => ?_; simp only [upd_apply, asB_bool, asB_tup, ↓reduceIte, reduceCtorEq, Nat.reduceEqDiff, Bool.not_true, Bool.not_false]; refine hK_ _ ?_; clear hK_ K_)
  | (refine WO_gate rfl rfl rfl rfl rfl fun K_ hK_ => ?_; simp only [upd_apply, asB_bool, asB_tup, ↓reduceIte, reduceCtorEq, Nat.reduceEqDiff, Bool.not_true, Bool.not_false]; refine hK_ _ ?_; clear hK_ K_)
  | (with_reducible refine gateK_yes ?_) | (refine gateK_no (by decide) ?_) | (with_reducible refine gateK_none ?_)
  | ((try first | refine WO_op rfl rfl rfl ?_ | refine WO_op0 rfl rfl ?_ | refine WD_op rfl rfl rfl ?_ | refine WD_op0 rfl rfl ?_); (refine WV_gen fun Q_ hQ_ => ?_; simp (disch := first | omega | (simp only [List.length_cons, List.length_nil, List.length_append]; omega)) only [x_move, x_assign, x_pick, x_alloc, x_box, x_build, x_load, x_store, x_nilCheck, x_binOp, x_unOp, x_convert, x_makeFunc, x_makeMap, x_makeSlice, x_slice, x_fieldAddr, x_field, x_indexAddr, x_index, x_lookup, x_mapUpdate, x_extract, x_callB, x_callF, x_callT, x_buildSlice, WV_okI, on1_ok, of_ok, done_ok, evT_tmp, get_tmp, evT_int, evT_bool, evT_str, evT_nils, evT_nilm, evT_nilp, evT_nilf, evT_func, upd_apply, evL_nil, evL_cons', evParts_nil, evParts_cons, pickE_def, allocE_def, cells_bool, cells_int, cells_str, cells_ptr, cells_nilp, cells_sl, cells_nils, cells_map, cells_nilm, cells_fn, cells_nilf, cells_agg, asPtr_ptr, asSl_sl, asB_bool, asB_tup, asTup_tup, asI64_int, toNatE_lit, reszT_nils, reszT_none, toNatE_int, slicesE_def, optNat_none, optNat_def, Int.reduceToNat, Int.toNat_natCast, cellsOf_cells, cellsOf_ro, cellsE_cells, oneB_bool, oneB_int, oneB_str, oneB_ptr, oneB_nilp, oneB_sl, oneB_nils, oneB_map, oneB_nilm, oneB_fn, oneB_nilf, loadE_ptr, storeE_ptr, storeCs_some, storeAll_one, storeAll_two, fieldAddrE_ptr, addOff_some, indexAt_sl, indexAt_arr, extractE_tup, nilCheck_fn, nilCheck_ptr, nilCheck_yld, b_add, b_sub, b_mul, b_eql, b_neq, b_lss, b_leq, b_gtr, b_geq, unE_not, unE_neg, bi_len, bi_append, bi_copy, bi_max, bi_min, buildSliceO_def, buildO_def, ble_dec, fillE_nil, fillE_cons, layOver_def, zerosE_zero, zerosE_succ, wrap_in, min_ck, min_cc, min_cl, Nat.min_self, allOne_nil, allOne_cons, cellAt_cells, cellAt_ro, aggAt_cells, storeAt_cells, writeAt_cells, splice_def, marked_X, nx_X, unmark_keep, unmark_full, app_len0, app_len, set_app_len0, set_app_len, List.append_assoc, List.length_append, argF, cond_true, cond_false, ↓reduceIte, reduceCtorEq, Nat.reduceEqDiff, Nat.reduceLT, Nat.reduceLeDiff, Nat.reduceAdd, Nat.reduceMul, Nat.reduceSub, Nat.reduceBEq, Nat.add_zero, Nat.zero_add, Nat.mul_one, Nat.zero_mul, Nat.one_mul, List.length_cons, List.length_nil, List.cons_append, List.nil_append, List.append_nil, List.getElem?_cons_zero, List.getElem?_cons_succ, List.set_cons_zero, List.set_cons_succ, List.drop_zero, List.drop_succ_cons, List.take_zero, List.take_succ_cons, List.take_nil, List.drop_nil, Bool.not_true, Bool.not_false, Bool.true_and, Bool.and_true, Bool.false_and, Bool.and_false, decide_true, decide_false, eq_self, List.toList_toArray, beq_dec, beq_self_eq_true, hlen, bs_71, bsl_25, newSlice_X wf, ia_2, sz_2, ia_3, sz_3, ia_27, ia_51, sz_51, ia_71, sz_71, ia_24, sz_24, ia_22, ia_25, fo_71_0, fo_71_1, fo_71_2, fo_71_3, fo_51_0, fo_51_1, fo_24_0, fo_24_1, ze_71, ze_51, pb_33, pb_36, pb_60, pb_61, pb_78, pb_34, pb_37, pb_14, pb_62, pb_63, pb_35, pb_15, pb_30, ni_25]; first | (refine dec_split (Q := Q_) (fun hp_ => ?_) (fun hp_ => ?_) <;> first | (exfalso; omega) | (refine hQ_ _ _ ?_; clear hQ_ Q_)) | (refine dec_splitn (Q := Q_) (fun hp_ => ?_) (fun hp_ => ?_) <;> first | (exfalso; omega) | (refine hQ_ _ _ ?_; clear hQ_ Q_)) | (refine hQ_ _ _ ?_; clear hQ_ Q_)))
  | (refine WC_cond fun K_ hK_ => ?_; simp (disch := omega) only [evT_tmp, upd_apply, WB_some, ↓reduceIte, reduceCtorEq, Nat.reduceEqDiff, Nat.reduceLT]; refine hK_ _ ?_; clear hK_ K_)
  | (with_reducible refine condK_tt ?_) | (with_reducible refine condK_ff ?_) | (with_reducible refine roundQ_exit ?_) | (with_reducible refine roundQ_ret ?_)))
  · (refine endQ_ret _ _ rfl (ret3 (by decide) (by decide) (by decide)) ?_; simp only [upd_apply, ↓reduceIte, reduceCtorEq, Nat.reduceEqDiff]; refine WV_flat rfl (by omega) ?_)
    have e : measR xs = (0, 0, 6) := if_pos (by omega)
    rw [e]; exact ⟨rfl, rfl⟩
  · (refine endQ_ret _ _ rfl (ret3 (by decide) (by decide) (by decide)) ?_; simp only [upd_apply, ↓reduceIte, reduceCtorEq, Nat.reduceEqDiff]; refine WV_flat rfl (by omega) ?_)
    have e : measR xs = (0, 0, 6) := if_pos (by omega)
    rw [e]; exact ⟨rfl, rfl⟩
  have e1 : ¬ (xs.length = 0 ∨ 4096 < xs.length) := by omega
  refine WC_loop (fun (k : Nat) f d h' => k ≤ xs.length ∧ f 0 = a ∧ f 5 = ii (k : Int) ∧ d = [] ∧ h' = X h [] h.clock ∧ ∀ i (hi : i < xs.length), i < k → Off xs[i]) (fun k => xs.length - k) ?_ (xs.length + 1) 0 (by omega) ?_
  · rintro k f d h' ⟨hk, h0, h5, rfl, rfl, hall⟩
    by_cases hlt : k < xs.length
    · obtain ⟨id, off, hix, hld⟩ := hs.at1 wf hlt ik_25
      rw [map_get hlt] at hld
      (repeat' (first
  | (with_reducible refine WC_seq ?_) | (refine WC_region ?_) | (with_reducible refine WC_skip ?_) | (with_reducible refine WC_label ?_) | (with_reducible refine WC_scope ?_) | (with_reducible refine WC_block ?_) | (with_reducible refine WC_ret ?_) | (with_reducible refine WC_exit ?_)
  | (with_reducible refine seqQ_norm ?_) | (with_reducible refine seqQ_ret ?_) | (with_reducible refine seqQ_exit ?_) | (with_reducible refine blkQ_norm ?_) | (with_reducible refine blkQ_ret ?_) | (with_reducible refine blkQ_here ?_) | (refine blkQ_out rfl ?_)
  | (refine WO_nil ?_)
  | (refine WD_nil ?_)
  | (refine WD_gate rfl rfl rfl rfl rfl fun K_ hK_ => ?_; simp only [upd_apply, asB_bool, asB_tup, ↓reduceIte, reduceCtorEq, Nat.reduceEqDiff, Bool.not_true, Bool.not_false]; refine hK_ _ ?_; clear hK_ K_)
  | (refine WO_gate rfl rfl rfl rfl rfl fun K_ hK_ => ?_; simp only [upd_apply, asB_bool, asB_tup, ↓reduceIte, reduceCtorEq, Nat.reduceEqDiff, Bool.not_true, Bool.not_false]; refine hK_ _ ?_; clear hK_ K_)
  | (with_reducible refine gateK_yes ?_) | (refine gateK_no (by decide) ?_) | (with_reducible refine gateK_none ?_)
  | ((try first | refine WO_op rfl rfl rfl ?_ | refine WO_op0 rfl rfl ?_ | refine WD_op rfl rfl rfl ?_ | refine WD_op0 rfl rfl ?_); (refine WV_gen fun Q_ hQ_ => ?_; simp (disch := first | omega | (simp only [List.length_cons, List.length_nil, List.length_append]; omega)) only [x_move, x_assign, x_pick, x_alloc, x_box, x_build, x_load, x_store, x_nilCheck, x_binOp, x_unOp, x_convert, x_makeFunc, x_makeMap, x_makeSlice, x_slice, x_fieldAddr, x_field, x_indexAddr, x_index, x_lookup, x_mapUpdate, x_extract, x_callB, x_callF, x_callT, x_buildSlice, WV_okI, on1_ok, of_ok, done_ok, evT_tmp, get_tmp, evT_int, evT_bool, evT_str, evT_nils, evT_nilm, evT_nilp, evT_nilf, evT_func, upd_apply, evL_nil, evL_cons', evParts_nil, evParts_cons, pickE_def, allocE_def, cells_bool, cells_int, cells_str, cells_ptr, cells_nilp, cells_sl, cells_nils, cells_map, cells_nilm, cells_fn, cells_nilf, cells_agg, asPtr_ptr, asSl_sl, asB_bool, asB_tup, asTup_tup, asI64_int, toNatE_lit, reszT_nils, reszT_none, toNatE_int, slicesE_def, optNat_none, optNat_def, Int.reduceToNat, Int.toNat_natCast, cellsOf_cells, cellsOf_ro, cellsE_cells, oneB_bool, oneB_int, oneB_str, oneB_ptr, oneB_nilp, oneB_sl, oneB_nils, oneB_map, oneB_nilm, oneB_fn, oneB_nilf, loadE_ptr, storeE_ptr, storeCs_some, storeAll_one, storeAll_two, fieldAddrE_ptr, addOff_some, indexAt_sl, indexAt_arr, extractE_tup, nilCheck_fn, nilCheck_ptr, nilCheck_yld, b_add, b_sub, b_mul, b_eql, b_neq, b_lss, b_leq, b_gtr, b_geq, unE_not, unE_neg, bi_len, bi_append, bi_copy, bi_max, bi_min, buildSliceO_def, buildO_def, ble_dec, fillE_nil, fillE_cons, layOver_def, zerosE_zero, zerosE_succ, wrap_in, min_ck, min_cc, min_cl, Nat.min_self, allOne_nil, allOne_cons, cellAt_cells, cellAt_ro, aggAt_cells, storeAt_cells, writeAt_cells, splice_def, marked_X, nx_X, unmark_keep, unmark_full, app_len0, app_len, set_app_len0, set_app_len, List.append_assoc, List.length_append, argF, cond_true, cond_false, ↓reduceIte, reduceCtorEq, Nat.reduceEqDiff, Nat.reduceLT, Nat.reduceLeDiff, Nat.reduceAdd, Nat.reduceMul, Nat.reduceSub, Nat.reduceBEq, Nat.add_zero, Nat.zero_add, Nat.mul_one, Nat.zero_mul, Nat.one_mul, List.length_cons, List.length_nil, List.cons_append, List.nil_append, List.append_nil, List.getElem?_cons_zero, List.getElem?_cons_succ, List.set_cons_zero, List.set_cons_succ, List.drop_zero, List.drop_succ_cons, List.take_zero, List.take_succ_cons, List.take_nil, List.drop_nil, Bool.not_true, Bool.not_false, Bool.true_and, Bool.and_true, Bool.false_and, Bool.and_false, decide_true, decide_false, eq_self, List.toList_toArray, beq_dec, beq_self_eq_true, h0, h5, hix, hld, hlen, bs_71, bsl_25, newSlice_X wf, ia_2, sz_2, ia_3, sz_3, ia_27, ia_51, sz_51, ia_71, sz_71, ia_24, sz_24, ia_22, ia_25, fo_71_0, fo_71_1, fo_71_2, fo_71_3, fo_51_0, fo_51_1, fo_24_0, fo_24_1, ze_71, ze_51, pb_33, pb_36, pb_60, pb_61, pb_78, pb_34, pb_37, pb_14, pb_62, pb_63, pb_35, pb_15, pb_30, ni_25]; first | (refine dec_split (Q := Q_) (fun hp_ => ?_) (fun hp_ => ?_) <;> first | (exfalso; omega) | (refine hQ_ _ _ ?_; clear hQ_ Q_)) | (refine dec_splitn (Q := Q_) (fun hp_ => ?_) (fun hp_ => ?_) <;> first | (exfalso; omega) | (refine hQ_ _ _ ?_; clear hQ_ Q_)) | (refine hQ_ _ _ ?_; clear hQ_ Q_)))
  | (refine WC_cond fun K_ hK_ => ?_; simp (disch := omega) only [evT_tmp, upd_apply, WB_some, ↓reduceIte, reduceCtorEq, Nat.reduceEqDiff, Nat.reduceLT]; refine hK_ _ ?_; clear hK_ K_)
  | (with_reducible refine condK_tt ?_) | (with_reducible refine condK_ff ?_) | (with_reducible refine roundQ_exit ?_) | (with_reducible refine roundQ_ret ?_)))
      · (refine endQ_ret _ _ rfl (ret3 (by decide) (by decide) (by decide)) ?_; simp only [upd_apply, ↓reduceIte, reduceCtorEq, Nat.reduceEqDiff]; refine WV_flat rfl (by omega) ?_)
        have e : measR xs = (0, 0, 3) := by unfold measR; rw [if_neg e1, if_neg (all_not hlt (by omega))]
        rw [e]; exact ⟨rfl, rfl⟩
      · (refine endQ_ret _ _ rfl (ret3 (by decide) (by decide) (by decide)) ?_; simp only [upd_apply, ↓reduceIte, reduceCtorEq, Nat.reduceEqDiff]; refine WV_flat rfl (by omega) ?_)
        have e : measR xs = (0, 0, 3) := by unfold measR; rw [if_neg e1, if_neg (all_not hlt (by omega))]
        rw [e]; exact ⟨rfl, rfl⟩
      · exact roundQ_again (k + 1) (by omega) ⟨hlt, by simp only [upd_apply, ↓reduceIte, reduceCtorEq, Nat.reduceEqDiff]; exact h0, by simp only [upd_apply, ↓reduceIte, reduceCtorEq, Nat.reduceEqDiff]; rfl, rfl, rfl, all_step hlt hall (by omega)⟩
    · have hkl : k = xs.length := by omega
      subst hkl
      have hx := all_done hall
      (repeat' (first
  | (with_reducible refine WC_seq ?_) | (refine WC_region ?_) | (with_reducible refine WC_skip ?_) | (with_reducible refine WC_label ?_) | (with_reducible refine WC_scope ?_) | (with_reducible refine WC_block ?_) | (with_reducible refine WC_ret ?_) | (with_reducible refine WC_exit ?_)
  | (with_reducible refine seqQ_norm ?_) | (with_reducible refine seqQ_ret ?_) | (with_reducible refine seqQ_exit ?_) | (with_reducible refine blkQ_norm ?_) | (with_reducible refine blkQ_ret ?_) | (with_reducible refine blkQ_here ?_) | (refine blkQ_out rfl ?_)
  | (refine WO_nil ?_)
  | (refine WD_nil ?_)
  | (refine WD_gate rfl rfl rfl rfl rfl fun K_ hK_ => ?_; simp only [upd_apply, asB_bool, asB_tup, ↓reduceIte, reduceCtorEq, Nat.reduceEqDiff, Bool.not_true, Bool.not_false]; refine hK_ _ ?_; clear hK_ K_)
  | (refine WO_gate rfl rfl rfl rfl rfl fun K_ hK_ => ?_; simp only [upd_apply, asB_bool, asB_tup, ↓reduceIte, reduceCtorEq, Nat.reduceEqDiff, Bool.not_true, Bool.not_false]; refine hK_ _ ?_; clear hK_ K_)
  | (with_reducible refine gateK_yes ?_) | (refine gateK_no (by decide) ?_) | (with_reducible refine gateK_none ?_)
  | ((try first | refine WO_op rfl rfl rfl ?_ | refine WO_op0 rfl rfl ?_ | refine WD_op rfl rfl rfl ?_ | refine WD_op0 rfl rfl ?_); (refine WV_gen fun Q_ hQ_ => ?_; simp (disch := first | omega | (simp only [List.length_cons, List.length_nil, List.length_append]; omega)) only [x_move, x_assign, x_pick, x_alloc, x_box, x_build, x_load, x_store, x_nilCheck, x_binOp, x_unOp, x_convert, x_makeFunc, x_makeMap, x_makeSlice, x_slice, x_fieldAddr, x_field, x_indexAddr, x_index, x_lookup, x_mapUpdate, x_extract, x_callB, x_callF, x_callT, x_buildSlice, WV_okI, on1_ok, of_ok, done_ok, evT_tmp, get_tmp, evT_int, evT_bool, evT_str, evT_nils, evT_nilm, evT_nilp, evT_nilf, evT_func, upd_apply, evL_nil, evL_cons', evParts_nil, evParts_cons, pickE_def, allocE_def, cells_bool, cells_int, cells_str, cells_ptr, cells_nilp, cells_sl, cells_nils, cells_map, cells_nilm, cells_fn, cells_nilf, cells_agg, asPtr_ptr, asSl_sl, asB_bool, asB_tup, asTup_tup, asI64_int, toNatE_lit, reszT_nils, reszT_none, toNatE_int, slicesE_def, optNat_none, optNat_def, Int.reduceToNat, Int.toNat_natCast, cellsOf_cells, cellsOf_ro, cellsE_cells, oneB_bool, oneB_int, oneB_str, oneB_ptr, oneB_nilp, oneB_sl, oneB_nils, oneB_map, oneB_nilm, oneB_fn, oneB_nilf, loadE_ptr, storeE_ptr, storeCs_some, storeAll_one, storeAll_two, fieldAddrE_ptr, addOff_some, indexAt_sl, indexAt_arr, extractE_tup, nilCheck_fn, nilCheck_ptr, nilCheck_yld, b_add, b_sub, b_mul, b_eql, b_neq, b_lss, b_leq, b_gtr, b_geq, unE_not, unE_neg, bi_len, bi_append, bi_copy, bi_max, bi_min, buildSliceO_def, buildO_def, ble_dec, fillE_nil, fillE_cons, layOver_def, zerosE_zero, zerosE_succ, wrap_in, min_ck, min_cc, min_cl, Nat.min_self, allOne_nil, allOne_cons, cellAt_cells, cellAt_ro, aggAt_cells, storeAt_cells, writeAt_cells, splice_def, marked_X, nx_X, unmark_keep, unmark_full, app_len0, app_len, set_app_len0, set_app_len, List.append_assoc, List.length_append, argF, cond_true, cond_false, ↓reduceIte, reduceCtorEq, Nat.reduceEqDiff, Nat.reduceLT, Nat.reduceLeDiff, Nat.reduceAdd, Nat.reduceMul, Nat.reduceSub, Nat.reduceBEq, Nat.add_zero, Nat.zero_add, Nat.mul_one, Nat.zero_mul, Nat.one_mul, List.length_cons, List.length_nil, List.cons_append, List.nil_append, List.append_nil, List.getElem?_cons_zero, List.getElem?_cons_succ, List.set_cons_zero, List.set_cons_succ, List.drop_zero, List.drop_succ_cons, List.take_zero, List.take_succ_cons, List.take_nil, List.drop_nil, Bool.not_true, Bool.not_false, Bool.true_and, Bool.and_true, Bool.false_and, Bool.and_false, decide_true, decide_false, eq_self, List.toList_toArray, beq_dec, beq_self_eq_true, h0, h5, hlen, bs_71, bsl_25, newSlice_X wf, ia_2, sz_2, ia_3, sz_3, ia_27, ia_51, sz_51, ia_71, sz_71, ia_24, sz_24, ia_22, ia_25, fo_71_0, fo_71_1, fo_71_2, fo_71_3, fo_51_0, fo_51_1, fo_24_0, fo_24_1, ze_71, ze_51, pb_33, pb_36, pb_60, pb_61, pb_78, pb_34, pb_37, pb_14, pb_62, pb_63, pb_35, pb_15, pb_30, ni_25]; first | (refine dec_split (Q := Q_) (fun hp_ => ?_) (fun hp_ => ?_) <;> first | (exfalso; omega) | (refine hQ_ _ _ ?_; clear hQ_ Q_)) | (refine dec_splitn (Q := Q_) (fun hp_ => ?_) (fun hp_ => ?_) <;> first | (exfalso; omega) | (refine hQ_ _ _ ?_; clear hQ_ Q_)) | (refine hQ_ _ _ ?_; clear hQ_ Q_) | (refine WV_eq (rmeasure xs a hn hx _ (wf.X (Nat.le_add_right _ _)) (hs.up wf _ _)) ?_; refine hQ_ _ _ ?_; clear hQ_ Q_)))
  | (refine WC_cond fun K_ hK_ => ?_; simp (disch := omega) only [evT_tmp, upd_apply, WB_some, ↓reduceIte, reduceCtorEq, Nat.reduceEqDiff, Nat.reduceLT]; refine hK_ _ ?_; clear hK_ K_)
  | (with_reducible refine condK_tt ?_) | (with_reducible refine condK_ff ?_) | (with_reducible refine roundQ_exit ?_) | (with_reducible refine roundQ_ret ?_)))
      (refine endQ_ret _ _ rfl (ret3 (by decide) (by decide) (by decide)) ?_; simp only [upd_apply, ↓reduceIte, reduceCtorEq, Nat.reduceEqDiff]; refine WV_flat rfl (by omega) ?_)
      have e : measR xs = ((measOf xs).1, (measOf xs).2, 0) := by unfold measR; rw [if_neg e1, if_pos hx]
      rw [e]; exact ⟨rfl, rfl⟩
  · refine ⟨Nat.zero_le _, by simp only [upd_apply, ↓reduceIte, reduceCtorEq, Nat.reduceEqDiff], by simp only [upd_apply, ↓reduceIte, reduceCtorEq, Nat.reduceEqDiff]; rfl, rfl, rfl, fun i _ hi => absurd hi (Nat.not_lt_zero i)⟩

theorem rCheckSpots (sp : List (Int × Int)) (turn : Int) (a : AV) (hn : sp.length ≤ 1000000) (h : H) (wf : Wf h) (hs : Sl h a 2 sp.length (spotCells sp)) :
    (om Tryd.prog KK).call (.fn 15 [.agg [a, ii turn]]) h = .ok (ii (spotsR sp turn)) h := by
  refine WV_to (WV_call (fn := Tryd.f15) Tryd.func15 rfl rfl rfl rfl rfl ?_)
  simp only [argF]
  have hlen : ∀ h', lenE Tryd.prog 22 a h' = some (ii (sp.length : Int)) := fun h' => hs.len un_22
  (repeat' (first
  | (with_reducible refine WC_seq ?_) | (refine WC_region ?_) | (with_reducible refine WC_skip ?_) | (with_reducible refine WC_label ?_) | (with_reducible refine WC_scope ?_) | (with_reducible refine WC_block ?_) | (with_reducible refine WC_ret ?_) | (with_reducible refine WC_exit ?_)
  | (with_reducible refine seqQ_norm ?_) | (with_reducible refine seqQ_ret ?_) | (with_reducible refine seqQ_exit ?_) | (with_reducible refine blkQ_norm ?_) | (with_reducible refine blkQ_ret ?_) | (with_reducible refine blkQ_here ?_) | (refine blkQ_out rfl ?_)
  | (refine WO_nil ?_)
  | (refine WD_nil ?_)
  | (refine WD_gate rfl rfl rfl rfl rfl fun K_ hK_ => ?_; simp only [upd_apply, asB_bool, asB_tup, ↓reduceIte, reduceCtorEq, Nat.reduceEqDiff, Bool.not_true, Bool.not_false]; refine hK_ _ ?_; clear hK_ K_)
  | (refine WO_gate rfl rfl rfl rfl rfl fun K_ hK_ => ?_; simp only [upd_apply, asB_bool, asB_tup, ↓reduceIte, reduceCtorEq, Nat.reduceEqDiff, Bool.not_true, Bool.not_false]; refine hK_ _ ?_; clear hK_ K_)
  | (with_reducible refine gateK_yes ?_) | (refine gateK_no (by decide) ?_) | (with_reducible refine gateK_none ?_)
  | ((try first | refine WO_op rfl rfl rfl ?_ | refine WO_op0 rfl rfl ?_ | refine WD_op rfl rfl rfl ?_ | refine WD_op0 rfl rfl ?_); (refine WV_gen fun Q_ hQ_ => ?_; simp (disch := first | omega | (simp only [List.length_cons, List.length_nil, List.length_append]; omega)) only [x_move, x_assign, x_pick, x_alloc, x_box, x_build, x_load, x_store, x_nilCheck, x_binOp, x_unOp, x_convert, x_makeFunc, x_makeMap, x_makeSlice, x_slice, x_fieldAddr, x_field, x_indexAddr, x_index, x_lookup, x_mapUpdate, x_extract, x_callB, x_callF, x_callT, x_buildSlice, WV_okI, on1_ok, of_ok, done_ok, evT_tmp, get_tmp, evT_int, evT_bool, evT_str, evT_nils, evT_nilm, evT_nilp, evT_nilf, evT_func, upd_apply, evL_nil, evL_cons', evParts_nil, evParts_cons, pickE_def, allocE_def, cells_bool, cells_int, cells_str, cells_ptr, cells_nilp, cells_sl, cells_nils, cells_map, cells_nilm, cells_fn, cells_nilf, cells_agg, asPtr_ptr, asSl_sl, asB_bool, asB_tup, asTup_tup, asI64_int, toNatE_lit, reszT_nils, reszT_none, toNatE_int, slicesE_def, optNat_none, optNat_def, Int.reduceToNat, Int.toNat_natCast, cellsOf_cells, cellsOf_ro, cellsE_cells, oneB_bool, oneB_int, oneB_str, oneB_ptr, oneB_nilp, oneB_sl, oneB_nils, oneB_map, oneB_nilm, oneB_fn, oneB_nilf, loadE_ptr, storeE_ptr, storeCs_some, storeAll_one, storeAll_two, fieldAddrE_ptr, addOff_some, indexAt_sl, indexAt_arr, extractE_tup, nilCheck_fn, nilCheck_ptr, nilCheck_yld, b_add, b_sub, b_mul, b_eql, b_neq, b_lss, b_leq, b_gtr, b_geq, unE_not, unE_neg, bi_len, bi_append, bi_copy, bi_max, bi_min, buildSliceO_def, buildO_def, ble_dec, fillE_nil, fillE_cons, layOver_def, zerosE_zero, zerosE_succ, wrap_in, min_ck, min_cc, min_cl, Nat.min_self, allOne_nil, allOne_cons, cellAt_cells, cellAt_ro, aggAt_cells, storeAt_cells, writeAt_cells, splice_def, marked_X, nx_X, unmark_keep, unmark_full, app_len0, app_len, set_app_len0, set_app_len, List.append_assoc, List.length_append, argF, cond_true, cond_false, ↓reduceIte, reduceCtorEq, Nat.reduceEqDiff, Nat.reduceLT, Nat.reduceLeDiff, Nat.reduceAdd, Nat.reduceMul, Nat.reduceSub, Nat.reduceBEq, Nat.add_zero, Nat.zero_add, Nat.mul_one, Nat.zero_mul, Nat.one_mul, List.length_cons, List.length_nil, List.cons_append, List.nil_append, List.append_nil, List.getElem?_cons_zero, List.getElem?_cons_succ, List.set_cons_zero, List.set_cons_succ, List.drop_zero, List.drop_succ_cons, List.take_zero, List.take_succ_cons, List.take_nil, List.drop_nil, Bool.not_true, Bool.not_false, Bool.true_and, Bool.and_true, Bool.false_and, Bool.and_false, decide_true, decide_false, eq_self, List.toList_toArray, beq_dec, beq_self_eq_true, hlen, newPtr_X wf, load1_X wf, loadAgg_X wf, store1_X wf, writeCells_X wf, bs_71, bsl_25, newSlice_X wf, ia_2, sz_2, ia_3, sz_3, ia_27, ia_51, sz_51, ia_71, sz_71, ia_24, sz_24, ia_22, ia_25, fo_71_0, fo_71_1, fo_71_2, fo_71_3, fo_51_0, fo_51_1, fo_24_0, fo_24_1, ze_71, ze_51, pb_33, pb_36, pb_60, pb_61, pb_78, pb_34, pb_37, pb_14, pb_62, pb_63, pb_35, pb_15, pb_30, ni_25]; first | (refine dec_split (Q := Q_) (fun hp_ => ?_) (fun hp_ => ?_) <;> first | (exfalso; omega) | (refine hQ_ _ _ ?_; clear hQ_ Q_)) | (refine dec_splitn (Q := Q_) (fun hp_ => ?_) (fun hp_ => ?_) <;> first | (exfalso; omega) | (refine hQ_ _ _ ?_; clear hQ_ Q_)) | (refine hQ_ _ _ ?_; clear hQ_ Q_)))
  | (refine WC_cond fun K_ hK_ => ?_; simp (disch := omega) only [evT_tmp, upd_apply, WB_some, ↓reduceIte, reduceCtorEq, Nat.reduceEqDiff, Nat.reduceLT]; refine hK_ _ ?_; clear hK_ K_)
  | (with_reducible refine condK_tt ?_) | (with_reducible refine condK_ff ?_) | (with_reducible refine roundQ_exit ?_) | (with_reducible refine roundQ_ret ?_)))
  · (refine endQ_ret _ _ rfl (ret1 (by decide)) ?_; simp only [upd_apply, ↓reduceIte, reduceCtorEq, Nat.reduceEqDiff]; refine WV_flat rfl (by omega) ?_)
    have e : spotsR sp turn = 6 := if_pos (by omega)
    rw [e]; exact ⟨rfl, rfl⟩
  · (refine endQ_ret _ _ rfl (ret1 (by decide)) ?_; simp only [upd_apply, ↓reduceIte, reduceCtorEq, Nat.reduceEqDiff]; refine WV_flat rfl (by omega) ?_)
    have e : spotsR sp turn = 6 := if_pos (by omega)
    rw [e]; exact ⟨rfl, rfl⟩
  · have e1 : ¬ (sp.length = 0 ∨ 24 < sp.length) := by omega
    (refine endQ_ret _ _ rfl (ret1 (by decide)) ?_; simp only [upd_apply, ↓reduceIte, reduceCtorEq, Nat.reduceEqDiff]; refine WV_flat rfl (by omega) ?_)
    have e : spotsR sp turn = 2 := by unfold spotsR; rw [if_neg e1, if_neg (by omega)]
    rw [e]; exact ⟨rfl, rfl⟩
  · have e1 : ¬ (sp.length = 0 ∨ 24 < sp.length) := by omega
    (refine endQ_ret _ _ rfl (ret1 (by decide)) ?_; simp only [upd_apply, ↓reduceIte, reduceCtorEq, Nat.reduceEqDiff]; refine WV_flat rfl (by omega) ?_)
    have e : spotsR sp turn = 2 := by unfold spotsR; rw [if_neg e1, if_neg (by omega)]
    rw [e]; exact ⟨rfl, rfl⟩
  have e1 : ¬ (sp.length = 0 ∨ 24 < sp.length) := by omega
  have ht : 0 ≤ turn ∧ turn ≤ 1000000 := by omega
  refine WC_loop (fun (k : Nat) f d h' => k ≤ sp.length ∧ f 1 = .ptr (nx h 0) 0 ∧ f 3 = ii (k : Int) ∧ d = [] ∧ (∃ G, h' = X h (.cells (mkCells [a, ii turn]) 24 :: G) h.clock) ∧ ∀ i (hi : i < sp.length), i < k → SpotOK sp[i]) (fun k => sp.length - k) ?_ (sp.length + 1) 0 (by omega) ?_
  · rintro k f d h' ⟨hk, h1, h3, rfl, ⟨G, rfl⟩, hall⟩
    by_cases hlt : k < sp.length
    · obtain ⟨id, off, hix, hld⟩ := hs.at wf hlt ik_22
      have hld' : ∀ l w, loadAgg id off (some 2) (X h l w) = some (.agg [ii sp[k].1, ii sp[k].2]) := fun l w => by rw [(hld l w).2, spotCells_at hlt]
      clear hld
      (repeat' (first
  | (with_reducible refine WC_seq ?_) | (refine WC_region ?_) | (with_reducible refine WC_skip ?_) | (with_reducible refine WC_label ?_) | (with_reducible refine WC_scope ?_) | (with_reducible refine WC_block ?_) | (with_reducible refine WC_ret ?_) | (with_reducible refine WC_exit ?_)
  | (with_reducible refine seqQ_norm ?_) | (with_reducible refine seqQ_ret ?_) | (with_reducible refine seqQ_exit ?_) | (with_reducible refine blkQ_norm ?_) | (with_reducible refine blkQ_ret ?_) | (with_reducible refine blkQ_here ?_) | (refine blkQ_out rfl ?_)
  | (refine WO_nil ?_)
  | (refine WD_nil ?_)
  | (refine WD_gate rfl rfl rfl rfl rfl fun K_ hK_ => ?_; simp only [upd_apply, asB_bool, asB_tup, ↓reduceIte, reduceCtorEq, Nat.reduceEqDiff, Bool.not_true, Bool.not_false]; refine hK_ _ ?_; clear hK_ K_)
  | (refine WO_gate rfl rfl rfl rfl rfl fun K_ hK_ => ?_; simp only [upd_apply, asB_bool, asB_tup, ↓reduceIte, reduceCtorEq, Nat.reduceEqDiff, Bool.not_true, Bool.not_false]; refine hK_ _ ?_; clear hK_ K_)
  | (with_reducible refine gateK_yes ?_) | (refine gateK_no (by decide) ?_) | (with_reducible refine gateK_none ?_)
  | ((try first | refine WO_op rfl rfl rfl ?_ | refine WO_op0 rfl rfl ?_ | refine WD_op rfl rfl rfl ?_ | refine WD_op0 rfl rfl ?_); (refine WV_gen fun Q_ hQ_ => ?_; simp (disch := first | omega | (simp only [List.length_cons, List.length_nil, List.length_append]; omega)) only [x_move, x_assign, x_pick, x_alloc, x_box, x_build, x_load, x_store, x_nilCheck, x_binOp, x_unOp, x_convert, x_makeFunc, x_makeMap, x_makeSlice, x_slice, x_fieldAddr, x_field, x_indexAddr, x_index, x_lookup, x_mapUpdate, x_extract, x_callB, x_callF, x_callT, x_buildSlice, WV_okI, on1_ok, of_ok, done_ok, evT_tmp, get_tmp, evT_int, evT_bool, evT_str, evT_nils, evT_nilm, evT_nilp, evT_nilf, evT_func, upd_apply, evL_nil, evL_cons', evParts_nil, evParts_cons, pickE_def, allocE_def, cells_bool, cells_int, cells_str, cells_ptr, cells_nilp, cells_sl, cells_nils, cells_map, cells_nilm, cells_fn, cells_nilf, cells_agg, asPtr_ptr, asSl_sl, asB_bool, asB_tup, asTup_tup, asI64_int, toNatE_lit, reszT_nils, reszT_none, toNatE_int, slicesE_def, optNat_none, optNat_def, Int.reduceToNat, Int.toNat_natCast, cellsOf_cells, cellsOf_ro, cellsE_cells, oneB_bool, oneB_int, oneB_str, oneB_ptr, oneB_nilp, oneB_sl, oneB_nils, oneB_map, oneB_nilm, oneB_fn, oneB_nilf, loadE_ptr, storeE_ptr, storeCs_some, storeAll_one, storeAll_two, fieldAddrE_ptr, addOff_some, indexAt_sl, indexAt_arr, extractE_tup, nilCheck_fn, nilCheck_ptr, nilCheck_yld, b_add, b_sub, b_mul, b_eql, b_neq, b_lss, b_leq, b_gtr, b_geq, unE_not, unE_neg, bi_len, bi_append, bi_copy, bi_max, bi_min, buildSliceO_def, buildO_def, ble_dec, fillE_nil, fillE_cons, layOver_def, zerosE_zero, zerosE_succ, wrap_in, min_ck, min_cc, min_cl, Nat.min_self, allOne_nil, allOne_cons, cellAt_cells, cellAt_ro, aggAt_cells, storeAt_cells, writeAt_cells, splice_def, marked_X, nx_X, unmark_keep, unmark_full, app_len0, app_len, set_app_len0, set_app_len, List.append_assoc, List.length_append, argF, cond_true, cond_false, ↓reduceIte, reduceCtorEq, Nat.reduceEqDiff, Nat.reduceLT, Nat.reduceLeDiff, Nat.reduceAdd, Nat.reduceMul, Nat.reduceSub, Nat.reduceBEq, Nat.add_zero, Nat.zero_add, Nat.mul_one, Nat.zero_mul, Nat.one_mul, List.length_cons, List.length_nil, List.cons_append, List.nil_append, List.append_nil, List.getElem?_cons_zero, List.getElem?_cons_succ, List.set_cons_zero, List.set_cons_succ, List.drop_zero, List.drop_succ_cons, List.take_zero, List.take_succ_cons, List.take_nil, List.drop_nil, Bool.not_true, Bool.not_false, Bool.true_and, Bool.and_true, Bool.false_and, Bool.and_false, decide_true, decide_false, eq_self, List.toList_toArray, beq_dec, beq_self_eq_true, h1, h3, hlen, hix, hld', newPtr_X wf, load1_X wf, loadAgg_X wf, store1_X wf, writeCells_X wf, bs_71, bsl_25, newSlice_X wf, ia_2, sz_2, ia_3, sz_3, ia_27, ia_51, sz_51, ia_71, sz_71, ia_24, sz_24, ia_22, ia_25, fo_71_0, fo_71_1, fo_71_2, fo_71_3, fo_51_0, fo_51_1, fo_24_0, fo_24_1, ze_71, ze_51, pb_33, pb_36, pb_60, pb_61, pb_78, pb_34, pb_37, pb_14, pb_62, pb_63, pb_35, pb_15, pb_30, ni_25]; first | (refine dec_split (Q := Q_) (fun hp_ => ?_) (fun hp_ => ?_) <;> first | (exfalso; omega) | (refine hQ_ _ _ ?_; clear hQ_ Q_)) | (refine dec_splitn (Q := Q_) (fun hp_ => ?_) (fun hp_ => ?_) <;> first | (exfalso; omega) | (refine hQ_ _ _ ?_; clear hQ_ Q_)) | (refine hQ_ _ _ ?_; clear hQ_ Q_)))
  | (refine WC_cond fun K_ hK_ => ?_; simp (disch := omega) only [evT_tmp, upd_apply, WB_some, ↓reduceIte, reduceCtorEq, Nat.reduceEqDiff, Nat.reduceLT]; refine hK_ _ ?_; clear hK_ K_)
  | (with_reducible refine condK_tt ?_) | (with_reducible refine condK_ff ?_) | (with_reducible refine roundQ_exit ?_) | (with_reducible refine roundQ_ret ?_)))
      iterate 4
        · (refine endQ_ret _ _ rfl (ret1 (by decide)) ?_; simp only [upd_apply, ↓reduceIte, reduceCtorEq, Nat.reduceEqDiff]; refine WV_flat rfl (by omega) ?_)
          have hno : ¬ SpotOK sp[k] := by unfold SpotOK; omega
          have e : spotsR sp turn = 2 := by unfold spotsR; rw [if_neg e1, if_neg (fun hh => all_not (p := SpotOK) hlt hno hh.1)]
          rw [e]; exact ⟨rfl, rfl⟩
      · have hok : SpotOK sp[k] := by unfold SpotOK; omega
        exact roundQ_again (k + 1) (by omega) ⟨hlt, by simp only [upd_apply, ↓reduceIte, reduceCtorEq, Nat.reduceEqDiff]; exact h1, by simp only [upd_apply, ↓reduceIte, reduceCtorEq, Nat.reduceEqDiff]; rfl, rfl, ⟨_, rfl⟩, all_step hlt hall hok⟩
    · have hkl : k = sp.length := by omega
      subst hkl
      have hx := all_done hall
      (repeat' (first
  | (with_reducible refine WC_seq ?_) | (refine WC_region ?_) | (with_reducible refine WC_skip ?_) | (with_reducible refine WC_label ?_) | (with_reducible refine WC_scope ?_) | (with_reducible refine WC_block ?_) | (with_reducible refine WC_ret ?_) | (with_reducible refine WC_exit ?_)
  | (with_reducible refine seqQ_norm ?_) | (with_reducible refine seqQ_ret ?_) | (with_reducible refine seqQ_exit ?_) | (with_reducible refine blkQ_norm ?_) | (with_reducible refine blkQ_ret ?_) | (with_reducible refine blkQ_here ?_) | (refine blkQ_out rfl ?_)
  | (refine WO_nil ?_)
  | (refine WD_nil ?_)
  | (refine WD_gate rfl rfl rfl rfl rfl fun K_ hK_ => ?_; simp only [upd_apply, asB_bool, asB_tup, ↓reduceIte, reduceCtorEq, Nat.reduceEqDiff, Bool.not_true, Bool.not_false]; refine hK_ _ ?_; clear hK_ K_)
  | (refine WO_gate rfl rfl rfl rfl rfl fun K_ hK_ => ?_; simp only [upd_apply, asB_bool, asB_tup, ↓reduceIte, reduceCtorEq, Nat.reduceEqDiff, Bool.not_true, Bool.not_false]; refine hK_ _ ?_; clear hK_ K_)
  | (with_reducible refine gateK_yes ?_) | (refine gateK_no (by decide) ?_) | (with_reducible refine gateK_none ?_)
  | ((try first | refine WO_op rfl rfl rfl ?_ | refine WO_op0 rfl rfl ?_ | refine WD_op rfl rfl rfl ?_ | refine WD_op0 rfl rfl ?_); (refine WV_gen fun Q_ hQ_ => ?_; simp (disch := first | omega | (simp only [List.length_cons, List.length_nil, List.length_append]; omega)) only [x_move, x_assign, x_pick, x_alloc, x_box, x_build, x_load, x_store, x_nilCheck, x_binOp, x_unOp, x_convert, x_makeFunc, x_makeMap, x_makeSlice, x_slice, x_fieldAddr, x_field, x_indexAddr, x_index, x_lookup, x_mapUpdate, x_extract, x_callB, x_callF, x_callT, x_buildSlice, WV_okI, on1_ok, of_ok, done_ok, evT_tmp, get_tmp, evT_int, evT_bool, evT_str, evT_nils, evT_nilm, evT_nilp, evT_nilf, evT_func, upd_apply, evL_nil, evL_cons', evParts_nil, evParts_cons, pickE_def, allocE_def, cells_bool, cells_int, cells_str, cells_ptr, cells_nilp, cells_sl, cells_nils, cells_map, cells_nilm, cells_fn, cells_nilf, cells_agg, asPtr_ptr, asSl_sl, asB_bool, asB_tup, asTup_tup, asI64_int, toNatE_lit, reszT_nils, reszT_none, toNatE_int, slicesE_def, optNat_none, optNat_def, Int.reduceToNat, Int.toNat_natCast, cellsOf_cells, cellsOf_ro, cellsE_cells, oneB_bool, oneB_int, oneB_str, oneB_ptr, oneB_nilp, oneB_sl, oneB_nils, oneB_map, oneB_nilm, oneB_fn, oneB_nilf, loadE_ptr, storeE_ptr, storeCs_some, storeAll_one, storeAll_two, fieldAddrE_ptr, addOff_some, indexAt_sl, indexAt_arr, extractE_tup, nilCheck_fn, nilCheck_ptr, nilCheck_yld, b_add, b_sub, b_mul, b_eql, b_neq, b_lss, b_leq, b_gtr, b_geq, unE_not, unE_neg, bi_len, bi_append, bi_copy, bi_max, bi_min, buildSliceO_def, buildO_def, ble_dec, fillE_nil, fillE_cons, layOver_def, zerosE_zero, zerosE_succ, wrap_in, min_ck, min_cc, min_cl, Nat.min_self, allOne_nil, allOne_cons, cellAt_cells, cellAt_ro, aggAt_cells, storeAt_cells, writeAt_cells, splice_def, marked_X, nx_X, unmark_keep, unmark_full, app_len0, app_len, set_app_len0, set_app_len, List.append_assoc, List.length_append, argF, cond_true, cond_false, ↓reduceIte, reduceCtorEq, Nat.reduceEqDiff, Nat.reduceLT, Nat.reduceLeDiff, Nat.reduceAdd, Nat.reduceMul, Nat.reduceSub, Nat.reduceBEq, Nat.add_zero, Nat.zero_add, Nat.mul_one, Nat.zero_mul, Nat.one_mul, List.length_cons, List.length_nil, List.cons_append, List.nil_append, List.append_nil, List.getElem?_cons_zero, List.getElem?_cons_succ, List.set_cons_zero, List.set_cons_succ, List.drop_zero, List.drop_succ_cons, List.take_zero, List.take_succ_cons, List.take_nil, List.drop_nil, Bool.not_true, Bool.not_false, Bool.true_and, Bool.and_true, Bool.false_and, Bool.and_false, decide_true, decide_false, eq_self, List.toList_toArray, beq_dec, beq_self_eq_true, h1, h3, hlen, newPtr_X wf, load1_X wf, loadAgg_X wf, store1_X wf, writeCells_X wf, bs_71, bsl_25, newSlice_X wf, ia_2, sz_2, ia_3, sz_3, ia_27, ia_51, sz_51, ia_71, sz_71, ia_24, sz_24, ia_22, ia_25, fo_71_0, fo_71_1, fo_71_2, fo_71_3, fo_51_0, fo_51_1, fo_24_0, fo_24_1, ze_71, ze_51, pb_33, pb_36, pb_60, pb_61, pb_78, pb_34, pb_37, pb_14, pb_62, pb_63, pb_35, pb_15, pb_30, ni_25]; first | (refine dec_split (Q := Q_) (fun hp_ => ?_) (fun hp_ => ?_) <;> first | (exfalso; omega) | (refine hQ_ _ _ ?_; clear hQ_ Q_)) | (refine dec_splitn (Q := Q_) (fun hp_ => ?_) (fun hp_ => ?_) <;> first | (exfalso; omega) | (refine hQ_ _ _ ?_; clear hQ_ Q_)) | (refine hQ_ _ _ ?_; clear hQ_ Q_)))
  | (refine WC_cond fun K_ hK_ => ?_; simp (disch := omega) only [evT_tmp, upd_apply, WB_some, ↓reduceIte, reduceCtorEq, Nat.reduceEqDiff, Nat.reduceLT]; refine hK_ _ ?_; clear hK_ K_)
  | (with_reducible refine condK_tt ?_) | (with_reducible refine condK_ff ?_) | (with_reducible refine roundQ_exit ?_) | (with_reducible refine roundQ_ret ?_)))
      (refine endQ_ret _ _ rfl (ret1 (by decide)) ?_; simp only [upd_apply, ↓reduceIte, reduceCtorEq, Nat.reduceEqDiff]; refine WV_flat rfl (by omega) ?_)
      have e : spotsR sp turn = 0 := by unfold spotsR; rw [if_neg e1, if_pos ⟨hx, ht⟩]
      rw [e]; exact ⟨rfl, rfl⟩
  · refine ⟨Nat.zero_le _, by simp only [upd_apply, ↓reduceIte, reduceCtorEq, Nat.reduceEqDiff], by simp only [upd_apply, ↓reduceIte, reduceCtorEq, Nat.reduceEqDiff]; rfl, rfl, ⟨[], rfl⟩, fun i _ hi => absurd hi (Nat.not_lt_zero i)⟩

theorem rCost (turn : Int) (a : AV) (xs : List Int) (b : AV) (ht : 0 ≤ turn ∧ turn ≤ 1000000) (hm : xs.length ≤ 1000000) (hx : ∀ x ∈ xs, Off x) (h : H) (wf : Wf h) (hs : Sl h b 1 xs.length (xs.map ii)) (ha : oneB a = true ∧ AV.cells a = [a]) :
    (om Tryd.prog KK).call (.fn 30 [.agg [a, ii turn], b]) h = .ok (ii ((measOf xs).2 + turn * (measOf xs).1)) h := by
  refine WV_to (WV_call (fn := Tryd.f30) Tryd.func30 rfl rfl rfl rfl rfl ?_)
  simp only [argF]
  have hmi := measOf_in hx
  have b1 : 0 ≤ turn * (measOf xs).1 := Int.mul_nonneg (by omega) (by omega)
  have b2 : turn * (measOf xs).1 ≤ 1000000 * 1000000 := Int.mul_le_mul (by omega) (by omega) (by omega) (by omega)
  (repeat' (first
  | (with_reducible refine WC_seq ?_) | (refine WC_region ?_) | (with_reducible refine WC_skip ?_) | (with_reducible refine WC_label ?_) | (with_reducible refine WC_scope ?_) | (with_reducible refine WC_block ?_) | (with_reducible refine WC_ret ?_) | (with_reducible refine WC_exit ?_)
  | (with_reducible refine seqQ_norm ?_) | (with_reducible refine seqQ_ret ?_) | (with_reducible refine seqQ_exit ?_) | (with_reducible refine blkQ_norm ?_) | (with_reducible refine blkQ_ret ?_) | (with_reducible refine blkQ_here ?_) | (refine blkQ_out rfl ?_)
  | (refine WO_nil ?_)
  | (refine WD_nil ?_)
  | (refine WD_gate rfl rfl rfl rfl rfl fun K_ hK_ => ?_; simp only [upd_apply, asB_bool, asB_tup, ↓reduceIte, reduceCtorEq, Nat.reduceEqDiff, Bool.not_true, Bool.not_false]; refine hK_ _ ?_; clear hK_ K_)
  | (refine WO_gate rfl rfl rfl rfl rfl fun K_ hK_ => ?_; simp only [upd_apply, asB_bool, asB_tup, ↓reduceIte, reduceCtorEq, Nat.reduceEqDiff, Bool.not_true, Bool.not_false]; refine hK_ _ ?_; clear hK_ K_)
  | (with_reducible refine gateK_yes ?_) | (refine gateK_no (by decide) ?_) | (with_reducible refine gateK_none ?_)
  | ((try first | refine WO_op rfl rfl rfl ?_ | refine WO_op0 rfl rfl ?_ | refine WD_op rfl rfl rfl ?_ | refine WD_op0 rfl rfl ?_); (refine WV_gen fun Q_ hQ_ => ?_; simp (disch := first | omega | (simp only [List.length_cons, List.length_nil, List.length_append]; omega)) only [x_move, x_assign, x_pick, x_alloc, x_box, x_build, x_load, x_store, x_nilCheck, x_binOp, x_unOp, x_convert, x_makeFunc, x_makeMap, x_makeSlice, x_slice, x_fieldAddr, x_field, x_indexAddr, x_index, x_lookup, x_mapUpdate, x_extract, x_callB, x_callF, x_callT, x_buildSlice, WV_okI, on1_ok, of_ok, done_ok, evT_tmp, get_tmp, evT_int, evT_bool, evT_str, evT_nils, evT_nilm, evT_nilp, evT_nilf, evT_func, upd_apply, evL_nil, evL_cons', evParts_nil, evParts_cons, pickE_def, allocE_def, cells_bool, cells_int, cells_str, cells_ptr, cells_nilp, cells_sl, cells_nils, cells_map, cells_nilm, cells_fn, cells_nilf, cells_agg, asPtr_ptr, asSl_sl, asB_bool, asB_tup, asTup_tup, asI64_int, toNatE_lit, reszT_nils, reszT_none, toNatE_int, slicesE_def, optNat_none, optNat_def, Int.reduceToNat, Int.toNat_natCast, cellsOf_cells, cellsOf_ro, cellsE_cells, oneB_bool, oneB_int, oneB_str, oneB_ptr, oneB_nilp, oneB_sl, oneB_nils, oneB_map, oneB_nilm, oneB_fn, oneB_nilf, loadE_ptr, storeE_ptr, storeCs_some, storeAll_one, storeAll_two, fieldAddrE_ptr, addOff_some, indexAt_sl, indexAt_arr, extractE_tup, nilCheck_fn, nilCheck_ptr, nilCheck_yld, b_add, b_sub, b_mul, b_eql, b_neq, b_lss, b_leq, b_gtr, b_geq, unE_not, unE_neg, bi_len, bi_append, bi_copy, bi_max, bi_min, buildSliceO_def, buildO_def, ble_dec, fillE_nil, fillE_cons, layOver_def, zerosE_zero, zerosE_succ, wrap_in, min_ck, min_cc, min_cl, Nat.min_self, allOne_nil, allOne_cons, cellAt_cells, cellAt_ro, aggAt_cells, storeAt_cells, writeAt_cells, splice_def, marked_X, nx_X, unmark_keep, unmark_full, app_len0, app_len, set_app_len0, set_app_len, List.append_assoc, List.length_append, argF, cond_true, cond_false, ↓reduceIte, reduceCtorEq, Nat.reduceEqDiff, Nat.reduceLT, Nat.reduceLeDiff, Nat.reduceAdd, Nat.reduceMul, Nat.reduceSub, Nat.reduceBEq, Nat.add_zero, Nat.zero_add, Nat.mul_one, Nat.zero_mul, Nat.one_mul, List.length_cons, List.length_nil, List.cons_append, List.nil_append, List.append_nil, List.getElem?_cons_zero, List.getElem?_cons_succ, List.set_cons_zero, List.set_cons_succ, List.drop_zero, List.drop_succ_cons, List.take_zero, List.take_succ_cons, List.take_nil, List.drop_nil, Bool.not_true, Bool.not_false, Bool.true_and, Bool.and_true, Bool.false_and, Bool.and_false, decide_true, decide_false, eq_self, List.toList_toArray, beq_dec, beq_self_eq_true, newPtr_X wf, load1_X wf, loadAgg_X wf, store1_X wf, writeCells_X wf, bs_71, bsl_25, newSlice_X wf, ia_2, sz_2, ia_3, sz_3, ia_27, ia_51, sz_51, ia_71, sz_71, ia_24, sz_24, ia_22, ia_25, fo_71_0, fo_71_1, fo_71_2, fo_71_3, fo_51_0, fo_51_1, fo_24_0, fo_24_1, ze_71, ze_51, pb_33, pb_36, pb_60, pb_61, pb_78, pb_34, pb_37, pb_14, pb_62, pb_63, pb_35, pb_15, pb_30, ni_25]; first | (refine dec_split (Q := Q_) (fun hp_ => ?_) (fun hp_ => ?_) <;> first | (exfalso; omega) | (refine hQ_ _ _ ?_; clear hQ_ Q_)) | (refine dec_splitn (Q := Q_) (fun hp_ => ?_) (fun hp_ => ?_) <;> first | (exfalso; omega) | (refine hQ_ _ _ ?_; clear hQ_ Q_)) | (refine hQ_ _ _ ?_; clear hQ_ Q_) | (refine WV_eq (rmeasure xs b hm hx _ (wf.X (Nat.le_add_right _ _)) (hs.up wf _ _)) ?_; refine hQ_ _ _ ?_; clear hQ_ Q_)))
  | (refine WC_cond fun K_ hK_ => ?_; simp (disch := omega) only [evT_tmp, upd_apply, WB_some, ↓reduceIte, reduceCtorEq, Nat.reduceEqDiff, Nat.reduceLT]; refine hK_ _ ?_; clear hK_ K_)
  | (with_reducible refine condK_tt ?_) | (with_reducible refine condK_ff ?_) | (with_reducible refine roundQ_exit ?_) | (with_reducible refine roundQ_ret ?_)))
  (refine endQ_ret _ _ rfl (ret1 (by decide)) ?_; simp only [upd_apply, ↓reduceIte, reduceCtorEq, Nat.reduceEqDiff]; refine WV_flat rfl (by omega) ?_)
  exact ⟨rfl, rfl⟩

theorem rCheck (sp : List (Int × Int)) (turn : Int) (a : AV) (xs : List Int) (b : AV) (hn : sp.length ≤ 1000000) (hm : xs.length ≤ 1000000) (h : H) (wf : Wf h) (hs : Sl h a 2 sp.length (spotCells sp)) (hx : Sl h b 1 xs.length (xs.map ii)) :
    (om Tryd.prog KK).call (.fn 13 [.agg [a, ii turn], b]) h = .ok (.tup [ii (checkR sp turn xs).1, ii (checkR sp turn xs).2]) h := by
  refine WV_to (WV_call (fn := Tryd.f13) Tryd.func13 rfl rfl rfl rfl rfl ?_)
  simp only [argF]
  have hlen : ∀ h', lenE Tryd.prog 22 a h' = some (ii (sp.length : Int)) := fun h' => hs.len un_22
  have hlb : ∀ h', lenE Tryd.prog 25 b h' = some (ii (xs.length : Int)) := fun h' => hx.len un_25
  have ha1 : oneB a = true ∧ AV.cells a = [a] := by obtain ⟨_, ⟨rfl, _⟩ | ⟨_, _, _, _, _, _, rfl, _⟩⟩ := hs <;> exact ⟨rfl, rfl⟩
  (repeat' (first
  | (with_reducible refine WC_seq ?_) | (refine WC_region ?_) | (with_reducible refine WC_skip ?_) | (with_reducible refine WC_label ?_) | (with_reducible refine WC_scope ?_) | (with_reducible refine WC_block ?_) | (with_reducible refine WC_ret ?_) | (with_reducible refine WC_exit ?_)
  | (with_reducible refine seqQ_norm ?_) | (with_reducible refine seqQ_ret ?_) | (with_reducible refine seqQ_exit ?_) | (with_reducible refine blkQ_norm ?_) | (with_reducible refine blkQ_ret ?_) | (with_reducible refine blkQ_here ?_) | (refine blkQ_out rfl ?_)
  | (refine WO_nil ?_)
  | (refine WD_nil ?_)
  | (refine WD_gate rfl rfl rfl rfl rfl fun K_ hK_ => ?_; simp only [upd_apply, asB_bool, asB_tup, ↓reduceIte, reduceCtorEq, Nat.reduceEqDiff, Bool.not_true, Bool.not_false]; refine hK_ _ ?_; clear hK_ K_)
  | (refine WO_gate rfl rfl rfl rfl rfl fun K_ hK_ => ?_; simp only [upd_apply, asB_bool, asB_tup, ↓reduceIte, reduceCtorEq, Nat.reduceEqDiff, Bool.not_true, Bool.not_false]; refine hK_ _ ?_; clear hK_ K_)
  | (with_reducible refine gateK_yes ?_) | (refine gateK_no (by decide) ?_) | (with_reducible refine gateK_none ?_)
  | ((try first | refine WO_op rfl rfl rfl ?_ | refine WO_op0 rfl rfl ?_ | refine WD_op rfl rfl rfl ?_ | refine WD_op0 rfl rfl ?_); (refine WV_gen fun Q_ hQ_ => ?_; simp (disch := first | omega | (simp only [List.length_cons, List.length_nil, List.length_append]; omega)) only [x_move, x_assign, x_pick, x_alloc, x_box, x_build, x_load, x_store, x_nilCheck, x_binOp, x_unOp, x_convert, x_makeFunc, x_makeMap, x_makeSlice, x_slice, x_fieldAddr, x_field, x_indexAddr, x_index, x_lookup, x_mapUpdate, x_extract, x_callB, x_callF, x_callT, x_buildSlice, WV_okI, on1_ok, of_ok, done_ok, evT_tmp, get_tmp, evT_int, evT_bool, evT_str, evT_nils, evT_nilm, evT_nilp, evT_nilf, evT_func, upd_apply, evL_nil, evL_cons', evParts_nil, evParts_cons, pickE_def, allocE_def, cells_bool, cells_int, cells_str, cells_ptr, cells_nilp, cells_sl, cells_nils, cells_map, cells_nilm, cells_fn, cells_nilf, cells_agg, asPtr_ptr, asSl_sl, asB_bool, asB_tup, asTup_tup, asI64_int, toNatE_lit, reszT_nils, reszT_none, toNatE_int, slicesE_def, optNat_none, optNat_def, Int.reduceToNat, Int.toNat_natCast, cellsOf_cells, cellsOf_ro, cellsE_cells, oneB_bool, oneB_int, oneB_str, oneB_ptr, oneB_nilp, oneB_sl, oneB_nils, oneB_map, oneB_nilm, oneB_fn, oneB_nilf, loadE_ptr, storeE_ptr, storeCs_some, storeAll_one, storeAll_two, fieldAddrE_ptr, addOff_some, indexAt_sl, indexAt_arr, extractE_tup, nilCheck_fn, nilCheck_ptr, nilCheck_yld, b_add, b_sub, b_mul, b_eql, b_neq, b_lss, b_leq, b_gtr, b_geq, unE_not, unE_neg, bi_len, bi_append, bi_copy, bi_max, bi_min, buildSliceO_def, buildO_def, ble_dec, fillE_nil, fillE_cons, layOver_def, zerosE_zero, zerosE_succ, wrap_in, min_ck, min_cc, min_cl, Nat.min_self, allOne_nil, allOne_cons, cellAt_cells, cellAt_ro, aggAt_cells, storeAt_cells, writeAt_cells, splice_def, marked_X, nx_X, unmark_keep, unmark_full, app_len0, app_len, set_app_len0, set_app_len, List.append_assoc, List.length_append, argF, cond_true, cond_false, ↓reduceIte, reduceCtorEq, Nat.reduceEqDiff, Nat.reduceLT, Nat.reduceLeDiff, Nat.reduceAdd, Nat.reduceMul, Nat.reduceSub, Nat.reduceBEq, Nat.add_zero, Nat.zero_add, Nat.mul_one, Nat.zero_mul, Nat.one_mul, List.length_cons, List.length_nil, List.cons_append, List.nil_append, List.append_nil, List.getElem?_cons_zero, List.getElem?_cons_succ, List.set_cons_zero, List.set_cons_succ, List.drop_zero, List.drop_succ_cons, List.take_zero, List.take_succ_cons, List.take_nil, List.drop_nil, Bool.not_true, Bool.not_false, Bool.true_and, Bool.and_true, Bool.false_and, Bool.and_false, decide_true, decide_false, eq_self, List.toList_toArray, beq_dec, beq_self_eq_true, hlen, hlb, newPtr_X wf, load1_X wf, loadAgg_X wf, store1_X wf, writeCells_X wf, bs_71, bsl_25, newSlice_X wf, ia_2, sz_2, ia_3, sz_3, ia_27, ia_51, sz_51, ia_71, sz_71, ia_24, sz_24, ia_22, ia_25, fo_71_0, fo_71_1, fo_71_2, fo_71_3, fo_51_0, fo_51_1, fo_24_0, fo_24_1, ze_71, ze_51, pb_33, pb_36, pb_60, pb_61, pb_78, pb_34, pb_37, pb_14, pb_62, pb_63, pb_35, pb_15, pb_30, ni_25]; first | (refine dec_split (Q := Q_) (fun hp_ => ?_) (fun hp_ => ?_) <;> first | (exfalso; omega) | (refine hQ_ _ _ ?_; clear hQ_ Q_)) | (refine dec_splitn (Q := Q_) (fun hp_ => ?_) (fun hp_ => ?_) <;> first | (exfalso; omega) | (refine hQ_ _ _ ?_; clear hQ_ Q_)) | (refine hQ_ _ _ ?_; clear hQ_ Q_) | (refine WV_eq (rCheckSpots sp turn a hn _ (wf.X (Nat.le_add_right _ _)) (hs.up wf _ _)) ?_; refine hQ_ _ _ ?_; clear hQ_ Q_)))
  | (refine WC_cond fun K_ hK_ => ?_; simp (disch := omega) only [evT_tmp, upd_apply, WB_some, ↓reduceIte, reduceCtorEq, Nat.reduceEqDiff, Nat.reduceLT]; refine hK_ _ ?_; clear hK_ K_)
  | (with_reducible refine condK_tt ?_) | (with_reducible refine condK_ff ?_) | (with_reducible refine roundQ_exit ?_) | (with_reducible refine roundQ_ret ?_)))
  · have e0 : spotsR sp turn = 0 := by assumption
    have e1' : ¬ xs.length ≠ sp.length := by omega
    have e0' : ¬ spotsR sp turn ≠ 0 := fun hh => hh e0
    obtain ⟨g1, g2, g3, g4, g5⟩ := spotsR_ok e0
    refine WC_loop (fun (k : Nat) f d h' => k ≤ sp.length ∧ f 1 = b ∧ f 2 = .ptr (nx h 0) 0 ∧ f 6 = ii (k : Int) ∧ d = [] ∧ h' = X h [.cells (mkCells [a, ii turn]) 24] h.clock ∧ ∀ i, i < k → InAt sp xs i) (fun k => sp.length - k) ?_ (sp.length + 1) 0 (by omega) ?_
    · rintro k f d h' ⟨hk, q1, q2, q6, rfl, rfl, hall⟩
      by_cases hlt : k < sp.length
      · obtain ⟨id, off, hix, hld⟩ := hs.at wf hlt ik_22
        have hl0 : ∀ l w, load1 id off (X h l w) = some (ii sp[k].1) := fun l w => by have := (hld l w).1 0 (by omega); rw [(spotCells_get hlt).1] at this; simpa using this
        have hl1 : ∀ l w, load1 id (off + 1) (X h l w) = some (ii sp[k].2) := fun l w => by have := (hld l w).1 1 (by omega); rw [(spotCells_get hlt).2] at this; exact this
        clear hld
        obtain ⟨id2, off2, hix2, hld2⟩ := hx.at1 wf (i := k) (by omega) ik_25
        rw [map_get (by omega)] at hld2
        have hsk : sp[k]? = some sp[k] := List.getElem?_eq_getElem hlt
        have hxk : xs[k]? = some xs[k] := List.getElem?_eq_getElem (by omega)
        (repeat' (first
  | (with_reducible refine WC_seq ?_) | (refine WC_region ?_) | (with_reducible refine WC_skip ?_) | (with_reducible refine WC_label ?_) | (with_reducible refine WC_scope ?_) | (with_reducible refine WC_block ?_) | (with_reducible refine WC_ret ?_) | (with_reducible refine WC_exit ?_)
  | (with_reducible refine seqQ_norm ?_) | (with_reducible refine seqQ_ret ?_) | (with_reducible refine seqQ_exit ?_) | (with_reducible refine blkQ_norm ?_) | (with_reducible refine blkQ_ret ?_) | (with_reducible refine blkQ_here ?_) | (refine blkQ_out rfl ?_)
  | (refine WO_nil ?_)
  | (refine WD_nil ?_)
  | (refine WD_gate rfl rfl rfl rfl rfl fun K_ hK_ => ?_; simp only [upd_apply, asB_bool, asB_tup, ↓reduceIte, reduceCtorEq, Nat.reduceEqDiff, Bool.not_true, Bool.not_false]; refine hK_ _ ?_; clear hK_ K_)
  | (refine WO_gate rfl rfl rfl rfl rfl fun K_ hK_ => ?_; simp only [upd_apply, asB_bool, asB_tup, ↓reduceIte, reduceCtorEq, Nat.reduceEqDiff, Bool.not_true, Bool.not_false]; refine hK_ _ ?_; clear hK_ K_)
  | (with_reducible refine gateK_yes ?_) | (refine gateK_no (by decide) ?_) | (with_reducible refine gateK_none ?_)
  | ((try first | refine WO_op rfl rfl rfl ?_ | refine WO_op0 rfl rfl ?_ | refine WD_op rfl rfl rfl ?_ | refine WD_op0 rfl rfl ?_); (refine WV_gen fun Q_ hQ_ => ?_; simp (disch := first | omega | (simp only [List.length_cons, List.length_nil, List.length_append]; omega)) only [x_move, x_assign, x_pick, x_alloc, x_box, x_build, x_load, x_store, x_nilCheck, x_binOp, x_unOp, x_convert, x_makeFunc, x_makeMap, x_makeSlice, x_slice, x_fieldAddr, x_field, x_indexAddr, x_index, x_lookup, x_mapUpdate, x_extract, x_callB, x_callF, x_callT, x_buildSlice, WV_okI, on1_ok, of_ok, done_ok, evT_tmp, get_tmp, evT_int, evT_bool, evT_str, evT_nils, evT_nilm, evT_nilp, evT_nilf, evT_func, upd_apply, evL_nil, evL_cons', evParts_nil, evParts_cons, pickE_def, allocE_def, cells_bool, cells_int, cells_str, cells_ptr, cells_nilp, cells_sl, cells_nils, cells_map, cells_nilm, cells_fn, cells_nilf, cells_agg, asPtr_ptr, asSl_sl, asB_bool, asB_tup, asTup_tup, asI64_int, toNatE_lit, reszT_nils, reszT_none, toNatE_int, slicesE_def, optNat_none, optNat_def, Int.reduceToNat, Int.toNat_natCast, cellsOf_cells, cellsOf_ro, cellsE_cells, oneB_bool, oneB_int, oneB_str, oneB_ptr, oneB_nilp, oneB_sl, oneB_nils, oneB_map, oneB_nilm, oneB_fn, oneB_nilf, loadE_ptr, storeE_ptr, storeCs_some, storeAll_one, storeAll_two, fieldAddrE_ptr, addOff_some, indexAt_sl, indexAt_arr, extractE_tup, nilCheck_fn, nilCheck_ptr, nilCheck_yld, b_add, b_sub, b_mul, b_eql, b_neq, b_lss, b_leq, b_gtr, b_geq, unE_not, unE_neg, bi_len, bi_append, bi_copy, bi_max, bi_min, buildSliceO_def, buildO_def, ble_dec, fillE_nil, fillE_cons, layOver_def, zerosE_zero, zerosE_succ, wrap_in, min_ck, min_cc, min_cl, Nat.min_self, allOne_nil, allOne_cons, cellAt_cells, cellAt_ro, aggAt_cells, storeAt_cells, writeAt_cells, splice_def, marked_X, nx_X, unmark_keep, unmark_full, app_len0, app_len, set_app_len0, set_app_len, List.append_assoc, List.length_append, argF, cond_true, cond_false, ↓reduceIte, reduceCtorEq, Nat.reduceEqDiff, Nat.reduceLT, Nat.reduceLeDiff, Nat.reduceAdd, Nat.reduceMul, Nat.reduceSub, Nat.reduceBEq, Nat.add_zero, Nat.zero_add, Nat.mul_one, Nat.zero_mul, Nat.one_mul, List.length_cons, List.length_nil, List.cons_append, List.nil_append, List.append_nil, List.getElem?_cons_zero, List.getElem?_cons_succ, List.set_cons_zero, List.set_cons_succ, List.drop_zero, List.drop_succ_cons, List.take_zero, List.take_succ_cons, List.take_nil, List.drop_nil, Bool.not_true, Bool.not_false, Bool.true_and, Bool.and_true, Bool.false_and, Bool.and_false, decide_true, decide_false, eq_self, List.toList_toArray, beq_dec, beq_self_eq_true, q1, q2, q6, hlb, newPtr_X wf, load1_X wf, loadAgg_X wf, store1_X wf, writeCells_X wf, bs_71, bsl_25, newSlice_X wf, ia_2, sz_2, ia_3, sz_3, ia_27, ia_51, sz_51, ia_71, sz_71, ia_24, sz_24, ia_22, ia_25, fo_71_0, fo_71_1, fo_71_2, fo_71_3, fo_51_0, fo_51_1, fo_24_0, fo_24_1, ze_71, ze_51, pb_33, pb_36, pb_60, pb_61, pb_78, pb_34, pb_37, pb_14, pb_62, pb_63, pb_35, pb_15, pb_30, ni_25]; first | (refine dec_split (Q := Q_) (fun hp_ => ?_) (fun hp_ => ?_) <;> first | (exfalso; omega) | (refine hQ_ _ _ ?_; clear hQ_ Q_)) | (refine dec_splitn (Q := Q_) (fun hp_ => ?_) (fun hp_ => ?_) <;> first | (exfalso; omega) | (refine hQ_ _ _ ?_; clear hQ_ Q_)) | (refine hQ_ _ _ ?_; clear hQ_ Q_)))
  | (refine WC_cond fun K_ hK_ => ?_; simp (disch := omega) only [evT_tmp, upd_apply, WB_some, ↓reduceIte, reduceCtorEq, Nat.reduceEqDiff, Nat.reduceLT]; refine hK_ _ ?_; clear hK_ K_)
  | (with_reducible refine condK_tt ?_) | (with_reducible refine condK_ff ?_) | (with_reducible refine roundQ_exit ?_) | (with_reducible refine roundQ_ret ?_)))
        refine WC_drawnB [.no, .no, .no, .no, .no, .no, .no, .no, .no, .no, .full, .full, .no, .no, .no, .no, .no, .no, .no, .no, .no, .no, .full, .full] (by kernel_rfl) ?_
        (repeat' (first
  | (with_reducible refine WC_seq ?_) | (refine WC_region ?_) | (with_reducible refine WC_skip ?_) | (with_reducible refine WC_label ?_) | (with_reducible refine WC_scope ?_) | (with_reducible refine WC_block ?_) | (with_reducible refine WC_ret ?_) | (with_reducible refine WC_exit ?_)
  | (with_reducible refine seqQ_norm ?_) | (with_reducible refine seqQ_ret ?_) | (with_reducible refine seqQ_exit ?_) | (with_reducible refine blkQ_norm ?_) | (with_reducible refine blkQ_ret ?_) | (with_reducible refine blkQ_here ?_) | (refine blkQ_out rfl ?_)
  | (refine WO_nil ?_)
  | (refine WD_nil ?_)
  | (refine WD_gate rfl rfl rfl rfl rfl fun K_ hK_ => ?_; simp only [upd_apply, asB_bool, asB_tup, ↓reduceIte, reduceCtorEq, Nat.reduceEqDiff, Bool.not_true, Bool.not_false]; refine hK_ _ ?_; clear hK_ K_)
  | (refine WO_gate rfl rfl rfl rfl rfl fun K_ hK_ => ?_; simp only [upd_apply, asB_bool, asB_tup, ↓reduceIte, reduceCtorEq, Nat.reduceEqDiff, Bool.not_true, Bool.not_false]; refine hK_ _ ?_; clear hK_ K_)
  | (with_reducible refine gateK_yes ?_) | (refine gateK_no (by decide) ?_) | (with_reducible refine gateK_none ?_)
  | ((try first | refine WO_op rfl rfl rfl ?_ | refine WO_op0 rfl rfl ?_ | refine WD_op rfl rfl rfl ?_ | refine WD_op0 rfl rfl ?_); (refine WV_gen fun Q_ hQ_ => ?_; simp (disch := first | omega | (simp only [List.length_cons, List.length_nil, List.length_append]; omega)) only [x_move, x_assign, x_pick, x_alloc, x_box, x_build, x_load, x_store, x_nilCheck, x_binOp, x_unOp, x_convert, x_makeFunc, x_makeMap, x_makeSlice, x_slice, x_fieldAddr, x_field, x_indexAddr, x_index, x_lookup, x_mapUpdate, x_extract, x_callB, x_callF, x_callT, x_buildSlice, WV_okI, on1_ok, of_ok, done_ok, evT_tmp, get_tmp, evT_int, evT_bool, evT_str, evT_nils, evT_nilm, evT_nilp, evT_nilf, evT_func, upd_apply, evL_nil, evL_cons', evParts_nil, evParts_cons, pickE_def, allocE_def, cells_bool, cells_int, cells_str, cells_ptr, cells_nilp, cells_sl, cells_nils, cells_map, cells_nilm, cells_fn, cells_nilf, cells_agg, asPtr_ptr, asSl_sl, asB_bool, asB_tup, asTup_tup, asI64_int, toNatE_lit, reszT_nils, reszT_none, toNatE_int, slicesE_def, optNat_none, optNat_def, Int.reduceToNat, Int.toNat_natCast, cellsOf_cells, cellsOf_ro, cellsE_cells, oneB_bool, oneB_int, oneB_str, oneB_ptr, oneB_nilp, oneB_sl, oneB_nils, oneB_map, oneB_nilm, oneB_fn, oneB_nilf, loadE_ptr, storeE_ptr, storeCs_some, storeAll_one, storeAll_two, fieldAddrE_ptr, addOff_some, indexAt_sl, indexAt_arr, extractE_tup, nilCheck_fn, nilCheck_ptr, nilCheck_yld, b_add, b_sub, b_mul, b_eql, b_neq, b_lss, b_leq, b_gtr, b_geq, unE_not, unE_neg, bi_len, bi_append, bi_copy, bi_max, bi_min, buildSliceO_def, buildO_def, ble_dec, fillE_nil, fillE_cons, layOver_def, zerosE_zero, zerosE_succ, wrap_in, min_ck, min_cc, min_cl, Nat.min_self, allOne_nil, allOne_cons, cellAt_cells, cellAt_ro, aggAt_cells, storeAt_cells, writeAt_cells, splice_def, marked_X, nx_X, unmark_keep, unmark_full, app_len0, app_len, set_app_len0, set_app_len, List.append_assoc, List.length_append, argF, cond_true, cond_false, ↓reduceIte, reduceCtorEq, Nat.reduceEqDiff, Nat.reduceLT, Nat.reduceLeDiff, Nat.reduceAdd, Nat.reduceMul, Nat.reduceSub, Nat.reduceBEq, Nat.add_zero, Nat.zero_add, Nat.mul_one, Nat.zero_mul, Nat.one_mul, List.length_cons, List.length_nil, List.cons_append, List.nil_append, List.append_nil, List.getElem?_cons_zero, List.getElem?_cons_succ, List.set_cons_zero, List.set_cons_succ, List.drop_zero, List.drop_succ_cons, List.take_zero, List.take_succ_cons, List.take_nil, List.drop_nil, Bool.not_true, Bool.not_false, Bool.true_and, Bool.and_true, Bool.false_and, Bool.and_false, decide_true, decide_false, eq_self, List.toList_toArray, beq_dec, beq_self_eq_true, q1, q2, q6, hlb, hix, hl0, hl1, hix2, hld2, newPtr_X wf, load1_X wf, loadAgg_X wf, store1_X wf, writeCells_X wf, bs_71, bsl_25, newSlice_X wf, ia_2, sz_2, ia_3, sz_3, ia_27, ia_51, sz_51, ia_71, sz_71, ia_24, sz_24, ia_22, ia_25, fo_71_0, fo_71_1, fo_71_2, fo_71_3, fo_51_0, fo_51_1, fo_24_0, fo_24_1, ze_71, ze_51, pb_33, pb_36, pb_60, pb_61, pb_78, pb_34, pb_37, pb_14, pb_62, pb_63, pb_35, pb_15, pb_30, ni_25]; first | (refine dec_split (Q := Q_) (fun hp_ => ?_) (fun hp_ => ?_) <;> first | (exfalso; omega) | (refine hQ_ _ _ ?_; clear hQ_ Q_)) | (refine dec_splitn (Q := Q_) (fun hp_ => ?_) (fun hp_ => ?_) <;> first | (exfalso; omega) | (refine hQ_ _ _ ?_; clear hQ_ Q_)) | (refine hQ_ _ _ ?_; clear hQ_ Q_)))
  | (refine WC_cond fun K_ hK_ => ?_; simp (disch := omega) only [evT_tmp, upd_apply, WB_some, ↓reduceIte, reduceCtorEq, Nat.reduceEqDiff, Nat.reduceLT]; refine hK_ _ ?_; clear hK_ K_)
  | (with_reducible refine condK_tt ?_) | (with_reducible refine condK_ff ?_) | (with_reducible refine roundQ_exit ?_) | (with_reducible refine roundQ_ret ?_)))
        · (refine endQ_ret _ _ rfl (ret2 (by decide) (by decide)) ?_; simp only [upd_apply, ↓reduceIte, reduceCtorEq, Nat.reduceEqDiff]; refine WV_flat rfl (by omega) ?_)
          have e : checkR sp turn xs = (0, 17) := by unfold checkR; rw [if_neg e0', if_neg e1', if_neg (fun hh => by have := hh k hlt _ _ hsk hxk; omega)]
          rw [e]; exact ⟨rfl, rfl⟩
        · (refine endQ_ret _ _ rfl (ret2 (by decide) (by decide)) ?_; simp only [upd_apply, ↓reduceIte, reduceCtorEq, Nat.reduceEqDiff]; refine WV_flat rfl (by omega) ?_)
          have e : checkR sp turn xs = (0, 17) := by unfold checkR; rw [if_neg e0', if_neg e1', if_neg (fun hh => by have := hh k hlt _ _ hsk hxk; omega)]
          rw [e]; exact ⟨rfl, rfl⟩
        · refine roundQ_again (k + 1) (by omega) ⟨hlt, by simp only [upd_apply, ↓reduceIte, reduceCtorEq, Nat.reduceEqDiff]; exact q1, by simp only [upd_apply, ↓reduceIte, reduceCtorEq, Nat.reduceEqDiff]; exact q2, by simp only [upd_apply, ↓reduceIte, reduceCtorEq, Nat.reduceEqDiff]; rfl, rfl, rfl, fun i hi => ?_⟩
          by_cases hik : i = k
          · subst hik
            intro p x hp hx'
            rw [hsk] at hp; rw [hxk] at hx'; cases hp; cases hx'
            omega
          · exact hall i (by omega)
      · have hkl : k = sp.length := by omega
        subst hkl
        have hoff : ∀ x ∈ xs, Off x := fun x hxm => by
          obtain ⟨i, hi, rfl⟩ := List.getElem_of_mem hxm
          have h1 := g3 _ (List.getElem_mem (by omega : i < sp.length))
          have h2 := hall i (by omega) _ _ (List.getElem?_eq_getElem (by omega)) (List.getElem?_eq_getElem hi)
          obtain ⟨⟨_, _⟩, ⟨_, _⟩, _⟩ := h1
          exact ⟨by omega, by omega⟩
        (repeat' (first
  | (with_reducible refine WC_seq ?_) | (refine WC_region ?_) | (with_reducible refine WC_skip ?_) | (with_reducible refine WC_label ?_) | (with_reducible refine WC_scope ?_) | (with_reducible refine WC_block ?_) | (with_reducible refine WC_ret ?_) | (with_reducible refine WC_exit ?_)
  | (with_reducible refine seqQ_norm ?_) | (with_reducible refine seqQ_ret ?_) | (with_reducible refine seqQ_exit ?_) | (with_reducible refine blkQ_norm ?_) | (with_reducible refine blkQ_ret ?_) | (with_reducible refine blkQ_here ?_) | (refine blkQ_out rfl ?_)
  | (refine WO_nil ?_)
  | (refine WD_nil ?_)
  | (refine WD_gate rfl rfl rfl rfl rfl fun K_ hK_ => ?_; simp only [upd_apply, asB_bool, asB_tup, ↓reduceIte, reduceCtorEq, Nat.reduceEqDiff, Bool.not_true, Bool.not_false]; refine hK_ _ ?_; clear hK_ K_)
  | (refine WO_gate rfl rfl rfl rfl rfl fun K_ hK_ => ?_; simp only [upd_apply, asB_bool, asB_tup, ↓reduceIte, reduceCtorEq, Nat.reduceEqDiff, Bool.not_true, Bool.not_false]; refine hK_ _ ?_; clear hK_ K_)
  | (with_reducible refine gateK_yes ?_) | (refine gateK_no (by decide) ?_) | (with_reducible refine gateK_none ?_)
  | ((try first | refine WO_op rfl rfl rfl ?_ | refine WO_op0 rfl rfl ?_ | refine WD_op rfl rfl rfl ?_ | refine WD_op0 rfl rfl ?_); (refine WV_gen fun Q_ hQ_ => ?_; simp (disch := first | omega | (simp only [List.length_cons, List.length_nil, List.length_append]; omega)) only [x_move, x_assign, x_pick, x_alloc, x_box, x_build, x_load, x_store, x_nilCheck, x_binOp, x_unOp, x_convert, x_makeFunc, x_makeMap, x_makeSlice, x_slice, x_fieldAddr, x_field, x_indexAddr, x_index, x_lookup, x_mapUpdate, x_extract, x_callB, x_callF, x_callT, x_buildSlice, WV_okI, on1_ok, of_ok, done_ok, evT_tmp, get_tmp, evT_int, evT_bool, evT_str, evT_nils, evT_nilm, evT_nilp, evT_nilf, evT_func, upd_apply, evL_nil, evL_cons', evParts_nil, evParts_cons, pickE_def, allocE_def, cells_bool, cells_int, cells_str, cells_ptr, cells_nilp, cells_sl, cells_nils, cells_map, cells_nilm, cells_fn, cells_nilf, cells_agg, asPtr_ptr, asSl_sl, asB_bool, asB_tup, asTup_tup, asI64_int, toNatE_lit, reszT_nils, reszT_none, toNatE_int, slicesE_def, optNat_none, optNat_def, Int.reduceToNat, Int.toNat_natCast, cellsOf_cells, cellsOf_ro, cellsE_cells, oneB_bool, oneB_int, oneB_str, oneB_ptr, oneB_nilp, oneB_sl, oneB_nils, oneB_map, oneB_nilm, oneB_fn, oneB_nilf, loadE_ptr, storeE_ptr, storeCs_some, storeAll_one, storeAll_two, fieldAddrE_ptr, addOff_some, indexAt_sl, indexAt_arr, extractE_tup, nilCheck_fn, nilCheck_ptr, nilCheck_yld, b_add, b_sub, b_mul, b_eql, b_neq, b_lss, b_leq, b_gtr, b_geq, unE_not, unE_neg, bi_len, bi_append, bi_copy, bi_max, bi_min, buildSliceO_def, buildO_def, ble_dec, fillE_nil, fillE_cons, layOver_def, zerosE_zero, zerosE_succ, wrap_in, min_ck, min_cc, min_cl, Nat.min_self, allOne_nil, allOne_cons, cellAt_cells, cellAt_ro, aggAt_cells, storeAt_cells, writeAt_cells, splice_def, marked_X, nx_X, unmark_keep, unmark_full, app_len0, app_len, set_app_len0, set_app_len, List.append_assoc, List.length_append, argF, cond_true, cond_false, ↓reduceIte, reduceCtorEq, Nat.reduceEqDiff, Nat.reduceLT, Nat.reduceLeDiff, Nat.reduceAdd, Nat.reduceMul, Nat.reduceSub, Nat.reduceBEq, Nat.add_zero, Nat.zero_add, Nat.mul_one, Nat.zero_mul, Nat.one_mul, List.length_cons, List.length_nil, List.cons_append, List.nil_append, List.append_nil, List.getElem?_cons_zero, List.getElem?_cons_succ, List.set_cons_zero, List.set_cons_succ, List.drop_zero, List.drop_succ_cons, List.take_zero, List.take_succ_cons, List.take_nil, List.drop_nil, Bool.not_true, Bool.not_false, Bool.true_and, Bool.and_true, Bool.false_and, Bool.and_false, decide_true, decide_false, eq_self, List.toList_toArray, beq_dec, beq_self_eq_true, q1, q2, q6, hlb, newPtr_X wf, load1_X wf, loadAgg_X wf, store1_X wf, writeCells_X wf, bs_71, bsl_25, newSlice_X wf, ia_2, sz_2, ia_3, sz_3, ia_27, ia_51, sz_51, ia_71, sz_71, ia_24, sz_24, ia_22, ia_25, fo_71_0, fo_71_1, fo_71_2, fo_71_3, fo_51_0, fo_51_1, fo_24_0, fo_24_1, ze_71, ze_51, pb_33, pb_36, pb_60, pb_61, pb_78, pb_34, pb_37, pb_14, pb_62, pb_63, pb_35, pb_15, pb_30, ni_25]; first | (refine dec_split (Q := Q_) (fun hp_ => ?_) (fun hp_ => ?_) <;> first | (exfalso; omega) | (refine hQ_ _ _ ?_; clear hQ_ Q_)) | (refine dec_splitn (Q := Q_) (fun hp_ => ?_) (fun hp_ => ?_) <;> first | (exfalso; omega) | (refine hQ_ _ _ ?_; clear hQ_ Q_)) | (refine hQ_ _ _ ?_; clear hQ_ Q_) | (refine WV_eq (rCost turn a xs b ⟨g4, g5⟩ hm hoff _ (wf.X (Nat.le_add_right _ _)) (hx.up wf _ _) ha1) ?_; refine hQ_ _ _ ?_; clear hQ_ Q_)))
  | (refine WC_cond fun K_ hK_ => ?_; simp (disch := omega) only [evT_tmp, upd_apply, WB_some, ↓reduceIte, reduceCtorEq, Nat.reduceEqDiff, Nat.reduceLT]; refine hK_ _ ?_; clear hK_ K_)
  | (with_reducible refine condK_tt ?_) | (with_reducible refine condK_ff ?_) | (with_reducible refine roundQ_exit ?_) | (with_reducible refine roundQ_ret ?_)))
        (refine endQ_ret _ _ rfl (ret2 (by decide) (by decide)) ?_; simp only [upd_apply, ↓reduceIte, reduceCtorEq, Nat.reduceEqDiff]; refine WV_flat rfl (by omega) ?_)
        have e : checkR sp turn xs = ((measOf xs).2 + turn * (measOf xs).1, 0) := by unfold checkR; rw [if_neg e0', if_neg e1', if_pos hall]
        rw [e]; exact ⟨rfl, rfl⟩
    · refine ⟨Nat.zero_le _, by simp only [upd_apply, ↓reduceIte, reduceCtorEq, Nat.reduceEqDiff], by simp only [upd_apply, ↓reduceIte, reduceCtorEq, Nat.reduceEqDiff], by simp only [upd_apply, ↓reduceIte, reduceCtorEq, Nat.reduceEqDiff]; rfl, rfl, rfl, fun i hi => absurd hi (Nat.not_lt_zero i)⟩
  · (refine endQ_ret _ _ rfl (ret2 (by decide) (by decide)) ?_; simp only [upd_apply, ↓reduceIte, reduceCtorEq, Nat.reduceEqDiff]; refine WV_flat rfl (by omega) ?_)
    have e0 : spotsR sp turn = 0 := by assumption
    have e : checkR sp turn xs = (0, 15) := by unfold checkR; rw [if_neg (fun hh => hh e0), if_pos (by omega)]
    rw [e]; exact ⟨rfl, rfl⟩
  · (refine endQ_ret _ _ rfl (ret2 (by decide) (by decide)) ?_; simp only [upd_apply, ↓reduceIte, reduceCtorEq, Nat.reduceEqDiff]; refine WV_flat rfl (by omega) ?_)
    have e : checkR sp turn xs = (0, spotsR sp turn) := if_pos ‹_›
    rw [e]; exact ⟨rfl, rfl⟩
end Go.Proofs.YtghondkiondeaaaDoor
end

/- EvLm -/
section
/-
  LAYER 1: the statement FairMeasures, walked.
-/
namespace Go.Proofs.YtghondkiondeaaaDoor
open Go.Ev
set_option maxRecDepth 100000
set_option linter.unusedSimpArgs false
set_option linter.unusedVariables false
set_option maxHeartbeats 4000000

noncomputable def farCells : List AV := [ii 1099511627776, ii 1099511627776, ii 1099511627776]
/-- The table of the package lies where it is laid. -/
def Tab (h : H) : Prop := ∃ f, Ev.getObj (posN 0) h = some (AO.ro f) ∧ f 0 = some (ii 1099511627776) ∧ f 1 = some (ii 1099511627776) ∧ f 2 = some (ii 1099511627776)
theorem Tab.up {h : H} (wf : Wf h) (t : Tab h) (l : List AO) (w : Nat) : Tab (X h l w) := let ⟨f, h1, h2⟩ := t; ⟨f, getObj_old wf h1 l w, h2⟩
theorem works (h : H) (t : Tab h) : (om Tryd.prog KK).call (.fn 9 []) h = .ok (.bool true) h := by
  refine om_con (c := cW) (r := []) ?_
  have h1 : holds1 h (posN 0) farCells = true := by
    obtain ⟨f, t1, t2, t3, t4⟩ := t
    unfold holds1
    rw [t1]
    show (match readM f 3 0 with | some vs => eqFL vs farCells | none => false) = true
    have e : readM f 3 0 = some farCells := by
      simp only [readM, Nat.succ_eq_add_one, Nat.zero_add, Nat.reduceAdd, t2, t3, t4]; rfl
    rw [e]
    rfl
  have h2 : (heldB cW.tb ((posN 0, posN 0) :: pairs cW.args []) h) = true := by
    show (holds1 h (posN 0) farCells && true) = true
    rw [h1]; rfl
  show (bif fits ((posN 0, posN 0) :: pairs cW.args []) cW.args [] && heldB cW.tb ((posN 0, posN 0) :: pairs cW.args []) h && apartB cW.tb ((posN 0, posN 0) :: pairs cW.args []) && knownB cW.tb ((posN 0, posN 0) :: pairs cW.args []) then
    (match adopt cW.news h with | some (n, h') => (match ren n cW.ret with | some v => RV.ok v h' | none => .no) | none => .no) else .no) = _
  rw [h2]
  rfl

theorem lawMeasures (sp : List (Int × Int)) (turn : Int) (a : AV) (xs : List Int) (b : AV) (hc : Capd b) (h : H) (wf : Wf h) (t : Tab h) (hs : Sl h a 2 sp.length (spotCells sp)) (hx : Sl h b 1 xs.length (xs.map ii)) :
    (om Tryd.prog KK).call (.fn 3 [.agg [a, ii turn], b]) h = .ok (.bool true) h := by
  refine WV_to (WV_call (fn := Tryd.f3) Tryd.func3 rfl rfl rfl rfl rfl ?_)
  simp only [argF]
  have hlen : ∀ h', lenE Tryd.prog 22 a h' = some (ii (sp.length : Int)) := fun h' => hs.len un_22
  have hlb : ∀ h', lenE Tryd.prog 25 b h' = some (ii (xs.length : Int)) := fun h' => hx.len un_25
  have ha1 : oneB a = true ∧ AV.cells a = [a] := by obtain ⟨_, ⟨rfl, _⟩ | ⟨_, _, _, _, _, _, rfl, _⟩⟩ := hs <;> exact ⟨rfl, rfl⟩
  have works' : ∀ l w, (om Tryd.prog KK).call (.fn 9 []) (X h l w) = .ok (.bool true) (X h l w) := fun l w => works _ (t.up wf _ _)
  by_cases g1 : 40 < sp.length
  · (repeat' (first
  | (with_reducible refine WC_seq ?_) | (refine WC_region ?_) | (with_reducible refine WC_skip ?_) | (with_reducible refine WC_label ?_) | (with_reducible refine WC_scope ?_) | (with_reducible refine WC_block ?_) | (with_reducible refine WC_ret ?_) | (with_reducible refine WC_exit ?_)
  | (with_reducible refine seqQ_norm ?_) | (with_reducible refine seqQ_ret ?_) | (with_reducible refine seqQ_exit ?_) | (with_reducible refine blkQ_norm ?_) | (with_reducible refine blkQ_ret ?_) | (with_reducible refine blkQ_here ?_) | (refine blkQ_out rfl ?_)
  | (refine WO_nil ?_)
  | (refine WD_nil ?_)
  | (refine WD_gate rfl rfl rfl rfl rfl fun K_ hK_ => ?_; simp only [upd_apply, asB_bool, asB_tup, ↓reduceIte, reduceCtorEq, Nat.reduceEqDiff, Bool.not_true, Bool.not_false]; refine hK_ _ ?_; clear hK_ K_)
  | (refine WO_gate rfl rfl rfl rfl rfl fun K_ hK_ => ?_; simp only [upd_apply, asB_bool, asB_tup, ↓reduceIte, reduceCtorEq, Nat.reduceEqDiff, Bool.not_true, Bool.not_false]; refine hK_ _ ?_; clear hK_ K_)
  | (with_reducible refine gateK_yes ?_) | (refine gateK_no (by decide) ?_) | (with_reducible refine gateK_none ?_)
  | ((try first | refine WO_op rfl rfl rfl ?_ | refine WO_op0 rfl rfl ?_ | refine WD_op rfl rfl rfl ?_ | refine WD_op0 rfl rfl ?_); (refine WV_gen fun Q_ hQ_ => ?_; simp (disch := first | omega | (simp only [List.length_cons, List.length_nil, List.length_append]; omega)) only [x_move, x_assign, x_pick, x_alloc, x_box, x_build, x_load, x_store, x_nilCheck, x_binOp, x_unOp, x_convert, x_makeFunc, x_makeMap, x_makeSlice, x_slice, x_fieldAddr, x_field, x_indexAddr, x_index, x_lookup, x_mapUpdate, x_extract, x_callB, x_callF, x_callT, x_buildSlice, WV_okI, on1_ok, of_ok, done_ok, evT_tmp, get_tmp, evT_int, evT_bool, evT_str, evT_nils, evT_nilm, evT_nilp, evT_nilf, evT_func, upd_apply, evL_nil, evL_cons', evParts_nil, evParts_cons, pickE_def, allocE_def, cells_bool, cells_int, cells_str, cells_ptr, cells_nilp, cells_sl, cells_nils, cells_map, cells_nilm, cells_fn, cells_nilf, cells_agg, asPtr_ptr, asSl_sl, asB_bool, asB_tup, asTup_tup, asI64_int, toNatE_lit, reszT_nils, reszT_none, toNatE_int, slicesE_def, optNat_none, optNat_def, Int.reduceToNat, Int.toNat_natCast, cellsOf_cells, cellsOf_ro, cellsE_cells, oneB_bool, oneB_int, oneB_str, oneB_ptr, oneB_nilp, oneB_sl, oneB_nils, oneB_map, oneB_nilm, oneB_fn, oneB_nilf, loadE_ptr, storeE_ptr, storeCs_some, storeAll_one, storeAll_two, fieldAddrE_ptr, addOff_some, indexAt_sl, indexAt_arr, extractE_tup, nilCheck_fn, nilCheck_ptr, nilCheck_yld, b_add, b_sub, b_mul, b_eql, b_neq, b_lss, b_leq, b_gtr, b_geq, unE_not, unE_neg, bi_len, bi_append, bi_copy, bi_max, bi_min, buildSliceO_def, buildO_def, ble_dec, fillE_nil, fillE_cons, layOver_def, zerosE_zero, zerosE_succ, wrap_in, min_ck, min_cc, min_cl, Nat.min_self, allOne_nil, allOne_cons, cellAt_cells, cellAt_ro, aggAt_cells, storeAt_cells, writeAt_cells, splice_def, marked_X, nx_X, unmark_keep, unmark_full, app_len0, app_len, set_app_len0, set_app_len, List.append_assoc, List.length_append, argF, cond_true, cond_false, ↓reduceIte, reduceCtorEq, Nat.reduceEqDiff, Nat.reduceLT, Nat.reduceLeDiff, Nat.reduceAdd, Nat.reduceMul, Nat.reduceSub, Nat.reduceBEq, Nat.add_zero, Nat.zero_add, Nat.mul_one, Nat.zero_mul, Nat.one_mul, List.length_cons, List.length_nil, List.cons_append, List.nil_append, List.append_nil, List.getElem?_cons_zero, List.getElem?_cons_succ, List.set_cons_zero, List.set_cons_succ, List.drop_zero, List.drop_succ_cons, List.take_zero, List.take_succ_cons, List.take_nil, List.drop_nil, Bool.not_true, Bool.not_false, Bool.true_and, Bool.and_true, Bool.false_and, Bool.and_false, decide_true, decide_false, eq_self, List.toList_toArray, beq_dec, beq_self_eq_true, hlen, hlb, newPtr_X wf, load1_X wf, loadAgg_X wf, store1_X wf, writeCells_X wf, bs_71, bsl_25, newSlice_X wf, ia_2, sz_2, ia_3, sz_3, ia_27, ia_51, sz_51, ia_71, sz_71, ia_24, sz_24, ia_22, ia_25, fo_71_0, fo_71_1, fo_71_2, fo_71_3, fo_51_0, fo_51_1, fo_24_0, fo_24_1, ze_71, ze_51, pb_33, pb_36, pb_60, pb_61, pb_78, pb_34, pb_37, pb_14, pb_62, pb_63, pb_35, pb_15, pb_30, pb_9, pb_10, pb_11, pb_12, pb_13, ni_25]; first | (refine dec_split (Q := Q_) (fun hp_ => ?_) (fun hp_ => ?_) <;> first | (exfalso; omega) | (refine hQ_ _ _ ?_; clear hQ_ Q_)) | (refine dec_splitn (Q := Q_) (fun hp_ => ?_) (fun hp_ => ?_) <;> first | (exfalso; omega) | (refine hQ_ _ _ ?_; clear hQ_ Q_)) | (refine hQ_ _ _ ?_; clear hQ_ Q_) | (refine WV_eq (works' _ _) ?_; refine hQ_ _ _ ?_; clear hQ_ Q_)))
  | (refine WC_cond fun K_ hK_ => ?_; simp (disch := omega) only [evT_tmp, upd_apply, WB_some, ↓reduceIte, reduceCtorEq, Nat.reduceEqDiff, Nat.reduceLT]; refine hK_ _ ?_; clear hK_ K_)
  | (with_reducible refine condK_tt ?_) | (with_reducible refine condK_ff ?_) | (with_reducible refine roundQ_exit ?_) | (with_reducible refine roundQ_ret ?_)))
    (refine endQ_ret _ _ rfl (ret1 (by decide)) ?_; simp only [upd_apply, ↓reduceIte, reduceCtorEq, Nat.reduceEqDiff]; refine WV_flat rfl (by omega) ?_)
    exact ⟨rfl, rfl⟩
  by_cases g2 : 4110 < xs.length
  · (repeat' (first
  | (with_reducible refine WC_seq ?_) | (refine WC_region ?_) | (with_reducible refine WC_skip ?_) | (with_reducible refine WC_label ?_) | (with_reducible refine WC_scope ?_) | (with_reducible refine WC_block ?_) | (with_reducible refine WC_ret ?_) | (with_reducible refine WC_exit ?_)
  | (with_reducible refine seqQ_norm ?_) | (with_reducible refine seqQ_ret ?_) | (with_reducible refine seqQ_exit ?_) | (with_reducible refine blkQ_norm ?_) | (with_reducible refine blkQ_ret ?_) | (with_reducible refine blkQ_here ?_) | (refine blkQ_out rfl ?_)
  | (refine WO_nil ?_)
  | (refine WD_nil ?_)
  | (refine WD_gate rfl rfl rfl rfl rfl fun K_ hK_ => ?_; simp only [upd_apply, asB_bool, asB_tup, ↓reduceIte, reduceCtorEq, Nat.reduceEqDiff, Bool.not_true, Bool.not_false]; refine hK_ _ ?_; clear hK_ K_)
  | (refine WO_gate rfl rfl rfl rfl rfl fun K_ hK_ => ?_; simp only [upd_apply, asB_bool, asB_tup, ↓reduceIte, reduceCtorEq, Nat.reduceEqDiff, Bool.not_true, Bool.not_false]; refine hK_ _ ?_; clear hK_ K_)
  | (with_reducible refine gateK_yes ?_) | (refine gateK_no (by decide) ?_) | (with_reducible refine gateK_none ?_)
  | ((try first | refine WO_op rfl rfl rfl ?_ | refine WO_op0 rfl rfl ?_ | refine WD_op rfl rfl rfl ?_ | refine WD_op0 rfl rfl ?_); (refine WV_gen fun Q_ hQ_ => ?_; simp (disch := first | omega | (simp only [List.length_cons, List.length_nil, List.length_append]; omega)) only [x_move, x_assign, x_pick, x_alloc, x_box, x_build, x_load, x_store, x_nilCheck, x_binOp, x_unOp, x_convert, x_makeFunc, x_makeMap, x_makeSlice, x_slice, x_fieldAddr, x_field, x_indexAddr, x_index, x_lookup, x_mapUpdate, x_extract, x_callB, x_callF, x_callT, x_buildSlice, WV_okI, on1_ok, of_ok, done_ok, evT_tmp, get_tmp, evT_int, evT_bool, evT_str, evT_nils, evT_nilm, evT_nilp, evT_nilf, evT_func, upd_apply, evL_nil, evL_cons', evParts_nil, evParts_cons, pickE_def, allocE_def, cells_bool, cells_int, cells_str, cells_ptr, cells_nilp, cells_sl, cells_nils, cells_map, cells_nilm, cells_fn, cells_nilf, cells_agg, asPtr_ptr, asSl_sl, asB_bool, asB_tup, asTup_tup, asI64_int, toNatE_lit, reszT_nils, reszT_none, toNatE_int, slicesE_def, optNat_none, optNat_def, Int.reduceToNat, Int.toNat_natCast, cellsOf_cells, cellsOf_ro, cellsE_cells, oneB_bool, oneB_int, oneB_str, oneB_ptr, oneB_nilp, oneB_sl, oneB_nils, oneB_map, oneB_nilm, oneB_fn, oneB_nilf, loadE_ptr, storeE_ptr, storeCs_some, storeAll_one, storeAll_two, fieldAddrE_ptr, addOff_some, indexAt_sl, indexAt_arr, extractE_tup, nilCheck_fn, nilCheck_ptr, nilCheck_yld, b_add, b_sub, b_mul, b_eql, b_neq, b_lss, b_leq, b_gtr, b_geq, unE_not, unE_neg, bi_len, bi_append, bi_copy, bi_max, bi_min, buildSliceO_def, buildO_def, ble_dec, fillE_nil, fillE_cons, layOver_def, zerosE_zero, zerosE_succ, wrap_in, min_ck, min_cc, min_cl, Nat.min_self, allOne_nil, allOne_cons, cellAt_cells, cellAt_ro, aggAt_cells, storeAt_cells, writeAt_cells, splice_def, marked_X, nx_X, unmark_keep, unmark_full, app_len0, app_len, set_app_len0, set_app_len, List.append_assoc, List.length_append, argF, cond_true, cond_false, ↓reduceIte, reduceCtorEq, Nat.reduceEqDiff, Nat.reduceLT, Nat.reduceLeDiff, Nat.reduceAdd, Nat.reduceMul, Nat.reduceSub, Nat.reduceBEq, Nat.add_zero, Nat.zero_add, Nat.mul_one, Nat.zero_mul, Nat.one_mul, List.length_cons, List.length_nil, List.cons_append, List.nil_append, List.append_nil, List.getElem?_cons_zero, List.getElem?_cons_succ, List.set_cons_zero, List.set_cons_succ, List.drop_zero, List.drop_succ_cons, List.take_zero, List.take_succ_cons, List.take_nil, List.drop_nil, Bool.not_true, Bool.not_false, Bool.true_and, Bool.and_true, Bool.false_and, Bool.and_false, decide_true, decide_false, eq_self, List.toList_toArray, beq_dec, beq_self_eq_true, hlen, hlb, newPtr_X wf, load1_X wf, loadAgg_X wf, store1_X wf, writeCells_X wf, bs_71, bsl_25, newSlice_X wf, ia_2, sz_2, ia_3, sz_3, ia_27, ia_51, sz_51, ia_71, sz_71, ia_24, sz_24, ia_22, ia_25, fo_71_0, fo_71_1, fo_71_2, fo_71_3, fo_51_0, fo_51_1, fo_24_0, fo_24_1, ze_71, ze_51, pb_33, pb_36, pb_60, pb_61, pb_78, pb_34, pb_37, pb_14, pb_62, pb_63, pb_35, pb_15, pb_30, pb_9, pb_10, pb_11, pb_12, pb_13, ni_25]; first | (refine dec_split (Q := Q_) (fun hp_ => ?_) (fun hp_ => ?_) <;> first | (exfalso; omega) | (refine hQ_ _ _ ?_; clear hQ_ Q_)) | (refine dec_splitn (Q := Q_) (fun hp_ => ?_) (fun hp_ => ?_) <;> first | (exfalso; omega) | (refine hQ_ _ _ ?_; clear hQ_ Q_)) | (refine hQ_ _ _ ?_; clear hQ_ Q_) | (refine WV_eq (works' _ _) ?_; refine hQ_ _ _ ?_; clear hQ_ Q_)))
  | (refine WC_cond fun K_ hK_ => ?_; simp (disch := omega) only [evT_tmp, upd_apply, WB_some, ↓reduceIte, reduceCtorEq, Nat.reduceEqDiff, Nat.reduceLT]; refine hK_ _ ?_; clear hK_ K_)
  | (with_reducible refine condK_tt ?_) | (with_reducible refine condK_ff ?_) | (with_reducible refine roundQ_exit ?_) | (with_reducible refine roundQ_ret ?_)))
    all_goals (refine endQ_ret _ _ rfl (ret1 (by decide)) ?_; simp only [upd_apply, ↓reduceIte, reduceCtorEq, Nat.reduceEqDiff]; refine WV_flat rfl (by omega) ?_)
    all_goals exact ⟨rfl, rfl⟩
  by_cases g3 : 60 < xs.length ∧ xs.length ≤ 4096
  · (repeat' (first
  | (with_reducible refine WC_seq ?_) | (refine WC_region ?_) | (with_reducible refine WC_skip ?_) | (with_reducible refine WC_label ?_) | (with_reducible refine WC_scope ?_) | (with_reducible refine WC_block ?_) | (with_reducible refine WC_ret ?_) | (with_reducible refine WC_exit ?_)
  | (with_reducible refine seqQ_norm ?_) | (with_reducible refine seqQ_ret ?_) | (with_reducible refine seqQ_exit ?_) | (with_reducible refine blkQ_norm ?_) | (with_reducible refine blkQ_ret ?_) | (with_reducible refine blkQ_here ?_) | (refine blkQ_out rfl ?_)
  | (refine WO_nil ?_)
  | (refine WD_nil ?_)
  | (refine WD_gate rfl rfl rfl rfl rfl fun K_ hK_ => ?_; simp only [upd_apply, asB_bool, asB_tup, ↓reduceIte, reduceCtorEq, Nat.reduceEqDiff, Bool.not_true, Bool.not_false]; refine hK_ _ ?_; clear hK_ K_)
  | (refine WO_gate rfl rfl rfl rfl rfl fun K_ hK_ => ?_; simp only [upd_apply, asB_bool, asB_tup, ↓reduceIte, reduceCtorEq, Nat.reduceEqDiff, Bool.not_true, Bool.not_false]; refine hK_ _ ?_; clear hK_ K_)
  | (with_reducible refine gateK_yes ?_) | (refine gateK_no (by decide) ?_) | (with_reducible refine gateK_none ?_)
  | ((try first | refine WO_op rfl rfl rfl ?_ | refine WO_op0 rfl rfl ?_ | refine WD_op rfl rfl rfl ?_ | refine WD_op0 rfl rfl ?_); (refine WV_gen fun Q_ hQ_ => ?_; simp (disch := first | omega | (simp only [List.length_cons, List.length_nil, List.length_append]; omega)) only [x_move, x_assign, x_pick, x_alloc, x_box, x_build, x_load, x_store, x_nilCheck, x_binOp, x_unOp, x_convert, x_makeFunc, x_makeMap, x_makeSlice, x_slice, x_fieldAddr, x_field, x_indexAddr, x_index, x_lookup, x_mapUpdate, x_extract, x_callB, x_callF, x_callT, x_buildSlice, WV_okI, on1_ok, of_ok, done_ok, evT_tmp, get_tmp, evT_int, evT_bool, evT_str, evT_nils, evT_nilm, evT_nilp, evT_nilf, evT_func, upd_apply, evL_nil, evL_cons', evParts_nil, evParts_cons, pickE_def, allocE_def, cells_bool, cells_int, cells_str, cells_ptr, cells_nilp, cells_sl, cells_nils, cells_map, cells_nilm, cells_fn, cells_nilf, cells_agg, asPtr_ptr, asSl_sl, asB_bool, asB_tup, asTup_tup, asI64_int, toNatE_lit, reszT_nils, reszT_none, toNatE_int, slicesE_def, optNat_none, optNat_def, Int.reduceToNat, Int.toNat_natCast, cellsOf_cells, cellsOf_ro, cellsE_cells, oneB_bool, oneB_int, oneB_str, oneB_ptr, oneB_nilp, oneB_sl, oneB_nils, oneB_map, oneB_nilm, oneB_fn, oneB_nilf, loadE_ptr, storeE_ptr, storeCs_some, storeAll_one, storeAll_two, fieldAddrE_ptr, addOff_some, indexAt_sl, indexAt_arr, extractE_tup, nilCheck_fn, nilCheck_ptr, nilCheck_yld, b_add, b_sub, b_mul, b_eql, b_neq, b_lss, b_leq, b_gtr, b_geq, unE_not, unE_neg, bi_len, bi_append, bi_copy, bi_max, bi_min, buildSliceO_def, buildO_def, ble_dec, fillE_nil, fillE_cons, layOver_def, zerosE_zero, zerosE_succ, wrap_in, min_ck, min_cc, min_cl, Nat.min_self, allOne_nil, allOne_cons, cellAt_cells, cellAt_ro, aggAt_cells, storeAt_cells, writeAt_cells, splice_def, marked_X, nx_X, unmark_keep, unmark_full, app_len0, app_len, set_app_len0, set_app_len, List.append_assoc, List.length_append, argF, cond_true, cond_false, ↓reduceIte, reduceCtorEq, Nat.reduceEqDiff, Nat.reduceLT, Nat.reduceLeDiff, Nat.reduceAdd, Nat.reduceMul, Nat.reduceSub, Nat.reduceBEq, Nat.add_zero, Nat.zero_add, Nat.mul_one, Nat.zero_mul, Nat.one_mul, List.length_cons, List.length_nil, List.cons_append, List.nil_append, List.append_nil, List.getElem?_cons_zero, List.getElem?_cons_succ, List.set_cons_zero, List.set_cons_succ, List.drop_zero, List.drop_succ_cons, List.take_zero, List.take_succ_cons, List.take_nil, List.drop_nil, Bool.not_true, Bool.not_false, Bool.true_and, Bool.and_true, Bool.false_and, Bool.and_false, decide_true, decide_false, eq_self, List.toList_toArray, beq_dec, beq_self_eq_true, hlen, hlb, newPtr_X wf, load1_X wf, loadAgg_X wf, store1_X wf, writeCells_X wf, bs_71, bsl_25, newSlice_X wf, ia_2, sz_2, ia_3, sz_3, ia_27, ia_51, sz_51, ia_71, sz_71, ia_24, sz_24, ia_22, ia_25, fo_71_0, fo_71_1, fo_71_2, fo_71_3, fo_51_0, fo_51_1, fo_24_0, fo_24_1, ze_71, ze_51, pb_33, pb_36, pb_60, pb_61, pb_78, pb_34, pb_37, pb_14, pb_62, pb_63, pb_35, pb_15, pb_30, pb_9, pb_10, pb_11, pb_12, pb_13, ni_25]; first | (refine dec_split (Q := Q_) (fun hp_ => ?_) (fun hp_ => ?_) <;> first | (exfalso; omega) | (refine hQ_ _ _ ?_; clear hQ_ Q_)) | (refine dec_splitn (Q := Q_) (fun hp_ => ?_) (fun hp_ => ?_) <;> first | (exfalso; omega) | (refine hQ_ _ _ ?_; clear hQ_ Q_)) | (refine hQ_ _ _ ?_; clear hQ_ Q_) | (refine WV_eq (works' _ _) ?_; refine hQ_ _ _ ?_; clear hQ_ Q_)))
  | (refine WC_cond fun K_ hK_ => ?_; simp (disch := omega) only [evT_tmp, upd_apply, WB_some, ↓reduceIte, reduceCtorEq, Nat.reduceEqDiff, Nat.reduceLT]; refine hK_ _ ?_; clear hK_ K_)
  | (with_reducible refine condK_tt ?_) | (with_reducible refine condK_ff ?_) | (with_reducible refine roundQ_exit ?_) | (with_reducible refine roundQ_ret ?_)))
    (refine endQ_ret _ _ rfl (ret1 (by decide)) ?_; simp only [upd_apply, ↓reduceIte, reduceCtorEq, Nat.reduceEqDiff]; refine WV_flat rfl (by omega) ?_)
    exact ⟨rfl, rfl⟩
  by_cases g4 : xs.length ≤ 60
  · have hsn : sp.length ≤ 1000000 := by omega
    have hxn : xs.length ≤ 1000000 := by omega
    have hCS : ∀ l w, w ≤ h.clock + l.length → (om Tryd.prog KK).call (.fn 14 [.agg [a, ii turn]]) (X h l w) = .ok (ii (spotsR sp turn)) (X h l w) := fun l w hw => CheckSpots sp turn a hsn _ (wf.X hw) (hs.up wf _ _)
    have hRS : ∀ l w, w ≤ h.clock + l.length → (om Tryd.prog KK).call (.fn 15 [.agg [a, ii turn]]) (X h l w) = .ok (ii (spotsR sp turn)) (X h l w) := fun l w hw => rCheckSpots sp turn a hsn _ (wf.X hw) (hs.up wf _ _)
    (repeat' (first
  | (with_reducible refine WC_seq ?_) | (refine WC_region ?_) | (with_reducible refine WC_skip ?_) | (with_reducible refine WC_label ?_) | (with_reducible refine WC_scope ?_) | (with_reducible refine WC_block ?_) | (with_reducible refine WC_ret ?_) | (with_reducible refine WC_exit ?_)
  | (with_reducible refine seqQ_norm ?_) | (with_reducible refine seqQ_ret ?_) | (with_reducible refine seqQ_exit ?_) | (with_reducible refine blkQ_norm ?_) | (with_reducible refine blkQ_ret ?_) | (with_reducible refine blkQ_here ?_) | (refine blkQ_out rfl ?_)
  | (refine WO_nil ?_)
  | (refine WD_nil ?_)
  | (refine WD_gate rfl rfl rfl rfl rfl fun K_ hK_ => ?_; simp only [upd_apply, asB_bool, asB_tup, ↓reduceIte, reduceCtorEq, Nat.reduceEqDiff, Bool.not_true, Bool.not_false]; refine hK_ _ ?_; clear hK_ K_)
  | (refine WO_gate rfl rfl rfl rfl rfl fun K_ hK_ => ?_; simp only [upd_apply, asB_bool, asB_tup, ↓reduceIte, reduceCtorEq, Nat.reduceEqDiff, Bool.not_true, Bool.not_false]; refine hK_ _ ?_; clear hK_ K_)
  | (with_reducible refine gateK_yes ?_) | (refine gateK_no (by decide) ?_) | (with_reducible refine gateK_none ?_)
  | ((try first | refine WO_op rfl rfl rfl ?_ | refine WO_op0 rfl rfl ?_ | refine WD_op rfl rfl rfl ?_ | refine WD_op0 rfl rfl ?_); (refine WV_gen fun Q_ hQ_ => ?_; simp (disch := first | omega | (simp only [List.length_cons, List.length_nil, List.length_append]; omega)) only [x_move, x_assign, x_pick, x_alloc, x_box, x_build, x_load, x_store, x_nilCheck, x_binOp, x_unOp, x_convert, x_makeFunc, x_makeMap, x_makeSlice, x_slice, x_fieldAddr, x_field, x_indexAddr, x_index, x_lookup, x_mapUpdate, x_extract, x_callB, x_callF, x_callT, x_buildSlice, WV_okI, on1_ok, of_ok, done_ok, evT_tmp, get_tmp, evT_int, evT_bool, evT_str, evT_nils, evT_nilm, evT_nilp, evT_nilf, evT_func, upd_apply, evL_nil, evL_cons', evParts_nil, evParts_cons, pickE_def, allocE_def, cells_bool, cells_int, cells_str, cells_ptr, cells_nilp, cells_sl, cells_nils, cells_map, cells_nilm, cells_fn, cells_nilf, cells_agg, asPtr_ptr, asSl_sl, asB_bool, asB_tup, asTup_tup, asI64_int, toNatE_lit, reszT_nils, reszT_none, toNatE_int, slicesE_def, optNat_none, optNat_def, Int.reduceToNat, Int.toNat_natCast, cellsOf_cells, cellsOf_ro, cellsE_cells, oneB_bool, oneB_int, oneB_str, oneB_ptr, oneB_nilp, oneB_sl, oneB_nils, oneB_map, oneB_nilm, oneB_fn, oneB_nilf, loadE_ptr, storeE_ptr, storeCs_some, storeAll_one, storeAll_two, fieldAddrE_ptr, addOff_some, indexAt_sl, indexAt_arr, extractE_tup, nilCheck_fn, nilCheck_ptr, nilCheck_yld, b_add, b_sub, b_mul, b_eql, b_neq, b_lss, b_leq, b_gtr, b_geq, unE_not, unE_neg, bi_len, bi_append, bi_copy, bi_max, bi_min, buildSliceO_def, buildO_def, ble_dec, fillE_nil, fillE_cons, layOver_def, zerosE_zero, zerosE_succ, wrap_in, min_ck, min_cc, min_cl, Nat.min_self, allOne_nil, allOne_cons, cellAt_cells, cellAt_ro, aggAt_cells, storeAt_cells, writeAt_cells, splice_def, marked_X, nx_X, unmark_keep, unmark_full, app_len0, app_len, set_app_len0, set_app_len, List.append_assoc, List.length_append, argF, cond_true, cond_false, ↓reduceIte, reduceCtorEq, Nat.reduceEqDiff, Nat.reduceLT, Nat.reduceLeDiff, Nat.reduceAdd, Nat.reduceMul, Nat.reduceSub, Nat.reduceBEq, Nat.add_zero, Nat.zero_add, Nat.mul_one, Nat.zero_mul, Nat.one_mul, List.length_cons, List.length_nil, List.cons_append, List.nil_append, List.append_nil, List.getElem?_cons_zero, List.getElem?_cons_succ, List.set_cons_zero, List.set_cons_succ, List.drop_zero, List.drop_succ_cons, List.take_zero, List.take_succ_cons, List.take_nil, List.drop_nil, Bool.not_true, Bool.not_false, Bool.true_and, Bool.and_true, Bool.false_and, Bool.and_false, decide_true, decide_false, eq_self, List.toList_toArray, beq_dec, beq_self_eq_true, hlen, hlb, newPtr_X wf, load1_X wf, loadAgg_X wf, store1_X wf, writeCells_X wf, bs_71, bsl_25, newSlice_X wf, ia_2, sz_2, ia_3, sz_3, ia_27, ia_51, sz_51, ia_71, sz_71, ia_24, sz_24, ia_22, ia_25, fo_71_0, fo_71_1, fo_71_2, fo_71_3, fo_51_0, fo_51_1, fo_24_0, fo_24_1, ze_71, ze_51, pb_33, pb_36, pb_60, pb_61, pb_78, pb_34, pb_37, pb_14, pb_62, pb_63, pb_35, pb_15, pb_30, pb_9, pb_10, pb_11, pb_12, pb_13, ni_25]; first | (refine dec_split (Q := Q_) (fun hp_ => ?_) (fun hp_ => ?_) <;> first | (exfalso; omega) | (refine hQ_ _ _ ?_; clear hQ_ Q_)) | (refine dec_splitn (Q := Q_) (fun hp_ => ?_) (fun hp_ => ?_) <;> first | (exfalso; omega) | (refine hQ_ _ _ ?_; clear hQ_ Q_)) | (refine hQ_ _ _ ?_; clear hQ_ Q_) | (refine WV_eq (Measure xs b hxn hc _ (wf.X (Nat.le_add_right _ _)) (hx.up wf _ _)) ?_; refine hQ_ _ _ ?_; clear hQ_ Q_) | (refine WV_eq (rMeasure xs b hxn _ (wf.X (Nat.le_add_right _ _)) (hx.up wf _ _)) ?_; refine hQ_ _ _ ?_; clear hQ_ Q_) | (refine WV_eq (Check sp turn a xs b hsn hxn hc _ (wf.X (Nat.le_add_right _ _)) (hs.up wf _ _) (hx.up wf _ _)) ?_; refine hQ_ _ _ ?_; clear hQ_ Q_) | (refine WV_eq (rCheck sp turn a xs b hsn hxn _ (wf.X (Nat.le_add_right _ _)) (hs.up wf _ _) (hx.up wf _ _)) ?_; refine hQ_ _ _ ?_; clear hQ_ Q_)))
  | (refine WC_cond fun K_ hK_ => ?_; simp (disch := omega) only [evT_tmp, upd_apply, WB_some, ↓reduceIte, reduceCtorEq, Nat.reduceEqDiff, Nat.reduceLT]; refine hK_ _ ?_; clear hK_ K_)
  | (with_reducible refine condK_tt ?_) | (with_reducible refine condK_ff ?_) | (with_reducible refine roundQ_exit ?_) | (with_reducible refine roundQ_ret ?_)))
    refine WC_drawnB [.no, .no, .no, .full, .full, .full, .full, .full, .full, .full, .full, .full, .full, .full, .full, .full, .full, .full, .full, .full, .full, .full, .full, .full, .full, .full, .full, .full, .full, .full, .full, .full, .full, .full] (by kernel_rfl) ?_
    (repeat' (first
  | (with_reducible refine WC_seq ?_) | (refine WC_region ?_) | (with_reducible refine WC_skip ?_) | (with_reducible refine WC_label ?_) | (with_reducible refine WC_scope ?_) | (with_reducible refine WC_block ?_) | (with_reducible refine WC_ret ?_) | (with_reducible refine WC_exit ?_)
  | (with_reducible refine seqQ_norm ?_) | (with_reducible refine seqQ_ret ?_) | (with_reducible refine seqQ_exit ?_) | (with_reducible refine blkQ_norm ?_) | (with_reducible refine blkQ_ret ?_) | (with_reducible refine blkQ_here ?_) | (refine blkQ_out rfl ?_)
  | (refine WO_nil ?_)
  | (refine WD_nil ?_)
  | (refine WD_gate rfl rfl rfl rfl rfl fun K_ hK_ => ?_; simp only [upd_apply, asB_bool, asB_tup, ↓reduceIte, reduceCtorEq, Nat.reduceEqDiff, Bool.not_true, Bool.not_false]; refine hK_ _ ?_; clear hK_ K_)
  | (refine WO_gate rfl rfl rfl rfl rfl fun K_ hK_ => ?_; simp only [upd_apply, asB_bool, asB_tup, ↓reduceIte, reduceCtorEq, Nat.reduceEqDiff, Bool.not_true, Bool.not_false]; refine hK_ _ ?_; clear hK_ K_)
  | (with_reducible refine gateK_yes ?_) | (refine gateK_no (by decide) ?_) | (with_reducible refine gateK_none ?_)
  | ((try first | refine WO_op rfl rfl rfl ?_ | refine WO_op0 rfl rfl ?_ | refine WD_op rfl rfl rfl ?_ | refine WD_op0 rfl rfl ?_); (refine WV_gen fun Q_ hQ_ => ?_; simp (disch := first | omega | (simp only [List.length_cons, List.length_nil, List.length_append]; omega)) only [x_move, x_assign, x_pick, x_alloc, x_box, x_build, x_load, x_store, x_nilCheck, x_binOp, x_unOp, x_convert, x_makeFunc, x_makeMap, x_makeSlice, x_slice, x_fieldAddr, x_field, x_indexAddr, x_index, x_lookup, x_mapUpdate, x_extract, x_callB, x_callF, x_callT, x_buildSlice, WV_okI, on1_ok, of_ok, done_ok, evT_tmp, get_tmp, evT_int, evT_bool, evT_str, evT_nils, evT_nilm, evT_nilp, evT_nilf, evT_func, upd_apply, evL_nil, evL_cons', evParts_nil, evParts_cons, pickE_def, allocE_def, cells_bool, cells_int, cells_str, cells_ptr, cells_nilp, cells_sl, cells_nils, cells_map, cells_nilm, cells_fn, cells_nilf, cells_agg, asPtr_ptr, asSl_sl, asB_bool, asB_tup, asTup_tup, asI64_int, toNatE_lit, reszT_nils, reszT_none, toNatE_int, slicesE_def, optNat_none, optNat_def, Int.reduceToNat, Int.toNat_natCast, cellsOf_cells, cellsOf_ro, cellsE_cells, oneB_bool, oneB_int, oneB_str, oneB_ptr, oneB_nilp, oneB_sl, oneB_nils, oneB_map, oneB_nilm, oneB_fn, oneB_nilf, loadE_ptr, storeE_ptr, storeCs_some, storeAll_one, storeAll_two, fieldAddrE_ptr, addOff_some, indexAt_sl, indexAt_arr, extractE_tup, nilCheck_fn, nilCheck_ptr, nilCheck_yld, b_add, b_sub, b_mul, b_eql, b_neq, b_lss, b_leq, b_gtr, b_geq, unE_not, unE_neg, bi_len, bi_append, bi_copy, bi_max, bi_min, buildSliceO_def, buildO_def, ble_dec, fillE_nil, fillE_cons, layOver_def, zerosE_zero, zerosE_succ, wrap_in, min_ck, min_cc, min_cl, Nat.min_self, allOne_nil, allOne_cons, cellAt_cells, cellAt_ro, aggAt_cells, storeAt_cells, writeAt_cells, splice_def, marked_X, nx_X, unmark_keep, unmark_full, app_len0, app_len, set_app_len0, set_app_len, List.append_assoc, List.length_append, argF, cond_true, cond_false, ↓reduceIte, reduceCtorEq, Nat.reduceEqDiff, Nat.reduceLT, Nat.reduceLeDiff, Nat.reduceAdd, Nat.reduceMul, Nat.reduceSub, Nat.reduceBEq, Nat.add_zero, Nat.zero_add, Nat.mul_one, Nat.zero_mul, Nat.one_mul, List.length_cons, List.length_nil, List.cons_append, List.nil_append, List.append_nil, List.getElem?_cons_zero, List.getElem?_cons_succ, List.set_cons_zero, List.set_cons_succ, List.drop_zero, List.drop_succ_cons, List.take_zero, List.take_succ_cons, List.take_nil, List.drop_nil, Bool.not_true, Bool.not_false, Bool.true_and, Bool.and_true, Bool.false_and, Bool.and_false, decide_true, decide_false, eq_self, List.toList_toArray, beq_dec, beq_self_eq_true, hlen, hlb, hCS, hRS, works', newPtr_X wf, load1_X wf, loadAgg_X wf, store1_X wf, writeCells_X wf, bs_71, bsl_25, newSlice_X wf, ia_2, sz_2, ia_3, sz_3, ia_27, ia_51, sz_51, ia_71, sz_71, ia_24, sz_24, ia_22, ia_25, fo_71_0, fo_71_1, fo_71_2, fo_71_3, fo_51_0, fo_51_1, fo_24_0, fo_24_1, ze_71, ze_51, pb_33, pb_36, pb_60, pb_61, pb_78, pb_34, pb_37, pb_14, pb_62, pb_63, pb_35, pb_15, pb_30, pb_9, pb_10, pb_11, pb_12, pb_13, ni_25]; first | (refine dec_split (Q := Q_) (fun hp_ => ?_) (fun hp_ => ?_) <;> first | (exfalso; omega) | (refine hQ_ _ _ ?_; clear hQ_ Q_)) | (refine dec_splitn (Q := Q_) (fun hp_ => ?_) (fun hp_ => ?_) <;> first | (exfalso; omega) | (refine hQ_ _ _ ?_; clear hQ_ Q_)) | (refine hQ_ _ _ ?_; clear hQ_ Q_)))
  | (refine WC_cond fun K_ hK_ => ?_; simp (disch := omega) only [evT_tmp, upd_apply, WB_some, ↓reduceIte, reduceCtorEq, Nat.reduceEqDiff, Nat.reduceLT]; refine hK_ _ ?_; clear hK_ K_)
  | (with_reducible refine condK_tt ?_) | (with_reducible refine condK_ff ?_) | (with_reducible refine roundQ_exit ?_) | (with_reducible refine roundQ_ret ?_)))
    (refine endQ_ret _ _ rfl (ret1 (by decide)) ?_; simp only [upd_apply, ↓reduceIte, reduceCtorEq, Nat.reduceEqDiff]; refine WV_flat rfl (by omega) ?_)
    exact ⟨rfl, rfl⟩
  · have hsn : sp.length ≤ 1000000 := by omega
    have hxn : xs.length ≤ 1000000 := by omega
    have hCS : ∀ l w, w ≤ h.clock + l.length → (om Tryd.prog KK).call (.fn 14 [.agg [a, ii turn]]) (X h l w) = .ok (ii (spotsR sp turn)) (X h l w) := fun l w hw => CheckSpots sp turn a hsn _ (wf.X hw) (hs.up wf _ _)
    have hRS : ∀ l w, w ≤ h.clock + l.length → (om Tryd.prog KK).call (.fn 15 [.agg [a, ii turn]]) (X h l w) = .ok (ii (spotsR sp turn)) (X h l w) := fun l w hw => rCheckSpots sp turn a hsn _ (wf.X hw) (hs.up wf _ _)
    (repeat' (first
  | (with_reducible refine WC_seq ?_) | (refine WC_region ?_) | (with_reducible refine WC_skip ?_) | (with_reducible refine WC_label ?_) | (with_reducible refine WC_scope ?_) | (with_reducible refine WC_block ?_) | (with_reducible refine WC_ret ?_) | (with_reducible refine WC_exit ?_)
  | (with_reducible refine seqQ_norm ?_) | (with_reducible refine seqQ_ret ?_) | (with_reducible refine seqQ_exit ?_) | (with_reducible refine blkQ_norm ?_) | (with_reducible refine blkQ_ret ?_) | (with_reducible refine blkQ_here ?_) | (refine blkQ_out rfl ?_)
  | (refine WO_nil ?_)
  | (refine WD_nil ?_)
  | (refine WD_gate rfl rfl rfl rfl rfl fun K_ hK_ => ?_; simp only [upd_apply, asB_bool, asB_tup, ↓reduceIte, reduceCtorEq, Nat.reduceEqDiff, Bool.not_true, Bool.not_false]; refine hK_ _ ?_; clear hK_ K_)
  | (refine WO_gate rfl rfl rfl rfl rfl fun K_ hK_ => ?_; simp only [upd_apply, asB_bool, asB_tup, ↓reduceIte, reduceCtorEq, Nat.reduceEqDiff, Bool.not_true, Bool.not_false]; refine hK_ _ ?_; clear hK_ K_)
  | (with_reducible refine gateK_yes ?_) | (refine gateK_no (by decide) ?_) | (with_reducible refine gateK_none ?_)
  | ((try first | refine WO_op rfl rfl rfl ?_ | refine WO_op0 rfl rfl ?_ | refine WD_op rfl rfl rfl ?_ | refine WD_op0 rfl rfl ?_); (refine WV_gen fun Q_ hQ_ => ?_; simp (disch := first | omega | (simp only [List.length_cons, List.length_nil, List.length_append]; omega)) only [x_move, x_assign, x_pick, x_alloc, x_box, x_build, x_load, x_store, x_nilCheck, x_binOp, x_unOp, x_convert, x_makeFunc, x_makeMap, x_makeSlice, x_slice, x_fieldAddr, x_field, x_indexAddr, x_index, x_lookup, x_mapUpdate, x_extract, x_callB, x_callF, x_callT, x_buildSlice, WV_okI, on1_ok, of_ok, done_ok, evT_tmp, get_tmp, evT_int, evT_bool, evT_str, evT_nils, evT_nilm, evT_nilp, evT_nilf, evT_func, upd_apply, evL_nil, evL_cons', evParts_nil, evParts_cons, pickE_def, allocE_def, cells_bool, cells_int, cells_str, cells_ptr, cells_nilp, cells_sl, cells_nils, cells_map, cells_nilm, cells_fn, cells_nilf, cells_agg, asPtr_ptr, asSl_sl, asB_bool, asB_tup, asTup_tup, asI64_int, toNatE_lit, reszT_nils, reszT_none, toNatE_int, slicesE_def, optNat_none, optNat_def, Int.reduceToNat, Int.toNat_natCast, cellsOf_cells, cellsOf_ro, cellsE_cells, oneB_bool, oneB_int, oneB_str, oneB_ptr, oneB_nilp, oneB_sl, oneB_nils, oneB_map, oneB_nilm, oneB_fn, oneB_nilf, loadE_ptr, storeE_ptr, storeCs_some, storeAll_one, storeAll_two, fieldAddrE_ptr, addOff_some, indexAt_sl, indexAt_arr, extractE_tup, nilCheck_fn, nilCheck_ptr, nilCheck_yld, b_add, b_sub, b_mul, b_eql, b_neq, b_lss, b_leq, b_gtr, b_geq, unE_not, unE_neg, bi_len, bi_append, bi_copy, bi_max, bi_min, buildSliceO_def, buildO_def, ble_dec, fillE_nil, fillE_cons, layOver_def, zerosE_zero, zerosE_succ, wrap_in, min_ck, min_cc, min_cl, Nat.min_self, allOne_nil, allOne_cons, cellAt_cells, cellAt_ro, aggAt_cells, storeAt_cells, writeAt_cells, splice_def, marked_X, nx_X, unmark_keep, unmark_full, app_len0, app_len, set_app_len0, set_app_len, List.append_assoc, List.length_append, argF, cond_true, cond_false, ↓reduceIte, reduceCtorEq, Nat.reduceEqDiff, Nat.reduceLT, Nat.reduceLeDiff, Nat.reduceAdd, Nat.reduceMul, Nat.reduceSub, Nat.reduceBEq, Nat.add_zero, Nat.zero_add, Nat.mul_one, Nat.zero_mul, Nat.one_mul, List.length_cons, List.length_nil, List.cons_append, List.nil_append, List.append_nil, List.getElem?_cons_zero, List.getElem?_cons_succ, List.set_cons_zero, List.set_cons_succ, List.drop_zero, List.drop_succ_cons, List.take_zero, List.take_succ_cons, List.take_nil, List.drop_nil, Bool.not_true, Bool.not_false, Bool.true_and, Bool.and_true, Bool.false_and, Bool.and_false, decide_true, decide_false, eq_self, List.toList_toArray, beq_dec, beq_self_eq_true, hlen, hlb, newPtr_X wf, load1_X wf, loadAgg_X wf, store1_X wf, writeCells_X wf, bs_71, bsl_25, newSlice_X wf, ia_2, sz_2, ia_3, sz_3, ia_27, ia_51, sz_51, ia_71, sz_71, ia_24, sz_24, ia_22, ia_25, fo_71_0, fo_71_1, fo_71_2, fo_71_3, fo_51_0, fo_51_1, fo_24_0, fo_24_1, ze_71, ze_51, pb_33, pb_36, pb_60, pb_61, pb_78, pb_34, pb_37, pb_14, pb_62, pb_63, pb_35, pb_15, pb_30, pb_9, pb_10, pb_11, pb_12, pb_13, ni_25]; first | (refine dec_split (Q := Q_) (fun hp_ => ?_) (fun hp_ => ?_) <;> first | (exfalso; omega) | (refine hQ_ _ _ ?_; clear hQ_ Q_)) | (refine dec_splitn (Q := Q_) (fun hp_ => ?_) (fun hp_ => ?_) <;> first | (exfalso; omega) | (refine hQ_ _ _ ?_; clear hQ_ Q_)) | (refine hQ_ _ _ ?_; clear hQ_ Q_) | (refine WV_eq (Measure xs b hxn hc _ (wf.X (Nat.le_add_right _ _)) (hx.up wf _ _)) ?_; refine hQ_ _ _ ?_; clear hQ_ Q_) | (refine WV_eq (rMeasure xs b hxn _ (wf.X (Nat.le_add_right _ _)) (hx.up wf _ _)) ?_; refine hQ_ _ _ ?_; clear hQ_ Q_) | (refine WV_eq (Check sp turn a xs b hsn hxn hc _ (wf.X (Nat.le_add_right _ _)) (hs.up wf _ _) (hx.up wf _ _)) ?_; refine hQ_ _ _ ?_; clear hQ_ Q_) | (refine WV_eq (rCheck sp turn a xs b hsn hxn _ (wf.X (Nat.le_add_right _ _)) (hs.up wf _ _) (hx.up wf _ _)) ?_; refine hQ_ _ _ ?_; clear hQ_ Q_)))
  | (refine WC_cond fun K_ hK_ => ?_; simp (disch := omega) only [evT_tmp, upd_apply, WB_some, ↓reduceIte, reduceCtorEq, Nat.reduceEqDiff, Nat.reduceLT]; refine hK_ _ ?_; clear hK_ K_)
  | (with_reducible refine condK_tt ?_) | (with_reducible refine condK_ff ?_) | (with_reducible refine roundQ_exit ?_) | (with_reducible refine roundQ_ret ?_)))
    refine WC_drawnB [.no, .no, .no, .full, .full, .full, .full, .full, .full, .full, .full, .full, .full, .full, .full, .full, .full, .full, .full, .full, .full, .full, .full, .full, .full, .full, .full, .full, .full, .full, .full, .full, .full, .full] (by kernel_rfl) ?_
    (repeat' (first
  | (with_reducible refine WC_seq ?_) | (refine WC_region ?_) | (with_reducible refine WC_skip ?_) | (with_reducible refine WC_label ?_) | (with_reducible refine WC_scope ?_) | (with_reducible refine WC_block ?_) | (with_reducible refine WC_ret ?_) | (with_reducible refine WC_exit ?_)
  | (with_reducible refine seqQ_norm ?_) | (with_reducible refine seqQ_ret ?_) | (with_reducible refine seqQ_exit ?_) | (with_reducible refine blkQ_norm ?_) | (with_reducible refine blkQ_ret ?_) | (with_reducible refine blkQ_here ?_) | (refine blkQ_out rfl ?_)
  | (refine WO_nil ?_)
  | (refine WD_nil ?_)
  | (refine WD_gate rfl rfl rfl rfl rfl fun K_ hK_ => ?_; simp only [upd_apply, asB_bool, asB_tup, ↓reduceIte, reduceCtorEq, Nat.reduceEqDiff, Bool.not_true, Bool.not_false]; refine hK_ _ ?_; clear hK_ K_)
  | (refine WO_gate rfl rfl rfl rfl rfl fun K_ hK_ => ?_; simp only [upd_apply, asB_bool, asB_tup, ↓reduceIte, reduceCtorEq, Nat.reduceEqDiff, Bool.not_true, Bool.not_false]; refine hK_ _ ?_; clear hK_ K_)
  | (with_reducible refine gateK_yes ?_) | (refine gateK_no (by decide) ?_) | (with_reducible refine gateK_none ?_)
  | ((try first | refine WO_op rfl rfl rfl ?_ | refine WO_op0 rfl rfl ?_ | refine WD_op rfl rfl rfl ?_ | refine WD_op0 rfl rfl ?_); (refine WV_gen fun Q_ hQ_ => ?_; simp (disch := first | omega | (simp only [List.length_cons, List.length_nil, List.length_append]; omega)) only [x_move, x_assign, x_pick, x_alloc, x_box, x_build, x_load, x_store, x_nilCheck, x_binOp, x_unOp, x_convert, x_makeFunc, x_makeMap, x_makeSlice, x_slice, x_fieldAddr, x_field, x_indexAddr, x_index, x_lookup, x_mapUpdate, x_extract, x_callB, x_callF, x_callT, x_buildSlice, WV_okI, on1_ok, of_ok, done_ok, evT_tmp, get_tmp, evT_int, evT_bool, evT_str, evT_nils, evT_nilm, evT_nilp, evT_nilf, evT_func, upd_apply, evL_nil, evL_cons', evParts_nil, evParts_cons, pickE_def, allocE_def, cells_bool, cells_int, cells_str, cells_ptr, cells_nilp, cells_sl, cells_nils, cells_map, cells_nilm, cells_fn, cells_nilf, cells_agg, asPtr_ptr, asSl_sl, asB_bool, asB_tup, asTup_tup, asI64_int, toNatE_lit, reszT_nils, reszT_none, toNatE_int, slicesE_def, optNat_none, optNat_def, Int.reduceToNat, Int.toNat_natCast, cellsOf_cells, cellsOf_ro, cellsE_cells, oneB_bool, oneB_int, oneB_str, oneB_ptr, oneB_nilp, oneB_sl, oneB_nils, oneB_map, oneB_nilm, oneB_fn, oneB_nilf, loadE_ptr, storeE_ptr, storeCs_some, storeAll_one, storeAll_two, fieldAddrE_ptr, addOff_some, indexAt_sl, indexAt_arr, extractE_tup, nilCheck_fn, nilCheck_ptr, nilCheck_yld, b_add, b_sub, b_mul, b_eql, b_neq, b_lss, b_leq, b_gtr, b_geq, unE_not, unE_neg, bi_len, bi_append, bi_copy, bi_max, bi_min, buildSliceO_def, buildO_def, ble_dec, fillE_nil, fillE_cons, layOver_def, zerosE_zero, zerosE_succ, wrap_in, min_ck, min_cc, min_cl, Nat.min_self, allOne_nil, allOne_cons, cellAt_cells, cellAt_ro, aggAt_cells, storeAt_cells, writeAt_cells, splice_def, marked_X, nx_X, unmark_keep, unmark_full, app_len0, app_len, set_app_len0, set_app_len, List.append_assoc, List.length_append, argF, cond_true, cond_false, ↓reduceIte, reduceCtorEq, Nat.reduceEqDiff, Nat.reduceLT, Nat.reduceLeDiff, Nat.reduceAdd, Nat.reduceMul, Nat.reduceSub, Nat.reduceBEq, Nat.add_zero, Nat.zero_add, Nat.mul_one, Nat.zero_mul, Nat.one_mul, List.length_cons, List.length_nil, List.cons_append, List.nil_append, List.append_nil, List.getElem?_cons_zero, List.getElem?_cons_succ, List.set_cons_zero, List.set_cons_succ, List.drop_zero, List.drop_succ_cons, List.take_zero, List.take_succ_cons, List.take_nil, List.drop_nil, Bool.not_true, Bool.not_false, Bool.true_and, Bool.and_true, Bool.false_and, Bool.and_false, decide_true, decide_false, eq_self, List.toList_toArray, beq_dec, beq_self_eq_true, hlen, hlb, hCS, hRS, works', newPtr_X wf, load1_X wf, loadAgg_X wf, store1_X wf, writeCells_X wf, bs_71, bsl_25, newSlice_X wf, ia_2, sz_2, ia_3, sz_3, ia_27, ia_51, sz_51, ia_71, sz_71, ia_24, sz_24, ia_22, ia_25, fo_71_0, fo_71_1, fo_71_2, fo_71_3, fo_51_0, fo_51_1, fo_24_0, fo_24_1, ze_71, ze_51, pb_33, pb_36, pb_60, pb_61, pb_78, pb_34, pb_37, pb_14, pb_62, pb_63, pb_35, pb_15, pb_30, pb_9, pb_10, pb_11, pb_12, pb_13, ni_25]; first | (refine dec_split (Q := Q_) (fun hp_ => ?_) (fun hp_ => ?_) <;> first | (exfalso; omega) | (refine hQ_ _ _ ?_; clear hQ_ Q_)) | (refine dec_splitn (Q := Q_) (fun hp_ => ?_) (fun hp_ => ?_) <;> first | (exfalso; omega) | (refine hQ_ _ _ ?_; clear hQ_ Q_)) | (refine hQ_ _ _ ?_; clear hQ_ Q_)))
  | (refine WC_cond fun K_ hK_ => ?_; simp (disch := omega) only [evT_tmp, upd_apply, WB_some, ↓reduceIte, reduceCtorEq, Nat.reduceEqDiff, Nat.reduceLT]; refine hK_ _ ?_; clear hK_ K_)
  | (with_reducible refine condK_tt ?_) | (with_reducible refine condK_ff ?_) | (with_reducible refine roundQ_exit ?_) | (with_reducible refine roundQ_ret ?_)))
    (refine endQ_ret _ _ rfl (ret1 (by decide)) ?_; simp only [upd_apply, ↓reduceIte, reduceCtorEq, Nat.reduceEqDiff]; refine WV_flat rfl (by omega) ?_)
    exact ⟨rfl, rfl⟩
end Go.Proofs.YtghondkiondeaaaDoor
end

/- EvX0 -/
section
/-
  The program's orders are mixed: what every run asks.
-/
namespace Go.Proofs.YtghondkiondeaaaDoor
open Go.Ev
theorem mixed : Tryd.prog.follows .mixedOrders = true := Checked.mixed Tryd.checked
theorem con_alone {n : Nat} {c : Con} (h : chk c ((evc Tryd.prog [] n).call (.fn c.g c.args) (smallH c.tb)) = true) : ConOK Tryd.prog c :=
  con_run (P := Tryd.prog) mixed (cons := []) (fun _ h => by cases h) (n := n) (c := c) h
end Go.Proofs.YtghondkiondeaaaDoor
end

/- EvXcS0 -/
section
/-
  WHAT A CALL OF THE PROGRAM COMES TO IN A SMALL MEMORY: run by the kernel.
-/

namespace Go.Proofs.YtghondkiondeaaaDoor
open Go.Ev
noncomputable def cS0 : Con := ⟨25, [(.agg [(.sl (.i (.o (.o (.o (.o (.o .e)))))) 0 5 (some 5) 2), (.int .i64 100)]), (.int .i64 0)], [(.e, [(.int .i64 1099511627776), (.int .i64 1099511627776), (.int .i64 1099511627776)]), ((.i (.o (.o (.o (.o (.o .e)))))), [(.int .i64 0), (.int .i64 0), (.int .i64 2), (.int .i64 3), (.int .i64 4), (.int .i64 4), (.int .i64 5), (.int .i64 7), (.int .i64 10), (.int .i64 10)])], (.tup [(.sl (.o (.o (.i (.o (.o (.o (.o .e))))))) 0 5 none 2), (.int .i64 0)]), [((.o (.o (.i (.o (.o (.o (.o .e))))))), [(.int .i64 0), (.int .i64 0), (.int .i64 2), (.int .i64 2), (.int .i64 4), (.int .i64 4), (.int .i64 6), (.int .i64 7), (.int .i64 10), (.int .i64 10)], 51)]⟩
set_option maxRecDepth 100000
set_option maxHeartbeats 0
theorem cS0_run : chk cS0 ((evc Tryd.prog [] 100000).call (.fn cS0.g cS0.args) (smallH cS0.tb)) = true := by kernel_rfl
theorem cS0_ok : ConOK Tryd.prog cS0 := con_alone (n := 100000) (c := cS0) cS0_run
end Go.Proofs.YtghondkiondeaaaDoor
end

/- EvXcF1 -/
section
/-
  WHAT A CALL OF THE PROGRAM COMES TO IN A SMALL MEMORY: run by the kernel.
-/

namespace Go.Proofs.YtghondkiondeaaaDoor
open Go.Ev
noncomputable def cF1 : Con := ⟨17, [(.agg [(.sl (.i (.o (.o (.o (.o (.o .e)))))) 0 5 (some 5) 2), (.int .i64 100)])], [(.e, [(.int .i64 1099511627776), (.int .i64 1099511627776), (.int .i64 1099511627776)]), ((.i (.o (.o (.o (.o (.o .e)))))), [(.int .i64 0), (.int .i64 0), (.int .i64 2), (.int .i64 3), (.int .i64 4), (.int .i64 4), (.int .i64 5), (.int .i64 7), (.int .i64 10), (.int .i64 10)])], (.tup [(.sl (.i (.o (.o (.o (.o (.i (.o (.i .e)))))))) 0 5 none 1), (.int .i64 1), (.int .i64 0)]), [((.i (.o (.o (.o (.o (.i (.o (.i .e)))))))), [(.int .i64 0), (.int .i64 2), (.int .i64 4), (.int .i64 7), (.int .i64 10)], 2)]⟩
set_option maxRecDepth 100000
set_option maxHeartbeats 0
theorem cF1_run : chk cF1 ((evc Tryd.prog [] 100000).call (.fn cF1.g cF1.args) (smallH cF1.tb)) = true := by kernel_rfl
theorem cF1_ok : ConOK Tryd.prog cF1 := con_alone (n := 100000) (c := cF1) cF1_run
end Go.Proofs.YtghondkiondeaaaDoor
end

/- EvXcL -/
section
/-
  WHAT A CALL OF THE PROGRAM COMES TO IN A SMALL MEMORY: run by the kernel.
-/

namespace Go.Proofs.YtghondkiondeaaaDoor
open Go.Ev
noncomputable def cL : Con := ⟨23, [(.agg [(.sl (.i (.o (.o (.o (.o (.o .e)))))) 0 5 (some 5) 2), (.int .i64 100)])], [(.e, [(.int .i64 1099511627776), (.int .i64 1099511627776), (.int .i64 1099511627776)]), ((.i (.o (.o (.o (.o (.o .e)))))), [(.int .i64 0), (.int .i64 0), (.int .i64 2), (.int .i64 3), (.int .i64 4), (.int .i64 4), (.int .i64 5), (.int .i64 7), (.int .i64 10), (.int .i64 10)])], (.tup [(.sl (.i (.i (.o (.i (.i (.i (.i (.i .e)))))))) 0 30 none 1), (.int .i64 0)]), [((.i (.i (.o (.i (.i (.i (.i (.i .e)))))))), [(.int .i64 0), (.int .i64 1099511627776), (.int .i64 1099511627776), (.int .i64 0), (.int .i64 1099511627776), (.int .i64 1099511627776), (.int .i64 0), (.int .i64 1099511627776), (.int .i64 1099511627776), (.int .i64 1099511627776), (.int .i64 1099511627776), (.int .i64 2), (.int .i64 1099511627776), (.int .i64 1099511627776), (.int .i64 1), (.int .i64 0), (.int .i64 103), (.int .i64 1099511627776), (.int .i64 1099511627776), (.int .i64 1), (.int .i64 1099511627776), (.int .i64 1099511627776), (.int .i64 105), (.int .i64 1099511627776), (.int .i64 1099511627776), (.int .i64 2), (.int .i64 1099511627776), (.int .i64 1099511627776), (.int .i64 1), (.int .i64 1099511627776)], 2)]⟩
set_option maxRecDepth 100000
set_option maxHeartbeats 0
theorem cL_run : chk cL ((evc Tryd.prog [] 100000).call (.fn cL.g cL.args) (smallH cL.tb)) = true := by kernel_rfl
theorem cL_ok : ConOK Tryd.prog cL := con_alone (n := 100000) (c := cL) cL_run
end Go.Proofs.YtghondkiondeaaaDoor
end

/- EvXcC1 -/
section
/-
  WHAT A CALL OF THE PROGRAM COMES TO IN A SMALL MEMORY: run by the kernel.
-/

namespace Go.Proofs.YtghondkiondeaaaDoor
open Go.Ev
noncomputable def cC1 : Con := ⟨21, [(.agg [(.sl (.i (.o (.o (.o (.o (.o .e)))))) 0 5 (some 5) 2), (.int .i64 100)]), (.sl (.o (.i (.o (.o (.o (.o .e)))))) 0 30 none 1)], [(.e, [(.int .i64 1099511627776), (.int .i64 1099511627776), (.int .i64 1099511627776)]), ((.i (.o (.o (.o (.o (.o .e)))))), [(.int .i64 0), (.int .i64 0), (.int .i64 2), (.int .i64 3), (.int .i64 4), (.int .i64 4), (.int .i64 5), (.int .i64 7), (.int .i64 10), (.int .i64 10)]), ((.o (.i (.o (.o (.o (.o .e)))))), [(.int .i64 0), (.int .i64 1099511627776), (.int .i64 1099511627776), (.int .i64 0), (.int .i64 1099511627776), (.int .i64 1099511627776), (.int .i64 0), (.int .i64 1099511627776), (.int .i64 1099511627776), (.int .i64 1099511627776), (.int .i64 1099511627776), (.int .i64 2), (.int .i64 1099511627776), (.int .i64 1099511627776), (.int .i64 1), (.int .i64 0), (.int .i64 103), (.int .i64 1099511627776), (.int .i64 1099511627776), (.int .i64 1), (.int .i64 1099511627776), (.int .i64 1099511627776), (.int .i64 105), (.int .i64 1099511627776), (.int .i64 1099511627776), (.int .i64 2), (.int .i64 1099511627776), (.int .i64 1099511627776), (.int .i64 1), (.int .i64 1099511627776)])], (.tup [(.int .i64 1), (.int .i64 0)]), []⟩
set_option maxRecDepth 100000
set_option maxHeartbeats 0
theorem cC1_run : chk cC1 ((evc Tryd.prog [] 100000).call (.fn cC1.g cC1.args) (smallH cC1.tb)) = true := by kernel_rfl
theorem cC1_ok : ConOK Tryd.prog cC1 := con_alone (n := 100000) (c := cC1) cC1_run
end Go.Proofs.YtghondkiondeaaaDoor
end

/- EvXcW -/
section
/-
  WHAT A CALL OF THE PROGRAM COMES TO IN A SMALL MEMORY: run by the kernel.
-/
namespace Go.Proofs.YtghondkiondeaaaDoor
open Go.Ev
set_option maxRecDepth 100000
set_option maxHeartbeats 0
theorem cW_run : chk cW ((evc Tryd.prog [cS0, cF1, cL, cC1] 100000).call (.fn cW.g cW.args) (smallH cW.tb)) = true := by kernel_rfl
theorem cW_ok : ConOK Tryd.prog cW := con_run (P := Tryd.prog) mixed (cons := [cS0, cF1, cL, cC1]) (n := 100000) (c := cW) (fun _ h => by
  simp only [List.mem_cons, List.not_mem_nil, or_false] at h
  rcases h with rfl | rfl | rfl | rfl
  · exact cS0_ok
  · exact cF1_ok
  · exact cL_ok
  · exact cC1_ok) cW_run
end Go.Proofs.YtghondkiondeaaaDoor
end

/- EvKm -/
section
/- The statement FairMeasures of layer 1: which spots are valid, what a line measures, and what it costs within spots, are what the definitions say, for all spots and lines; the package's table of costs is as the text lays it. -/
namespace Go.Proofs.YtghondkiondeaaaDoor.fairMeasures
open Go.ChangeShapes Go.WideShapes Go.ChangeAt Go.RowKit Go.Ev
set_option maxRecDepth 100000
set_option maxHeartbeats 0

theorem own : ownKnob Tryd.prog.godebug = none := by kernel_rfl
theorem laidOut : laidOutB Tryd.prog = true := by kernel_rfl
theorem gTab : Tryd.prog.globalNamed "tumblehome/fair.none" = some 0 := by kernel_rfl
theorem gTabType : (Tryd.prog.globals[0]?).map (·.type) = some 109 := by kernel_rfl
theorem cells109 : Tryd.prog.cellsOf 109 = 3 := by kernel_rfl
theorem cells2 : Tryd.prog.cellsOf 2 = 1 := by kernel_rfl
theorem cells22 : Tryd.prog.cellsOf 22 = 1 := by kernel_rfl
theorem cells24 : Tryd.prog.cellsOf 24 = 2 := by kernel_rfl
theorem cells51 : Tryd.prog.cellsOf 51 = 2 := by kernel_rfl
theorem types24 : Tryd.prog.cellTypes Tryd.prog.depth 24 = some [22, 2] := by kernel_rfl
theorem under24 : ∃ f0 f1 : Field, Tryd.prog.underlying 24 = some (.struct #[f0, f1]) ∧ f0.offset = 0 ∧ f1.offset = 1 ∧ f0.type = 22 ∧ f1.type = 2 := ⟨_, _, Tryd.underlying24, rfl, rfl, rfl, rfl⟩
theorem under51 : ∃ f0 f1 : Field, Tryd.prog.underlying 51 = some (.struct #[f0, f1]) ∧ f0.offset = 0 ∧ f1.offset = 1 ∧ f0.type = 2 ∧ f1.type = 2 := ⟨_, _, Tryd.underlying51, rfl, rfl, rfl, rfl⟩

theorem table {W : World} (h : laidMetH Tryd.prog Rows.fairMeasuresRow.laid W) : Lib.TabIs Tryd.prog W "tumblehome/fair.none" .i64 [1099511627776, 1099511627776, 1099511627776] :=
  Lib.tabIs_of_head (rest := []) gTab gTabType Tryd.underlying109 Tryd.underlying2 cells2 cells109 h
theorem tab {W : World} (h : laidMetH Tryd.prog Rows.fairMeasuresRow.laid W) : Tab (startW W) := by
  have t := table h
  have c0 : W.cell? ⟨0, 0, none⟩ = some (.int .i64 1099511627776) := t.cell gTab 0 (by decide)
  have c1 : W.cell? ⟨0, 1, none⟩ = some (.int .i64 1099511627776) := t.cell gTab 1 (by decide)
  have c2 : W.cell? ⟨0, 2, none⟩ = some (.int .i64 1099511627776) := t.cell gTab 2 (by decide)
  obtain ⟨c, e, f, h0, g0⟩ := cell_block c0
  obtain ⟨_, _, _, h1, g1⟩ := cell_block c1
  obtain ⟨_, _, _, h2, g2⟩ := cell_block c2
  rw [h0] at h1 h2
  cases h1
  cases h2
  exact ⟨_, startW_block h0, by show (c[0]?).bind _ = _; rw [g0]; rfl, by show (c[1]?).bind _ = _; rw [g1]; rfl, by show (c[2]?).bind _ = _; rw [g2]; rfl⟩

theorem contract (H : Type) (enc : TypeId × Value → H) (W : World) (base : Nat) (args : Array Value) (ds gs : List (DataW H)) (before : List MemPlace) (hval : ∀ (j : Nat) t v, Tryd.f3.params[j]? = some t → args[j]? = some v → Value.okWide Tryd.prog W .any base t v)
    (hW : DataW.Whole enc Tryd.prog Tryd.f3.params.toList Rows.fairMeasuresSpec.vars false W args.toList ds gs before) (hL : laidMetH Tryd.prog Rows.fairMeasuresRow.laid W) :
    Calls Tryd.prog 3 args W fun e W' => ∃ v, e = .returned v ∧ Rows.fairMeasuresSpec.post enc Tryd.prog Tryd.f3 false true false false W args v W' := by
  have hW' := hW
  obtain ⟨p, q, hA0, hV, rfl, hfz, hnd⟩ := hW
  have hA : DataW.TrodAll enc Tryd.prog W 0 (fun _ => true) true Tryd.f3.params.toList args.toList ds p := hA0
  rw [Tryd.params3] at hA hval
  obtain ⟨v0, v1, d0, d1, p0, p1, rfl, rfl, rfl, ⟨n0, h0⟩, ⟨n1, h1⟩⟩ := trodAll_two hA
  obtain ⟨f0, f1, hu, o0, o1, t0, t1⟩ := under24
  obtain ⟨g0, g1, hg, go0, go1, gt0, gt1⟩ := under51
  obtain ⟨u, w, n, y, z, rfl, k0, k1, r0, r1⟩ := open_two hu cells24 o0 o1 t0 t1 cells22 cells2 types24 (hval 0 24 v0 rfl rfl) h0
  obtain ⟨turn, hz, _⟩ := DataW.trod_int Tryd.underlying2 r1
  cases hz
  obtain ⟨sp, a, va, ca, sa⟩ := open_pairs Tryd.underlying22 hg cells51 go0 go1 gt0 gt1 Tryd.underlying2 cells2 k0 r0
  have k25 := okWide_cell (P := Tryd.prog) Tryd.underlying25 (fun _ e => by cases e) (fun _ _ e => by cases e) (hval 1 25 v1 rfl rfl)
  rw [slice_cells Tryd.underlying25 k25] at h1
  obtain ⟨xs, b, vb, cb, sb⟩ := open_i64s Tryd.underlying25 Tryd.underlying2 cells2 k25 h1
  have walk := lawMeasures sp turn a xs b cb (startW W) (startW_wf W) (tab hL) sa sb
  have hargs : VL (startWR W) [.agg [a, .int .i64 turn], b] (#[.agg #[u, .int .i64 turn], v1] : Array Value).toList :=
    .cons _ _ _ _ (.agg _ _ (.cons _ _ _ _ va (.cons _ _ _ _ (.int _ _) .nil))) (.cons _ _ _ _ vb .nil)
  refine (startW_true (P := Tryd.prog) mixed (K := KK) (fun c hc => by
    have : c = cW := List.mem_singleton.1 hc
    rw [this]; exact cW_ok) walk hargs).mono fun e W' ⟨he, hgr, hs⟩ => ?_
  subst he
  refine ⟨_, rfl, law_post laidOut (by rw [Tryd.params3]; intro t ht; rcases List.mem_cons.1 ht with rfl | ht; exact ⟨by kernel_rfl, of_decide_eq_true (by kernel_rfl)⟩; rcases List.mem_cons.1 ht with rfl | ht; exact ⟨by kernel_rfl, of_decide_eq_true (by kernel_rfl)⟩; cases ht) rfl (by kernel_rfl) Tryd.underlying4 (fun gs' ⟨q', hq⟩ => ?_) hW' hgr hs⟩
  obtain ⟨rfl, _⟩ := trodVars_none hq
  exact ⟨rfl, rfl, rfl⟩

/-- A world for the witness. -/
noncomputable def laidWorld (os : Os) : World :=
  { World.holding Tryd.prog os ⟨#[], #[], []⟩ with heap := (World.holding Tryd.prog os ⟨#[], #[], []⟩).heap.modify 0 fun
      | .cells _ t frozen => .cells #[.int .i64 1099511627776, .int .i64 1099511627776, .int .i64 1099511627776] t frozen
      | o => o }
noncomputable def args0 : Array Value := #[.agg #[.slice none 0 0, .int .i64 0], .slice none 0 0]
theorem laid_met (os : Os) : laidMet Tryd.prog Rows.fairMeasuresRow.laid ((laidWorld os).forCall (fun _ _ => 0) ⟨#[], args0, []⟩).memory :=
  laidMet_of_run' 8 (by kernel_rfl) (by kernel_rfl)
theorem reads (os : Os) {H : Type} (enc : TypeId × Value → H) : ∃ places, DataW.whole enc Tryd.prog ((laidWorld os).forCall (fun _ _ => 0) ⟨#[], args0, []⟩).memory Tryd.f3.params.toList Rows.fairMeasuresSpec.vars false args0.toList 8 = some ([.agg [.nil, .lit (.int .i64 0)], .nil], [], places) :=
  ⟨[], by kernel_rfl⟩

theorem lifted (os : Os) (started : os.Started) (H : Type) (enc : TypeId × Value → H) (F : Stop.Interp) :
    ReturnsInHanded {} Tryd.checked os 3 .any ((OpenSpec.ofChange Rows.fairMeasuresSpec).preRow enc Tryd.prog Tryd.f3 Rows.fairMeasuresRow.domain false Rows.fairMeasuresRow.laid) (((OpenSpec.ofChange Rows.fairMeasuresSpec).at F).post enc Tryd.prog Tryd.f3 false true false false) := by
  obtain ⟨places, hx⟩ := reads os enc
  refine returnsInHanded_of_row (C := Tryd.checked) (s := OpenSpec.ofChange Rows.fairMeasuresSpec) own started (by kernel_rfl) Tryd.func3
    (witness_row_at (enc := enc) (C := Tryd.checked) false (laidWorld os) args0 rfl (by kernel_rfl) (by kernel_rfl) (by kernel_rfl)
      (OpenSpec.preRow_of_cond 8 hx (by kernel_rfl) (fun k hk => by cases hk) (by kernel_rfl) (laid_met os))) ?_
  intro W base args ds gs before hval hW _ _ _ hL _ _
  exact contract H enc W base args ds gs before hval hW hL

theorem said : Rows.FairMeasuresSaid :=
  OpenClaim.holds_of_cond 3 Tryd.f3 rfl rfl rfl rfl rfl rfl rfl ⟨rfl, rfl, rfl, rfl, rfl⟩ rfl rfl rfl rfl rfl (by kernel_rfl) Tryd.func3 (by kernel_rfl)
    (of_decide_eq_true (by kernel_rfl)) (by unfold Func.isWrapper; first | (rw [if_pos (by decide +kernel)]; kernel_rfl) | (rw [if_neg (by decide +kernel)]; exact ⟨rfl, rfl⟩))
    (fun os started H enc _ F => by rw [OpenClaim.pre_eq_preRow]; exact lifted os started H enc F)

theorem stand24 : Tryd.pinned.checked.prog.wantsStandIn 24 = false := by kernel_rfl
theorem stand25 : Tryd.pinned.checked.prog.wantsStandIn 25 = false := by kernel_rfl
theorem plain (f : FuncId) (fn : Func) (hf : Tryd.pinned.checked.prog.funcNamed "tumblehome/tumblehomelaw01.FairMeasures" = some f) (hfn : Tryd.pinned.checked.prog.funcs[f]? = some fn) :
    false = Tryd.pinned.checked.prog.looks [] ∧ ∀ (j : Nat) t, fn.params[j]? = some t → Tryd.pinned.checked.prog.wantsStandIn t = false := by
  obtain rfl : f = 3 := Option.some.inj ((show Tryd.prog.funcNamed "tumblehome/tumblehomelaw01.FairMeasures" = some 3 by kernel_rfl).symm.trans hf) |>.symm
  obtain rfl : fn = Tryd.f3 := (Option.some.inj (Tryd.func3.symm.trans hfn)).symm
  refine ⟨by kernel_rfl, fun j t ht => ?_⟩
  rw [Tryd.params3] at ht
  match j, ht with
  | 0, ht =>
    have e : t = 24 := by simpa using ht.symm
    rw [e]
    exact stand24
  | 1, ht =>
    have e : t = 25 := by simpa using ht.symm
    rw [e]
    exact stand25
  | j + 2, ht => simp at ht

/-- ████ THE CARD ████ -/
theorem card : Rows.FairMeasuresCardSaid :=
  Claim7.holds_tied_plain_at .later [] _ _ _ _ said (fun _ h => by cases h) (by kernel_rfl) (fun _ h => by cases h) fairMeasures_row_tie rfl ⟨rfl, rfl⟩ (by kernel_rfl) rfl plain (by kernel_rfl)
end Go.Proofs.YtghondkiondeaaaDoor.fairMeasures
end
