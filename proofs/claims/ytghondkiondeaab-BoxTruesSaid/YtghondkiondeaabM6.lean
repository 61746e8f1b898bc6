import Derived.Test.YtghondkiondeaabM5
/- EvI1 -/
section
/-
  LAYER 2, THE REFERENCE: weights, fractions, sums.
-/
namespace Go.Proofs.Ytghondkiondeaab
open Go.Ev
set_option maxRecDepth 100000
set_option linter.unusedSimpArgs false
set_option linter.unusedVariables false
set_option maxHeartbeats 2000000

theorem weightR (i n : Nat) (hi : i < n) (hn : n ≤ 1000) (h : H) (wf : Wf h) : (om Try.prog KK).call (.fn 46 [ii (i : Int), ii (n : Int)]) h = .ok (ii (wt n i)) h := by
  refine WV_to (WV_call (fn := Try.f46) Try.func46 rfl rfl rfl rfl rfl ?_)
  simp only [argF]
  (repeat' (first
  | (with_reducible refine WC_seq ?_) | (refine WC_region ?_) | (with_reducible refine WC_skip ?_) | (with_reducible refine WC_label ?_) | (with_reducible refine WC_scope ?_) | (with_reducible refine WC_block ?_) | (with_reducible refine WC_ret ?_) | (with_reducible refine WC_exit ?_)
  | (with_reducible refine seqQ_norm ?_) | (with_reducible refine seqQ_ret ?_) | (with_reducible refine seqQ_exit ?_) | (with_reducible refine blkQ_norm ?_) | (with_reducible refine blkQ_ret ?_) | (with_reducible refine blkQ_here ?_) | (refine blkQ_out rfl ?_)
  | (refine WO_nil ?_)
  | (refine WD_nil ?_)
  | (refine WD_gate rfl rfl rfl rfl rfl fun K_ hK_ => ?_; simp only [upd_apply, asB_bool, asB_tup, ↓reduceIte, reduceCtorEq, Nat.reduceEqDiff, Bool.not_true, Bool.not_false]; refine hK_ _ ?_; clear hK_ K_)
  | (refine WO_gate rfl rfl rfl rfl rfl fun K_ hK_ => ?_; simp only [upd_apply, asB_bool, asB_tup, ↓reduceIte, reduceCtorEq, Nat.reduceEqDiff, Bool.not_true, Bool.not_false]; refine hK_ _ ?_; clear hK_ K_)
  | (with_reducible refine gateK_yes ?_) | (refine gateK_no (by decide) ?_) | (with_reducible refine gateK_none ?_)
  | ((try first | refine WO_op rfl rfl rfl ?_ | refine WO_op0 rfl rfl ?_ | refine WD_op rfl rfl rfl ?_ | refine WD_op0 rfl rfl ?_); (refine WV_gen fun Q_ hQ_ => ?_; simp (disch := first | omega | (simp only [List.length_cons, List.length_nil, List.length_append]; omega)) only [bb, argF, ↓reduceIte, reduceCtorEq, Nat.reduceEqDiff, Nat.reduceLT, Nat.reduceLeDiff, Nat.reduceAdd, Nat.reduceMul, Nat.reduceSub, Nat.reduceBEq, Int.reduceToNat, List.append_assoc, List.length_append, cond_true, cond_false, List.length_cons, List.length_nil, List.cons_append, List.nil_append, List.append_nil, List.getElem?_cons_zero, List.getElem?_cons_succ, List.set_cons_zero, List.set_cons_succ, List.drop_zero, List.drop_succ_cons, List.take_zero, List.take_succ_cons, List.take_nil, List.drop_nil, eq_self, List.toList_toArray, beq_self_eq_true, newPtr_X wf, load1_X wf, loadAgg_X wf, store1_X wf, writeCells_X wf, makeFunc_def, bs_29, ia_29, sz_29, ze_29, ia_2, sz_2, ze_2, ia_3, sz_3, ia_25, sz_25, ia_47, sz_47, ik_25, ik_47, pb_46, pb_26, pb_27]; first | (refine dec_split (Q := Q_) (fun hp_ => ?_) (fun hp_ => ?_) <;> first | (exfalso; omega) | (refine hQ_ _ _ ?_; clear hQ_ Q_)) | (refine dec_splitn (Q := Q_) (fun hp_ => ?_) (fun hp_ => ?_) <;> first | (exfalso; omega) | (refine hQ_ _ _ ?_; clear hQ_ Q_)) | (refine hQ_ _ _ ?_; clear hQ_ Q_)))
  | (refine WC_cond fun K_ hK_ => ?_; simp (disch := omega) only [evT_tmp, upd_apply, WB_some, ↓reduceIte, reduceCtorEq, Nat.reduceEqDiff, Nat.reduceLT]; refine hK_ _ ?_; clear hK_ K_)
  | (with_reducible refine condK_tt ?_) | (with_reducible refine condK_ff ?_) | (with_reducible refine roundQ_exit ?_) | (with_reducible refine roundQ_ret ?_)))
  all_goals (refine endQ_ret _ _ rfl (ret1 (by decide)) ?_; simp only [upd_apply, ↓reduceIte, reduceCtorEq, Nat.reduceEqDiff]; refine WV_flat rfl (by omega) ?_)
  all_goals refine ⟨?_, rfl⟩
  all_goals unfold wt
  · rw [if_pos (by omega)]
  · rw [if_pos (by omega)]
  · rw [if_neg (by omega), if_pos hi]

theorem fractionR (n d : Int) (hn : i63 n) (hd : 0 < d ∧ d ≤ 9223372036854775807) (h : H) (wf : Wf h) : (om Try.prog KK).call (.fn 27 [ii n, ii d]) h = .ok (frac n d) h := by
  refine WV_to (WV_call (fn := Try.f27) Try.func27 rfl rfl rfl rfl rfl ?_)
  simp only [argF]
  have hg := gcd_le hn hd
  have hz : (Int.gcd n d : Int) ≠ 0 := by omega
  (repeat' (first
  | (with_reducible refine WC_seq ?_) | (refine WC_region ?_) | (with_reducible refine WC_skip ?_) | (with_reducible refine WC_label ?_) | (with_reducible refine WC_scope ?_) | (with_reducible refine WC_block ?_) | (with_reducible refine WC_ret ?_) | (with_reducible refine WC_exit ?_)
  | (with_reducible refine seqQ_norm ?_) | (with_reducible refine seqQ_ret ?_) | (with_reducible refine seqQ_exit ?_) | (with_reducible refine blkQ_norm ?_) | (with_reducible refine blkQ_ret ?_) | (with_reducible refine blkQ_here ?_) | (refine blkQ_out rfl ?_)
  | (refine WO_nil ?_)
  | (refine WD_nil ?_)
  | (refine WD_gate rfl rfl rfl rfl rfl fun K_ hK_ => ?_; simp only [upd_apply, asB_bool, asB_tup, ↓reduceIte, reduceCtorEq, Nat.reduceEqDiff, Bool.not_true, Bool.not_false]; refine hK_ _ ?_; clear hK_ K_)
  | (refine WO_gate rfl rfl rfl rfl rfl fun K_ hK_ => ?_; simp only [upd_apply, asB_bool, asB_tup, ↓reduceIte, reduceCtorEq, Nat.reduceEqDiff, Bool.not_true, Bool.not_false]; refine hK_ _ ?_; clear hK_ K_)
  | (with_reducible refine gateK_yes ?_) | (refine gateK_no (by decide) ?_) | (with_reducible refine gateK_none ?_)
  | ((try first | refine WO_op rfl rfl rfl ?_ | refine WO_op0 rfl rfl ?_ | refine WD_op rfl rfl rfl ?_ | refine WD_op0 rfl rfl ?_); (refine WV_gen fun Q_ hQ_ => ?_; simp (disch := first | omega | (simp only [List.length_cons, List.length_nil, List.length_append]; omega)) only [bb, argF, ↓reduceIte, reduceCtorEq, Nat.reduceEqDiff, Nat.reduceLT, Nat.reduceLeDiff, Nat.reduceAdd, Nat.reduceMul, Nat.reduceSub, Nat.reduceBEq, Int.reduceToNat, List.append_assoc, List.length_append, cond_true, cond_false, List.length_cons, List.length_nil, List.cons_append, List.nil_append, List.append_nil, List.getElem?_cons_zero, List.getElem?_cons_succ, List.set_cons_zero, List.set_cons_succ, List.drop_zero, List.drop_succ_cons, List.take_zero, List.take_succ_cons, List.take_nil, List.drop_nil, eq_self, List.toList_toArray, beq_self_eq_true, newPtr_X wf, load1_X wf, loadAgg_X wf, store1_X wf, writeCells_X wf, makeFunc_def, bs_29, ia_29, sz_29, ze_29, ia_2, sz_2, ze_2, ia_3, sz_3, ia_25, sz_25, ia_47, sz_47, ik_25, ik_47, pb_46, pb_26, pb_27]; first | (refine dec_split (Q := Q_) (fun hp_ => ?_) (fun hp_ => ?_) <;> first | (exfalso; omega) | (refine hQ_ _ _ ?_; clear hQ_ Q_)) | (refine dec_splitn (Q := Q_) (fun hp_ => ?_) (fun hp_ => ?_) <;> first | (exfalso; omega) | (refine hQ_ _ _ ?_; clear hQ_ Q_)) | (refine hQ_ _ _ ?_; clear hQ_ Q_)))
  | (refine WC_cond fun K_ hK_ => ?_; simp (disch := omega) only [evT_tmp, upd_apply, WB_some, ↓reduceIte, reduceCtorEq, Nat.reduceEqDiff, Nat.reduceLT]; refine hK_ _ ?_; clear hK_ K_)
  | (with_reducible refine condK_tt ?_) | (with_reducible refine condK_ff ?_) | (with_reducible refine roundQ_exit ?_) | (with_reducible refine roundQ_ret ?_)))
  refine WC_loop (fun (p : Int × Int) f e h' => i63 p.1 ∧ i63 p.2 ∧ Int.gcd p.1 p.2 = Int.gcd n d ∧ f 0 = ii n ∧ f 1 = ii d ∧ f 4 = .ptr (nx h 0) 0 ∧ f 5 = ii p.1 ∧ f 6 = ii p.2 ∧ e = [] ∧ h' = X h [.cells (mkCells [ii 0, ii 0]) 29] h.clock) (fun p => p.2.toNat) ?_ (d.toNat + 1) (n, d) (by omega) ?_
  · rintro ⟨x, y⟩ f e h' ⟨hx, hy, hgc, g0, g1, g4, g5, g6, rfl, rfl⟩
    simp only at hx hy hgc g5 g6
    by_cases hy0 : y = 0
    · subst hy0
      have hxg : x = (Int.gcd n d : Int) := by rw [← hgc, Int.gcd_zero_right, Int.natAbs_of_nonneg hx.1]
      rw [hxg] at g5
      (repeat' (first
  | (with_reducible refine WC_seq ?_) | (refine WC_region ?_) | (with_reducible refine WC_skip ?_) | (with_reducible refine WC_label ?_) | (with_reducible refine WC_scope ?_) | (with_reducible refine WC_block ?_) | (with_reducible refine WC_ret ?_) | (with_reducible refine WC_exit ?_)
  | (with_reducible refine seqQ_norm ?_) | (with_reducible refine seqQ_ret ?_) | (with_reducible refine seqQ_exit ?_) | (with_reducible refine blkQ_norm ?_) | (with_reducible refine blkQ_ret ?_) | (with_reducible refine blkQ_here ?_) | (refine blkQ_out rfl ?_)
  | (refine WO_nil ?_)
  | (refine WD_nil ?_)
  | (refine WD_gate rfl rfl rfl rfl rfl fun K_ hK_ => ?_; simp only [upd_apply, asB_bool, asB_tup, ↓reduceIte, reduceCtorEq, Nat.reduceEqDiff, Bool.not_true, Bool.not_false]; refine hK_ _ ?_; clear hK_ K_)
  | (refine WO_gate rfl rfl rfl rfl rfl fun K_ hK_ => ?_; simp only [upd_apply, asB_bool, asB_tup, ↓reduceIte, reduceCtorEq, Nat.reduceEqDiff, Bool.not_true, Bool.not_false]; refine hK_ _ ?_; clear hK_ K_)
  | (with_reducible refine gateK_yes ?_) | (refine gateK_no (by decide) ?_) | (with_reducible refine gateK_none ?_)
  | ((try first | refine WO_op rfl rfl rfl ?_ | refine WO_op0 rfl rfl ?_ | refine WD_op rfl rfl rfl ?_ | refine WD_op0 rfl rfl ?_); (refine WV_gen fun Q_ hQ_ => ?_; simp (disch := first | omega | (simp only [List.length_cons, List.length_nil, List.length_append]; omega)) only [bb, argF, ↓reduceIte, reduceCtorEq, Nat.reduceEqDiff, Nat.reduceLT, Nat.reduceLeDiff, Nat.reduceAdd, Nat.reduceMul, Nat.reduceSub, Nat.reduceBEq, Int.reduceToNat, List.append_assoc, List.length_append, cond_true, cond_false, List.length_cons, List.length_nil, List.cons_append, List.nil_append, List.append_nil, List.getElem?_cons_zero, List.getElem?_cons_succ, List.set_cons_zero, List.set_cons_succ, List.drop_zero, List.drop_succ_cons, List.take_zero, List.take_succ_cons, List.take_nil, List.drop_nil, eq_self, List.toList_toArray, beq_self_eq_true, g0, g1, g4, g5, g6, newPtr_X wf, load1_X wf, loadAgg_X wf, store1_X wf, writeCells_X wf, makeFunc_def, bs_29, ia_29, sz_29, ze_29, ia_2, sz_2, ze_2, ia_3, sz_3, ia_25, sz_25, ia_47, sz_47, ik_25, ik_47, pb_46, pb_26, pb_27]; first | (refine dec_split (Q := Q_) (fun hp_ => ?_) (fun hp_ => ?_) <;> first | (exfalso; omega) | (refine hQ_ _ _ ?_; clear hQ_ Q_)) | (refine dec_splitn (Q := Q_) (fun hp_ => ?_) (fun hp_ => ?_) <;> first | (exfalso; omega) | (refine hQ_ _ _ ?_; clear hQ_ Q_)) | (refine hQ_ _ _ ?_; clear hQ_ Q_)))
  | (refine WC_cond fun K_ hK_ => ?_; simp (disch := omega) only [evT_tmp, upd_apply, WB_some, ↓reduceIte, reduceCtorEq, Nat.reduceEqDiff, Nat.reduceLT]; refine hK_ _ ?_; clear hK_ K_)
  | (with_reducible refine condK_tt ?_) | (with_reducible refine condK_ff ?_) | (with_reducible refine roundQ_exit ?_) | (with_reducible refine roundQ_ret ?_)))
      refine WC_drawnB [.full, .full, .full, .full, .full, .full, .full, .full] (by kernel_rfl) ?_
      (repeat' (first
  | (with_reducible refine WC_seq ?_) | (refine WC_region ?_) | (with_reducible refine WC_skip ?_) | (with_reducible refine WC_label ?_) | (with_reducible refine WC_scope ?_) | (with_reducible refine WC_block ?_) | (with_reducible refine WC_ret ?_) | (with_reducible refine WC_exit ?_)
  | (with_reducible refine seqQ_norm ?_) | (with_reducible refine seqQ_ret ?_) | (with_reducible refine seqQ_exit ?_) | (with_reducible refine blkQ_norm ?_) | (with_reducible refine blkQ_ret ?_) | (with_reducible refine blkQ_here ?_) | (refine blkQ_out rfl ?_)
  | (refine WO_nil ?_)
  | (refine WD_nil ?_)
  | (refine WD_gate rfl rfl rfl rfl rfl fun K_ hK_ => ?_; simp only [upd_apply, asB_bool, asB_tup, ↓reduceIte, reduceCtorEq, Nat.reduceEqDiff, Bool.not_true, Bool.not_false]; refine hK_ _ ?_; clear hK_ K_)
  | (refine WO_gate rfl rfl rfl rfl rfl fun K_ hK_ => ?_; simp only [upd_apply, asB_bool, asB_tup, ↓reduceIte, reduceCtorEq, Nat.reduceEqDiff, Bool.not_true, Bool.not_false]; refine hK_ _ ?_; clear hK_ K_)
  | (with_reducible refine gateK_yes ?_) | (refine gateK_no (by decide) ?_) | (with_reducible refine gateK_none ?_)
  | ((try first | refine WO_op rfl rfl rfl ?_ | refine WO_op0 rfl rfl ?_ | refine WD_op rfl rfl rfl ?_ | refine WD_op0 rfl rfl ?_); (refine WV_gen fun Q_ hQ_ => ?_; simp (disch := first | omega | (simp only [List.length_cons, List.length_nil, List.length_append]; omega)) only [bb, argF, ↓reduceIte, reduceCtorEq, Nat.reduceEqDiff, Nat.reduceLT, Nat.reduceLeDiff, Nat.reduceAdd, Nat.reduceMul, Nat.reduceSub, Nat.reduceBEq, Int.reduceToNat, List.append_assoc, List.length_append, cond_true, cond_false, List.length_cons, List.length_nil, List.cons_append, List.nil_append, List.append_nil, List.getElem?_cons_zero, List.getElem?_cons_succ, List.set_cons_zero, List.set_cons_succ, List.drop_zero, List.drop_succ_cons, List.take_zero, List.take_succ_cons, List.take_nil, List.drop_nil, eq_self, List.toList_toArray, beq_self_eq_true, g0, g1, g4, g5, g6, b_quo hz, div_in hn hg.1, div_in (n := d) ⟨by omega, hd.2⟩ hg.1, newPtr_X wf, load1_X wf, loadAgg_X wf, store1_X wf, writeCells_X wf, makeFunc_def, bs_29, ia_29, sz_29, ze_29, ia_2, sz_2, ze_2, ia_3, sz_3, ia_25, sz_25, ia_47, sz_47, ik_25, ik_47, pb_46, pb_26, pb_27]; first | (refine dec_split (Q := Q_) (fun hp_ => ?_) (fun hp_ => ?_) <;> first | (exfalso; omega) | (refine hQ_ _ _ ?_; clear hQ_ Q_)) | (refine dec_splitn (Q := Q_) (fun hp_ => ?_) (fun hp_ => ?_) <;> first | (exfalso; omega) | (refine hQ_ _ _ ?_; clear hQ_ Q_)) | (refine hQ_ _ _ ?_; clear hQ_ Q_)))
  | (refine WC_cond fun K_ hK_ => ?_; simp (disch := omega) only [evT_tmp, upd_apply, WB_some, ↓reduceIte, reduceCtorEq, Nat.reduceEqDiff, Nat.reduceLT]; refine hK_ _ ?_; clear hK_ K_)
  | (with_reducible refine condK_tt ?_) | (with_reducible refine condK_ff ?_) | (with_reducible refine roundQ_exit ?_) | (with_reducible refine roundQ_ret ?_)))
      refine endQ_ret _ _ rfl (retc0 (by decide) (by simp (disch := first | omega | (simp only [List.length_cons, List.length_nil, List.length_append]; omega)) only [bb, argF, ↓reduceIte, reduceCtorEq, Nat.reduceEqDiff, Nat.reduceLT, Nat.reduceLeDiff, Nat.reduceAdd, Nat.reduceMul, Nat.reduceSub, Nat.reduceBEq, Int.reduceToNat, List.append_assoc, List.length_append, cond_true, cond_false, List.length_cons, List.length_nil, List.cons_append, List.nil_append, List.append_nil, List.getElem?_cons_zero, List.getElem?_cons_succ, List.set_cons_zero, List.set_cons_succ, List.drop_zero, List.drop_succ_cons, List.take_zero, List.take_succ_cons, List.take_nil, List.drop_nil, eq_self, List.toList_toArray, beq_self_eq_true, g4, loadAgg_X wf, bs_29, ia_29, sz_29, ze_29, ia_2, sz_2, ze_2, ia_3, sz_3, ia_25, sz_25, ia_47, sz_47, ik_25, ik_47, pb_46, pb_26, pb_27]; rfl)) ?_
      refine WV_flat rfl (by omega) ?_
      exact ⟨rfl, rfl⟩
    · have hm := tmod_lt hx.1 hy.1 hy0
      (repeat' (first
  | (with_reducible refine WC_seq ?_) | (refine WC_region ?_) | (with_reducible refine WC_skip ?_) | (with_reducible refine WC_label ?_) | (with_reducible refine WC_scope ?_) | (with_reducible refine WC_block ?_) | (with_reducible refine WC_ret ?_) | (with_reducible refine WC_exit ?_)
  | (with_reducible refine seqQ_norm ?_) | (with_reducible refine seqQ_ret ?_) | (with_reducible refine seqQ_exit ?_) | (with_reducible refine blkQ_norm ?_) | (with_reducible refine blkQ_ret ?_) | (with_reducible refine blkQ_here ?_) | (refine blkQ_out rfl ?_)
  | (refine WO_nil ?_)
  | (refine WD_nil ?_)
  | (refine WD_gate rfl rfl rfl rfl rfl fun K_ hK_ => ?_; simp only [upd_apply, asB_bool, asB_tup, ↓reduceIte, reduceCtorEq, Nat.reduceEqDiff, Bool.not_true, Bool.not_false]; refine hK_ _ ?_; clear hK_ K_)
  | (refine WO_gate rfl rfl rfl rfl rfl fun K_ hK_ => ?_; simp only [upd_apply, asB_bool, asB_tup, ↓reduceIte, reduceCtorEq, Nat.reduceEqDiff, Bool.not_true, Bool.not_false]; refine hK_ _ ?_; clear hK_ K_)
  | (with_reducible refine gateK_yes ?_) | (refine gateK_no (by decide) ?_) | (with_reducible refine gateK_none ?_)
  | ((try first | refine WO_op rfl rfl rfl ?_ | refine WO_op0 rfl rfl ?_ | refine WD_op rfl rfl rfl ?_ | refine WD_op0 rfl rfl ?_); (refine WV_gen fun Q_ hQ_ => ?_; simp (disch := first | omega | (simp only [List.length_cons, List.length_nil, List.length_append]; omega)) only [bb, argF, ↓reduceIte, reduceCtorEq, Nat.reduceEqDiff, Nat.reduceLT, Nat.reduceLeDiff, Nat.reduceAdd, Nat.reduceMul, Nat.reduceSub, Nat.reduceBEq, Int.reduceToNat, List.append_assoc, List.length_append, cond_true, cond_false, List.length_cons, List.length_nil, List.cons_append, List.nil_append, List.append_nil, List.getElem?_cons_zero, List.getElem?_cons_succ, List.set_cons_zero, List.set_cons_succ, List.drop_zero, List.drop_succ_cons, List.take_zero, List.take_succ_cons, List.take_nil, List.drop_nil, eq_self, List.toList_toArray, beq_self_eq_true, g0, g1, g4, g5, g6, b_rem hy0, newPtr_X wf, load1_X wf, loadAgg_X wf, store1_X wf, writeCells_X wf, makeFunc_def, bs_29, ia_29, sz_29, ze_29, ia_2, sz_2, ze_2, ia_3, sz_3, ia_25, sz_25, ia_47, sz_47, ik_25, ik_47, pb_46, pb_26, pb_27]; first | (refine dec_split (Q := Q_) (fun hp_ => ?_) (fun hp_ => ?_) <;> first | (exfalso; omega) | (refine hQ_ _ _ ?_; clear hQ_ Q_)) | (refine dec_splitn (Q := Q_) (fun hp_ => ?_) (fun hp_ => ?_) <;> first | (exfalso; omega) | (refine hQ_ _ _ ?_; clear hQ_ Q_)) | (refine hQ_ _ _ ?_; clear hQ_ Q_)))
  | (refine WC_cond fun K_ hK_ => ?_; simp (disch := omega) only [evT_tmp, upd_apply, WB_some, ↓reduceIte, reduceCtorEq, Nat.reduceEqDiff, Nat.reduceLT]; refine hK_ _ ?_; clear hK_ K_)
  | (with_reducible refine condK_tt ?_) | (with_reducible refine condK_ff ?_) | (with_reducible refine roundQ_exit ?_) | (with_reducible refine roundQ_ret ?_)))
      refine WC_drawnB [.full, .full, .full, .full, .full, .full] (by kernel_rfl) ?_
      (repeat' (first
  | (with_reducible refine WC_seq ?_) | (refine WC_region ?_) | (with_reducible refine WC_skip ?_) | (with_reducible refine WC_label ?_) | (with_reducible refine WC_scope ?_) | (with_reducible refine WC_block ?_) | (with_reducible refine WC_ret ?_) | (with_reducible refine WC_exit ?_)
  | (with_reducible refine seqQ_norm ?_) | (with_reducible refine seqQ_ret ?_) | (with_reducible refine seqQ_exit ?_) | (with_reducible refine blkQ_norm ?_) | (with_reducible refine blkQ_ret ?_) | (with_reducible refine blkQ_here ?_) | (refine blkQ_out rfl ?_)
  | (refine WO_nil ?_)
  | (refine WD_nil ?_)
  | (refine WD_gate rfl rfl rfl rfl rfl fun K_ hK_ => ?_; simp only [upd_apply, asB_bool, asB_tup, ↓reduceIte, reduceCtorEq, Nat.reduceEqDiff, Bool.not_true, Bool.not_false]; refine hK_ _ ?_; clear hK_ K_)
  | (refine WO_gate rfl rfl rfl rfl rfl fun K_ hK_ => ?_; simp only [upd_apply, asB_bool, asB_tup, ↓reduceIte, reduceCtorEq, Nat.reduceEqDiff, Bool.not_true, Bool.not_false]; refine hK_ _ ?_; clear hK_ K_)
  | (with_reducible refine gateK_yes ?_) | (refine gateK_no (by decide) ?_) | (with_reducible refine gateK_none ?_)
  | ((try first | refine WO_op rfl rfl rfl ?_ | refine WO_op0 rfl rfl ?_ | refine WD_op rfl rfl rfl ?_ | refine WD_op0 rfl rfl ?_); (refine WV_gen fun Q_ hQ_ => ?_; simp (disch := first | omega | (simp only [List.length_cons, List.length_nil, List.length_append]; omega)) only [bb, argF, ↓reduceIte, reduceCtorEq, Nat.reduceEqDiff, Nat.reduceLT, Nat.reduceLeDiff, Nat.reduceAdd, Nat.reduceMul, Nat.reduceSub, Nat.reduceBEq, Int.reduceToNat, List.append_assoc, List.length_append, cond_true, cond_false, List.length_cons, List.length_nil, List.cons_append, List.nil_append, List.append_nil, List.getElem?_cons_zero, List.getElem?_cons_succ, List.set_cons_zero, List.set_cons_succ, List.drop_zero, List.drop_succ_cons, List.take_zero, List.take_succ_cons, List.take_nil, List.drop_nil, eq_self, List.toList_toArray, beq_self_eq_true, g0, g1, g4, g5, g6, b_rem hy0, newPtr_X wf, load1_X wf, loadAgg_X wf, store1_X wf, writeCells_X wf, makeFunc_def, bs_29, ia_29, sz_29, ze_29, ia_2, sz_2, ze_2, ia_3, sz_3, ia_25, sz_25, ia_47, sz_47, ik_25, ik_47, pb_46, pb_26, pb_27]; first | (refine dec_split (Q := Q_) (fun hp_ => ?_) (fun hp_ => ?_) <;> first | (exfalso; omega) | (refine hQ_ _ _ ?_; clear hQ_ Q_)) | (refine dec_splitn (Q := Q_) (fun hp_ => ?_) (fun hp_ => ?_) <;> first | (exfalso; omega) | (refine hQ_ _ _ ?_; clear hQ_ Q_)) | (refine hQ_ _ _ ?_; clear hQ_ Q_)))
  | (refine WC_cond fun K_ hK_ => ?_; simp (disch := omega) only [evT_tmp, upd_apply, WB_some, ↓reduceIte, reduceCtorEq, Nat.reduceEqDiff, Nat.reduceLT]; refine hK_ _ ?_; clear hK_ K_)
  | (with_reducible refine condK_tt ?_) | (with_reducible refine condK_ff ?_) | (with_reducible refine roundQ_exit ?_) | (with_reducible refine roundQ_ret ?_)))
      refine roundQ_again (y, x.tmod y) (by simp only; omega) ⟨hy, ⟨hm.1, by omega⟩, ?_, by simp only [upd_apply, ↓reduceIte, reduceCtorEq, Nat.reduceEqDiff]; exact g0, by simp only [upd_apply, ↓reduceIte, reduceCtorEq, Nat.reduceEqDiff]; exact g1, by simp only [upd_apply, ↓reduceIte, reduceCtorEq, Nat.reduceEqDiff]; exact g4, by simp only [upd_apply, ↓reduceIte, reduceCtorEq, Nat.reduceEqDiff], by simp only [upd_apply, ↓reduceIte, reduceCtorEq, Nat.reduceEqDiff]; (try rfl), rfl, rfl⟩
      simp only
      rw [gcd_step hx.1 hy.1 hy0, hgc]
  · exact ⟨hn, ⟨by omega, hd.2⟩, rfl, by simp only [upd_apply, ↓reduceIte, reduceCtorEq, Nat.reduceEqDiff], by simp only [upd_apply, ↓reduceIte, reduceCtorEq, Nat.reduceEqDiff], by simp only [upd_apply, ↓reduceIte, reduceCtorEq, Nat.reduceEqDiff], by simp only [upd_apply, ↓reduceIte, reduceCtorEq, Nat.reduceEqDiff], by simp only [upd_apply, ↓reduceIte, reduceCtorEq, Nat.reduceEqDiff]; (try rfl), rfl, rfl⟩

theorem at_ik {ys : List (List Int)} {n m i k : Nat} (hi : i < ys.length) (hk : k < m) (hl : ys[i].length = m) : (i * m + k) / m = i ∧ (i * m + k) % m = k ∧ W n m (i * m + k) = wt n i * wt m k ∧ yAt ys m (i * m + k) = ys[i][k]'(by omega) := by
  have e1 : (i * m + k) / m = i := by rw [Nat.mul_comm, Nat.mul_add_div (by omega), Nat.div_eq_of_lt hk]; omega
  have e2 : (i * m + k) % m = k := by rw [Nat.mul_comm, Nat.mul_add_mod]; exact Nat.mod_eq_of_lt hk
  refine ⟨e1, e2, ?_, ?_⟩
  · unfold W; rw [e1, e2]
  · have hk' : k < ys[i].length := by omega
    unfold yAt; rw [e1, e2]; simp [List.getD, hi, hk']
theorem ik_lt {i k n m : Nat} (hi : i < n) (hk : k < m) : i * m + k < n * m := by
  have : (i + 1) * m ≤ n * m := Nat.mul_le_mul_right _ hi
  rw [Nat.succ_mul] at this; omega

def fA (n m : Nat) (ys : List (List Int)) (q : Nat) : Int := W n m q * yAt ys m q
def fB (n m : Nat) (ys : List (List Int)) (q : Nat) : Int := ((q / m : Nat) : Int) * (W n m q * yAt ys m q)
def fC (n m : Nat) (ys : List (List Int)) (q : Nat) : Int := ((q % m : Nat) : Int) * (W n m q * yAt ys m q)
def lastY (m : Nat) (ys : List (List Int)) (i : Nat) : Int := (ys.getD i []).getD (m - 1) 0
def fD (n m : Nat) (ys : List (List Int)) (i : Nat) : Int := wt n i * lastY m ys i * lastY m ys i * lastY m ys i

theorem sumsR (b : AV) (yvs : List AV) (ys : List (List Int)) (m : Nat) (hn : 2 ≤ ys.length ∧ ys.length ≤ 10) (hm : 2 ≤ m ∧ m ≤ 6) (hall : ∀ y ∈ ys, y.length = m) (hy : ∀ q, q < ys.length * m → 0 ≤ yAt ys m q ∧ yAt ys m q ≤ 500) (h : H) (x : YsAt h b yvs ys m) :
    (om Try.prog KK).call (.fn 26 [b]) h = .ok (.tup [ii (psum (fA ys.length m ys) (ys.length * m)), ii (psum (fB ys.length m ys) (ys.length * m)), ii (psum (fC ys.length m ys) (ys.length * m)), ii (psum (fD ys.length m ys) ys.length)]) h := by
  have wf := x.wf
  have hnm : ys.length * m ≤ 60 := by
    have := Nat.mul_le_mul hn.2 hm.2; omega
  have hlen : ∀ h', lenE Try.prog 25 b h' = some (ii (ys.length : Int)) := fun h' => x.sl.len un_25
  have hbA : ∀ q, q < ys.length * m → 0 ≤ fA ys.length m ys q ∧ fA ys.length m ys q ≤ 2000 := fun q hq => by
    have := mul_bd (wt2 ys.length (q / m) m (q % m)) (hy q hq)
    unfold fA W; omega
  have hbB : ∀ q, q < ys.length * m → 0 ≤ fB ys.length m ys q ∧ fB ys.length m ys q ≤ 18000 := fun q hq => by
    obtain ⟨i1, i2, i3⟩ := place_idx hm.2 hn.2 hq
    have := mul_bd (a := ((q / m : Nat) : Int)) (x := 9) ⟨by omega, by omega⟩ (hbA q hq)
    unfold fA at this
    unfold fB; omega
  have hbC : ∀ q, q < ys.length * m → 0 ≤ fC ys.length m ys q ∧ fC ys.length m ys q ≤ 10000 := fun q hq => by
    obtain ⟨i1, i2, i3⟩ := place_idx hm.2 hn.2 hq
    have := mul_bd (a := ((q % m : Nat) : Int)) (x := 5) ⟨by omega, by omega⟩ (hbA q hq)
    unfold fA at this
    unfold fC; omega
  have hlast : ∀ i, i < ys.length → 0 ≤ lastY m ys i ∧ lastY m ys i ≤ 500 := fun i hi => by
    have hk : m - 1 < m := by omega
    have := hy _ (ik_lt hi hk)
    obtain ⟨_, _, _, e4⟩ := at_ik (ys := ys) (n := ys.length) hi hk (hall _ (List.getElem_mem hi))
    rw [e4] at this
    have hk' : m - 1 < ys[i].length := by rw [hall _ (List.getElem_mem hi)]; omega
    unfold lastY
    simpa [List.getD, hi, hk'] using this
  have hbD : ∀ i, i < ys.length → 0 ≤ fD ys.length m ys i ∧ fD ys.length m ys i ≤ 250000000 := fun i hi => by
    have := mul_bd (mul_bd (mul_bd (wt_in ys.length i) (hlast i hi)) (hlast i hi)) (hlast i hi)
    unfold fD; omega
  refine WV_to (WV_call (fn := Try.f26) Try.func26 rfl rfl rfl rfl rfl ?_)
  simp only [argF]
  have hwt : ∀ (i n : Nat), i < n → n ≤ 1000 → ∀ l w, w ≤ h.clock + l.length → (om Try.prog KK).call (.fn 46 [ii (i : Int), ii (n : Int)]) (X h l w) = .ok (ii (wt n i)) (X h l w) := fun i n hi hn l w hw => weightR i n hi hn _ (wf.X hw)
  (repeat' (first
  | (with_reducible refine WC_seq ?_) | (refine WC_region ?_) | (with_reducible refine WC_skip ?_) | (with_reducible refine WC_label ?_) | (with_reducible refine WC_scope ?_) | (with_reducible refine WC_block ?_) | (with_reducible refine WC_ret ?_) | (with_reducible refine WC_exit ?_)
  | (with_reducible refine seqQ_norm ?_) | (with_reducible refine seqQ_ret ?_) | (with_reducible refine seqQ_exit ?_) | (with_reducible refine blkQ_norm ?_) | (with_reducible refine blkQ_ret ?_) | (with_reducible refine blkQ_here ?_) | (refine blkQ_out rfl ?_)
  | (refine WO_nil ?_)
  | (refine WD_nil ?_)
  | (refine WD_gate rfl rfl rfl rfl rfl fun K_ hK_ => ?_; simp only [upd_apply, asB_bool, asB_tup, ↓reduceIte, reduceCtorEq, Nat.reduceEqDiff, Bool.not_true, Bool.not_false]; refine hK_ _ ?_; clear hK_ K_)
  | (refine WO_gate rfl rfl rfl rfl rfl fun K_ hK_ => ?_; simp only [upd_apply, asB_bool, asB_tup, ↓reduceIte, reduceCtorEq, Nat.reduceEqDiff, Bool.not_true, Bool.not_false]; refine hK_ _ ?_; clear hK_ K_)
  | (with_reducible refine gateK_yes ?_) | (refine gateK_no (by decide) ?_) | (with_reducible refine gateK_none ?_)
  | ((try first | refine WO_op rfl rfl rfl ?_ | refine WO_op0 rfl rfl ?_ | refine WD_op rfl rfl rfl ?_ | refine WD_op0 rfl rfl ?_); (refine WV_gen fun Q_ hQ_ => ?_; simp (disch := first | omega | (simp only [List.length_cons, List.length_nil, List.length_append]; omega)) only [bb, argF, ↓reduceIte, reduceCtorEq, Nat.reduceEqDiff, Nat.reduceLT, Nat.reduceLeDiff, Nat.reduceAdd, Nat.reduceMul, Nat.reduceSub, Nat.reduceBEq, Int.reduceToNat, List.append_assoc, List.length_append, cond_true, cond_false, List.length_cons, List.length_nil, List.cons_append, List.nil_append, List.append_nil, List.getElem?_cons_zero, List.getElem?_cons_succ, List.set_cons_zero, List.set_cons_succ, List.drop_zero, List.drop_succ_cons, List.take_zero, List.take_succ_cons, List.take_nil, List.drop_nil, eq_self, List.toList_toArray, beq_self_eq_true, hlen, newPtr_X wf, load1_X wf, loadAgg_X wf, store1_X wf, writeCells_X wf, makeFunc_def, bs_29, ia_29, sz_29, ze_29, ia_2, sz_2, ze_2, ia_3, sz_3, ia_25, sz_25, ia_47, sz_47, ik_25, ik_47, pb_46, pb_26, pb_27]; first | (refine dec_split (Q := Q_) (fun hp_ => ?_) (fun hp_ => ?_) <;> first | (exfalso; omega) | (refine hQ_ _ _ ?_; clear hQ_ Q_)) | (refine dec_splitn (Q := Q_) (fun hp_ => ?_) (fun hp_ => ?_) <;> first | (exfalso; omega) | (refine hQ_ _ _ ?_; clear hQ_ Q_)) | (refine hQ_ _ _ ?_; clear hQ_ Q_)))
  | (refine WC_cond fun K_ hK_ => ?_; simp (disch := omega) only [evT_tmp, upd_apply, WB_some, ↓reduceIte, reduceCtorEq, Nat.reduceEqDiff, Nat.reduceLT]; refine hK_ _ ?_; clear hK_ K_)
  | (with_reducible refine condK_tt ?_) | (with_reducible refine condK_ff ?_) | (with_reducible refine roundQ_exit ?_) | (with_reducible refine roundQ_ret ?_)))
  refine WC_loop (fun (i : Nat) f d h' => i ≤ ys.length ∧ f 0 = b ∧ f 6 = ii (psum (fA ys.length m ys) (i * m)) ∧ f 7 = ii (psum (fB ys.length m ys) (i * m)) ∧ f 8 = ii (psum (fC ys.length m ys) (i * m)) ∧ f 9 = ii (psum (fD ys.length m ys) i) ∧ f 10 = ii (i : Int) ∧ d = [] ∧ h' = X h [] h.clock)
    (fun i => ys.length - i) ?_ (ys.length + 1) 0 (by omega) ?_
  · rintro i f d h' ⟨hi, g0, g6, g7, g8, g9, g10, rfl, rfl⟩
    by_cases hlt : i < ys.length
    · obtain ⟨v, hv, hsv, hcv, hrl⟩ := x.row i hlt
      obtain ⟨id, off, hix, hld⟩ := x.sl.at1 wf hlt ik_25
      rw [hv] at hld
      have hlenv : ∀ h', lenE Try.prog 47 v h' = some (ii (m : Int)) := fun h' => hsv.len un_47
      (repeat' (first
  | (with_reducible refine WC_seq ?_) | (refine WC_region ?_) | (with_reducible refine WC_skip ?_) | (with_reducible refine WC_label ?_) | (with_reducible refine WC_scope ?_) | (with_reducible refine WC_block ?_) | (with_reducible refine WC_ret ?_) | (with_reducible refine WC_exit ?_)
  | (with_reducible refine seqQ_norm ?_) | (with_reducible refine seqQ_ret ?_) | (with_reducible refine seqQ_exit ?_) | (with_reducible refine blkQ_norm ?_) | (with_reducible refine blkQ_ret ?_) | (with_reducible refine blkQ_here ?_) | (refine blkQ_out rfl ?_)
  | (refine WO_nil ?_)
  | (refine WD_nil ?_)
  | (refine WD_gate rfl rfl rfl rfl rfl fun K_ hK_ => ?_; simp only [upd_apply, asB_bool, asB_tup, ↓reduceIte, reduceCtorEq, Nat.reduceEqDiff, Bool.not_true, Bool.not_false]; refine hK_ _ ?_; clear hK_ K_)
  | (refine WO_gate rfl rfl rfl rfl rfl fun K_ hK_ => ?_; simp only [upd_apply, asB_bool, asB_tup, ↓reduceIte, reduceCtorEq, Nat.reduceEqDiff, Bool.not_true, Bool.not_false]; refine hK_ _ ?_; clear hK_ K_)
  | (with_reducible refine gateK_yes ?_) | (refine gateK_no (by decide) ?_) | (with_reducible refine gateK_none ?_)
  | ((try first | refine WO_op rfl rfl rfl ?_ | refine WO_op0 rfl rfl ?_ | refine WD_op rfl rfl rfl ?_ | refine WD_op0 rfl rfl ?_); (refine WV_gen fun Q_ hQ_ => ?_; simp (disch := first | omega | (simp only [List.length_cons, List.length_nil, List.length_append]; omega)) only [bb, argF, ↓reduceIte, reduceCtorEq, Nat.reduceEqDiff, Nat.reduceLT, Nat.reduceLeDiff, Nat.reduceAdd, Nat.reduceMul, Nat.reduceSub, Nat.reduceBEq, Int.reduceToNat, List.append_assoc, List.length_append, cond_true, cond_false, List.length_cons, List.length_nil, List.cons_append, List.nil_append, List.append_nil, List.getElem?_cons_zero, List.getElem?_cons_succ, List.set_cons_zero, List.set_cons_succ, List.drop_zero, List.drop_succ_cons, List.take_zero, List.take_succ_cons, List.take_nil, List.drop_nil, eq_self, List.toList_toArray, beq_self_eq_true, g0, g6, g7, g8, g9, g10, hix, hld, hlen, hlenv, newPtr_X wf, load1_X wf, loadAgg_X wf, store1_X wf, writeCells_X wf, makeFunc_def, bs_29, ia_29, sz_29, ze_29, ia_2, sz_2, ze_2, ia_3, sz_3, ia_25, sz_25, ia_47, sz_47, ik_25, ik_47, pb_46, pb_26, pb_27]; first | (refine dec_split (Q := Q_) (fun hp_ => ?_) (fun hp_ => ?_) <;> first | (exfalso; omega) | (refine hQ_ _ _ ?_; clear hQ_ Q_)) | (refine dec_splitn (Q := Q_) (fun hp_ => ?_) (fun hp_ => ?_) <;> first | (exfalso; omega) | (refine hQ_ _ _ ?_; clear hQ_ Q_)) | (refine hQ_ _ _ ?_; clear hQ_ Q_)))
  | (refine WC_cond fun K_ hK_ => ?_; simp (disch := omega) only [evT_tmp, upd_apply, WB_some, ↓reduceIte, reduceCtorEq, Nat.reduceEqDiff, Nat.reduceLT]; refine hK_ _ ?_; clear hK_ K_)
  | (with_reducible refine condK_tt ?_) | (with_reducible refine condK_ff ?_) | (with_reducible refine roundQ_exit ?_) | (with_reducible refine roundQ_ret ?_)))
      refine WC_loop (fun (k : Nat) f d h' => k ≤ m ∧ f 0 = b ∧ f 6 = ii (psum (fA ys.length m ys) (i * m + k)) ∧ f 7 = ii (psum (fB ys.length m ys) (i * m + k)) ∧ f 8 = ii (psum (fC ys.length m ys) (i * m + k)) ∧ f 9 = ii (psum (fD ys.length m ys) i) ∧ f 10 = ii (i : Int) ∧ f 11 = ii (m : Int) ∧ f 12 = ii (k : Int) ∧ d = [] ∧ h' = X h [] h.clock)
        (fun k => m - k) ?_ (m + 1) 0 (by omega) ?_
      · clear g0 g6 g7 g8 g9 g10
        rintro k f d h' ⟨hk, g0, g6, g7, g8, g9, g10, g11, g12, rfl, rfl⟩
        by_cases hkl : k < m
        · obtain ⟨id2, off2, hix2, hld2⟩ := hsv.at1 wf hkl ik_47
          obtain ⟨e1, e2, e3, e4⟩ := at_ik (n := ys.length) hlt hkl hrl
          have hkr : k < ys[i].length := by omega
          have hyz : (ys[i].map ii)[k]? = some (ii (yAt ys m (i * m + k))) := by
            rw [List.getElem?_map, e4]; simp [hkr]
          rw [hyz] at hld2
          have hq := ik_lt (n := ys.length) hlt hkl
          have b1 := hbA _ hq
          have b2 := hbB _ hq
          have b3 := hbC _ hq
          have s1 := psum_in (f := fA ys.length m ys) (b := 2000) (q := i * m + k) (fun q hq' => hbA q (by omega))
          have s2 := psum_in (f := fB ys.length m ys) (b := 18000) (q := i * m + k) (fun q hq' => hbB q (by omega))
          have s3 := psum_in (f := fC ys.length m ys) (b := 10000) (q := i * m + k) (fun q hq' => hbC q (by omega))
          have d1 : fA ys.length m ys (i * m + k) = wt ys.length i * wt m k * yAt ys m (i * m + k) := by unfold fA; rw [e3]
          have d2 : fB ys.length m ys (i * m + k) = (i : Int) * (wt ys.length i * wt m k * yAt ys m (i * m + k)) := by unfold fB; rw [e3, e1]
          have d3 : fC ys.length m ys (i * m + k) = (k : Int) * (wt ys.length i * wt m k * yAt ys m (i * m + k)) := by unfold fC; rw [e3, e2]
          rw [d1] at b1
          rw [d2] at b2
          rw [d3] at b3
          have b0 := wt2 ys.length i m k
          have hw1 := hwt i ys.length hlt (by omega)
          have hw2 := hwt k m hkl (by omega)
          (repeat' (first
  | (with_reducible refine WC_seq ?_) | (refine WC_region ?_) | (with_reducible refine WC_skip ?_) | (with_reducible refine WC_label ?_) | (with_reducible refine WC_scope ?_) | (with_reducible refine WC_block ?_) | (with_reducible refine WC_ret ?_) | (with_reducible refine WC_exit ?_)
  | (with_reducible refine seqQ_norm ?_) | (with_reducible refine seqQ_ret ?_) | (with_reducible refine seqQ_exit ?_) | (with_reducible refine blkQ_norm ?_) | (with_reducible refine blkQ_ret ?_) | (with_reducible refine blkQ_here ?_) | (refine blkQ_out rfl ?_)
  | (refine WO_nil ?_)
  | (refine WD_nil ?_)
  | (refine WD_gate rfl rfl rfl rfl rfl fun K_ hK_ => ?_; simp only [upd_apply, asB_bool, asB_tup, ↓reduceIte, reduceCtorEq, Nat.reduceEqDiff, Bool.not_true, Bool.not_false]; refine hK_ _ ?_; clear hK_ K_)
  | (refine WO_gate rfl rfl rfl rfl rfl fun K_ hK_ => ?_; simp only [upd_apply, asB_bool, asB_tup, ↓reduceIte, reduceCtorEq, Nat.reduceEqDiff, Bool.not_true, Bool.not_false]; refine hK_ _ ?_; clear hK_ K_)
  | (with_reducible refine gateK_yes ?_) | (refine gateK_no (by decide) ?_) | (with_reducible refine gateK_none ?_)
  | ((try first | refine WO_op rfl rfl rfl ?_ | refine WO_op0 rfl rfl ?_ | refine WD_op rfl rfl rfl ?_ | refine WD_op0 rfl rfl ?_); (refine WV_gen fun Q_ hQ_ => ?_; simp (disch := first | omega | (simp only [List.length_cons, List.length_nil, List.length_append]; omega)) only [bb, argF, ↓reduceIte, reduceCtorEq, Nat.reduceEqDiff, Nat.reduceLT, Nat.reduceLeDiff, Nat.reduceAdd, Nat.reduceMul, Nat.reduceSub, Nat.reduceBEq, Int.reduceToNat, List.append_assoc, List.length_append, cond_true, cond_false, List.length_cons, List.length_nil, List.cons_append, List.nil_append, List.append_nil, List.getElem?_cons_zero, List.getElem?_cons_succ, List.set_cons_zero, List.set_cons_succ, List.drop_zero, List.drop_succ_cons, List.take_zero, List.take_succ_cons, List.take_nil, List.drop_nil, eq_self, List.toList_toArray, beq_self_eq_true, g0, g6, g7, g8, g9, g10, g11, g12, hlen, newPtr_X wf, load1_X wf, loadAgg_X wf, store1_X wf, writeCells_X wf, makeFunc_def, bs_29, ia_29, sz_29, ze_29, ia_2, sz_2, ze_2, ia_3, sz_3, ia_25, sz_25, ia_47, sz_47, ik_25, ik_47, pb_46, pb_26, pb_27]; first | (refine dec_split (Q := Q_) (fun hp_ => ?_) (fun hp_ => ?_) <;> first | (exfalso; omega) | (refine hQ_ _ _ ?_; clear hQ_ Q_)) | (refine dec_splitn (Q := Q_) (fun hp_ => ?_) (fun hp_ => ?_) <;> first | (exfalso; omega) | (refine hQ_ _ _ ?_; clear hQ_ Q_)) | (refine hQ_ _ _ ?_; clear hQ_ Q_)))
  | (refine WC_cond fun K_ hK_ => ?_; simp (disch := omega) only [evT_tmp, upd_apply, WB_some, ↓reduceIte, reduceCtorEq, Nat.reduceEqDiff, Nat.reduceLT]; refine hK_ _ ?_; clear hK_ K_)
  | (with_reducible refine condK_tt ?_) | (with_reducible refine condK_ff ?_) | (with_reducible refine roundQ_exit ?_) | (with_reducible refine roundQ_ret ?_)))
          refine WC_drawnB [.no, .no, .no, .no, .no, .no, .no, .no, .no, .no, .no, .no, .no, .no, .no, .full, .full] (by kernel_rfl) ?_
          (repeat' (first
  | (with_reducible refine WC_seq ?_) | (refine WC_region ?_) | (with_reducible refine WC_skip ?_) | (with_reducible refine WC_label ?_) | (with_reducible refine WC_scope ?_) | (with_reducible refine WC_block ?_) | (with_reducible refine WC_ret ?_) | (with_reducible refine WC_exit ?_)
  | (with_reducible refine seqQ_norm ?_) | (with_reducible refine seqQ_ret ?_) | (with_reducible refine seqQ_exit ?_) | (with_reducible refine blkQ_norm ?_) | (with_reducible refine blkQ_ret ?_) | (with_reducible refine blkQ_here ?_) | (refine blkQ_out rfl ?_)
  | (refine WO_nil ?_)
  | (refine WD_nil ?_)
  | (refine WD_gate rfl rfl rfl rfl rfl fun K_ hK_ => ?_; simp only [upd_apply, asB_bool, asB_tup, ↓reduceIte, reduceCtorEq, Nat.reduceEqDiff, Bool.not_true, Bool.not_false]; refine hK_ _ ?_; clear hK_ K_)
  | (refine WO_gate rfl rfl rfl rfl rfl fun K_ hK_ => ?_; simp only [upd_apply, asB_bool, asB_tup, ↓reduceIte, reduceCtorEq, Nat.reduceEqDiff, Bool.not_true, Bool.not_false]; refine hK_ _ ?_; clear hK_ K_)
  | (with_reducible refine gateK_yes ?_) | (refine gateK_no (by decide) ?_) | (with_reducible refine gateK_none ?_)
  | ((try first | refine WO_op rfl rfl rfl ?_ | refine WO_op0 rfl rfl ?_ | refine WD_op rfl rfl rfl ?_ | refine WD_op0 rfl rfl ?_); (refine WV_gen fun Q_ hQ_ => ?_; simp (disch := first | omega | (simp only [List.length_cons, List.length_nil, List.length_append]; omega)) only [bb, argF, ↓reduceIte, reduceCtorEq, Nat.reduceEqDiff, Nat.reduceLT, Nat.reduceLeDiff, Nat.reduceAdd, Nat.reduceMul, Nat.reduceSub, Nat.reduceBEq, Int.reduceToNat, List.append_assoc, List.length_append, cond_true, cond_false, List.length_cons, List.length_nil, List.cons_append, List.nil_append, List.append_nil, List.getElem?_cons_zero, List.getElem?_cons_succ, List.set_cons_zero, List.set_cons_succ, List.drop_zero, List.drop_succ_cons, List.take_zero, List.take_succ_cons, List.take_nil, List.drop_nil, eq_self, List.toList_toArray, beq_self_eq_true, g0, g6, g7, g8, g9, g10, g11, g12, hix, hld, hlen, hw1, hw2, hix2, hld2, newPtr_X wf, load1_X wf, loadAgg_X wf, store1_X wf, writeCells_X wf, makeFunc_def, bs_29, ia_29, sz_29, ze_29, ia_2, sz_2, ze_2, ia_3, sz_3, ia_25, sz_25, ia_47, sz_47, ik_25, ik_47, pb_46, pb_26, pb_27]; first | (refine dec_split (Q := Q_) (fun hp_ => ?_) (fun hp_ => ?_) <;> first | (exfalso; omega) | (refine hQ_ _ _ ?_; clear hQ_ Q_)) | (refine dec_splitn (Q := Q_) (fun hp_ => ?_) (fun hp_ => ?_) <;> first | (exfalso; omega) | (refine hQ_ _ _ ?_; clear hQ_ Q_)) | (refine hQ_ _ _ ?_; clear hQ_ Q_)))
  | (refine WC_cond fun K_ hK_ => ?_; simp (disch := omega) only [evT_tmp, upd_apply, WB_some, ↓reduceIte, reduceCtorEq, Nat.reduceEqDiff, Nat.reduceLT]; refine hK_ _ ?_; clear hK_ K_)
  | (with_reducible refine condK_tt ?_) | (with_reducible refine condK_ff ?_) | (with_reducible refine roundQ_exit ?_) | (with_reducible refine roundQ_ret ?_)))
          refine roundQ_again (k + 1) (by omega) ⟨hkl, by simp only [upd_apply, ↓reduceIte, reduceCtorEq, Nat.reduceEqDiff]; exact g0, ?_, ?_, ?_, by simp only [upd_apply, ↓reduceIte, reduceCtorEq, Nat.reduceEqDiff]; exact g9, by simp only [upd_apply, ↓reduceIte, reduceCtorEq, Nat.reduceEqDiff]; exact g10, by simp only [upd_apply, ↓reduceIte, reduceCtorEq, Nat.reduceEqDiff]; exact g11, by simp only [upd_apply, ↓reduceIte, reduceCtorEq, Nat.reduceEqDiff]; rfl, rfl, rfl⟩
          · simp only [upd_apply, ↓reduceIte, reduceCtorEq, Nat.reduceEqDiff]
            rw [← d1]; rfl
          · simp only [upd_apply, ↓reduceIte, reduceCtorEq, Nat.reduceEqDiff]
            rw [← d2]; rfl
          · simp only [upd_apply, ↓reduceIte, reduceCtorEq, Nat.reduceEqDiff]
            rw [← d3]; rfl
        · have hke : k = m := by omega
          subst hke
          obtain ⟨id2, off2, hix2, hld2⟩ := hsv.at1 wf (i := k - 1) (by omega) ik_47
          have hkr : k - 1 < ys[i].length := by omega
          have hyz : (ys[i].map ii)[k - 1]? = some (ii (lastY k ys i)) := by
            rw [List.getElem?_map]; simp [lastY, List.getD, hlt, hkr]
          rw [hyz] at hld2
          have ek : (k : Int) - 1 = ((k - 1 : Nat) : Int) := by omega
          have hw1 := hwt i ys.length hlt (by omega)
          have b0 := wt_in ys.length i
          have bl := hlast i hlt
          have b1 := mul_bd b0 bl
          have b2 := mul_bd b1 bl
          have b3 := mul_bd b2 bl
          have s4 := psum_in (f := fD ys.length k ys) (b := 250000000) (q := i) (fun q hq' => hbD q (by omega))
          (repeat' (first
  | (with_reducible refine WC_seq ?_) | (refine WC_region ?_) | (with_reducible refine WC_skip ?_) | (with_reducible refine WC_label ?_) | (with_reducible refine WC_scope ?_) | (with_reducible refine WC_block ?_) | (with_reducible refine WC_ret ?_) | (with_reducible refine WC_exit ?_)
  | (with_reducible refine seqQ_norm ?_) | (with_reducible refine seqQ_ret ?_) | (with_reducible refine seqQ_exit ?_) | (with_reducible refine blkQ_norm ?_) | (with_reducible refine blkQ_ret ?_) | (with_reducible refine blkQ_here ?_) | (refine blkQ_out rfl ?_)
  | (refine WO_nil ?_)
  | (refine WD_nil ?_)
  | (refine WD_gate rfl rfl rfl rfl rfl fun K_ hK_ => ?_; simp only [upd_apply, asB_bool, asB_tup, ↓reduceIte, reduceCtorEq, Nat.reduceEqDiff, Bool.not_true, Bool.not_false]; refine hK_ _ ?_; clear hK_ K_)
  | (refine WO_gate rfl rfl rfl rfl rfl fun K_ hK_ => ?_; simp only [upd_apply, asB_bool, asB_tup, ↓reduceIte, reduceCtorEq, Nat.reduceEqDiff, Bool.not_true, Bool.not_false]; refine hK_ _ ?_; clear hK_ K_)
  | (with_reducible refine gateK_yes ?_) | (refine gateK_no (by decide) ?_) | (with_reducible refine gateK_none ?_)
  | ((try first | refine WO_op rfl rfl rfl ?_ | refine WO_op0 rfl rfl ?_ | refine WD_op rfl rfl rfl ?_ | refine WD_op0 rfl rfl ?_); (refine WV_gen fun Q_ hQ_ => ?_; simp (disch := first | omega | (simp only [List.length_cons, List.length_nil, List.length_append]; omega)) only [bb, argF, ↓reduceIte, reduceCtorEq, Nat.reduceEqDiff, Nat.reduceLT, Nat.reduceLeDiff, Nat.reduceAdd, Nat.reduceMul, Nat.reduceSub, Nat.reduceBEq, Int.reduceToNat, List.append_assoc, List.length_append, cond_true, cond_false, List.length_cons, List.length_nil, List.cons_append, List.nil_append, List.append_nil, List.getElem?_cons_zero, List.getElem?_cons_succ, List.set_cons_zero, List.set_cons_succ, List.drop_zero, List.drop_succ_cons, List.take_zero, List.take_succ_cons, List.take_nil, List.drop_nil, eq_self, List.toList_toArray, beq_self_eq_true, g0, g6, g7, g8, g9, g10, g11, g12, hix, hld, hlen, hw1, ek, hix2, hld2, newPtr_X wf, load1_X wf, loadAgg_X wf, store1_X wf, writeCells_X wf, makeFunc_def, bs_29, ia_29, sz_29, ze_29, ia_2, sz_2, ze_2, ia_3, sz_3, ia_25, sz_25, ia_47, sz_47, ik_25, ik_47, pb_46, pb_26, pb_27]; first | (refine dec_split (Q := Q_) (fun hp_ => ?_) (fun hp_ => ?_) <;> first | (exfalso; omega) | (refine hQ_ _ _ ?_; clear hQ_ Q_)) | (refine dec_splitn (Q := Q_) (fun hp_ => ?_) (fun hp_ => ?_) <;> first | (exfalso; omega) | (refine hQ_ _ _ ?_; clear hQ_ Q_)) | (refine hQ_ _ _ ?_; clear hQ_ Q_)))
  | (refine WC_cond fun K_ hK_ => ?_; simp (disch := omega) only [evT_tmp, upd_apply, WB_some, ↓reduceIte, reduceCtorEq, Nat.reduceEqDiff, Nat.reduceLT]; refine hK_ _ ?_; clear hK_ K_)
  | (with_reducible refine condK_tt ?_) | (with_reducible refine condK_ff ?_) | (with_reducible refine roundQ_exit ?_) | (with_reducible refine roundQ_ret ?_)))
          refine roundQ_again (i + 1) (by omega) ⟨hlt, by simp only [upd_apply, ↓reduceIte, reduceCtorEq, Nat.reduceEqDiff]; exact g0, by simp only [upd_apply, ↓reduceIte, reduceCtorEq, Nat.reduceEqDiff]; rw [Nat.succ_mul]; exact g6, by simp only [upd_apply, ↓reduceIte, reduceCtorEq, Nat.reduceEqDiff]; rw [Nat.succ_mul]; exact g7, by simp only [upd_apply, ↓reduceIte, reduceCtorEq, Nat.reduceEqDiff]; rw [Nat.succ_mul]; exact g8, by simp only [upd_apply, ↓reduceIte, reduceCtorEq, Nat.reduceEqDiff]; rfl, by simp only [upd_apply, ↓reduceIte, reduceCtorEq, Nat.reduceEqDiff]; (try rfl), rfl, rfl⟩
      · exact ⟨Nat.zero_le _, by simp only [upd_apply, ↓reduceIte, reduceCtorEq, Nat.reduceEqDiff]; exact g0, by simp only [upd_apply, ↓reduceIte, reduceCtorEq, Nat.reduceEqDiff]; exact g6, by simp only [upd_apply, ↓reduceIte, reduceCtorEq, Nat.reduceEqDiff]; exact g7, by simp only [upd_apply, ↓reduceIte, reduceCtorEq, Nat.reduceEqDiff]; exact g8, by simp only [upd_apply, ↓reduceIte, reduceCtorEq, Nat.reduceEqDiff]; exact g9, by simp only [upd_apply, ↓reduceIte, reduceCtorEq, Nat.reduceEqDiff]; exact g10, by simp only [upd_apply, ↓reduceIte, reduceCtorEq, Nat.reduceEqDiff], by simp only [upd_apply, ↓reduceIte, reduceCtorEq, Nat.reduceEqDiff]; (try rfl), rfl, rfl⟩
    · have hie : i = ys.length := by omega
      subst hie
      (repeat' (first
  | (with_reducible refine WC_seq ?_) | (refine WC_region ?_) | (with_reducible refine WC_skip ?_) | (with_reducible refine WC_label ?_) | (with_reducible refine WC_scope ?_) | (with_reducible refine WC_block ?_) | (with_reducible refine WC_ret ?_) | (with_reducible refine WC_exit ?_)
  | (with_reducible refine seqQ_norm ?_) | (with_reducible refine seqQ_ret ?_) | (with_reducible refine seqQ_exit ?_) | (with_reducible refine blkQ_norm ?_) | (with_reducible refine blkQ_ret ?_) | (with_reducible refine blkQ_here ?_) | (refine blkQ_out rfl ?_)
  | (refine WO_nil ?_)
  | (refine WD_nil ?_)
  | (refine WD_gate rfl rfl rfl rfl rfl fun K_ hK_ => ?_; simp only [upd_apply, asB_bool, asB_tup, ↓reduceIte, reduceCtorEq, Nat.reduceEqDiff, Bool.not_true, Bool.not_false]; refine hK_ _ ?_; clear hK_ K_)
  | (refine WO_gate rfl rfl rfl rfl rfl fun K_ hK_ => ?_; simp only [upd_apply, asB_bool, asB_tup, ↓reduceIte, reduceCtorEq, Nat.reduceEqDiff, Bool.not_true, Bool.not_false]; refine hK_ _ ?_; clear hK_ K_)
  | (with_reducible refine gateK_yes ?_) | (refine gateK_no (by decide) ?_) | (with_reducible refine gateK_none ?_)
  | ((try first | refine WO_op rfl rfl rfl ?_ | refine WO_op0 rfl rfl ?_ | refine WD_op rfl rfl rfl ?_ | refine WD_op0 rfl rfl ?_); (refine WV_gen fun Q_ hQ_ => ?_; simp (disch := first | omega | (simp only [List.length_cons, List.length_nil, List.length_append]; omega)) only [bb, argF, ↓reduceIte, reduceCtorEq, Nat.reduceEqDiff, Nat.reduceLT, Nat.reduceLeDiff, Nat.reduceAdd, Nat.reduceMul, Nat.reduceSub, Nat.reduceBEq, Int.reduceToNat, List.append_assoc, List.length_append, cond_true, cond_false, List.length_cons, List.length_nil, List.cons_append, List.nil_append, List.append_nil, List.getElem?_cons_zero, List.getElem?_cons_succ, List.set_cons_zero, List.set_cons_succ, List.drop_zero, List.drop_succ_cons, List.take_zero, List.take_succ_cons, List.take_nil, List.drop_nil, eq_self, List.toList_toArray, beq_self_eq_true, g0, g6, g7, g8, g9, g10, hlen, newPtr_X wf, load1_X wf, loadAgg_X wf, store1_X wf, writeCells_X wf, makeFunc_def, bs_29, ia_29, sz_29, ze_29, ia_2, sz_2, ze_2, ia_3, sz_3, ia_25, sz_25, ia_47, sz_47, ik_25, ik_47, pb_46, pb_26, pb_27]; first | (refine dec_split (Q := Q_) (fun hp_ => ?_) (fun hp_ => ?_) <;> first | (exfalso; omega) | (refine hQ_ _ _ ?_; clear hQ_ Q_)) | (refine dec_splitn (Q := Q_) (fun hp_ => ?_) (fun hp_ => ?_) <;> first | (exfalso; omega) | (refine hQ_ _ _ ?_; clear hQ_ Q_)) | (refine hQ_ _ _ ?_; clear hQ_ Q_)))
  | (refine WC_cond fun K_ hK_ => ?_; simp (disch := omega) only [evT_tmp, upd_apply, WB_some, ↓reduceIte, reduceCtorEq, Nat.reduceEqDiff, Nat.reduceLT]; refine hK_ _ ?_; clear hK_ K_)
  | (with_reducible refine condK_tt ?_) | (with_reducible refine condK_ff ?_) | (with_reducible refine roundQ_exit ?_) | (with_reducible refine roundQ_ret ?_)))
      refine endQ_ret _ _ rfl (by simp only [retE, resultsE, resultE, get_mkM _ _ (show 2 < 384 by decide), get_mkM _ _ (show 3 < 384 by decide), get_mkM _ _ (show 4 < 384 by decide), get_mkM _ _ (show 5 < 384 by decide)]; rfl) ?_
      simp only [upd_apply, ↓reduceIte, reduceCtorEq, Nat.reduceEqDiff]
      refine WV_flat rfl (by omega) ?_
      exact ⟨rfl, rfl⟩
  · exact ⟨Nat.zero_le _, by simp only [upd_apply, ↓reduceIte, reduceCtorEq, Nat.reduceEqDiff], by simp only [upd_apply, ↓reduceIte, reduceCtorEq, Nat.reduceEqDiff]; rw [Nat.zero_mul]; rfl, by simp only [upd_apply, ↓reduceIte, reduceCtorEq, Nat.reduceEqDiff]; rw [Nat.zero_mul]; rfl, by simp only [upd_apply, ↓reduceIte, reduceCtorEq, Nat.reduceEqDiff]; rw [Nat.zero_mul]; rfl, by simp only [upd_apply, ↓reduceIte, reduceCtorEq, Nat.reduceEqDiff]; rfl, by simp only [upd_apply, ↓reduceIte, reduceCtorEq, Nat.reduceEqDiff]; (try rfl), rfl, rfl⟩
end Go.Proofs.Ytghondkiondeaab
end

/- EvI2 -/
section
/-
  LAYER 2, THE REFERENCE: what is asked of a true hull.
-/
namespace Go.Proofs.Ytghondkiondeaab
open Go.Ev
set_option maxRecDepth 100000
set_option linter.unusedSimpArgs false
set_option linter.unusedVariables false
set_option maxHeartbeats 2000000

theorem psum_mul (c : Int) (f : Nat → Int) : ∀ n, psum (fun q => c * f q) n = c * psum f n
  | 0 => by simp [psum]
  | n + 1 => by simp only [psum]; rw [psum_mul c f n, Int.mul_add]
theorem psum_add (f g : Nat → Int) : ∀ n, psum (fun q => f q + g q) n = psum f n + psum g n
  | 0 => by simp [psum]
  | n + 1 => by simp only [psum]; rw [psum_add f g n]; omega
theorem psum_block (f : Nat → Int) (a : Nat) : ∀ k, psum f (a + k) = psum f a + psum (fun j => f (a + j)) k
  | 0 => by simp [psum]
  | k + 1 => by rw [← Nat.add_assoc]; simp only [psum]; rw [psum_block f a k]; omega
theorem psum_last {f : Nat → Int} {c : Int} {m : Nat} (hm : 0 < m) (h : ∀ k, k < m → f k = if k + 1 = m then c else 0) : psum f m = c := by
  obtain ⟨m, rfl⟩ : ∃ j, m = j + 1 := ⟨m - 1, by omega⟩
  simp only [psum]
  have h0 : psum f m = 0 := by
    rw [psum_congr (g := fun _ => 0) (fun q hq => by rw [h q (by omega), if_neg (by omega)])]
    clear h
    induction m with
    | zero => rfl
    | succ m ih => simp only [psum]; rw [ih (by omega)]; rfl
  rw [h0, h m (by omega), if_pos rfl]; omega
/-- Only the last of each station. -/
theorem psum_lasts {f g : Nat → Int} {m : Nat} (hm : 0 < m) : ∀ (n : Nat), (∀ i k, i < n → k < m → f (i * m + k) = if k + 1 = m then g i else 0) → psum f (n * m) = psum g n
  | 0, _ => by simp [psum]
  | n + 1, h => by
    rw [Nat.succ_mul, psum_block, psum_lasts hm n (fun i k hi hk => h i k (by omega) hk), psum_last hm (fun k hk => h n k (by omega) hk)]
    rfl

theorem num47 (sp st : Int) (n m : Nat) (ys : List (List Int)) : numS 47 sp st n m ys = sp * psum (fB n m ys) (n * m) := by
  rw [← psum_mul]
  refine psum_congr fun q _ => ?_
  simp only [numOf, fB, ↓reduceIte]
  grind
theorem num48 (sp st : Int) (n m : Nat) (ys : List (List Int)) : numS 48 sp st n m ys = st * psum (fC n m ys) (n * m) := by
  rw [← psum_mul]
  refine psum_congr fun q _ => ?_
  simp only [numOf, fC, ↓reduceIte, Nat.reduceEqDiff]
  grind
theorem den47 (st : Int) (n m : Nat) (ys : List (List Int)) : denS 47 st n m ys = psum (fA n m ys) (n * m) := by
  refine psum_congr fun q _ => ?_
  simp only [denOf, fA, ↓reduceIte, Nat.reduceEqDiff]
theorem den48 (st : Int) (n m : Nat) (ys : List (List Int)) : denS 48 st n m ys = psum (fA n m ys) (n * m) := by
  refine psum_congr fun q _ => ?_
  simp only [denOf, fA, ↓reduceIte, Nat.reduceEqDiff]
theorem den49 (st : Int) (n m : Nat) (ys : List (List Int)) : denS 49 st n m ys = 3 * st * psum (fA n m ys) (n * m) := by
  rw [← psum_mul]
  refine psum_congr fun q _ => ?_
  simp only [denOf, fA, ↓reduceIte, Nat.reduceEqDiff]
theorem wt_last {m : Nat} (hm : 0 < m) : wt m (m - 1) = 1 := by unfold wt; rw [if_pos (by omega)]
theorem num49 (sp st : Int) (m : Nat) (hm : 0 < m) (ys : List (List Int)) (hall : ∀ y ∈ ys, y.length = m) : numS 49 sp st ys.length m ys = 3 * st * st * psum (fC ys.length m ys) (ys.length * m) + 2 * psum (fD ys.length m ys) ys.length := by
  have h2 : psum (fun q => if q % m + 1 = m then 2 * W ys.length m q * yAt ys m q * yAt ys m q * yAt ys m q else 0) (ys.length * m) = psum (fun i => 2 * fD ys.length m ys i) ys.length := by
    refine psum_lasts hm _ fun i k hi hk => ?_
    have hl := hall _ (List.getElem_mem hi)
    obtain ⟨e1, e2, e3, e4⟩ := at_ik (n := ys.length) hi hk hl
    simp only [e2]
    by_cases hkm : k + 1 = m
    · rw [if_pos hkm, if_pos hkm, e3]
      have ek : k = m - 1 := by omega
      have e5 : lastY m ys i = yAt ys m (i * m + k) := by
        rw [e4]
        have hk' : m - 1 < ys[i].length := by omega
        unfold lastY
        simp [List.getD, hi, hk', ek]
      have e6 : wt m k = 1 := by rw [ek]; exact wt_last hm
      unfold fD
      rw [e5, e6]
      grind
    · rw [if_neg hkm, if_neg hkm]
  rw [← psum_mul, ← psum_mul, ← h2, ← psum_add]
  refine psum_congr fun q _ => ?_
  simp only [numOf, fC, ↓reduceIte, Nat.reduceEqDiff]
  split <;> grind

/-- Bounds of the sums. -/
theorem sums_in {ys : List (List Int)} {m : Nat} (hn : 2 ≤ ys.length ∧ ys.length ≤ 10) (hm : 2 ≤ m ∧ m ≤ 6) (hall : ∀ y ∈ ys, y.length = m) (hy : ∀ q, q < ys.length * m → 0 ≤ yAt ys m q ∧ yAt ys m q ≤ 500) :
    (0 ≤ psum (fA ys.length m ys) (ys.length * m) ∧ psum (fA ys.length m ys) (ys.length * m) ≤ 120000) ∧ (0 ≤ psum (fB ys.length m ys) (ys.length * m) ∧ psum (fB ys.length m ys) (ys.length * m) ≤ 1080000) ∧ (0 ≤ psum (fC ys.length m ys) (ys.length * m) ∧ psum (fC ys.length m ys) (ys.length * m) ≤ 600000) ∧ 0 ≤ psum (fD ys.length m ys) ys.length ∧ psum (fD ys.length m ys) ys.length ≤ 2500000000 := by
  have hnm : ys.length * m ≤ 60 := by
    have := Nat.mul_le_mul hn.2 hm.2; omega
  have hbA : ∀ q, q < ys.length * m → 0 ≤ fA ys.length m ys q ∧ fA ys.length m ys q ≤ 2000 := fun q hq => by
    have := mul_bd (wt2 ys.length (q / m) m (q % m)) (hy q hq)
    unfold fA W; omega
  have hbB : ∀ q, q < ys.length * m → 0 ≤ fB ys.length m ys q ∧ fB ys.length m ys q ≤ 18000 := fun q hq => by
    obtain ⟨i1, i2, i3⟩ := place_idx hm.2 hn.2 hq
    have := mul_bd (a := ((q / m : Nat) : Int)) (x := 9) ⟨by omega, by omega⟩ (hbA q hq)
    unfold fA at this
    unfold fB; omega
  have hbC : ∀ q, q < ys.length * m → 0 ≤ fC ys.length m ys q ∧ fC ys.length m ys q ≤ 10000 := fun q hq => by
    obtain ⟨i1, i2, i3⟩ := place_idx hm.2 hn.2 hq
    have := mul_bd (a := ((q % m : Nat) : Int)) (x := 5) ⟨by omega, by omega⟩ (hbA q hq)
    unfold fA at this
    unfold fC; omega
  have hlast : ∀ i, i < ys.length → 0 ≤ lastY m ys i ∧ lastY m ys i ≤ 500 := fun i hi => by
    have hk : m - 1 < m := by omega
    have := hy _ (ik_lt hi hk)
    obtain ⟨_, _, _, e4⟩ := at_ik (ys := ys) (n := ys.length) hi hk (hall _ (List.getElem_mem hi))
    rw [e4] at this
    have hk' : m - 1 < ys[i].length := by rw [hall _ (List.getElem_mem hi)]; omega
    unfold lastY
    simpa [List.getD, hi, hk'] using this
  have hbD : ∀ i, i < ys.length → 0 ≤ fD ys.length m ys i ∧ fD ys.length m ys i ≤ 250000000 := fun i hi => by
    have := mul_bd (mul_bd (mul_bd (wt_in ys.length i) (hlast i hi)) (hlast i hi)) (hlast i hi)
    unfold fD; omega
  have s1 := psum_in (b := 2000) hbA
  have s2 := psum_in (b := 18000) hbB
  have s3 := psum_in (b := 10000) hbC
  have s4 := psum_in (b := 250000000) hbD
  omega

theorem valueR (sp st : Int) (a b : AV) (yvs : List AV) (rows : List (List (Int × Int))) (ys : List (List Int)) (t : IsTrue sp st rows ys) (what : Int) (hwh : 0 ≤ what ∧ what ≤ 2) (h : H) (y : YsAt h b yvs ys (m0 rows)) :
    (om Try.prog KK).call (.fn 30 [.agg [ii sp, ii st, a], b, ii what]) h = .ok (frac (numS (gOf what) sp st rows.length (m0 rows) ys) (denS (gOf what) st rows.length (m0 rows) ys)) h := by
  have wf := y.wf
  have hn := t.n
  have hyn := t.yn
  rw [← hyn] at hn
  have hy : ∀ q, q < ys.length * m0 rows → 0 ≤ yAt ys (m0 rows) q ∧ yAt ys (m0 rows) q ≤ 500 := by rw [hyn]; exact t.y
  have hpos : ∀ g, 0 < denS g st ys.length (m0 rows) ys := fun g => by rw [hyn]; exact denS_pos t
  rw [← hyn]
  obtain ⟨sA, sB, sC, sD⟩ := sums_in hn t.m t.yall hy
  have hp47 := hpos 47
  rw [den47] at hp47
  have hsp := t.sp
  have hst := t.st
  have hsu : ∀ l w, w ≤ h.clock + l.length → (om Try.prog KK).call (.fn 26 [b]) (X h l w) = _ := fun l w hw => sumsR b yvs ys (m0 rows) hn t.m t.yall hy _ (y.up l w hw)
  refine WV_to (WV_call (fn := Try.f30) Try.func30 rfl rfl rfl rfl rfl ?_)
  simp only [argF]
  have n1 := mul_bd (a := sp) (x := 1000) ⟨by omega, by omega⟩ sB
  have n2 := mul_bd (a := st) (x := 100) ⟨by omega, by omega⟩ sC
  have n3 := mul_bd (a := 3 * st) (x := 300) ⟨by omega, by omega⟩ (mul_bd (a := st) (x := 100) ⟨by omega, by omega⟩ sC)
  have n4 := mul_bd (a := 3 * st) (x := 300) (b := st) (y := 100) ⟨by omega, by omega⟩ ⟨by omega, by omega⟩
  have n5 := mul_bd n4 sC
  have n6 := mul_bd (a := 3 * st) (x := 300) ⟨by omega, by omega⟩ sA
  have hp49 : 0 < 3 * st * psum (fA ys.length (m0 rows) ys) (ys.length * m0 rows) := Int.mul_pos (by omega) hp47
  rcases (by omega : what = 0 ∨ what = 1 ∨ what = 2) with rfl | rfl | rfl
  · rw [show gOf 0 = 47 from rfl, num47, den47]
    (repeat' (first
  | (with_reducible refine WC_seq ?_) | (refine WC_region ?_) | (with_reducible refine WC_skip ?_) | (with_reducible refine WC_label ?_) | (with_reducible refine WC_scope ?_) | (with_reducible refine WC_block ?_) | (with_reducible refine WC_ret ?_) | (with_reducible refine WC_exit ?_)
  | (with_reducible refine seqQ_norm ?_) | (with_reducible refine seqQ_ret ?_) | (with_reducible refine seqQ_exit ?_) | (with_reducible refine blkQ_norm ?_) | (with_reducible refine blkQ_ret ?_) | (with_reducible refine blkQ_here ?_) | (refine blkQ_out rfl ?_)
  | (refine WO_nil ?_)
  | (refine WD_nil ?_)
  | (refine WD_gate rfl rfl rfl rfl rfl fun K_ hK_ => ?_; simp only [upd_apply, asB_bool, asB_tup, ↓reduceIte, reduceCtorEq, Nat.reduceEqDiff, Bool.not_true, Bool.not_false]; refine hK_ _ ?_; clear hK_ K_)
  | (refine WO_gate rfl rfl rfl rfl rfl fun K_ hK_ => ?_; simp only [upd_apply, asB_bool, asB_tup, ↓reduceIte, reduceCtorEq, Nat.reduceEqDiff, Bool.not_true, Bool.not_false]; refine hK_ _ ?_; clear hK_ K_)
  | (with_reducible refine gateK_yes ?_) | (refine gateK_no (by decide) ?_) | (with_reducible refine gateK_none ?_)
  | ((try first | refine WO_op rfl rfl rfl ?_ | refine WO_op0 rfl rfl ?_ | refine WD_op rfl rfl rfl ?_ | refine WD_op0 rfl rfl ?_); (refine WV_gen fun Q_ hQ_ => ?_; simp (disch := first | omega | (simp only [List.length_cons, List.length_nil, List.length_append]; omega)) only [bb, argF, ↓reduceIte, reduceCtorEq, Nat.reduceEqDiff, Nat.reduceLT, Nat.reduceLeDiff, Nat.reduceAdd, Nat.reduceMul, Nat.reduceSub, Nat.reduceBEq, Int.reduceToNat, List.append_assoc, List.length_append, cond_true, cond_false, List.length_cons, List.length_nil, List.cons_append, List.nil_append, List.append_nil, List.getElem?_cons_zero, List.getElem?_cons_succ, List.set_cons_zero, List.set_cons_succ, List.drop_zero, List.drop_succ_cons, List.take_zero, List.take_succ_cons, List.take_nil, List.drop_nil, eq_self, List.toList_toArray, beq_self_eq_true, hsu, frac, newPtr_X wf, load1_X wf, loadAgg_X wf, store1_X wf, writeCells_X wf, makeFunc_def, bs_29, ia_29, sz_29, ze_29, ia_2, sz_2, ze_2, ia_3, sz_3, ia_25, sz_25, ia_47, sz_47, ik_25, ik_47, fo_24_0, fo_24_1, fo_24_2, ia_24, sz_24, pb_46, pb_26, pb_27, pb_30]; first | (refine dec_split (Q := Q_) (fun hp_ => ?_) (fun hp_ => ?_) <;> first | (exfalso; omega) | (refine hQ_ _ _ ?_; clear hQ_ Q_)) | (refine dec_splitn (Q := Q_) (fun hp_ => ?_) (fun hp_ => ?_) <;> first | (exfalso; omega) | (refine hQ_ _ _ ?_; clear hQ_ Q_)) | (refine hQ_ _ _ ?_; clear hQ_ Q_) | (refine WV_eq (fractionR _ _ ⟨n1.1, by omega⟩ ⟨hp47, by omega⟩ _ (wf.X (by simp only [List.length_append, List.length_cons, List.length_nil]; omega))) ?_; refine hQ_ _ _ ?_; clear hQ_ Q_)))
  | (refine WC_cond fun K_ hK_ => ?_; simp (disch := omega) only [evT_tmp, upd_apply, WB_some, ↓reduceIte, reduceCtorEq, Nat.reduceEqDiff, Nat.reduceLT]; refine hK_ _ ?_; clear hK_ K_)
  | (with_reducible refine condK_tt ?_) | (with_reducible refine condK_ff ?_) | (with_reducible refine roundQ_exit ?_) | (with_reducible refine roundQ_ret ?_)))
    refine endQ_ret _ _ rfl (retc0 (by decide) (by simp (disch := first | omega | (simp only [List.length_cons, List.length_nil, List.length_append]; omega)) only [bb, argF, ↓reduceIte, reduceCtorEq, Nat.reduceEqDiff, Nat.reduceLT, Nat.reduceLeDiff, Nat.reduceAdd, Nat.reduceMul, Nat.reduceSub, Nat.reduceBEq, Int.reduceToNat, List.append_assoc, List.length_append, cond_true, cond_false, List.length_cons, List.length_nil, List.cons_append, List.nil_append, List.append_nil, List.getElem?_cons_zero, List.getElem?_cons_succ, List.set_cons_zero, List.set_cons_succ, List.drop_zero, List.drop_succ_cons, List.take_zero, List.take_succ_cons, List.take_nil, List.drop_nil, eq_self, List.toList_toArray, beq_self_eq_true, loadAgg_X wf, frac, bs_29, ia_29, sz_29, ze_29, ia_2, sz_2, ze_2, ia_3, sz_3, ia_25, sz_25, ia_47, sz_47, ik_25, ik_47, fo_24_0, fo_24_1, fo_24_2, ia_24, sz_24, pb_46, pb_26, pb_27, pb_30]; rfl)) ?_
    refine WV_flat rfl (by omega) ?_
    exact ⟨rfl, rfl⟩
  · rw [show gOf 1 = 48 from rfl, num48, den48]
    (repeat' (first
  | (with_reducible refine WC_seq ?_) | (refine WC_region ?_) | (with_reducible refine WC_skip ?_) | (with_reducible refine WC_label ?_) | (with_reducible refine WC_scope ?_) | (with_reducible refine WC_block ?_) | (with_reducible refine WC_ret ?_) | (with_reducible refine WC_exit ?_)
  | (with_reducible refine seqQ_norm ?_) | (with_reducible refine seqQ_ret ?_) | (with_reducible refine seqQ_exit ?_) | (with_reducible refine blkQ_norm ?_) | (with_reducible refine blkQ_ret ?_) | (with_reducible refine blkQ_here ?_) | (refine blkQ_out rfl ?_)
  | (refine WO_nil ?_)
  | (refine WD_nil ?_)
  | (refine WD_gate rfl rfl rfl rfl rfl fun K_ hK_ => ?_; simp only [upd_apply, asB_bool, asB_tup, ↓reduceIte, reduceCtorEq, Nat.reduceEqDiff, Bool.not_true, Bool.not_false]; refine hK_ _ ?_; clear hK_ K_)
  | (refine WO_gate rfl rfl rfl rfl rfl fun K_ hK_ => ?_; simp only [upd_apply, asB_bool, asB_tup, ↓reduceIte, reduceCtorEq, Nat.reduceEqDiff, Bool.not_true, Bool.not_false]; refine hK_ _ ?_; clear hK_ K_)
  | (with_reducible refine gateK_yes ?_) | (refine gateK_no (by decide) ?_) | (with_reducible refine gateK_none ?_)
  | ((try first | refine WO_op rfl rfl rfl ?_ | refine WO_op0 rfl rfl ?_ | refine WD_op rfl rfl rfl ?_ | refine WD_op0 rfl rfl ?_); (refine WV_gen fun Q_ hQ_ => ?_; simp (disch := first | omega | (simp only [List.length_cons, List.length_nil, List.length_append]; omega)) only [bb, argF, ↓reduceIte, reduceCtorEq, Nat.reduceEqDiff, Nat.reduceLT, Nat.reduceLeDiff, Nat.reduceAdd, Nat.reduceMul, Nat.reduceSub, Nat.reduceBEq, Int.reduceToNat, List.append_assoc, List.length_append, cond_true, cond_false, List.length_cons, List.length_nil, List.cons_append, List.nil_append, List.append_nil, List.getElem?_cons_zero, List.getElem?_cons_succ, List.set_cons_zero, List.set_cons_succ, List.drop_zero, List.drop_succ_cons, List.take_zero, List.take_succ_cons, List.take_nil, List.drop_nil, eq_self, List.toList_toArray, beq_self_eq_true, hsu, frac, newPtr_X wf, load1_X wf, loadAgg_X wf, store1_X wf, writeCells_X wf, makeFunc_def, bs_29, ia_29, sz_29, ze_29, ia_2, sz_2, ze_2, ia_3, sz_3, ia_25, sz_25, ia_47, sz_47, ik_25, ik_47, fo_24_0, fo_24_1, fo_24_2, ia_24, sz_24, pb_46, pb_26, pb_27, pb_30]; first | (refine dec_split (Q := Q_) (fun hp_ => ?_) (fun hp_ => ?_) <;> first | (exfalso; omega) | (refine hQ_ _ _ ?_; clear hQ_ Q_)) | (refine dec_splitn (Q := Q_) (fun hp_ => ?_) (fun hp_ => ?_) <;> first | (exfalso; omega) | (refine hQ_ _ _ ?_; clear hQ_ Q_)) | (refine hQ_ _ _ ?_; clear hQ_ Q_) | (refine WV_eq (fractionR _ _ ⟨n2.1, by omega⟩ ⟨hp47, by omega⟩ _ (wf.X (by simp only [List.length_append, List.length_cons, List.length_nil]; omega))) ?_; refine hQ_ _ _ ?_; clear hQ_ Q_)))
  | (refine WC_cond fun K_ hK_ => ?_; simp (disch := omega) only [evT_tmp, upd_apply, WB_some, ↓reduceIte, reduceCtorEq, Nat.reduceEqDiff, Nat.reduceLT]; refine hK_ _ ?_; clear hK_ K_)
  | (with_reducible refine condK_tt ?_) | (with_reducible refine condK_ff ?_) | (with_reducible refine roundQ_exit ?_) | (with_reducible refine roundQ_ret ?_)))
    refine endQ_ret _ _ rfl (retc0 (by decide) (by simp (disch := first | omega | (simp only [List.length_cons, List.length_nil, List.length_append]; omega)) only [bb, argF, ↓reduceIte, reduceCtorEq, Nat.reduceEqDiff, Nat.reduceLT, Nat.reduceLeDiff, Nat.reduceAdd, Nat.reduceMul, Nat.reduceSub, Nat.reduceBEq, Int.reduceToNat, List.append_assoc, List.length_append, cond_true, cond_false, List.length_cons, List.length_nil, List.cons_append, List.nil_append, List.append_nil, List.getElem?_cons_zero, List.getElem?_cons_succ, List.set_cons_zero, List.set_cons_succ, List.drop_zero, List.drop_succ_cons, List.take_zero, List.take_succ_cons, List.take_nil, List.drop_nil, eq_self, List.toList_toArray, beq_self_eq_true, loadAgg_X wf, frac, bs_29, ia_29, sz_29, ze_29, ia_2, sz_2, ze_2, ia_3, sz_3, ia_25, sz_25, ia_47, sz_47, ik_25, ik_47, fo_24_0, fo_24_1, fo_24_2, ia_24, sz_24, pb_46, pb_26, pb_27, pb_30]; rfl)) ?_
    refine WV_flat rfl (by omega) ?_
    exact ⟨rfl, rfl⟩
  · rw [show gOf 2 = 49 from rfl, num49 sp st (m0 rows) (by have := t.m; omega) ys t.yall, den49]
    (repeat' (first
  | (with_reducible refine WC_seq ?_) | (refine WC_region ?_) | (with_reducible refine WC_skip ?_) | (with_reducible refine WC_label ?_) | (with_reducible refine WC_scope ?_) | (with_reducible refine WC_block ?_) | (with_reducible refine WC_ret ?_) | (with_reducible refine WC_exit ?_)
  | (with_reducible refine seqQ_norm ?_) | (with_reducible refine seqQ_ret ?_) | (with_reducible refine seqQ_exit ?_) | (with_reducible refine blkQ_norm ?_) | (with_reducible refine blkQ_ret ?_) | (with_reducible refine blkQ_here ?_) | (refine blkQ_out rfl ?_)
  | (refine WO_nil ?_)
  | (refine WD_nil ?_)
  | (refine WD_gate rfl rfl rfl rfl rfl fun K_ hK_ => ?_; simp only [upd_apply, asB_bool, asB_tup, ↓reduceIte, reduceCtorEq, Nat.reduceEqDiff, Bool.not_true, Bool.not_false]; refine hK_ _ ?_; clear hK_ K_)
  | (refine WO_gate rfl rfl rfl rfl rfl fun K_ hK_ => ?_; simp only [upd_apply, asB_bool, asB_tup, ↓reduceIte, reduceCtorEq, Nat.reduceEqDiff, Bool.not_true, Bool.not_false]; refine hK_ _ ?_; clear hK_ K_)
  | (with_reducible refine gateK_yes ?_) | (refine gateK_no (by decide) ?_) | (with_reducible refine gateK_none ?_)
  | ((try first | refine WO_op rfl rfl rfl ?_ | refine WO_op0 rfl rfl ?_ | refine WD_op rfl rfl rfl ?_ | refine WD_op0 rfl rfl ?_); (refine WV_gen fun Q_ hQ_ => ?_; simp (disch := first | omega | (simp only [List.length_cons, List.length_nil, List.length_append]; omega)) only [bb, argF, ↓reduceIte, reduceCtorEq, Nat.reduceEqDiff, Nat.reduceLT, Nat.reduceLeDiff, Nat.reduceAdd, Nat.reduceMul, Nat.reduceSub, Nat.reduceBEq, Int.reduceToNat, List.append_assoc, List.length_append, cond_true, cond_false, List.length_cons, List.length_nil, List.cons_append, List.nil_append, List.append_nil, List.getElem?_cons_zero, List.getElem?_cons_succ, List.set_cons_zero, List.set_cons_succ, List.drop_zero, List.drop_succ_cons, List.take_zero, List.take_succ_cons, List.take_nil, List.drop_nil, eq_self, List.toList_toArray, beq_self_eq_true, hsu, frac, newPtr_X wf, load1_X wf, loadAgg_X wf, store1_X wf, writeCells_X wf, makeFunc_def, bs_29, ia_29, sz_29, ze_29, ia_2, sz_2, ze_2, ia_3, sz_3, ia_25, sz_25, ia_47, sz_47, ik_25, ik_47, fo_24_0, fo_24_1, fo_24_2, ia_24, sz_24, pb_46, pb_26, pb_27, pb_30]; first | (refine dec_split (Q := Q_) (fun hp_ => ?_) (fun hp_ => ?_) <;> first | (exfalso; omega) | (refine hQ_ _ _ ?_; clear hQ_ Q_)) | (refine dec_splitn (Q := Q_) (fun hp_ => ?_) (fun hp_ => ?_) <;> first | (exfalso; omega) | (refine hQ_ _ _ ?_; clear hQ_ Q_)) | (refine hQ_ _ _ ?_; clear hQ_ Q_) | (refine WV_eq (fractionR _ _ ⟨by omega, by omega⟩ ⟨hp49, by omega⟩ _ (wf.X (by simp only [List.length_append, List.length_cons, List.length_nil]; omega))) ?_; refine hQ_ _ _ ?_; clear hQ_ Q_)))
  | (refine WC_cond fun K_ hK_ => ?_; simp (disch := omega) only [evT_tmp, upd_apply, WB_some, ↓reduceIte, reduceCtorEq, Nat.reduceEqDiff, Nat.reduceLT]; refine hK_ _ ?_; clear hK_ K_)
  | (with_reducible refine condK_tt ?_) | (with_reducible refine condK_ff ?_) | (with_reducible refine roundQ_exit ?_) | (with_reducible refine roundQ_ret ?_)))
    refine endQ_ret _ _ rfl (retc0 (by decide) (by simp (disch := first | omega | (simp only [List.length_cons, List.length_nil, List.length_append]; omega)) only [bb, argF, ↓reduceIte, reduceCtorEq, Nat.reduceEqDiff, Nat.reduceLT, Nat.reduceLeDiff, Nat.reduceAdd, Nat.reduceMul, Nat.reduceSub, Nat.reduceBEq, Int.reduceToNat, List.append_assoc, List.length_append, cond_true, cond_false, List.length_cons, List.length_nil, List.cons_append, List.nil_append, List.append_nil, List.getElem?_cons_zero, List.getElem?_cons_succ, List.set_cons_zero, List.set_cons_succ, List.drop_zero, List.drop_succ_cons, List.take_zero, List.take_succ_cons, List.take_nil, List.drop_nil, eq_self, List.toList_toArray, beq_self_eq_true, loadAgg_X wf, frac, bs_29, ia_29, sz_29, ze_29, ia_2, sz_2, ze_2, ia_3, sz_3, ia_25, sz_25, ia_47, sz_47, ik_25, ik_47, fo_24_0, fo_24_1, fo_24_2, ia_24, sz_24, pb_46, pb_26, pb_27, pb_30]; rfl)) ?_
    refine WV_flat rfl (by omega) ?_
    exact ⟨rfl, rfl⟩
end Go.Proofs.Ytghondkiondeaab
end

/- EvI3 -/
section
/-
  LAYER 2, THE REFERENCE: which hulls are valid.
-/
namespace Go.Proofs.Ytghondkiondeaab
open Go.Ev
set_option maxRecDepth 100000
set_option linter.unusedSimpArgs false
set_option linter.unusedVariables false
set_option maxHeartbeats 2000000

theorem checkHullR (sp st : Int) (a : AV) (rvs : List AV) (rows : List (List (Int × Int))) (h : H) (x : HullR h a rvs rows) :
    (om Try.prog KK).call (.fn 12 [.agg [ii sp, ii st, a]]) h = .ok (ii (hullErr sp st rows)) h := by
  have wf := x.wf
  refine WV_to (WV_call (fn := Try.f12) Try.func12 rfl rfl rfl rfl rfl ?_)
  simp only [argF]
  have hlen : ∀ h', lenE Try.prog 22 a h' = some (ii (rows.length : Int)) := fun h' => x.sl.len un_22
  by_cases hn : 2 ≤ rows.length ∧ rows.length ≤ 10
  · have h0 : 0 < rows.length := by omega
    obtain ⟨v0, hv0, hsv0⟩ := x.row 0 h0
    obtain ⟨id, off, hix, hld⟩ := x.sl.at1 wf h0 ik_22
    rw [hv0] at hld
    have hix' : indexAddrE Try.prog 22 a (.int .i64 0) = some (.ptr id off) := hix
    have em : m0 rows = rows[0].length := by unfold m0; simp [List.getD, h0]
    have hlen0 : ∀ h', lenE Try.prog 46 v0 h' = some (ii (m0 rows : Int)) := fun h' => by rw [em]; exact hsv0.len un_46
    by_cases hm : 2 ≤ m0 rows ∧ m0 rows ≤ 6
    · (repeat' (first
  | (with_reducible refine WC_seq ?_) | (refine WC_region ?_) | (with_reducible refine WC_skip ?_) | (with_reducible refine WC_label ?_) | (with_reducible refine WC_scope ?_) | (with_reducible refine WC_block ?_) | (with_reducible refine WC_ret ?_) | (with_reducible refine WC_exit ?_)
  | (with_reducible refine seqQ_norm ?_) | (with_reducible refine seqQ_ret ?_) | (with_reducible refine seqQ_exit ?_) | (with_reducible refine blkQ_norm ?_) | (with_reducible refine blkQ_ret ?_) | (with_reducible refine blkQ_here ?_) | (refine blkQ_out rfl ?_)
  | (refine WO_nil ?_)
  | (refine WD_nil ?_)
  | (refine WD_gate rfl rfl rfl rfl rfl fun K_ hK_ => ?_; simp only [upd_apply, asB_bool, asB_tup, ↓reduceIte, reduceCtorEq, Nat.reduceEqDiff, Bool.not_true, Bool.not_false]; refine hK_ _ ?_; clear hK_ K_)
  | (refine WO_gate rfl rfl rfl rfl rfl fun K_ hK_ => ?_; simp only [upd_apply, asB_bool, asB_tup, ↓reduceIte, reduceCtorEq, Nat.reduceEqDiff, Bool.not_true, Bool.not_false]; refine hK_ _ ?_; clear hK_ K_)
  | (with_reducible refine gateK_yes ?_) | (refine gateK_no (by decide) ?_) | (with_reducible refine gateK_none ?_)
  | ((try first | refine WO_op rfl rfl rfl ?_ | refine WO_op0 rfl rfl ?_ | refine WD_op rfl rfl rfl ?_ | refine WD_op0 rfl rfl ?_); (refine WV_gen fun Q_ hQ_ => ?_; simp (disch := first | omega | (simp only [List.length_cons, List.length_nil, List.length_append]; omega)) only [bb, argF, ↓reduceIte, reduceCtorEq, Nat.reduceEqDiff, Nat.reduceLT, Nat.reduceLeDiff, Nat.reduceAdd, Nat.reduceMul, Nat.reduceSub, Nat.reduceBEq, Int.reduceToNat, List.append_assoc, List.length_append, cond_true, cond_false, List.length_cons, List.length_nil, List.cons_append, List.nil_append, List.append_nil, List.getElem?_cons_zero, List.getElem?_cons_succ, List.set_cons_zero, List.set_cons_succ, List.drop_zero, List.drop_succ_cons, List.take_zero, List.take_succ_cons, List.take_nil, List.drop_nil, eq_self, List.toList_toArray, beq_self_eq_true, hlen, hix', hld, hlen0, newPtr_X wf, load1_X wf, loadAgg_X wf, store1_X wf, writeCells_X wf, makeFunc_def, bs_29, ia_29, sz_29, ze_29, ia_2, sz_2, ze_2, ia_3, sz_3, ia_47, sz_47, ia_46, sz_46, ia_22, sz_22, ik_47, ik_46, ik_22, ia_70, sz_70, ze_70, fo_70_0, fo_70_1, fo_24_0, fo_24_1, fo_24_2, ia_24, sz_24]; first | (refine dec_split (Q := Q_) (fun hp_ => ?_) (fun hp_ => ?_) <;> first | (exfalso; omega) | (refine hQ_ _ _ ?_; clear hQ_ Q_)) | (refine dec_splitn (Q := Q_) (fun hp_ => ?_) (fun hp_ => ?_) <;> first | (exfalso; omega) | (refine hQ_ _ _ ?_; clear hQ_ Q_)) | (refine hQ_ _ _ ?_; clear hQ_ Q_)))
  | (refine WC_cond fun K_ hK_ => ?_; simp (disch := omega) only [evT_tmp, upd_apply, WB_some, ↓reduceIte, reduceCtorEq, Nat.reduceEqDiff, Nat.reduceLT]; refine hK_ _ ?_; clear hK_ K_)
  | (with_reducible refine condK_tt ?_) | (with_reducible refine condK_ff ?_) | (with_reducible refine roundQ_exit ?_) | (with_reducible refine roundQ_ret ?_)))
      refine WC_loop (fun (i : Nat) f d h' => i ≤ rows.length ∧ (∀ j, j < i → ∀ hj : j < rows.length, rows[j].length = m0 rows) ∧ f 1 = .ptr (nx h 0) 0 ∧ f 3 = ii (rows.length : Int) ∧ f 4 = ii (i : Int) ∧ d = [] ∧ h' = X h [.cells (mkCells [ii sp, ii st, a]) 24] h.clock)
        (fun i => rows.length - i) ?_ (rows.length + 1) 0 (by omega) ?_
      · rintro i f d h' ⟨hi', hall, g1, g3, g4, rfl, rfl⟩
        by_cases hlt : i < rows.length
        · obtain ⟨v, hv, hsv⟩ := x.row i hlt
          obtain ⟨id, off, hix, hld2⟩ := x.sl.at1 wf hlt ik_22
          rw [hv] at hld2
          have hlenv : ∀ h', lenE Try.prog 46 v h' = some (ii (rows[i].length : Int)) := fun h' => hsv.len un_46
          (repeat' (first
  | (with_reducible refine WC_seq ?_) | (refine WC_region ?_) | (with_reducible refine WC_skip ?_) | (with_reducible refine WC_label ?_) | (with_reducible refine WC_scope ?_) | (with_reducible refine WC_block ?_) | (with_reducible refine WC_ret ?_) | (with_reducible refine WC_exit ?_)
  | (with_reducible refine seqQ_norm ?_) | (with_reducible refine seqQ_ret ?_) | (with_reducible refine seqQ_exit ?_) | (with_reducible refine blkQ_norm ?_) | (with_reducible refine blkQ_ret ?_) | (with_reducible refine blkQ_here ?_) | (refine blkQ_out rfl ?_)
  | (refine WO_nil ?_)
  | (refine WD_nil ?_)
  | (refine WD_gate rfl rfl rfl rfl rfl fun K_ hK_ => ?_; simp only [upd_apply, asB_bool, asB_tup, ↓reduceIte, reduceCtorEq, Nat.reduceEqDiff, Bool.not_true, Bool.not_false]; refine hK_ _ ?_; clear hK_ K_)
  | (refine WO_gate rfl rfl rfl rfl rfl fun K_ hK_ => ?_; simp only [upd_apply, asB_bool, asB_tup, ↓reduceIte, reduceCtorEq, Nat.reduceEqDiff, Bool.not_true, Bool.not_false]; refine hK_ _ ?_; clear hK_ K_)
  | (with_reducible refine gateK_yes ?_) | (refine gateK_no (by decide) ?_) | (with_reducible refine gateK_none ?_)
  | ((try first | refine WO_op rfl rfl rfl ?_ | refine WO_op0 rfl rfl ?_ | refine WD_op rfl rfl rfl ?_ | refine WD_op0 rfl rfl ?_); (refine WV_gen fun Q_ hQ_ => ?_; simp (disch := first | omega | (simp only [List.length_cons, List.length_nil, List.length_append]; omega)) only [bb, argF, ↓reduceIte, reduceCtorEq, Nat.reduceEqDiff, Nat.reduceLT, Nat.reduceLeDiff, Nat.reduceAdd, Nat.reduceMul, Nat.reduceSub, Nat.reduceBEq, Int.reduceToNat, List.append_assoc, List.length_append, cond_true, cond_false, List.length_cons, List.length_nil, List.cons_append, List.nil_append, List.append_nil, List.getElem?_cons_zero, List.getElem?_cons_succ, List.set_cons_zero, List.set_cons_succ, List.drop_zero, List.drop_succ_cons, List.take_zero, List.take_succ_cons, List.take_nil, List.drop_nil, eq_self, List.toList_toArray, beq_self_eq_true, g1, g3, g4, newPtr_X wf, load1_X wf, loadAgg_X wf, store1_X wf, writeCells_X wf, makeFunc_def, bs_29, ia_29, sz_29, ze_29, ia_2, sz_2, ze_2, ia_3, sz_3, ia_47, sz_47, ia_46, sz_46, ia_22, sz_22, ik_47, ik_46, ik_22, ia_70, sz_70, ze_70, fo_70_0, fo_70_1, fo_24_0, fo_24_1, fo_24_2, ia_24, sz_24]; first | (refine dec_split (Q := Q_) (fun hp_ => ?_) (fun hp_ => ?_) <;> first | (exfalso; omega) | (refine hQ_ _ _ ?_; clear hQ_ Q_)) | (refine dec_splitn (Q := Q_) (fun hp_ => ?_) (fun hp_ => ?_) <;> first | (exfalso; omega) | (refine hQ_ _ _ ?_; clear hQ_ Q_)) | (refine hQ_ _ _ ?_; clear hQ_ Q_)))
  | (refine WC_cond fun K_ hK_ => ?_; simp (disch := omega) only [evT_tmp, upd_apply, WB_some, ↓reduceIte, reduceCtorEq, Nat.reduceEqDiff, Nat.reduceLT]; refine hK_ _ ?_; clear hK_ K_)
  | (with_reducible refine condK_tt ?_) | (with_reducible refine condK_ff ?_) | (with_reducible refine roundQ_exit ?_) | (with_reducible refine roundQ_ret ?_)))
          refine WC_drawnB [.no, .no, .no, .no, .no, .no, .no, .no, .no, .no, .no, .full] (by kernel_rfl) ?_
          (repeat' (first
  | (with_reducible refine WC_seq ?_) | (refine WC_region ?_) | (with_reducible refine WC_skip ?_) | (with_reducible refine WC_label ?_) | (with_reducible refine WC_scope ?_) | (with_reducible refine WC_block ?_) | (with_reducible refine WC_ret ?_) | (with_reducible refine WC_exit ?_)
  | (with_reducible refine seqQ_norm ?_) | (with_reducible refine seqQ_ret ?_) | (with_reducible refine seqQ_exit ?_) | (with_reducible refine blkQ_norm ?_) | (with_reducible refine blkQ_ret ?_) | (with_reducible refine blkQ_here ?_) | (refine blkQ_out rfl ?_)
  | (refine WO_nil ?_)
  | (refine WD_nil ?_)
  | (refine WD_gate rfl rfl rfl rfl rfl fun K_ hK_ => ?_; simp only [upd_apply, asB_bool, asB_tup, ↓reduceIte, reduceCtorEq, Nat.reduceEqDiff, Bool.not_true, Bool.not_false]; refine hK_ _ ?_; clear hK_ K_)
  | (refine WO_gate rfl rfl rfl rfl rfl fun K_ hK_ => ?_; simp only [upd_apply, asB_bool, asB_tup, ↓reduceIte, reduceCtorEq, Nat.reduceEqDiff, Bool.not_true, Bool.not_false]; refine hK_ _ ?_; clear hK_ K_)
  | (with_reducible refine gateK_yes ?_) | (refine gateK_no (by decide) ?_) | (with_reducible refine gateK_none ?_)
  | ((try first | refine WO_op rfl rfl rfl ?_ | refine WO_op0 rfl rfl ?_ | refine WD_op rfl rfl rfl ?_ | refine WD_op0 rfl rfl ?_); (refine WV_gen fun Q_ hQ_ => ?_; simp (disch := first | omega | (simp only [List.length_cons, List.length_nil, List.length_append]; omega)) only [bb, argF, ↓reduceIte, reduceCtorEq, Nat.reduceEqDiff, Nat.reduceLT, Nat.reduceLeDiff, Nat.reduceAdd, Nat.reduceMul, Nat.reduceSub, Nat.reduceBEq, Int.reduceToNat, List.append_assoc, List.length_append, cond_true, cond_false, List.length_cons, List.length_nil, List.cons_append, List.nil_append, List.append_nil, List.getElem?_cons_zero, List.getElem?_cons_succ, List.set_cons_zero, List.set_cons_succ, List.drop_zero, List.drop_succ_cons, List.take_zero, List.take_succ_cons, List.take_nil, List.drop_nil, eq_self, List.toList_toArray, beq_self_eq_true, g1, g3, g4, hix, hld2, hlenv, hix', hld, hlen0, newPtr_X wf, load1_X wf, loadAgg_X wf, store1_X wf, writeCells_X wf, makeFunc_def, bs_29, ia_29, sz_29, ze_29, ia_2, sz_2, ze_2, ia_3, sz_3, ia_47, sz_47, ia_46, sz_46, ia_22, sz_22, ik_47, ik_46, ik_22, ia_70, sz_70, ze_70, fo_70_0, fo_70_1, fo_24_0, fo_24_1, fo_24_2, ia_24, sz_24]; first | (refine dec_split (Q := Q_) (fun hp_ => ?_) (fun hp_ => ?_) <;> first | (exfalso; omega) | (refine hQ_ _ _ ?_; clear hQ_ Q_)) | (refine dec_splitn (Q := Q_) (fun hp_ => ?_) (fun hp_ => ?_) <;> first | (exfalso; omega) | (refine hQ_ _ _ ?_; clear hQ_ Q_)) | (refine hQ_ _ _ ?_; clear hQ_ Q_)))
  | (refine WC_cond fun K_ hK_ => ?_; simp (disch := omega) only [evT_tmp, upd_apply, WB_some, ↓reduceIte, reduceCtorEq, Nat.reduceEqDiff, Nat.reduceLT]; refine hK_ _ ?_; clear hK_ K_)
  | (with_reducible refine condK_tt ?_) | (with_reducible refine condK_ff ?_) | (with_reducible refine roundQ_exit ?_) | (with_reducible refine roundQ_ret ?_)))
          · refine roundQ_again (i + 1) (by omega) ⟨hlt, ?_, by simp only [upd_apply, ↓reduceIte, reduceCtorEq, Nat.reduceEqDiff]; exact g1, by simp only [upd_apply, ↓reduceIte, reduceCtorEq, Nat.reduceEqDiff]; exact g3, by simp only [upd_apply, ↓reduceIte, reduceCtorEq, Nat.reduceEqDiff]; rfl, rfl, rfl⟩
            intro j hj hjl
            by_cases hji : j = i
            · subst hji; omega
            · exact hall j (by omega) hjl
          · (refine endQ_ret _ _ rfl (ret1 (by decide)) ?_; simp only [upd_apply, ↓reduceIte, reduceCtorEq, Nat.reduceEqDiff]; refine WV_flat rfl (by omega) ?_)
            refine ⟨?_, rfl⟩
            unfold hullErr
            rw [if_neg (not_not_intro hn), if_neg (not_not_intro hm), if_pos (fun hh => by have := hh _ (List.getElem_mem hlt); omega)]
        · have hie : i = rows.length := by omega
          subst hie
          have hall2 : ∀ row ∈ rows, row.length = m0 rows := fun row hr => by
            obtain ⟨j, hj, rfl⟩ := List.getElem_of_mem hr
            exact hall j hj hj
          have xat := x.at (m := m0 rows) (by omega) (fun i hi => hall2 _ (List.getElem_mem hi))
          by_cases hss : (1 ≤ sp ∧ sp ≤ 1000) ∧ (1 ≤ st ∧ st ≤ 100)
          · (repeat' (first
  | (with_reducible refine WC_seq ?_) | (refine WC_region ?_) | (with_reducible refine WC_skip ?_) | (with_reducible refine WC_label ?_) | (with_reducible refine WC_scope ?_) | (with_reducible refine WC_block ?_) | (with_reducible refine WC_ret ?_) | (with_reducible refine WC_exit ?_)
  | (with_reducible refine seqQ_norm ?_) | (with_reducible refine seqQ_ret ?_) | (with_reducible refine seqQ_exit ?_) | (with_reducible refine blkQ_norm ?_) | (with_reducible refine blkQ_ret ?_) | (with_reducible refine blkQ_here ?_) | (refine blkQ_out rfl ?_)
  | (refine WO_nil ?_)
  | (refine WD_nil ?_)
  | (refine WD_gate rfl rfl rfl rfl rfl fun K_ hK_ => ?_; simp only [upd_apply, asB_bool, asB_tup, ↓reduceIte, reduceCtorEq, Nat.reduceEqDiff, Bool.not_true, Bool.not_false]; refine hK_ _ ?_; clear hK_ K_)
  | (refine WO_gate rfl rfl rfl rfl rfl fun K_ hK_ => ?_; simp only [upd_apply, asB_bool, asB_tup, ↓reduceIte, reduceCtorEq, Nat.reduceEqDiff, Bool.not_true, Bool.not_false]; refine hK_ _ ?_; clear hK_ K_)
  | (with_reducible refine gateK_yes ?_) | (refine gateK_no (by decide) ?_) | (with_reducible refine gateK_none ?_)
  | ((try first | refine WO_op rfl rfl rfl ?_ | refine WO_op0 rfl rfl ?_ | refine WD_op rfl rfl rfl ?_ | refine WD_op0 rfl rfl ?_); (refine WV_gen fun Q_ hQ_ => ?_; simp (disch := first | omega | (simp only [List.length_cons, List.length_nil, List.length_append]; omega)) only [bb, argF, ↓reduceIte, reduceCtorEq, Nat.reduceEqDiff, Nat.reduceLT, Nat.reduceLeDiff, Nat.reduceAdd, Nat.reduceMul, Nat.reduceSub, Nat.reduceBEq, Int.reduceToNat, List.append_assoc, List.length_append, cond_true, cond_false, List.length_cons, List.length_nil, List.cons_append, List.nil_append, List.append_nil, List.getElem?_cons_zero, List.getElem?_cons_succ, List.set_cons_zero, List.set_cons_succ, List.drop_zero, List.drop_succ_cons, List.take_zero, List.take_succ_cons, List.take_nil, List.drop_nil, eq_self, List.toList_toArray, beq_self_eq_true, g1, g3, g4, newPtr_X wf, load1_X wf, loadAgg_X wf, store1_X wf, writeCells_X wf, makeFunc_def, bs_29, ia_29, sz_29, ze_29, ia_2, sz_2, ze_2, ia_3, sz_3, ia_47, sz_47, ia_46, sz_46, ia_22, sz_22, ik_47, ik_46, ik_22, ia_70, sz_70, ze_70, fo_70_0, fo_70_1, fo_24_0, fo_24_1, fo_24_2, ia_24, sz_24]; first | (refine dec_split (Q := Q_) (fun hp_ => ?_) (fun hp_ => ?_) <;> first | (exfalso; omega) | (refine hQ_ _ _ ?_; clear hQ_ Q_)) | (refine dec_splitn (Q := Q_) (fun hp_ => ?_) (fun hp_ => ?_) <;> first | (exfalso; omega) | (refine hQ_ _ _ ?_; clear hQ_ Q_)) | (refine hQ_ _ _ ?_; clear hQ_ Q_)))
  | (refine WC_cond fun K_ hK_ => ?_; simp (disch := omega) only [evT_tmp, upd_apply, WB_some, ↓reduceIte, reduceCtorEq, Nat.reduceEqDiff, Nat.reduceLT]; refine hK_ _ ?_; clear hK_ K_)
  | (with_reducible refine condK_tt ?_) | (with_reducible refine condK_ff ?_) | (with_reducible refine roundQ_exit ?_) | (with_reducible refine roundQ_ret ?_)))
            refine WC_loop (fun (i : Nat) f d h' => i ≤ rows.length ∧ (∀ r ∈ (rows.take i).flatten, isOff r) ∧ f 1 = .ptr (nx h 0) 0 ∧ f 3 = ii (rows.length : Int) ∧ f 5 = .bool (decide (0 < mx (rows.take i).flatten)) ∧ f 6 = ii (i : Int) ∧ d = [] ∧ ∃ J, h' = X h (.cells (mkCells [ii sp, ii st, a]) 24 :: J) h.clock) (fun i => rows.length - i) ?_ (rows.length + 1) 0 (by omega) ?_
            · rintro i f d h' ⟨hi', hofs, g1, g3, g5, g6, rfl, J, rfl⟩
              by_cases hlt : i < rows.length
              · obtain ⟨v, hv, hsv, hrl⟩ := xat.row i hlt
                obtain ⟨id, off, hix, hld2⟩ := x.sl.at1 wf hlt ik_22
                rw [hv] at hld2
                have hlenv : ∀ h', lenE Try.prog 46 v h' = some (ii (m0 rows : Int)) := fun h' => hsv.len un_46
                (repeat' (first
  | (with_reducible refine WC_seq ?_) | (refine WC_region ?_) | (with_reducible refine WC_skip ?_) | (with_reducible refine WC_label ?_) | (with_reducible refine WC_scope ?_) | (with_reducible refine WC_block ?_) | (with_reducible refine WC_ret ?_) | (with_reducible refine WC_exit ?_)
  | (with_reducible refine seqQ_norm ?_) | (with_reducible refine seqQ_ret ?_) | (with_reducible refine seqQ_exit ?_) | (with_reducible refine blkQ_norm ?_) | (with_reducible refine blkQ_ret ?_) | (with_reducible refine blkQ_here ?_) | (refine blkQ_out rfl ?_)
  | (refine WO_nil ?_)
  | (refine WD_nil ?_)
  | (refine WD_gate rfl rfl rfl rfl rfl fun K_ hK_ => ?_; simp only [upd_apply, asB_bool, asB_tup, ↓reduceIte, reduceCtorEq, Nat.reduceEqDiff, Bool.not_true, Bool.not_false]; refine hK_ _ ?_; clear hK_ K_)
  | (refine WO_gate rfl rfl rfl rfl rfl fun K_ hK_ => ?_; simp only [upd_apply, asB_bool, asB_tup, ↓reduceIte, reduceCtorEq, Nat.reduceEqDiff, Bool.not_true, Bool.not_false]; refine hK_ _ ?_; clear hK_ K_)
  | (with_reducible refine gateK_yes ?_) | (refine gateK_no (by decide) ?_) | (with_reducible refine gateK_none ?_)
  | ((try first | refine WO_op rfl rfl rfl ?_ | refine WO_op0 rfl rfl ?_ | refine WD_op rfl rfl rfl ?_ | refine WD_op0 rfl rfl ?_); (refine WV_gen fun Q_ hQ_ => ?_; simp (disch := first | omega | (simp only [List.length_cons, List.length_nil, List.length_append]; omega)) only [bb, argF, ↓reduceIte, reduceCtorEq, Nat.reduceEqDiff, Nat.reduceLT, Nat.reduceLeDiff, Nat.reduceAdd, Nat.reduceMul, Nat.reduceSub, Nat.reduceBEq, Int.reduceToNat, List.append_assoc, List.length_append, cond_true, cond_false, List.length_cons, List.length_nil, List.cons_append, List.nil_append, List.append_nil, List.getElem?_cons_zero, List.getElem?_cons_succ, List.set_cons_zero, List.set_cons_succ, List.drop_zero, List.drop_succ_cons, List.take_zero, List.take_succ_cons, List.take_nil, List.drop_nil, eq_self, List.toList_toArray, beq_self_eq_true, g1, g3, g5, g6, newPtr_X wf, load1_X wf, loadAgg_X wf, store1_X wf, writeCells_X wf, makeFunc_def, bs_29, ia_29, sz_29, ze_29, ia_2, sz_2, ze_2, ia_3, sz_3, ia_47, sz_47, ia_46, sz_46, ia_22, sz_22, ik_47, ik_46, ik_22, ia_70, sz_70, ze_70, fo_70_0, fo_70_1, fo_24_0, fo_24_1, fo_24_2, ia_24, sz_24]; first | (refine dec_split (Q := Q_) (fun hp_ => ?_) (fun hp_ => ?_) <;> first | (exfalso; omega) | (refine hQ_ _ _ ?_; clear hQ_ Q_)) | (refine dec_splitn (Q := Q_) (fun hp_ => ?_) (fun hp_ => ?_) <;> first | (exfalso; omega) | (refine hQ_ _ _ ?_; clear hQ_ Q_)) | (refine hQ_ _ _ ?_; clear hQ_ Q_)))
  | (refine WC_cond fun K_ hK_ => ?_; simp (disch := omega) only [evT_tmp, upd_apply, WB_some, ↓reduceIte, reduceCtorEq, Nat.reduceEqDiff, Nat.reduceLT]; refine hK_ _ ?_; clear hK_ K_)
  | (with_reducible refine condK_tt ?_) | (with_reducible refine condK_ff ?_) | (with_reducible refine roundQ_exit ?_) | (with_reducible refine roundQ_ret ?_)))
                refine WC_loop (fun (k : Nat) f d h' => k ≤ m0 rows ∧ (∀ r ∈ (rows.take i).flatten ++ rows[i].take k, isOff r) ∧ f 1 = .ptr (nx h 0) 0 ∧ f 3 = ii (rows.length : Int) ∧ f 5 = .bool (decide (0 < mx ((rows.take i).flatten ++ rows[i].take k))) ∧ f 6 = ii (i : Int) ∧ f 7 = ii (k : Int) ∧ d = [] ∧ ∃ J, h' = X h (.cells (mkCells [ii sp, ii st, a]) 24 :: J) h.clock)
                  (fun k => m0 rows - k) ?_ (m0 rows + 1) 0 (by omega) ?_
                · clear g1 g3 g5 g6 hofs
                  rintro k f d h' ⟨hk, hofs, g1, g3, g5, g6, g7, rfl, J, rfl⟩
                  by_cases hkl : k < m0 rows
                  · obtain ⟨id3, off3, hix3, hld3⟩ := hsv.at wf hkl ik_46
                    have hkr : k < rows[i].length := by omega
                    have hrow : ∀ l w, loadAgg id3 off3 (some 2) (X h l w) = some (.agg [ii rows[i][k].1, ii rows[i][k].2]) := fun l w => by rw [(hld3 l w).2, pairCells_at hkr]
                    have hmem : rows[i][k] ∈ rows.flatten := List.mem_flatten.2 ⟨rows[i], List.getElem_mem _, List.getElem_mem _⟩
                    by_cases hio : isOff rows[i][k]
                    · have hio' := hio
                      unfold isOff at hio'
                      have hnext : ∀ r ∈ (rows.take i).flatten ++ rows[i].take (k + 1), isOff r := fun r hr => by
                        rw [take_one hkr, ← List.append_assoc] at hr
                        rcases List.mem_append.1 hr with hr | hr
                        · exact hofs r hr
                        · rw [List.mem_singleton.1 hr]; exact hio
                      by_cases hmx : 0 < mx ((rows.take i).flatten ++ rows[i].take k)
                      · rw [decide_eq_true hmx] at g5
                        (repeat' (first
  | (with_reducible refine WC_seq ?_) | (refine WC_region ?_) | (with_reducible refine WC_skip ?_) | (with_reducible refine WC_label ?_) | (with_reducible refine WC_scope ?_) | (with_reducible refine WC_block ?_) | (with_reducible refine WC_ret ?_) | (with_reducible refine WC_exit ?_)
  | (with_reducible refine seqQ_norm ?_) | (with_reducible refine seqQ_ret ?_) | (with_reducible refine seqQ_exit ?_) | (with_reducible refine blkQ_norm ?_) | (with_reducible refine blkQ_ret ?_) | (with_reducible refine blkQ_here ?_) | (refine blkQ_out rfl ?_)
  | (refine WO_nil ?_)
  | (refine WD_nil ?_)
  | (refine WD_gate rfl rfl rfl rfl rfl fun K_ hK_ => ?_; simp only [upd_apply, asB_bool, asB_tup, ↓reduceIte, reduceCtorEq, Nat.reduceEqDiff, Bool.not_true, Bool.not_false]; refine hK_ _ ?_; clear hK_ K_)
  | (refine WO_gate rfl rfl rfl rfl rfl fun K_ hK_ => ?_; simp only [upd_apply, asB_bool, asB_tup, ↓reduceIte, reduceCtorEq, Nat.reduceEqDiff, Bool.not_true, Bool.not_false]; refine hK_ _ ?_; clear hK_ K_)
  | (with_reducible refine gateK_yes ?_) | (refine gateK_no (by decide) ?_) | (with_reducible refine gateK_none ?_)
  | ((try first | refine WO_op rfl rfl rfl ?_ | refine WO_op0 rfl rfl ?_ | refine WD_op rfl rfl rfl ?_ | refine WD_op0 rfl rfl ?_); (refine WV_gen fun Q_ hQ_ => ?_; simp (disch := first | omega | (simp only [List.length_cons, List.length_nil, List.length_append]; omega)) only [bb, argF, ↓reduceIte, reduceCtorEq, Nat.reduceEqDiff, Nat.reduceLT, Nat.reduceLeDiff, Nat.reduceAdd, Nat.reduceMul, Nat.reduceSub, Nat.reduceBEq, Int.reduceToNat, List.append_assoc, List.length_append, cond_true, cond_false, List.length_cons, List.length_nil, List.cons_append, List.nil_append, List.append_nil, List.getElem?_cons_zero, List.getElem?_cons_succ, List.set_cons_zero, List.set_cons_succ, List.drop_zero, List.drop_succ_cons, List.take_zero, List.take_succ_cons, List.take_nil, List.drop_nil, eq_self, List.toList_toArray, beq_self_eq_true, g1, g3, g5, g6, g7, hix, hld2, hlenv, hix3, hrow, newPtr_X wf, load1_X wf, loadAgg_X wf, store1_X wf, writeCells_X wf, makeFunc_def, bs_29, ia_29, sz_29, ze_29, ia_2, sz_2, ze_2, ia_3, sz_3, ia_47, sz_47, ia_46, sz_46, ia_22, sz_22, ik_47, ik_46, ik_22, ia_70, sz_70, ze_70, fo_70_0, fo_70_1, fo_24_0, fo_24_1, fo_24_2, ia_24, sz_24]; first | (refine dec_split (Q := Q_) (fun hp_ => ?_) (fun hp_ => ?_) <;> first | (exfalso; omega) | (refine hQ_ _ _ ?_; clear hQ_ Q_)) | (refine dec_splitn (Q := Q_) (fun hp_ => ?_) (fun hp_ => ?_) <;> first | (exfalso; omega) | (refine hQ_ _ _ ?_; clear hQ_ Q_)) | (refine hQ_ _ _ ?_; clear hQ_ Q_)))
  | (refine WC_cond fun K_ hK_ => ?_; simp (disch := omega) only [evT_tmp, upd_apply, WB_some, ↓reduceIte, reduceCtorEq, Nat.reduceEqDiff, Nat.reduceLT]; refine hK_ _ ?_; clear hK_ K_)
  | (with_reducible refine condK_tt ?_) | (with_reducible refine condK_ff ?_) | (with_reducible refine roundQ_exit ?_) | (with_reducible refine roundQ_ret ?_)))
                        refine roundQ_again (k + 1) (by omega) ⟨hkl, hnext, by simp only [upd_apply, ↓reduceIte, reduceCtorEq, Nat.reduceEqDiff]; exact g1, by simp only [upd_apply, ↓reduceIte, reduceCtorEq, Nat.reduceEqDiff]; exact g3, ?_, by simp only [upd_apply, ↓reduceIte, reduceCtorEq, Nat.reduceEqDiff]; exact g6, by simp only [upd_apply, ↓reduceIte, reduceCtorEq, Nat.reduceEqDiff]; rfl, rfl, _, rfl⟩
                        simp only [upd_apply, ↓reduceIte, reduceCtorEq, Nat.reduceEqDiff]
                        rw [take_one hkr, ← List.append_assoc, mx_snoc, decide_eq_true (by omega)]
                      · rw [decide_eq_false hmx] at g5
                        have hge := mx_nonneg ((rows.take i).flatten ++ rows[i].take k)
                        (repeat' (first
  | (with_reducible refine WC_seq ?_) | (refine WC_region ?_) | (with_reducible refine WC_skip ?_) | (with_reducible refine WC_label ?_) | (with_reducible refine WC_scope ?_) | (with_reducible refine WC_block ?_) | (with_reducible refine WC_ret ?_) | (with_reducible refine WC_exit ?_)
  | (with_reducible refine seqQ_norm ?_) | (with_reducible refine seqQ_ret ?_) | (with_reducible refine seqQ_exit ?_) | (with_reducible refine blkQ_norm ?_) | (with_reducible refine blkQ_ret ?_) | (with_reducible refine blkQ_here ?_) | (refine blkQ_out rfl ?_)
  | (refine WO_nil ?_)
  | (refine WD_nil ?_)
  | (refine WD_gate rfl rfl rfl rfl rfl fun K_ hK_ => ?_; simp only [upd_apply, asB_bool, asB_tup, ↓reduceIte, reduceCtorEq, Nat.reduceEqDiff, Bool.not_true, Bool.not_false]; refine hK_ _ ?_; clear hK_ K_)
  | (refine WO_gate rfl rfl rfl rfl rfl fun K_ hK_ => ?_; simp only [upd_apply, asB_bool, asB_tup, ↓reduceIte, reduceCtorEq, Nat.reduceEqDiff, Bool.not_true, Bool.not_false]; refine hK_ _ ?_; clear hK_ K_)
  | (with_reducible refine gateK_yes ?_) | (refine gateK_no (by decide) ?_) | (with_reducible refine gateK_none ?_)
  | ((try first | refine WO_op rfl rfl rfl ?_ | refine WO_op0 rfl rfl ?_ | refine WD_op rfl rfl rfl ?_ | refine WD_op0 rfl rfl ?_); (refine WV_gen fun Q_ hQ_ => ?_; simp (disch := first | omega | (simp only [List.length_cons, List.length_nil, List.length_append]; omega)) only [bb, argF, ↓reduceIte, reduceCtorEq, Nat.reduceEqDiff, Nat.reduceLT, Nat.reduceLeDiff, Nat.reduceAdd, Nat.reduceMul, Nat.reduceSub, Nat.reduceBEq, Int.reduceToNat, List.append_assoc, List.length_append, cond_true, cond_false, List.length_cons, List.length_nil, List.cons_append, List.nil_append, List.append_nil, List.getElem?_cons_zero, List.getElem?_cons_succ, List.set_cons_zero, List.set_cons_succ, List.drop_zero, List.drop_succ_cons, List.take_zero, List.take_succ_cons, List.take_nil, List.drop_nil, eq_self, List.toList_toArray, beq_self_eq_true, g1, g3, g5, g6, g7, hix, hld2, hlenv, hix3, hrow, newPtr_X wf, load1_X wf, loadAgg_X wf, store1_X wf, writeCells_X wf, makeFunc_def, bs_29, ia_29, sz_29, ze_29, ia_2, sz_2, ze_2, ia_3, sz_3, ia_47, sz_47, ia_46, sz_46, ia_22, sz_22, ik_47, ik_46, ik_22, ia_70, sz_70, ze_70, fo_70_0, fo_70_1, fo_24_0, fo_24_1, fo_24_2, ia_24, sz_24]; first | (refine dec_split (Q := Q_) (fun hp_ => ?_) (fun hp_ => ?_) <;> first | (exfalso; omega) | (refine hQ_ _ _ ?_; clear hQ_ Q_)) | (refine dec_splitn (Q := Q_) (fun hp_ => ?_) (fun hp_ => ?_) <;> first | (exfalso; omega) | (refine hQ_ _ _ ?_; clear hQ_ Q_)) | (refine hQ_ _ _ ?_; clear hQ_ Q_)))
  | (refine WC_cond fun K_ hK_ => ?_; simp (disch := omega) only [evT_tmp, upd_apply, WB_some, ↓reduceIte, reduceCtorEq, Nat.reduceEqDiff, Nat.reduceLT]; refine hK_ _ ?_; clear hK_ K_)
  | (with_reducible refine condK_tt ?_) | (with_reducible refine condK_ff ?_) | (with_reducible refine roundQ_exit ?_) | (with_reducible refine roundQ_ret ?_)))
                        all_goals
                          refine roundQ_again (k + 1) (by omega) ⟨hkl, hnext, by simp only [upd_apply, ↓reduceIte, reduceCtorEq, Nat.reduceEqDiff]; exact g1, by simp only [upd_apply, ↓reduceIte, reduceCtorEq, Nat.reduceEqDiff]; exact g3, ?_, by simp only [upd_apply, ↓reduceIte, reduceCtorEq, Nat.reduceEqDiff]; exact g6, by simp only [upd_apply, ↓reduceIte, reduceCtorEq, Nat.reduceEqDiff]; rfl, rfl, _, rfl⟩
                          simp only [upd_apply, ↓reduceIte, reduceCtorEq, Nat.reduceEqDiff]
                          rw [take_one hkr, ← List.append_assoc, mx_snoc]
                          first | rw [decide_eq_true (by omega)] | rw [decide_eq_false (by omega)]
                    · have hio' := hio
                      unfold isOff at hio'
                      (repeat' (first
  | (with_reducible refine WC_seq ?_) | (refine WC_region ?_) | (with_reducible refine WC_skip ?_) | (with_reducible refine WC_label ?_) | (with_reducible refine WC_scope ?_) | (with_reducible refine WC_block ?_) | (with_reducible refine WC_ret ?_) | (with_reducible refine WC_exit ?_)
  | (with_reducible refine seqQ_norm ?_) | (with_reducible refine seqQ_ret ?_) | (with_reducible refine seqQ_exit ?_) | (with_reducible refine blkQ_norm ?_) | (with_reducible refine blkQ_ret ?_) | (with_reducible refine blkQ_here ?_) | (refine blkQ_out rfl ?_)
  | (refine WO_nil ?_)
  | (refine WD_nil ?_)
  | (refine WD_gate rfl rfl rfl rfl rfl fun K_ hK_ => ?_; simp only [upd_apply, asB_bool, asB_tup, ↓reduceIte, reduceCtorEq, Nat.reduceEqDiff, Bool.not_true, Bool.not_false]; refine hK_ _ ?_; clear hK_ K_)
  | (refine WO_gate rfl rfl rfl rfl rfl fun K_ hK_ => ?_; simp only [upd_apply, asB_bool, asB_tup, ↓reduceIte, reduceCtorEq, Nat.reduceEqDiff, Bool.not_true, Bool.not_false]; refine hK_ _ ?_; clear hK_ K_)
  | (with_reducible refine gateK_yes ?_) | (refine gateK_no (by decide) ?_) | (with_reducible refine gateK_none ?_)
  | ((try first | refine WO_op rfl rfl rfl ?_ | refine WO_op0 rfl rfl ?_ | refine WD_op rfl rfl rfl ?_ | refine WD_op0 rfl rfl ?_); (refine WV_gen fun Q_ hQ_ => ?_; simp (disch := first | omega | (simp only [List.length_cons, List.length_nil, List.length_append]; omega)) only [bb, argF, ↓reduceIte, reduceCtorEq, Nat.reduceEqDiff, Nat.reduceLT, Nat.reduceLeDiff, Nat.reduceAdd, Nat.reduceMul, Nat.reduceSub, Nat.reduceBEq, Int.reduceToNat, List.append_assoc, List.length_append, cond_true, cond_false, List.length_cons, List.length_nil, List.cons_append, List.nil_append, List.append_nil, List.getElem?_cons_zero, List.getElem?_cons_succ, List.set_cons_zero, List.set_cons_succ, List.drop_zero, List.drop_succ_cons, List.take_zero, List.take_succ_cons, List.take_nil, List.drop_nil, eq_self, List.toList_toArray, beq_self_eq_true, g1, g3, g5, g6, g7, hix, hld2, hlenv, hix3, hrow, newPtr_X wf, load1_X wf, loadAgg_X wf, store1_X wf, writeCells_X wf, makeFunc_def, bs_29, ia_29, sz_29, ze_29, ia_2, sz_2, ze_2, ia_3, sz_3, ia_47, sz_47, ia_46, sz_46, ia_22, sz_22, ik_47, ik_46, ik_22, ia_70, sz_70, ze_70, fo_70_0, fo_70_1, fo_24_0, fo_24_1, fo_24_2, ia_24, sz_24]; first | (refine dec_split (Q := Q_) (fun hp_ => ?_) (fun hp_ => ?_) <;> first | (exfalso; omega) | (refine hQ_ _ _ ?_; clear hQ_ Q_)) | (refine dec_splitn (Q := Q_) (fun hp_ => ?_) (fun hp_ => ?_) <;> first | (exfalso; omega) | (refine hQ_ _ _ ?_; clear hQ_ Q_)) | (refine hQ_ _ _ ?_; clear hQ_ Q_)))
  | (refine WC_cond fun K_ hK_ => ?_; simp (disch := omega) only [evT_tmp, upd_apply, WB_some, ↓reduceIte, reduceCtorEq, Nat.reduceEqDiff, Nat.reduceLT]; refine hK_ _ ?_; clear hK_ K_)
  | (with_reducible refine condK_tt ?_) | (with_reducible refine condK_ff ?_) | (with_reducible refine roundQ_exit ?_) | (with_reducible refine roundQ_ret ?_)))
                      all_goals (refine endQ_ret _ _ rfl (ret1 (by decide)) ?_; simp only [upd_apply, ↓reduceIte, reduceCtorEq, Nat.reduceEqDiff]; refine WV_flat rfl (by omega) ?_)
                      all_goals refine ⟨?_, rfl⟩
                      all_goals unfold hullErr
                      all_goals rw [if_neg (not_not_intro hn), if_neg (not_not_intro hm), if_neg (not_not_intro hall2), if_pos (fun hh => absurd (hh.2.2.1 _ hmem) hio)]
                  · have hke : k = m0 rows := by omega
                    have htk : rows[i].take k = rows[i] := List.take_of_length_le (by omega)
                    rw [htk, ← take_flat hlt] at hofs g5
                    (repeat' (first
  | (with_reducible refine WC_seq ?_) | (refine WC_region ?_) | (with_reducible refine WC_skip ?_) | (with_reducible refine WC_label ?_) | (with_reducible refine WC_scope ?_) | (with_reducible refine WC_block ?_) | (with_reducible refine WC_ret ?_) | (with_reducible refine WC_exit ?_)
  | (with_reducible refine seqQ_norm ?_) | (with_reducible refine seqQ_ret ?_) | (with_reducible refine seqQ_exit ?_) | (with_reducible refine blkQ_norm ?_) | (with_reducible refine blkQ_ret ?_) | (with_reducible refine blkQ_here ?_) | (refine blkQ_out rfl ?_)
  | (refine WO_nil ?_)
  | (refine WD_nil ?_)
  | (refine WD_gate rfl rfl rfl rfl rfl fun K_ hK_ => ?_; simp only [upd_apply, asB_bool, asB_tup, ↓reduceIte, reduceCtorEq, Nat.reduceEqDiff, Bool.not_true, Bool.not_false]; refine hK_ _ ?_; clear hK_ K_)
  | (refine WO_gate rfl rfl rfl rfl rfl fun K_ hK_ => ?_; simp only [upd_apply, asB_bool, asB_tup, ↓reduceIte, reduceCtorEq, Nat.reduceEqDiff, Bool.not_true, Bool.not_false]; refine hK_ _ ?_; clear hK_ K_)
  | (with_reducible refine gateK_yes ?_) | (refine gateK_no (by decide) ?_) | (with_reducible refine gateK_none ?_)
  | ((try first | refine WO_op rfl rfl rfl ?_ | refine WO_op0 rfl rfl ?_ | refine WD_op rfl rfl rfl ?_ | refine WD_op0 rfl rfl ?_); (refine WV_gen fun Q_ hQ_ => ?_; simp (disch := first | omega | (simp only [List.length_cons, List.length_nil, List.length_append]; omega)) only [bb, argF, ↓reduceIte, reduceCtorEq, Nat.reduceEqDiff, Nat.reduceLT, Nat.reduceLeDiff, Nat.reduceAdd, Nat.reduceMul, Nat.reduceSub, Nat.reduceBEq, Int.reduceToNat, List.append_assoc, List.length_append, cond_true, cond_false, List.length_cons, List.length_nil, List.cons_append, List.nil_append, List.append_nil, List.getElem?_cons_zero, List.getElem?_cons_succ, List.set_cons_zero, List.set_cons_succ, List.drop_zero, List.drop_succ_cons, List.take_zero, List.take_succ_cons, List.take_nil, List.drop_nil, eq_self, List.toList_toArray, beq_self_eq_true, g1, g3, g5, g6, g7, hix, hld2, hlenv, newPtr_X wf, load1_X wf, loadAgg_X wf, store1_X wf, writeCells_X wf, makeFunc_def, bs_29, ia_29, sz_29, ze_29, ia_2, sz_2, ze_2, ia_3, sz_3, ia_47, sz_47, ia_46, sz_46, ia_22, sz_22, ik_47, ik_46, ik_22, ia_70, sz_70, ze_70, fo_70_0, fo_70_1, fo_24_0, fo_24_1, fo_24_2, ia_24, sz_24]; first | (refine dec_split (Q := Q_) (fun hp_ => ?_) (fun hp_ => ?_) <;> first | (exfalso; omega) | (refine hQ_ _ _ ?_; clear hQ_ Q_)) | (refine dec_splitn (Q := Q_) (fun hp_ => ?_) (fun hp_ => ?_) <;> first | (exfalso; omega) | (refine hQ_ _ _ ?_; clear hQ_ Q_)) | (refine hQ_ _ _ ?_; clear hQ_ Q_)))
  | (refine WC_cond fun K_ hK_ => ?_; simp (disch := omega) only [evT_tmp, upd_apply, WB_some, ↓reduceIte, reduceCtorEq, Nat.reduceEqDiff, Nat.reduceLT]; refine hK_ _ ?_; clear hK_ K_)
  | (with_reducible refine condK_tt ?_) | (with_reducible refine condK_ff ?_) | (with_reducible refine roundQ_exit ?_) | (with_reducible refine roundQ_ret ?_)))
                    refine roundQ_again (i + 1) (by omega) ⟨hlt, hofs, by simp only [upd_apply, ↓reduceIte, reduceCtorEq, Nat.reduceEqDiff]; exact g1, by simp only [upd_apply, ↓reduceIte, reduceCtorEq, Nat.reduceEqDiff]; exact g3, by simp only [upd_apply, ↓reduceIte, reduceCtorEq, Nat.reduceEqDiff]; exact g5, by simp only [upd_apply, ↓reduceIte, reduceCtorEq, Nat.reduceEqDiff]; rfl, rfl, _, rfl⟩
                · exact ⟨Nat.zero_le _, by simpa using hofs, by simp only [upd_apply, ↓reduceIte, reduceCtorEq, Nat.reduceEqDiff]; exact g1, by simp only [upd_apply, ↓reduceIte, reduceCtorEq, Nat.reduceEqDiff]; exact g3, by simp only [upd_apply, ↓reduceIte, reduceCtorEq, Nat.reduceEqDiff]; simpa using g5, by simp only [upd_apply, ↓reduceIte, reduceCtorEq, Nat.reduceEqDiff]; exact g6, by simp only [upd_apply, ↓reduceIte, reduceCtorEq, Nat.reduceEqDiff]; (try rfl), rfl, _, rfl⟩
              · have hie : i = rows.length := by omega
                subst hie
                rw [List.take_length] at hofs g5
                by_cases hmx : 0 < mx rows.flatten
                · rw [decide_eq_true hmx] at g5
                  (repeat' (first
  | (with_reducible refine WC_seq ?_) | (refine WC_region ?_) | (with_reducible refine WC_skip ?_) | (with_reducible refine WC_label ?_) | (with_reducible refine WC_scope ?_) | (with_reducible refine WC_block ?_) | (with_reducible refine WC_ret ?_) | (with_reducible refine WC_exit ?_)
  | (with_reducible refine seqQ_norm ?_) | (with_reducible refine seqQ_ret ?_) | (with_reducible refine seqQ_exit ?_) | (with_reducible refine blkQ_norm ?_) | (with_reducible refine blkQ_ret ?_) | (with_reducible refine blkQ_here ?_) | (refine blkQ_out rfl ?_)
  | (refine WO_nil ?_)
  | (refine WD_nil ?_)
  | (refine WD_gate rfl rfl rfl rfl rfl fun K_ hK_ => ?_; simp only [upd_apply, asB_bool, asB_tup, ↓reduceIte, reduceCtorEq, Nat.reduceEqDiff, Bool.not_true, Bool.not_false]; refine hK_ _ ?_; clear hK_ K_)
  | (refine WO_gate rfl rfl rfl rfl rfl fun K_ hK_ => ?_; simp only [upd_apply, asB_bool, asB_tup, ↓reduceIte, reduceCtorEq, Nat.reduceEqDiff, Bool.not_true, Bool.not_false]; refine hK_ _ ?_; clear hK_ K_)
  | (with_reducible refine gateK_yes ?_) | (refine gateK_no (by decide) ?_) | (with_reducible refine gateK_none ?_)
  | ((try first | refine WO_op rfl rfl rfl ?_ | refine WO_op0 rfl rfl ?_ | refine WD_op rfl rfl rfl ?_ | refine WD_op0 rfl rfl ?_); (refine WV_gen fun Q_ hQ_ => ?_; simp (disch := first | omega | (simp only [List.length_cons, List.length_nil, List.length_append]; omega)) only [bb, argF, ↓reduceIte, reduceCtorEq, Nat.reduceEqDiff, Nat.reduceLT, Nat.reduceLeDiff, Nat.reduceAdd, Nat.reduceMul, Nat.reduceSub, Nat.reduceBEq, Int.reduceToNat, List.append_assoc, List.length_append, cond_true, cond_false, List.length_cons, List.length_nil, List.cons_append, List.nil_append, List.append_nil, List.getElem?_cons_zero, List.getElem?_cons_succ, List.set_cons_zero, List.set_cons_succ, List.drop_zero, List.drop_succ_cons, List.take_zero, List.take_succ_cons, List.take_nil, List.drop_nil, eq_self, List.toList_toArray, beq_self_eq_true, g1, g3, g5, g6, newPtr_X wf, load1_X wf, loadAgg_X wf, store1_X wf, writeCells_X wf, makeFunc_def, bs_29, ia_29, sz_29, ze_29, ia_2, sz_2, ze_2, ia_3, sz_3, ia_47, sz_47, ia_46, sz_46, ia_22, sz_22, ik_47, ik_46, ik_22, ia_70, sz_70, ze_70, fo_70_0, fo_70_1, fo_24_0, fo_24_1, fo_24_2, ia_24, sz_24]; first | (refine dec_split (Q := Q_) (fun hp_ => ?_) (fun hp_ => ?_) <;> first | (exfalso; omega) | (refine hQ_ _ _ ?_; clear hQ_ Q_)) | (refine dec_splitn (Q := Q_) (fun hp_ => ?_) (fun hp_ => ?_) <;> first | (exfalso; omega) | (refine hQ_ _ _ ?_; clear hQ_ Q_)) | (refine hQ_ _ _ ?_; clear hQ_ Q_)))
  | (refine WC_cond fun K_ hK_ => ?_; simp (disch := omega) only [evT_tmp, upd_apply, WB_some, ↓reduceIte, reduceCtorEq, Nat.reduceEqDiff, Nat.reduceLT]; refine hK_ _ ?_; clear hK_ K_)
  | (with_reducible refine condK_tt ?_) | (with_reducible refine condK_ff ?_) | (with_reducible refine roundQ_exit ?_) | (with_reducible refine roundQ_ret ?_)))
                  (refine endQ_ret _ _ rfl (ret1 (by decide)) ?_; simp only [upd_apply, ↓reduceIte, reduceCtorEq, Nat.reduceEqDiff]; refine WV_flat rfl (by omega) ?_)
                  refine ⟨?_, rfl⟩
                  unfold hullErr
                  rw [if_neg (not_not_intro hn), if_neg (not_not_intro hm), if_neg (not_not_intro hall2), if_neg (not_not_intro ⟨hss.1, hss.2, hofs, hmx⟩)]
                · rw [decide_eq_false hmx] at g5
                  (repeat' (first
  | (with_reducible refine WC_seq ?_) | (refine WC_region ?_) | (with_reducible refine WC_skip ?_) | (with_reducible refine WC_label ?_) | (with_reducible refine WC_scope ?_) | (with_reducible refine WC_block ?_) | (with_reducible refine WC_ret ?_) | (with_reducible refine WC_exit ?_)
  | (with_reducible refine seqQ_norm ?_) | (with_reducible refine seqQ_ret ?_) | (with_reducible refine seqQ_exit ?_) | (with_reducible refine blkQ_norm ?_) | (with_reducible refine blkQ_ret ?_) | (with_reducible refine blkQ_here ?_) | (refine blkQ_out rfl ?_)
  | (refine WO_nil ?_)
  | (refine WD_nil ?_)
  | (refine WD_gate rfl rfl rfl rfl rfl fun K_ hK_ => ?_; simp only [upd_apply, asB_bool, asB_tup, ↓reduceIte, reduceCtorEq, Nat.reduceEqDiff, Bool.not_true, Bool.not_false]; refine hK_ _ ?_; clear hK_ K_)
  | (refine WO_gate rfl rfl rfl rfl rfl fun K_ hK_ => ?_; simp only [upd_apply, asB_bool, asB_tup, ↓reduceIte, reduceCtorEq, Nat.reduceEqDiff, Bool.not_true, Bool.not_false]; refine hK_ _ ?_; clear hK_ K_)
  | (with_reducible refine gateK_yes ?_) | (refine gateK_no (by decide) ?_) | (with_reducible refine gateK_none ?_)
  | ((try first | refine WO_op rfl rfl rfl ?_ | refine WO_op0 rfl rfl ?_ | refine WD_op rfl rfl rfl ?_ | refine WD_op0 rfl rfl ?_); (refine WV_gen fun Q_ hQ_ => ?_; simp (disch := first | omega | (simp only [List.length_cons, List.length_nil, List.length_append]; omega)) only [bb, argF, ↓reduceIte, reduceCtorEq, Nat.reduceEqDiff, Nat.reduceLT, Nat.reduceLeDiff, Nat.reduceAdd, Nat.reduceMul, Nat.reduceSub, Nat.reduceBEq, Int.reduceToNat, List.append_assoc, List.length_append, cond_true, cond_false, List.length_cons, List.length_nil, List.cons_append, List.nil_append, List.append_nil, List.getElem?_cons_zero, List.getElem?_cons_succ, List.set_cons_zero, List.set_cons_succ, List.drop_zero, List.drop_succ_cons, List.take_zero, List.take_succ_cons, List.take_nil, List.drop_nil, eq_self, List.toList_toArray, beq_self_eq_true, g1, g3, g5, g6, newPtr_X wf, load1_X wf, loadAgg_X wf, store1_X wf, writeCells_X wf, makeFunc_def, bs_29, ia_29, sz_29, ze_29, ia_2, sz_2, ze_2, ia_3, sz_3, ia_47, sz_47, ia_46, sz_46, ia_22, sz_22, ik_47, ik_46, ik_22, ia_70, sz_70, ze_70, fo_70_0, fo_70_1, fo_24_0, fo_24_1, fo_24_2, ia_24, sz_24]; first | (refine dec_split (Q := Q_) (fun hp_ => ?_) (fun hp_ => ?_) <;> first | (exfalso; omega) | (refine hQ_ _ _ ?_; clear hQ_ Q_)) | (refine dec_splitn (Q := Q_) (fun hp_ => ?_) (fun hp_ => ?_) <;> first | (exfalso; omega) | (refine hQ_ _ _ ?_; clear hQ_ Q_)) | (refine hQ_ _ _ ?_; clear hQ_ Q_)))
  | (refine WC_cond fun K_ hK_ => ?_; simp (disch := omega) only [evT_tmp, upd_apply, WB_some, ↓reduceIte, reduceCtorEq, Nat.reduceEqDiff, Nat.reduceLT]; refine hK_ _ ?_; clear hK_ K_)
  | (with_reducible refine condK_tt ?_) | (with_reducible refine condK_ff ?_) | (with_reducible refine roundQ_exit ?_) | (with_reducible refine roundQ_ret ?_)))
                  (refine endQ_ret _ _ rfl (ret1 (by decide)) ?_; simp only [upd_apply, ↓reduceIte, reduceCtorEq, Nat.reduceEqDiff]; refine WV_flat rfl (by omega) ?_)
                  refine ⟨?_, rfl⟩
                  unfold hullErr
                  rw [if_neg (not_not_intro hn), if_neg (not_not_intro hm), if_neg (not_not_intro hall2), if_pos (fun hh => absurd hh.2.2.2 hmx)]
            · exact ⟨Nat.zero_le _, by simp, by simp only [upd_apply, ↓reduceIte, reduceCtorEq, Nat.reduceEqDiff]; exact g1, by simp only [upd_apply, ↓reduceIte, reduceCtorEq, Nat.reduceEqDiff]; exact g3, by simp only [upd_apply, ↓reduceIte, reduceCtorEq, Nat.reduceEqDiff]; rfl, by simp only [upd_apply, ↓reduceIte, reduceCtorEq, Nat.reduceEqDiff]; (try rfl), rfl, [], rfl⟩
          · (repeat' (first
  | (with_reducible refine WC_seq ?_) | (refine WC_region ?_) | (with_reducible refine WC_skip ?_) | (with_reducible refine WC_label ?_) | (with_reducible refine WC_scope ?_) | (with_reducible refine WC_block ?_) | (with_reducible refine WC_ret ?_) | (with_reducible refine WC_exit ?_)
  | (with_reducible refine seqQ_norm ?_) | (with_reducible refine seqQ_ret ?_) | (with_reducible refine seqQ_exit ?_) | (with_reducible refine blkQ_norm ?_) | (with_reducible refine blkQ_ret ?_) | (with_reducible refine blkQ_here ?_) | (refine blkQ_out rfl ?_)
  | (refine WO_nil ?_)
  | (refine WD_nil ?_)
  | (refine WD_gate rfl rfl rfl rfl rfl fun K_ hK_ => ?_; simp only [upd_apply, asB_bool, asB_tup, ↓reduceIte, reduceCtorEq, Nat.reduceEqDiff, Bool.not_true, Bool.not_false]; refine hK_ _ ?_; clear hK_ K_)
  | (refine WO_gate rfl rfl rfl rfl rfl fun K_ hK_ => ?_; simp only [upd_apply, asB_bool, asB_tup, ↓reduceIte, reduceCtorEq, Nat.reduceEqDiff, Bool.not_true, Bool.not_false]; refine hK_ _ ?_; clear hK_ K_)
  | (with_reducible refine gateK_yes ?_) | (refine gateK_no (by decide) ?_) | (with_reducible refine gateK_none ?_)
  | ((try first | refine WO_op rfl rfl rfl ?_ | refine WO_op0 rfl rfl ?_ | refine WD_op rfl rfl rfl ?_ | refine WD_op0 rfl rfl ?_); (refine WV_gen fun Q_ hQ_ => ?_; simp (disch := first | omega | (simp only [List.length_cons, List.length_nil, List.length_append]; omega)) only [bb, argF, ↓reduceIte, reduceCtorEq, Nat.reduceEqDiff, Nat.reduceLT, Nat.reduceLeDiff, Nat.reduceAdd, Nat.reduceMul, Nat.reduceSub, Nat.reduceBEq, Int.reduceToNat, List.append_assoc, List.length_append, cond_true, cond_false, List.length_cons, List.length_nil, List.cons_append, List.nil_append, List.append_nil, List.getElem?_cons_zero, List.getElem?_cons_succ, List.set_cons_zero, List.set_cons_succ, List.drop_zero, List.drop_succ_cons, List.take_zero, List.take_succ_cons, List.take_nil, List.drop_nil, eq_self, List.toList_toArray, beq_self_eq_true, g1, g3, g4, newPtr_X wf, load1_X wf, loadAgg_X wf, store1_X wf, writeCells_X wf, makeFunc_def, bs_29, ia_29, sz_29, ze_29, ia_2, sz_2, ze_2, ia_3, sz_3, ia_47, sz_47, ia_46, sz_46, ia_22, sz_22, ik_47, ik_46, ik_22, ia_70, sz_70, ze_70, fo_70_0, fo_70_1, fo_24_0, fo_24_1, fo_24_2, ia_24, sz_24]; first | (refine dec_split (Q := Q_) (fun hp_ => ?_) (fun hp_ => ?_) <;> first | (exfalso; omega) | (refine hQ_ _ _ ?_; clear hQ_ Q_)) | (refine dec_splitn (Q := Q_) (fun hp_ => ?_) (fun hp_ => ?_) <;> first | (exfalso; omega) | (refine hQ_ _ _ ?_; clear hQ_ Q_)) | (refine hQ_ _ _ ?_; clear hQ_ Q_)))
  | (refine WC_cond fun K_ hK_ => ?_; simp (disch := omega) only [evT_tmp, upd_apply, WB_some, ↓reduceIte, reduceCtorEq, Nat.reduceEqDiff, Nat.reduceLT]; refine hK_ _ ?_; clear hK_ K_)
  | (with_reducible refine condK_tt ?_) | (with_reducible refine condK_ff ?_) | (with_reducible refine roundQ_exit ?_) | (with_reducible refine roundQ_ret ?_)))
            all_goals (refine endQ_ret _ _ rfl (ret1 (by decide)) ?_; simp only [upd_apply, ↓reduceIte, reduceCtorEq, Nat.reduceEqDiff]; refine WV_flat rfl (by omega) ?_)
            all_goals refine ⟨?_, rfl⟩
            all_goals unfold hullErr
            all_goals rw [if_neg (not_not_intro hn), if_neg (not_not_intro hm), if_neg (not_not_intro hall2), if_pos (fun hh => absurd ⟨hh.1, hh.2.1⟩ hss)]
      · exact ⟨Nat.zero_le _, fun j hj => absurd hj (Nat.not_lt_zero j), by simp only [upd_apply, ↓reduceIte, reduceCtorEq, Nat.reduceEqDiff], by simp only [upd_apply, ↓reduceIte, reduceCtorEq, Nat.reduceEqDiff], by simp only [upd_apply, ↓reduceIte, reduceCtorEq, Nat.reduceEqDiff]; rfl, rfl, rfl⟩
    · (repeat' (first
  | (with_reducible refine WC_seq ?_) | (refine WC_region ?_) | (with_reducible refine WC_skip ?_) | (with_reducible refine WC_label ?_) | (with_reducible refine WC_scope ?_) | (with_reducible refine WC_block ?_) | (with_reducible refine WC_ret ?_) | (with_reducible refine WC_exit ?_)
  | (with_reducible refine seqQ_norm ?_) | (with_reducible refine seqQ_ret ?_) | (with_reducible refine seqQ_exit ?_) | (with_reducible refine blkQ_norm ?_) | (with_reducible refine blkQ_ret ?_) | (with_reducible refine blkQ_here ?_) | (refine blkQ_out rfl ?_)
  | (refine WO_nil ?_)
  | (refine WD_nil ?_)
  | (refine WD_gate rfl rfl rfl rfl rfl fun K_ hK_ => ?_; simp only [upd_apply, asB_bool, asB_tup, ↓reduceIte, reduceCtorEq, Nat.reduceEqDiff, Bool.not_true, Bool.not_false]; refine hK_ _ ?_; clear hK_ K_)
  | (refine WO_gate rfl rfl rfl rfl rfl fun K_ hK_ => ?_; simp only [upd_apply, asB_bool, asB_tup, ↓reduceIte, reduceCtorEq, Nat.reduceEqDiff, Bool.not_true, Bool.not_false]; refine hK_ _ ?_; clear hK_ K_)
  | (with_reducible refine gateK_yes ?_) | (refine gateK_no (by decide) ?_) | (with_reducible refine gateK_none ?_)
  | ((try first | refine WO_op rfl rfl rfl ?_ | refine WO_op0 rfl rfl ?_ | refine WD_op rfl rfl rfl ?_ | refine WD_op0 rfl rfl ?_); (refine WV_gen fun Q_ hQ_ => ?_; simp (disch := first | omega | (simp only [List.length_cons, List.length_nil, List.length_append]; omega)) only [bb, argF, ↓reduceIte, reduceCtorEq, Nat.reduceEqDiff, Nat.reduceLT, Nat.reduceLeDiff, Nat.reduceAdd, Nat.reduceMul, Nat.reduceSub, Nat.reduceBEq, Int.reduceToNat, List.append_assoc, List.length_append, cond_true, cond_false, List.length_cons, List.length_nil, List.cons_append, List.nil_append, List.append_nil, List.getElem?_cons_zero, List.getElem?_cons_succ, List.set_cons_zero, List.set_cons_succ, List.drop_zero, List.drop_succ_cons, List.take_zero, List.take_succ_cons, List.take_nil, List.drop_nil, eq_self, List.toList_toArray, beq_self_eq_true, hlen, hix', hld, hlen0, newPtr_X wf, load1_X wf, loadAgg_X wf, store1_X wf, writeCells_X wf, makeFunc_def, bs_29, ia_29, sz_29, ze_29, ia_2, sz_2, ze_2, ia_3, sz_3, ia_47, sz_47, ia_46, sz_46, ia_22, sz_22, ik_47, ik_46, ik_22, ia_70, sz_70, ze_70, fo_70_0, fo_70_1, fo_24_0, fo_24_1, fo_24_2, ia_24, sz_24]; first | (refine dec_split (Q := Q_) (fun hp_ => ?_) (fun hp_ => ?_) <;> first | (exfalso; omega) | (refine hQ_ _ _ ?_; clear hQ_ Q_)) | (refine dec_splitn (Q := Q_) (fun hp_ => ?_) (fun hp_ => ?_) <;> first | (exfalso; omega) | (refine hQ_ _ _ ?_; clear hQ_ Q_)) | (refine hQ_ _ _ ?_; clear hQ_ Q_)))
  | (refine WC_cond fun K_ hK_ => ?_; simp (disch := omega) only [evT_tmp, upd_apply, WB_some, ↓reduceIte, reduceCtorEq, Nat.reduceEqDiff, Nat.reduceLT]; refine hK_ _ ?_; clear hK_ K_)
  | (with_reducible refine condK_tt ?_) | (with_reducible refine condK_ff ?_) | (with_reducible refine roundQ_exit ?_) | (with_reducible refine roundQ_ret ?_)))
      all_goals (refine endQ_ret _ _ rfl (ret1 (by decide)) ?_; simp only [upd_apply, ↓reduceIte, reduceCtorEq, Nat.reduceEqDiff]; refine WV_flat rfl (by omega) ?_)
      all_goals exact ⟨by unfold hullErr; rw [if_neg (not_not_intro hn), if_pos hm], rfl⟩
  · (repeat' (first
  | (with_reducible refine WC_seq ?_) | (refine WC_region ?_) | (with_reducible refine WC_skip ?_) | (with_reducible refine WC_label ?_) | (with_reducible refine WC_scope ?_) | (with_reducible refine WC_block ?_) | (with_reducible refine WC_ret ?_) | (with_reducible refine WC_exit ?_)
  | (with_reducible refine seqQ_norm ?_) | (with_reducible refine seqQ_ret ?_) | (with_reducible refine seqQ_exit ?_) | (with_reducible refine blkQ_norm ?_) | (with_reducible refine blkQ_ret ?_) | (with_reducible refine blkQ_here ?_) | (refine blkQ_out rfl ?_)
  | (refine WO_nil ?_)
  | (refine WD_nil ?_)
  | (refine WD_gate rfl rfl rfl rfl rfl fun K_ hK_ => ?_; simp only [upd_apply, asB_bool, asB_tup, ↓reduceIte, reduceCtorEq, Nat.reduceEqDiff, Bool.not_true, Bool.not_false]; refine hK_ _ ?_; clear hK_ K_)
  | (refine WO_gate rfl rfl rfl rfl rfl fun K_ hK_ => ?_; simp only [upd_apply, asB_bool, asB_tup, ↓reduceIte, reduceCtorEq, Nat.reduceEqDiff, Bool.not_true, Bool.not_false]; refine hK_ _ ?_; clear hK_ K_)
  | (with_reducible refine gateK_yes ?_) | (refine gateK_no (by decide) ?_) | (with_reducible refine gateK_none ?_)
  | ((try first | refine WO_op rfl rfl rfl ?_ | refine WO_op0 rfl rfl ?_ | refine WD_op rfl rfl rfl ?_ | refine WD_op0 rfl rfl ?_); (refine WV_gen fun Q_ hQ_ => ?_; simp (disch := first | omega | (simp only [List.length_cons, List.length_nil, List.length_append]; omega)) only [bb, argF, ↓reduceIte, reduceCtorEq, Nat.reduceEqDiff, Nat.reduceLT, Nat.reduceLeDiff, Nat.reduceAdd, Nat.reduceMul, Nat.reduceSub, Nat.reduceBEq, Int.reduceToNat, List.append_assoc, List.length_append, cond_true, cond_false, List.length_cons, List.length_nil, List.cons_append, List.nil_append, List.append_nil, List.getElem?_cons_zero, List.getElem?_cons_succ, List.set_cons_zero, List.set_cons_succ, List.drop_zero, List.drop_succ_cons, List.take_zero, List.take_succ_cons, List.take_nil, List.drop_nil, eq_self, List.toList_toArray, beq_self_eq_true, hlen, newPtr_X wf, load1_X wf, loadAgg_X wf, store1_X wf, writeCells_X wf, makeFunc_def, bs_29, ia_29, sz_29, ze_29, ia_2, sz_2, ze_2, ia_3, sz_3, ia_47, sz_47, ia_46, sz_46, ia_22, sz_22, ik_47, ik_46, ik_22, ia_70, sz_70, ze_70, fo_70_0, fo_70_1, fo_24_0, fo_24_1, fo_24_2, ia_24, sz_24]; first | (refine dec_split (Q := Q_) (fun hp_ => ?_) (fun hp_ => ?_) <;> first | (exfalso; omega) | (refine hQ_ _ _ ?_; clear hQ_ Q_)) | (refine dec_splitn (Q := Q_) (fun hp_ => ?_) (fun hp_ => ?_) <;> first | (exfalso; omega) | (refine hQ_ _ _ ?_; clear hQ_ Q_)) | (refine hQ_ _ _ ?_; clear hQ_ Q_)))
  | (refine WC_cond fun K_ hK_ => ?_; simp (disch := omega) only [evT_tmp, upd_apply, WB_some, ↓reduceIte, reduceCtorEq, Nat.reduceEqDiff, Nat.reduceLT]; refine hK_ _ ?_; clear hK_ K_)
  | (with_reducible refine condK_tt ?_) | (with_reducible refine condK_ff ?_) | (with_reducible refine roundQ_exit ?_) | (with_reducible refine roundQ_ret ?_)))
    all_goals (refine endQ_ret _ _ rfl (ret1 (by decide)) ?_; simp only [upd_apply, ↓reduceIte, reduceCtorEq, Nat.reduceEqDiff]; refine WV_flat rfl (by omega) ?_)
    all_goals exact ⟨by unfold hullErr; rw [if_pos hn], rfl⟩
end Go.Proofs.Ytghondkiondeaab
end

/- EvI4 -/
section
/-
  LAYER 2, THE REFERENCE: true hulls; the volume and the number as it answers them.
-/
namespace Go.Proofs.Ytghondkiondeaab
open Go.Ev
set_option maxRecDepth 100000
set_option linter.unusedSimpArgs false
set_option linter.unusedVariables false
set_option maxHeartbeats 2000000

theorem rAt_ik {rows : List (List (Int × Int))} {m i k : Nat} (hi : i < rows.length) (hk : k < m) (hl : rows[i].length = m) : rAt rows m (i * m + k) = rows[i][k]'(by omega) := by
  have e1 : (i * m + k) / m = i := by rw [Nat.mul_comm, Nat.mul_add_div (by omega), Nat.div_eq_of_lt hk]; omega
  have e2 : (i * m + k) % m = k := by rw [Nat.mul_comm, Nat.mul_add_mod]; exact Nat.mod_eq_of_lt hk
  have hk' : k < rows[i].length := by omega
  unfold rAt; rw [e1, e2]; simp [List.getD, hi, hk']

theorem checkTrueR (sp st : Int) (a b : AV) (rvs yvs : List AV) (rows : List (List (Int × Int))) (ys : List (List Int)) (hyl : ys.length ≤ 1000) (h : H) (x : HullR h a rvs rows) (y : YsR h b yvs ys) :
    (om Try.prog KK).call (.fn 14 [.agg [ii sp, ii st, a], b]) h = .ok (ii (trueErr sp st rows ys)) h := by
  have wf := x.wf
  obtain ⟨hbc, hbo⟩ := Sl.one y.sl
  refine WV_to (WV_call (fn := Try.f14) Try.func14 rfl rfl rfl rfl rfl ?_)
  simp only [argF]
  have hlen : ∀ h', lenE Try.prog 22 a h' = some (ii (rows.length : Int)) := fun h' => x.sl.len un_22
  have hleny : ∀ h', lenE Try.prog 25 b h' = some (ii (ys.length : Int)) := fun h' => y.sl.len un_25
  have hch : ∀ l w, w ≤ h.clock + l.length → (om Try.prog KK).call (.fn 12 [.agg [ii sp, ii st, a]]) (X h l w) = .ok (ii (hullErr sp st rows)) (X h l w) := fun l w hw => checkHullR sp st a rvs rows _ (x.up l w hw)
  by_cases he : hullErr sp st rows = 0
  · obtain ⟨hn, hm, hall, hsp, hst, hof⟩ := hullErr_ok he
    have xat := x.at (m := m0 rows) (by omega) (fun i hi => hall _ (List.getElem_mem hi))
    by_cases hyn : ys.length = rows.length
    · (repeat' (first
  | (with_reducible refine WC_seq ?_) | (refine WC_region ?_) | (with_reducible refine WC_skip ?_) | (with_reducible refine WC_label ?_) | (with_reducible refine WC_scope ?_) | (with_reducible refine WC_block ?_) | (with_reducible refine WC_ret ?_) | (with_reducible refine WC_exit ?_)
  | (with_reducible refine seqQ_norm ?_) | (with_reducible refine seqQ_ret ?_) | (with_reducible refine seqQ_exit ?_) | (with_reducible refine blkQ_norm ?_) | (with_reducible refine blkQ_ret ?_) | (with_reducible refine blkQ_here ?_) | (refine blkQ_out rfl ?_)
  | (refine WO_nil ?_)
  | (refine WD_nil ?_)
  | (refine WD_gate rfl rfl rfl rfl rfl fun K_ hK_ => ?_; simp only [upd_apply, asB_bool, asB_tup, ↓reduceIte, reduceCtorEq, Nat.reduceEqDiff, Bool.not_true, Bool.not_false]; refine hK_ _ ?_; clear hK_ K_)
  | (refine WO_gate rfl rfl rfl rfl rfl fun K_ hK_ => ?_; simp only [upd_apply, asB_bool, asB_tup, ↓reduceIte, reduceCtorEq, Nat.reduceEqDiff, Bool.not_true, Bool.not_false]; refine hK_ _ ?_; clear hK_ K_)
  | (with_reducible refine gateK_yes ?_) | (refine gateK_no (by decide) ?_) | (with_reducible refine gateK_none ?_)
  | ((try first | refine WO_op rfl rfl rfl ?_ | refine WO_op0 rfl rfl ?_ | refine WD_op rfl rfl rfl ?_ | refine WD_op0 rfl rfl ?_); (refine WV_gen fun Q_ hQ_ => ?_; simp (disch := first | omega | (simp only [List.length_cons, List.length_nil, List.length_append]; omega)) only [bb, argF, ↓reduceIte, reduceCtorEq, Nat.reduceEqDiff, Nat.reduceLT, Nat.reduceLeDiff, Nat.reduceAdd, Nat.reduceMul, Nat.reduceSub, Nat.reduceBEq, Int.reduceToNat, List.append_assoc, List.length_append, cond_true, cond_false, List.length_cons, List.length_nil, List.cons_append, List.nil_append, List.append_nil, List.getElem?_cons_zero, List.getElem?_cons_succ, List.set_cons_zero, List.set_cons_succ, List.drop_zero, List.drop_succ_cons, List.take_zero, List.take_succ_cons, List.take_nil, List.drop_nil, eq_self, List.toList_toArray, beq_self_eq_true, hbc, hbo, hlen, hleny, hch, hyn, he, newPtr_X wf, load1_X wf, loadAgg_X wf, store1_X wf, writeCells_X wf, makeFunc_def, bs_29, ia_29, sz_29, ze_29, ia_2, sz_2, ze_2, ia_3, sz_3, ia_25, sz_25, ia_47, sz_47, ia_46, sz_46, ia_22, sz_22, ik_25, ik_47, ik_46, ik_22, ia_70, sz_70, ze_70, fo_70_0, fo_70_1, fo_24_0, fo_24_1, fo_24_2, ia_24, sz_24, pb_12, pb_14, pb_26, pb_27, pb_30]; first | (refine dec_split (Q := Q_) (fun hp_ => ?_) (fun hp_ => ?_) <;> first | (exfalso; omega) | (refine hQ_ _ _ ?_; clear hQ_ Q_)) | (refine dec_splitn (Q := Q_) (fun hp_ => ?_) (fun hp_ => ?_) <;> first | (exfalso; omega) | (refine hQ_ _ _ ?_; clear hQ_ Q_)) | (refine hQ_ _ _ ?_; clear hQ_ Q_)))
  | (refine WC_cond fun K_ hK_ => ?_; simp (disch := omega) only [evT_tmp, upd_apply, WB_some, ↓reduceIte, reduceCtorEq, Nat.reduceEqDiff, Nat.reduceLT]; refine hK_ _ ?_; clear hK_ K_)
  | (with_reducible refine condK_tt ?_) | (with_reducible refine condK_ff ?_) | (with_reducible refine roundQ_exit ?_) | (with_reducible refine roundQ_ret ?_)))
      refine WC_loop (fun (i : Nat) f d h' => i ≤ rows.length ∧ (∀ j, j < i → ∀ hj : j < ys.length, ys[j].length = m0 rows) ∧ f 1 = b ∧ f 2 = .ptr (nx h 0) 0 ∧ f 5 = ii (i : Int) ∧ d = [] ∧ h' = X h [.cells (mkCells [ii sp, ii st, a]) 24] h.clock)
        (fun i => rows.length - i) ?_ (rows.length + 1) 0 (by omega) ?_
      · rintro i f d h' ⟨hi', hally, g1, g2, g5, rfl, rfl⟩
        by_cases hlt : i < rows.length
        · obtain ⟨v, hv, hsv, hrl⟩ := xat.row i hlt
          obtain ⟨id, off, hix, hld⟩ := x.sl.at1 wf hlt ik_22
          rw [hv] at hld
          have hlenv : ∀ h', lenE Try.prog 46 v h' = some (ii (m0 rows : Int)) := fun h' => hsv.len un_46
          have hlty : i < ys.length := by omega
          obtain ⟨vy, hvy, hsvy, hcap⟩ := y.row i hlty
          obtain ⟨idy, offy, hixy, hldy⟩ := y.sl.at1 wf hlty ik_25
          rw [hvy] at hldy
          have hlenvy : ∀ h', lenE Try.prog 47 vy h' = some (ii (ys[i].length : Int)) := fun h' => hsvy.len un_47
          (repeat' (first
  | (with_reducible refine WC_seq ?_) | (refine WC_region ?_) | (with_reducible refine WC_skip ?_) | (with_reducible refine WC_label ?_) | (with_reducible refine WC_scope ?_) | (with_reducible refine WC_block ?_) | (with_reducible refine WC_ret ?_) | (with_reducible refine WC_exit ?_)
  | (with_reducible refine seqQ_norm ?_) | (with_reducible refine seqQ_ret ?_) | (with_reducible refine seqQ_exit ?_) | (with_reducible refine blkQ_norm ?_) | (with_reducible refine blkQ_ret ?_) | (with_reducible refine blkQ_here ?_) | (refine blkQ_out rfl ?_)
  | (refine WO_nil ?_)
  | (refine WD_nil ?_)
  | (refine WD_gate rfl rfl rfl rfl rfl fun K_ hK_ => ?_; simp only [upd_apply, asB_bool, asB_tup, ↓reduceIte, reduceCtorEq, Nat.reduceEqDiff, Bool.not_true, Bool.not_false]; refine hK_ _ ?_; clear hK_ K_)
  | (refine WO_gate rfl rfl rfl rfl rfl fun K_ hK_ => ?_; simp only [upd_apply, asB_bool, asB_tup, ↓reduceIte, reduceCtorEq, Nat.reduceEqDiff, Bool.not_true, Bool.not_false]; refine hK_ _ ?_; clear hK_ K_)
  | (with_reducible refine gateK_yes ?_) | (refine gateK_no (by decide) ?_) | (with_reducible refine gateK_none ?_)
  | ((try first | refine WO_op rfl rfl rfl ?_ | refine WO_op0 rfl rfl ?_ | refine WD_op rfl rfl rfl ?_ | refine WD_op0 rfl rfl ?_); (refine WV_gen fun Q_ hQ_ => ?_; simp (disch := first | omega | (simp only [List.length_cons, List.length_nil, List.length_append]; omega)) only [bb, argF, ↓reduceIte, reduceCtorEq, Nat.reduceEqDiff, Nat.reduceLT, Nat.reduceLeDiff, Nat.reduceAdd, Nat.reduceMul, Nat.reduceSub, Nat.reduceBEq, Int.reduceToNat, List.append_assoc, List.length_append, cond_true, cond_false, List.length_cons, List.length_nil, List.cons_append, List.nil_append, List.append_nil, List.getElem?_cons_zero, List.getElem?_cons_succ, List.set_cons_zero, List.set_cons_succ, List.drop_zero, List.drop_succ_cons, List.take_zero, List.take_succ_cons, List.take_nil, List.drop_nil, eq_self, List.toList_toArray, beq_self_eq_true, g1, g2, g5, hleny, hyn, newPtr_X wf, load1_X wf, loadAgg_X wf, store1_X wf, writeCells_X wf, makeFunc_def, bs_29, ia_29, sz_29, ze_29, ia_2, sz_2, ze_2, ia_3, sz_3, ia_25, sz_25, ia_47, sz_47, ia_46, sz_46, ia_22, sz_22, ik_25, ik_47, ik_46, ik_22, ia_70, sz_70, ze_70, fo_70_0, fo_70_1, fo_24_0, fo_24_1, fo_24_2, ia_24, sz_24, pb_12, pb_14, pb_26, pb_27, pb_30]; first | (refine dec_split (Q := Q_) (fun hp_ => ?_) (fun hp_ => ?_) <;> first | (exfalso; omega) | (refine hQ_ _ _ ?_; clear hQ_ Q_)) | (refine dec_splitn (Q := Q_) (fun hp_ => ?_) (fun hp_ => ?_) <;> first | (exfalso; omega) | (refine hQ_ _ _ ?_; clear hQ_ Q_)) | (refine hQ_ _ _ ?_; clear hQ_ Q_)))
  | (refine WC_cond fun K_ hK_ => ?_; simp (disch := omega) only [evT_tmp, upd_apply, WB_some, ↓reduceIte, reduceCtorEq, Nat.reduceEqDiff, Nat.reduceLT]; refine hK_ _ ?_; clear hK_ K_)
  | (with_reducible refine condK_tt ?_) | (with_reducible refine condK_ff ?_) | (with_reducible refine roundQ_exit ?_) | (with_reducible refine roundQ_ret ?_)))
          refine WC_drawnB [.no, .no, .no, .no, .no, .no, .no, .no, .no, .no, .no, .full] (by kernel_rfl) ?_
          (repeat' (first
  | (with_reducible refine WC_seq ?_) | (refine WC_region ?_) | (with_reducible refine WC_skip ?_) | (with_reducible refine WC_label ?_) | (with_reducible refine WC_scope ?_) | (with_reducible refine WC_block ?_) | (with_reducible refine WC_ret ?_) | (with_reducible refine WC_exit ?_)
  | (with_reducible refine seqQ_norm ?_) | (with_reducible refine seqQ_ret ?_) | (with_reducible refine seqQ_exit ?_) | (with_reducible refine blkQ_norm ?_) | (with_reducible refine blkQ_ret ?_) | (with_reducible refine blkQ_here ?_) | (refine blkQ_out rfl ?_)
  | (refine WO_nil ?_)
  | (refine WD_nil ?_)
  | (refine WD_gate rfl rfl rfl rfl rfl fun K_ hK_ => ?_; simp only [upd_apply, asB_bool, asB_tup, ↓reduceIte, reduceCtorEq, Nat.reduceEqDiff, Bool.not_true, Bool.not_false]; refine hK_ _ ?_; clear hK_ K_)
  | (refine WO_gate rfl rfl rfl rfl rfl fun K_ hK_ => ?_; simp only [upd_apply, asB_bool, asB_tup, ↓reduceIte, reduceCtorEq, Nat.reduceEqDiff, Bool.not_true, Bool.not_false]; refine hK_ _ ?_; clear hK_ K_)
  | (with_reducible refine gateK_yes ?_) | (refine gateK_no (by decide) ?_) | (with_reducible refine gateK_none ?_)
  | ((try first | refine WO_op rfl rfl rfl ?_ | refine WO_op0 rfl rfl ?_ | refine WD_op rfl rfl rfl ?_ | refine WD_op0 rfl rfl ?_); (refine WV_gen fun Q_ hQ_ => ?_; simp (disch := first | omega | (simp only [List.length_cons, List.length_nil, List.length_append]; omega)) only [bb, argF, ↓reduceIte, reduceCtorEq, Nat.reduceEqDiff, Nat.reduceLT, Nat.reduceLeDiff, Nat.reduceAdd, Nat.reduceMul, Nat.reduceSub, Nat.reduceBEq, Int.reduceToNat, List.append_assoc, List.length_append, cond_true, cond_false, List.length_cons, List.length_nil, List.cons_append, List.nil_append, List.append_nil, List.getElem?_cons_zero, List.getElem?_cons_succ, List.set_cons_zero, List.set_cons_succ, List.drop_zero, List.drop_succ_cons, List.take_zero, List.take_succ_cons, List.take_nil, List.drop_nil, eq_self, List.toList_toArray, beq_self_eq_true, g1, g2, g5, hix, hld, hlenv, hixy, hldy, hlenvy, newPtr_X wf, load1_X wf, loadAgg_X wf, store1_X wf, writeCells_X wf, makeFunc_def, bs_29, ia_29, sz_29, ze_29, ia_2, sz_2, ze_2, ia_3, sz_3, ia_25, sz_25, ia_47, sz_47, ia_46, sz_46, ia_22, sz_22, ik_25, ik_47, ik_46, ik_22, ia_70, sz_70, ze_70, fo_70_0, fo_70_1, fo_24_0, fo_24_1, fo_24_2, ia_24, sz_24, pb_12, pb_14, pb_26, pb_27, pb_30]; first | (refine dec_split (Q := Q_) (fun hp_ => ?_) (fun hp_ => ?_) <;> first | (exfalso; omega) | (refine hQ_ _ _ ?_; clear hQ_ Q_)) | (refine dec_splitn (Q := Q_) (fun hp_ => ?_) (fun hp_ => ?_) <;> first | (exfalso; omega) | (refine hQ_ _ _ ?_; clear hQ_ Q_)) | (refine hQ_ _ _ ?_; clear hQ_ Q_)))
  | (refine WC_cond fun K_ hK_ => ?_; simp (disch := omega) only [evT_tmp, upd_apply, WB_some, ↓reduceIte, reduceCtorEq, Nat.reduceEqDiff, Nat.reduceLT]; refine hK_ _ ?_; clear hK_ K_)
  | (with_reducible refine condK_tt ?_) | (with_reducible refine condK_ff ?_) | (with_reducible refine roundQ_exit ?_) | (with_reducible refine roundQ_ret ?_)))
          · refine roundQ_again (i + 1) (by omega) ⟨hlt, ?_, by simp only [upd_apply, ↓reduceIte, reduceCtorEq, Nat.reduceEqDiff]; exact g1, by simp only [upd_apply, ↓reduceIte, reduceCtorEq, Nat.reduceEqDiff]; exact g2, by simp only [upd_apply, ↓reduceIte, reduceCtorEq, Nat.reduceEqDiff]; rfl, rfl, rfl⟩
            intro j hj hjl
            by_cases hji : j = i
            · subst hji; omega
            · exact hally j (by omega) hjl
          · (refine endQ_ret _ _ rfl (ret1 (by decide)) ?_; simp only [upd_apply, ↓reduceIte, reduceCtorEq, Nat.reduceEqDiff]; refine WV_flat rfl (by omega) ?_)
            refine ⟨?_, rfl⟩
            unfold trueErr
            rw [if_neg (not_not_intro he), if_neg (not_not_intro hyn), if_pos (fun hh => by have := hh _ (List.getElem_mem hlty); omega)]
        · have hie : i = rows.length := by omega
          subst hie
          have hally2 : ∀ y ∈ ys, y.length = m0 rows := fun row hr => by
            obtain ⟨j, hj, rfl⟩ := List.getElem_of_mem hr
            exact hally j (by omega) hj
          have yat' := y.at (m := m0 rows) (by omega) (fun i hi => hally2 _ (List.getElem_mem hi))
          (repeat' (first
  | (with_reducible refine WC_seq ?_) | (refine WC_region ?_) | (with_reducible refine WC_skip ?_) | (with_reducible refine WC_label ?_) | (with_reducible refine WC_scope ?_) | (with_reducible refine WC_block ?_) | (with_reducible refine WC_ret ?_) | (with_reducible refine WC_exit ?_)
  | (with_reducible refine seqQ_norm ?_) | (with_reducible refine seqQ_ret ?_) | (with_reducible refine seqQ_exit ?_) | (with_reducible refine blkQ_norm ?_) | (with_reducible refine blkQ_ret ?_) | (with_reducible refine blkQ_here ?_) | (refine blkQ_out rfl ?_)
  | (refine WO_nil ?_)
  | (refine WD_nil ?_)
  | (refine WD_gate rfl rfl rfl rfl rfl fun K_ hK_ => ?_; simp only [upd_apply, asB_bool, asB_tup, ↓reduceIte, reduceCtorEq, Nat.reduceEqDiff, Bool.not_true, Bool.not_false]; refine hK_ _ ?_; clear hK_ K_)
  | (refine WO_gate rfl rfl rfl rfl rfl fun K_ hK_ => ?_; simp only [upd_apply, asB_bool, asB_tup, ↓reduceIte, reduceCtorEq, Nat.reduceEqDiff, Bool.not_true, Bool.not_false]; refine hK_ _ ?_; clear hK_ K_)
  | (with_reducible refine gateK_yes ?_) | (refine gateK_no (by decide) ?_) | (with_reducible refine gateK_none ?_)
  | ((try first | refine WO_op rfl rfl rfl ?_ | refine WO_op0 rfl rfl ?_ | refine WD_op rfl rfl rfl ?_ | refine WD_op0 rfl rfl ?_); (refine WV_gen fun Q_ hQ_ => ?_; simp (disch := first | omega | (simp only [List.length_cons, List.length_nil, List.length_append]; omega)) only [bb, argF, ↓reduceIte, reduceCtorEq, Nat.reduceEqDiff, Nat.reduceLT, Nat.reduceLeDiff, Nat.reduceAdd, Nat.reduceMul, Nat.reduceSub, Nat.reduceBEq, Int.reduceToNat, List.append_assoc, List.length_append, cond_true, cond_false, List.length_cons, List.length_nil, List.cons_append, List.nil_append, List.append_nil, List.getElem?_cons_zero, List.getElem?_cons_succ, List.set_cons_zero, List.set_cons_succ, List.drop_zero, List.drop_succ_cons, List.take_zero, List.take_succ_cons, List.take_nil, List.drop_nil, eq_self, List.toList_toArray, beq_self_eq_true, g1, g2, g5, hleny, hyn, newPtr_X wf, load1_X wf, loadAgg_X wf, store1_X wf, writeCells_X wf, makeFunc_def, bs_29, ia_29, sz_29, ze_29, ia_2, sz_2, ze_2, ia_3, sz_3, ia_25, sz_25, ia_47, sz_47, ia_46, sz_46, ia_22, sz_22, ik_25, ik_47, ik_46, ik_22, ia_70, sz_70, ze_70, fo_70_0, fo_70_1, fo_24_0, fo_24_1, fo_24_2, ia_24, sz_24, pb_12, pb_14, pb_26, pb_27, pb_30]; first | (refine dec_split (Q := Q_) (fun hp_ => ?_) (fun hp_ => ?_) <;> first | (exfalso; omega) | (refine hQ_ _ _ ?_; clear hQ_ Q_)) | (refine dec_splitn (Q := Q_) (fun hp_ => ?_) (fun hp_ => ?_) <;> first | (exfalso; omega) | (refine hQ_ _ _ ?_; clear hQ_ Q_)) | (refine hQ_ _ _ ?_; clear hQ_ Q_)))
  | (refine WC_cond fun K_ hK_ => ?_; simp (disch := omega) only [evT_tmp, upd_apply, WB_some, ↓reduceIte, reduceCtorEq, Nat.reduceEqDiff, Nat.reduceLT]; refine hK_ _ ?_; clear hK_ K_)
  | (with_reducible refine condK_tt ?_) | (with_reducible refine condK_ff ?_) | (with_reducible refine roundQ_exit ?_) | (with_reducible refine roundQ_ret ?_)))
          refine WC_loop (fun (i : Nat) f d h' => i ≤ rows.length ∧ (∀ q, q < i * m0 rows → inR rows ys (m0 rows) q) ∧ f 1 = b ∧ f 2 = .ptr (nx h 0) 0 ∧ f 6 = ii (i : Int) ∧ d = [] ∧ h' = X h [.cells (mkCells [ii sp, ii st, a]) 24] h.clock)
            (fun i => rows.length - i) ?_ (rows.length + 1) 0 (by omega) ?_
          · clear g1 g2 g5
            rintro i f d h' ⟨hi', hin, g1, g2, g6, rfl, rfl⟩
            by_cases hlt : i < rows.length
            · obtain ⟨v, hv, hsv, hrl⟩ := xat.row i hlt
              obtain ⟨id, off, hix, hld⟩ := x.sl.at1 wf hlt ik_22
              rw [hv] at hld
              have hlty : i < ys.length := by omega
              obtain ⟨vy, hvy, hsvy, hcap, hyrl⟩ := yat'.row i hlty
              obtain ⟨idy, offy, hixy, hldy⟩ := y.sl.at1 wf hlty ik_25
              rw [hvy] at hldy
              have hlenvy : ∀ h', lenE Try.prog 47 vy h' = some (ii (m0 rows : Int)) := fun h' => hsvy.len un_47
              (repeat' (first
  | (with_reducible refine WC_seq ?_) | (refine WC_region ?_) | (with_reducible refine WC_skip ?_) | (with_reducible refine WC_label ?_) | (with_reducible refine WC_scope ?_) | (with_reducible refine WC_block ?_) | (with_reducible refine WC_ret ?_) | (with_reducible refine WC_exit ?_)
  | (with_reducible refine seqQ_norm ?_) | (with_reducible refine seqQ_ret ?_) | (with_reducible refine seqQ_exit ?_) | (with_reducible refine blkQ_norm ?_) | (with_reducible refine blkQ_ret ?_) | (with_reducible refine blkQ_here ?_) | (refine blkQ_out rfl ?_)
  | (refine WO_nil ?_)
  | (refine WD_nil ?_)
  | (refine WD_gate rfl rfl rfl rfl rfl fun K_ hK_ => ?_; simp only [upd_apply, asB_bool, asB_tup, ↓reduceIte, reduceCtorEq, Nat.reduceEqDiff, Bool.not_true, Bool.not_false]; refine hK_ _ ?_; clear hK_ K_)
  | (refine WO_gate rfl rfl rfl rfl rfl fun K_ hK_ => ?_; simp only [upd_apply, asB_bool, asB_tup, ↓reduceIte, reduceCtorEq, Nat.reduceEqDiff, Bool.not_true, Bool.not_false]; refine hK_ _ ?_; clear hK_ K_)
  | (with_reducible refine gateK_yes ?_) | (refine gateK_no (by decide) ?_) | (with_reducible refine gateK_none ?_)
  | ((try first | refine WO_op rfl rfl rfl ?_ | refine WO_op0 rfl rfl ?_ | refine WD_op rfl rfl rfl ?_ | refine WD_op0 rfl rfl ?_); (refine WV_gen fun Q_ hQ_ => ?_; simp (disch := first | omega | (simp only [List.length_cons, List.length_nil, List.length_append]; omega)) only [bb, argF, ↓reduceIte, reduceCtorEq, Nat.reduceEqDiff, Nat.reduceLT, Nat.reduceLeDiff, Nat.reduceAdd, Nat.reduceMul, Nat.reduceSub, Nat.reduceBEq, Int.reduceToNat, List.append_assoc, List.length_append, cond_true, cond_false, List.length_cons, List.length_nil, List.cons_append, List.nil_append, List.append_nil, List.getElem?_cons_zero, List.getElem?_cons_succ, List.set_cons_zero, List.set_cons_succ, List.drop_zero, List.drop_succ_cons, List.take_zero, List.take_succ_cons, List.take_nil, List.drop_nil, eq_self, List.toList_toArray, beq_self_eq_true, g1, g2, g6, hleny, hyn, hixy, hldy, hlenvy, newPtr_X wf, load1_X wf, loadAgg_X wf, store1_X wf, writeCells_X wf, makeFunc_def, bs_29, ia_29, sz_29, ze_29, ia_2, sz_2, ze_2, ia_3, sz_3, ia_25, sz_25, ia_47, sz_47, ia_46, sz_46, ia_22, sz_22, ik_25, ik_47, ik_46, ik_22, ia_70, sz_70, ze_70, fo_70_0, fo_70_1, fo_24_0, fo_24_1, fo_24_2, ia_24, sz_24, pb_12, pb_14, pb_26, pb_27, pb_30]; first | (refine dec_split (Q := Q_) (fun hp_ => ?_) (fun hp_ => ?_) <;> first | (exfalso; omega) | (refine hQ_ _ _ ?_; clear hQ_ Q_)) | (refine dec_splitn (Q := Q_) (fun hp_ => ?_) (fun hp_ => ?_) <;> first | (exfalso; omega) | (refine hQ_ _ _ ?_; clear hQ_ Q_)) | (refine hQ_ _ _ ?_; clear hQ_ Q_)))
  | (refine WC_cond fun K_ hK_ => ?_; simp (disch := omega) only [evT_tmp, upd_apply, WB_some, ↓reduceIte, reduceCtorEq, Nat.reduceEqDiff, Nat.reduceLT]; refine hK_ _ ?_; clear hK_ K_)
  | (with_reducible refine condK_tt ?_) | (with_reducible refine condK_ff ?_) | (with_reducible refine roundQ_exit ?_) | (with_reducible refine roundQ_ret ?_)))
              refine WC_loop (fun (k : Nat) f d h' => k ≤ m0 rows ∧ (∀ q, q < i * m0 rows + k → inR rows ys (m0 rows) q) ∧ f 1 = b ∧ f 2 = .ptr (nx h 0) 0 ∧ f 6 = ii (i : Int) ∧ f 7 = ii (k : Int) ∧ d = [] ∧ h' = X h [.cells (mkCells [ii sp, ii st, a]) 24] h.clock)
                (fun k => m0 rows - k) ?_ (m0 rows + 1) 0 (by omega) ?_
              · clear g1 g2 g6 hin
                rintro k f d h' ⟨hk, hin, g1, g2, g6, g7, rfl, rfl⟩
                by_cases hkl : k < m0 rows
                · obtain ⟨id3, off3, hix3, hld3⟩ := hsv.at wf hkl ik_46
                  have hkr : k < rows[i].length := by omega
                  have hrow0 : ∀ l w, load1 id3 off3 (X h l w) = some (ii rows[i][k].1) := fun l w => by
                    have := (hld3 l w).1 0 (by decide)
                    rw [Nat.add_zero] at this
                    rw [this, pairCells_get hkr (by decide)]; rfl
                  have hrow1 : ∀ l w, load1 id3 (off3 + 1) (X h l w) = some (ii rows[i][k].2) := fun l w => by
                    have := (hld3 l w).1 1 (by decide)
                    rw [this, pairCells_get hkr (by decide)]; rfl
                  obtain ⟨id4, off4, hix4, hld4⟩ := hsvy.at1 wf hkl ik_47
                  have hky : k < ys[i].length := by omega
                  have hyz : (ys[i].map ii)[k]? = some (ii ys[i][k]) := by rw [List.getElem?_map]; simp [hky]
                  rw [hyz] at hld4
                  have e1 := rAt_ik hlt hkl hrl
                  obtain ⟨_, _, _, e2⟩ := at_ik (n := ys.length) hlty hkl hyrl
                  have hq := ik_lt (n := rows.length) hlt hkl
                  have hinR : inR rows ys (m0 rows) (i * m0 rows + k) ↔ rows[i][k].1 ≤ ys[i][k] ∧ ys[i][k] ≤ rows[i][k].2 := by unfold inR; rw [e1, e2]
                  (repeat' (first
  | (with_reducible refine WC_seq ?_) | (refine WC_region ?_) | (with_reducible refine WC_skip ?_) | (with_reducible refine WC_label ?_) | (with_reducible refine WC_scope ?_) | (with_reducible refine WC_block ?_) | (with_reducible refine WC_ret ?_) | (with_reducible refine WC_exit ?_)
  | (with_reducible refine seqQ_norm ?_) | (with_reducible refine seqQ_ret ?_) | (with_reducible refine seqQ_exit ?_) | (with_reducible refine blkQ_norm ?_) | (with_reducible refine blkQ_ret ?_) | (with_reducible refine blkQ_here ?_) | (refine blkQ_out rfl ?_)
  | (refine WO_nil ?_)
  | (refine WD_nil ?_)
  | (refine WD_gate rfl rfl rfl rfl rfl fun K_ hK_ => ?_; simp only [upd_apply, asB_bool, asB_tup, ↓reduceIte, reduceCtorEq, Nat.reduceEqDiff, Bool.not_true, Bool.not_false]; refine hK_ _ ?_; clear hK_ K_)
  | (refine WO_gate rfl rfl rfl rfl rfl fun K_ hK_ => ?_; simp only [upd_apply, asB_bool, asB_tup, ↓reduceIte, reduceCtorEq, Nat.reduceEqDiff, Bool.not_true, Bool.not_false]; refine hK_ _ ?_; clear hK_ K_)
  | (with_reducible refine gateK_yes ?_) | (refine gateK_no (by decide) ?_) | (with_reducible refine gateK_none ?_)
  | ((try first | refine WO_op rfl rfl rfl ?_ | refine WO_op0 rfl rfl ?_ | refine WD_op rfl rfl rfl ?_ | refine WD_op0 rfl rfl ?_); (refine WV_gen fun Q_ hQ_ => ?_; simp (disch := first | omega | (simp only [List.length_cons, List.length_nil, List.length_append]; omega)) only [bb, argF, ↓reduceIte, reduceCtorEq, Nat.reduceEqDiff, Nat.reduceLT, Nat.reduceLeDiff, Nat.reduceAdd, Nat.reduceMul, Nat.reduceSub, Nat.reduceBEq, Int.reduceToNat, List.append_assoc, List.length_append, cond_true, cond_false, List.length_cons, List.length_nil, List.cons_append, List.nil_append, List.append_nil, List.getElem?_cons_zero, List.getElem?_cons_succ, List.set_cons_zero, List.set_cons_succ, List.drop_zero, List.drop_succ_cons, List.take_zero, List.take_succ_cons, List.take_nil, List.drop_nil, eq_self, List.toList_toArray, beq_self_eq_true, g1, g2, g6, g7, hleny, hyn, hixy, hldy, hlenvy, newPtr_X wf, load1_X wf, loadAgg_X wf, store1_X wf, writeCells_X wf, makeFunc_def, bs_29, ia_29, sz_29, ze_29, ia_2, sz_2, ze_2, ia_3, sz_3, ia_25, sz_25, ia_47, sz_47, ia_46, sz_46, ia_22, sz_22, ik_25, ik_47, ik_46, ik_22, ia_70, sz_70, ze_70, fo_70_0, fo_70_1, fo_24_0, fo_24_1, fo_24_2, ia_24, sz_24, pb_12, pb_14, pb_26, pb_27, pb_30]; first | (refine dec_split (Q := Q_) (fun hp_ => ?_) (fun hp_ => ?_) <;> first | (exfalso; omega) | (refine hQ_ _ _ ?_; clear hQ_ Q_)) | (refine dec_splitn (Q := Q_) (fun hp_ => ?_) (fun hp_ => ?_) <;> first | (exfalso; omega) | (refine hQ_ _ _ ?_; clear hQ_ Q_)) | (refine hQ_ _ _ ?_; clear hQ_ Q_)))
  | (refine WC_cond fun K_ hK_ => ?_; simp (disch := omega) only [evT_tmp, upd_apply, WB_some, ↓reduceIte, reduceCtorEq, Nat.reduceEqDiff, Nat.reduceLT]; refine hK_ _ ?_; clear hK_ K_)
  | (with_reducible refine condK_tt ?_) | (with_reducible refine condK_ff ?_) | (with_reducible refine roundQ_exit ?_) | (with_reducible refine roundQ_ret ?_)))
                  refine WC_drawnB [.no, .no, .no, .no, .no, .no, .no, .no, .no, .no, .no, .no, .no, .no, .no, .no, .full, .full, .no, .no, .no, .no, .no, .no, .no, .no, .no, .no, .no, .no, .no, .no, .no, .no, .full, .full] (by kernel_rfl) ?_
                  (repeat' (first
  | (with_reducible refine WC_seq ?_) | (refine WC_region ?_) | (with_reducible refine WC_skip ?_) | (with_reducible refine WC_label ?_) | (with_reducible refine WC_scope ?_) | (with_reducible refine WC_block ?_) | (with_reducible refine WC_ret ?_) | (with_reducible refine WC_exit ?_)
  | (with_reducible refine seqQ_norm ?_) | (with_reducible refine seqQ_ret ?_) | (with_reducible refine seqQ_exit ?_) | (with_reducible refine blkQ_norm ?_) | (with_reducible refine blkQ_ret ?_) | (with_reducible refine blkQ_here ?_) | (refine blkQ_out rfl ?_)
  | (refine WO_nil ?_)
  | (refine WD_nil ?_)
  | (refine WD_gate rfl rfl rfl rfl rfl fun K_ hK_ => ?_; simp only [upd_apply, asB_bool, asB_tup, ↓reduceIte, reduceCtorEq, Nat.reduceEqDiff, Bool.not_true, Bool.not_false]; refine hK_ _ ?_; clear hK_ K_)
  | (refine WO_gate rfl rfl rfl rfl rfl fun K_ hK_ => ?_; simp only [upd_apply, asB_bool, asB_tup, ↓reduceIte, reduceCtorEq, Nat.reduceEqDiff, Bool.not_true, Bool.not_false]; refine hK_ _ ?_; clear hK_ K_)
  | (with_reducible refine gateK_yes ?_) | (refine gateK_no (by decide) ?_) | (with_reducible refine gateK_none ?_)
  | ((try first | refine WO_op rfl rfl rfl ?_ | refine WO_op0 rfl rfl ?_ | refine WD_op rfl rfl rfl ?_ | refine WD_op0 rfl rfl ?_); (refine WV_gen fun Q_ hQ_ => ?_; simp (disch := first | omega | (simp only [List.length_cons, List.length_nil, List.length_append]; omega)) only [bb, argF, ↓reduceIte, reduceCtorEq, Nat.reduceEqDiff, Nat.reduceLT, Nat.reduceLeDiff, Nat.reduceAdd, Nat.reduceMul, Nat.reduceSub, Nat.reduceBEq, Int.reduceToNat, List.append_assoc, List.length_append, cond_true, cond_false, List.length_cons, List.length_nil, List.cons_append, List.nil_append, List.append_nil, List.getElem?_cons_zero, List.getElem?_cons_succ, List.set_cons_zero, List.set_cons_succ, List.drop_zero, List.drop_succ_cons, List.take_zero, List.take_succ_cons, List.take_nil, List.drop_nil, eq_self, List.toList_toArray, beq_self_eq_true, g1, g2, g6, g7, hix, hld, hixy, hldy, hix3, hrow0, hrow1, hix4, hld4, newPtr_X wf, load1_X wf, loadAgg_X wf, store1_X wf, writeCells_X wf, makeFunc_def, bs_29, ia_29, sz_29, ze_29, ia_2, sz_2, ze_2, ia_3, sz_3, ia_25, sz_25, ia_47, sz_47, ia_46, sz_46, ia_22, sz_22, ik_25, ik_47, ik_46, ik_22, ia_70, sz_70, ze_70, fo_70_0, fo_70_1, fo_24_0, fo_24_1, fo_24_2, ia_24, sz_24, pb_12, pb_14, pb_26, pb_27, pb_30]; first | (refine dec_split (Q := Q_) (fun hp_ => ?_) (fun hp_ => ?_) <;> first | (exfalso; omega) | (refine hQ_ _ _ ?_; clear hQ_ Q_)) | (refine dec_splitn (Q := Q_) (fun hp_ => ?_) (fun hp_ => ?_) <;> first | (exfalso; omega) | (refine hQ_ _ _ ?_; clear hQ_ Q_)) | (refine hQ_ _ _ ?_; clear hQ_ Q_)))
  | (refine WC_cond fun K_ hK_ => ?_; simp (disch := omega) only [evT_tmp, upd_apply, WB_some, ↓reduceIte, reduceCtorEq, Nat.reduceEqDiff, Nat.reduceLT]; refine hK_ _ ?_; clear hK_ K_)
  | (with_reducible refine condK_tt ?_) | (with_reducible refine condK_ff ?_) | (with_reducible refine roundQ_exit ?_) | (with_reducible refine roundQ_ret ?_)))
                  · (refine endQ_ret _ _ rfl (ret1 (by decide)) ?_; simp only [upd_apply, ↓reduceIte, reduceCtorEq, Nat.reduceEqDiff]; refine WV_flat rfl (by omega) ?_)
                    refine ⟨?_, rfl⟩
                    unfold trueErr
                    rw [if_neg (not_not_intro he), if_neg (not_not_intro hyn), if_neg (not_not_intro hally2), if_pos (fun hh => by have := hinR.1 (hh _ hq); omega)]
                  · (refine endQ_ret _ _ rfl (ret1 (by decide)) ?_; simp only [upd_apply, ↓reduceIte, reduceCtorEq, Nat.reduceEqDiff]; refine WV_flat rfl (by omega) ?_)
                    refine ⟨?_, rfl⟩
                    unfold trueErr
                    rw [if_neg (not_not_intro he), if_neg (not_not_intro hyn), if_neg (not_not_intro hally2), if_pos (fun hh => by have := hinR.1 (hh _ hq); omega)]
                  · refine roundQ_again (k + 1) (by omega) ⟨hkl, ?_, by simp only [upd_apply, ↓reduceIte, reduceCtorEq, Nat.reduceEqDiff]; exact g1, by simp only [upd_apply, ↓reduceIte, reduceCtorEq, Nat.reduceEqDiff]; exact g2, by simp only [upd_apply, ↓reduceIte, reduceCtorEq, Nat.reduceEqDiff]; exact g6, by simp only [upd_apply, ↓reduceIte, reduceCtorEq, Nat.reduceEqDiff]; rfl, rfl, rfl⟩
                    intro q hq'
                    by_cases hqe : q = i * m0 rows + k
                    · subst hqe
                      exact hinR.2 (by omega)
                    · exact hin q (by omega)
                · have hke : k = m0 rows := by omega
                  rw [hke] at g7 hin
                  (repeat' (first
  | (with_reducible refine WC_seq ?_) | (refine WC_region ?_) | (with_reducible refine WC_skip ?_) | (with_reducible refine WC_label ?_) | (with_reducible refine WC_scope ?_) | (with_reducible refine WC_block ?_) | (with_reducible refine WC_ret ?_) | (with_reducible refine WC_exit ?_)
  | (with_reducible refine seqQ_norm ?_) | (with_reducible refine seqQ_ret ?_) | (with_reducible refine seqQ_exit ?_) | (with_reducible refine blkQ_norm ?_) | (with_reducible refine blkQ_ret ?_) | (with_reducible refine blkQ_here ?_) | (refine blkQ_out rfl ?_)
  | (refine WO_nil ?_)
  | (refine WD_nil ?_)
  | (refine WD_gate rfl rfl rfl rfl rfl fun K_ hK_ => ?_; simp only [upd_apply, asB_bool, asB_tup, ↓reduceIte, reduceCtorEq, Nat.reduceEqDiff, Bool.not_true, Bool.not_false]; refine hK_ _ ?_; clear hK_ K_)
  | (refine WO_gate rfl rfl rfl rfl rfl fun K_ hK_ => ?_; simp only [upd_apply, asB_bool, asB_tup, ↓reduceIte, reduceCtorEq, Nat.reduceEqDiff, Bool.not_true, Bool.not_false]; refine hK_ _ ?_; clear hK_ K_)
  | (with_reducible refine gateK_yes ?_) | (refine gateK_no (by decide) ?_) | (with_reducible refine gateK_none ?_)
  | ((try first | refine WO_op rfl rfl rfl ?_ | refine WO_op0 rfl rfl ?_ | refine WD_op rfl rfl rfl ?_ | refine WD_op0 rfl rfl ?_); (refine WV_gen fun Q_ hQ_ => ?_; simp (disch := first | omega | (simp only [List.length_cons, List.length_nil, List.length_append]; omega)) only [bb, argF, ↓reduceIte, reduceCtorEq, Nat.reduceEqDiff, Nat.reduceLT, Nat.reduceLeDiff, Nat.reduceAdd, Nat.reduceMul, Nat.reduceSub, Nat.reduceBEq, Int.reduceToNat, List.append_assoc, List.length_append, cond_true, cond_false, List.length_cons, List.length_nil, List.cons_append, List.nil_append, List.append_nil, List.getElem?_cons_zero, List.getElem?_cons_succ, List.set_cons_zero, List.set_cons_succ, List.drop_zero, List.drop_succ_cons, List.take_zero, List.take_succ_cons, List.take_nil, List.drop_nil, eq_self, List.toList_toArray, beq_self_eq_true, g1, g2, g6, g7, hleny, hyn, hixy, hldy, hlenvy, newPtr_X wf, load1_X wf, loadAgg_X wf, store1_X wf, writeCells_X wf, makeFunc_def, bs_29, ia_29, sz_29, ze_29, ia_2, sz_2, ze_2, ia_3, sz_3, ia_25, sz_25, ia_47, sz_47, ia_46, sz_46, ia_22, sz_22, ik_25, ik_47, ik_46, ik_22, ia_70, sz_70, ze_70, fo_70_0, fo_70_1, fo_24_0, fo_24_1, fo_24_2, ia_24, sz_24, pb_12, pb_14, pb_26, pb_27, pb_30]; first | (refine dec_split (Q := Q_) (fun hp_ => ?_) (fun hp_ => ?_) <;> first | (exfalso; omega) | (refine hQ_ _ _ ?_; clear hQ_ Q_)) | (refine dec_splitn (Q := Q_) (fun hp_ => ?_) (fun hp_ => ?_) <;> first | (exfalso; omega) | (refine hQ_ _ _ ?_; clear hQ_ Q_)) | (refine hQ_ _ _ ?_; clear hQ_ Q_)))
  | (refine WC_cond fun K_ hK_ => ?_; simp (disch := omega) only [evT_tmp, upd_apply, WB_some, ↓reduceIte, reduceCtorEq, Nat.reduceEqDiff, Nat.reduceLT]; refine hK_ _ ?_; clear hK_ K_)
  | (with_reducible refine condK_tt ?_) | (with_reducible refine condK_ff ?_) | (with_reducible refine roundQ_exit ?_) | (with_reducible refine roundQ_ret ?_)))
                  refine roundQ_again (i + 1) (by omega) ⟨hlt, by rw [Nat.succ_mul]; exact hin, by simp only [upd_apply, ↓reduceIte, reduceCtorEq, Nat.reduceEqDiff]; exact g1, by simp only [upd_apply, ↓reduceIte, reduceCtorEq, Nat.reduceEqDiff]; exact g2, by simp only [upd_apply, ↓reduceIte, reduceCtorEq, Nat.reduceEqDiff]; rfl, rfl, rfl⟩
              · exact ⟨Nat.zero_le _, hin, by simp only [upd_apply, ↓reduceIte, reduceCtorEq, Nat.reduceEqDiff]; exact g1, by simp only [upd_apply, ↓reduceIte, reduceCtorEq, Nat.reduceEqDiff]; exact g2, by simp only [upd_apply, ↓reduceIte, reduceCtorEq, Nat.reduceEqDiff]; exact g6, by simp only [upd_apply, ↓reduceIte, reduceCtorEq, Nat.reduceEqDiff]; (try rfl), rfl, rfl⟩
            · have hie : i = rows.length := by omega
              subst hie
              (repeat' (first
  | (with_reducible refine WC_seq ?_) | (refine WC_region ?_) | (with_reducible refine WC_skip ?_) | (with_reducible refine WC_label ?_) | (with_reducible refine WC_scope ?_) | (with_reducible refine WC_block ?_) | (with_reducible refine WC_ret ?_) | (with_reducible refine WC_exit ?_)
  | (with_reducible refine seqQ_norm ?_) | (with_reducible refine seqQ_ret ?_) | (with_reducible refine seqQ_exit ?_) | (with_reducible refine blkQ_norm ?_) | (with_reducible refine blkQ_ret ?_) | (with_reducible refine blkQ_here ?_) | (refine blkQ_out rfl ?_)
  | (refine WO_nil ?_)
  | (refine WD_nil ?_)
  | (refine WD_gate rfl rfl rfl rfl rfl fun K_ hK_ => ?_; simp only [upd_apply, asB_bool, asB_tup, ↓reduceIte, reduceCtorEq, Nat.reduceEqDiff, Bool.not_true, Bool.not_false]; refine hK_ _ ?_; clear hK_ K_)
  | (refine WO_gate rfl rfl rfl rfl rfl fun K_ hK_ => ?_; simp only [upd_apply, asB_bool, asB_tup, ↓reduceIte, reduceCtorEq, Nat.reduceEqDiff, Bool.not_true, Bool.not_false]; refine hK_ _ ?_; clear hK_ K_)
  | (with_reducible refine gateK_yes ?_) | (refine gateK_no (by decide) ?_) | (with_reducible refine gateK_none ?_)
  | ((try first | refine WO_op rfl rfl rfl ?_ | refine WO_op0 rfl rfl ?_ | refine WD_op rfl rfl rfl ?_ | refine WD_op0 rfl rfl ?_); (refine WV_gen fun Q_ hQ_ => ?_; simp (disch := first | omega | (simp only [List.length_cons, List.length_nil, List.length_append]; omega)) only [bb, argF, ↓reduceIte, reduceCtorEq, Nat.reduceEqDiff, Nat.reduceLT, Nat.reduceLeDiff, Nat.reduceAdd, Nat.reduceMul, Nat.reduceSub, Nat.reduceBEq, Int.reduceToNat, List.append_assoc, List.length_append, cond_true, cond_false, List.length_cons, List.length_nil, List.cons_append, List.nil_append, List.append_nil, List.getElem?_cons_zero, List.getElem?_cons_succ, List.set_cons_zero, List.set_cons_succ, List.drop_zero, List.drop_succ_cons, List.take_zero, List.take_succ_cons, List.take_nil, List.drop_nil, eq_self, List.toList_toArray, beq_self_eq_true, g1, g2, g6, hleny, hyn, newPtr_X wf, load1_X wf, loadAgg_X wf, store1_X wf, writeCells_X wf, makeFunc_def, bs_29, ia_29, sz_29, ze_29, ia_2, sz_2, ze_2, ia_3, sz_3, ia_25, sz_25, ia_47, sz_47, ia_46, sz_46, ia_22, sz_22, ik_25, ik_47, ik_46, ik_22, ia_70, sz_70, ze_70, fo_70_0, fo_70_1, fo_24_0, fo_24_1, fo_24_2, ia_24, sz_24, pb_12, pb_14, pb_26, pb_27, pb_30]; first | (refine dec_split (Q := Q_) (fun hp_ => ?_) (fun hp_ => ?_) <;> first | (exfalso; omega) | (refine hQ_ _ _ ?_; clear hQ_ Q_)) | (refine dec_splitn (Q := Q_) (fun hp_ => ?_) (fun hp_ => ?_) <;> first | (exfalso; omega) | (refine hQ_ _ _ ?_; clear hQ_ Q_)) | (refine hQ_ _ _ ?_; clear hQ_ Q_)))
  | (refine WC_cond fun K_ hK_ => ?_; simp (disch := omega) only [evT_tmp, upd_apply, WB_some, ↓reduceIte, reduceCtorEq, Nat.reduceEqDiff, Nat.reduceLT]; refine hK_ _ ?_; clear hK_ K_)
  | (with_reducible refine condK_tt ?_) | (with_reducible refine condK_ff ?_) | (with_reducible refine roundQ_exit ?_) | (with_reducible refine roundQ_ret ?_)))
              (refine endQ_ret _ _ rfl (ret1 (by decide)) ?_; simp only [upd_apply, ↓reduceIte, reduceCtorEq, Nat.reduceEqDiff]; refine WV_flat rfl (by omega) ?_)
              refine ⟨?_, rfl⟩
              unfold trueErr
              rw [if_neg (not_not_intro he), if_neg (not_not_intro hyn), if_neg (not_not_intro hally2), if_neg (not_not_intro hin)]
          · exact ⟨Nat.zero_le _, fun q hq => absurd hq (by rw [Nat.zero_mul]; exact Nat.not_lt_zero _), by simp only [upd_apply, ↓reduceIte, reduceCtorEq, Nat.reduceEqDiff]; exact g1, by simp only [upd_apply, ↓reduceIte, reduceCtorEq, Nat.reduceEqDiff]; exact g2, by simp only [upd_apply, ↓reduceIte, reduceCtorEq, Nat.reduceEqDiff]; (try rfl), rfl, rfl⟩
      · exact ⟨Nat.zero_le _, fun j hj => absurd hj (Nat.not_lt_zero j), by simp only [upd_apply, ↓reduceIte, reduceCtorEq, Nat.reduceEqDiff], by simp only [upd_apply, ↓reduceIte, reduceCtorEq, Nat.reduceEqDiff], by simp only [upd_apply, ↓reduceIte, reduceCtorEq, Nat.reduceEqDiff]; (try rfl), rfl, rfl⟩
    · (repeat' (first
  | (with_reducible refine WC_seq ?_) | (refine WC_region ?_) | (with_reducible refine WC_skip ?_) | (with_reducible refine WC_label ?_) | (with_reducible refine WC_scope ?_) | (with_reducible refine WC_block ?_) | (with_reducible refine WC_ret ?_) | (with_reducible refine WC_exit ?_)
  | (with_reducible refine seqQ_norm ?_) | (with_reducible refine seqQ_ret ?_) | (with_reducible refine seqQ_exit ?_) | (with_reducible refine blkQ_norm ?_) | (with_reducible refine blkQ_ret ?_) | (with_reducible refine blkQ_here ?_) | (refine blkQ_out rfl ?_)
  | (refine WO_nil ?_)
  | (refine WD_nil ?_)
  | (refine WD_gate rfl rfl rfl rfl rfl fun K_ hK_ => ?_; simp only [upd_apply, asB_bool, asB_tup, ↓reduceIte, reduceCtorEq, Nat.reduceEqDiff, Bool.not_true, Bool.not_false]; refine hK_ _ ?_; clear hK_ K_)
  | (refine WO_gate rfl rfl rfl rfl rfl fun K_ hK_ => ?_; simp only [upd_apply, asB_bool, asB_tup, ↓reduceIte, reduceCtorEq, Nat.reduceEqDiff, Bool.not_true, Bool.not_false]; refine hK_ _ ?_; clear hK_ K_)
  | (with_reducible refine gateK_yes ?_) | (refine gateK_no (by decide) ?_) | (with_reducible refine gateK_none ?_)
  | ((try first | refine WO_op rfl rfl rfl ?_ | refine WO_op0 rfl rfl ?_ | refine WD_op rfl rfl rfl ?_ | refine WD_op0 rfl rfl ?_); (refine WV_gen fun Q_ hQ_ => ?_; simp (disch := first | omega | (simp only [List.length_cons, List.length_nil, List.length_append]; omega)) only [bb, argF, ↓reduceIte, reduceCtorEq, Nat.reduceEqDiff, Nat.reduceLT, Nat.reduceLeDiff, Nat.reduceAdd, Nat.reduceMul, Nat.reduceSub, Nat.reduceBEq, Int.reduceToNat, List.append_assoc, List.length_append, cond_true, cond_false, List.length_cons, List.length_nil, List.cons_append, List.nil_append, List.append_nil, List.getElem?_cons_zero, List.getElem?_cons_succ, List.set_cons_zero, List.set_cons_succ, List.drop_zero, List.drop_succ_cons, List.take_zero, List.take_succ_cons, List.take_nil, List.drop_nil, eq_self, List.toList_toArray, beq_self_eq_true, hbc, hbo, hlen, hleny, hch, he, newPtr_X wf, load1_X wf, loadAgg_X wf, store1_X wf, writeCells_X wf, makeFunc_def, bs_29, ia_29, sz_29, ze_29, ia_2, sz_2, ze_2, ia_3, sz_3, ia_25, sz_25, ia_47, sz_47, ia_46, sz_46, ia_22, sz_22, ik_25, ik_47, ik_46, ik_22, ia_70, sz_70, ze_70, fo_70_0, fo_70_1, fo_24_0, fo_24_1, fo_24_2, ia_24, sz_24, pb_12, pb_14, pb_26, pb_27, pb_30]; first | (refine dec_split (Q := Q_) (fun hp_ => ?_) (fun hp_ => ?_) <;> first | (exfalso; omega) | (refine hQ_ _ _ ?_; clear hQ_ Q_)) | (refine dec_splitn (Q := Q_) (fun hp_ => ?_) (fun hp_ => ?_) <;> first | (exfalso; omega) | (refine hQ_ _ _ ?_; clear hQ_ Q_)) | (refine hQ_ _ _ ?_; clear hQ_ Q_)))
  | (refine WC_cond fun K_ hK_ => ?_; simp (disch := omega) only [evT_tmp, upd_apply, WB_some, ↓reduceIte, reduceCtorEq, Nat.reduceEqDiff, Nat.reduceLT]; refine hK_ _ ?_; clear hK_ K_)
  | (with_reducible refine condK_tt ?_) | (with_reducible refine condK_ff ?_) | (with_reducible refine roundQ_exit ?_) | (with_reducible refine roundQ_ret ?_)))
      (refine endQ_ret _ _ rfl (ret1 (by decide)) ?_; simp only [upd_apply, ↓reduceIte, reduceCtorEq, Nat.reduceEqDiff]; refine WV_flat rfl (by omega) ?_)
      refine ⟨?_, rfl⟩
      unfold trueErr
      rw [if_neg (not_not_intro he), if_pos hyn]
  · (repeat' (first
  | (with_reducible refine WC_seq ?_) | (refine WC_region ?_) | (with_reducible refine WC_skip ?_) | (with_reducible refine WC_label ?_) | (with_reducible refine WC_scope ?_) | (with_reducible refine WC_block ?_) | (with_reducible refine WC_ret ?_) | (with_reducible refine WC_exit ?_)
  | (with_reducible refine seqQ_norm ?_) | (with_reducible refine seqQ_ret ?_) | (with_reducible refine seqQ_exit ?_) | (with_reducible refine blkQ_norm ?_) | (with_reducible refine blkQ_ret ?_) | (with_reducible refine blkQ_here ?_) | (refine blkQ_out rfl ?_)
  | (refine WO_nil ?_)
  | (refine WD_nil ?_)
  | (refine WD_gate rfl rfl rfl rfl rfl fun K_ hK_ => ?_; simp only [upd_apply, asB_bool, asB_tup, ↓reduceIte, reduceCtorEq, Nat.reduceEqDiff, Bool.not_true, Bool.not_false]; refine hK_ _ ?_; clear hK_ K_)
  | (refine WO_gate rfl rfl rfl rfl rfl fun K_ hK_ => ?_; simp only [upd_apply, asB_bool, asB_tup, ↓reduceIte, reduceCtorEq, Nat.reduceEqDiff, Bool.not_true, Bool.not_false]; refine hK_ _ ?_; clear hK_ K_)
  | (with_reducible refine gateK_yes ?_) | (refine gateK_no (by decide) ?_) | (with_reducible refine gateK_none ?_)
  | ((try first | refine WO_op rfl rfl rfl ?_ | refine WO_op0 rfl rfl ?_ | refine WD_op rfl rfl rfl ?_ | refine WD_op0 rfl rfl ?_); (refine WV_gen fun Q_ hQ_ => ?_; simp (disch := first | omega | (simp only [List.length_cons, List.length_nil, List.length_append]; omega)) only [bb, argF, ↓reduceIte, reduceCtorEq, Nat.reduceEqDiff, Nat.reduceLT, Nat.reduceLeDiff, Nat.reduceAdd, Nat.reduceMul, Nat.reduceSub, Nat.reduceBEq, Int.reduceToNat, List.append_assoc, List.length_append, cond_true, cond_false, List.length_cons, List.length_nil, List.cons_append, List.nil_append, List.append_nil, List.getElem?_cons_zero, List.getElem?_cons_succ, List.set_cons_zero, List.set_cons_succ, List.drop_zero, List.drop_succ_cons, List.take_zero, List.take_succ_cons, List.take_nil, List.drop_nil, eq_self, List.toList_toArray, beq_self_eq_true, hbc, hbo, hlen, hleny, hch, newPtr_X wf, load1_X wf, loadAgg_X wf, store1_X wf, writeCells_X wf, makeFunc_def, bs_29, ia_29, sz_29, ze_29, ia_2, sz_2, ze_2, ia_3, sz_3, ia_25, sz_25, ia_47, sz_47, ia_46, sz_46, ia_22, sz_22, ik_25, ik_47, ik_46, ik_22, ia_70, sz_70, ze_70, fo_70_0, fo_70_1, fo_24_0, fo_24_1, fo_24_2, ia_24, sz_24, pb_12, pb_14, pb_26, pb_27, pb_30]; first | (refine dec_split (Q := Q_) (fun hp_ => ?_) (fun hp_ => ?_) <;> first | (exfalso; omega) | (refine hQ_ _ _ ?_; clear hQ_ Q_)) | (refine dec_splitn (Q := Q_) (fun hp_ => ?_) (fun hp_ => ?_) <;> first | (exfalso; omega) | (refine hQ_ _ _ ?_; clear hQ_ Q_)) | (refine hQ_ _ _ ?_; clear hQ_ Q_)))
  | (refine WC_cond fun K_ hK_ => ?_; simp (disch := omega) only [evT_tmp, upd_apply, WB_some, ↓reduceIte, reduceCtorEq, Nat.reduceEqDiff, Nat.reduceLT]; refine hK_ _ ?_; clear hK_ K_)
  | (with_reducible refine condK_tt ?_) | (with_reducible refine condK_ff ?_) | (with_reducible refine roundQ_exit ?_) | (with_reducible refine roundQ_ret ?_)))
    (refine endQ_ret _ _ rfl (ret1 (by decide)) ?_; simp only [upd_apply, ↓reduceIte, reduceCtorEq, Nat.reduceEqDiff]; refine WV_flat rfl (by omega) ?_)
    refine ⟨?_, rfl⟩
    unfold trueErr
    rw [if_pos he]

theorem volumeR (sp st : Int) (a b : AV) (rvs yvs : List AV) (rows : List (List (Int × Int))) (ys : List (List Int)) (hyl : ys.length ≤ 1000) (h : H) (x : HullR h a rvs rows) (y : YsR h b yvs ys) :
    (om Try.prog KK).call (.fn 8 [.agg [ii sp, ii st, a], b]) h = .ok (volOut sp st rows ys) h := by
  have wf := x.wf
  refine WV_to (WV_call (fn := Try.f8) Try.func8 rfl rfl rfl rfl rfl ?_)
  simp only [argF]
  have hch : ∀ l w, w ≤ h.clock + l.length → (om Try.prog KK).call (.fn 14 [.agg [ii sp, ii st, a], b]) (X h l w) = .ok (ii (trueErr sp st rows ys)) (X h l w) := fun l w hw => checkTrueR sp st a b rvs yvs rows ys hyl _ (x.up l w hw) (y.up l w hw)
  unfold volOut
  by_cases he : trueErr sp st rows ys = 0
  · have t := trueErr_ok he
    have yat' := y.at (m := m0 rows) (by have := t.m; omega) (fun i hi => t.yall _ (List.getElem_mem hi))
    have hn := t.n
    have hyn := t.yn
    rw [← hyn] at hn
    have hy : ∀ q, q < ys.length * m0 rows → 0 ≤ yAt ys (m0 rows) q ∧ yAt ys (m0 rows) q ≤ 500 := by rw [hyn]; exact t.y
    obtain ⟨sA, sB, sC, sD⟩ := sums_in hn t.m t.yall hy
    have hsp := t.sp
    have hst := t.st
    have hsu : ∀ l w, w ≤ h.clock + l.length → (om Try.prog KK).call (.fn 26 [b]) (X h l w) = _ := fun l w hw => sumsR b yvs ys (m0 rows) hn t.m t.yall hy _ (yat'.up l w hw)
    have n1 := mul_bd (a := sp) (x := 1000) (b := st) (y := 100) ⟨by omega, by omega⟩ ⟨by omega, by omega⟩
    have n2 := mul_bd n1 sA
    have eA : allS rows.length (m0 rows) ys = psum (fA ys.length (m0 rows) ys) (ys.length * m0 rows) := by rw [hyn]; rfl
    rw [if_pos he, eA]
    (repeat' (first
  | (with_reducible refine WC_seq ?_) | (refine WC_region ?_) | (with_reducible refine WC_skip ?_) | (with_reducible refine WC_label ?_) | (with_reducible refine WC_scope ?_) | (with_reducible refine WC_block ?_) | (with_reducible refine WC_ret ?_) | (with_reducible refine WC_exit ?_)
  | (with_reducible refine seqQ_norm ?_) | (with_reducible refine seqQ_ret ?_) | (with_reducible refine seqQ_exit ?_) | (with_reducible refine blkQ_norm ?_) | (with_reducible refine blkQ_ret ?_) | (with_reducible refine blkQ_here ?_) | (refine blkQ_out rfl ?_)
  | (refine WO_nil ?_)
  | (refine WD_nil ?_)
  | (refine WD_gate rfl rfl rfl rfl rfl fun K_ hK_ => ?_; simp only [upd_apply, asB_bool, asB_tup, ↓reduceIte, reduceCtorEq, Nat.reduceEqDiff, Bool.not_true, Bool.not_false]; refine hK_ _ ?_; clear hK_ K_)
  | (refine WO_gate rfl rfl rfl rfl rfl fun K_ hK_ => ?_; simp only [upd_apply, asB_bool, asB_tup, ↓reduceIte, reduceCtorEq, Nat.reduceEqDiff, Bool.not_true, Bool.not_false]; refine hK_ _ ?_; clear hK_ K_)
  | (with_reducible refine gateK_yes ?_) | (refine gateK_no (by decide) ?_) | (with_reducible refine gateK_none ?_)
  | ((try first | refine WO_op rfl rfl rfl ?_ | refine WO_op0 rfl rfl ?_ | refine WD_op rfl rfl rfl ?_ | refine WD_op0 rfl rfl ?_); (refine WV_gen fun Q_ hQ_ => ?_; simp (disch := first | omega | (simp only [List.length_cons, List.length_nil, List.length_append]; omega)) only [bb, argF, ↓reduceIte, reduceCtorEq, Nat.reduceEqDiff, Nat.reduceLT, Nat.reduceLeDiff, Nat.reduceAdd, Nat.reduceMul, Nat.reduceSub, Nat.reduceBEq, Int.reduceToNat, List.append_assoc, List.length_append, cond_true, cond_false, List.length_cons, List.length_nil, List.cons_append, List.nil_append, List.append_nil, List.getElem?_cons_zero, List.getElem?_cons_succ, List.set_cons_zero, List.set_cons_succ, List.drop_zero, List.drop_succ_cons, List.take_zero, List.take_succ_cons, List.take_nil, List.drop_nil, eq_self, List.toList_toArray, beq_self_eq_true, hch, he, hsu, frac, newPtr_X wf, load1_X wf, loadAgg_X wf, store1_X wf, writeCells_X wf, makeFunc_def, bs_29, ia_29, sz_29, ze_29, ia_2, sz_2, ze_2, ia_3, sz_3, ia_25, sz_25, ia_47, sz_47, ia_46, sz_46, ia_22, sz_22, ik_25, ik_47, ik_46, ik_22, ia_70, sz_70, ze_70, fo_70_0, fo_70_1, fo_24_0, fo_24_1, fo_24_2, ia_24, sz_24, pb_12, pb_14, pb_26, pb_27, pb_30]; first | (refine dec_split (Q := Q_) (fun hp_ => ?_) (fun hp_ => ?_) <;> first | (exfalso; omega) | (refine hQ_ _ _ ?_; clear hQ_ Q_)) | (refine dec_splitn (Q := Q_) (fun hp_ => ?_) (fun hp_ => ?_) <;> first | (exfalso; omega) | (refine hQ_ _ _ ?_; clear hQ_ Q_)) | (refine hQ_ _ _ ?_; clear hQ_ Q_) | (refine WV_eq (fractionR _ _ ⟨n2.1, by omega⟩ ⟨by decide, by decide⟩ _ (wf.X (by simp only [List.length_append, List.length_cons, List.length_nil]; omega))) ?_; refine hQ_ _ _ ?_; clear hQ_ Q_)))
  | (refine WC_cond fun K_ hK_ => ?_; simp (disch := omega) only [evT_tmp, upd_apply, WB_some, ↓reduceIte, reduceCtorEq, Nat.reduceEqDiff, Nat.reduceLT]; refine hK_ _ ?_; clear hK_ K_)
  | (with_reducible refine condK_tt ?_) | (with_reducible refine condK_ff ?_) | (with_reducible refine roundQ_exit ?_) | (with_reducible refine roundQ_ret ?_)))
    refine endQ_ret _ _ rfl (retc1 (by decide) (by decide) (by simp (disch := first | omega | (simp only [List.length_cons, List.length_nil, List.length_append]; omega)) only [bb, argF, ↓reduceIte, reduceCtorEq, Nat.reduceEqDiff, Nat.reduceLT, Nat.reduceLeDiff, Nat.reduceAdd, Nat.reduceMul, Nat.reduceSub, Nat.reduceBEq, Int.reduceToNat, List.append_assoc, List.length_append, cond_true, cond_false, List.length_cons, List.length_nil, List.cons_append, List.nil_append, List.append_nil, List.getElem?_cons_zero, List.getElem?_cons_succ, List.set_cons_zero, List.set_cons_succ, List.drop_zero, List.drop_succ_cons, List.take_zero, List.take_succ_cons, List.take_nil, List.drop_nil, eq_self, List.toList_toArray, beq_self_eq_true, loadAgg_X wf, frac, bs_29, ia_29, sz_29, ze_29, ia_2, sz_2, ze_2, ia_3, sz_3, ia_25, sz_25, ia_47, sz_47, ia_46, sz_46, ia_22, sz_22, ik_25, ik_47, ik_46, ik_22, ia_70, sz_70, ze_70, fo_70_0, fo_70_1, fo_24_0, fo_24_1, fo_24_2, ia_24, sz_24, pb_12, pb_14, pb_26, pb_27, pb_30]; rfl)) ?_
    simp only [upd_apply, ↓reduceIte, reduceCtorEq, Nat.reduceEqDiff]
    refine WV_flat rfl (by omega) ?_
    exact ⟨rfl, rfl⟩
  · rw [if_neg he]
    (repeat' (first
  | (with_reducible refine WC_seq ?_) | (refine WC_region ?_) | (with_reducible refine WC_skip ?_) | (with_reducible refine WC_label ?_) | (with_reducible refine WC_scope ?_) | (with_reducible refine WC_block ?_) | (with_reducible refine WC_ret ?_) | (with_reducible refine WC_exit ?_)
  | (with_reducible refine seqQ_norm ?_) | (with_reducible refine seqQ_ret ?_) | (with_reducible refine seqQ_exit ?_) | (with_reducible refine blkQ_norm ?_) | (with_reducible refine blkQ_ret ?_) | (with_reducible refine blkQ_here ?_) | (refine blkQ_out rfl ?_)
  | (refine WO_nil ?_)
  | (refine WD_nil ?_)
  | (refine WD_gate rfl rfl rfl rfl rfl fun K_ hK_ => ?_; simp only [upd_apply, asB_bool, asB_tup, ↓reduceIte, reduceCtorEq, Nat.reduceEqDiff, Bool.not_true, Bool.not_false]; refine hK_ _ ?_; clear hK_ K_)
  | (refine WO_gate rfl rfl rfl rfl rfl fun K_ hK_ => ?_; simp only [upd_apply, asB_bool, asB_tup, ↓reduceIte, reduceCtorEq, Nat.reduceEqDiff, Bool.not_true, Bool.not_false]; refine hK_ _ ?_; clear hK_ K_)
  | (with_reducible refine gateK_yes ?_) | (refine gateK_no (by decide) ?_) | (with_reducible refine gateK_none ?_)
  | ((try first | refine WO_op rfl rfl rfl ?_ | refine WO_op0 rfl rfl ?_ | refine WD_op rfl rfl rfl ?_ | refine WD_op0 rfl rfl ?_); (refine WV_gen fun Q_ hQ_ => ?_; simp (disch := first | omega | (simp only [List.length_cons, List.length_nil, List.length_append]; omega)) only [bb, argF, ↓reduceIte, reduceCtorEq, Nat.reduceEqDiff, Nat.reduceLT, Nat.reduceLeDiff, Nat.reduceAdd, Nat.reduceMul, Nat.reduceSub, Nat.reduceBEq, Int.reduceToNat, List.append_assoc, List.length_append, cond_true, cond_false, List.length_cons, List.length_nil, List.cons_append, List.nil_append, List.append_nil, List.getElem?_cons_zero, List.getElem?_cons_succ, List.set_cons_zero, List.set_cons_succ, List.drop_zero, List.drop_succ_cons, List.take_zero, List.take_succ_cons, List.take_nil, List.drop_nil, eq_self, List.toList_toArray, beq_self_eq_true, hch, newPtr_X wf, load1_X wf, loadAgg_X wf, store1_X wf, writeCells_X wf, makeFunc_def, bs_29, ia_29, sz_29, ze_29, ia_2, sz_2, ze_2, ia_3, sz_3, ia_25, sz_25, ia_47, sz_47, ia_46, sz_46, ia_22, sz_22, ik_25, ik_47, ik_46, ik_22, ia_70, sz_70, ze_70, fo_70_0, fo_70_1, fo_24_0, fo_24_1, fo_24_2, ia_24, sz_24, pb_12, pb_14, pb_26, pb_27, pb_30]; first | (refine dec_split (Q := Q_) (fun hp_ => ?_) (fun hp_ => ?_) <;> first | (exfalso; omega) | (refine hQ_ _ _ ?_; clear hQ_ Q_)) | (refine dec_splitn (Q := Q_) (fun hp_ => ?_) (fun hp_ => ?_) <;> first | (exfalso; omega) | (refine hQ_ _ _ ?_; clear hQ_ Q_)) | (refine hQ_ _ _ ?_; clear hQ_ Q_)))
  | (refine WC_cond fun K_ hK_ => ?_; simp (disch := omega) only [evT_tmp, upd_apply, WB_some, ↓reduceIte, reduceCtorEq, Nat.reduceEqDiff, Nat.reduceLT]; refine hK_ _ ?_; clear hK_ K_)
  | (with_reducible refine condK_tt ?_) | (with_reducible refine condK_ff ?_) | (with_reducible refine roundQ_exit ?_) | (with_reducible refine roundQ_ret ?_)))
    refine endQ_ret _ _ rfl (retc1 (by decide) (by decide) (by simp (disch := first | omega | (simp only [List.length_cons, List.length_nil, List.length_append]; omega)) only [bb, argF, ↓reduceIte, reduceCtorEq, Nat.reduceEqDiff, Nat.reduceLT, Nat.reduceLeDiff, Nat.reduceAdd, Nat.reduceMul, Nat.reduceSub, Nat.reduceBEq, Int.reduceToNat, List.append_assoc, List.length_append, cond_true, cond_false, List.length_cons, List.length_nil, List.cons_append, List.nil_append, List.append_nil, List.getElem?_cons_zero, List.getElem?_cons_succ, List.set_cons_zero, List.set_cons_succ, List.drop_zero, List.drop_succ_cons, List.take_zero, List.take_succ_cons, List.take_nil, List.drop_nil, eq_self, List.toList_toArray, beq_self_eq_true, loadAgg_X wf, bs_29, ia_29, sz_29, ze_29, ia_2, sz_2, ze_2, ia_3, sz_3, ia_25, sz_25, ia_47, sz_47, ia_46, sz_46, ia_22, sz_22, ik_25, ik_47, ik_46, ik_22, ia_70, sz_70, ze_70, fo_70_0, fo_70_1, fo_24_0, fo_24_1, fo_24_2, ia_24, sz_24, pb_12, pb_14, pb_26, pb_27, pb_30]; rfl)) ?_
    simp only [upd_apply, ↓reduceIte, reduceCtorEq, Nat.reduceEqDiff]
    refine WV_flat rfl (by omega) ?_
    exact ⟨rfl, rfl⟩

theorem valueRX (sp st : Int) (a b : AV) (rvs yvs : List AV) (rows : List (List (Int × Int))) (ys : List (List Int)) (hyl : ys.length ≤ 1000) (what : Int) (h : H) (x : HullR h a rvs rows) (y : YsR h b yvs ys) :
    (om Try.prog KK).call (.fn 10 [.agg [ii sp, ii st, a], b, ii what]) h = .ok (valOut sp st rows ys what) h := by
  have wf := x.wf
  refine WV_to (WV_call (fn := Try.f10) Try.func10 rfl rfl rfl rfl rfl ?_)
  simp only [argF]
  have hch : ∀ l w, w ≤ h.clock + l.length → (om Try.prog KK).call (.fn 14 [.agg [ii sp, ii st, a], b]) (X h l w) = .ok (ii (trueErr sp st rows ys)) (X h l w) := fun l w hw => checkTrueR sp st a b rvs yvs rows ys hyl _ (x.up l w hw) (y.up l w hw)
  unfold valOut
  by_cases he : trueErr sp st rows ys = 0
  · have t := trueErr_ok he
    have yat' := y.at (m := m0 rows) (by have := t.m; omega) (fun i hi => t.yall _ (List.getElem_mem hi))
    rw [if_pos he]
    by_cases hwh : 0 ≤ what ∧ what ≤ 2
    · have hva : ∀ l w, w ≤ h.clock + l.length → (om Try.prog KK).call (.fn 30 [.agg [ii sp, ii st, a], b, ii what]) (X h l w) = _ := fun l w hw => valueR sp st a b yvs rows ys t what hwh _ (yat'.up l w hw)
      rw [if_pos hwh]
      (repeat' (first
  | (with_reducible refine WC_seq ?_) | (refine WC_region ?_) | (with_reducible refine WC_skip ?_) | (with_reducible refine WC_label ?_) | (with_reducible refine WC_scope ?_) | (with_reducible refine WC_block ?_) | (with_reducible refine WC_ret ?_) | (with_reducible refine WC_exit ?_)
  | (with_reducible refine seqQ_norm ?_) | (with_reducible refine seqQ_ret ?_) | (with_reducible refine seqQ_exit ?_) | (with_reducible refine blkQ_norm ?_) | (with_reducible refine blkQ_ret ?_) | (with_reducible refine blkQ_here ?_) | (refine blkQ_out rfl ?_)
  | (refine WO_nil ?_)
  | (refine WD_nil ?_)
  | (refine WD_gate rfl rfl rfl rfl rfl fun K_ hK_ => ?_; simp only [upd_apply, asB_bool, asB_tup, ↓reduceIte, reduceCtorEq, Nat.reduceEqDiff, Bool.not_true, Bool.not_false]; refine hK_ _ ?_; clear hK_ K_)
  | (refine WO_gate rfl rfl rfl rfl rfl fun K_ hK_ => ?_; simp only [upd_apply, asB_bool, asB_tup, ↓reduceIte, reduceCtorEq, Nat.reduceEqDiff, Bool.not_true, Bool.not_false]; refine hK_ _ ?_; clear hK_ K_)
  | (with_reducible refine gateK_yes ?_) | (refine gateK_no (by decide) ?_) | (with_reducible refine gateK_none ?_)
  | ((try first | refine WO_op rfl rfl rfl ?_ | refine WO_op0 rfl rfl ?_ | refine WD_op rfl rfl rfl ?_ | refine WD_op0 rfl rfl ?_); (refine WV_gen fun Q_ hQ_ => ?_; simp (disch := first | omega | (simp only [List.length_cons, List.length_nil, List.length_append]; omega)) only [bb, argF, ↓reduceIte, reduceCtorEq, Nat.reduceEqDiff, Nat.reduceLT, Nat.reduceLeDiff, Nat.reduceAdd, Nat.reduceMul, Nat.reduceSub, Nat.reduceBEq, Int.reduceToNat, List.append_assoc, List.length_append, cond_true, cond_false, List.length_cons, List.length_nil, List.cons_append, List.nil_append, List.append_nil, List.getElem?_cons_zero, List.getElem?_cons_succ, List.set_cons_zero, List.set_cons_succ, List.drop_zero, List.drop_succ_cons, List.take_zero, List.take_succ_cons, List.take_nil, List.drop_nil, eq_self, List.toList_toArray, beq_self_eq_true, hch, he, hva, frac, newPtr_X wf, load1_X wf, loadAgg_X wf, store1_X wf, writeCells_X wf, makeFunc_def, bs_29, ia_29, sz_29, ze_29, ia_2, sz_2, ze_2, ia_3, sz_3, ia_25, sz_25, ia_47, sz_47, ia_46, sz_46, ia_22, sz_22, ik_25, ik_47, ik_46, ik_22, ia_70, sz_70, ze_70, fo_70_0, fo_70_1, fo_24_0, fo_24_1, fo_24_2, ia_24, sz_24, pb_12, pb_14, pb_26, pb_27, pb_30]; first | (refine dec_split (Q := Q_) (fun hp_ => ?_) (fun hp_ => ?_) <;> first | (exfalso; omega) | (refine hQ_ _ _ ?_; clear hQ_ Q_)) | (refine dec_splitn (Q := Q_) (fun hp_ => ?_) (fun hp_ => ?_) <;> first | (exfalso; omega) | (refine hQ_ _ _ ?_; clear hQ_ Q_)) | (refine hQ_ _ _ ?_; clear hQ_ Q_)))
  | (refine WC_cond fun K_ hK_ => ?_; simp (disch := omega) only [evT_tmp, upd_apply, WB_some, ↓reduceIte, reduceCtorEq, Nat.reduceEqDiff, Nat.reduceLT]; refine hK_ _ ?_; clear hK_ K_)
  | (with_reducible refine condK_tt ?_) | (with_reducible refine condK_ff ?_) | (with_reducible refine roundQ_exit ?_) | (with_reducible refine roundQ_ret ?_)))
      refine endQ_ret _ _ rfl (retc1 (by decide) (by decide) (by simp (disch := first | omega | (simp only [List.length_cons, List.length_nil, List.length_append]; omega)) only [bb, argF, ↓reduceIte, reduceCtorEq, Nat.reduceEqDiff, Nat.reduceLT, Nat.reduceLeDiff, Nat.reduceAdd, Nat.reduceMul, Nat.reduceSub, Nat.reduceBEq, Int.reduceToNat, List.append_assoc, List.length_append, cond_true, cond_false, List.length_cons, List.length_nil, List.cons_append, List.nil_append, List.append_nil, List.getElem?_cons_zero, List.getElem?_cons_succ, List.set_cons_zero, List.set_cons_succ, List.drop_zero, List.drop_succ_cons, List.take_zero, List.take_succ_cons, List.take_nil, List.drop_nil, eq_self, List.toList_toArray, beq_self_eq_true, loadAgg_X wf, frac, bs_29, ia_29, sz_29, ze_29, ia_2, sz_2, ze_2, ia_3, sz_3, ia_25, sz_25, ia_47, sz_47, ia_46, sz_46, ia_22, sz_22, ik_25, ik_47, ik_46, ik_22, ia_70, sz_70, ze_70, fo_70_0, fo_70_1, fo_24_0, fo_24_1, fo_24_2, ia_24, sz_24, pb_12, pb_14, pb_26, pb_27, pb_30]; rfl)) ?_
      simp only [upd_apply, ↓reduceIte, reduceCtorEq, Nat.reduceEqDiff]
      refine WV_flat rfl (by omega) ?_
      exact ⟨rfl, rfl⟩
    · rw [if_neg hwh]
      (repeat' (first
  | (with_reducible refine WC_seq ?_) | (refine WC_region ?_) | (with_reducible refine WC_skip ?_) | (with_reducible refine WC_label ?_) | (with_reducible refine WC_scope ?_) | (with_reducible refine WC_block ?_) | (with_reducible refine WC_ret ?_) | (with_reducible refine WC_exit ?_)
  | (with_reducible refine seqQ_norm ?_) | (with_reducible refine seqQ_ret ?_) | (with_reducible refine seqQ_exit ?_) | (with_reducible refine blkQ_norm ?_) | (with_reducible refine blkQ_ret ?_) | (with_reducible refine blkQ_here ?_) | (refine blkQ_out rfl ?_)
  | (refine WO_nil ?_)
  | (refine WD_nil ?_)
  | (refine WD_gate rfl rfl rfl rfl rfl fun K_ hK_ => ?_; simp only [upd_apply, asB_bool, asB_tup, ↓reduceIte, reduceCtorEq, Nat.reduceEqDiff, Bool.not_true, Bool.not_false]; refine hK_ _ ?_; clear hK_ K_)
  | (refine WO_gate rfl rfl rfl rfl rfl fun K_ hK_ => ?_; simp only [upd_apply, asB_bool, asB_tup, ↓reduceIte, reduceCtorEq, Nat.reduceEqDiff, Bool.not_true, Bool.not_false]; refine hK_ _ ?_; clear hK_ K_)
  | (with_reducible refine gateK_yes ?_) | (refine gateK_no (by decide) ?_) | (with_reducible refine gateK_none ?_)
  | ((try first | refine WO_op rfl rfl rfl ?_ | refine WO_op0 rfl rfl ?_ | refine WD_op rfl rfl rfl ?_ | refine WD_op0 rfl rfl ?_); (refine WV_gen fun Q_ hQ_ => ?_; simp (disch := first | omega | (simp only [List.length_cons, List.length_nil, List.length_append]; omega)) only [bb, argF, ↓reduceIte, reduceCtorEq, Nat.reduceEqDiff, Nat.reduceLT, Nat.reduceLeDiff, Nat.reduceAdd, Nat.reduceMul, Nat.reduceSub, Nat.reduceBEq, Int.reduceToNat, List.append_assoc, List.length_append, cond_true, cond_false, List.length_cons, List.length_nil, List.cons_append, List.nil_append, List.append_nil, List.getElem?_cons_zero, List.getElem?_cons_succ, List.set_cons_zero, List.set_cons_succ, List.drop_zero, List.drop_succ_cons, List.take_zero, List.take_succ_cons, List.take_nil, List.drop_nil, eq_self, List.toList_toArray, beq_self_eq_true, hch, he, newPtr_X wf, load1_X wf, loadAgg_X wf, store1_X wf, writeCells_X wf, makeFunc_def, bs_29, ia_29, sz_29, ze_29, ia_2, sz_2, ze_2, ia_3, sz_3, ia_25, sz_25, ia_47, sz_47, ia_46, sz_46, ia_22, sz_22, ik_25, ik_47, ik_46, ik_22, ia_70, sz_70, ze_70, fo_70_0, fo_70_1, fo_24_0, fo_24_1, fo_24_2, ia_24, sz_24, pb_12, pb_14, pb_26, pb_27, pb_30]; first | (refine dec_split (Q := Q_) (fun hp_ => ?_) (fun hp_ => ?_) <;> first | (exfalso; omega) | (refine hQ_ _ _ ?_; clear hQ_ Q_)) | (refine dec_splitn (Q := Q_) (fun hp_ => ?_) (fun hp_ => ?_) <;> first | (exfalso; omega) | (refine hQ_ _ _ ?_; clear hQ_ Q_)) | (refine hQ_ _ _ ?_; clear hQ_ Q_)))
  | (refine WC_cond fun K_ hK_ => ?_; simp (disch := omega) only [evT_tmp, upd_apply, WB_some, ↓reduceIte, reduceCtorEq, Nat.reduceEqDiff, Nat.reduceLT]; refine hK_ _ ?_; clear hK_ K_)
  | (with_reducible refine condK_tt ?_) | (with_reducible refine condK_ff ?_) | (with_reducible refine roundQ_exit ?_) | (with_reducible refine roundQ_ret ?_)))
      all_goals
        refine endQ_ret _ _ rfl (retc1 (by decide) (by decide) (by simp (disch := first | omega | (simp only [List.length_cons, List.length_nil, List.length_append]; omega)) only [bb, argF, ↓reduceIte, reduceCtorEq, Nat.reduceEqDiff, Nat.reduceLT, Nat.reduceLeDiff, Nat.reduceAdd, Nat.reduceMul, Nat.reduceSub, Nat.reduceBEq, Int.reduceToNat, List.append_assoc, List.length_append, cond_true, cond_false, List.length_cons, List.length_nil, List.cons_append, List.nil_append, List.append_nil, List.getElem?_cons_zero, List.getElem?_cons_succ, List.set_cons_zero, List.set_cons_succ, List.drop_zero, List.drop_succ_cons, List.take_zero, List.take_succ_cons, List.take_nil, List.drop_nil, eq_self, List.toList_toArray, beq_self_eq_true, loadAgg_X wf, bs_29, ia_29, sz_29, ze_29, ia_2, sz_2, ze_2, ia_3, sz_3, ia_25, sz_25, ia_47, sz_47, ia_46, sz_46, ia_22, sz_22, ik_25, ik_47, ik_46, ik_22, ia_70, sz_70, ze_70, fo_70_0, fo_70_1, fo_24_0, fo_24_1, fo_24_2, ia_24, sz_24, pb_12, pb_14, pb_26, pb_27, pb_30]; rfl)) ?_
        simp only [upd_apply, ↓reduceIte, reduceCtorEq, Nat.reduceEqDiff]
        refine WV_flat rfl (by omega) ?_
        exact ⟨rfl, rfl⟩
  · rw [if_neg he]
    (repeat' (first
  | (with_reducible refine WC_seq ?_) | (refine WC_region ?_) | (with_reducible refine WC_skip ?_) | (with_reducible refine WC_label ?_) | (with_reducible refine WC_scope ?_) | (with_reducible refine WC_block ?_) | (with_reducible refine WC_ret ?_) | (with_reducible refine WC_exit ?_)
  | (with_reducible refine seqQ_norm ?_) | (with_reducible refine seqQ_ret ?_) | (with_reducible refine seqQ_exit ?_) | (with_reducible refine blkQ_norm ?_) | (with_reducible refine blkQ_ret ?_) | (with_reducible refine blkQ_here ?_) | (refine blkQ_out rfl ?_)
  | (refine WO_nil ?_)
  | (refine WD_nil ?_)
  | (refine WD_gate rfl rfl rfl rfl rfl fun K_ hK_ => ?_; simp only [upd_apply, asB_bool, asB_tup, ↓reduceIte, reduceCtorEq, Nat.reduceEqDiff, Bool.not_true, Bool.not_false]; refine hK_ _ ?_; clear hK_ K_)
  | (refine WO_gate rfl rfl rfl rfl rfl fun K_ hK_ => ?_; simp only [upd_apply, asB_bool, asB_tup, ↓reduceIte, reduceCtorEq, Nat.reduceEqDiff, Bool.not_true, Bool.not_false]; refine hK_ _ ?_; clear hK_ K_)
  | (with_reducible refine gateK_yes ?_) | (refine gateK_no (by decide) ?_) | (with_reducible refine gateK_none ?_)
  | ((try first | refine WO_op rfl rfl rfl ?_ | refine WO_op0 rfl rfl ?_ | refine WD_op rfl rfl rfl ?_ | refine WD_op0 rfl rfl ?_); (refine WV_gen fun Q_ hQ_ => ?_; simp (disch := first | omega | (simp only [List.length_cons, List.length_nil, List.length_append]; omega)) only [bb, argF, ↓reduceIte, reduceCtorEq, Nat.reduceEqDiff, Nat.reduceLT, Nat.reduceLeDiff, Nat.reduceAdd, Nat.reduceMul, Nat.reduceSub, Nat.reduceBEq, Int.reduceToNat, List.append_assoc, List.length_append, cond_true, cond_false, List.length_cons, List.length_nil, List.cons_append, List.nil_append, List.append_nil, List.getElem?_cons_zero, List.getElem?_cons_succ, List.set_cons_zero, List.set_cons_succ, List.drop_zero, List.drop_succ_cons, List.take_zero, List.take_succ_cons, List.take_nil, List.drop_nil, eq_self, List.toList_toArray, beq_self_eq_true, hch, newPtr_X wf, load1_X wf, loadAgg_X wf, store1_X wf, writeCells_X wf, makeFunc_def, bs_29, ia_29, sz_29, ze_29, ia_2, sz_2, ze_2, ia_3, sz_3, ia_25, sz_25, ia_47, sz_47, ia_46, sz_46, ia_22, sz_22, ik_25, ik_47, ik_46, ik_22, ia_70, sz_70, ze_70, fo_70_0, fo_70_1, fo_24_0, fo_24_1, fo_24_2, ia_24, sz_24, pb_12, pb_14, pb_26, pb_27, pb_30]; first | (refine dec_split (Q := Q_) (fun hp_ => ?_) (fun hp_ => ?_) <;> first | (exfalso; omega) | (refine hQ_ _ _ ?_; clear hQ_ Q_)) | (refine dec_splitn (Q := Q_) (fun hp_ => ?_) (fun hp_ => ?_) <;> first | (exfalso; omega) | (refine hQ_ _ _ ?_; clear hQ_ Q_)) | (refine hQ_ _ _ ?_; clear hQ_ Q_)))
  | (refine WC_cond fun K_ hK_ => ?_; simp (disch := omega) only [evT_tmp, upd_apply, WB_some, ↓reduceIte, reduceCtorEq, Nat.reduceEqDiff, Nat.reduceLT]; refine hK_ _ ?_; clear hK_ K_)
  | (with_reducible refine condK_tt ?_) | (with_reducible refine condK_ff ?_) | (with_reducible refine roundQ_exit ?_) | (with_reducible refine roundQ_ret ?_)))
    refine endQ_ret _ _ rfl (retc1 (by decide) (by decide) (by simp (disch := first | omega | (simp only [List.length_cons, List.length_nil, List.length_append]; omega)) only [bb, argF, ↓reduceIte, reduceCtorEq, Nat.reduceEqDiff, Nat.reduceLT, Nat.reduceLeDiff, Nat.reduceAdd, Nat.reduceMul, Nat.reduceSub, Nat.reduceBEq, Int.reduceToNat, List.append_assoc, List.length_append, cond_true, cond_false, List.length_cons, List.length_nil, List.cons_append, List.nil_append, List.append_nil, List.getElem?_cons_zero, List.getElem?_cons_succ, List.set_cons_zero, List.set_cons_succ, List.drop_zero, List.drop_succ_cons, List.take_zero, List.take_succ_cons, List.take_nil, List.drop_nil, eq_self, List.toList_toArray, beq_self_eq_true, loadAgg_X wf, bs_29, ia_29, sz_29, ze_29, ia_2, sz_2, ze_2, ia_3, sz_3, ia_25, sz_25, ia_47, sz_47, ia_46, sz_46, ia_22, sz_22, ik_25, ik_47, ik_46, ik_22, ia_70, sz_70, ze_70, fo_70_0, fo_70_1, fo_24_0, fo_24_1, fo_24_2, ia_24, sz_24, pb_12, pb_14, pb_26, pb_27, pb_30]; rfl)) ?_
    simp only [upd_apply, ↓reduceIte, reduceCtorEq, Nat.reduceEqDiff]
    refine WV_flat rfl (by omega) ?_
    exact ⟨rfl, rfl⟩
end Go.Proofs.Ytghondkiondeaab
end

/- EvL12 -/
section
/-
  STRUCTS OF TWO NUMBERS, HELD AGAINST ONE ANOTHER.
-/
namespace Go.Ev
section
variable {P : Program}
theorem pureRun_seq {α β : Type} {s : Sem α} {f : α → Sem β} : pureRun P (s >>= f) = (pureRun P s).bind fun a => pureRun P (f a) := by
  show pureRun P (Sem.bind s f) = _
  induction s with
  | pure b => rfl
  | program k ih => exact ih P
  | _ => rfl
theorem pureRun_pure {α : Type} {a : α} : pureRun P (Pure.pure a : Sem α) = some a := rfl
theorem pureRun_program : pureRun P program = some P := rfl
theorem pureRun_isAgg {t : TypeId} {k : IntKind} (hu : P.underlying t = some (.int k)) : pureRun P (isAgg t) = some false := by
  unfold isAgg
  rw [pureRun_seq, pureRun_underlying hu]
  rfl
theorem pureRun_part {t : TypeId} {k : IntKind} {cs : Array Value} {off : Nat} {v : Value} (hu : P.underlying t = some (.int k)) (hv : cs[off]? = some v) : pureRun P (part t cs off) = some v := by
  unfold part
  rw [pureRun_seq, pureRun_isAgg hu]
  simp only [Option.bind_some, hv]
  rfl
theorem pureRun_eqInt {t : TypeId} {k : IntKind} {d : Nat} {a b : Int} (hu : P.underlying t = some (.int k)) : pureRun P (Op.equalIn (d + 1) t (.int .i64 a) (.int .i64 b)) = some (a == b) := by
  rw [Op.equalIn, pureRun_seq, pureRun_underlying hu]
  rfl
theorem pureRun_eqTwo {t : TypeId} {f0 f1 : Field} {k0 k1 : IntKind} {d : Nat} {a b c e : Int} (hu : P.underlying t = some (.struct #[f0, f1])) (h0 : P.underlying f0.type = some (.int k0)) (h1 : P.underlying f1.type = some (.int k1)) (o0 : f0.offset = 0) (o1 : f1.offset = 1)
    (n0 : f0.name ≠ "_") (n1 : f1.name ≠ "_") (hs : P.stoodInHeld t = false) : pureRun P (Op.equalIn (d + 2) t (.agg #[.int .i64 a, .int .i64 b]) (.agg #[.int .i64 c, .int .i64 e])) = some (a == c && b == e) := by
  rw [Op.equalIn, pureRun_seq, pureRun_underlying hu]
  simp only [Option.bind_some]
  rw [pureRun_seq, pureRun_program]
  simp only [Option.bind_some, hs]
  simp [pureRun_seq, n0, n1, o0, o1, pureRun_part h0 (v := .int .i64 a) (cs := #[.int .i64 a, .int .i64 b]) (off := 0) rfl, pureRun_part h0 (v := .int .i64 c) (cs := #[.int .i64 c, .int .i64 e]) (off := 0) rfl, pureRun_eqInt h0]
  by_cases hac : a = c
  · rw [if_pos hac]
    have hb : (a == c) = true := by simpa using hac
    simp [hb, pureRun_pure, pureRun_seq, pureRun_part h1 (v := .int .i64 b) (cs := #[.int .i64 a, .int .i64 b]) (off := 1) rfl, pureRun_part h1 (v := .int .i64 e) (cs := #[.int .i64 c, .int .i64 e]) (off := 1) rfl, pureRun_eqInt h1]
    by_cases hbe : b = e
    · rw [if_pos hbe]; simp [hbe, pureRun_pure]
    · rw [if_neg hbe]; simp [hbe, pureRun_pure]
  · rw [if_neg hac]
    have hb : (a == c) = false := by simpa using hac
    rw [hb]; rfl
theorem pureVal_bool {b : Bool} : pureVal P (Pure.pure (.bool b) : Sem Value) = some (.bool b) := rfl
theorem b_eql2 {t : TypeId} {x y : Operand} {f0 f1 : Field} {k0 k1 : IntKind} {a b c e : Int} (hu : P.underlying t = some (.struct #[f0, f1])) (h0 : P.underlying f0.type = some (.int k0)) (h1 : P.underlying f1.type = some (.int k1)) (o0 : f0.offset = 0) (o1 : f1.offset = 1)
    (n0 : f0.name ≠ "_") (n1 : f1.name ≠ "_") (hs : P.stoodInHeld t = false) (hg : P.eqGuardType P.depth t = false) : binE P .eql t x y (.agg [.int .i64 a, .int .i64 b]) (.agg [.int .i64 c, .int .i64 e]) = some (.bool (a == c && b == e)) := by
  have es : binSlow P .eql t x y (.agg [.int .i64 a, .int .i64 b]) (.agg [.int .i64 c, .int .i64 e]) = pureVal P (do eqGuard .eql t x y (.agg #[.int .i64 a, .int .i64 b]) (.agg #[.int .i64 c, .int .i64 e]); binOp .eql t (.agg #[.int .i64 a, .int .i64 b]) (.agg #[.int .i64 c, .int .i64 e])) := rfl
  have eb : binE P .eql t x y (.agg [.int .i64 a, .int .i64 b]) (.agg [.int .i64 c, .int .i64 e]) = binSlow P .eql t x y (.agg [.int .i64 a, .int .i64 b]) (.agg [.int .i64 c, .int .i64 e]) := rfl
  rw [eb, es]
  have e1 : pureRun P (eqGuard .eql t x y (.agg #[.int .i64 a, .int .i64 b]) (.agg #[.int .i64 c, .int .i64 e])) = some () := by
    unfold eqGuard
    simp [pureRun_seq, pureRun_program, hg, pureRun_pure]
  have e2 : pureRun P (binOp .eql t (.agg #[.int .i64 a, .int .i64 b]) (.agg #[.int .i64 c, .int .i64 e])) = some (.bool (a == c && b == e)) := by
    show pureRun P (do pure (Value.bool (← Op.equalIn 10000 t (.agg #[.int .i64 a, .int .i64 b]) (.agg #[.int .i64 c, .int .i64 e])))) = _
    rw [pureRun_seq, show (10000 : Nat) = 9998 + 2 from rfl, pureRun_eqTwo hu h0 h1 o0 o1 n0 n1 hs]
    rfl
  unfold pureVal
  rw [pureRun_seq, e1]
  simp only [Option.bind_some]
  rw [e2]
  rfl
theorem b_eql2_self {t : TypeId} {x y : Operand} {f0 f1 : Field} {k0 k1 : IntKind} {a b : Int} (hu : P.underlying t = some (.struct #[f0, f1])) (h0 : P.underlying f0.type = some (.int k0)) (h1 : P.underlying f1.type = some (.int k1)) (o0 : f0.offset = 0) (o1 : f1.offset = 1)
    (n0 : f0.name ≠ "_") (n1 : f1.name ≠ "_") (hs : P.stoodInHeld t = false) (hg : P.eqGuardType P.depth t = false) : binE P .eql t x y (.agg [.int .i64 a, .int .i64 b]) (.agg [.int .i64 a, .int .i64 b]) = some (.bool true) := by
  rw [b_eql2 hu h0 h1 o0 o1 n0 n1 hs hg]; simp
end
end Go.Ev
end
