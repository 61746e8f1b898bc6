/- The statement BoxBounds of layer 2: whether no true hull has a number beyond a bound is what the definition says, for all hulls, kinds and bounds; no condition. -/
import Derived.Test.YtghondkiondeaacM5
/- EvK3 -/
section
/-
  LAYER 2: bounds; what the package answers of them.
-/
namespace Go.Proofs.Ytghondkiondeaac
open Go.Ev
set_option maxRecDepth 100000
set_option linter.unusedSimpArgs false
set_option linter.unusedVariables false
set_option maxHeartbeats 2000000

def bndIn (N D : Int) : Prop := (0 ≤ N ∧ N ≤ 100000000000) ∧ 1 ≤ D ∧ D ≤ 100000000
instance (N D : Int) : Decidable (bndIn N D) := by unfold bndIn; infer_instance
/-- May this be a bound? -/
def isBnd (N D : Int) : Bool := decide (bndIn N D) && (N == N / (Int.gcd N D : Int) && D == D / (Int.gcd N D : Int))

theorem eqQ {x y : Operand} {a b c e : Int} : binE Try.prog .eql 26 x y (.agg [ii a, ii b]) (.agg [ii c, ii e]) = some (.bool (a == c && b == e)) := by
  obtain ⟨f0, f1, hu, o0, o1, t0, t1, n0, n1⟩ := under29
  exact b_eql2 hu (by rw [t0]; exact Try.underlying2) (by rw [t1]; exact Try.underlying2) o0 o1 n0 n1 (by kernel_rfl) (by kernel_rfl)

theorem isBound (N D : Int) (h : H) (wf : Wf h) : (om Try.prog KK).call (.fn 29 [.agg [ii N, ii D]]) h = .ok (.bool (isBnd N D)) h := by
  refine WV_to (WV_call (fn := Try.f29) Try.func29 rfl rfl rfl rfl rfl ?_)
  simp only [argF]
  have heq : ∀ x y, binE Try.prog .eql 26 x y (.agg [ii N, ii D]) (frac N D) = some (.bool (N == N / (Int.gcd N D : Int) && D == D / (Int.gcd N D : Int))) := fun x y => eqQ
  by_cases hN : 0 ≤ N ∧ N ≤ 100000000000
  · by_cases hD : 1 ≤ D ∧ D ≤ 100000000
    · have hfr : ∀ l w, w ≤ h.clock + l.length → (om Try.prog KK).call (.fn 47 [ii N, ii D]) (X h l w) = .ok (frac N D) (X h l w) := fun l w hw => fraction N D ⟨hN.1, by omega⟩ ⟨by omega, by omega⟩ _ (wf.X hw)
      (repeat' (first
  | (with_reducible refine WC_seq ?_) | (refine WC_region ?_) | (with_reducible refine WC_skip ?_) | (with_reducible refine WC_label ?_) | (with_reducible refine WC_scope ?_) | (with_reducible refine WC_block ?_) | (with_reducible refine WC_ret ?_) | (with_reducible refine WC_exit ?_)
  | (with_reducible refine seqQ_norm ?_) | (with_reducible refine seqQ_ret ?_) | (with_reducible refine seqQ_exit ?_) | (with_reducible refine blkQ_norm ?_) | (with_reducible refine blkQ_ret ?_) | (with_reducible refine blkQ_here ?_) | (refine blkQ_out rfl ?_)
  | (refine WO_nil ?_)
  | (refine WD_nil ?_)
  | (refine WD_gate rfl rfl rfl rfl rfl fun K_ hK_ => ?_; simp only [upd_apply, asB_bool, asB_tup, ↓reduceIte, reduceCtorEq, Nat.reduceEqDiff, Bool.not_true, Bool.not_false]; refine hK_ _ ?_; clear hK_ K_)
  | (refine WO_gate rfl rfl rfl rfl rfl fun K_ hK_ => ?_; simp only [upd_apply, asB_bool, asB_tup, ↓reduceIte, reduceCtorEq, Nat.reduceEqDiff, Bool.not_true, Bool.not_false]; refine hK_ _ ?_; clear hK_ K_)
  | (with_reducible refine gateK_yes ?_) | (refine gateK_no (by decide) ?_) | (with_reducible refine gateK_none ?_)
  | ((try first | refine WO_op rfl rfl rfl ?_ | refine WO_op0 rfl rfl ?_ | refine WD_op rfl rfl rfl ?_ | refine WD_op0 rfl rfl ?_); (refine WV_gen fun Q_ hQ_ => ?_; simp (disch := first | omega | (simp only [List.length_cons, List.length_nil, List.length_append]; omega)) only [bb, argF, ↓reduceIte, reduceCtorEq, Nat.reduceEqDiff, Nat.reduceLT, Nat.reduceLeDiff, Nat.reduceAdd, Nat.reduceMul, Nat.reduceSub, Nat.reduceBEq, Int.reduceToNat, List.append_assoc, List.length_append, cond_true, cond_false, List.length_cons, List.length_nil, List.cons_append, List.nil_append, List.append_nil, List.getElem?_cons_zero, List.getElem?_cons_succ, List.set_cons_zero, List.set_cons_succ, List.drop_zero, List.drop_succ_cons, List.take_zero, List.take_succ_cons, List.take_nil, List.drop_nil, eq_self, List.toList_toArray, beq_self_eq_true, newPtr_X wf, load1_X wf, loadAgg_X wf, store1_X wf, writeCells_X wf, makeFunc_def, bs_64, bsl_53, newSlice_X wf, ia_2, sz_2, ze_2, ia_3, sz_3, ia_4, sz_4, ia_24, sz_24, ia_53, sz_53, ia_64, sz_64, ze_64, ia_66, sz_66, ia_26, sz_26, ze_26, fo_26_0, fo_26_1, ia_71, sz_71, ze_71, pb_28, pb_29, pb_30, pb_36, pb_40, pb_46, pb_47]; first | (refine dec_split (Q := Q_) (fun hp_ => ?_) (fun hp_ => ?_) <;> first | (exfalso; omega) | (refine hQ_ _ _ ?_; clear hQ_ Q_)) | (refine dec_splitn (Q := Q_) (fun hp_ => ?_) (fun hp_ => ?_) <;> first | (exfalso; omega) | (refine hQ_ _ _ ?_; clear hQ_ Q_)) | (refine hQ_ _ _ ?_; clear hQ_ Q_) | (refine WV_eq (within1 wf (by simp only [List.length_append, List.length_cons, List.length_nil]; omega) rfl) ?_; first | (refine dec_split (Q := Q_) (fun hp_ => ?_) (fun hp_ => ?_) <;> first | (exfalso; omega) | (refine hQ_ _ _ ?_; clear hQ_ Q_)) | (refine hQ_ _ _ ?_; clear hQ_ Q_)) | (refine WV_unmarkc (within1 wf (by simp only [List.length_append, List.length_cons, List.length_nil]; omega) rfl) ?_; first | (refine dec_split (Q := Q_) (fun hp_ => ?_) (fun hp_ => ?_) <;> first | (exfalso; omega) | (refine hQ_ _ _ ?_; clear hQ_ Q_)) | (refine hQ_ _ _ ?_; clear hQ_ Q_))))
  | (refine WC_cond fun K_ hK_ => ?_; simp (disch := omega) only [evT_tmp, upd_apply, WB_some, ↓reduceIte, reduceCtorEq, Nat.reduceEqDiff, Nat.reduceLT]; refine hK_ _ ?_; clear hK_ K_)
  | (with_reducible refine condK_tt ?_) | (with_reducible refine condK_ff ?_) | (with_reducible refine roundQ_exit ?_) | (with_reducible refine roundQ_ret ?_)))
      refine WC_drawnB [.no, .no, .no, .no, .no, .no, .full, .full] (by kernel_rfl) ?_
      (repeat' (first
  | (with_reducible refine WC_seq ?_) | (refine WC_region ?_) | (with_reducible refine WC_skip ?_) | (with_reducible refine WC_label ?_) | (with_reducible refine WC_scope ?_) | (with_reducible refine WC_block ?_) | (with_reducible refine WC_ret ?_) | (with_reducible refine WC_exit ?_)
  | (with_reducible refine seqQ_norm ?_) | (with_reducible refine seqQ_ret ?_) | (with_reducible refine seqQ_exit ?_) | (with_reducible refine blkQ_norm ?_) | (with_reducible refine blkQ_ret ?_) | (with_reducible refine blkQ_here ?_) | (refine blkQ_out rfl ?_)
  | (refine WO_nil ?_)
  | (refine WD_nil ?_)
  | (refine WD_gate rfl rfl rfl rfl rfl fun K_ hK_ => ?_; simp only [upd_apply, asB_bool, asB_tup, ↓reduceIte, reduceCtorEq, Nat.reduceEqDiff, Bool.not_true, Bool.not_false]; refine hK_ _ ?_; clear hK_ K_)
  | (refine WO_gate rfl rfl rfl rfl rfl fun K_ hK_ => ?_; simp only [upd_apply, asB_bool, asB_tup, ↓reduceIte, reduceCtorEq, Nat.reduceEqDiff, Bool.not_true, Bool.not_false]; refine hK_ _ ?_; clear hK_ K_)
  | (with_reducible refine gateK_yes ?_) | (refine gateK_no (by decide) ?_) | (with_reducible refine gateK_none ?_)
  | ((try first | refine WO_op rfl rfl rfl ?_ | refine WO_op0 rfl rfl ?_ | refine WD_op rfl rfl rfl ?_ | refine WD_op0 rfl rfl ?_); (refine WV_gen fun Q_ hQ_ => ?_; simp (disch := first | omega | (simp only [List.length_cons, List.length_nil, List.length_append]; omega)) only [bb, argF, ↓reduceIte, reduceCtorEq, Nat.reduceEqDiff, Nat.reduceLT, Nat.reduceLeDiff, Nat.reduceAdd, Nat.reduceMul, Nat.reduceSub, Nat.reduceBEq, Int.reduceToNat, List.append_assoc, List.length_append, cond_true, cond_false, List.length_cons, List.length_nil, List.cons_append, List.nil_append, List.append_nil, List.getElem?_cons_zero, List.getElem?_cons_succ, List.set_cons_zero, List.set_cons_succ, List.drop_zero, List.drop_succ_cons, List.take_zero, List.take_succ_cons, List.take_nil, List.drop_nil, eq_self, List.toList_toArray, beq_self_eq_true, hfr, heq, newPtr_X wf, load1_X wf, loadAgg_X wf, store1_X wf, writeCells_X wf, makeFunc_def, bs_64, bsl_53, newSlice_X wf, ia_2, sz_2, ze_2, ia_3, sz_3, ia_4, sz_4, ia_24, sz_24, ia_53, sz_53, ia_64, sz_64, ze_64, ia_66, sz_66, ia_26, sz_26, ze_26, fo_26_0, fo_26_1, ia_71, sz_71, ze_71, pb_28, pb_29, pb_30, pb_36, pb_40, pb_46, pb_47]; first | (refine dec_split (Q := Q_) (fun hp_ => ?_) (fun hp_ => ?_) <;> first | (exfalso; omega) | (refine hQ_ _ _ ?_; clear hQ_ Q_)) | (refine dec_splitn (Q := Q_) (fun hp_ => ?_) (fun hp_ => ?_) <;> first | (exfalso; omega) | (refine hQ_ _ _ ?_; clear hQ_ Q_)) | (refine hQ_ _ _ ?_; clear hQ_ Q_)))
  | (refine WC_cond fun K_ hK_ => ?_; simp (disch := omega) only [evT_tmp, upd_apply, WB_some, ↓reduceIte, reduceCtorEq, Nat.reduceEqDiff, Nat.reduceLT]; refine hK_ _ ?_; clear hK_ K_)
  | (with_reducible refine condK_tt ?_) | (with_reducible refine condK_ff ?_) | (with_reducible refine roundQ_exit ?_) | (with_reducible refine roundQ_ret ?_)))
      (refine endQ_ret _ _ rfl (ret1 (by decide)) ?_; simp only [upd_apply, ↓reduceIte, reduceCtorEq, Nat.reduceEqDiff]; refine WV_flat rfl (by omega) ?_)
      refine ⟨?_, rfl⟩
      unfold isBnd
      rw [decide_eq_true ⟨hN, hD⟩]; rfl
    · (repeat' (first
  | (with_reducible refine WC_seq ?_) | (refine WC_region ?_) | (with_reducible refine WC_skip ?_) | (with_reducible refine WC_label ?_) | (with_reducible refine WC_scope ?_) | (with_reducible refine WC_block ?_) | (with_reducible refine WC_ret ?_) | (with_reducible refine WC_exit ?_)
  | (with_reducible refine seqQ_norm ?_) | (with_reducible refine seqQ_ret ?_) | (with_reducible refine seqQ_exit ?_) | (with_reducible refine blkQ_norm ?_) | (with_reducible refine blkQ_ret ?_) | (with_reducible refine blkQ_here ?_) | (refine blkQ_out rfl ?_)
  | (refine WO_nil ?_)
  | (refine WD_nil ?_)
  | (refine WD_gate rfl rfl rfl rfl rfl fun K_ hK_ => ?_; simp only [upd_apply, asB_bool, asB_tup, ↓reduceIte, reduceCtorEq, Nat.reduceEqDiff, Bool.not_true, Bool.not_false]; refine hK_ _ ?_; clear hK_ K_)
  | (refine WO_gate rfl rfl rfl rfl rfl fun K_ hK_ => ?_; simp only [upd_apply, asB_bool, asB_tup, ↓reduceIte, reduceCtorEq, Nat.reduceEqDiff, Bool.not_true, Bool.not_false]; refine hK_ _ ?_; clear hK_ K_)
  | (with_reducible refine gateK_yes ?_) | (refine gateK_no (by decide) ?_) | (with_reducible refine gateK_none ?_)
  | ((try first | refine WO_op rfl rfl rfl ?_ | refine WO_op0 rfl rfl ?_ | refine WD_op rfl rfl rfl ?_ | refine WD_op0 rfl rfl ?_); (refine WV_gen fun Q_ hQ_ => ?_; simp (disch := first | omega | (simp only [List.length_cons, List.length_nil, List.length_append]; omega)) only [bb, argF, ↓reduceIte, reduceCtorEq, Nat.reduceEqDiff, Nat.reduceLT, Nat.reduceLeDiff, Nat.reduceAdd, Nat.reduceMul, Nat.reduceSub, Nat.reduceBEq, Int.reduceToNat, List.append_assoc, List.length_append, cond_true, cond_false, List.length_cons, List.length_nil, List.cons_append, List.nil_append, List.append_nil, List.getElem?_cons_zero, List.getElem?_cons_succ, List.set_cons_zero, List.set_cons_succ, List.drop_zero, List.drop_succ_cons, List.take_zero, List.take_succ_cons, List.take_nil, List.drop_nil, eq_self, List.toList_toArray, beq_self_eq_true, newPtr_X wf, load1_X wf, loadAgg_X wf, store1_X wf, writeCells_X wf, makeFunc_def, bs_64, bsl_53, newSlice_X wf, ia_2, sz_2, ze_2, ia_3, sz_3, ia_4, sz_4, ia_24, sz_24, ia_53, sz_53, ia_64, sz_64, ze_64, ia_66, sz_66, ia_26, sz_26, ze_26, fo_26_0, fo_26_1, ia_71, sz_71, ze_71, pb_28, pb_29, pb_30, pb_36, pb_40, pb_46, pb_47]; first | (refine dec_split (Q := Q_) (fun hp_ => ?_) (fun hp_ => ?_) <;> first | (exfalso; omega) | (refine hQ_ _ _ ?_; clear hQ_ Q_)) | (refine dec_splitn (Q := Q_) (fun hp_ => ?_) (fun hp_ => ?_) <;> first | (exfalso; omega) | (refine hQ_ _ _ ?_; clear hQ_ Q_)) | (refine hQ_ _ _ ?_; clear hQ_ Q_) | (refine WV_eq (within1 wf (by simp only [List.length_append, List.length_cons, List.length_nil]; omega) rfl) ?_; first | (refine dec_split (Q := Q_) (fun hp_ => ?_) (fun hp_ => ?_) <;> first | (exfalso; omega) | (refine hQ_ _ _ ?_; clear hQ_ Q_)) | (refine hQ_ _ _ ?_; clear hQ_ Q_)) | (refine WV_unmarkc (within1 wf (by simp only [List.length_append, List.length_cons, List.length_nil]; omega) rfl) ?_; first | (refine dec_split (Q := Q_) (fun hp_ => ?_) (fun hp_ => ?_) <;> first | (exfalso; omega) | (refine hQ_ _ _ ?_; clear hQ_ Q_)) | (refine hQ_ _ _ ?_; clear hQ_ Q_))))
  | (refine WC_cond fun K_ hK_ => ?_; simp (disch := omega) only [evT_tmp, upd_apply, WB_some, ↓reduceIte, reduceCtorEq, Nat.reduceEqDiff, Nat.reduceLT]; refine hK_ _ ?_; clear hK_ K_)
  | (with_reducible refine condK_tt ?_) | (with_reducible refine condK_ff ?_) | (with_reducible refine roundQ_exit ?_) | (with_reducible refine roundQ_ret ?_)))
      (refine endQ_ret _ _ rfl (ret1 (by decide)) ?_; simp only [upd_apply, ↓reduceIte, reduceCtorEq, Nat.reduceEqDiff]; refine WV_flat rfl (by omega) ?_)
      refine ⟨?_, rfl⟩
      unfold isBnd
      rw [decide_eq_false (fun hh => hD hh.2)]; rfl
  · (repeat' (first
  | (with_reducible refine WC_seq ?_) | (refine WC_region ?_) | (with_reducible refine WC_skip ?_) | (with_reducible refine WC_label ?_) | (with_reducible refine WC_scope ?_) | (with_reducible refine WC_block ?_) | (with_reducible refine WC_ret ?_) | (with_reducible refine WC_exit ?_)
  | (with_reducible refine seqQ_norm ?_) | (with_reducible refine seqQ_ret ?_) | (with_reducible refine seqQ_exit ?_) | (with_reducible refine blkQ_norm ?_) | (with_reducible refine blkQ_ret ?_) | (with_reducible refine blkQ_here ?_) | (refine blkQ_out rfl ?_)
  | (refine WO_nil ?_)
  | (refine WD_nil ?_)
  | (refine WD_gate rfl rfl rfl rfl rfl fun K_ hK_ => ?_; simp only [upd_apply, asB_bool, asB_tup, ↓reduceIte, reduceCtorEq, Nat.reduceEqDiff, Bool.not_true, Bool.not_false]; refine hK_ _ ?_; clear hK_ K_)
  | (refine WO_gate rfl rfl rfl rfl rfl fun K_ hK_ => ?_; simp only [upd_apply, asB_bool, asB_tup, ↓reduceIte, reduceCtorEq, Nat.reduceEqDiff, Bool.not_true, Bool.not_false]; refine hK_ _ ?_; clear hK_ K_)
  | (with_reducible refine gateK_yes ?_) | (refine gateK_no (by decide) ?_) | (with_reducible refine gateK_none ?_)
  | ((try first | refine WO_op rfl rfl rfl ?_ | refine WO_op0 rfl rfl ?_ | refine WD_op rfl rfl rfl ?_ | refine WD_op0 rfl rfl ?_); (refine WV_gen fun Q_ hQ_ => ?_; simp (disch := first | omega | (simp only [List.length_cons, List.length_nil, List.length_append]; omega)) only [bb, argF, ↓reduceIte, reduceCtorEq, Nat.reduceEqDiff, Nat.reduceLT, Nat.reduceLeDiff, Nat.reduceAdd, Nat.reduceMul, Nat.reduceSub, Nat.reduceBEq, Int.reduceToNat, List.append_assoc, List.length_append, cond_true, cond_false, List.length_cons, List.length_nil, List.cons_append, List.nil_append, List.append_nil, List.getElem?_cons_zero, List.getElem?_cons_succ, List.set_cons_zero, List.set_cons_succ, List.drop_zero, List.drop_succ_cons, List.take_zero, List.take_succ_cons, List.take_nil, List.drop_nil, eq_self, List.toList_toArray, beq_self_eq_true, newPtr_X wf, load1_X wf, loadAgg_X wf, store1_X wf, writeCells_X wf, makeFunc_def, bs_64, bsl_53, newSlice_X wf, ia_2, sz_2, ze_2, ia_3, sz_3, ia_4, sz_4, ia_24, sz_24, ia_53, sz_53, ia_64, sz_64, ze_64, ia_66, sz_66, ia_26, sz_26, ze_26, fo_26_0, fo_26_1, ia_71, sz_71, ze_71, pb_28, pb_29, pb_30, pb_36, pb_40, pb_46, pb_47]; first | (refine dec_split (Q := Q_) (fun hp_ => ?_) (fun hp_ => ?_) <;> first | (exfalso; omega) | (refine hQ_ _ _ ?_; clear hQ_ Q_)) | (refine dec_splitn (Q := Q_) (fun hp_ => ?_) (fun hp_ => ?_) <;> first | (exfalso; omega) | (refine hQ_ _ _ ?_; clear hQ_ Q_)) | (refine hQ_ _ _ ?_; clear hQ_ Q_) | (refine WV_eq (within1 wf (by simp only [List.length_append, List.length_cons, List.length_nil]; omega) rfl) ?_; first | (refine dec_split (Q := Q_) (fun hp_ => ?_) (fun hp_ => ?_) <;> first | (exfalso; omega) | (refine hQ_ _ _ ?_; clear hQ_ Q_)) | (refine hQ_ _ _ ?_; clear hQ_ Q_)) | (refine WV_unmarkc (within1 wf (by simp only [List.length_append, List.length_cons, List.length_nil]; omega) rfl) ?_; first | (refine dec_split (Q := Q_) (fun hp_ => ?_) (fun hp_ => ?_) <;> first | (exfalso; omega) | (refine hQ_ _ _ ?_; clear hQ_ Q_)) | (refine hQ_ _ _ ?_; clear hQ_ Q_))))
  | (refine WC_cond fun K_ hK_ => ?_; simp (disch := omega) only [evT_tmp, upd_apply, WB_some, ↓reduceIte, reduceCtorEq, Nat.reduceEqDiff, Nat.reduceLT]; refine hK_ _ ?_; clear hK_ K_)
  | (with_reducible refine condK_tt ?_) | (with_reducible refine condK_ff ?_) | (with_reducible refine roundQ_exit ?_) | (with_reducible refine roundQ_ret ?_)))
    (refine endQ_ret _ _ rfl (ret1 (by decide)) ?_; simp only [upd_apply, ↓reduceIte, reduceCtorEq, Nat.reduceEqDiff]; refine WV_flat rfl (by omega) ?_)
    refine ⟨?_, rfl⟩
    unfold isBnd
    rw [decide_eq_false (fun hh => hN hh.1)]; rfl

/-- The question that is put. -/
theorem questionBad (sp st : Int) (a : AV) (rvs : List AV) (rows : List (List (Int × Int))) (what : Int) (he : hullErr sp st rows ≠ 0) (h : H) (x : HullR h a rvs rows) :
    (om Try.prog KK).call (.fn 28 [.agg [ii sp, ii st, a], ii what]) h = .ok (.tup [.agg [ii 0, ii 0, .nils], .nilf, ii (hullErr sp st rows)]) h := by
  have wf := x.wf
  have hch : ∀ l w, w ≤ h.clock + l.length → (om Try.prog KK).call (.fn 36 [.agg [ii sp, ii st, a]]) (X h l w) = .ok (ii (hullErr sp st rows)) (X h l w) := fun l w hw => checkHull sp st a rvs rows _ (x.up l w hw)
  refine WV_to (WV_call (fn := Try.f28) Try.func28 rfl rfl rfl rfl rfl ?_)
  simp only [argF]
  (repeat' (first
  | (with_reducible refine WC_seq ?_) | (refine WC_region ?_) | (with_reducible refine WC_skip ?_) | (with_reducible refine WC_label ?_) | (with_reducible refine WC_scope ?_) | (with_reducible refine WC_block ?_) | (with_reducible refine WC_ret ?_) | (with_reducible refine WC_exit ?_)
  | (with_reducible refine seqQ_norm ?_) | (with_reducible refine seqQ_ret ?_) | (with_reducible refine seqQ_exit ?_) | (with_reducible refine blkQ_norm ?_) | (with_reducible refine blkQ_ret ?_) | (with_reducible refine blkQ_here ?_) | (refine blkQ_out rfl ?_)
  | (refine WO_nil ?_)
  | (refine WD_nil ?_)
  | (refine WD_gate rfl rfl rfl rfl rfl fun K_ hK_ => ?_; simp only [upd_apply, asB_bool, asB_tup, ↓reduceIte, reduceCtorEq, Nat.reduceEqDiff, Bool.not_true, Bool.not_false]; refine hK_ _ ?_; clear hK_ K_)
  | (refine WO_gate rfl rfl rfl rfl rfl fun K_ hK_ => ?_; simp only [upd_apply, asB_bool, asB_tup, ↓reduceIte, reduceCtorEq, Nat.reduceEqDiff, Bool.not_true, Bool.not_false]; refine hK_ _ ?_; clear hK_ K_)
  | (with_reducible refine gateK_yes ?_) | (refine gateK_no (by decide) ?_) | (with_reducible refine gateK_none ?_)
  | ((try first | refine WO_op rfl rfl rfl ?_ | refine WO_op0 rfl rfl ?_ | refine WD_op rfl rfl rfl ?_ | refine WD_op0 rfl rfl ?_); (refine WV_gen fun Q_ hQ_ => ?_; simp (disch := first | omega | (simp only [List.length_cons, List.length_nil, List.length_append]; omega)) only [bb, argF, ↓reduceIte, reduceCtorEq, Nat.reduceEqDiff, Nat.reduceLT, Nat.reduceLeDiff, Nat.reduceAdd, Nat.reduceMul, Nat.reduceSub, Nat.reduceBEq, Int.reduceToNat, List.append_assoc, List.length_append, cond_true, cond_false, List.length_cons, List.length_nil, List.cons_append, List.nil_append, List.append_nil, List.getElem?_cons_zero, List.getElem?_cons_succ, List.set_cons_zero, List.set_cons_succ, List.drop_zero, List.drop_succ_cons, List.take_zero, List.take_succ_cons, List.take_nil, List.drop_nil, eq_self, List.toList_toArray, beq_self_eq_true, hch, newPtr_X wf, load1_X wf, loadAgg_X wf, store1_X wf, writeCells_X wf, makeFunc_def, bs_64, bsl_53, newSlice_X wf, ia_2, sz_2, ze_2, ia_3, sz_3, ia_4, sz_4, ia_24, sz_24, ia_53, sz_53, ia_64, sz_64, ze_64, ia_66, sz_66, ia_26, sz_26, ze_26, fo_26_0, fo_26_1, ia_71, sz_71, ze_71, pb_28, pb_29, pb_30, pb_36, pb_40, pb_46, pb_47]; first | (refine dec_split (Q := Q_) (fun hp_ => ?_) (fun hp_ => ?_) <;> first | (exfalso; omega) | (refine hQ_ _ _ ?_; clear hQ_ Q_)) | (refine dec_splitn (Q := Q_) (fun hp_ => ?_) (fun hp_ => ?_) <;> first | (exfalso; omega) | (refine hQ_ _ _ ?_; clear hQ_ Q_)) | (refine hQ_ _ _ ?_; clear hQ_ Q_)))
  | (refine WC_cond fun K_ hK_ => ?_; simp (disch := omega) only [evT_tmp, upd_apply, WB_some, ↓reduceIte, reduceCtorEq, Nat.reduceEqDiff, Nat.reduceLT]; refine hK_ _ ?_; clear hK_ K_)
  | (with_reducible refine condK_tt ?_) | (with_reducible refine condK_ff ?_) | (with_reducible refine roundQ_exit ?_) | (with_reducible refine roundQ_ret ?_)))
  refine endQ_ret _ _ rfl (retc2 (by decide) (by decide) (by decide) (by simp (disch := first | omega | (simp only [List.length_cons, List.length_nil, List.length_append]; omega)) only [bb, argF, ↓reduceIte, reduceCtorEq, Nat.reduceEqDiff, Nat.reduceLT, Nat.reduceLeDiff, Nat.reduceAdd, Nat.reduceMul, Nat.reduceSub, Nat.reduceBEq, Int.reduceToNat, List.append_assoc, List.length_append, cond_true, cond_false, List.length_cons, List.length_nil, List.cons_append, List.nil_append, List.append_nil, List.getElem?_cons_zero, List.getElem?_cons_succ, List.set_cons_zero, List.set_cons_succ, List.drop_zero, List.drop_succ_cons, List.take_zero, List.take_succ_cons, List.take_nil, List.drop_nil, eq_self, List.toList_toArray, beq_self_eq_true, loadAgg_X wf, bs_64, bsl_53, newSlice_X wf, ia_2, sz_2, ze_2, ia_3, sz_3, ia_4, sz_4, ia_24, sz_24, ia_53, sz_53, ia_64, sz_64, ze_64, ia_66, sz_66, ia_26, sz_26, ze_26, fo_26_0, fo_26_1, ia_71, sz_71, ze_71, pb_28, pb_29, pb_30, pb_36, pb_40, pb_46, pb_47]; rfl)) ?_
  simp only [upd_apply, ↓reduceIte, reduceCtorEq, Nat.reduceEqDiff]
  refine WV_flat rfl (by omega) ?_
  exact ⟨rfl, rfl⟩

theorem hullErr_sl {h : H} {a : AV} {rvs : List AV} {rows : List (List (Int × Int))} (x : HullR h a rvs rows) (hn : 0 < rows.length) : ∃ id off cap esz, a = .sl id off rows.length cap esz := by
  obtain ⟨_, ⟨_, h0⟩ | ⟨id, off, cap, esz, _, _, e, _⟩⟩ := x.sl
  · omega
  · exact ⟨id, off, cap, esz, e⟩

theorem questionNot (sp st : Int) (a : AV) (rvs : List AV) (rows : List (List (Int × Int))) (what : Int) (he : hullErr sp st rows = 0) (hwh : ¬ (0 ≤ what ∧ what ≤ 2)) {h0 : H} (x0 : HullR h0 a rvs rows) {J : List AO} {w0 : Nat} (hw0 : w0 ≤ h0.clock + J.length) :
    (om Try.prog KK).call (.fn 28 [.agg [ii sp, ii st, a], ii what]) (X h0 J w0) = .ok (.tup [.agg [ii sp, ii st, a], .nilf, ii 3]) (X h0 (J ++ [.cells (mkCells [ii sp, ii st, a]) 24, .cells (mkCells [ii sp, ii st, a]) 64, .cells (mkCells [ii sp, ii st, a]) 64]) w0) := by
  have x := x0.up J w0 hw0
  have key : ∀ h, HullR h a rvs rows → (om Try.prog KK).call (.fn 28 [.agg [ii sp, ii st, a], ii what]) h = .ok (.tup [.agg [ii sp, ii st, a], .nilf, ii 3]) (X h [.cells (mkCells [ii sp, ii st, a]) 24, .cells (mkCells [ii sp, ii st, a]) 64, .cells (mkCells [ii sp, ii st, a]) 64] h.w) := by
    clear x x0
    intro h x
    have wf := x.wf
    obtain ⟨hn, hm, hall, hsp, hst, hof⟩ := hullErr_ok he
    obtain ⟨id, off, cap, esz, rfl⟩ := hullErr_sl x (by omega)
    have hch : ∀ l w, w ≤ h.clock + l.length → (om Try.prog KK).call (.fn 36 [.agg [ii sp, ii st, .sl id off rows.length cap esz]]) (X h l w) = .ok (ii (hullErr sp st rows)) (X h l w) := fun l w hw => checkHull sp st _ rvs rows _ (x.up l w hw)
    have han : ∀ l w, w ≤ h.clock + l.length → (om Try.prog KK).call (.fn 40 [.agg [ii sp, ii st, .sl id off rows.length cap esz], ii what]) (X h l w) = .ok (.tup [.nilf, ii 3]) (X h l w) := fun l w hw => askedNot sp st _ what hwh _ (wf.X hw)
    refine WV_to (WV_call (fn := Try.f28) Try.func28 rfl rfl rfl rfl rfl ?_)
    simp only [argF]
    (repeat' (first
  | (with_reducible refine WC_seq ?_) | (refine WC_region ?_) | (with_reducible refine WC_skip ?_) | (with_reducible refine WC_label ?_) | (with_reducible refine WC_scope ?_) | (with_reducible refine WC_block ?_) | (with_reducible refine WC_ret ?_) | (with_reducible refine WC_exit ?_)
  | (with_reducible refine seqQ_norm ?_) | (with_reducible refine seqQ_ret ?_) | (with_reducible refine seqQ_exit ?_) | (with_reducible refine blkQ_norm ?_) | (with_reducible refine blkQ_ret ?_) | (with_reducible refine blkQ_here ?_) | (refine blkQ_out rfl ?_)
  | (refine WO_nil ?_)
  | (refine WD_nil ?_)
  | (refine WD_gate rfl rfl rfl rfl rfl fun K_ hK_ => ?_; simp only [upd_apply, asB_bool, asB_tup, ↓reduceIte, reduceCtorEq, Nat.reduceEqDiff, Bool.not_true, Bool.not_false]; refine hK_ _ ?_; clear hK_ K_)
  | (refine WO_gate rfl rfl rfl rfl rfl fun K_ hK_ => ?_; simp only [upd_apply, asB_bool, asB_tup, ↓reduceIte, reduceCtorEq, Nat.reduceEqDiff, Bool.not_true, Bool.not_false]; refine hK_ _ ?_; clear hK_ K_)
  | (with_reducible refine gateK_yes ?_) | (refine gateK_no (by decide) ?_) | (with_reducible refine gateK_none ?_)
  | ((try first | refine WO_op rfl rfl rfl ?_ | refine WO_op0 rfl rfl ?_ | refine WD_op rfl rfl rfl ?_ | refine WD_op0 rfl rfl ?_); (refine WV_gen fun Q_ hQ_ => ?_; simp (disch := first | omega | (simp only [List.length_cons, List.length_nil, List.length_append]; omega)) only [bb, argF, ↓reduceIte, reduceCtorEq, Nat.reduceEqDiff, Nat.reduceLT, Nat.reduceLeDiff, Nat.reduceAdd, Nat.reduceMul, Nat.reduceSub, Nat.reduceBEq, Int.reduceToNat, List.append_assoc, List.length_append, cond_true, cond_false, List.length_cons, List.length_nil, List.cons_append, List.nil_append, List.append_nil, List.getElem?_cons_zero, List.getElem?_cons_succ, List.set_cons_zero, List.set_cons_succ, List.drop_zero, List.drop_succ_cons, List.take_zero, List.take_succ_cons, List.take_nil, List.drop_nil, eq_self, List.toList_toArray, beq_self_eq_true, hch, he, han, newPtr_X wf, load1_X wf, loadAgg_X wf, store1_X wf, writeCells_X wf, makeFunc_def, bs_64, bsl_53, newSlice_X wf, ia_2, sz_2, ze_2, ia_3, sz_3, ia_4, sz_4, ia_24, sz_24, ia_53, sz_53, ia_64, sz_64, ze_64, ia_66, sz_66, ia_26, sz_26, ze_26, fo_26_0, fo_26_1, ia_71, sz_71, ze_71, pb_28, pb_29, pb_30, pb_36, pb_40, pb_46, pb_47]; first | (refine dec_split (Q := Q_) (fun hp_ => ?_) (fun hp_ => ?_) <;> first | (exfalso; omega) | (refine hQ_ _ _ ?_; clear hQ_ Q_)) | (refine dec_splitn (Q := Q_) (fun hp_ => ?_) (fun hp_ => ?_) <;> first | (exfalso; omega) | (refine hQ_ _ _ ?_; clear hQ_ Q_)) | (refine hQ_ _ _ ?_; clear hQ_ Q_)))
  | (refine WC_cond fun K_ hK_ => ?_; simp (disch := omega) only [evT_tmp, upd_apply, WB_some, ↓reduceIte, reduceCtorEq, Nat.reduceEqDiff, Nat.reduceLT]; refine hK_ _ ?_; clear hK_ K_)
  | (with_reducible refine condK_tt ?_) | (with_reducible refine condK_ff ?_) | (with_reducible refine roundQ_exit ?_) | (with_reducible refine roundQ_ret ?_)))
    refine endQ_ret _ _ rfl (retc2 (by decide) (by decide) (by decide) (by simp (disch := first | omega | (simp only [List.length_cons, List.length_nil, List.length_append]; omega)) only [bb, argF, ↓reduceIte, reduceCtorEq, Nat.reduceEqDiff, Nat.reduceLT, Nat.reduceLeDiff, Nat.reduceAdd, Nat.reduceMul, Nat.reduceSub, Nat.reduceBEq, Int.reduceToNat, List.append_assoc, List.length_append, cond_true, cond_false, List.length_cons, List.length_nil, List.cons_append, List.nil_append, List.append_nil, List.getElem?_cons_zero, List.getElem?_cons_succ, List.set_cons_zero, List.set_cons_succ, List.drop_zero, List.drop_succ_cons, List.take_zero, List.take_succ_cons, List.take_nil, List.drop_nil, eq_self, List.toList_toArray, beq_self_eq_true, loadAgg_X wf, bs_64, bsl_53, newSlice_X wf, ia_2, sz_2, ze_2, ia_3, sz_3, ia_4, sz_4, ia_24, sz_24, ia_53, sz_53, ia_64, sz_64, ze_64, ia_66, sz_66, ia_26, sz_26, ze_26, fo_26_0, fo_26_1, ia_71, sz_71, ze_71, pb_28, pb_29, pb_30, pb_36, pb_40, pb_46, pb_47]; rfl)) ?_
    simp only [upd_apply, ↓reduceIte, reduceCtorEq, Nat.reduceEqDiff]
    refine WV_ext (by
      show (_ && flat (.tup [.agg [ii sp, ii st, .sl _ _ _ _ _], .nilf, ii 3])) = false
      exact Bool.and_false _) ?_
    refine ⟨rfl, ?_⟩
    rw [Nat.min_eq_left (by have := wf.wle; omega)]
  rw [key _ x, X_X, X_w]

theorem question (sp st : Int) (a : AV) (rvs : List AV) (rows : List (List (Int × Int))) (what : Int) (he : hullErr sp st rows = 0) (hwh : 0 ≤ what ∧ what ≤ 2) {h0 : H} (x0 : HullR h0 a rvs rows) {J : List AO} {w0 : Nat} (hw0 : w0 ≤ h0.clock + J.length) :
    (om Try.prog KK).call (.fn 28 [.agg [ii sp, ii st, a], ii what]) (X h0 J w0) = .ok (.tup [.agg [ii sp, ii st, a], .fn (gOf what) [.agg [ii sp, ii st, a]] [], ii 0]) (X h0 (J ++ [.cells (mkCells [ii sp, ii st, a]) 24, .cells (mkCells [ii sp, ii st, a]) 64, .cells (mkCells [ii sp, ii st, a]) 64, .cells (mkCells [ii sp, ii st, a]) 64]) w0) := by
  have x := x0.up J w0 hw0
  have key : ∀ h, HullR h a rvs rows → (om Try.prog KK).call (.fn 28 [.agg [ii sp, ii st, a], ii what]) h = .ok (.tup [.agg [ii sp, ii st, a], .fn (gOf what) [.agg [ii sp, ii st, a]] [], ii 0]) (X h [.cells (mkCells [ii sp, ii st, a]) 24, .cells (mkCells [ii sp, ii st, a]) 64, .cells (mkCells [ii sp, ii st, a]) 64, .cells (mkCells [ii sp, ii st, a]) 64] h.w) := by
    clear x x0
    intro h x
    have wf := x.wf
    obtain ⟨hn, hm, hall, hsp, hst, hof⟩ := hullErr_ok he
    obtain ⟨id, off, cap, esz, rfl⟩ := hullErr_sl x (by omega)
    have hch : ∀ l w, w ≤ h.clock + l.length → (om Try.prog KK).call (.fn 36 [.agg [ii sp, ii st, .sl id off rows.length cap esz]]) (X h l w) = .ok (ii (hullErr sp st rows)) (X h l w) := fun l w hw => checkHull sp st _ rvs rows _ (x.up l w hw)
    refine WV_to (WV_call (fn := Try.f28) Try.func28 rfl rfl rfl rfl rfl ?_)
    simp only [argF]
    (repeat' (first
  | (with_reducible refine WC_seq ?_) | (refine WC_region ?_) | (with_reducible refine WC_skip ?_) | (with_reducible refine WC_label ?_) | (with_reducible refine WC_scope ?_) | (with_reducible refine WC_block ?_) | (with_reducible refine WC_ret ?_) | (with_reducible refine WC_exit ?_)
  | (with_reducible refine seqQ_norm ?_) | (with_reducible refine seqQ_ret ?_) | (with_reducible refine seqQ_exit ?_) | (with_reducible refine blkQ_norm ?_) | (with_reducible refine blkQ_ret ?_) | (with_reducible refine blkQ_here ?_) | (refine blkQ_out rfl ?_)
  | (refine WO_nil ?_)
  | (refine WD_nil ?_)
  | (refine WD_gate rfl rfl rfl rfl rfl fun K_ hK_ => ?_; simp only [upd_apply, asB_bool, asB_tup, ↓reduceIte, reduceCtorEq, Nat.reduceEqDiff, Bool.not_true, Bool.not_false]; refine hK_ _ ?_; clear hK_ K_)
  | (refine WO_gate rfl rfl rfl rfl rfl fun K_ hK_ => ?_; simp only [upd_apply, asB_bool, asB_tup, ↓reduceIte, reduceCtorEq, Nat.reduceEqDiff, Bool.not_true, Bool.not_false]; refine hK_ _ ?_; clear hK_ K_)
  | (with_reducible refine gateK_yes ?_) | (refine gateK_no (by decide) ?_) | (with_reducible refine gateK_none ?_)
  | ((try first | refine WO_op rfl rfl rfl ?_ | refine WO_op0 rfl rfl ?_ | refine WD_op rfl rfl rfl ?_ | refine WD_op0 rfl rfl ?_); (refine WV_gen fun Q_ hQ_ => ?_; simp (disch := first | omega | (simp only [List.length_cons, List.length_nil, List.length_append]; omega)) only [bb, argF, ↓reduceIte, reduceCtorEq, Nat.reduceEqDiff, Nat.reduceLT, Nat.reduceLeDiff, Nat.reduceAdd, Nat.reduceMul, Nat.reduceSub, Nat.reduceBEq, Int.reduceToNat, List.append_assoc, List.length_append, cond_true, cond_false, List.length_cons, List.length_nil, List.cons_append, List.nil_append, List.append_nil, List.getElem?_cons_zero, List.getElem?_cons_succ, List.set_cons_zero, List.set_cons_succ, List.drop_zero, List.drop_succ_cons, List.take_zero, List.take_succ_cons, List.take_nil, List.drop_nil, eq_self, List.toList_toArray, beq_self_eq_true, hch, he, newPtr_X wf, load1_X wf, loadAgg_X wf, store1_X wf, writeCells_X wf, makeFunc_def, bs_64, bsl_53, newSlice_X wf, ia_2, sz_2, ze_2, ia_3, sz_3, ia_4, sz_4, ia_24, sz_24, ia_53, sz_53, ia_64, sz_64, ze_64, ia_66, sz_66, ia_26, sz_26, ze_26, fo_26_0, fo_26_1, ia_71, sz_71, ze_71, pb_28, pb_29, pb_30, pb_36, pb_40, pb_46, pb_47]; first | (refine dec_split (Q := Q_) (fun hp_ => ?_) (fun hp_ => ?_) <;> first | (exfalso; omega) | (refine hQ_ _ _ ?_; clear hQ_ Q_)) | (refine dec_splitn (Q := Q_) (fun hp_ => ?_) (fun hp_ => ?_) <;> first | (exfalso; omega) | (refine hQ_ _ _ ?_; clear hQ_ Q_)) | (refine hQ_ _ _ ?_; clear hQ_ Q_) | (refine WV_eq (asked sp st _ what hwh h wf _ _ (by simp only [List.length_append, List.length_cons, List.length_nil]; omega)) ?_; refine hQ_ _ _ ?_; clear hQ_ Q_)))
  | (refine WC_cond fun K_ hK_ => ?_; simp (disch := omega) only [evT_tmp, upd_apply, WB_some, ↓reduceIte, reduceCtorEq, Nat.reduceEqDiff, Nat.reduceLT]; refine hK_ _ ?_; clear hK_ K_)
  | (with_reducible refine condK_tt ?_) | (with_reducible refine condK_ff ?_) | (with_reducible refine roundQ_exit ?_) | (with_reducible refine roundQ_ret ?_)))
    refine endQ_ret _ _ rfl (retc2 (by decide) (by decide) (by decide) (by simp (disch := first | omega | (simp only [List.length_cons, List.length_nil, List.length_append]; omega)) only [bb, argF, ↓reduceIte, reduceCtorEq, Nat.reduceEqDiff, Nat.reduceLT, Nat.reduceLeDiff, Nat.reduceAdd, Nat.reduceMul, Nat.reduceSub, Nat.reduceBEq, Int.reduceToNat, List.append_assoc, List.length_append, cond_true, cond_false, List.length_cons, List.length_nil, List.cons_append, List.nil_append, List.append_nil, List.getElem?_cons_zero, List.getElem?_cons_succ, List.set_cons_zero, List.set_cons_succ, List.drop_zero, List.drop_succ_cons, List.take_zero, List.take_succ_cons, List.take_nil, List.drop_nil, eq_self, List.toList_toArray, beq_self_eq_true, loadAgg_X wf, bs_64, bsl_53, newSlice_X wf, ia_2, sz_2, ze_2, ia_3, sz_3, ia_4, sz_4, ia_24, sz_24, ia_53, sz_53, ia_64, sz_64, ze_64, ia_66, sz_66, ia_26, sz_26, ze_26, fo_26_0, fo_26_1, ia_71, sz_71, ze_71, pb_28, pb_29, pb_30, pb_36, pb_40, pb_46, pb_47]; rfl)) ?_
    simp only [upd_apply, ↓reduceIte, reduceCtorEq, Nat.reduceEqDiff]
    refine WV_ext (by
      show (_ && flat (.tup [.agg [ii sp, ii st, .sl _ _ _ _ _], .fn _ _ _, ii 0])) = false
      exact Bool.and_false _) ?_
    refine ⟨rfl, ?_⟩
    rw [Nat.min_eq_left (by have := wf.wle; omega)]
  rw [key _ x, X_X, X_w]

/-- What a bound's check answers. -/
def bndErr (sp st : Int) (rows : List (List (Int × Int))) (what N D : Int) (high : Bool) : Int :=
  if hullErr sp st rows ≠ 0 then hullErr sp st rows else if ¬ (0 ≤ what ∧ what ≤ 2) then 3 else if isBnd N D = false then 2
  else if 0 < psum (bestG (gOf what) sp st rows (m0 rows) N D high) (rows.length * m0 rows) then 14 else 0

theorem checkBound (sp st : Int) (a : AV) (rvs : List AV) (rows : List (List (Int × Int))) (what N D : Int) (high : Bool) (h : H) (x : HullR h a rvs rows) :
    (om Try.prog KK).call (.fn 11 [.agg [ii sp, ii st, a], ii what, .agg [ii N, ii D], .bool high]) h = .ok (ii (bndErr sp st rows what N D high)) h := by
  have wf := x.wf
  obtain ⟨hac, hao⟩ := Sl.one x.sl
  refine WV_to (WV_call (fn := Try.f11) Try.func11 rfl rfl rfl rfl rfl ?_)
  simp only [argF]
  have hib : ∀ l w, w ≤ h.clock + l.length → (om Try.prog KK).call (.fn 29 [.agg [ii N, ii D]]) (X h l w) = .ok (.bool (isBnd N D)) (X h l w) := fun l w hw => isBound N D _ (wf.X hw)
  unfold bndErr
  by_cases he : hullErr sp st rows = 0
  · rw [if_neg (not_not_intro he)]
    by_cases hwh : 0 ≤ what ∧ what ≤ 2
    · rw [if_neg (not_not_intro hwh)]
      obtain ⟨hn, hm, hall, hsp, hst, hof⟩ := hullErr_ok he
      cases hb : isBnd N D with
      | false =>
        rw [hb] at hib
        (repeat' (first
  | (with_reducible refine WC_seq ?_) | (refine WC_region ?_) | (with_reducible refine WC_skip ?_) | (with_reducible refine WC_label ?_) | (with_reducible refine WC_scope ?_) | (with_reducible refine WC_block ?_) | (with_reducible refine WC_ret ?_) | (with_reducible refine WC_exit ?_)
  | (with_reducible refine seqQ_norm ?_) | (with_reducible refine seqQ_ret ?_) | (with_reducible refine seqQ_exit ?_) | (with_reducible refine blkQ_norm ?_) | (with_reducible refine blkQ_ret ?_) | (with_reducible refine blkQ_here ?_) | (refine blkQ_out rfl ?_)
  | (refine WO_nil ?_)
  | (refine WD_nil ?_)
  | (refine WD_gate rfl rfl rfl rfl rfl fun K_ hK_ => ?_; simp only [upd_apply, asB_bool, asB_tup, ↓reduceIte, reduceCtorEq, Nat.reduceEqDiff, Bool.not_true, Bool.not_false]; refine hK_ _ ?_; clear hK_ K_)
  | (refine WO_gate rfl rfl rfl rfl rfl fun K_ hK_ => ?_; simp only [upd_apply, asB_bool, asB_tup, ↓reduceIte, reduceCtorEq, Nat.reduceEqDiff, Bool.not_true, Bool.not_false]; refine hK_ _ ?_; clear hK_ K_)
  | (with_reducible refine gateK_yes ?_) | (refine gateK_no (by decide) ?_) | (with_reducible refine gateK_none ?_)
  | ((try first | refine WO_op rfl rfl rfl ?_ | refine WO_op0 rfl rfl ?_ | refine WD_op rfl rfl rfl ?_ | refine WD_op0 rfl rfl ?_); (refine WV_gen fun Q_ hQ_ => ?_; simp (disch := first | omega | (simp only [List.length_cons, List.length_nil, List.length_append]; omega)) only [bb, argF, ↓reduceIte, reduceCtorEq, Nat.reduceEqDiff, Nat.reduceLT, Nat.reduceLeDiff, Nat.reduceAdd, Nat.reduceMul, Nat.reduceSub, Nat.reduceBEq, Int.reduceToNat, List.append_assoc, List.length_append, cond_true, cond_false, List.length_cons, List.length_nil, List.cons_append, List.nil_append, List.append_nil, List.getElem?_cons_zero, List.getElem?_cons_succ, List.set_cons_zero, List.set_cons_succ, List.drop_zero, List.drop_succ_cons, List.take_zero, List.take_succ_cons, List.take_nil, List.drop_nil, eq_self, List.toList_toArray, beq_self_eq_true, hib, hao, newPtr_X wf, load1_X wf, loadAgg_X wf, store1_X wf, writeCells_X wf, makeFunc_def, bs_64, bsl_53, newSlice_X wf, ia_2, sz_2, ze_2, ia_3, sz_3, ia_4, sz_4, ia_24, sz_24, ia_53, sz_53, ia_64, sz_64, ze_64, ia_66, sz_66, ia_26, sz_26, ze_26, fo_26_0, fo_26_1, ia_71, sz_71, ze_71, pb_28, pb_29, pb_30, pb_36, pb_40, pb_46, pb_47]; first | (refine dec_split (Q := Q_) (fun hp_ => ?_) (fun hp_ => ?_) <;> first | (exfalso; omega) | (refine hQ_ _ _ ?_; clear hQ_ Q_)) | (refine dec_splitn (Q := Q_) (fun hp_ => ?_) (fun hp_ => ?_) <;> first | (exfalso; omega) | (refine hQ_ _ _ ?_; clear hQ_ Q_)) | (refine hQ_ _ _ ?_; clear hQ_ Q_) | (refine WV_eq (question sp st a rvs rows what he hwh x (by simp only [List.length_append, List.length_cons, List.length_nil]; omega)) ?_; refine hQ_ _ _ ?_; clear hQ_ Q_)))
  | (refine WC_cond fun K_ hK_ => ?_; simp (disch := omega) only [evT_tmp, upd_apply, WB_some, ↓reduceIte, reduceCtorEq, Nat.reduceEqDiff, Nat.reduceLT]; refine hK_ _ ?_; clear hK_ K_)
  | (with_reducible refine condK_tt ?_) | (with_reducible refine condK_ff ?_) | (with_reducible refine roundQ_exit ?_) | (with_reducible refine roundQ_ret ?_)))
        (refine endQ_ret _ _ rfl (ret1 (by decide)) ?_; simp only [upd_apply, ↓reduceIte, reduceCtorEq, Nat.reduceEqDiff]; refine WV_flat rfl (by omega) ?_)
        exact ⟨rfl, rfl⟩
      | true =>
        rw [hb] at hib
        have hbi : bndIn N D := by
          unfold isBnd at hb
          rw [Bool.and_eq_true] at hb
          exact of_decide_eq_true hb.1
        have xat := x.at (m := m0 rows) (by omega) (fun i hi => hall _ (List.getElem_mem hi))
        have hfa : ∀ l w, w ≤ h.clock + l.length → (om Try.prog KK).call (.fn 30 [.agg [ii sp, ii st, a], .fn (gOf what) [.agg [ii sp, ii st, a]] [], .agg [ii N, ii D], .bool high]) (X h l w) = .ok _ (X h l w) := fun l w hw => farthest (gOf_or what) sp st hsp hst a rvs rows (m0 rows) hn hm N D hbi.1 hbi.2 high (fun q hq => hof.1 _ (rAt_mem hall (by omega) hq)) _ (xat.up l w hw)
        (repeat' (first
  | (with_reducible refine WC_seq ?_) | (refine WC_region ?_) | (with_reducible refine WC_skip ?_) | (with_reducible refine WC_label ?_) | (with_reducible refine WC_scope ?_) | (with_reducible refine WC_block ?_) | (with_reducible refine WC_ret ?_) | (with_reducible refine WC_exit ?_)
  | (with_reducible refine seqQ_norm ?_) | (with_reducible refine seqQ_ret ?_) | (with_reducible refine seqQ_exit ?_) | (with_reducible refine blkQ_norm ?_) | (with_reducible refine blkQ_ret ?_) | (with_reducible refine blkQ_here ?_) | (refine blkQ_out rfl ?_)
  | (refine WO_nil ?_)
  | (refine WD_nil ?_)
  | (refine WD_gate rfl rfl rfl rfl rfl fun K_ hK_ => ?_; simp only [upd_apply, asB_bool, asB_tup, ↓reduceIte, reduceCtorEq, Nat.reduceEqDiff, Bool.not_true, Bool.not_false]; refine hK_ _ ?_; clear hK_ K_)
  | (refine WO_gate rfl rfl rfl rfl rfl fun K_ hK_ => ?_; simp only [upd_apply, asB_bool, asB_tup, ↓reduceIte, reduceCtorEq, Nat.reduceEqDiff, Bool.not_true, Bool.not_false]; refine hK_ _ ?_; clear hK_ K_)
  | (with_reducible refine gateK_yes ?_) | (refine gateK_no (by decide) ?_) | (with_reducible refine gateK_none ?_)
  | ((try first | refine WO_op rfl rfl rfl ?_ | refine WO_op0 rfl rfl ?_ | refine WD_op rfl rfl rfl ?_ | refine WD_op0 rfl rfl ?_); (refine WV_gen fun Q_ hQ_ => ?_; simp (disch := first | omega | (simp only [List.length_cons, List.length_nil, List.length_append]; omega)) only [bb, argF, ↓reduceIte, reduceCtorEq, Nat.reduceEqDiff, Nat.reduceLT, Nat.reduceLeDiff, Nat.reduceAdd, Nat.reduceMul, Nat.reduceSub, Nat.reduceBEq, Int.reduceToNat, List.append_assoc, List.length_append, cond_true, cond_false, List.length_cons, List.length_nil, List.cons_append, List.nil_append, List.append_nil, List.getElem?_cons_zero, List.getElem?_cons_succ, List.set_cons_zero, List.set_cons_succ, List.drop_zero, List.drop_succ_cons, List.take_zero, List.take_succ_cons, List.take_nil, List.drop_nil, eq_self, List.toList_toArray, beq_self_eq_true, hib, hao, hfa, newPtr_X wf, load1_X wf, loadAgg_X wf, store1_X wf, writeCells_X wf, makeFunc_def, bs_64, bsl_53, newSlice_X wf, ia_2, sz_2, ze_2, ia_3, sz_3, ia_4, sz_4, ia_24, sz_24, ia_53, sz_53, ia_64, sz_64, ze_64, ia_66, sz_66, ia_26, sz_26, ze_26, fo_26_0, fo_26_1, ia_71, sz_71, ze_71, pb_28, pb_29, pb_30, pb_36, pb_40, pb_46, pb_47]; first | (refine dec_split (Q := Q_) (fun hp_ => ?_) (fun hp_ => ?_) <;> first | (exfalso; omega) | (refine hQ_ _ _ ?_; clear hQ_ Q_)) | (refine dec_splitn (Q := Q_) (fun hp_ => ?_) (fun hp_ => ?_) <;> first | (exfalso; omega) | (refine hQ_ _ _ ?_; clear hQ_ Q_)) | (refine hQ_ _ _ ?_; clear hQ_ Q_) | (refine WV_eq (question sp st a rvs rows what he hwh x (by simp only [List.length_append, List.length_cons, List.length_nil]; omega)) ?_; refine hQ_ _ _ ?_; clear hQ_ Q_)))
  | (refine WC_cond fun K_ hK_ => ?_; simp (disch := omega) only [evT_tmp, upd_apply, WB_some, ↓reduceIte, reduceCtorEq, Nat.reduceEqDiff, Nat.reduceLT]; refine hK_ _ ?_; clear hK_ K_)
  | (with_reducible refine condK_tt ?_) | (with_reducible refine condK_ff ?_) | (with_reducible refine roundQ_exit ?_) | (with_reducible refine roundQ_ret ?_)))
        have hL : ((gB (bestY (gOf what) sp st rows (m0 rows) N D high) (m0 rows) (rows.length * m0 rows)).map ii).length = 60 := by rw [List.length_map, gB_length]
        refine WO_op0 rfl rfl (WV_eq (v := .tup []) (by
          rw [x_store, evT_tmp (by decide), on1_ok, evT_tmp (by decide), on1_ok]
          simp only [upd_apply, ↓reduceIte, reduceCtorEq, Nat.reduceEqDiff]
          rw [storeE_whole wf sz_71 (by decide) hL (old := (List.replicate 60 (0 : Int)).map ii) (by simp) rfl (allOne_map (fun _ => rfl) _)]
          rfl) ?_)
        (repeat' (first
  | (with_reducible refine WC_seq ?_) | (refine WC_region ?_) | (with_reducible refine WC_skip ?_) | (with_reducible refine WC_label ?_) | (with_reducible refine WC_scope ?_) | (with_reducible refine WC_block ?_) | (with_reducible refine WC_ret ?_) | (with_reducible refine WC_exit ?_)
  | (with_reducible refine seqQ_norm ?_) | (with_reducible refine seqQ_ret ?_) | (with_reducible refine seqQ_exit ?_) | (with_reducible refine blkQ_norm ?_) | (with_reducible refine blkQ_ret ?_) | (with_reducible refine blkQ_here ?_) | (refine blkQ_out rfl ?_)
  | (refine WO_nil ?_)
  | (refine WD_nil ?_)
  | (refine WD_gate rfl rfl rfl rfl rfl fun K_ hK_ => ?_; simp only [upd_apply, asB_bool, asB_tup, ↓reduceIte, reduceCtorEq, Nat.reduceEqDiff, Bool.not_true, Bool.not_false]; refine hK_ _ ?_; clear hK_ K_)
  | (refine WO_gate rfl rfl rfl rfl rfl fun K_ hK_ => ?_; simp only [upd_apply, asB_bool, asB_tup, ↓reduceIte, reduceCtorEq, Nat.reduceEqDiff, Bool.not_true, Bool.not_false]; refine hK_ _ ?_; clear hK_ K_)
  | (with_reducible refine gateK_yes ?_) | (refine gateK_no (by decide) ?_) | (with_reducible refine gateK_none ?_)
  | ((try first | refine WO_op rfl rfl rfl ?_ | refine WO_op0 rfl rfl ?_ | refine WD_op rfl rfl rfl ?_ | refine WD_op0 rfl rfl ?_); (refine WV_gen fun Q_ hQ_ => ?_; simp (disch := first | omega | (simp only [List.length_cons, List.length_nil, List.length_append]; omega)) only [bb, argF, ↓reduceIte, reduceCtorEq, Nat.reduceEqDiff, Nat.reduceLT, Nat.reduceLeDiff, Nat.reduceAdd, Nat.reduceMul, Nat.reduceSub, Nat.reduceBEq, Int.reduceToNat, List.append_assoc, List.length_append, cond_true, cond_false, List.length_cons, List.length_nil, List.cons_append, List.nil_append, List.append_nil, List.getElem?_cons_zero, List.getElem?_cons_succ, List.set_cons_zero, List.set_cons_succ, List.drop_zero, List.drop_succ_cons, List.take_zero, List.take_succ_cons, List.take_nil, List.drop_nil, eq_self, List.toList_toArray, beq_self_eq_true, bs_64, bsl_53, newSlice_X wf, ia_2, sz_2, ze_2, ia_3, sz_3, ia_4, sz_4, ia_24, sz_24, ia_53, sz_53, ia_64, sz_64, ze_64, ia_66, sz_66, ia_26, sz_26, ze_26, fo_26_0, fo_26_1, ia_71, sz_71, ze_71, pb_28, pb_29, pb_30, pb_36, pb_40, pb_46, pb_47]; first | (refine dec_split (Q := Q_) (fun hp_ => ?_) (fun hp_ => ?_) <;> first | (exfalso; omega) | (refine hQ_ _ _ ?_; clear hQ_ Q_)) | (refine dec_splitn (Q := Q_) (fun hp_ => ?_) (fun hp_ => ?_) <;> first | (exfalso; omega) | (refine hQ_ _ _ ?_; clear hQ_ Q_)) | (refine hQ_ _ _ ?_; clear hQ_ Q_)))
  | (refine WC_cond fun K_ hK_ => ?_; simp (disch := omega) only [evT_tmp, upd_apply, WB_some, ↓reduceIte, reduceCtorEq, Nat.reduceEqDiff, Nat.reduceLT]; refine hK_ _ ?_; clear hK_ K_)
  | (with_reducible refine condK_tt ?_) | (with_reducible refine condK_ff ?_) | (with_reducible refine roundQ_exit ?_) | (with_reducible refine roundQ_ret ?_)))
        · (refine endQ_ret _ _ rfl (ret1 (by decide)) ?_; simp only [upd_apply, ↓reduceIte, reduceCtorEq, Nat.reduceEqDiff]; refine WV_flat rfl (by omega) ?_)
          exact ⟨by rw [if_pos (by assumption)], rfl⟩
        · (refine endQ_ret _ _ rfl (ret1 (by decide)) ?_; simp only [upd_apply, ↓reduceIte, reduceCtorEq, Nat.reduceEqDiff]; refine WV_flat rfl (by omega) ?_)
          exact ⟨by rw [if_neg (by assumption)], rfl⟩
    · rw [if_pos hwh]
      (repeat' (first
  | (with_reducible refine WC_seq ?_) | (refine WC_region ?_) | (with_reducible refine WC_skip ?_) | (with_reducible refine WC_label ?_) | (with_reducible refine WC_scope ?_) | (with_reducible refine WC_block ?_) | (with_reducible refine WC_ret ?_) | (with_reducible refine WC_exit ?_)
  | (with_reducible refine seqQ_norm ?_) | (with_reducible refine seqQ_ret ?_) | (with_reducible refine seqQ_exit ?_) | (with_reducible refine blkQ_norm ?_) | (with_reducible refine blkQ_ret ?_) | (with_reducible refine blkQ_here ?_) | (refine blkQ_out rfl ?_)
  | (refine WO_nil ?_)
  | (refine WD_nil ?_)
  | (refine WD_gate rfl rfl rfl rfl rfl fun K_ hK_ => ?_; simp only [upd_apply, asB_bool, asB_tup, ↓reduceIte, reduceCtorEq, Nat.reduceEqDiff, Bool.not_true, Bool.not_false]; refine hK_ _ ?_; clear hK_ K_)
  | (refine WO_gate rfl rfl rfl rfl rfl fun K_ hK_ => ?_; simp only [upd_apply, asB_bool, asB_tup, ↓reduceIte, reduceCtorEq, Nat.reduceEqDiff, Bool.not_true, Bool.not_false]; refine hK_ _ ?_; clear hK_ K_)
  | (with_reducible refine gateK_yes ?_) | (refine gateK_no (by decide) ?_) | (with_reducible refine gateK_none ?_)
  | ((try first | refine WO_op rfl rfl rfl ?_ | refine WO_op0 rfl rfl ?_ | refine WD_op rfl rfl rfl ?_ | refine WD_op0 rfl rfl ?_); (refine WV_gen fun Q_ hQ_ => ?_; simp (disch := first | omega | (simp only [List.length_cons, List.length_nil, List.length_append]; omega)) only [bb, argF, ↓reduceIte, reduceCtorEq, Nat.reduceEqDiff, Nat.reduceLT, Nat.reduceLeDiff, Nat.reduceAdd, Nat.reduceMul, Nat.reduceSub, Nat.reduceBEq, Int.reduceToNat, List.append_assoc, List.length_append, cond_true, cond_false, List.length_cons, List.length_nil, List.cons_append, List.nil_append, List.append_nil, List.getElem?_cons_zero, List.getElem?_cons_succ, List.set_cons_zero, List.set_cons_succ, List.drop_zero, List.drop_succ_cons, List.take_zero, List.take_succ_cons, List.take_nil, List.drop_nil, eq_self, List.toList_toArray, beq_self_eq_true, hib, hao, newPtr_X wf, load1_X wf, loadAgg_X wf, store1_X wf, writeCells_X wf, makeFunc_def, bs_64, bsl_53, newSlice_X wf, ia_2, sz_2, ze_2, ia_3, sz_3, ia_4, sz_4, ia_24, sz_24, ia_53, sz_53, ia_64, sz_64, ze_64, ia_66, sz_66, ia_26, sz_26, ze_26, fo_26_0, fo_26_1, ia_71, sz_71, ze_71, pb_28, pb_29, pb_30, pb_36, pb_40, pb_46, pb_47]; first | (refine dec_split (Q := Q_) (fun hp_ => ?_) (fun hp_ => ?_) <;> first | (exfalso; omega) | (refine hQ_ _ _ ?_; clear hQ_ Q_)) | (refine dec_splitn (Q := Q_) (fun hp_ => ?_) (fun hp_ => ?_) <;> first | (exfalso; omega) | (refine hQ_ _ _ ?_; clear hQ_ Q_)) | (refine hQ_ _ _ ?_; clear hQ_ Q_) | (refine WV_eq (questionNot sp st a rvs rows what he hwh x (by simp only [List.length_append, List.length_cons, List.length_nil]; omega)) ?_; refine hQ_ _ _ ?_; clear hQ_ Q_)))
  | (refine WC_cond fun K_ hK_ => ?_; simp (disch := omega) only [evT_tmp, upd_apply, WB_some, ↓reduceIte, reduceCtorEq, Nat.reduceEqDiff, Nat.reduceLT]; refine hK_ _ ?_; clear hK_ K_)
  | (with_reducible refine condK_tt ?_) | (with_reducible refine condK_ff ?_) | (with_reducible refine roundQ_exit ?_) | (with_reducible refine roundQ_ret ?_)))
      (refine endQ_ret _ _ rfl (ret1 (by decide)) ?_; simp only [upd_apply, ↓reduceIte, reduceCtorEq, Nat.reduceEqDiff]; refine WV_flat rfl (by omega) ?_)
      exact ⟨rfl, rfl⟩
  · rw [if_pos he]
    have hqb : ∀ l w, w ≤ h.clock + l.length → (om Try.prog KK).call (.fn 28 [.agg [ii sp, ii st, a], ii what]) (X h l w) = .ok (.tup [.agg [ii 0, ii 0, .nils], .nilf, ii (hullErr sp st rows)]) (X h l w) := fun l w hw => questionBad sp st a rvs rows what he _ (x.up l w hw)
    (repeat' (first
  | (with_reducible refine WC_seq ?_) | (refine WC_region ?_) | (with_reducible refine WC_skip ?_) | (with_reducible refine WC_label ?_) | (with_reducible refine WC_scope ?_) | (with_reducible refine WC_block ?_) | (with_reducible refine WC_ret ?_) | (with_reducible refine WC_exit ?_)
  | (with_reducible refine seqQ_norm ?_) | (with_reducible refine seqQ_ret ?_) | (with_reducible refine seqQ_exit ?_) | (with_reducible refine blkQ_norm ?_) | (with_reducible refine blkQ_ret ?_) | (with_reducible refine blkQ_here ?_) | (refine blkQ_out rfl ?_)
  | (refine WO_nil ?_)
  | (refine WD_nil ?_)
  | (refine WD_gate rfl rfl rfl rfl rfl fun K_ hK_ => ?_; simp only [upd_apply, asB_bool, asB_tup, ↓reduceIte, reduceCtorEq, Nat.reduceEqDiff, Bool.not_true, Bool.not_false]; refine hK_ _ ?_; clear hK_ K_)
  | (refine WO_gate rfl rfl rfl rfl rfl fun K_ hK_ => ?_; simp only [upd_apply, asB_bool, asB_tup, ↓reduceIte, reduceCtorEq, Nat.reduceEqDiff, Bool.not_true, Bool.not_false]; refine hK_ _ ?_; clear hK_ K_)
  | (with_reducible refine gateK_yes ?_) | (refine gateK_no (by decide) ?_) | (with_reducible refine gateK_none ?_)
  | ((try first | refine WO_op rfl rfl rfl ?_ | refine WO_op0 rfl rfl ?_ | refine WD_op rfl rfl rfl ?_ | refine WD_op0 rfl rfl ?_); (refine WV_gen fun Q_ hQ_ => ?_; simp (disch := first | omega | (simp only [List.length_cons, List.length_nil, List.length_append]; omega)) only [bb, argF, ↓reduceIte, reduceCtorEq, Nat.reduceEqDiff, Nat.reduceLT, Nat.reduceLeDiff, Nat.reduceAdd, Nat.reduceMul, Nat.reduceSub, Nat.reduceBEq, Int.reduceToNat, List.append_assoc, List.length_append, cond_true, cond_false, List.length_cons, List.length_nil, List.cons_append, List.nil_append, List.append_nil, List.getElem?_cons_zero, List.getElem?_cons_succ, List.set_cons_zero, List.set_cons_succ, List.drop_zero, List.drop_succ_cons, List.take_zero, List.take_succ_cons, List.take_nil, List.drop_nil, eq_self, List.toList_toArray, beq_self_eq_true, hqb, hao, newPtr_X wf, load1_X wf, loadAgg_X wf, store1_X wf, writeCells_X wf, makeFunc_def, bs_64, bsl_53, newSlice_X wf, ia_2, sz_2, ze_2, ia_3, sz_3, ia_4, sz_4, ia_24, sz_24, ia_53, sz_53, ia_64, sz_64, ze_64, ia_66, sz_66, ia_26, sz_26, ze_26, fo_26_0, fo_26_1, ia_71, sz_71, ze_71, pb_28, pb_29, pb_30, pb_36, pb_40, pb_46, pb_47]; first | (refine dec_split (Q := Q_) (fun hp_ => ?_) (fun hp_ => ?_) <;> first | (exfalso; omega) | (refine hQ_ _ _ ?_; clear hQ_ Q_)) | (refine dec_splitn (Q := Q_) (fun hp_ => ?_) (fun hp_ => ?_) <;> first | (exfalso; omega) | (refine hQ_ _ _ ?_; clear hQ_ Q_)) | (refine hQ_ _ _ ?_; clear hQ_ Q_)))
  | (refine WC_cond fun K_ hK_ => ?_; simp (disch := omega) only [evT_tmp, upd_apply, WB_some, ↓reduceIte, reduceCtorEq, Nat.reduceEqDiff, Nat.reduceLT]; refine hK_ _ ?_; clear hK_ K_)
  | (with_reducible refine condK_tt ?_) | (with_reducible refine condK_ff ?_) | (with_reducible refine roundQ_exit ?_) | (with_reducible refine roundQ_ret ?_)))
    (refine endQ_ret _ _ rfl (ret1 (by decide)) ?_; simp only [upd_apply, ↓reduceIte, reduceCtorEq, Nat.reduceEqDiff]; refine WV_flat rfl (by omega) ?_)
    exact ⟨rfl, rfl⟩
end Go.Proofs.Ytghondkiondeaac
end

/- EvK4 -/
section
/-
  LAYER 2, THE REFERENCE: bounds.
-/
namespace Go.Proofs.Ytghondkiondeaac
open Go.Ev
set_option maxRecDepth 100000
set_option linter.unusedSimpArgs false
set_option linter.unusedVariables false
set_option maxHeartbeats 4000000

theorem isBoundR (N D : Int) (h : H) (wf : Wf h) : (om Try.prog KK).call (.fn 20 [.agg [ii N, ii D]]) h = .ok (.bool (isBnd N D)) h := by
  refine WV_to (WV_call (fn := Try.f20) Try.func20 rfl rfl rfl rfl rfl ?_)
  simp only [argF]
  have heq : ∀ x y, binE Try.prog .eql 26 x y (frac N D) (.agg [ii N, ii D]) = some (.bool (N / (Int.gcd N D : Int) == N && D / (Int.gcd N D : Int) == D)) := fun x y => eqQ
  have hsy : (N / (Int.gcd N D : Int) == N && D / (Int.gcd N D : Int) == D) = (N == N / (Int.gcd N D : Int) && D == D / (Int.gcd N D : Int)) := by rw [Bool.beq_comm, Bool.beq_comm (a := D / _)]
  rw [hsy] at heq
  by_cases hb : bndIn N D
  · have hb' := hb
    unfold bndIn at hb'
    have hfr : ∀ l w, w ≤ h.clock + l.length → (om Try.prog KK).call (.fn 24 [ii N, ii D]) (X h l w) = .ok (frac N D) (X h l w) := fun l w hw => fractionR N D ⟨hb'.1.1, by omega⟩ ⟨by omega, by omega⟩ _ (wf.X hw)
    (repeat' (first
  | (with_reducible refine WC_seq ?_) | (refine WC_region ?_) | (with_reducible refine WC_skip ?_) | (with_reducible refine WC_label ?_) | (with_reducible refine WC_scope ?_) | (with_reducible refine WC_block ?_) | (with_reducible refine WC_ret ?_) | (with_reducible refine WC_exit ?_)
  | (with_reducible refine seqQ_norm ?_) | (with_reducible refine seqQ_ret ?_) | (with_reducible refine seqQ_exit ?_) | (with_reducible refine blkQ_norm ?_) | (with_reducible refine blkQ_ret ?_) | (with_reducible refine blkQ_here ?_) | (refine blkQ_out rfl ?_)
  | (refine WO_nil ?_)
  | (refine WD_nil ?_)
  | (refine WD_gate rfl rfl rfl rfl rfl fun K_ hK_ => ?_; simp only [upd_apply, asB_bool, asB_tup, ↓reduceIte, reduceCtorEq, Nat.reduceEqDiff, Bool.not_true, Bool.not_false]; refine hK_ _ ?_; clear hK_ K_)
  | (refine WO_gate rfl rfl rfl rfl rfl fun K_ hK_ => ?_; simp only [upd_apply, asB_bool, asB_tup, ↓reduceIte, reduceCtorEq, Nat.reduceEqDiff, Bool.not_true, Bool.not_false]; refine hK_ _ ?_; clear hK_ K_)
  | (with_reducible refine gateK_yes ?_) | (refine gateK_no (by decide) ?_) | (with_reducible refine gateK_none ?_)
  | ((try first | refine WO_op rfl rfl rfl ?_ | refine WO_op0 rfl rfl ?_ | refine WD_op rfl rfl rfl ?_ | refine WD_op0 rfl rfl ?_); (refine WV_gen fun Q_ hQ_ => ?_; simp (disch := first | omega | (simp only [List.length_cons, List.length_nil, List.length_append]; omega)) only [bb, argF, ↓reduceIte, reduceCtorEq, Nat.reduceEqDiff, Nat.reduceLT, Nat.reduceLeDiff, Nat.reduceAdd, Nat.reduceMul, Nat.reduceSub, Nat.reduceBEq, Int.reduceToNat, List.append_assoc, List.length_append, cond_true, cond_false, List.length_cons, List.length_nil, List.cons_append, List.nil_append, List.append_nil, List.getElem?_cons_zero, List.getElem?_cons_succ, List.set_cons_zero, List.set_cons_succ, List.drop_zero, List.drop_succ_cons, List.take_zero, List.take_succ_cons, List.take_nil, List.drop_nil, eq_self, List.toList_toArray, beq_self_eq_true, newPtr_X wf, load1_X wf, loadAgg_X wf, store1_X wf, writeCells_X wf, makeFunc_def, ia_2, sz_2, ze_2, ia_3, sz_3, ia_4, sz_4, ia_24, sz_24, ia_22, sz_22, ia_52, sz_52, ia_55, sz_55, ia_26, sz_26, ze_26, fo_24_0, fo_24_1, fo_24_2, fo_26_0, fo_26_1, fo_55_0, fo_55_1, ik_22, ik_52, pb_12, pb_20, pb_24, pb_31, pb_32, pb_51]; first | (refine dec_split (Q := Q_) (fun hp_ => ?_) (fun hp_ => ?_) <;> first | (exfalso; omega) | (refine hQ_ _ _ ?_; clear hQ_ Q_)) | (refine dec_splitn (Q := Q_) (fun hp_ => ?_) (fun hp_ => ?_) <;> first | (exfalso; omega) | (refine hQ_ _ _ ?_; clear hQ_ Q_)) | (refine hQ_ _ _ ?_; clear hQ_ Q_)))
  | (refine WC_cond fun K_ hK_ => ?_; simp (disch := omega) only [evT_tmp, upd_apply, WB_some, ↓reduceIte, reduceCtorEq, Nat.reduceEqDiff, Nat.reduceLT]; refine hK_ _ ?_; clear hK_ K_)
  | (with_reducible refine condK_tt ?_) | (with_reducible refine condK_ff ?_) | (with_reducible refine roundQ_exit ?_) | (with_reducible refine roundQ_ret ?_)))
    refine WC_drawnB [.full, .full, .full, .full, .full, .full, .full, .full, .full, .full, .full, .full, .full, .full, .full, .full, .full, .full, .full, .no, .no, .no, .no, .no, .no, .full, .full, .full] (by kernel_rfl) ?_
    (repeat' (first
  | (with_reducible refine WC_seq ?_) | (refine WC_region ?_) | (with_reducible refine WC_skip ?_) | (with_reducible refine WC_label ?_) | (with_reducible refine WC_scope ?_) | (with_reducible refine WC_block ?_) | (with_reducible refine WC_ret ?_) | (with_reducible refine WC_exit ?_)
  | (with_reducible refine seqQ_norm ?_) | (with_reducible refine seqQ_ret ?_) | (with_reducible refine seqQ_exit ?_) | (with_reducible refine blkQ_norm ?_) | (with_reducible refine blkQ_ret ?_) | (with_reducible refine blkQ_here ?_) | (refine blkQ_out rfl ?_)
  | (refine WO_nil ?_)
  | (refine WD_nil ?_)
  | (refine WD_gate rfl rfl rfl rfl rfl fun K_ hK_ => ?_; simp only [upd_apply, asB_bool, asB_tup, ↓reduceIte, reduceCtorEq, Nat.reduceEqDiff, Bool.not_true, Bool.not_false]; refine hK_ _ ?_; clear hK_ K_)
  | (refine WO_gate rfl rfl rfl rfl rfl fun K_ hK_ => ?_; simp only [upd_apply, asB_bool, asB_tup, ↓reduceIte, reduceCtorEq, Nat.reduceEqDiff, Bool.not_true, Bool.not_false]; refine hK_ _ ?_; clear hK_ K_)
  | (with_reducible refine gateK_yes ?_) | (refine gateK_no (by decide) ?_) | (with_reducible refine gateK_none ?_)
  | ((try first | refine WO_op rfl rfl rfl ?_ | refine WO_op0 rfl rfl ?_ | refine WD_op rfl rfl rfl ?_ | refine WD_op0 rfl rfl ?_); (refine WV_gen fun Q_ hQ_ => ?_; simp (disch := first | omega | (simp only [List.length_cons, List.length_nil, List.length_append]; omega)) only [bb, argF, ↓reduceIte, reduceCtorEq, Nat.reduceEqDiff, Nat.reduceLT, Nat.reduceLeDiff, Nat.reduceAdd, Nat.reduceMul, Nat.reduceSub, Nat.reduceBEq, Int.reduceToNat, List.append_assoc, List.length_append, cond_true, cond_false, List.length_cons, List.length_nil, List.cons_append, List.nil_append, List.append_nil, List.getElem?_cons_zero, List.getElem?_cons_succ, List.set_cons_zero, List.set_cons_succ, List.drop_zero, List.drop_succ_cons, List.take_zero, List.take_succ_cons, List.take_nil, List.drop_nil, eq_self, List.toList_toArray, beq_self_eq_true, hfr, heq, newPtr_X wf, load1_X wf, loadAgg_X wf, store1_X wf, writeCells_X wf, makeFunc_def, ia_2, sz_2, ze_2, ia_3, sz_3, ia_4, sz_4, ia_24, sz_24, ia_22, sz_22, ia_52, sz_52, ia_55, sz_55, ia_26, sz_26, ze_26, fo_24_0, fo_24_1, fo_24_2, fo_26_0, fo_26_1, fo_55_0, fo_55_1, ik_22, ik_52, pb_12, pb_20, pb_24, pb_31, pb_32, pb_51]; first | (refine dec_split (Q := Q_) (fun hp_ => ?_) (fun hp_ => ?_) <;> first | (exfalso; omega) | (refine hQ_ _ _ ?_; clear hQ_ Q_)) | (refine dec_splitn (Q := Q_) (fun hp_ => ?_) (fun hp_ => ?_) <;> first | (exfalso; omega) | (refine hQ_ _ _ ?_; clear hQ_ Q_)) | (refine hQ_ _ _ ?_; clear hQ_ Q_)))
  | (refine WC_cond fun K_ hK_ => ?_; simp (disch := omega) only [evT_tmp, upd_apply, WB_some, ↓reduceIte, reduceCtorEq, Nat.reduceEqDiff, Nat.reduceLT]; refine hK_ _ ?_; clear hK_ K_)
  | (with_reducible refine condK_tt ?_) | (with_reducible refine condK_ff ?_) | (with_reducible refine roundQ_exit ?_) | (with_reducible refine roundQ_ret ?_)))
    (refine endQ_ret _ _ rfl (ret1 (by decide)) ?_; simp only [upd_apply, ↓reduceIte, reduceCtorEq, Nat.reduceEqDiff]; refine WV_flat rfl (by omega) ?_)
    refine ⟨?_, rfl⟩
    unfold isBnd
    rw [decide_eq_true hb]; rfl
  · have hb' := hb
    unfold bndIn at hb'
    (repeat' (first
  | (with_reducible refine WC_seq ?_) | (refine WC_region ?_) | (with_reducible refine WC_skip ?_) | (with_reducible refine WC_label ?_) | (with_reducible refine WC_scope ?_) | (with_reducible refine WC_block ?_) | (with_reducible refine WC_ret ?_) | (with_reducible refine WC_exit ?_)
  | (with_reducible refine seqQ_norm ?_) | (with_reducible refine seqQ_ret ?_) | (with_reducible refine seqQ_exit ?_) | (with_reducible refine blkQ_norm ?_) | (with_reducible refine blkQ_ret ?_) | (with_reducible refine blkQ_here ?_) | (refine blkQ_out rfl ?_)
  | (refine WO_nil ?_)
  | (refine WD_nil ?_)
  | (refine WD_gate rfl rfl rfl rfl rfl fun K_ hK_ => ?_; simp only [upd_apply, asB_bool, asB_tup, ↓reduceIte, reduceCtorEq, Nat.reduceEqDiff, Bool.not_true, Bool.not_false]; refine hK_ _ ?_; clear hK_ K_)
  | (refine WO_gate rfl rfl rfl rfl rfl fun K_ hK_ => ?_; simp only [upd_apply, asB_bool, asB_tup, ↓reduceIte, reduceCtorEq, Nat.reduceEqDiff, Bool.not_true, Bool.not_false]; refine hK_ _ ?_; clear hK_ K_)
  | (with_reducible refine gateK_yes ?_) | (refine gateK_no (by decide) ?_) | (with_reducible refine gateK_none ?_)
  | ((try first | refine WO_op rfl rfl rfl ?_ | refine WO_op0 rfl rfl ?_ | refine WD_op rfl rfl rfl ?_ | refine WD_op0 rfl rfl ?_); (refine WV_gen fun Q_ hQ_ => ?_; simp (disch := first | omega | (simp only [List.length_cons, List.length_nil, List.length_append]; omega)) only [bb, argF, ↓reduceIte, reduceCtorEq, Nat.reduceEqDiff, Nat.reduceLT, Nat.reduceLeDiff, Nat.reduceAdd, Nat.reduceMul, Nat.reduceSub, Nat.reduceBEq, Int.reduceToNat, List.append_assoc, List.length_append, cond_true, cond_false, List.length_cons, List.length_nil, List.cons_append, List.nil_append, List.append_nil, List.getElem?_cons_zero, List.getElem?_cons_succ, List.set_cons_zero, List.set_cons_succ, List.drop_zero, List.drop_succ_cons, List.take_zero, List.take_succ_cons, List.take_nil, List.drop_nil, eq_self, List.toList_toArray, beq_self_eq_true, newPtr_X wf, load1_X wf, loadAgg_X wf, store1_X wf, writeCells_X wf, makeFunc_def, ia_2, sz_2, ze_2, ia_3, sz_3, ia_4, sz_4, ia_24, sz_24, ia_22, sz_22, ia_52, sz_52, ia_55, sz_55, ia_26, sz_26, ze_26, fo_24_0, fo_24_1, fo_24_2, fo_26_0, fo_26_1, fo_55_0, fo_55_1, ik_22, ik_52, pb_12, pb_20, pb_24, pb_31, pb_32, pb_51]; first | (refine dec_split (Q := Q_) (fun hp_ => ?_) (fun hp_ => ?_) <;> first | (exfalso; omega) | (refine hQ_ _ _ ?_; clear hQ_ Q_)) | (refine dec_splitn (Q := Q_) (fun hp_ => ?_) (fun hp_ => ?_) <;> first | (exfalso; omega) | (refine hQ_ _ _ ?_; clear hQ_ Q_)) | (refine hQ_ _ _ ?_; clear hQ_ Q_)))
  | (refine WC_cond fun K_ hK_ => ?_; simp (disch := omega) only [evT_tmp, upd_apply, WB_some, ↓reduceIte, reduceCtorEq, Nat.reduceEqDiff, Nat.reduceLT]; refine hK_ _ ?_; clear hK_ K_)
  | (with_reducible refine condK_tt ?_) | (with_reducible refine condK_ff ?_) | (with_reducible refine roundQ_exit ?_) | (with_reducible refine roundQ_ret ?_)))
    refine WC_drawnB [.full, .full, .full, .full, .full, .full, .full, .full, .full, .full, .full, .full, .full, .full, .full, .full, .full, .full, .full, .no, .no, .no, .no, .no, .no, .full, .full, .full] (by kernel_rfl) ?_
    (repeat' (first
  | (with_reducible refine WC_seq ?_) | (refine WC_region ?_) | (with_reducible refine WC_skip ?_) | (with_reducible refine WC_label ?_) | (with_reducible refine WC_scope ?_) | (with_reducible refine WC_block ?_) | (with_reducible refine WC_ret ?_) | (with_reducible refine WC_exit ?_)
  | (with_reducible refine seqQ_norm ?_) | (with_reducible refine seqQ_ret ?_) | (with_reducible refine seqQ_exit ?_) | (with_reducible refine blkQ_norm ?_) | (with_reducible refine blkQ_ret ?_) | (with_reducible refine blkQ_here ?_) | (refine blkQ_out rfl ?_)
  | (refine WO_nil ?_)
  | (refine WD_nil ?_)
  | (refine WD_gate rfl rfl rfl rfl rfl fun K_ hK_ => ?_; simp only [upd_apply, asB_bool, asB_tup, ↓reduceIte, reduceCtorEq, Nat.reduceEqDiff, Bool.not_true, Bool.not_false]; refine hK_ _ ?_; clear hK_ K_)
  | (refine WO_gate rfl rfl rfl rfl rfl fun K_ hK_ => ?_; simp only [upd_apply, asB_bool, asB_tup, ↓reduceIte, reduceCtorEq, Nat.reduceEqDiff, Bool.not_true, Bool.not_false]; refine hK_ _ ?_; clear hK_ K_)
  | (with_reducible refine gateK_yes ?_) | (refine gateK_no (by decide) ?_) | (with_reducible refine gateK_none ?_)
  | ((try first | refine WO_op rfl rfl rfl ?_ | refine WO_op0 rfl rfl ?_ | refine WD_op rfl rfl rfl ?_ | refine WD_op0 rfl rfl ?_); (refine WV_gen fun Q_ hQ_ => ?_; simp (disch := first | omega | (simp only [List.length_cons, List.length_nil, List.length_append]; omega)) only [bb, argF, ↓reduceIte, reduceCtorEq, Nat.reduceEqDiff, Nat.reduceLT, Nat.reduceLeDiff, Nat.reduceAdd, Nat.reduceMul, Nat.reduceSub, Nat.reduceBEq, Int.reduceToNat, List.append_assoc, List.length_append, cond_true, cond_false, List.length_cons, List.length_nil, List.cons_append, List.nil_append, List.append_nil, List.getElem?_cons_zero, List.getElem?_cons_succ, List.set_cons_zero, List.set_cons_succ, List.drop_zero, List.drop_succ_cons, List.take_zero, List.take_succ_cons, List.take_nil, List.drop_nil, eq_self, List.toList_toArray, beq_self_eq_true, newPtr_X wf, load1_X wf, loadAgg_X wf, store1_X wf, writeCells_X wf, makeFunc_def, ia_2, sz_2, ze_2, ia_3, sz_3, ia_4, sz_4, ia_24, sz_24, ia_22, sz_22, ia_52, sz_52, ia_55, sz_55, ia_26, sz_26, ze_26, fo_24_0, fo_24_1, fo_24_2, fo_26_0, fo_26_1, fo_55_0, fo_55_1, ik_22, ik_52, pb_12, pb_20, pb_24, pb_31, pb_32, pb_51]; first | (refine dec_split (Q := Q_) (fun hp_ => ?_) (fun hp_ => ?_) <;> first | (exfalso; omega) | (refine hQ_ _ _ ?_; clear hQ_ Q_)) | (refine dec_splitn (Q := Q_) (fun hp_ => ?_) (fun hp_ => ?_) <;> first | (exfalso; omega) | (refine hQ_ _ _ ?_; clear hQ_ Q_)) | (refine hQ_ _ _ ?_; clear hQ_ Q_)))
  | (refine WC_cond fun K_ hK_ => ?_; simp (disch := omega) only [evT_tmp, upd_apply, WB_some, ↓reduceIte, reduceCtorEq, Nat.reduceEqDiff, Nat.reduceLT]; refine hK_ _ ?_; clear hK_ K_)
  | (with_reducible refine condK_tt ?_) | (with_reducible refine condK_ff ?_) | (with_reducible refine roundQ_exit ?_) | (with_reducible refine roundQ_ret ?_)))
    all_goals (refine endQ_ret _ _ rfl (ret1 (by decide)) ?_; simp only [upd_apply, ↓reduceIte, reduceCtorEq, Nat.reduceEqDiff]; refine WV_flat rfl (by omega) ?_)
    all_goals refine ⟨?_, rfl⟩
    all_goals unfold isBnd
    all_goals rw [decide_eq_false hb]
    all_goals rfl

theorem sgn_tt (x : Int) : sgn true x = x := rfl
theorem sgn_ff (x : Int) : sgn false x = -x := rfl
theorem sgn_sgn (b : Bool) (x : Int) : sgn b (sgn b x) = x := by cases b <;> simp [sgn]

theorem mx_taken {high : Bool} {F : Int → Int} {lo : Int} {j : Nat} {x best : Int} (hx : F (lo + (j : Int)) = sgn high x) (hb : (if j = 0 then 0 else sgn high (mxf F lo (j - 1))) = best) (hc : j = 0 ∨ (high = true ∧ best < x) ∨ (high = false ∧ x < best)) :
    x = sgn high (mxf F lo (j + 1 - 1)) := by
  rw [Nat.add_sub_cancel]
  cases j with
  | zero =>
    simp only [mxf]
    have : F lo = sgn high x := by simpa using hx
    rw [this, sgn_sgn]
  | succ j =>
    rw [if_neg (by omega), Nat.add_sub_cancel] at hb
    simp only [mxf]
    rw [hx]
    rcases hc with h | ⟨rfl, h⟩ | ⟨rfl, h⟩
    · omega
    · rw [sgn_tt] at *; rw [sgn_tt]; omega
    · rw [sgn_ff] at *; rw [sgn_ff]; omega
theorem mx_left {high : Bool} {F : Int → Int} {lo : Int} {j : Nat} {x best : Int} (hx : F (lo + (j : Int)) = sgn high x) (hb : (if j = 0 then 0 else sgn high (mxf F lo (j - 1))) = best) (hj : j ≠ 0) (h1 : high = true → x ≤ best) (h2 : high = false → best ≤ x) :
    best = sgn high (mxf F lo (j + 1 - 1)) := by
  rw [Nat.add_sub_cancel]
  cases j with
  | zero => exact absurd rfl hj
  | succ j =>
    rw [if_neg (by omega), Nat.add_sub_cancel] at hb
    simp only [mxf]
    rw [hx]
    cases high with
    | true => have := h1 rfl; rw [sgn_tt] at *; rw [sgn_tt]; omega
    | false => have := h2 rfl; rw [sgn_ff] at *; rw [sgn_ff]; omega

/-- What a place adds to the reference's sum. -/
def refG (g : Nat) (sp st : Int) (rows : List (List (Int × Int))) (m : Nat) (N D : Int) (high : Bool) (q : Nat) : Int := sgn high (bestG g sp st rows m N D high q)

theorem part (sp st : Int) (hsp : 1 ≤ sp ∧ sp ≤ 1000) (hst : 1 ≤ st ∧ st ≤ 100) (a : AV) (rvs : List AV) (rows : List (List (Int × Int))) (m : Nat) (hn : 2 ≤ rows.length ∧ rows.length ≤ 10) (hm : 2 ≤ m ∧ m ≤ 6)
    (what N D : Int) (hwh : 0 ≤ what ∧ what ≤ 2) (hN : 0 ≤ N ∧ N ≤ 100000000000) (hD : 1 ≤ D ∧ D ≤ 100000000) (high : Bool) (hof : ∀ q, q < rows.length * m → isOff (rAt rows m q)) (h : H) (x : HullAt h a rvs rows m) :
    (om Try.prog KK).call (.fn 32 [.agg [ii sp, ii st, a], ii what, .agg [ii N, ii D], .bool high]) h = .ok (ii (psum (refG (gOf what) sp st rows m N D high) (rows.length * m))) h := by
  have wf := x.wf
  have hnm : rows.length * m ≤ 60 := by
    have := Nat.mul_le_mul hn.2 hm.2; omega
  have hg := gOf_or what
  have hFin : ∀ q, q < rows.length * m → ∀ y, (rAt rows m q).1 ≤ y → y ≤ (rAt rows m q).1 + (wide (rAt rows m q) : Int) → -130000000000000000 ≤ fAt (gOf what) sp st rows.length m N D high q y ∧ fAt (gOf what) sp st rows.length m N D high q y ≤ 130000000000000000 := fun q hq y hy hy' => by
    have ho := hof q hq
    unfold isOff at ho
    refine fAt_in hg hsp hst hn.2 hm.2 hN hD high hq ⟨by omega, ?_⟩
    unfold wide at hy'
    omega
  have hbG : ∀ q, q < rows.length * m → -130000000000000000 ≤ refG (gOf what) sp st rows m N D high q ∧ refG (gOf what) sp st rows m N D high q ≤ 130000000000000000 := fun q hq => by
    have : -130000000000000000 ≤ bestG (gOf what) sp st rows m N D high q ∧ bestG (gOf what) sp st rows m N D high q ≤ 130000000000000000 := mxf_in (hFin q hq)
    unfold refG sgn
    split <;> omega
  have hlen : ∀ h', lenE Try.prog 22 a h' = some (ii (rows.length : Int)) := fun h' => x.sl.len un_22
  have hwt : ∀ (i n : Nat), i < n → n ≤ 1000 → ∀ l w, w ≤ h.clock + l.length → (om Try.prog KK).call (.fn 51 [ii (i : Int), ii (n : Int)]) (X h l w) = .ok (ii (wt n i)) (X h l w) := fun i n hi hn l w hw => weightR i n hi hn _ (wf.X hw)
  refine WV_to (WV_call (fn := Try.f32) Try.func32 rfl rfl rfl rfl rfl ?_)
  simp only [argF]
  (repeat' (first
  | (with_reducible refine WC_seq ?_) | (refine WC_region ?_) | (with_reducible refine WC_skip ?_) | (with_reducible refine WC_label ?_) | (with_reducible refine WC_scope ?_) | (with_reducible refine WC_block ?_) | (with_reducible refine WC_ret ?_) | (with_reducible refine WC_exit ?_)
  | (with_reducible refine seqQ_norm ?_) | (with_reducible refine seqQ_ret ?_) | (with_reducible refine seqQ_exit ?_) | (with_reducible refine blkQ_norm ?_) | (with_reducible refine blkQ_ret ?_) | (with_reducible refine blkQ_here ?_) | (refine blkQ_out rfl ?_)
  | (refine WO_nil ?_)
  | (refine WD_nil ?_)
  | (refine WD_gate rfl rfl rfl rfl rfl fun K_ hK_ => ?_; simp only [upd_apply, asB_bool, asB_tup, ↓reduceIte, reduceCtorEq, Nat.reduceEqDiff, Bool.not_true, Bool.not_false]; refine hK_ _ ?_; clear hK_ K_)
  | (refine WO_gate rfl rfl rfl rfl rfl fun K_ hK_ => ?_; simp only [upd_apply, asB_bool, asB_tup, ↓reduceIte, reduceCtorEq, Nat.reduceEqDiff, Bool.not_true, Bool.not_false]; refine hK_ _ ?_; clear hK_ K_)
  | (with_reducible refine gateK_yes ?_) | (refine gateK_no (by decide) ?_) | (with_reducible refine gateK_none ?_)
  | ((try first | refine WO_op rfl rfl rfl ?_ | refine WO_op0 rfl rfl ?_ | refine WD_op rfl rfl rfl ?_ | refine WD_op0 rfl rfl ?_); (refine WV_gen fun Q_ hQ_ => ?_; simp (disch := first | omega | (simp only [List.length_cons, List.length_nil, List.length_append]; omega)) only [bb, argF, ↓reduceIte, reduceCtorEq, Nat.reduceEqDiff, Nat.reduceLT, Nat.reduceLeDiff, Nat.reduceAdd, Nat.reduceMul, Nat.reduceSub, Nat.reduceBEq, Int.reduceToNat, List.append_assoc, List.length_append, cond_true, cond_false, List.length_cons, List.length_nil, List.cons_append, List.nil_append, List.append_nil, List.getElem?_cons_zero, List.getElem?_cons_succ, List.set_cons_zero, List.set_cons_succ, List.drop_zero, List.drop_succ_cons, List.take_zero, List.take_succ_cons, List.take_nil, List.drop_nil, eq_self, List.toList_toArray, beq_self_eq_true, newPtr_X wf, load1_X wf, loadAgg_X wf, store1_X wf, writeCells_X wf, makeFunc_def, ia_2, sz_2, ze_2, ia_3, sz_3, ia_4, sz_4, ia_24, sz_24, ia_22, sz_22, ia_52, sz_52, ia_55, sz_55, ia_26, sz_26, ze_26, fo_24_0, fo_24_1, fo_24_2, fo_26_0, fo_26_1, fo_55_0, fo_55_1, ik_22, ik_52, pb_12, pb_20, pb_24, pb_31, pb_32, pb_51]; first | (refine dec_split (Q := Q_) (fun hp_ => ?_) (fun hp_ => ?_) <;> first | (exfalso; omega) | (refine hQ_ _ _ ?_; clear hQ_ Q_)) | (refine dec_splitn (Q := Q_) (fun hp_ => ?_) (fun hp_ => ?_) <;> first | (exfalso; omega) | (refine hQ_ _ _ ?_; clear hQ_ Q_)) | (refine hQ_ _ _ ?_; clear hQ_ Q_)))
  | (refine WC_cond fun K_ hK_ => ?_; simp (disch := omega) only [evT_tmp, upd_apply, WB_some, ↓reduceIte, reduceCtorEq, Nat.reduceEqDiff, Nat.reduceLT]; refine hK_ _ ?_; clear hK_ K_)
  | (with_reducible refine condK_tt ?_) | (with_reducible refine condK_ff ?_) | (with_reducible refine roundQ_exit ?_) | (with_reducible refine roundQ_ret ?_)))
  refine WC_loop (fun (i : Nat) f d h' => i ≤ rows.length ∧ f 1 = ii what ∧ f 3 = .bool high ∧ f 4 = .ptr (nx h 0) 0 ∧ f 6 = .ptr (nx h 1) 0 ∧ f 9 = ii (psum (refG (gOf what) sp st rows m N D high) (i * m)) ∧ f 10 = ii (i : Int) ∧ d = [] ∧ h' = X h [.cells (mkCells [ii sp, ii st, a]) 24, .cells (mkCells [ii N, ii D]) 26] h.clock)
    (fun i => rows.length - i) ?_ (rows.length + 1) 0 (by omega) ?_
  · rintro i f d h' ⟨hi', g1, g3, g4, g6, g9, g10, rfl, rfl⟩
    by_cases hlt : i < rows.length
    · obtain ⟨v, hv, hsv, hrl⟩ := x.row i hlt
      obtain ⟨id, off, hix, hld⟩ := x.sl.at1 wf hlt ik_22
      rw [hv] at hld
      have hlenv : ∀ h', lenE Try.prog 52 v h' = some (ii (m : Int)) := fun h' => hsv.len un_52
      (repeat' (first
  | (with_reducible refine WC_seq ?_) | (refine WC_region ?_) | (with_reducible refine WC_skip ?_) | (with_reducible refine WC_label ?_) | (with_reducible refine WC_scope ?_) | (with_reducible refine WC_block ?_) | (with_reducible refine WC_ret ?_) | (with_reducible refine WC_exit ?_)
  | (with_reducible refine seqQ_norm ?_) | (with_reducible refine seqQ_ret ?_) | (with_reducible refine seqQ_exit ?_) | (with_reducible refine blkQ_norm ?_) | (with_reducible refine blkQ_ret ?_) | (with_reducible refine blkQ_here ?_) | (refine blkQ_out rfl ?_)
  | (refine WO_nil ?_)
  | (refine WD_nil ?_)
  | (refine WD_gate rfl rfl rfl rfl rfl fun K_ hK_ => ?_; simp only [upd_apply, asB_bool, asB_tup, ↓reduceIte, reduceCtorEq, Nat.reduceEqDiff, Bool.not_true, Bool.not_false]; refine hK_ _ ?_; clear hK_ K_)
  | (refine WO_gate rfl rfl rfl rfl rfl fun K_ hK_ => ?_; simp only [upd_apply, asB_bool, asB_tup, ↓reduceIte, reduceCtorEq, Nat.reduceEqDiff, Bool.not_true, Bool.not_false]; refine hK_ _ ?_; clear hK_ K_)
  | (with_reducible refine gateK_yes ?_) | (refine gateK_no (by decide) ?_) | (with_reducible refine gateK_none ?_)
  | ((try first | refine WO_op rfl rfl rfl ?_ | refine WO_op0 rfl rfl ?_ | refine WD_op rfl rfl rfl ?_ | refine WD_op0 rfl rfl ?_); (refine WV_gen fun Q_ hQ_ => ?_; simp (disch := first | omega | (simp only [List.length_cons, List.length_nil, List.length_append]; omega)) only [bb, argF, ↓reduceIte, reduceCtorEq, Nat.reduceEqDiff, Nat.reduceLT, Nat.reduceLeDiff, Nat.reduceAdd, Nat.reduceMul, Nat.reduceSub, Nat.reduceBEq, Int.reduceToNat, List.append_assoc, List.length_append, cond_true, cond_false, List.length_cons, List.length_nil, List.cons_append, List.nil_append, List.append_nil, List.getElem?_cons_zero, List.getElem?_cons_succ, List.set_cons_zero, List.set_cons_succ, List.drop_zero, List.drop_succ_cons, List.take_zero, List.take_succ_cons, List.take_nil, List.drop_nil, eq_self, List.toList_toArray, beq_self_eq_true, g1, g3, g4, g6, g9, g10, hlen, hix, hld, hlenv, newPtr_X wf, load1_X wf, loadAgg_X wf, store1_X wf, writeCells_X wf, makeFunc_def, ia_2, sz_2, ze_2, ia_3, sz_3, ia_4, sz_4, ia_24, sz_24, ia_22, sz_22, ia_52, sz_52, ia_55, sz_55, ia_26, sz_26, ze_26, fo_24_0, fo_24_1, fo_24_2, fo_26_0, fo_26_1, fo_55_0, fo_55_1, ik_22, ik_52, pb_12, pb_20, pb_24, pb_31, pb_32, pb_51]; first | (refine dec_split (Q := Q_) (fun hp_ => ?_) (fun hp_ => ?_) <;> first | (exfalso; omega) | (refine hQ_ _ _ ?_; clear hQ_ Q_)) | (refine dec_splitn (Q := Q_) (fun hp_ => ?_) (fun hp_ => ?_) <;> first | (exfalso; omega) | (refine hQ_ _ _ ?_; clear hQ_ Q_)) | (refine hQ_ _ _ ?_; clear hQ_ Q_)))
  | (refine WC_cond fun K_ hK_ => ?_; simp (disch := omega) only [evT_tmp, upd_apply, WB_some, ↓reduceIte, reduceCtorEq, Nat.reduceEqDiff, Nat.reduceLT]; refine hK_ _ ?_; clear hK_ K_)
  | (with_reducible refine condK_tt ?_) | (with_reducible refine condK_ff ?_) | (with_reducible refine roundQ_exit ?_) | (with_reducible refine roundQ_ret ?_)))
      refine WC_loop (fun (k : Nat) f d h' => k ≤ m ∧ f 1 = ii what ∧ f 3 = .bool high ∧ f 4 = .ptr (nx h 0) 0 ∧ f 6 = .ptr (nx h 1) 0 ∧ f 9 = ii (psum (refG (gOf what) sp st rows m N D high) (i * m + k)) ∧ f 10 = ii (i : Int) ∧ f 11 = ii (m : Int) ∧ f 12 = ii (k : Int) ∧ d = [] ∧ h' = X h [.cells (mkCells [ii sp, ii st, a]) 24, .cells (mkCells [ii N, ii D]) 26] h.clock)
        (fun k => m - k) ?_ (m + 1) 0 (by omega) ?_
      · clear g1 g3 g4 g6 g9 g10
        rintro k f d h' ⟨hk, g1, g3, g4, g6, g9, g10, g11, g12, rfl, rfl⟩
        by_cases hkl : k < m
        · obtain ⟨id2, off2, hix2, hld2⟩ := hsv.at wf hkl ik_52
          have hkr : k < rows[i].length := by omega
          have hr0 := rAt_ik hlt hkl hrl
          have hrow0 : ∀ l w, load1 id2 off2 (X h l w) = some (ii (rAt rows m (i * m + k)).1) := fun l w => by
            have := (hld2 l w).1 0 (by decide)
            rw [Nat.add_zero] at this
            rw [this, pairCells_get hkr (by decide), hr0]; rfl
          have hrow1 : ∀ l w, load1 id2 (off2 + 1) (X h l w) = some (ii (rAt rows m (i * m + k)).2) := fun l w => by
            have := (hld2 l w).1 1 (by decide)
            rw [this, pairCells_get hkr (by decide), hr0]; rfl
          have hq := ik_lt (n := rows.length) hlt hkl
          have hF := hFin _ hq
          have ho := hof _ hq
          unfold isOff at ho
          have e1 : (i * m + k) / m = i := by rw [Nat.mul_comm, Nat.mul_add_div (by omega), Nat.div_eq_of_lt hkl]; omega
          have e2 : (i * m + k) % m = k := by rw [Nat.mul_comm, Nat.mul_add_mod]; exact Nat.mod_eq_of_lt hkl
          have e3 : W rows.length m (i * m + k) = wt rows.length i * wt m k := by unfold W; rw [e1, e2]
          have hs := psum_in2 (f := refG (gOf what) sp st rows m N D high) (b := 130000000000000000) (q := i * m + k) (fun i' hi' => hbG i' (by omega))
          have hg1 := hbG _ hq
          have hw1 := hwt i rows.length hlt (by omega)
          have hw2 := hwt k m hkl (by omega)
          have b0 := wt2 rows.length i m k
          have hwd : ((wide (rAt rows m (i * m + k)) : Nat) : Int) = (rAt rows m (i * m + k)).2 - (rAt rows m (i * m + k)).1 := by unfold wide; omega
          (repeat' (first
  | (with_reducible refine WC_seq ?_) | (refine WC_region ?_) | (with_reducible refine WC_skip ?_) | (with_reducible refine WC_label ?_) | (with_reducible refine WC_scope ?_) | (with_reducible refine WC_block ?_) | (with_reducible refine WC_ret ?_) | (with_reducible refine WC_exit ?_)
  | (with_reducible refine seqQ_norm ?_) | (with_reducible refine seqQ_ret ?_) | (with_reducible refine seqQ_exit ?_) | (with_reducible refine blkQ_norm ?_) | (with_reducible refine blkQ_ret ?_) | (with_reducible refine blkQ_here ?_) | (refine blkQ_out rfl ?_)
  | (refine WO_nil ?_)
  | (refine WD_nil ?_)
  | (refine WD_gate rfl rfl rfl rfl rfl fun K_ hK_ => ?_; simp only [upd_apply, asB_bool, asB_tup, ↓reduceIte, reduceCtorEq, Nat.reduceEqDiff, Bool.not_true, Bool.not_false]; refine hK_ _ ?_; clear hK_ K_)
  | (refine WO_gate rfl rfl rfl rfl rfl fun K_ hK_ => ?_; simp only [upd_apply, asB_bool, asB_tup, ↓reduceIte, reduceCtorEq, Nat.reduceEqDiff, Bool.not_true, Bool.not_false]; refine hK_ _ ?_; clear hK_ K_)
  | (with_reducible refine gateK_yes ?_) | (refine gateK_no (by decide) ?_) | (with_reducible refine gateK_none ?_)
  | ((try first | refine WO_op rfl rfl rfl ?_ | refine WO_op0 rfl rfl ?_ | refine WD_op rfl rfl rfl ?_ | refine WD_op0 rfl rfl ?_); (refine WV_gen fun Q_ hQ_ => ?_; simp (disch := first | omega | (simp only [List.length_cons, List.length_nil, List.length_append]; omega)) only [bb, argF, ↓reduceIte, reduceCtorEq, Nat.reduceEqDiff, Nat.reduceLT, Nat.reduceLeDiff, Nat.reduceAdd, Nat.reduceMul, Nat.reduceSub, Nat.reduceBEq, Int.reduceToNat, List.append_assoc, List.length_append, cond_true, cond_false, List.length_cons, List.length_nil, List.cons_append, List.nil_append, List.append_nil, List.getElem?_cons_zero, List.getElem?_cons_succ, List.set_cons_zero, List.set_cons_succ, List.drop_zero, List.drop_succ_cons, List.take_zero, List.take_succ_cons, List.take_nil, List.drop_nil, eq_self, List.toList_toArray, beq_self_eq_true, g1, g3, g4, g6, g9, g10, g11, g12, hlen, hix, hld, hlenv, hix2, hrow0, hrow1, hw1, hw2, newPtr_X wf, load1_X wf, loadAgg_X wf, store1_X wf, writeCells_X wf, makeFunc_def, ia_2, sz_2, ze_2, ia_3, sz_3, ia_4, sz_4, ia_24, sz_24, ia_22, sz_22, ia_52, sz_52, ia_55, sz_55, ia_26, sz_26, ze_26, fo_24_0, fo_24_1, fo_24_2, fo_26_0, fo_26_1, fo_55_0, fo_55_1, ik_22, ik_52, pb_12, pb_20, pb_24, pb_31, pb_32, pb_51]; first | (refine dec_split (Q := Q_) (fun hp_ => ?_) (fun hp_ => ?_) <;> first | (exfalso; omega) | (refine hQ_ _ _ ?_; clear hQ_ Q_)) | (refine dec_splitn (Q := Q_) (fun hp_ => ?_) (fun hp_ => ?_) <;> first | (exfalso; omega) | (refine hQ_ _ _ ?_; clear hQ_ Q_)) | (refine hQ_ _ _ ?_; clear hQ_ Q_)))
  | (refine WC_cond fun K_ hK_ => ?_; simp (disch := omega) only [evT_tmp, upd_apply, WB_some, ↓reduceIte, reduceCtorEq, Nat.reduceEqDiff, Nat.reduceLT]; refine hK_ _ ?_; clear hK_ K_)
  | (with_reducible refine condK_tt ?_) | (with_reducible refine condK_ff ?_) | (with_reducible refine roundQ_exit ?_) | (with_reducible refine roundQ_ret ?_)))
          generalize hrr : rAt rows m (i * m + k) = r at *
          generalize hnw : wide r = nw at *
          refine WC_loop (fun (j : Nat) f d h' => j ≤ nw + 1 ∧ f 1 = ii what ∧ f 3 = .bool high ∧ f 4 = .ptr (nx h 0) 0 ∧ f 6 = .ptr (nx h 1) 0 ∧ f 9 = ii (psum (refG (gOf what) sp st rows m N D high) (i * m + k)) ∧ f 10 = ii (i : Int) ∧ f 11 = ii (m : Int) ∧ f 12 = ii (k : Int) ∧ f 13 = ii (wt rows.length i * wt m k) ∧
              f 14 = ii (if j = 0 then 0 else sgn high (mxf (fAt (gOf what) sp st rows.length m N D high (i * m + k)) r.1 (j - 1))) ∧ f 15 = ii (r.1 + (j : Int)) ∧ d = [] ∧ h' = X h [.cells (mkCells [ii sp, ii st, a]) 24, .cells (mkCells [ii N, ii D]) 26] h.clock)
            (fun j => nw + 1 - j) ?_ (nw + 2) 0 (by omega) ?_
          · clear g1 g3 g4 g6 g9 g10 g11 g12
            rintro j f d h' ⟨hj, g1, g3, g4, g6, g9, g10, g11, g12, g13, g14, g15, rfl, rfl⟩
            by_cases hjl : j < nw + 1
            · have hy : 0 ≤ r.1 + (j : Int) ∧ r.1 + (j : Int) ≤ 500 := ⟨by omega, by omega⟩
              generalize hbst : (if j = 0 then (0 : Int) else sgn high (mxf (fAt (gOf what) sp st rows.length m N D high (i * m + k)) r.1 (j - 1))) = bst at *
              have hFy : fAt (gOf what) sp st rows.length m N D high (i * m + k) (r.1 + (j : Int)) = sgn high (gapOf (gOf what) sp st m i k (wt rows.length i * wt m k) N D (r.1 + (j : Int))) := by unfold fAt; rw [e1, e2, e3]
              have hX := gap_in hg hsp hst hm.2 (i := i) (k := k) (by omega) hkl b0 hy hN hD
              have hy0 : (r.1 + (j : Int) = r.1) ↔ j = 0 := by omega
              have hylt : r.1 + (j : Int) ≤ r.2 := by omega
              generalize hyy : r.1 + (j : Int) = y at *
              generalize hWW : wt rows.length i * wt m k = w at *
              have bi := wt_in rows.length i
              have a1 := mul_bd (a := sp) (b := (i : Int)) (x := 1000) (y := 9) ⟨by omega, by omega⟩ ⟨by omega, by omega⟩
              have a2 := mul_bd a1 b0
              have a3 := mul_bd a2 hy
              have c1 := mul_bd b0 hy
              have s1 := mul_bd (a := st) (b := (k : Int)) (x := 100) (y := 5) ⟨by omega, by omega⟩ ⟨by omega, by omega⟩
              have s2 := mul_bd s1 b0
              have s3 := mul_bd s2 hy
              have t1 := mul_bd (a := 3 * st) (b := st) (x := 300) (y := 100) ⟨by omega, by omega⟩ ⟨by omega, by omega⟩
              have t2 := mul_bd t1 (b := (k : Int)) (y := 5) ⟨by omega, by omega⟩
              have t3 := mul_bd t2 b0
              have t4 := mul_bd t3 hy
              have u1 := mul_bd (a := 3 * st) (x := 300) ⟨by omega, by omega⟩ b0
              have u2 := mul_bd u1 hy
              have v2 := mul_bd (a := 2 * wt rows.length i) (x := 4) ⟨by omega, by omega⟩ hy
              have v3 := mul_bd v2 hy
              have v4 := mul_bd v3 hy
              have d0 := mul_bd (a := D) (x := 100000000) ⟨by omega, by omega⟩ a3
              have d1 := mul_bd (a := D) (x := 100000000) ⟨by omega, by omega⟩ s3
              have d2 := mul_bd (a := D) (x := 100000000) ⟨by omega, by omega⟩ t4
              have d3 := mul_bd (a := D) (x := 100000000) (b := 3 * st * st * (k : Int) * w * y + 2 * wt rows.length i * y * y * y) (y := 1000000000) ⟨by omega, by omega⟩ ⟨by omega, by omega⟩
              have m0' := mul_bd hN c1
              have m2' := mul_bd hN u2
              rcases (by omega : what = 0 ∨ what = 1 ∨ what = 2) with rfl | rfl | rfl
              · have hx0 : D * (sp * (i : Int) * w * y) - N * (w * y) = gapOf (gOf 0) sp st m i k w N D y := by
                  simp only [gapOf, gOf, numOf, denOf, ↓reduceIte, Nat.reduceEqDiff]; grind
                cases high
                · (repeat' (first
  | (with_reducible refine WC_seq ?_) | (refine WC_region ?_) | (with_reducible refine WC_skip ?_) | (with_reducible refine WC_label ?_) | (with_reducible refine WC_scope ?_) | (with_reducible refine WC_block ?_) | (with_reducible refine WC_ret ?_) | (with_reducible refine WC_exit ?_)
  | (with_reducible refine seqQ_norm ?_) | (with_reducible refine seqQ_ret ?_) | (with_reducible refine seqQ_exit ?_) | (with_reducible refine blkQ_norm ?_) | (with_reducible refine blkQ_ret ?_) | (with_reducible refine blkQ_here ?_) | (refine blkQ_out rfl ?_)
  | (refine WO_nil ?_)
  | (refine WD_nil ?_)
  | (refine WD_gate rfl rfl rfl rfl rfl fun K_ hK_ => ?_; simp only [upd_apply, asB_bool, asB_tup, ↓reduceIte, reduceCtorEq, Nat.reduceEqDiff, Bool.not_true, Bool.not_false]; refine hK_ _ ?_; clear hK_ K_)
  | (refine WO_gate rfl rfl rfl rfl rfl fun K_ hK_ => ?_; simp only [upd_apply, asB_bool, asB_tup, ↓reduceIte, reduceCtorEq, Nat.reduceEqDiff, Bool.not_true, Bool.not_false]; refine hK_ _ ?_; clear hK_ K_)
  | (with_reducible refine gateK_yes ?_) | (refine gateK_no (by decide) ?_) | (with_reducible refine gateK_none ?_)
  | ((try first | refine WO_op rfl rfl rfl ?_ | refine WO_op0 rfl rfl ?_ | refine WD_op rfl rfl rfl ?_ | refine WD_op0 rfl rfl ?_); (refine WV_gen fun Q_ hQ_ => ?_; simp (disch := first | omega | (simp only [List.length_cons, List.length_nil, List.length_append]; omega)) only [bb, argF, ↓reduceIte, reduceCtorEq, Nat.reduceEqDiff, Nat.reduceLT, Nat.reduceLeDiff, Nat.reduceAdd, Nat.reduceMul, Nat.reduceSub, Nat.reduceBEq, Int.reduceToNat, List.append_assoc, List.length_append, cond_true, cond_false, List.length_cons, List.length_nil, List.cons_append, List.nil_append, List.append_nil, List.getElem?_cons_zero, List.getElem?_cons_succ, List.set_cons_zero, List.set_cons_succ, List.drop_zero, List.drop_succ_cons, List.take_zero, List.take_succ_cons, List.take_nil, List.drop_nil, eq_self, List.toList_toArray, beq_self_eq_true, g1, g3, g4, g6, g9, g10, g11, g12, g13, g14, g15, hx0, hy0, hlen, hix, hld, hlenv, hix2, hrow0, hrow1, newPtr_X wf, load1_X wf, loadAgg_X wf, store1_X wf, writeCells_X wf, makeFunc_def, ia_2, sz_2, ze_2, ia_3, sz_3, ia_4, sz_4, ia_24, sz_24, ia_22, sz_22, ia_52, sz_52, ia_55, sz_55, ia_26, sz_26, ze_26, fo_24_0, fo_24_1, fo_24_2, fo_26_0, fo_26_1, fo_55_0, fo_55_1, ik_22, ik_52, pb_12, pb_20, pb_24, pb_31, pb_32, pb_51]; first | (refine dec_split (Q := Q_) (fun hp_ => ?_) (fun hp_ => ?_) <;> first | (exfalso; omega) | (refine hQ_ _ _ ?_; clear hQ_ Q_)) | (refine dec_splitn (Q := Q_) (fun hp_ => ?_) (fun hp_ => ?_) <;> first | (exfalso; omega) | (refine hQ_ _ _ ?_; clear hQ_ Q_)) | (refine hQ_ _ _ ?_; clear hQ_ Q_)))
  | (refine WC_cond fun K_ hK_ => ?_; simp (disch := omega) only [evT_tmp, upd_apply, WB_some, ↓reduceIte, reduceCtorEq, Nat.reduceEqDiff, Nat.reduceLT]; refine hK_ _ ?_; clear hK_ K_)
  | (with_reducible refine condK_tt ?_) | (with_reducible refine condK_ff ?_) | (with_reducible refine roundQ_exit ?_) | (with_reducible refine roundQ_ret ?_)))
                  all_goals
                    first
                      | (refine roundQ_again (j + 1) (by omega) ⟨by omega, by simp only [upd_apply, ↓reduceIte, reduceCtorEq, Nat.reduceEqDiff]; exact g1, by simp only [upd_apply, ↓reduceIte, reduceCtorEq, Nat.reduceEqDiff]; exact g3, by simp only [upd_apply, ↓reduceIte, reduceCtorEq, Nat.reduceEqDiff]; exact g4, by simp only [upd_apply, ↓reduceIte, reduceCtorEq, Nat.reduceEqDiff]; exact g6, by simp only [upd_apply, ↓reduceIte, reduceCtorEq, Nat.reduceEqDiff]; exact g9, by simp only [upd_apply, ↓reduceIte, reduceCtorEq, Nat.reduceEqDiff]; exact g10, by simp only [upd_apply, ↓reduceIte, reduceCtorEq, Nat.reduceEqDiff]; exact g11, by simp only [upd_apply, ↓reduceIte, reduceCtorEq, Nat.reduceEqDiff]; exact g12, by simp only [upd_apply, ↓reduceIte, reduceCtorEq, Nat.reduceEqDiff]; exact g13, by simp only [upd_apply, ↓reduceIte, reduceCtorEq, Nat.reduceEqDiff]; exact congrArg ii (mx_taken (by rw [hyy]; exact hFy) hbst (by first | exact .inl (by omega) | exact .inr (.inl ⟨rfl, by omega⟩) | exact .inr (.inr ⟨rfl, by omega⟩))), by simp only [upd_apply, ↓reduceIte, reduceCtorEq, Nat.reduceEqDiff]; exact congrArg ii (by omega), rfl, rfl⟩)
                      | (refine roundQ_again (j + 1) (by omega) ⟨by omega, by simp only [upd_apply, ↓reduceIte, reduceCtorEq, Nat.reduceEqDiff]; exact g1, by simp only [upd_apply, ↓reduceIte, reduceCtorEq, Nat.reduceEqDiff]; exact g3, by simp only [upd_apply, ↓reduceIte, reduceCtorEq, Nat.reduceEqDiff]; exact g4, by simp only [upd_apply, ↓reduceIte, reduceCtorEq, Nat.reduceEqDiff]; exact g6, by simp only [upd_apply, ↓reduceIte, reduceCtorEq, Nat.reduceEqDiff]; exact g9, by simp only [upd_apply, ↓reduceIte, reduceCtorEq, Nat.reduceEqDiff]; exact g10, by simp only [upd_apply, ↓reduceIte, reduceCtorEq, Nat.reduceEqDiff]; exact g11, by simp only [upd_apply, ↓reduceIte, reduceCtorEq, Nat.reduceEqDiff]; exact g12, by simp only [upd_apply, ↓reduceIte, reduceCtorEq, Nat.reduceEqDiff]; exact g13, by simp only [upd_apply, ↓reduceIte, reduceCtorEq, Nat.reduceEqDiff]; rw [g14]; exact congrArg ii (mx_left (by rw [hyy]; exact hFy) hbst (by omega) (by first | (intro _; omega) | (intro hh; cases hh)) (by first | (intro _; omega) | (intro hh; cases hh))), by simp only [upd_apply, ↓reduceIte, reduceCtorEq, Nat.reduceEqDiff]; exact congrArg ii (by omega), rfl, rfl⟩)
                · (repeat' (first
  | (with_reducible refine WC_seq ?_) | (refine WC_region ?_) | (with_reducible refine WC_skip ?_) | (with_reducible refine WC_label ?_) | (with_reducible refine WC_scope ?_) | (with_reducible refine WC_block ?_) | (with_reducible refine WC_ret ?_) | (with_reducible refine WC_exit ?_)
  | (with_reducible refine seqQ_norm ?_) | (with_reducible refine seqQ_ret ?_) | (with_reducible refine seqQ_exit ?_) | (with_reducible refine blkQ_norm ?_) | (with_reducible refine blkQ_ret ?_) | (with_reducible refine blkQ_here ?_) | (refine blkQ_out rfl ?_)
  | (refine WO_nil ?_)
  | (refine WD_nil ?_)
  | (refine WD_gate rfl rfl rfl rfl rfl fun K_ hK_ => ?_; simp only [upd_apply, asB_bool, asB_tup, ↓reduceIte, reduceCtorEq, Nat.reduceEqDiff, Bool.not_true, Bool.not_false]; refine hK_ _ ?_; clear hK_ K_)
  | (refine WO_gate rfl rfl rfl rfl rfl fun K_ hK_ => ?_; simp only [upd_apply, asB_bool, asB_tup, ↓reduceIte, reduceCtorEq, Nat.reduceEqDiff, Bool.not_true, Bool.not_false]; refine hK_ _ ?_; clear hK_ K_)
  | (with_reducible refine gateK_yes ?_) | (refine gateK_no (by decide) ?_) | (with_reducible refine gateK_none ?_)
  | ((try first | refine WO_op rfl rfl rfl ?_ | refine WO_op0 rfl rfl ?_ | refine WD_op rfl rfl rfl ?_ | refine WD_op0 rfl rfl ?_); (refine WV_gen fun Q_ hQ_ => ?_; simp (disch := first | omega | (simp only [List.length_cons, List.length_nil, List.length_append]; omega)) only [bb, argF, ↓reduceIte, reduceCtorEq, Nat.reduceEqDiff, Nat.reduceLT, Nat.reduceLeDiff, Nat.reduceAdd, Nat.reduceMul, Nat.reduceSub, Nat.reduceBEq, Int.reduceToNat, List.append_assoc, List.length_append, cond_true, cond_false, List.length_cons, List.length_nil, List.cons_append, List.nil_append, List.append_nil, List.getElem?_cons_zero, List.getElem?_cons_succ, List.set_cons_zero, List.set_cons_succ, List.drop_zero, List.drop_succ_cons, List.take_zero, List.take_succ_cons, List.take_nil, List.drop_nil, eq_self, List.toList_toArray, beq_self_eq_true, g1, g3, g4, g6, g9, g10, g11, g12, g13, g14, g15, hx0, hy0, hlen, hix, hld, hlenv, hix2, hrow0, hrow1, newPtr_X wf, load1_X wf, loadAgg_X wf, store1_X wf, writeCells_X wf, makeFunc_def, ia_2, sz_2, ze_2, ia_3, sz_3, ia_4, sz_4, ia_24, sz_24, ia_22, sz_22, ia_52, sz_52, ia_55, sz_55, ia_26, sz_26, ze_26, fo_24_0, fo_24_1, fo_24_2, fo_26_0, fo_26_1, fo_55_0, fo_55_1, ik_22, ik_52, pb_12, pb_20, pb_24, pb_31, pb_32, pb_51]; first | (refine dec_split (Q := Q_) (fun hp_ => ?_) (fun hp_ => ?_) <;> first | (exfalso; omega) | (refine hQ_ _ _ ?_; clear hQ_ Q_)) | (refine dec_splitn (Q := Q_) (fun hp_ => ?_) (fun hp_ => ?_) <;> first | (exfalso; omega) | (refine hQ_ _ _ ?_; clear hQ_ Q_)) | (refine hQ_ _ _ ?_; clear hQ_ Q_)))
  | (refine WC_cond fun K_ hK_ => ?_; simp (disch := omega) only [evT_tmp, upd_apply, WB_some, ↓reduceIte, reduceCtorEq, Nat.reduceEqDiff, Nat.reduceLT]; refine hK_ _ ?_; clear hK_ K_)
  | (with_reducible refine condK_tt ?_) | (with_reducible refine condK_ff ?_) | (with_reducible refine roundQ_exit ?_) | (with_reducible refine roundQ_ret ?_)))
                  all_goals
                    first
                      | (refine roundQ_again (j + 1) (by omega) ⟨by omega, by simp only [upd_apply, ↓reduceIte, reduceCtorEq, Nat.reduceEqDiff]; exact g1, by simp only [upd_apply, ↓reduceIte, reduceCtorEq, Nat.reduceEqDiff]; exact g3, by simp only [upd_apply, ↓reduceIte, reduceCtorEq, Nat.reduceEqDiff]; exact g4, by simp only [upd_apply, ↓reduceIte, reduceCtorEq, Nat.reduceEqDiff]; exact g6, by simp only [upd_apply, ↓reduceIte, reduceCtorEq, Nat.reduceEqDiff]; exact g9, by simp only [upd_apply, ↓reduceIte, reduceCtorEq, Nat.reduceEqDiff]; exact g10, by simp only [upd_apply, ↓reduceIte, reduceCtorEq, Nat.reduceEqDiff]; exact g11, by simp only [upd_apply, ↓reduceIte, reduceCtorEq, Nat.reduceEqDiff]; exact g12, by simp only [upd_apply, ↓reduceIte, reduceCtorEq, Nat.reduceEqDiff]; exact g13, by simp only [upd_apply, ↓reduceIte, reduceCtorEq, Nat.reduceEqDiff]; exact congrArg ii (mx_taken (by rw [hyy]; exact hFy) hbst (by first | exact .inl (by omega) | exact .inr (.inl ⟨rfl, by omega⟩) | exact .inr (.inr ⟨rfl, by omega⟩))), by simp only [upd_apply, ↓reduceIte, reduceCtorEq, Nat.reduceEqDiff]; exact congrArg ii (by omega), rfl, rfl⟩)
                      | (refine roundQ_again (j + 1) (by omega) ⟨by omega, by simp only [upd_apply, ↓reduceIte, reduceCtorEq, Nat.reduceEqDiff]; exact g1, by simp only [upd_apply, ↓reduceIte, reduceCtorEq, Nat.reduceEqDiff]; exact g3, by simp only [upd_apply, ↓reduceIte, reduceCtorEq, Nat.reduceEqDiff]; exact g4, by simp only [upd_apply, ↓reduceIte, reduceCtorEq, Nat.reduceEqDiff]; exact g6, by simp only [upd_apply, ↓reduceIte, reduceCtorEq, Nat.reduceEqDiff]; exact g9, by simp only [upd_apply, ↓reduceIte, reduceCtorEq, Nat.reduceEqDiff]; exact g10, by simp only [upd_apply, ↓reduceIte, reduceCtorEq, Nat.reduceEqDiff]; exact g11, by simp only [upd_apply, ↓reduceIte, reduceCtorEq, Nat.reduceEqDiff]; exact g12, by simp only [upd_apply, ↓reduceIte, reduceCtorEq, Nat.reduceEqDiff]; exact g13, by simp only [upd_apply, ↓reduceIte, reduceCtorEq, Nat.reduceEqDiff]; rw [g14]; exact congrArg ii (mx_left (by rw [hyy]; exact hFy) hbst (by omega) (by first | (intro _; omega) | (intro hh; cases hh)) (by first | (intro _; omega) | (intro hh; cases hh))), by simp only [upd_apply, ↓reduceIte, reduceCtorEq, Nat.reduceEqDiff]; exact congrArg ii (by omega), rfl, rfl⟩)
              · have hx0 : D * (st * (k : Int) * w * y) - N * (w * y) = gapOf (gOf 1) sp st m i k w N D y := by
                  simp only [gapOf, gOf, numOf, denOf, ↓reduceIte, Nat.reduceEqDiff, reduceCtorEq, Int.reduceEq]; grind
                cases high
                · (repeat' (first
  | (with_reducible refine WC_seq ?_) | (refine WC_region ?_) | (with_reducible refine WC_skip ?_) | (with_reducible refine WC_label ?_) | (with_reducible refine WC_scope ?_) | (with_reducible refine WC_block ?_) | (with_reducible refine WC_ret ?_) | (with_reducible refine WC_exit ?_)
  | (with_reducible refine seqQ_norm ?_) | (with_reducible refine seqQ_ret ?_) | (with_reducible refine seqQ_exit ?_) | (with_reducible refine blkQ_norm ?_) | (with_reducible refine blkQ_ret ?_) | (with_reducible refine blkQ_here ?_) | (refine blkQ_out rfl ?_)
  | (refine WO_nil ?_)
  | (refine WD_nil ?_)
  | (refine WD_gate rfl rfl rfl rfl rfl fun K_ hK_ => ?_; simp only [upd_apply, asB_bool, asB_tup, ↓reduceIte, reduceCtorEq, Nat.reduceEqDiff, Bool.not_true, Bool.not_false]; refine hK_ _ ?_; clear hK_ K_)
  | (refine WO_gate rfl rfl rfl rfl rfl fun K_ hK_ => ?_; simp only [upd_apply, asB_bool, asB_tup, ↓reduceIte, reduceCtorEq, Nat.reduceEqDiff, Bool.not_true, Bool.not_false]; refine hK_ _ ?_; clear hK_ K_)
  | (with_reducible refine gateK_yes ?_) | (refine gateK_no (by decide) ?_) | (with_reducible refine gateK_none ?_)
  | ((try first | refine WO_op rfl rfl rfl ?_ | refine WO_op0 rfl rfl ?_ | refine WD_op rfl rfl rfl ?_ | refine WD_op0 rfl rfl ?_); (refine WV_gen fun Q_ hQ_ => ?_; simp (disch := first | omega | (simp only [List.length_cons, List.length_nil, List.length_append]; omega)) only [bb, argF, ↓reduceIte, reduceCtorEq, Nat.reduceEqDiff, Nat.reduceLT, Nat.reduceLeDiff, Nat.reduceAdd, Nat.reduceMul, Nat.reduceSub, Nat.reduceBEq, Int.reduceToNat, List.append_assoc, List.length_append, cond_true, cond_false, List.length_cons, List.length_nil, List.cons_append, List.nil_append, List.append_nil, List.getElem?_cons_zero, List.getElem?_cons_succ, List.set_cons_zero, List.set_cons_succ, List.drop_zero, List.drop_succ_cons, List.take_zero, List.take_succ_cons, List.take_nil, List.drop_nil, eq_self, List.toList_toArray, beq_self_eq_true, g1, g3, g4, g6, g9, g10, g11, g12, g13, g14, g15, hx0, hy0, hlen, hix, hld, hlenv, hix2, hrow0, hrow1, newPtr_X wf, load1_X wf, loadAgg_X wf, store1_X wf, writeCells_X wf, makeFunc_def, ia_2, sz_2, ze_2, ia_3, sz_3, ia_4, sz_4, ia_24, sz_24, ia_22, sz_22, ia_52, sz_52, ia_55, sz_55, ia_26, sz_26, ze_26, fo_24_0, fo_24_1, fo_24_2, fo_26_0, fo_26_1, fo_55_0, fo_55_1, ik_22, ik_52, pb_12, pb_20, pb_24, pb_31, pb_32, pb_51]; first | (refine dec_split (Q := Q_) (fun hp_ => ?_) (fun hp_ => ?_) <;> first | (exfalso; omega) | (refine hQ_ _ _ ?_; clear hQ_ Q_)) | (refine dec_splitn (Q := Q_) (fun hp_ => ?_) (fun hp_ => ?_) <;> first | (exfalso; omega) | (refine hQ_ _ _ ?_; clear hQ_ Q_)) | (refine hQ_ _ _ ?_; clear hQ_ Q_)))
  | (refine WC_cond fun K_ hK_ => ?_; simp (disch := omega) only [evT_tmp, upd_apply, WB_some, ↓reduceIte, reduceCtorEq, Nat.reduceEqDiff, Nat.reduceLT]; refine hK_ _ ?_; clear hK_ K_)
  | (with_reducible refine condK_tt ?_) | (with_reducible refine condK_ff ?_) | (with_reducible refine roundQ_exit ?_) | (with_reducible refine roundQ_ret ?_)))
                  all_goals
                    first
                      | (refine roundQ_again (j + 1) (by omega) ⟨by omega, by simp only [upd_apply, ↓reduceIte, reduceCtorEq, Nat.reduceEqDiff]; exact g1, by simp only [upd_apply, ↓reduceIte, reduceCtorEq, Nat.reduceEqDiff]; exact g3, by simp only [upd_apply, ↓reduceIte, reduceCtorEq, Nat.reduceEqDiff]; exact g4, by simp only [upd_apply, ↓reduceIte, reduceCtorEq, Nat.reduceEqDiff]; exact g6, by simp only [upd_apply, ↓reduceIte, reduceCtorEq, Nat.reduceEqDiff]; exact g9, by simp only [upd_apply, ↓reduceIte, reduceCtorEq, Nat.reduceEqDiff]; exact g10, by simp only [upd_apply, ↓reduceIte, reduceCtorEq, Nat.reduceEqDiff]; exact g11, by simp only [upd_apply, ↓reduceIte, reduceCtorEq, Nat.reduceEqDiff]; exact g12, by simp only [upd_apply, ↓reduceIte, reduceCtorEq, Nat.reduceEqDiff]; exact g13, by simp only [upd_apply, ↓reduceIte, reduceCtorEq, Nat.reduceEqDiff]; exact congrArg ii (mx_taken (by rw [hyy]; exact hFy) hbst (by first | exact .inl (by omega) | exact .inr (.inl ⟨rfl, by omega⟩) | exact .inr (.inr ⟨rfl, by omega⟩))), by simp only [upd_apply, ↓reduceIte, reduceCtorEq, Nat.reduceEqDiff]; exact congrArg ii (by omega), rfl, rfl⟩)
                      | (refine roundQ_again (j + 1) (by omega) ⟨by omega, by simp only [upd_apply, ↓reduceIte, reduceCtorEq, Nat.reduceEqDiff]; exact g1, by simp only [upd_apply, ↓reduceIte, reduceCtorEq, Nat.reduceEqDiff]; exact g3, by simp only [upd_apply, ↓reduceIte, reduceCtorEq, Nat.reduceEqDiff]; exact g4, by simp only [upd_apply, ↓reduceIte, reduceCtorEq, Nat.reduceEqDiff]; exact g6, by simp only [upd_apply, ↓reduceIte, reduceCtorEq, Nat.reduceEqDiff]; exact g9, by simp only [upd_apply, ↓reduceIte, reduceCtorEq, Nat.reduceEqDiff]; exact g10, by simp only [upd_apply, ↓reduceIte, reduceCtorEq, Nat.reduceEqDiff]; exact g11, by simp only [upd_apply, ↓reduceIte, reduceCtorEq, Nat.reduceEqDiff]; exact g12, by simp only [upd_apply, ↓reduceIte, reduceCtorEq, Nat.reduceEqDiff]; exact g13, by simp only [upd_apply, ↓reduceIte, reduceCtorEq, Nat.reduceEqDiff]; rw [g14]; exact congrArg ii (mx_left (by rw [hyy]; exact hFy) hbst (by omega) (by first | (intro _; omega) | (intro hh; cases hh)) (by first | (intro _; omega) | (intro hh; cases hh))), by simp only [upd_apply, ↓reduceIte, reduceCtorEq, Nat.reduceEqDiff]; exact congrArg ii (by omega), rfl, rfl⟩)
                · (repeat' (first
  | (with_reducible refine WC_seq ?_) | (refine WC_region ?_) | (with_reducible refine WC_skip ?_) | (with_reducible refine WC_label ?_) | (with_reducible refine WC_scope ?_) | (with_reducible refine WC_block ?_) | (with_reducible refine WC_ret ?_) | (with_reducible refine WC_exit ?_)
  | (with_reducible refine seqQ_norm ?_) | (with_reducible refine seqQ_ret ?_) | (with_reducible refine seqQ_exit ?_) | (with_reducible refine blkQ_norm ?_) | (with_reducible refine blkQ_ret ?_) | (with_reducible refine blkQ_here ?_) | (refine blkQ_out rfl ?_)
  | (refine WO_nil ?_)
  | (refine WD_nil ?_)
  | (refine WD_gate rfl rfl rfl rfl rfl fun K_ hK_ => ?_; simp only [upd_apply, asB_bool, asB_tup, ↓reduceIte, reduceCtorEq, Nat.reduceEqDiff, Bool.not_true, Bool.not_false]; refine hK_ _ ?_; clear hK_ K_)
  | (refine WO_gate rfl rfl rfl rfl rfl fun K_ hK_ => ?_; simp only [upd_apply, asB_bool, asB_tup, ↓reduceIte, reduceCtorEq, Nat.reduceEqDiff, Bool.not_true, Bool.not_false]; refine hK_ _ ?_; clear hK_ K_)
  | (with_reducible refine gateK_yes ?_) | (refine gateK_no (by decide) ?_) | (with_reducible refine gateK_none ?_)
  | ((try first | refine WO_op rfl rfl rfl ?_ | refine WO_op0 rfl rfl ?_ | refine WD_op rfl rfl rfl ?_ | refine WD_op0 rfl rfl ?_); (refine WV_gen fun Q_ hQ_ => ?_; simp (disch := first | omega | (simp only [List.length_cons, List.length_nil, List.length_append]; omega)) only [bb, argF, ↓reduceIte, reduceCtorEq, Nat.reduceEqDiff, Nat.reduceLT, Nat.reduceLeDiff, Nat.reduceAdd, Nat.reduceMul, Nat.reduceSub, Nat.reduceBEq, Int.reduceToNat, List.append_assoc, List.length_append, cond_true, cond_false, List.length_cons, List.length_nil, List.cons_append, List.nil_append, List.append_nil, List.getElem?_cons_zero, List.getElem?_cons_succ, List.set_cons_zero, List.set_cons_succ, List.drop_zero, List.drop_succ_cons, List.take_zero, List.take_succ_cons, List.take_nil, List.drop_nil, eq_self, List.toList_toArray, beq_self_eq_true, g1, g3, g4, g6, g9, g10, g11, g12, g13, g14, g15, hx0, hy0, hlen, hix, hld, hlenv, hix2, hrow0, hrow1, newPtr_X wf, load1_X wf, loadAgg_X wf, store1_X wf, writeCells_X wf, makeFunc_def, ia_2, sz_2, ze_2, ia_3, sz_3, ia_4, sz_4, ia_24, sz_24, ia_22, sz_22, ia_52, sz_52, ia_55, sz_55, ia_26, sz_26, ze_26, fo_24_0, fo_24_1, fo_24_2, fo_26_0, fo_26_1, fo_55_0, fo_55_1, ik_22, ik_52, pb_12, pb_20, pb_24, pb_31, pb_32, pb_51]; first | (refine dec_split (Q := Q_) (fun hp_ => ?_) (fun hp_ => ?_) <;> first | (exfalso; omega) | (refine hQ_ _ _ ?_; clear hQ_ Q_)) | (refine dec_splitn (Q := Q_) (fun hp_ => ?_) (fun hp_ => ?_) <;> first | (exfalso; omega) | (refine hQ_ _ _ ?_; clear hQ_ Q_)) | (refine hQ_ _ _ ?_; clear hQ_ Q_)))
  | (refine WC_cond fun K_ hK_ => ?_; simp (disch := omega) only [evT_tmp, upd_apply, WB_some, ↓reduceIte, reduceCtorEq, Nat.reduceEqDiff, Nat.reduceLT]; refine hK_ _ ?_; clear hK_ K_)
  | (with_reducible refine condK_tt ?_) | (with_reducible refine condK_ff ?_) | (with_reducible refine roundQ_exit ?_) | (with_reducible refine roundQ_ret ?_)))
                  all_goals
                    first
                      | (refine roundQ_again (j + 1) (by omega) ⟨by omega, by simp only [upd_apply, ↓reduceIte, reduceCtorEq, Nat.reduceEqDiff]; exact g1, by simp only [upd_apply, ↓reduceIte, reduceCtorEq, Nat.reduceEqDiff]; exact g3, by simp only [upd_apply, ↓reduceIte, reduceCtorEq, Nat.reduceEqDiff]; exact g4, by simp only [upd_apply, ↓reduceIte, reduceCtorEq, Nat.reduceEqDiff]; exact g6, by simp only [upd_apply, ↓reduceIte, reduceCtorEq, Nat.reduceEqDiff]; exact g9, by simp only [upd_apply, ↓reduceIte, reduceCtorEq, Nat.reduceEqDiff]; exact g10, by simp only [upd_apply, ↓reduceIte, reduceCtorEq, Nat.reduceEqDiff]; exact g11, by simp only [upd_apply, ↓reduceIte, reduceCtorEq, Nat.reduceEqDiff]; exact g12, by simp only [upd_apply, ↓reduceIte, reduceCtorEq, Nat.reduceEqDiff]; exact g13, by simp only [upd_apply, ↓reduceIte, reduceCtorEq, Nat.reduceEqDiff]; exact congrArg ii (mx_taken (by rw [hyy]; exact hFy) hbst (by first | exact .inl (by omega) | exact .inr (.inl ⟨rfl, by omega⟩) | exact .inr (.inr ⟨rfl, by omega⟩))), by simp only [upd_apply, ↓reduceIte, reduceCtorEq, Nat.reduceEqDiff]; exact congrArg ii (by omega), rfl, rfl⟩)
                      | (refine roundQ_again (j + 1) (by omega) ⟨by omega, by simp only [upd_apply, ↓reduceIte, reduceCtorEq, Nat.reduceEqDiff]; exact g1, by simp only [upd_apply, ↓reduceIte, reduceCtorEq, Nat.reduceEqDiff]; exact g3, by simp only [upd_apply, ↓reduceIte, reduceCtorEq, Nat.reduceEqDiff]; exact g4, by simp only [upd_apply, ↓reduceIte, reduceCtorEq, Nat.reduceEqDiff]; exact g6, by simp only [upd_apply, ↓reduceIte, reduceCtorEq, Nat.reduceEqDiff]; exact g9, by simp only [upd_apply, ↓reduceIte, reduceCtorEq, Nat.reduceEqDiff]; exact g10, by simp only [upd_apply, ↓reduceIte, reduceCtorEq, Nat.reduceEqDiff]; exact g11, by simp only [upd_apply, ↓reduceIte, reduceCtorEq, Nat.reduceEqDiff]; exact g12, by simp only [upd_apply, ↓reduceIte, reduceCtorEq, Nat.reduceEqDiff]; exact g13, by simp only [upd_apply, ↓reduceIte, reduceCtorEq, Nat.reduceEqDiff]; rw [g14]; exact congrArg ii (mx_left (by rw [hyy]; exact hFy) hbst (by omega) (by first | (intro _; omega) | (intro hh; cases hh)) (by first | (intro _; omega) | (intro hh; cases hh))), by simp only [upd_apply, ↓reduceIte, reduceCtorEq, Nat.reduceEqDiff]; exact congrArg ii (by omega), rfl, rfl⟩)
              · by_cases hkm : k + 1 = m
                · have hwk : wt m k = 1 := by rw [show k = m - 1 by omega]; exact wt_last (by omega)
                  have hkm' : ((k : Int) = (m : Int) - 1) = True := eq_true (by omega)
                  have hwi : wt rows.length i = w := by rw [← hWW, hwk]; omega
                  have hw1' := hwt i rows.length hlt (by omega)
                  rw [hwi] at hw1'
                  rw [hwi] at v2 v3 v4 d3 bi
                  have hx0 : D * (3 * st * st * (k : Int) * w * y + 2 * w * y * y * y) - N * (3 * st * w * y) = gapOf (gOf 2) sp st m i k w N D y := by
                    simp only [gapOf, gOf, numOf, denOf, ↓reduceIte, Nat.reduceEqDiff, reduceCtorEq, Int.reduceEq, hkm]; grind
                  cases high
                  · (repeat' (first
  | (with_reducible refine WC_seq ?_) | (refine WC_region ?_) | (with_reducible refine WC_skip ?_) | (with_reducible refine WC_label ?_) | (with_reducible refine WC_scope ?_) | (with_reducible refine WC_block ?_) | (with_reducible refine WC_ret ?_) | (with_reducible refine WC_exit ?_)
  | (with_reducible refine seqQ_norm ?_) | (with_reducible refine seqQ_ret ?_) | (with_reducible refine seqQ_exit ?_) | (with_reducible refine blkQ_norm ?_) | (with_reducible refine blkQ_ret ?_) | (with_reducible refine blkQ_here ?_) | (refine blkQ_out rfl ?_)
  | (refine WO_nil ?_)
  | (refine WD_nil ?_)
  | (refine WD_gate rfl rfl rfl rfl rfl fun K_ hK_ => ?_; simp only [upd_apply, asB_bool, asB_tup, ↓reduceIte, reduceCtorEq, Nat.reduceEqDiff, Bool.not_true, Bool.not_false]; refine hK_ _ ?_; clear hK_ K_)
  | (refine WO_gate rfl rfl rfl rfl rfl fun K_ hK_ => ?_; simp only [upd_apply, asB_bool, asB_tup, ↓reduceIte, reduceCtorEq, Nat.reduceEqDiff, Bool.not_true, Bool.not_false]; refine hK_ _ ?_; clear hK_ K_)
  | (with_reducible refine gateK_yes ?_) | (refine gateK_no (by decide) ?_) | (with_reducible refine gateK_none ?_)
  | ((try first | refine WO_op rfl rfl rfl ?_ | refine WO_op0 rfl rfl ?_ | refine WD_op rfl rfl rfl ?_ | refine WD_op0 rfl rfl ?_); (refine WV_gen fun Q_ hQ_ => ?_; simp (disch := first | omega | (simp only [List.length_cons, List.length_nil, List.length_append]; omega)) only [bb, argF, ↓reduceIte, reduceCtorEq, Nat.reduceEqDiff, Nat.reduceLT, Nat.reduceLeDiff, Nat.reduceAdd, Nat.reduceMul, Nat.reduceSub, Nat.reduceBEq, Int.reduceToNat, List.append_assoc, List.length_append, cond_true, cond_false, List.length_cons, List.length_nil, List.cons_append, List.nil_append, List.append_nil, List.getElem?_cons_zero, List.getElem?_cons_succ, List.set_cons_zero, List.set_cons_succ, List.drop_zero, List.drop_succ_cons, List.take_zero, List.take_succ_cons, List.take_nil, List.drop_nil, eq_self, List.toList_toArray, beq_self_eq_true, g1, g3, g4, g6, g9, g10, g11, g12, g13, g14, g15, hx0, hy0, hlen, hix, hld, hlenv, hix2, hrow0, hrow1, newPtr_X wf, load1_X wf, loadAgg_X wf, store1_X wf, writeCells_X wf, makeFunc_def, ia_2, sz_2, ze_2, ia_3, sz_3, ia_4, sz_4, ia_24, sz_24, ia_22, sz_22, ia_52, sz_52, ia_55, sz_55, ia_26, sz_26, ze_26, fo_24_0, fo_24_1, fo_24_2, fo_26_0, fo_26_1, fo_55_0, fo_55_1, ik_22, ik_52, pb_12, pb_20, pb_24, pb_31, pb_32, pb_51, hw1', hkm']; first | (refine dec_split (Q := Q_) (fun hp_ => ?_) (fun hp_ => ?_) <;> first | (exfalso; omega) | (refine hQ_ _ _ ?_; clear hQ_ Q_)) | (refine dec_splitn (Q := Q_) (fun hp_ => ?_) (fun hp_ => ?_) <;> first | (exfalso; omega) | (refine hQ_ _ _ ?_; clear hQ_ Q_)) | (refine hQ_ _ _ ?_; clear hQ_ Q_)))
  | (refine WC_cond fun K_ hK_ => ?_; simp (disch := omega) only [evT_tmp, upd_apply, WB_some, ↓reduceIte, reduceCtorEq, Nat.reduceEqDiff, Nat.reduceLT]; refine hK_ _ ?_; clear hK_ K_)
  | (with_reducible refine condK_tt ?_) | (with_reducible refine condK_ff ?_) | (with_reducible refine roundQ_exit ?_) | (with_reducible refine roundQ_ret ?_)))
                    refine WC_drawnB [.no, .no, .no, .no, .no, .no, .no, .no, .no, .no, .no, .no, .no, .no, .no, .no, .no, .no, .no, .no, .full] (by kernel_rfl) ?_
                    (repeat' (first
  | (with_reducible refine WC_seq ?_) | (refine WC_region ?_) | (with_reducible refine WC_skip ?_) | (with_reducible refine WC_label ?_) | (with_reducible refine WC_scope ?_) | (with_reducible refine WC_block ?_) | (with_reducible refine WC_ret ?_) | (with_reducible refine WC_exit ?_)
  | (with_reducible refine seqQ_norm ?_) | (with_reducible refine seqQ_ret ?_) | (with_reducible refine seqQ_exit ?_) | (with_reducible refine blkQ_norm ?_) | (with_reducible refine blkQ_ret ?_) | (with_reducible refine blkQ_here ?_) | (refine blkQ_out rfl ?_)
  | (refine WO_nil ?_)
  | (refine WD_nil ?_)
  | (refine WD_gate rfl rfl rfl rfl rfl fun K_ hK_ => ?_; simp only [upd_apply, asB_bool, asB_tup, ↓reduceIte, reduceCtorEq, Nat.reduceEqDiff, Bool.not_true, Bool.not_false]; refine hK_ _ ?_; clear hK_ K_)
  | (refine WO_gate rfl rfl rfl rfl rfl fun K_ hK_ => ?_; simp only [upd_apply, asB_bool, asB_tup, ↓reduceIte, reduceCtorEq, Nat.reduceEqDiff, Bool.not_true, Bool.not_false]; refine hK_ _ ?_; clear hK_ K_)
  | (with_reducible refine gateK_yes ?_) | (refine gateK_no (by decide) ?_) | (with_reducible refine gateK_none ?_)
  | ((try first | refine WO_op rfl rfl rfl ?_ | refine WO_op0 rfl rfl ?_ | refine WD_op rfl rfl rfl ?_ | refine WD_op0 rfl rfl ?_); (refine WV_gen fun Q_ hQ_ => ?_; simp (disch := first | omega | (simp only [List.length_cons, List.length_nil, List.length_append]; omega)) only [bb, argF, ↓reduceIte, reduceCtorEq, Nat.reduceEqDiff, Nat.reduceLT, Nat.reduceLeDiff, Nat.reduceAdd, Nat.reduceMul, Nat.reduceSub, Nat.reduceBEq, Int.reduceToNat, List.append_assoc, List.length_append, cond_true, cond_false, List.length_cons, List.length_nil, List.cons_append, List.nil_append, List.append_nil, List.getElem?_cons_zero, List.getElem?_cons_succ, List.set_cons_zero, List.set_cons_succ, List.drop_zero, List.drop_succ_cons, List.take_zero, List.take_succ_cons, List.take_nil, List.drop_nil, eq_self, List.toList_toArray, beq_self_eq_true, g1, g3, g4, g6, g9, g10, g11, g12, g13, g14, g15, hx0, hy0, hlen, hix, hld, hlenv, hix2, hrow0, hrow1, newPtr_X wf, load1_X wf, loadAgg_X wf, store1_X wf, writeCells_X wf, makeFunc_def, ia_2, sz_2, ze_2, ia_3, sz_3, ia_4, sz_4, ia_24, sz_24, ia_22, sz_22, ia_52, sz_52, ia_55, sz_55, ia_26, sz_26, ze_26, fo_24_0, fo_24_1, fo_24_2, fo_26_0, fo_26_1, fo_55_0, fo_55_1, ik_22, ik_52, pb_12, pb_20, pb_24, pb_31, pb_32, pb_51, hw1', hkm']; first | (refine dec_split (Q := Q_) (fun hp_ => ?_) (fun hp_ => ?_) <;> first | (exfalso; omega) | (refine hQ_ _ _ ?_; clear hQ_ Q_)) | (refine dec_splitn (Q := Q_) (fun hp_ => ?_) (fun hp_ => ?_) <;> first | (exfalso; omega) | (refine hQ_ _ _ ?_; clear hQ_ Q_)) | (refine hQ_ _ _ ?_; clear hQ_ Q_)))
  | (refine WC_cond fun K_ hK_ => ?_; simp (disch := omega) only [evT_tmp, upd_apply, WB_some, ↓reduceIte, reduceCtorEq, Nat.reduceEqDiff, Nat.reduceLT]; refine hK_ _ ?_; clear hK_ K_)
  | (with_reducible refine condK_tt ?_) | (with_reducible refine condK_ff ?_) | (with_reducible refine roundQ_exit ?_) | (with_reducible refine roundQ_ret ?_)))
                    all_goals
                      first
                        | (refine roundQ_again (j + 1) (by omega) ⟨by omega, by simp only [upd_apply, ↓reduceIte, reduceCtorEq, Nat.reduceEqDiff]; exact g1, by simp only [upd_apply, ↓reduceIte, reduceCtorEq, Nat.reduceEqDiff]; exact g3, by simp only [upd_apply, ↓reduceIte, reduceCtorEq, Nat.reduceEqDiff]; exact g4, by simp only [upd_apply, ↓reduceIte, reduceCtorEq, Nat.reduceEqDiff]; exact g6, by simp only [upd_apply, ↓reduceIte, reduceCtorEq, Nat.reduceEqDiff]; exact g9, by simp only [upd_apply, ↓reduceIte, reduceCtorEq, Nat.reduceEqDiff]; exact g10, by simp only [upd_apply, ↓reduceIte, reduceCtorEq, Nat.reduceEqDiff]; exact g11, by simp only [upd_apply, ↓reduceIte, reduceCtorEq, Nat.reduceEqDiff]; exact g12, by simp only [upd_apply, ↓reduceIte, reduceCtorEq, Nat.reduceEqDiff]; exact g13, by simp only [upd_apply, ↓reduceIte, reduceCtorEq, Nat.reduceEqDiff]; exact congrArg ii (mx_taken (by rw [hyy]; exact hFy) hbst (by first | exact .inl (by omega) | exact .inr (.inl ⟨rfl, by omega⟩) | exact .inr (.inr ⟨rfl, by omega⟩))), by simp only [upd_apply, ↓reduceIte, reduceCtorEq, Nat.reduceEqDiff]; exact congrArg ii (by omega), rfl, rfl⟩)
                        | (refine roundQ_again (j + 1) (by omega) ⟨by omega, by simp only [upd_apply, ↓reduceIte, reduceCtorEq, Nat.reduceEqDiff]; exact g1, by simp only [upd_apply, ↓reduceIte, reduceCtorEq, Nat.reduceEqDiff]; exact g3, by simp only [upd_apply, ↓reduceIte, reduceCtorEq, Nat.reduceEqDiff]; exact g4, by simp only [upd_apply, ↓reduceIte, reduceCtorEq, Nat.reduceEqDiff]; exact g6, by simp only [upd_apply, ↓reduceIte, reduceCtorEq, Nat.reduceEqDiff]; exact g9, by simp only [upd_apply, ↓reduceIte, reduceCtorEq, Nat.reduceEqDiff]; exact g10, by simp only [upd_apply, ↓reduceIte, reduceCtorEq, Nat.reduceEqDiff]; exact g11, by simp only [upd_apply, ↓reduceIte, reduceCtorEq, Nat.reduceEqDiff]; exact g12, by simp only [upd_apply, ↓reduceIte, reduceCtorEq, Nat.reduceEqDiff]; exact g13, by simp only [upd_apply, ↓reduceIte, reduceCtorEq, Nat.reduceEqDiff]; rw [g14]; exact congrArg ii (mx_left (by rw [hyy]; exact hFy) hbst (by omega) (by first | (intro _; omega) | (intro hh; cases hh)) (by first | (intro _; omega) | (intro hh; cases hh))), by simp only [upd_apply, ↓reduceIte, reduceCtorEq, Nat.reduceEqDiff]; exact congrArg ii (by omega), rfl, rfl⟩)
                  · (repeat' (first
  | (with_reducible refine WC_seq ?_) | (refine WC_region ?_) | (with_reducible refine WC_skip ?_) | (with_reducible refine WC_label ?_) | (with_reducible refine WC_scope ?_) | (with_reducible refine WC_block ?_) | (with_reducible refine WC_ret ?_) | (with_reducible refine WC_exit ?_)
  | (with_reducible refine seqQ_norm ?_) | (with_reducible refine seqQ_ret ?_) | (with_reducible refine seqQ_exit ?_) | (with_reducible refine blkQ_norm ?_) | (with_reducible refine blkQ_ret ?_) | (with_reducible refine blkQ_here ?_) | (refine blkQ_out rfl ?_)
  | (refine WO_nil ?_)
  | (refine WD_nil ?_)
  | (refine WD_gate rfl rfl rfl rfl rfl fun K_ hK_ => ?_; simp only [upd_apply, asB_bool, asB_tup, ↓reduceIte, reduceCtorEq, Nat.reduceEqDiff, Bool.not_true, Bool.not_false]; refine hK_ _ ?_; clear hK_ K_)
  | (refine WO_gate rfl rfl rfl rfl rfl fun K_ hK_ => ?_; simp only [upd_apply, asB_bool, asB_tup, ↓reduceIte, reduceCtorEq, Nat.reduceEqDiff, Bool.not_true, Bool.not_false]; refine hK_ _ ?_; clear hK_ K_)
  | (with_reducible refine gateK_yes ?_) | (refine gateK_no (by decide) ?_) | (with_reducible refine gateK_none ?_)
  | ((try first | refine WO_op rfl rfl rfl ?_ | refine WO_op0 rfl rfl ?_ | refine WD_op rfl rfl rfl ?_ | refine WD_op0 rfl rfl ?_); (refine WV_gen fun Q_ hQ_ => ?_; simp (disch := first | omega | (simp only [List.length_cons, List.length_nil, List.length_append]; omega)) only [bb, argF, ↓reduceIte, reduceCtorEq, Nat.reduceEqDiff, Nat.reduceLT, Nat.reduceLeDiff, Nat.reduceAdd, Nat.reduceMul, Nat.reduceSub, Nat.reduceBEq, Int.reduceToNat, List.append_assoc, List.length_append, cond_true, cond_false, List.length_cons, List.length_nil, List.cons_append, List.nil_append, List.append_nil, List.getElem?_cons_zero, List.getElem?_cons_succ, List.set_cons_zero, List.set_cons_succ, List.drop_zero, List.drop_succ_cons, List.take_zero, List.take_succ_cons, List.take_nil, List.drop_nil, eq_self, List.toList_toArray, beq_self_eq_true, g1, g3, g4, g6, g9, g10, g11, g12, g13, g14, g15, hx0, hy0, hlen, hix, hld, hlenv, hix2, hrow0, hrow1, newPtr_X wf, load1_X wf, loadAgg_X wf, store1_X wf, writeCells_X wf, makeFunc_def, ia_2, sz_2, ze_2, ia_3, sz_3, ia_4, sz_4, ia_24, sz_24, ia_22, sz_22, ia_52, sz_52, ia_55, sz_55, ia_26, sz_26, ze_26, fo_24_0, fo_24_1, fo_24_2, fo_26_0, fo_26_1, fo_55_0, fo_55_1, ik_22, ik_52, pb_12, pb_20, pb_24, pb_31, pb_32, pb_51, hw1', hkm']; first | (refine dec_split (Q := Q_) (fun hp_ => ?_) (fun hp_ => ?_) <;> first | (exfalso; omega) | (refine hQ_ _ _ ?_; clear hQ_ Q_)) | (refine dec_splitn (Q := Q_) (fun hp_ => ?_) (fun hp_ => ?_) <;> first | (exfalso; omega) | (refine hQ_ _ _ ?_; clear hQ_ Q_)) | (refine hQ_ _ _ ?_; clear hQ_ Q_)))
  | (refine WC_cond fun K_ hK_ => ?_; simp (disch := omega) only [evT_tmp, upd_apply, WB_some, ↓reduceIte, reduceCtorEq, Nat.reduceEqDiff, Nat.reduceLT]; refine hK_ _ ?_; clear hK_ K_)
  | (with_reducible refine condK_tt ?_) | (with_reducible refine condK_ff ?_) | (with_reducible refine roundQ_exit ?_) | (with_reducible refine roundQ_ret ?_)))
                    refine WC_drawnB [.no, .no, .no, .no, .no, .no, .no, .no, .no, .no, .no, .no, .no, .no, .no, .no, .no, .no, .no, .no, .full] (by kernel_rfl) ?_
                    (repeat' (first
  | (with_reducible refine WC_seq ?_) | (refine WC_region ?_) | (with_reducible refine WC_skip ?_) | (with_reducible refine WC_label ?_) | (with_reducible refine WC_scope ?_) | (with_reducible refine WC_block ?_) | (with_reducible refine WC_ret ?_) | (with_reducible refine WC_exit ?_)
  | (with_reducible refine seqQ_norm ?_) | (with_reducible refine seqQ_ret ?_) | (with_reducible refine seqQ_exit ?_) | (with_reducible refine blkQ_norm ?_) | (with_reducible refine blkQ_ret ?_) | (with_reducible refine blkQ_here ?_) | (refine blkQ_out rfl ?_)
  | (refine WO_nil ?_)
  | (refine WD_nil ?_)
  | (refine WD_gate rfl rfl rfl rfl rfl fun K_ hK_ => ?_; simp only [upd_apply, asB_bool, asB_tup, ↓reduceIte, reduceCtorEq, Nat.reduceEqDiff, Bool.not_true, Bool.not_false]; refine hK_ _ ?_; clear hK_ K_)
  | (refine WO_gate rfl rfl rfl rfl rfl fun K_ hK_ => ?_; simp only [upd_apply, asB_bool, asB_tup, ↓reduceIte, reduceCtorEq, Nat.reduceEqDiff, Bool.not_true, Bool.not_false]; refine hK_ _ ?_; clear hK_ K_)
  | (with_reducible refine gateK_yes ?_) | (refine gateK_no (by decide) ?_) | (with_reducible refine gateK_none ?_)
  | ((try first | refine WO_op rfl rfl rfl ?_ | refine WO_op0 rfl rfl ?_ | refine WD_op rfl rfl rfl ?_ | refine WD_op0 rfl rfl ?_); (refine WV_gen fun Q_ hQ_ => ?_; simp (disch := first | omega | (simp only [List.length_cons, List.length_nil, List.length_append]; omega)) only [bb, argF, ↓reduceIte, reduceCtorEq, Nat.reduceEqDiff, Nat.reduceLT, Nat.reduceLeDiff, Nat.reduceAdd, Nat.reduceMul, Nat.reduceSub, Nat.reduceBEq, Int.reduceToNat, List.append_assoc, List.length_append, cond_true, cond_false, List.length_cons, List.length_nil, List.cons_append, List.nil_append, List.append_nil, List.getElem?_cons_zero, List.getElem?_cons_succ, List.set_cons_zero, List.set_cons_succ, List.drop_zero, List.drop_succ_cons, List.take_zero, List.take_succ_cons, List.take_nil, List.drop_nil, eq_self, List.toList_toArray, beq_self_eq_true, g1, g3, g4, g6, g9, g10, g11, g12, g13, g14, g15, hx0, hy0, hlen, hix, hld, hlenv, hix2, hrow0, hrow1, newPtr_X wf, load1_X wf, loadAgg_X wf, store1_X wf, writeCells_X wf, makeFunc_def, ia_2, sz_2, ze_2, ia_3, sz_3, ia_4, sz_4, ia_24, sz_24, ia_22, sz_22, ia_52, sz_52, ia_55, sz_55, ia_26, sz_26, ze_26, fo_24_0, fo_24_1, fo_24_2, fo_26_0, fo_26_1, fo_55_0, fo_55_1, ik_22, ik_52, pb_12, pb_20, pb_24, pb_31, pb_32, pb_51, hw1', hkm']; first | (refine dec_split (Q := Q_) (fun hp_ => ?_) (fun hp_ => ?_) <;> first | (exfalso; omega) | (refine hQ_ _ _ ?_; clear hQ_ Q_)) | (refine dec_splitn (Q := Q_) (fun hp_ => ?_) (fun hp_ => ?_) <;> first | (exfalso; omega) | (refine hQ_ _ _ ?_; clear hQ_ Q_)) | (refine hQ_ _ _ ?_; clear hQ_ Q_)))
  | (refine WC_cond fun K_ hK_ => ?_; simp (disch := omega) only [evT_tmp, upd_apply, WB_some, ↓reduceIte, reduceCtorEq, Nat.reduceEqDiff, Nat.reduceLT]; refine hK_ _ ?_; clear hK_ K_)
  | (with_reducible refine condK_tt ?_) | (with_reducible refine condK_ff ?_) | (with_reducible refine roundQ_exit ?_) | (with_reducible refine roundQ_ret ?_)))
                    all_goals
                      first
                        | (refine roundQ_again (j + 1) (by omega) ⟨by omega, by simp only [upd_apply, ↓reduceIte, reduceCtorEq, Nat.reduceEqDiff]; exact g1, by simp only [upd_apply, ↓reduceIte, reduceCtorEq, Nat.reduceEqDiff]; exact g3, by simp only [upd_apply, ↓reduceIte, reduceCtorEq, Nat.reduceEqDiff]; exact g4, by simp only [upd_apply, ↓reduceIte, reduceCtorEq, Nat.reduceEqDiff]; exact g6, by simp only [upd_apply, ↓reduceIte, reduceCtorEq, Nat.reduceEqDiff]; exact g9, by simp only [upd_apply, ↓reduceIte, reduceCtorEq, Nat.reduceEqDiff]; exact g10, by simp only [upd_apply, ↓reduceIte, reduceCtorEq, Nat.reduceEqDiff]; exact g11, by simp only [upd_apply, ↓reduceIte, reduceCtorEq, Nat.reduceEqDiff]; exact g12, by simp only [upd_apply, ↓reduceIte, reduceCtorEq, Nat.reduceEqDiff]; exact g13, by simp only [upd_apply, ↓reduceIte, reduceCtorEq, Nat.reduceEqDiff]; exact congrArg ii (mx_taken (by rw [hyy]; exact hFy) hbst (by first | exact .inl (by omega) | exact .inr (.inl ⟨rfl, by omega⟩) | exact .inr (.inr ⟨rfl, by omega⟩))), by simp only [upd_apply, ↓reduceIte, reduceCtorEq, Nat.reduceEqDiff]; exact congrArg ii (by omega), rfl, rfl⟩)
                        | (refine roundQ_again (j + 1) (by omega) ⟨by omega, by simp only [upd_apply, ↓reduceIte, reduceCtorEq, Nat.reduceEqDiff]; exact g1, by simp only [upd_apply, ↓reduceIte, reduceCtorEq, Nat.reduceEqDiff]; exact g3, by simp only [upd_apply, ↓reduceIte, reduceCtorEq, Nat.reduceEqDiff]; exact g4, by simp only [upd_apply, ↓reduceIte, reduceCtorEq, Nat.reduceEqDiff]; exact g6, by simp only [upd_apply, ↓reduceIte, reduceCtorEq, Nat.reduceEqDiff]; exact g9, by simp only [upd_apply, ↓reduceIte, reduceCtorEq, Nat.reduceEqDiff]; exact g10, by simp only [upd_apply, ↓reduceIte, reduceCtorEq, Nat.reduceEqDiff]; exact g11, by simp only [upd_apply, ↓reduceIte, reduceCtorEq, Nat.reduceEqDiff]; exact g12, by simp only [upd_apply, ↓reduceIte, reduceCtorEq, Nat.reduceEqDiff]; exact g13, by simp only [upd_apply, ↓reduceIte, reduceCtorEq, Nat.reduceEqDiff]; rw [g14]; exact congrArg ii (mx_left (by rw [hyy]; exact hFy) hbst (by omega) (by first | (intro _; omega) | (intro hh; cases hh)) (by first | (intro _; omega) | (intro hh; cases hh))), by simp only [upd_apply, ↓reduceIte, reduceCtorEq, Nat.reduceEqDiff]; exact congrArg ii (by omega), rfl, rfl⟩)
                · have hkm' : ¬ (k : Int) = (m : Int) - 1 := by omega
                  have hx0 : D * (3 * st * st * (k : Int) * w * y) - N * (3 * st * w * y) = gapOf (gOf 2) sp st m i k w N D y := by
                    simp only [gapOf, gOf, numOf, denOf, ↓reduceIte, Nat.reduceEqDiff, reduceCtorEq, Int.reduceEq, hkm]; grind
                  cases high
                  · (repeat' (first
  | (with_reducible refine WC_seq ?_) | (refine WC_region ?_) | (with_reducible refine WC_skip ?_) | (with_reducible refine WC_label ?_) | (with_reducible refine WC_scope ?_) | (with_reducible refine WC_block ?_) | (with_reducible refine WC_ret ?_) | (with_reducible refine WC_exit ?_)
  | (with_reducible refine seqQ_norm ?_) | (with_reducible refine seqQ_ret ?_) | (with_reducible refine seqQ_exit ?_) | (with_reducible refine blkQ_norm ?_) | (with_reducible refine blkQ_ret ?_) | (with_reducible refine blkQ_here ?_) | (refine blkQ_out rfl ?_)
  | (refine WO_nil ?_)
  | (refine WD_nil ?_)
  | (refine WD_gate rfl rfl rfl rfl rfl fun K_ hK_ => ?_; simp only [upd_apply, asB_bool, asB_tup, ↓reduceIte, reduceCtorEq, Nat.reduceEqDiff, Bool.not_true, Bool.not_false]; refine hK_ _ ?_; clear hK_ K_)
  | (refine WO_gate rfl rfl rfl rfl rfl fun K_ hK_ => ?_; simp only [upd_apply, asB_bool, asB_tup, ↓reduceIte, reduceCtorEq, Nat.reduceEqDiff, Bool.not_true, Bool.not_false]; refine hK_ _ ?_; clear hK_ K_)
  | (with_reducible refine gateK_yes ?_) | (refine gateK_no (by decide) ?_) | (with_reducible refine gateK_none ?_)
  | ((try first | refine WO_op rfl rfl rfl ?_ | refine WO_op0 rfl rfl ?_ | refine WD_op rfl rfl rfl ?_ | refine WD_op0 rfl rfl ?_); (refine WV_gen fun Q_ hQ_ => ?_; simp (disch := first | omega | (simp only [List.length_cons, List.length_nil, List.length_append]; omega)) only [bb, argF, ↓reduceIte, reduceCtorEq, Nat.reduceEqDiff, Nat.reduceLT, Nat.reduceLeDiff, Nat.reduceAdd, Nat.reduceMul, Nat.reduceSub, Nat.reduceBEq, Int.reduceToNat, List.append_assoc, List.length_append, cond_true, cond_false, List.length_cons, List.length_nil, List.cons_append, List.nil_append, List.append_nil, List.getElem?_cons_zero, List.getElem?_cons_succ, List.set_cons_zero, List.set_cons_succ, List.drop_zero, List.drop_succ_cons, List.take_zero, List.take_succ_cons, List.take_nil, List.drop_nil, eq_self, List.toList_toArray, beq_self_eq_true, g1, g3, g4, g6, g9, g10, g11, g12, g13, g14, g15, hx0, hy0, hlen, hix, hld, hlenv, hix2, hrow0, hrow1, newPtr_X wf, load1_X wf, loadAgg_X wf, store1_X wf, writeCells_X wf, makeFunc_def, ia_2, sz_2, ze_2, ia_3, sz_3, ia_4, sz_4, ia_24, sz_24, ia_22, sz_22, ia_52, sz_52, ia_55, sz_55, ia_26, sz_26, ze_26, fo_24_0, fo_24_1, fo_24_2, fo_26_0, fo_26_1, fo_55_0, fo_55_1, ik_22, ik_52, pb_12, pb_20, pb_24, pb_31, pb_32, pb_51]; first | (refine dec_split (Q := Q_) (fun hp_ => ?_) (fun hp_ => ?_) <;> first | (exfalso; omega) | (refine hQ_ _ _ ?_; clear hQ_ Q_)) | (refine dec_splitn (Q := Q_) (fun hp_ => ?_) (fun hp_ => ?_) <;> first | (exfalso; omega) | (refine hQ_ _ _ ?_; clear hQ_ Q_)) | (refine hQ_ _ _ ?_; clear hQ_ Q_)))
  | (refine WC_cond fun K_ hK_ => ?_; simp (disch := omega) only [evT_tmp, upd_apply, WB_some, ↓reduceIte, reduceCtorEq, Nat.reduceEqDiff, Nat.reduceLT]; refine hK_ _ ?_; clear hK_ K_)
  | (with_reducible refine condK_tt ?_) | (with_reducible refine condK_ff ?_) | (with_reducible refine roundQ_exit ?_) | (with_reducible refine roundQ_ret ?_)))
                    refine WC_drawnB [.no, .no, .no, .no, .no, .no, .no, .no, .no, .no, .no, .no, .no, .no, .no, .no, .no, .no, .no, .no, .full] (by kernel_rfl) ?_
                    (repeat' (first
  | (with_reducible refine WC_seq ?_) | (refine WC_region ?_) | (with_reducible refine WC_skip ?_) | (with_reducible refine WC_label ?_) | (with_reducible refine WC_scope ?_) | (with_reducible refine WC_block ?_) | (with_reducible refine WC_ret ?_) | (with_reducible refine WC_exit ?_)
  | (with_reducible refine seqQ_norm ?_) | (with_reducible refine seqQ_ret ?_) | (with_reducible refine seqQ_exit ?_) | (with_reducible refine blkQ_norm ?_) | (with_reducible refine blkQ_ret ?_) | (with_reducible refine blkQ_here ?_) | (refine blkQ_out rfl ?_)
  | (refine WO_nil ?_)
  | (refine WD_nil ?_)
  | (refine WD_gate rfl rfl rfl rfl rfl fun K_ hK_ => ?_; simp only [upd_apply, asB_bool, asB_tup, ↓reduceIte, reduceCtorEq, Nat.reduceEqDiff, Bool.not_true, Bool.not_false]; refine hK_ _ ?_; clear hK_ K_)
  | (refine WO_gate rfl rfl rfl rfl rfl fun K_ hK_ => ?_; simp only [upd_apply, asB_bool, asB_tup, ↓reduceIte, reduceCtorEq, Nat.reduceEqDiff, Bool.not_true, Bool.not_false]; refine hK_ _ ?_; clear hK_ K_)
  | (with_reducible refine gateK_yes ?_) | (refine gateK_no (by decide) ?_) | (with_reducible refine gateK_none ?_)
  | ((try first | refine WO_op rfl rfl rfl ?_ | refine WO_op0 rfl rfl ?_ | refine WD_op rfl rfl rfl ?_ | refine WD_op0 rfl rfl ?_); (refine WV_gen fun Q_ hQ_ => ?_; simp (disch := first | omega | (simp only [List.length_cons, List.length_nil, List.length_append]; omega)) only [bb, argF, ↓reduceIte, reduceCtorEq, Nat.reduceEqDiff, Nat.reduceLT, Nat.reduceLeDiff, Nat.reduceAdd, Nat.reduceMul, Nat.reduceSub, Nat.reduceBEq, Int.reduceToNat, List.append_assoc, List.length_append, cond_true, cond_false, List.length_cons, List.length_nil, List.cons_append, List.nil_append, List.append_nil, List.getElem?_cons_zero, List.getElem?_cons_succ, List.set_cons_zero, List.set_cons_succ, List.drop_zero, List.drop_succ_cons, List.take_zero, List.take_succ_cons, List.take_nil, List.drop_nil, eq_self, List.toList_toArray, beq_self_eq_true, g1, g3, g4, g6, g9, g10, g11, g12, g13, g14, g15, hx0, hy0, hlen, hix, hld, hlenv, hix2, hrow0, hrow1, newPtr_X wf, load1_X wf, loadAgg_X wf, store1_X wf, writeCells_X wf, makeFunc_def, ia_2, sz_2, ze_2, ia_3, sz_3, ia_4, sz_4, ia_24, sz_24, ia_22, sz_22, ia_52, sz_52, ia_55, sz_55, ia_26, sz_26, ze_26, fo_24_0, fo_24_1, fo_24_2, fo_26_0, fo_26_1, fo_55_0, fo_55_1, ik_22, ik_52, pb_12, pb_20, pb_24, pb_31, pb_32, pb_51]; first | (refine dec_split (Q := Q_) (fun hp_ => ?_) (fun hp_ => ?_) <;> first | (exfalso; omega) | (refine hQ_ _ _ ?_; clear hQ_ Q_)) | (refine dec_splitn (Q := Q_) (fun hp_ => ?_) (fun hp_ => ?_) <;> first | (exfalso; omega) | (refine hQ_ _ _ ?_; clear hQ_ Q_)) | (refine hQ_ _ _ ?_; clear hQ_ Q_)))
  | (refine WC_cond fun K_ hK_ => ?_; simp (disch := omega) only [evT_tmp, upd_apply, WB_some, ↓reduceIte, reduceCtorEq, Nat.reduceEqDiff, Nat.reduceLT]; refine hK_ _ ?_; clear hK_ K_)
  | (with_reducible refine condK_tt ?_) | (with_reducible refine condK_ff ?_) | (with_reducible refine roundQ_exit ?_) | (with_reducible refine roundQ_ret ?_)))
                    all_goals
                      first
                        | (refine roundQ_again (j + 1) (by omega) ⟨by omega, by simp only [upd_apply, ↓reduceIte, reduceCtorEq, Nat.reduceEqDiff]; exact g1, by simp only [upd_apply, ↓reduceIte, reduceCtorEq, Nat.reduceEqDiff]; exact g3, by simp only [upd_apply, ↓reduceIte, reduceCtorEq, Nat.reduceEqDiff]; exact g4, by simp only [upd_apply, ↓reduceIte, reduceCtorEq, Nat.reduceEqDiff]; exact g6, by simp only [upd_apply, ↓reduceIte, reduceCtorEq, Nat.reduceEqDiff]; exact g9, by simp only [upd_apply, ↓reduceIte, reduceCtorEq, Nat.reduceEqDiff]; exact g10, by simp only [upd_apply, ↓reduceIte, reduceCtorEq, Nat.reduceEqDiff]; exact g11, by simp only [upd_apply, ↓reduceIte, reduceCtorEq, Nat.reduceEqDiff]; exact g12, by simp only [upd_apply, ↓reduceIte, reduceCtorEq, Nat.reduceEqDiff]; exact g13, by simp only [upd_apply, ↓reduceIte, reduceCtorEq, Nat.reduceEqDiff]; exact congrArg ii (mx_taken (by rw [hyy]; exact hFy) hbst (by first | exact .inl (by omega) | exact .inr (.inl ⟨rfl, by omega⟩) | exact .inr (.inr ⟨rfl, by omega⟩))), by simp only [upd_apply, ↓reduceIte, reduceCtorEq, Nat.reduceEqDiff]; exact congrArg ii (by omega), rfl, rfl⟩)
                        | (refine roundQ_again (j + 1) (by omega) ⟨by omega, by simp only [upd_apply, ↓reduceIte, reduceCtorEq, Nat.reduceEqDiff]; exact g1, by simp only [upd_apply, ↓reduceIte, reduceCtorEq, Nat.reduceEqDiff]; exact g3, by simp only [upd_apply, ↓reduceIte, reduceCtorEq, Nat.reduceEqDiff]; exact g4, by simp only [upd_apply, ↓reduceIte, reduceCtorEq, Nat.reduceEqDiff]; exact g6, by simp only [upd_apply, ↓reduceIte, reduceCtorEq, Nat.reduceEqDiff]; exact g9, by simp only [upd_apply, ↓reduceIte, reduceCtorEq, Nat.reduceEqDiff]; exact g10, by simp only [upd_apply, ↓reduceIte, reduceCtorEq, Nat.reduceEqDiff]; exact g11, by simp only [upd_apply, ↓reduceIte, reduceCtorEq, Nat.reduceEqDiff]; exact g12, by simp only [upd_apply, ↓reduceIte, reduceCtorEq, Nat.reduceEqDiff]; exact g13, by simp only [upd_apply, ↓reduceIte, reduceCtorEq, Nat.reduceEqDiff]; rw [g14]; exact congrArg ii (mx_left (by rw [hyy]; exact hFy) hbst (by omega) (by first | (intro _; omega) | (intro hh; cases hh)) (by first | (intro _; omega) | (intro hh; cases hh))), by simp only [upd_apply, ↓reduceIte, reduceCtorEq, Nat.reduceEqDiff]; exact congrArg ii (by omega), rfl, rfl⟩)
                  · (repeat' (first
  | (with_reducible refine WC_seq ?_) | (refine WC_region ?_) | (with_reducible refine WC_skip ?_) | (with_reducible refine WC_label ?_) | (with_reducible refine WC_scope ?_) | (with_reducible refine WC_block ?_) | (with_reducible refine WC_ret ?_) | (with_reducible refine WC_exit ?_)
  | (with_reducible refine seqQ_norm ?_) | (with_reducible refine seqQ_ret ?_) | (with_reducible refine seqQ_exit ?_) | (with_reducible refine blkQ_norm ?_) | (with_reducible refine blkQ_ret ?_) | (with_reducible refine blkQ_here ?_) | (refine blkQ_out rfl ?_)
  | (refine WO_nil ?_)
  | (refine WD_nil ?_)
  | (refine WD_gate rfl rfl rfl rfl rfl fun K_ hK_ => ?_; simp only [upd_apply, asB_bool, asB_tup, ↓reduceIte, reduceCtorEq, Nat.reduceEqDiff, Bool.not_true, Bool.not_false]; refine hK_ _ ?_; clear hK_ K_)
  | (refine WO_gate rfl rfl rfl rfl rfl fun K_ hK_ => ?_; simp only [upd_apply, asB_bool, asB_tup, ↓reduceIte, reduceCtorEq, Nat.reduceEqDiff, Bool.not_true, Bool.not_false]; refine hK_ _ ?_; clear hK_ K_)
  | (with_reducible refine gateK_yes ?_) | (refine gateK_no (by decide) ?_) | (with_reducible refine gateK_none ?_)
  | ((try first | refine WO_op rfl rfl rfl ?_ | refine WO_op0 rfl rfl ?_ | refine WD_op rfl rfl rfl ?_ | refine WD_op0 rfl rfl ?_); (refine WV_gen fun Q_ hQ_ => ?_; simp (disch := first | omega | (simp only [List.length_cons, List.length_nil, List.length_append]; omega)) only [bb, argF, ↓reduceIte, reduceCtorEq, Nat.reduceEqDiff, Nat.reduceLT, Nat.reduceLeDiff, Nat.reduceAdd, Nat.reduceMul, Nat.reduceSub, Nat.reduceBEq, Int.reduceToNat, List.append_assoc, List.length_append, cond_true, cond_false, List.length_cons, List.length_nil, List.cons_append, List.nil_append, List.append_nil, List.getElem?_cons_zero, List.getElem?_cons_succ, List.set_cons_zero, List.set_cons_succ, List.drop_zero, List.drop_succ_cons, List.take_zero, List.take_succ_cons, List.take_nil, List.drop_nil, eq_self, List.toList_toArray, beq_self_eq_true, g1, g3, g4, g6, g9, g10, g11, g12, g13, g14, g15, hx0, hy0, hlen, hix, hld, hlenv, hix2, hrow0, hrow1, newPtr_X wf, load1_X wf, loadAgg_X wf, store1_X wf, writeCells_X wf, makeFunc_def, ia_2, sz_2, ze_2, ia_3, sz_3, ia_4, sz_4, ia_24, sz_24, ia_22, sz_22, ia_52, sz_52, ia_55, sz_55, ia_26, sz_26, ze_26, fo_24_0, fo_24_1, fo_24_2, fo_26_0, fo_26_1, fo_55_0, fo_55_1, ik_22, ik_52, pb_12, pb_20, pb_24, pb_31, pb_32, pb_51]; first | (refine dec_split (Q := Q_) (fun hp_ => ?_) (fun hp_ => ?_) <;> first | (exfalso; omega) | (refine hQ_ _ _ ?_; clear hQ_ Q_)) | (refine dec_splitn (Q := Q_) (fun hp_ => ?_) (fun hp_ => ?_) <;> first | (exfalso; omega) | (refine hQ_ _ _ ?_; clear hQ_ Q_)) | (refine hQ_ _ _ ?_; clear hQ_ Q_)))
  | (refine WC_cond fun K_ hK_ => ?_; simp (disch := omega) only [evT_tmp, upd_apply, WB_some, ↓reduceIte, reduceCtorEq, Nat.reduceEqDiff, Nat.reduceLT]; refine hK_ _ ?_; clear hK_ K_)
  | (with_reducible refine condK_tt ?_) | (with_reducible refine condK_ff ?_) | (with_reducible refine roundQ_exit ?_) | (with_reducible refine roundQ_ret ?_)))
                    refine WC_drawnB [.no, .no, .no, .no, .no, .no, .no, .no, .no, .no, .no, .no, .no, .no, .no, .no, .no, .no, .no, .no, .full] (by kernel_rfl) ?_
                    (repeat' (first
  | (with_reducible refine WC_seq ?_) | (refine WC_region ?_) | (with_reducible refine WC_skip ?_) | (with_reducible refine WC_label ?_) | (with_reducible refine WC_scope ?_) | (with_reducible refine WC_block ?_) | (with_reducible refine WC_ret ?_) | (with_reducible refine WC_exit ?_)
  | (with_reducible refine seqQ_norm ?_) | (with_reducible refine seqQ_ret ?_) | (with_reducible refine seqQ_exit ?_) | (with_reducible refine blkQ_norm ?_) | (with_reducible refine blkQ_ret ?_) | (with_reducible refine blkQ_here ?_) | (refine blkQ_out rfl ?_)
  | (refine WO_nil ?_)
  | (refine WD_nil ?_)
  | (refine WD_gate rfl rfl rfl rfl rfl fun K_ hK_ => ?_; simp only [upd_apply, asB_bool, asB_tup, ↓reduceIte, reduceCtorEq, Nat.reduceEqDiff, Bool.not_true, Bool.not_false]; refine hK_ _ ?_; clear hK_ K_)
  | (refine WO_gate rfl rfl rfl rfl rfl fun K_ hK_ => ?_; simp only [upd_apply, asB_bool, asB_tup, ↓reduceIte, reduceCtorEq, Nat.reduceEqDiff, Bool.not_true, Bool.not_false]; refine hK_ _ ?_; clear hK_ K_)
  | (with_reducible refine gateK_yes ?_) | (refine gateK_no (by decide) ?_) | (with_reducible refine gateK_none ?_)
  | ((try first | refine WO_op rfl rfl rfl ?_ | refine WO_op0 rfl rfl ?_ | refine WD_op rfl rfl rfl ?_ | refine WD_op0 rfl rfl ?_); (refine WV_gen fun Q_ hQ_ => ?_; simp (disch := first | omega | (simp only [List.length_cons, List.length_nil, List.length_append]; omega)) only [bb, argF, ↓reduceIte, reduceCtorEq, Nat.reduceEqDiff, Nat.reduceLT, Nat.reduceLeDiff, Nat.reduceAdd, Nat.reduceMul, Nat.reduceSub, Nat.reduceBEq, Int.reduceToNat, List.append_assoc, List.length_append, cond_true, cond_false, List.length_cons, List.length_nil, List.cons_append, List.nil_append, List.append_nil, List.getElem?_cons_zero, List.getElem?_cons_succ, List.set_cons_zero, List.set_cons_succ, List.drop_zero, List.drop_succ_cons, List.take_zero, List.take_succ_cons, List.take_nil, List.drop_nil, eq_self, List.toList_toArray, beq_self_eq_true, g1, g3, g4, g6, g9, g10, g11, g12, g13, g14, g15, hx0, hy0, hlen, hix, hld, hlenv, hix2, hrow0, hrow1, newPtr_X wf, load1_X wf, loadAgg_X wf, store1_X wf, writeCells_X wf, makeFunc_def, ia_2, sz_2, ze_2, ia_3, sz_3, ia_4, sz_4, ia_24, sz_24, ia_22, sz_22, ia_52, sz_52, ia_55, sz_55, ia_26, sz_26, ze_26, fo_24_0, fo_24_1, fo_24_2, fo_26_0, fo_26_1, fo_55_0, fo_55_1, ik_22, ik_52, pb_12, pb_20, pb_24, pb_31, pb_32, pb_51]; first | (refine dec_split (Q := Q_) (fun hp_ => ?_) (fun hp_ => ?_) <;> first | (exfalso; omega) | (refine hQ_ _ _ ?_; clear hQ_ Q_)) | (refine dec_splitn (Q := Q_) (fun hp_ => ?_) (fun hp_ => ?_) <;> first | (exfalso; omega) | (refine hQ_ _ _ ?_; clear hQ_ Q_)) | (refine hQ_ _ _ ?_; clear hQ_ Q_)))
  | (refine WC_cond fun K_ hK_ => ?_; simp (disch := omega) only [evT_tmp, upd_apply, WB_some, ↓reduceIte, reduceCtorEq, Nat.reduceEqDiff, Nat.reduceLT]; refine hK_ _ ?_; clear hK_ K_)
  | (with_reducible refine condK_tt ?_) | (with_reducible refine condK_ff ?_) | (with_reducible refine roundQ_exit ?_) | (with_reducible refine roundQ_ret ?_)))
                    all_goals
                      first
                        | (refine roundQ_again (j + 1) (by omega) ⟨by omega, by simp only [upd_apply, ↓reduceIte, reduceCtorEq, Nat.reduceEqDiff]; exact g1, by simp only [upd_apply, ↓reduceIte, reduceCtorEq, Nat.reduceEqDiff]; exact g3, by simp only [upd_apply, ↓reduceIte, reduceCtorEq, Nat.reduceEqDiff]; exact g4, by simp only [upd_apply, ↓reduceIte, reduceCtorEq, Nat.reduceEqDiff]; exact g6, by simp only [upd_apply, ↓reduceIte, reduceCtorEq, Nat.reduceEqDiff]; exact g9, by simp only [upd_apply, ↓reduceIte, reduceCtorEq, Nat.reduceEqDiff]; exact g10, by simp only [upd_apply, ↓reduceIte, reduceCtorEq, Nat.reduceEqDiff]; exact g11, by simp only [upd_apply, ↓reduceIte, reduceCtorEq, Nat.reduceEqDiff]; exact g12, by simp only [upd_apply, ↓reduceIte, reduceCtorEq, Nat.reduceEqDiff]; exact g13, by simp only [upd_apply, ↓reduceIte, reduceCtorEq, Nat.reduceEqDiff]; exact congrArg ii (mx_taken (by rw [hyy]; exact hFy) hbst (by first | exact .inl (by omega) | exact .inr (.inl ⟨rfl, by omega⟩) | exact .inr (.inr ⟨rfl, by omega⟩))), by simp only [upd_apply, ↓reduceIte, reduceCtorEq, Nat.reduceEqDiff]; exact congrArg ii (by omega), rfl, rfl⟩)
                        | (refine roundQ_again (j + 1) (by omega) ⟨by omega, by simp only [upd_apply, ↓reduceIte, reduceCtorEq, Nat.reduceEqDiff]; exact g1, by simp only [upd_apply, ↓reduceIte, reduceCtorEq, Nat.reduceEqDiff]; exact g3, by simp only [upd_apply, ↓reduceIte, reduceCtorEq, Nat.reduceEqDiff]; exact g4, by simp only [upd_apply, ↓reduceIte, reduceCtorEq, Nat.reduceEqDiff]; exact g6, by simp only [upd_apply, ↓reduceIte, reduceCtorEq, Nat.reduceEqDiff]; exact g9, by simp only [upd_apply, ↓reduceIte, reduceCtorEq, Nat.reduceEqDiff]; exact g10, by simp only [upd_apply, ↓reduceIte, reduceCtorEq, Nat.reduceEqDiff]; exact g11, by simp only [upd_apply, ↓reduceIte, reduceCtorEq, Nat.reduceEqDiff]; exact g12, by simp only [upd_apply, ↓reduceIte, reduceCtorEq, Nat.reduceEqDiff]; exact g13, by simp only [upd_apply, ↓reduceIte, reduceCtorEq, Nat.reduceEqDiff]; rw [g14]; exact congrArg ii (mx_left (by rw [hyy]; exact hFy) hbst (by omega) (by first | (intro _; omega) | (intro hh; cases hh)) (by first | (intro _; omega) | (intro hh; cases hh))), by simp only [upd_apply, ↓reduceIte, reduceCtorEq, Nat.reduceEqDiff]; exact congrArg ii (by omega), rfl, rfl⟩)
            · have hje : j = nw + 1 := by omega
              have hyg : ¬ (r.1 + (j : Int) ≤ r.2) := by omega
              rw [if_neg (by omega), hje, Nat.add_sub_cancel] at g14
              have hfin : sgn high (mxf (fAt (gOf what) sp st rows.length m N D high (i * m + k)) r.1 nw) = refG (gOf what) sp st rows m N D high (i * m + k) := by unfold refG bestG; rw [hrr, hnw]
              rw [hfin] at g14
              (repeat' (first
  | (with_reducible refine WC_seq ?_) | (refine WC_region ?_) | (with_reducible refine WC_skip ?_) | (with_reducible refine WC_label ?_) | (with_reducible refine WC_scope ?_) | (with_reducible refine WC_block ?_) | (with_reducible refine WC_ret ?_) | (with_reducible refine WC_exit ?_)
  | (with_reducible refine seqQ_norm ?_) | (with_reducible refine seqQ_ret ?_) | (with_reducible refine seqQ_exit ?_) | (with_reducible refine blkQ_norm ?_) | (with_reducible refine blkQ_ret ?_) | (with_reducible refine blkQ_here ?_) | (refine blkQ_out rfl ?_)
  | (refine WO_nil ?_)
  | (refine WD_nil ?_)
  | (refine WD_gate rfl rfl rfl rfl rfl fun K_ hK_ => ?_; simp only [upd_apply, asB_bool, asB_tup, ↓reduceIte, reduceCtorEq, Nat.reduceEqDiff, Bool.not_true, Bool.not_false]; refine hK_ _ ?_; clear hK_ K_)
  | (refine WO_gate rfl rfl rfl rfl rfl fun K_ hK_ => ?_; simp only [upd_apply, asB_bool, asB_tup, ↓reduceIte, reduceCtorEq, Nat.reduceEqDiff, Bool.not_true, Bool.not_false]; refine hK_ _ ?_; clear hK_ K_)
  | (with_reducible refine gateK_yes ?_) | (refine gateK_no (by decide) ?_) | (with_reducible refine gateK_none ?_)
  | ((try first | refine WO_op rfl rfl rfl ?_ | refine WO_op0 rfl rfl ?_ | refine WD_op rfl rfl rfl ?_ | refine WD_op0 rfl rfl ?_); (refine WV_gen fun Q_ hQ_ => ?_; simp (disch := first | omega | (simp only [List.length_cons, List.length_nil, List.length_append]; omega)) only [bb, argF, ↓reduceIte, reduceCtorEq, Nat.reduceEqDiff, Nat.reduceLT, Nat.reduceLeDiff, Nat.reduceAdd, Nat.reduceMul, Nat.reduceSub, Nat.reduceBEq, Int.reduceToNat, List.append_assoc, List.length_append, cond_true, cond_false, List.length_cons, List.length_nil, List.cons_append, List.nil_append, List.append_nil, List.getElem?_cons_zero, List.getElem?_cons_succ, List.set_cons_zero, List.set_cons_succ, List.drop_zero, List.drop_succ_cons, List.take_zero, List.take_succ_cons, List.take_nil, List.drop_nil, eq_self, List.toList_toArray, beq_self_eq_true, g1, g3, g4, g6, g9, g10, g11, g12, g13, g14, g15, hyg, hlen, hix, hld, hlenv, hix2, hrow0, hrow1, newPtr_X wf, load1_X wf, loadAgg_X wf, store1_X wf, writeCells_X wf, makeFunc_def, ia_2, sz_2, ze_2, ia_3, sz_3, ia_4, sz_4, ia_24, sz_24, ia_22, sz_22, ia_52, sz_52, ia_55, sz_55, ia_26, sz_26, ze_26, fo_24_0, fo_24_1, fo_24_2, fo_26_0, fo_26_1, fo_55_0, fo_55_1, ik_22, ik_52, pb_12, pb_20, pb_24, pb_31, pb_32, pb_51]; first | (refine dec_split (Q := Q_) (fun hp_ => ?_) (fun hp_ => ?_) <;> first | (exfalso; omega) | (refine hQ_ _ _ ?_; clear hQ_ Q_)) | (refine dec_splitn (Q := Q_) (fun hp_ => ?_) (fun hp_ => ?_) <;> first | (exfalso; omega) | (refine hQ_ _ _ ?_; clear hQ_ Q_)) | (refine hQ_ _ _ ?_; clear hQ_ Q_)))
  | (refine WC_cond fun K_ hK_ => ?_; simp (disch := omega) only [evT_tmp, upd_apply, WB_some, ↓reduceIte, reduceCtorEq, Nat.reduceEqDiff, Nat.reduceLT]; refine hK_ _ ?_; clear hK_ K_)
  | (with_reducible refine condK_tt ?_) | (with_reducible refine condK_ff ?_) | (with_reducible refine roundQ_exit ?_) | (with_reducible refine roundQ_ret ?_)))
              refine roundQ_again (k + 1) (by omega) ⟨hkl, by simp only [upd_apply, ↓reduceIte, reduceCtorEq, Nat.reduceEqDiff]; exact g1, by simp only [upd_apply, ↓reduceIte, reduceCtorEq, Nat.reduceEqDiff]; exact g3, by simp only [upd_apply, ↓reduceIte, reduceCtorEq, Nat.reduceEqDiff]; exact g4, by simp only [upd_apply, ↓reduceIte, reduceCtorEq, Nat.reduceEqDiff]; exact g6, by simp only [upd_apply, ↓reduceIte, reduceCtorEq, Nat.reduceEqDiff]; rfl, by simp only [upd_apply, ↓reduceIte, reduceCtorEq, Nat.reduceEqDiff]; exact g10, by simp only [upd_apply, ↓reduceIte, reduceCtorEq, Nat.reduceEqDiff]; exact g11, by simp only [upd_apply, ↓reduceIte, reduceCtorEq, Nat.reduceEqDiff]; rfl, rfl, rfl⟩
          · exact ⟨Nat.zero_le _, by simp only [upd_apply, ↓reduceIte, reduceCtorEq, Nat.reduceEqDiff]; exact g1, by simp only [upd_apply, ↓reduceIte, reduceCtorEq, Nat.reduceEqDiff]; exact g3, by simp only [upd_apply, ↓reduceIte, reduceCtorEq, Nat.reduceEqDiff]; exact g4, by simp only [upd_apply, ↓reduceIte, reduceCtorEq, Nat.reduceEqDiff]; exact g6, by simp only [upd_apply, ↓reduceIte, reduceCtorEq, Nat.reduceEqDiff]; exact g9, by simp only [upd_apply, ↓reduceIte, reduceCtorEq, Nat.reduceEqDiff]; exact g10, by simp only [upd_apply, ↓reduceIte, reduceCtorEq, Nat.reduceEqDiff]; exact g11, by simp only [upd_apply, ↓reduceIte, reduceCtorEq, Nat.reduceEqDiff]; exact g12, by simp only [upd_apply, ↓reduceIte, reduceCtorEq, Nat.reduceEqDiff], by simp only [upd_apply, ↓reduceIte, reduceCtorEq, Nat.reduceEqDiff]; (try rfl), by simp only [upd_apply, ↓reduceIte, reduceCtorEq, Nat.reduceEqDiff]; exact congrArg ii (by omega), rfl, rfl⟩
        · have hke : k = m := by omega
          rw [hke] at g9 g12
          (repeat' (first
  | (with_reducible refine WC_seq ?_) | (refine WC_region ?_) | (with_reducible refine WC_skip ?_) | (with_reducible refine WC_label ?_) | (with_reducible refine WC_scope ?_) | (with_reducible refine WC_block ?_) | (with_reducible refine WC_ret ?_) | (with_reducible refine WC_exit ?_)
  | (with_reducible refine seqQ_norm ?_) | (with_reducible refine seqQ_ret ?_) | (with_reducible refine seqQ_exit ?_) | (with_reducible refine blkQ_norm ?_) | (with_reducible refine blkQ_ret ?_) | (with_reducible refine blkQ_here ?_) | (refine blkQ_out rfl ?_)
  | (refine WO_nil ?_)
  | (refine WD_nil ?_)
  | (refine WD_gate rfl rfl rfl rfl rfl fun K_ hK_ => ?_; simp only [upd_apply, asB_bool, asB_tup, ↓reduceIte, reduceCtorEq, Nat.reduceEqDiff, Bool.not_true, Bool.not_false]; refine hK_ _ ?_; clear hK_ K_)
  | (refine WO_gate rfl rfl rfl rfl rfl fun K_ hK_ => ?_; simp only [upd_apply, asB_bool, asB_tup, ↓reduceIte, reduceCtorEq, Nat.reduceEqDiff, Bool.not_true, Bool.not_false]; refine hK_ _ ?_; clear hK_ K_)
  | (with_reducible refine gateK_yes ?_) | (refine gateK_no (by decide) ?_) | (with_reducible refine gateK_none ?_)
  | ((try first | refine WO_op rfl rfl rfl ?_ | refine WO_op0 rfl rfl ?_ | refine WD_op rfl rfl rfl ?_ | refine WD_op0 rfl rfl ?_); (refine WV_gen fun Q_ hQ_ => ?_; simp (disch := first | omega | (simp only [List.length_cons, List.length_nil, List.length_append]; omega)) only [bb, argF, ↓reduceIte, reduceCtorEq, Nat.reduceEqDiff, Nat.reduceLT, Nat.reduceLeDiff, Nat.reduceAdd, Nat.reduceMul, Nat.reduceSub, Nat.reduceBEq, Int.reduceToNat, List.append_assoc, List.length_append, cond_true, cond_false, List.length_cons, List.length_nil, List.cons_append, List.nil_append, List.append_nil, List.getElem?_cons_zero, List.getElem?_cons_succ, List.set_cons_zero, List.set_cons_succ, List.drop_zero, List.drop_succ_cons, List.take_zero, List.take_succ_cons, List.take_nil, List.drop_nil, eq_self, List.toList_toArray, beq_self_eq_true, g1, g3, g4, g6, g9, g10, g11, g12, newPtr_X wf, load1_X wf, loadAgg_X wf, store1_X wf, writeCells_X wf, makeFunc_def, ia_2, sz_2, ze_2, ia_3, sz_3, ia_4, sz_4, ia_24, sz_24, ia_22, sz_22, ia_52, sz_52, ia_55, sz_55, ia_26, sz_26, ze_26, fo_24_0, fo_24_1, fo_24_2, fo_26_0, fo_26_1, fo_55_0, fo_55_1, ik_22, ik_52, pb_12, pb_20, pb_24, pb_31, pb_32, pb_51]; first | (refine dec_split (Q := Q_) (fun hp_ => ?_) (fun hp_ => ?_) <;> first | (exfalso; omega) | (refine hQ_ _ _ ?_; clear hQ_ Q_)) | (refine dec_splitn (Q := Q_) (fun hp_ => ?_) (fun hp_ => ?_) <;> first | (exfalso; omega) | (refine hQ_ _ _ ?_; clear hQ_ Q_)) | (refine hQ_ _ _ ?_; clear hQ_ Q_)))
  | (refine WC_cond fun K_ hK_ => ?_; simp (disch := omega) only [evT_tmp, upd_apply, WB_some, ↓reduceIte, reduceCtorEq, Nat.reduceEqDiff, Nat.reduceLT]; refine hK_ _ ?_; clear hK_ K_)
  | (with_reducible refine condK_tt ?_) | (with_reducible refine condK_ff ?_) | (with_reducible refine roundQ_exit ?_) | (with_reducible refine roundQ_ret ?_)))
          refine roundQ_again (i + 1) (by omega) ⟨hlt, by simp only [upd_apply, ↓reduceIte, reduceCtorEq, Nat.reduceEqDiff]; exact g1, by simp only [upd_apply, ↓reduceIte, reduceCtorEq, Nat.reduceEqDiff]; exact g3, by simp only [upd_apply, ↓reduceIte, reduceCtorEq, Nat.reduceEqDiff]; exact g4, by simp only [upd_apply, ↓reduceIte, reduceCtorEq, Nat.reduceEqDiff]; exact g6, by simp only [upd_apply, ↓reduceIte, reduceCtorEq, Nat.reduceEqDiff]; rw [Nat.succ_mul]; exact g9, by simp only [upd_apply, ↓reduceIte, reduceCtorEq, Nat.reduceEqDiff]; rfl, rfl, rfl⟩
      · exact ⟨Nat.zero_le _, by simp only [upd_apply, ↓reduceIte, reduceCtorEq, Nat.reduceEqDiff]; exact g1, by simp only [upd_apply, ↓reduceIte, reduceCtorEq, Nat.reduceEqDiff]; exact g3, by simp only [upd_apply, ↓reduceIte, reduceCtorEq, Nat.reduceEqDiff]; exact g4, by simp only [upd_apply, ↓reduceIte, reduceCtorEq, Nat.reduceEqDiff]; exact g6, by simp only [upd_apply, ↓reduceIte, reduceCtorEq, Nat.reduceEqDiff]; exact g9, by simp only [upd_apply, ↓reduceIte, reduceCtorEq, Nat.reduceEqDiff]; exact g10, by simp only [upd_apply, ↓reduceIte, reduceCtorEq, Nat.reduceEqDiff], by simp only [upd_apply, ↓reduceIte, reduceCtorEq, Nat.reduceEqDiff]; (try rfl), rfl, rfl⟩
    · have hie : i = rows.length := by omega
      subst hie
      (repeat' (first
  | (with_reducible refine WC_seq ?_) | (refine WC_region ?_) | (with_reducible refine WC_skip ?_) | (with_reducible refine WC_label ?_) | (with_reducible refine WC_scope ?_) | (with_reducible refine WC_block ?_) | (with_reducible refine WC_ret ?_) | (with_reducible refine WC_exit ?_)
  | (with_reducible refine seqQ_norm ?_) | (with_reducible refine seqQ_ret ?_) | (with_reducible refine seqQ_exit ?_) | (with_reducible refine blkQ_norm ?_) | (with_reducible refine blkQ_ret ?_) | (with_reducible refine blkQ_here ?_) | (refine blkQ_out rfl ?_)
  | (refine WO_nil ?_)
  | (refine WD_nil ?_)
  | (refine WD_gate rfl rfl rfl rfl rfl fun K_ hK_ => ?_; simp only [upd_apply, asB_bool, asB_tup, ↓reduceIte, reduceCtorEq, Nat.reduceEqDiff, Bool.not_true, Bool.not_false]; refine hK_ _ ?_; clear hK_ K_)
  | (refine WO_gate rfl rfl rfl rfl rfl fun K_ hK_ => ?_; simp only [upd_apply, asB_bool, asB_tup, ↓reduceIte, reduceCtorEq, Nat.reduceEqDiff, Bool.not_true, Bool.not_false]; refine hK_ _ ?_; clear hK_ K_)
  | (with_reducible refine gateK_yes ?_) | (refine gateK_no (by decide) ?_) | (with_reducible refine gateK_none ?_)
  | ((try first | refine WO_op rfl rfl rfl ?_ | refine WO_op0 rfl rfl ?_ | refine WD_op rfl rfl rfl ?_ | refine WD_op0 rfl rfl ?_); (refine WV_gen fun Q_ hQ_ => ?_; simp (disch := first | omega | (simp only [List.length_cons, List.length_nil, List.length_append]; omega)) only [bb, argF, ↓reduceIte, reduceCtorEq, Nat.reduceEqDiff, Nat.reduceLT, Nat.reduceLeDiff, Nat.reduceAdd, Nat.reduceMul, Nat.reduceSub, Nat.reduceBEq, Int.reduceToNat, List.append_assoc, List.length_append, cond_true, cond_false, List.length_cons, List.length_nil, List.cons_append, List.nil_append, List.append_nil, List.getElem?_cons_zero, List.getElem?_cons_succ, List.set_cons_zero, List.set_cons_succ, List.drop_zero, List.drop_succ_cons, List.take_zero, List.take_succ_cons, List.take_nil, List.drop_nil, eq_self, List.toList_toArray, beq_self_eq_true, g1, g3, g4, g6, g9, g10, hlen, newPtr_X wf, load1_X wf, loadAgg_X wf, store1_X wf, writeCells_X wf, makeFunc_def, ia_2, sz_2, ze_2, ia_3, sz_3, ia_4, sz_4, ia_24, sz_24, ia_22, sz_22, ia_52, sz_52, ia_55, sz_55, ia_26, sz_26, ze_26, fo_24_0, fo_24_1, fo_24_2, fo_26_0, fo_26_1, fo_55_0, fo_55_1, ik_22, ik_52, pb_12, pb_20, pb_24, pb_31, pb_32, pb_51]; first | (refine dec_split (Q := Q_) (fun hp_ => ?_) (fun hp_ => ?_) <;> first | (exfalso; omega) | (refine hQ_ _ _ ?_; clear hQ_ Q_)) | (refine dec_splitn (Q := Q_) (fun hp_ => ?_) (fun hp_ => ?_) <;> first | (exfalso; omega) | (refine hQ_ _ _ ?_; clear hQ_ Q_)) | (refine hQ_ _ _ ?_; clear hQ_ Q_)))
  | (refine WC_cond fun K_ hK_ => ?_; simp (disch := omega) only [evT_tmp, upd_apply, WB_some, ↓reduceIte, reduceCtorEq, Nat.reduceEqDiff, Nat.reduceLT]; refine hK_ _ ?_; clear hK_ K_)
  | (with_reducible refine condK_tt ?_) | (with_reducible refine condK_ff ?_) | (with_reducible refine roundQ_exit ?_) | (with_reducible refine roundQ_ret ?_)))
      (refine endQ_ret _ _ rfl (ret1 (by decide)) ?_; simp only [upd_apply, ↓reduceIte, reduceCtorEq, Nat.reduceEqDiff]; refine WV_flat rfl (by omega) ?_)
      exact ⟨rfl, rfl⟩
  · exact ⟨Nat.zero_le _, by simp only [upd_apply, ↓reduceIte, reduceCtorEq, Nat.reduceEqDiff], by simp only [upd_apply, ↓reduceIte, reduceCtorEq, Nat.reduceEqDiff], by simp only [upd_apply, ↓reduceIte, reduceCtorEq, Nat.reduceEqDiff], by simp only [upd_apply, ↓reduceIte, reduceCtorEq, Nat.reduceEqDiff], by simp only [upd_apply, ↓reduceIte, reduceCtorEq, Nat.reduceEqDiff]; rw [Nat.zero_mul]; rfl, by simp only [upd_apply, ↓reduceIte, reduceCtorEq, Nat.reduceEqDiff]; (try rfl), rfl, rfl⟩
end Go.Proofs.Ytghondkiondeaac
end

/- EvK5 -/
section
/-
  LAYER 2: the statement BoxBounds, walked.
-/
namespace Go.Proofs.Ytghondkiondeaac
open Go.Ev
set_option maxRecDepth 100000
set_option linter.unusedSimpArgs false
set_option linter.unusedVariables false
set_option maxHeartbeats 4000000

theorem psum_sgn (b : Bool) (f : Nat → Int) : ∀ n, psum (fun q => sgn b (f q)) n = sgn b (psum f n)
  | 0 => by cases b <;> rfl
  | n + 1 => by
    simp only [psum]
    rw [psum_sgn b f n]
    cases b
    · simp only [sgn_ff]; omega
    · rfl

theorem checkBoundR (sp st : Int) (a : AV) (rvs : List AV) (rows : List (List (Int × Int))) (what N D : Int) (high : Bool) (h : H) (x : HullR h a rvs rows) :
    (om Try.prog KK).call (.fn 12 [.agg [ii sp, ii st, a], ii what, .agg [ii N, ii D], .bool high]) h = .ok (ii (bndErr sp st rows what N D high)) h := by
  have wf := x.wf
  refine WV_to (WV_call (fn := Try.f12) Try.func12 rfl rfl rfl rfl rfl ?_)
  simp only [argF]
  have hch : ∀ l w, w ≤ h.clock + l.length → (om Try.prog KK).call (.fn 31 [.agg [ii sp, ii st, a]]) (X h l w) = .ok (ii (hullErr sp st rows)) (X h l w) := fun l w hw => checkHullR sp st a rvs rows _ (x.up l w hw)
  have hib : ∀ l w, w ≤ h.clock + l.length → (om Try.prog KK).call (.fn 20 [.agg [ii N, ii D]]) (X h l w) = .ok (.bool (isBnd N D)) (X h l w) := fun l w hw => isBoundR N D _ (wf.X hw)
  unfold bndErr
  by_cases he : hullErr sp st rows = 0
  · rw [if_neg (not_not_intro he)]
    by_cases hwh : 0 ≤ what ∧ what ≤ 2
    · rw [if_neg (not_not_intro hwh)]
      obtain ⟨hn, hm, hall, hsp, hst, hof⟩ := hullErr_ok he
      cases hb : isBnd N D with
      | false =>
        rw [hb] at hib
        (repeat' (first
  | (with_reducible refine WC_seq ?_) | (refine WC_region ?_) | (with_reducible refine WC_skip ?_) | (with_reducible refine WC_label ?_) | (with_reducible refine WC_scope ?_) | (with_reducible refine WC_block ?_) | (with_reducible refine WC_ret ?_) | (with_reducible refine WC_exit ?_)
  | (with_reducible refine seqQ_norm ?_) | (with_reducible refine seqQ_ret ?_) | (with_reducible refine seqQ_exit ?_) | (with_reducible refine blkQ_norm ?_) | (with_reducible refine blkQ_ret ?_) | (with_reducible refine blkQ_here ?_) | (refine blkQ_out rfl ?_)
  | (refine WO_nil ?_)
  | (refine WD_nil ?_)
  | (refine WD_gate rfl rfl rfl rfl rfl fun K_ hK_ => ?_; simp only [upd_apply, asB_bool, asB_tup, ↓reduceIte, reduceCtorEq, Nat.reduceEqDiff, Bool.not_true, Bool.not_false]; refine hK_ _ ?_; clear hK_ K_)
  | (refine WO_gate rfl rfl rfl rfl rfl fun K_ hK_ => ?_; simp only [upd_apply, asB_bool, asB_tup, ↓reduceIte, reduceCtorEq, Nat.reduceEqDiff, Bool.not_true, Bool.not_false]; refine hK_ _ ?_; clear hK_ K_)
  | (with_reducible refine gateK_yes ?_) | (refine gateK_no (by decide) ?_) | (with_reducible refine gateK_none ?_)
  | ((try first | refine WO_op rfl rfl rfl ?_ | refine WO_op0 rfl rfl ?_ | refine WD_op rfl rfl rfl ?_ | refine WD_op0 rfl rfl ?_); (refine WV_gen fun Q_ hQ_ => ?_; simp (disch := first | omega | (simp only [List.length_cons, List.length_nil, List.length_append]; omega)) only [bb, argF, ↓reduceIte, reduceCtorEq, Nat.reduceEqDiff, Nat.reduceLT, Nat.reduceLeDiff, Nat.reduceAdd, Nat.reduceMul, Nat.reduceSub, Nat.reduceBEq, Int.reduceToNat, List.append_assoc, List.length_append, cond_true, cond_false, List.length_cons, List.length_nil, List.cons_append, List.nil_append, List.append_nil, List.getElem?_cons_zero, List.getElem?_cons_succ, List.set_cons_zero, List.set_cons_succ, List.drop_zero, List.drop_succ_cons, List.take_zero, List.take_succ_cons, List.take_nil, List.drop_nil, eq_self, List.toList_toArray, beq_self_eq_true, hch, he, hib, newPtr_X wf, load1_X wf, loadAgg_X wf, store1_X wf, writeCells_X wf, makeFunc_def, ia_2, sz_2, ze_2, ia_3, sz_3, ia_4, sz_4, ia_24, sz_24, ia_26, sz_26, ze_26, ia_22, sz_22, ia_34, sz_34, pb_9, pb_10, pb_11, pb_12, pb_20, pb_31, pb_32]; first | (refine dec_split (Q := Q_) (fun hp_ => ?_) (fun hp_ => ?_) <;> first | (exfalso; omega) | (refine hQ_ _ _ ?_; clear hQ_ Q_)) | (refine dec_splitn (Q := Q_) (fun hp_ => ?_) (fun hp_ => ?_) <;> first | (exfalso; omega) | (refine hQ_ _ _ ?_; clear hQ_ Q_)) | (refine hQ_ _ _ ?_; clear hQ_ Q_)))
  | (refine WC_cond fun K_ hK_ => ?_; simp (disch := omega) only [evT_tmp, upd_apply, WB_some, ↓reduceIte, reduceCtorEq, Nat.reduceEqDiff, Nat.reduceLT]; refine hK_ _ ?_; clear hK_ K_)
  | (with_reducible refine condK_tt ?_) | (with_reducible refine condK_ff ?_) | (with_reducible refine roundQ_exit ?_) | (with_reducible refine roundQ_ret ?_)))
        (refine endQ_ret _ _ rfl (ret1 (by decide)) ?_; simp only [upd_apply, ↓reduceIte, reduceCtorEq, Nat.reduceEqDiff]; refine WV_flat rfl (by omega) ?_)
        exact ⟨rfl, rfl⟩
      | true =>
        rw [hb] at hib
        have hbi : bndIn N D := by
          unfold isBnd at hb
          rw [Bool.and_eq_true] at hb
          exact of_decide_eq_true hb.1
        have xat := x.at (m := m0 rows) (by omega) (fun i hi => hall _ (List.getElem_mem hi))
        have hpa : ∀ l w, w ≤ h.clock + l.length → (om Try.prog KK).call (.fn 32 [.agg [ii sp, ii st, a], ii what, .agg [ii N, ii D], .bool high]) (X h l w) = .ok (ii (sgn high (psum (bestG (gOf what) sp st rows (m0 rows) N D high) (rows.length * m0 rows)))) (X h l w) := fun l w hw => by
          rw [part sp st hsp hst a rvs rows (m0 rows) hn hm what N D hwh hbi.1 hbi.2 high (fun q hq => hof.1 _ (rAt_mem hall (by omega) hq)) _ (xat.up l w hw)]
          unfold refG
          rw [psum_sgn]
        generalize psum (bestG (gOf what) sp st rows (m0 rows) N D high) (rows.length * m0 rows) = S at *
        cases high
        · rw [sgn_ff] at hpa
          (repeat' (first
  | (with_reducible refine WC_seq ?_) | (refine WC_region ?_) | (with_reducible refine WC_skip ?_) | (with_reducible refine WC_label ?_) | (with_reducible refine WC_scope ?_) | (with_reducible refine WC_block ?_) | (with_reducible refine WC_ret ?_) | (with_reducible refine WC_exit ?_)
  | (with_reducible refine seqQ_norm ?_) | (with_reducible refine seqQ_ret ?_) | (with_reducible refine seqQ_exit ?_) | (with_reducible refine blkQ_norm ?_) | (with_reducible refine blkQ_ret ?_) | (with_reducible refine blkQ_here ?_) | (refine blkQ_out rfl ?_)
  | (refine WO_nil ?_)
  | (refine WD_nil ?_)
  | (refine WD_gate rfl rfl rfl rfl rfl fun K_ hK_ => ?_; simp only [upd_apply, asB_bool, asB_tup, ↓reduceIte, reduceCtorEq, Nat.reduceEqDiff, Bool.not_true, Bool.not_false]; refine hK_ _ ?_; clear hK_ K_)
  | (refine WO_gate rfl rfl rfl rfl rfl fun K_ hK_ => ?_; simp only [upd_apply, asB_bool, asB_tup, ↓reduceIte, reduceCtorEq, Nat.reduceEqDiff, Bool.not_true, Bool.not_false]; refine hK_ _ ?_; clear hK_ K_)
  | (with_reducible refine gateK_yes ?_) | (refine gateK_no (by decide) ?_) | (with_reducible refine gateK_none ?_)
  | ((try first | refine WO_op rfl rfl rfl ?_ | refine WO_op0 rfl rfl ?_ | refine WD_op rfl rfl rfl ?_ | refine WD_op0 rfl rfl ?_); (refine WV_gen fun Q_ hQ_ => ?_; simp (disch := first | omega | (simp only [List.length_cons, List.length_nil, List.length_append]; omega)) only [bb, argF, ↓reduceIte, reduceCtorEq, Nat.reduceEqDiff, Nat.reduceLT, Nat.reduceLeDiff, Nat.reduceAdd, Nat.reduceMul, Nat.reduceSub, Nat.reduceBEq, Int.reduceToNat, List.append_assoc, List.length_append, cond_true, cond_false, List.length_cons, List.length_nil, List.cons_append, List.nil_append, List.append_nil, List.getElem?_cons_zero, List.getElem?_cons_succ, List.set_cons_zero, List.set_cons_succ, List.drop_zero, List.drop_succ_cons, List.take_zero, List.take_succ_cons, List.take_nil, List.drop_nil, eq_self, List.toList_toArray, beq_self_eq_true, hch, he, hib, hpa, newPtr_X wf, load1_X wf, loadAgg_X wf, store1_X wf, writeCells_X wf, makeFunc_def, ia_2, sz_2, ze_2, ia_3, sz_3, ia_4, sz_4, ia_24, sz_24, ia_26, sz_26, ze_26, ia_22, sz_22, ia_34, sz_34, pb_9, pb_10, pb_11, pb_12, pb_20, pb_31, pb_32]; first | (refine dec_split (Q := Q_) (fun hp_ => ?_) (fun hp_ => ?_) <;> first | (exfalso; omega) | (refine hQ_ _ _ ?_; clear hQ_ Q_)) | (refine dec_splitn (Q := Q_) (fun hp_ => ?_) (fun hp_ => ?_) <;> first | (exfalso; omega) | (refine hQ_ _ _ ?_; clear hQ_ Q_)) | (refine hQ_ _ _ ?_; clear hQ_ Q_)))
  | (refine WC_cond fun K_ hK_ => ?_; simp (disch := omega) only [evT_tmp, upd_apply, WB_some, ↓reduceIte, reduceCtorEq, Nat.reduceEqDiff, Nat.reduceLT]; refine hK_ _ ?_; clear hK_ K_)
  | (with_reducible refine condK_tt ?_) | (with_reducible refine condK_ff ?_) | (with_reducible refine roundQ_exit ?_) | (with_reducible refine roundQ_ret ?_)))
          all_goals (refine endQ_ret _ _ rfl (ret1 (by decide)) ?_; simp only [upd_apply, ↓reduceIte, reduceCtorEq, Nat.reduceEqDiff]; refine WV_flat rfl (by omega) ?_)
          all_goals first
            | exact ⟨by rw [if_pos (by omega)], rfl⟩
            | exact ⟨by rw [if_neg (by omega)], rfl⟩
        · rw [sgn_tt] at hpa
          (repeat' (first
  | (with_reducible refine WC_seq ?_) | (refine WC_region ?_) | (with_reducible refine WC_skip ?_) | (with_reducible refine WC_label ?_) | (with_reducible refine WC_scope ?_) | (with_reducible refine WC_block ?_) | (with_reducible refine WC_ret ?_) | (with_reducible refine WC_exit ?_)
  | (with_reducible refine seqQ_norm ?_) | (with_reducible refine seqQ_ret ?_) | (with_reducible refine seqQ_exit ?_) | (with_reducible refine blkQ_norm ?_) | (with_reducible refine blkQ_ret ?_) | (with_reducible refine blkQ_here ?_) | (refine blkQ_out rfl ?_)
  | (refine WO_nil ?_)
  | (refine WD_nil ?_)
  | (refine WD_gate rfl rfl rfl rfl rfl fun K_ hK_ => ?_; simp only [upd_apply, asB_bool, asB_tup, ↓reduceIte, reduceCtorEq, Nat.reduceEqDiff, Bool.not_true, Bool.not_false]; refine hK_ _ ?_; clear hK_ K_)
  | (refine WO_gate rfl rfl rfl rfl rfl fun K_ hK_ => ?_; simp only [upd_apply, asB_bool, asB_tup, ↓reduceIte, reduceCtorEq, Nat.reduceEqDiff, Bool.not_true, Bool.not_false]; refine hK_ _ ?_; clear hK_ K_)
  | (with_reducible refine gateK_yes ?_) | (refine gateK_no (by decide) ?_) | (with_reducible refine gateK_none ?_)
  | ((try first | refine WO_op rfl rfl rfl ?_ | refine WO_op0 rfl rfl ?_ | refine WD_op rfl rfl rfl ?_ | refine WD_op0 rfl rfl ?_); (refine WV_gen fun Q_ hQ_ => ?_; simp (disch := first | omega | (simp only [List.length_cons, List.length_nil, List.length_append]; omega)) only [bb, argF, ↓reduceIte, reduceCtorEq, Nat.reduceEqDiff, Nat.reduceLT, Nat.reduceLeDiff, Nat.reduceAdd, Nat.reduceMul, Nat.reduceSub, Nat.reduceBEq, Int.reduceToNat, List.append_assoc, List.length_append, cond_true, cond_false, List.length_cons, List.length_nil, List.cons_append, List.nil_append, List.append_nil, List.getElem?_cons_zero, List.getElem?_cons_succ, List.set_cons_zero, List.set_cons_succ, List.drop_zero, List.drop_succ_cons, List.take_zero, List.take_succ_cons, List.take_nil, List.drop_nil, eq_self, List.toList_toArray, beq_self_eq_true, hch, he, hib, hpa, newPtr_X wf, load1_X wf, loadAgg_X wf, store1_X wf, writeCells_X wf, makeFunc_def, ia_2, sz_2, ze_2, ia_3, sz_3, ia_4, sz_4, ia_24, sz_24, ia_26, sz_26, ze_26, ia_22, sz_22, ia_34, sz_34, pb_9, pb_10, pb_11, pb_12, pb_20, pb_31, pb_32]; first | (refine dec_split (Q := Q_) (fun hp_ => ?_) (fun hp_ => ?_) <;> first | (exfalso; omega) | (refine hQ_ _ _ ?_; clear hQ_ Q_)) | (refine dec_splitn (Q := Q_) (fun hp_ => ?_) (fun hp_ => ?_) <;> first | (exfalso; omega) | (refine hQ_ _ _ ?_; clear hQ_ Q_)) | (refine hQ_ _ _ ?_; clear hQ_ Q_)))
  | (refine WC_cond fun K_ hK_ => ?_; simp (disch := omega) only [evT_tmp, upd_apply, WB_some, ↓reduceIte, reduceCtorEq, Nat.reduceEqDiff, Nat.reduceLT]; refine hK_ _ ?_; clear hK_ K_)
  | (with_reducible refine condK_tt ?_) | (with_reducible refine condK_ff ?_) | (with_reducible refine roundQ_exit ?_) | (with_reducible refine roundQ_ret ?_)))
          all_goals (refine endQ_ret _ _ rfl (ret1 (by decide)) ?_; simp only [upd_apply, ↓reduceIte, reduceCtorEq, Nat.reduceEqDiff]; refine WV_flat rfl (by omega) ?_)
          all_goals first
            | exact ⟨by rw [if_pos (by omega)], rfl⟩
            | exact ⟨by rw [if_neg (by omega)], rfl⟩
    · rw [if_pos hwh]
      (repeat' (first
  | (with_reducible refine WC_seq ?_) | (refine WC_region ?_) | (with_reducible refine WC_skip ?_) | (with_reducible refine WC_label ?_) | (with_reducible refine WC_scope ?_) | (with_reducible refine WC_block ?_) | (with_reducible refine WC_ret ?_) | (with_reducible refine WC_exit ?_)
  | (with_reducible refine seqQ_norm ?_) | (with_reducible refine seqQ_ret ?_) | (with_reducible refine seqQ_exit ?_) | (with_reducible refine blkQ_norm ?_) | (with_reducible refine blkQ_ret ?_) | (with_reducible refine blkQ_here ?_) | (refine blkQ_out rfl ?_)
  | (refine WO_nil ?_)
  | (refine WD_nil ?_)
  | (refine WD_gate rfl rfl rfl rfl rfl fun K_ hK_ => ?_; simp only [upd_apply, asB_bool, asB_tup, ↓reduceIte, reduceCtorEq, Nat.reduceEqDiff, Bool.not_true, Bool.not_false]; refine hK_ _ ?_; clear hK_ K_)
  | (refine WO_gate rfl rfl rfl rfl rfl fun K_ hK_ => ?_; simp only [upd_apply, asB_bool, asB_tup, ↓reduceIte, reduceCtorEq, Nat.reduceEqDiff, Bool.not_true, Bool.not_false]; refine hK_ _ ?_; clear hK_ K_)
  | (with_reducible refine gateK_yes ?_) | (refine gateK_no (by decide) ?_) | (with_reducible refine gateK_none ?_)
  | ((try first | refine WO_op rfl rfl rfl ?_ | refine WO_op0 rfl rfl ?_ | refine WD_op rfl rfl rfl ?_ | refine WD_op0 rfl rfl ?_); (refine WV_gen fun Q_ hQ_ => ?_; simp (disch := first | omega | (simp only [List.length_cons, List.length_nil, List.length_append]; omega)) only [bb, argF, ↓reduceIte, reduceCtorEq, Nat.reduceEqDiff, Nat.reduceLT, Nat.reduceLeDiff, Nat.reduceAdd, Nat.reduceMul, Nat.reduceSub, Nat.reduceBEq, Int.reduceToNat, List.append_assoc, List.length_append, cond_true, cond_false, List.length_cons, List.length_nil, List.cons_append, List.nil_append, List.append_nil, List.getElem?_cons_zero, List.getElem?_cons_succ, List.set_cons_zero, List.set_cons_succ, List.drop_zero, List.drop_succ_cons, List.take_zero, List.take_succ_cons, List.take_nil, List.drop_nil, eq_self, List.toList_toArray, beq_self_eq_true, hch, he, newPtr_X wf, load1_X wf, loadAgg_X wf, store1_X wf, writeCells_X wf, makeFunc_def, ia_2, sz_2, ze_2, ia_3, sz_3, ia_4, sz_4, ia_24, sz_24, ia_26, sz_26, ze_26, ia_22, sz_22, ia_34, sz_34, pb_9, pb_10, pb_11, pb_12, pb_20, pb_31, pb_32]; first | (refine dec_split (Q := Q_) (fun hp_ => ?_) (fun hp_ => ?_) <;> first | (exfalso; omega) | (refine hQ_ _ _ ?_; clear hQ_ Q_)) | (refine dec_splitn (Q := Q_) (fun hp_ => ?_) (fun hp_ => ?_) <;> first | (exfalso; omega) | (refine hQ_ _ _ ?_; clear hQ_ Q_)) | (refine hQ_ _ _ ?_; clear hQ_ Q_)))
  | (refine WC_cond fun K_ hK_ => ?_; simp (disch := omega) only [evT_tmp, upd_apply, WB_some, ↓reduceIte, reduceCtorEq, Nat.reduceEqDiff, Nat.reduceLT]; refine hK_ _ ?_; clear hK_ K_)
  | (with_reducible refine condK_tt ?_) | (with_reducible refine condK_ff ?_) | (with_reducible refine roundQ_exit ?_) | (with_reducible refine roundQ_ret ?_)))
      all_goals (refine endQ_ret _ _ rfl (ret1 (by decide)) ?_; simp only [upd_apply, ↓reduceIte, reduceCtorEq, Nat.reduceEqDiff]; refine WV_flat rfl (by omega) ?_)
      all_goals exact ⟨rfl, rfl⟩
  · rw [if_pos he]
    (repeat' (first
  | (with_reducible refine WC_seq ?_) | (refine WC_region ?_) | (with_reducible refine WC_skip ?_) | (with_reducible refine WC_label ?_) | (with_reducible refine WC_scope ?_) | (with_reducible refine WC_block ?_) | (with_reducible refine WC_ret ?_) | (with_reducible refine WC_exit ?_)
  | (with_reducible refine seqQ_norm ?_) | (with_reducible refine seqQ_ret ?_) | (with_reducible refine seqQ_exit ?_) | (with_reducible refine blkQ_norm ?_) | (with_reducible refine blkQ_ret ?_) | (with_reducible refine blkQ_here ?_) | (refine blkQ_out rfl ?_)
  | (refine WO_nil ?_)
  | (refine WD_nil ?_)
  | (refine WD_gate rfl rfl rfl rfl rfl fun K_ hK_ => ?_; simp only [upd_apply, asB_bool, asB_tup, ↓reduceIte, reduceCtorEq, Nat.reduceEqDiff, Bool.not_true, Bool.not_false]; refine hK_ _ ?_; clear hK_ K_)
  | (refine WO_gate rfl rfl rfl rfl rfl fun K_ hK_ => ?_; simp only [upd_apply, asB_bool, asB_tup, ↓reduceIte, reduceCtorEq, Nat.reduceEqDiff, Bool.not_true, Bool.not_false]; refine hK_ _ ?_; clear hK_ K_)
  | (with_reducible refine gateK_yes ?_) | (refine gateK_no (by decide) ?_) | (with_reducible refine gateK_none ?_)
  | ((try first | refine WO_op rfl rfl rfl ?_ | refine WO_op0 rfl rfl ?_ | refine WD_op rfl rfl rfl ?_ | refine WD_op0 rfl rfl ?_); (refine WV_gen fun Q_ hQ_ => ?_; simp (disch := first | omega | (simp only [List.length_cons, List.length_nil, List.length_append]; omega)) only [bb, argF, ↓reduceIte, reduceCtorEq, Nat.reduceEqDiff, Nat.reduceLT, Nat.reduceLeDiff, Nat.reduceAdd, Nat.reduceMul, Nat.reduceSub, Nat.reduceBEq, Int.reduceToNat, List.append_assoc, List.length_append, cond_true, cond_false, List.length_cons, List.length_nil, List.cons_append, List.nil_append, List.append_nil, List.getElem?_cons_zero, List.getElem?_cons_succ, List.set_cons_zero, List.set_cons_succ, List.drop_zero, List.drop_succ_cons, List.take_zero, List.take_succ_cons, List.take_nil, List.drop_nil, eq_self, List.toList_toArray, beq_self_eq_true, hch, newPtr_X wf, load1_X wf, loadAgg_X wf, store1_X wf, writeCells_X wf, makeFunc_def, ia_2, sz_2, ze_2, ia_3, sz_3, ia_4, sz_4, ia_24, sz_24, ia_26, sz_26, ze_26, ia_22, sz_22, ia_34, sz_34, pb_9, pb_10, pb_11, pb_12, pb_20, pb_31, pb_32]; first | (refine dec_split (Q := Q_) (fun hp_ => ?_) (fun hp_ => ?_) <;> first | (exfalso; omega) | (refine hQ_ _ _ ?_; clear hQ_ Q_)) | (refine dec_splitn (Q := Q_) (fun hp_ => ?_) (fun hp_ => ?_) <;> first | (exfalso; omega) | (refine hQ_ _ _ ?_; clear hQ_ Q_)) | (refine hQ_ _ _ ?_; clear hQ_ Q_)))
  | (refine WC_cond fun K_ hK_ => ?_; simp (disch := omega) only [evT_tmp, upd_apply, WB_some, ↓reduceIte, reduceCtorEq, Nat.reduceEqDiff, Nat.reduceLT]; refine hK_ _ ?_; clear hK_ K_)
  | (with_reducible refine condK_tt ?_) | (with_reducible refine condK_ff ?_) | (with_reducible refine roundQ_exit ?_) | (with_reducible refine roundQ_ret ?_)))
    (refine endQ_ret _ _ rfl (ret1 (by decide)) ?_; simp only [upd_apply, ↓reduceIte, reduceCtorEq, Nat.reduceEqDiff]; refine WV_flat rfl (by omega) ?_)
    exact ⟨rfl, rfl⟩

theorem lawBounds (sp st what N D : Int) (high : Bool) (a : AV) (rvs : List AV) (rows : List (List (Int × Int))) (h : H) (x : HullR h a rvs rows) :
    (om Try.prog KK).call (.fn 3 [.agg [ii sp, ii st, a], ii what, .agg [ii N, ii D], .bool high]) h = .ok (.bool true) h := by
  have wf := x.wf
  have y0 : ∀ h', Wf h' → YsR h' .nils [] [] := fun h' wf' => ⟨wf', Sl.nil _ _, fun i hi => absurd hi (Nat.not_lt_zero i)⟩
  have hgr : ∀ l w, w ≤ h.clock + l.length → (om Try.prog KK).call (.fn 9 [.agg [ii sp, ii st, a], .nils]) (X h l w) = .ok (.bool (decide (Great rows []))) (X h l w) := fun l w hw => great sp st a .nils rvs [] rows [] _ (x.up l w hw) (y0 _ (wf.X hw))
  have hwk : ∀ l w, (om Try.prog KK).call (.fn 10 []) (X h l w) = .ok (.bool true) (X h l w) := fun l w => works _
  have h11 : ∀ l w, w ≤ h.clock + l.length → (om Try.prog KK).call (.fn 11 [.agg [ii sp, ii st, a], ii what, .agg [ii N, ii D], .bool high]) (X h l w) = .ok (ii (bndErr sp st rows what N D high)) (X h l w) := fun l w hw => checkBound sp st a rvs rows what N D high _ (x.up l w hw)
  have h12 : ∀ l w, w ≤ h.clock + l.length → (om Try.prog KK).call (.fn 12 [.agg [ii sp, ii st, a], ii what, .agg [ii N, ii D], .bool high]) (X h l w) = .ok (ii (bndErr sp st rows what N D high)) (X h l w) := fun l w hw => checkBoundR sp st a rvs rows what N D high _ (x.up l w hw)
  refine WV_to (WV_call (fn := Try.f3) Try.func3 rfl rfl rfl rfl rfl ?_)
  simp only [argF]
  by_cases hG : Great rows []
  · rw [decide_eq_true hG] at hgr
    (repeat' (first
  | (with_reducible refine WC_seq ?_) | (refine WC_region ?_) | (with_reducible refine WC_skip ?_) | (with_reducible refine WC_label ?_) | (with_reducible refine WC_scope ?_) | (with_reducible refine WC_block ?_) | (with_reducible refine WC_ret ?_) | (with_reducible refine WC_exit ?_)
  | (with_reducible refine seqQ_norm ?_) | (with_reducible refine seqQ_ret ?_) | (with_reducible refine seqQ_exit ?_) | (with_reducible refine blkQ_norm ?_) | (with_reducible refine blkQ_ret ?_) | (with_reducible refine blkQ_here ?_) | (refine blkQ_out rfl ?_)
  | (refine WO_nil ?_)
  | (refine WD_nil ?_)
  | (refine WD_gate rfl rfl rfl rfl rfl fun K_ hK_ => ?_; simp only [upd_apply, asB_bool, asB_tup, ↓reduceIte, reduceCtorEq, Nat.reduceEqDiff, Bool.not_true, Bool.not_false]; refine hK_ _ ?_; clear hK_ K_)
  | (refine WO_gate rfl rfl rfl rfl rfl fun K_ hK_ => ?_; simp only [upd_apply, asB_bool, asB_tup, ↓reduceIte, reduceCtorEq, Nat.reduceEqDiff, Bool.not_true, Bool.not_false]; refine hK_ _ ?_; clear hK_ K_)
  | (with_reducible refine gateK_yes ?_) | (refine gateK_no (by decide) ?_) | (with_reducible refine gateK_none ?_)
  | ((try first | refine WO_op rfl rfl rfl ?_ | refine WO_op0 rfl rfl ?_ | refine WD_op rfl rfl rfl ?_ | refine WD_op0 rfl rfl ?_); (refine WV_gen fun Q_ hQ_ => ?_; simp (disch := first | omega | (simp only [List.length_cons, List.length_nil, List.length_append]; omega)) only [bb, argF, ↓reduceIte, reduceCtorEq, Nat.reduceEqDiff, Nat.reduceLT, Nat.reduceLeDiff, Nat.reduceAdd, Nat.reduceMul, Nat.reduceSub, Nat.reduceBEq, Int.reduceToNat, List.append_assoc, List.length_append, cond_true, cond_false, List.length_cons, List.length_nil, List.cons_append, List.nil_append, List.append_nil, List.getElem?_cons_zero, List.getElem?_cons_succ, List.set_cons_zero, List.set_cons_succ, List.drop_zero, List.drop_succ_cons, List.take_zero, List.take_succ_cons, List.take_nil, List.drop_nil, eq_self, List.toList_toArray, beq_self_eq_true, hgr, hwk, newPtr_X wf, load1_X wf, loadAgg_X wf, store1_X wf, writeCells_X wf, makeFunc_def, ia_2, sz_2, ze_2, ia_3, sz_3, ia_4, sz_4, ia_24, sz_24, ia_26, sz_26, ze_26, ia_22, sz_22, ia_34, sz_34, pb_9, pb_10, pb_11, pb_12, pb_20, pb_31, pb_32]; first | (refine dec_split (Q := Q_) (fun hp_ => ?_) (fun hp_ => ?_) <;> first | (exfalso; omega) | (refine hQ_ _ _ ?_; clear hQ_ Q_)) | (refine dec_splitn (Q := Q_) (fun hp_ => ?_) (fun hp_ => ?_) <;> first | (exfalso; omega) | (refine hQ_ _ _ ?_; clear hQ_ Q_)) | (refine hQ_ _ _ ?_; clear hQ_ Q_)))
  | (refine WC_cond fun K_ hK_ => ?_; simp (disch := omega) only [evT_tmp, upd_apply, WB_some, ↓reduceIte, reduceCtorEq, Nat.reduceEqDiff, Nat.reduceLT]; refine hK_ _ ?_; clear hK_ K_)
  | (with_reducible refine condK_tt ?_) | (with_reducible refine condK_ff ?_) | (with_reducible refine roundQ_exit ?_) | (with_reducible refine roundQ_ret ?_)))
    (refine endQ_ret _ _ rfl (ret1 (by decide)) ?_; simp only [upd_apply, ↓reduceIte, reduceCtorEq, Nat.reduceEqDiff]; refine WV_flat rfl (by omega) ?_)
    exact ⟨rfl, rfl⟩
  · rw [decide_eq_false hG] at hgr
    (repeat' (first
  | (with_reducible refine WC_seq ?_) | (refine WC_region ?_) | (with_reducible refine WC_skip ?_) | (with_reducible refine WC_label ?_) | (with_reducible refine WC_scope ?_) | (with_reducible refine WC_block ?_) | (with_reducible refine WC_ret ?_) | (with_reducible refine WC_exit ?_)
  | (with_reducible refine seqQ_norm ?_) | (with_reducible refine seqQ_ret ?_) | (with_reducible refine seqQ_exit ?_) | (with_reducible refine blkQ_norm ?_) | (with_reducible refine blkQ_ret ?_) | (with_reducible refine blkQ_here ?_) | (refine blkQ_out rfl ?_)
  | (refine WO_nil ?_)
  | (refine WD_nil ?_)
  | (refine WD_gate rfl rfl rfl rfl rfl fun K_ hK_ => ?_; simp only [upd_apply, asB_bool, asB_tup, ↓reduceIte, reduceCtorEq, Nat.reduceEqDiff, Bool.not_true, Bool.not_false]; refine hK_ _ ?_; clear hK_ K_)
  | (refine WO_gate rfl rfl rfl rfl rfl fun K_ hK_ => ?_; simp only [upd_apply, asB_bool, asB_tup, ↓reduceIte, reduceCtorEq, Nat.reduceEqDiff, Bool.not_true, Bool.not_false]; refine hK_ _ ?_; clear hK_ K_)
  | (with_reducible refine gateK_yes ?_) | (refine gateK_no (by decide) ?_) | (with_reducible refine gateK_none ?_)
  | ((try first | refine WO_op rfl rfl rfl ?_ | refine WO_op0 rfl rfl ?_ | refine WD_op rfl rfl rfl ?_ | refine WD_op0 rfl rfl ?_); (refine WV_gen fun Q_ hQ_ => ?_; simp (disch := first | omega | (simp only [List.length_cons, List.length_nil, List.length_append]; omega)) only [bb, argF, ↓reduceIte, reduceCtorEq, Nat.reduceEqDiff, Nat.reduceLT, Nat.reduceLeDiff, Nat.reduceAdd, Nat.reduceMul, Nat.reduceSub, Nat.reduceBEq, Int.reduceToNat, List.append_assoc, List.length_append, cond_true, cond_false, List.length_cons, List.length_nil, List.cons_append, List.nil_append, List.append_nil, List.getElem?_cons_zero, List.getElem?_cons_succ, List.set_cons_zero, List.set_cons_succ, List.drop_zero, List.drop_succ_cons, List.take_zero, List.take_succ_cons, List.take_nil, List.drop_nil, eq_self, List.toList_toArray, beq_self_eq_true, hgr, newPtr_X wf, load1_X wf, loadAgg_X wf, store1_X wf, writeCells_X wf, makeFunc_def, ia_2, sz_2, ze_2, ia_3, sz_3, ia_4, sz_4, ia_24, sz_24, ia_26, sz_26, ze_26, ia_22, sz_22, ia_34, sz_34, pb_9, pb_10, pb_11, pb_12, pb_20, pb_31, pb_32]; first | (refine dec_split (Q := Q_) (fun hp_ => ?_) (fun hp_ => ?_) <;> first | (exfalso; omega) | (refine hQ_ _ _ ?_; clear hQ_ Q_)) | (refine dec_splitn (Q := Q_) (fun hp_ => ?_) (fun hp_ => ?_) <;> first | (exfalso; omega) | (refine hQ_ _ _ ?_; clear hQ_ Q_)) | (refine hQ_ _ _ ?_; clear hQ_ Q_)))
  | (refine WC_cond fun K_ hK_ => ?_; simp (disch := omega) only [evT_tmp, upd_apply, WB_some, ↓reduceIte, reduceCtorEq, Nat.reduceEqDiff, Nat.reduceLT]; refine hK_ _ ?_; clear hK_ K_)
  | (with_reducible refine condK_tt ?_) | (with_reducible refine condK_ff ?_) | (with_reducible refine roundQ_exit ?_) | (with_reducible refine roundQ_ret ?_)))
    refine WC_drawnB [.no, .no, .no, .no, .no, .no, .no, .no, .no, .full, .full, .full, .full, .full, .full] (by kernel_rfl) ?_
    (repeat' (first
  | (with_reducible refine WC_seq ?_) | (refine WC_region ?_) | (with_reducible refine WC_skip ?_) | (with_reducible refine WC_label ?_) | (with_reducible refine WC_scope ?_) | (with_reducible refine WC_block ?_) | (with_reducible refine WC_ret ?_) | (with_reducible refine WC_exit ?_)
  | (with_reducible refine seqQ_norm ?_) | (with_reducible refine seqQ_ret ?_) | (with_reducible refine seqQ_exit ?_) | (with_reducible refine blkQ_norm ?_) | (with_reducible refine blkQ_ret ?_) | (with_reducible refine blkQ_here ?_) | (refine blkQ_out rfl ?_)
  | (refine WO_nil ?_)
  | (refine WD_nil ?_)
  | (refine WD_gate rfl rfl rfl rfl rfl fun K_ hK_ => ?_; simp only [upd_apply, asB_bool, asB_tup, ↓reduceIte, reduceCtorEq, Nat.reduceEqDiff, Bool.not_true, Bool.not_false]; refine hK_ _ ?_; clear hK_ K_)
  | (refine WO_gate rfl rfl rfl rfl rfl fun K_ hK_ => ?_; simp only [upd_apply, asB_bool, asB_tup, ↓reduceIte, reduceCtorEq, Nat.reduceEqDiff, Bool.not_true, Bool.not_false]; refine hK_ _ ?_; clear hK_ K_)
  | (with_reducible refine gateK_yes ?_) | (refine gateK_no (by decide) ?_) | (with_reducible refine gateK_none ?_)
  | ((try first | refine WO_op rfl rfl rfl ?_ | refine WO_op0 rfl rfl ?_ | refine WD_op rfl rfl rfl ?_ | refine WD_op0 rfl rfl ?_); (refine WV_gen fun Q_ hQ_ => ?_; simp (disch := first | omega | (simp only [List.length_cons, List.length_nil, List.length_append]; omega)) only [bb, argF, ↓reduceIte, reduceCtorEq, Nat.reduceEqDiff, Nat.reduceLT, Nat.reduceLeDiff, Nat.reduceAdd, Nat.reduceMul, Nat.reduceSub, Nat.reduceBEq, Int.reduceToNat, List.append_assoc, List.length_append, cond_true, cond_false, List.length_cons, List.length_nil, List.cons_append, List.nil_append, List.append_nil, List.getElem?_cons_zero, List.getElem?_cons_succ, List.set_cons_zero, List.set_cons_succ, List.drop_zero, List.drop_succ_cons, List.take_zero, List.take_succ_cons, List.take_nil, List.drop_nil, eq_self, List.toList_toArray, beq_self_eq_true, h11, h12, hwk, newPtr_X wf, load1_X wf, loadAgg_X wf, store1_X wf, writeCells_X wf, makeFunc_def, ia_2, sz_2, ze_2, ia_3, sz_3, ia_4, sz_4, ia_24, sz_24, ia_26, sz_26, ze_26, ia_22, sz_22, ia_34, sz_34, pb_9, pb_10, pb_11, pb_12, pb_20, pb_31, pb_32]; first | (refine dec_split (Q := Q_) (fun hp_ => ?_) (fun hp_ => ?_) <;> first | (exfalso; omega) | (refine hQ_ _ _ ?_; clear hQ_ Q_)) | (refine dec_splitn (Q := Q_) (fun hp_ => ?_) (fun hp_ => ?_) <;> first | (exfalso; omega) | (refine hQ_ _ _ ?_; clear hQ_ Q_)) | (refine hQ_ _ _ ?_; clear hQ_ Q_)))
  | (refine WC_cond fun K_ hK_ => ?_; simp (disch := omega) only [evT_tmp, upd_apply, WB_some, ↓reduceIte, reduceCtorEq, Nat.reduceEqDiff, Nat.reduceLT]; refine hK_ _ ?_; clear hK_ K_)
  | (with_reducible refine condK_tt ?_) | (with_reducible refine condK_ff ?_) | (with_reducible refine roundQ_exit ?_) | (with_reducible refine roundQ_ret ?_)))
    (refine endQ_ret _ _ rfl (ret1 (by decide)) ?_; simp only [upd_apply, ↓reduceIte, reduceCtorEq, Nat.reduceEqDiff]; refine WV_flat rfl (by omega) ?_)
    exact ⟨rfl, rfl⟩
end Go.Proofs.Ytghondkiondeaac
end

/- EvKb -/
section
/- The statement BoxBounds of layer 2: whether no true hull has a number beyond a bound is what the definition says, for all hulls, kinds and bounds; no condition. -/
namespace Go.Proofs.Ytghondkiondeaac.boxBounds
open Go.ChangeShapes Go.WideShapes Go.ChangeAt Go.RowKit Go.Ev
set_option maxRecDepth 100000
set_option maxHeartbeats 0
theorem cells26 : Try.prog.cellsOf 26 = 2 := by kernel_rfl
theorem types26 : Try.prog.cellTypes Try.prog.depth 26 = some [2, 2] := by kernel_rfl

theorem contract (H : Type) (enc : TypeId × Value → H) (W : World) (base : Nat) (args : Array Value) (ds gs : List (DataW H)) (before : List MemPlace) (hval : ∀ (j : Nat) t v, Try.f3.params[j]? = some t → args[j]? = some v → Value.okWide Try.prog W .any base t v)
    (hW : DataW.Whole enc Try.prog Try.f3.params.toList Rows.boxBoundsSpec.vars false W args.toList ds gs before) :
    Calls Try.prog 3 args W fun e W' => ∃ v, e = .returned v ∧ Rows.boxBoundsSpec.post enc Try.prog Try.f3 false true false false W args v W' := by
  have hW' := hW
  obtain ⟨p, q, hA0, hV, rfl, hfz, hnd⟩ := hW
  have hA : DataW.TrodAll enc Try.prog W 0 (fun _ => true) true Try.f3.params.toList args.toList ds p := hA0
  rw [Try.params3] at hA hval
  obtain ⟨v0, v1, v2, v3, d0, d1, d2, d3, p0, p1, p2, p3, rfl, rfl, rfl, ⟨n0, h0⟩, ⟨n1, h1⟩, ⟨n2, h2⟩, ⟨n3, h3⟩⟩ := trodAll_four hA
  obtain ⟨sp, st, a, rvs, rows, va, xh⟩ := hull_in (hval 0 24 v0 rfl rfl) h0
  obtain ⟨what, hz⟩ := okWideInt Try.underlying3 (okWide_cell (P := Try.prog) Try.underlying3 (fun _ e => by cases e) (fun _ _ e => by cases e) (hval 1 3 v1 rfl rfl))
  subst hz
  obtain ⟨f0, f1, hu, o0, o1, t0, t1, _, _⟩ := under29
  obtain ⟨u, w, n, y1, y2, rfl, k0, k1, r0, r1⟩ := open_two hu cells26 o0 o1 t0 t1 cells2 cells2 types26 (hval 2 26 v2 rfl rfl) h2
  obtain ⟨N, hN⟩ := okWideInt Try.underlying2 k0
  subst hN
  obtain ⟨D, hD⟩ := okWideInt Try.underlying2 k1
  subst hD
  obtain ⟨high, hh⟩ := okWideBool Try.underlying4 (okWide_cell (P := Try.prog) Try.underlying4 (fun _ e => by cases e) (fun _ _ e => by cases e) (hval 3 4 v3 rfl rfl))
  subst hh
  have walk := lawBounds sp st what N D high a rvs rows (startW W) xh
  have hargs : VL (startWR W) [.agg [ii sp, ii st, a], ii what, .agg [ii N, ii D], .bool high] (#[v0, .int .i64 what, .agg #[.int .i64 N, .int .i64 D], .bool high] : Array Value).toList :=
    .cons _ _ _ _ va (.cons _ _ _ _ (.int _ _) (.cons _ _ _ _ (.agg _ _ (.cons _ _ _ _ (.int _ _) (.cons _ _ _ _ (.int _ _) .nil))) (.cons _ _ _ _ (.bool _) .nil)))
  refine (startW_true (P := Try.prog) mixed (K := KK) (fun c hc => by
    have : c = cW := List.mem_singleton.1 hc
    rw [this]; exact cW_ok) walk hargs).mono fun e W' ⟨he, hgr, hs⟩ => ?_
  subst he
  refine ⟨_, rfl, law_post laidOut (by
    rw [Try.params3]
    intro t ht
    rcases List.mem_cons.1 ht with rfl | ht
    · exact ⟨by kernel_rfl, of_decide_eq_true (by kernel_rfl)⟩
    rcases List.mem_cons.1 ht with rfl | ht
    · exact ⟨by kernel_rfl, of_decide_eq_true (by kernel_rfl)⟩
    rcases List.mem_cons.1 ht with rfl | ht
    · exact ⟨by kernel_rfl, of_decide_eq_true (by kernel_rfl)⟩
    rcases List.mem_cons.1 ht with rfl | ht
    · exact ⟨by kernel_rfl, of_decide_eq_true (by kernel_rfl)⟩
    cases ht) rfl (by kernel_rfl) Try.underlying4 (fun gs' ⟨q', hq⟩ => ?_) hW' hgr hs⟩
  obtain ⟨rfl, _⟩ := trodVars_none hq
  exact ⟨rfl, rfl, rfl⟩

theorem lifted (os : Os) (started : os.Started) (H : Type) (enc : TypeId × Value → H) :
    ReturnsInHanded {} Try.checked os 3 .any (Rows.boxBoundsSpec.pre6 enc Try.prog Try.f3 Rows.boxBoundsRow.domain false) (Rows.boxBoundsSpec.post enc Try.prog Try.f3 false true false false) := by
  refine returnsInHanded_of_change (C := Try.checked) own started (by kernel_rfl) Try.func3
    (ChangeSpec.witness6 (enc := enc) (C := Try.checked) false ⟨#[], #[.agg #[.int .i64 0, .int .i64 0, .slice none 0 0], .int .i64 0, .agg #[.int .i64 0, .int .i64 0], .bool false], []⟩ 8 (by kernel_rfl) (by kernel_rfl) (by kernel_rfl) (by kernel_rfl)) ?_
  intro W base args ds gs before hval hW _ _
  exact contract H enc W base args ds gs before hval hW

theorem holds : Rows.BoxBoundsSaid :=
  OpenClaim.holds_of_wide 3 Try.f3 rfl rfl rfl rfl rfl rfl rfl ⟨rfl, rfl, rfl, rfl, rfl⟩ rfl rfl rfl rfl rfl (by kernel_rfl) Try.func3 (by kernel_rfl)
    (of_decide_eq_true (by kernel_rfl)) (by unfold Func.isWrapper; first | (rw [if_pos (by decide +kernel)]; kernel_rfl) | (rw [if_neg (by decide +kernel)]; exact ⟨rfl, rfl⟩))
    (fun os started H enc _ => lifted os started H enc)
end Go.Proofs.Ytghondkiondeaac.boxBounds
end
