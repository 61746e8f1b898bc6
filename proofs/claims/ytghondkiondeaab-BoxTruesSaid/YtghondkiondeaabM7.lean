import Derived.Test.YtghondkiondeaabM6
import Derived.Test.YtghondkiondeaabChecked
import Derived.Eval
import Derived.KernelRfl
import Derived.Test.YtghondkiondeaabRows
import Derived.WalkKit
import Derived.ProofKit
import Derived.OpenShut
/- EvJ1 -/
section
/-
  LAYER 2: the statement BoxTrues, walked.
-/
namespace Go.Proofs.Ytghondkiondeaab
open Go.Ev
set_option maxRecDepth 100000
set_option linter.unusedSimpArgs false
set_option linter.unusedVariables false
set_option maxHeartbeats 2000000

theorem under29 : ∃ f0 f1 : Field, Try.prog.underlying 29 = some (.struct #[f0, f1]) ∧ f0.offset = 0 ∧ f1.offset = 1 ∧ f0.type = 2 ∧ f1.type = 2 ∧ f0.name ≠ "_" ∧ f1.name ≠ "_" := ⟨_, _, Try.underlying29, rfl, rfl, rfl, rfl, by decide, by decide⟩
theorem eqR {x y : Operand} {a b : Int} : binE Try.prog .eql 29 x y (.agg [ii a, ii b]) (.agg [ii a, ii b]) = some (.bool true) := by
  obtain ⟨f0, f1, hu, o0, o1, t0, t1, n0, n1⟩ := under29
  exact b_eql2_self hu (by rw [t0]; exact Try.underlying2) (by rw [t1]; exact Try.underlying2) o0 o1 n0 n1 (by kernel_rfl) (by kernel_rfl)

theorem works (h : H) : (om Try.prog KK).call (.fn 6 []) h = .ok (.bool true) h := by
  refine om_con (c := cW) (r := []) ?_
  rfl

/-- Has this too many parts? -/
def Great (rows : List (List (Int × Int))) (ys : List (List Int)) : Prop := 14 < rows.length ∨ 14 < ys.length ∨ (∃ row ∈ rows, 12 < row.length) ∨ ∃ y ∈ ys, 12 < y.length
instance (rows : List (List (Int × Int))) (ys : List (List Int)) : Decidable (Great rows ys) := by unfold Great; infer_instance

theorem great (sp st : Int) (a b : AV) (rvs yvs : List AV) (rows : List (List (Int × Int))) (ys : List (List Int)) (h : H) (x : HullR h a rvs rows) (y : YsR h b yvs ys) :
    (om Try.prog KK).call (.fn 5 [.agg [ii sp, ii st, a], b]) h = .ok (.bool (decide (Great rows ys))) h := by
  have wf := x.wf
  refine WV_to (WV_call (fn := Try.f5) Try.func5 rfl rfl rfl rfl rfl ?_)
  simp only [argF]
  have hlen : ∀ h', lenE Try.prog 22 a h' = some (ii (rows.length : Int)) := fun h' => x.sl.len un_22
  have hleny : ∀ h', lenE Try.prog 25 b h' = some (ii (ys.length : Int)) := fun h' => y.sl.len un_25
  by_cases g1 : 14 < rows.length
  · (repeat' (first
  | (with_reducible refine WC_seq ?_) | (refine WC_region ?_) | (with_reducible refine WC_skip ?_) | (with_reducible refine WC_label ?_) | (with_reducible refine WC_scope ?_) | (with_reducible refine WC_block ?_) | (with_reducible refine WC_ret ?_) | (with_reducible refine WC_exit ?_)
  | (with_reducible refine seqQ_norm ?_) | (with_reducible refine seqQ_ret ?_) | (with_reducible refine seqQ_exit ?_) | (with_reducible refine blkQ_norm ?_) | (with_reducible refine blkQ_ret ?_) | (with_reducible refine blkQ_here ?_) | (refine blkQ_out rfl ?_)
  | (refine WO_nil ?_)
  | (refine WD_nil ?_)
  | (refine WD_gate rfl rfl rfl rfl rfl fun K_ hK_ => ?_; simp only [upd_apply, asB_bool, asB_tup, ↓reduceIte, reduceCtorEq, Nat.reduceEqDiff, Bool.not_true, Bool.not_false]; refine hK_ _ ?_; clear hK_ K_)
  | (refine WO_gate rfl rfl rfl rfl rfl fun K_ hK_ => ?_; simp only [upd_apply, asB_bool, asB_tup, ↓reduceIte, reduceCtorEq, Nat.reduceEqDiff, Bool.not_true, Bool.not_false]; refine hK_ _ ?_; clear hK_ K_)
  | (with_reducible refine gateK_yes ?_) | (refine gateK_no (by decide) ?_) | (with_reducible refine gateK_none ?_)
  | ((try first | refine WO_op rfl rfl rfl ?_ | refine WO_op0 rfl rfl ?_ | refine WD_op rfl rfl rfl ?_ | refine WD_op0 rfl rfl ?_); (refine WV_gen fun Q_ hQ_ => ?_; simp (disch := first | omega | (simp only [List.length_cons, List.length_nil, List.length_append]; omega)) only [bb, argF, ↓reduceIte, reduceCtorEq, Nat.reduceEqDiff, Nat.reduceLT, Nat.reduceLeDiff, Nat.reduceAdd, Nat.reduceMul, Nat.reduceSub, Nat.reduceBEq, Int.reduceToNat, List.append_assoc, List.length_append, cond_true, cond_false, List.length_cons, List.length_nil, List.cons_append, List.nil_append, List.append_nil, List.getElem?_cons_zero, List.getElem?_cons_succ, List.set_cons_zero, List.set_cons_succ, List.drop_zero, List.drop_succ_cons, List.take_zero, List.take_succ_cons, List.take_nil, List.drop_nil, eq_self, List.toList_toArray, beq_self_eq_true, hlen, hleny, newPtr_X wf, load1_X wf, loadAgg_X wf, store1_X wf, writeCells_X wf, makeFunc_def, bs_29, ia_29, sz_29, ze_29, ia_2, sz_2, ze_2, ia_3, sz_3, ia_25, sz_25, ia_47, sz_47, ia_46, sz_46, ia_22, sz_22, ik_25, ik_47, ik_46, ik_22, fo_24_0, fo_24_1, fo_24_2, ia_24, sz_24, pb_5, pb_6, pb_7, pb_8, pb_9, pb_10, pb_11, pb_12, pb_13, pb_14]; first | (refine dec_split (Q := Q_) (fun hp_ => ?_) (fun hp_ => ?_) <;> first | (exfalso; omega) | (refine hQ_ _ _ ?_; clear hQ_ Q_)) | (refine dec_splitn (Q := Q_) (fun hp_ => ?_) (fun hp_ => ?_) <;> first | (exfalso; omega) | (refine hQ_ _ _ ?_; clear hQ_ Q_)) | (refine hQ_ _ _ ?_; clear hQ_ Q_)))
  | (refine WC_cond fun K_ hK_ => ?_; simp (disch := omega) only [evT_tmp, upd_apply, WB_some, ↓reduceIte, reduceCtorEq, Nat.reduceEqDiff, Nat.reduceLT]; refine hK_ _ ?_; clear hK_ K_)
  | (with_reducible refine condK_tt ?_) | (with_reducible refine condK_ff ?_) | (with_reducible refine roundQ_exit ?_) | (with_reducible refine roundQ_ret ?_)))
    (refine endQ_ret _ _ rfl (ret1 (by decide)) ?_; simp only [upd_apply, ↓reduceIte, reduceCtorEq, Nat.reduceEqDiff]; refine WV_flat rfl (by omega) ?_)
    exact ⟨by rw [decide_eq_true (.inl g1)], rfl⟩
  by_cases g2 : 14 < ys.length
  · (repeat' (first
  | (with_reducible refine WC_seq ?_) | (refine WC_region ?_) | (with_reducible refine WC_skip ?_) | (with_reducible refine WC_label ?_) | (with_reducible refine WC_scope ?_) | (with_reducible refine WC_block ?_) | (with_reducible refine WC_ret ?_) | (with_reducible refine WC_exit ?_)
  | (with_reducible refine seqQ_norm ?_) | (with_reducible refine seqQ_ret ?_) | (with_reducible refine seqQ_exit ?_) | (with_reducible refine blkQ_norm ?_) | (with_reducible refine blkQ_ret ?_) | (with_reducible refine blkQ_here ?_) | (refine blkQ_out rfl ?_)
  | (refine WO_nil ?_)
  | (refine WD_nil ?_)
  | (refine WD_gate rfl rfl rfl rfl rfl fun K_ hK_ => ?_; simp only [upd_apply, asB_bool, asB_tup, ↓reduceIte, reduceCtorEq, Nat.reduceEqDiff, Bool.not_true, Bool.not_false]; refine hK_ _ ?_; clear hK_ K_)
  | (refine WO_gate rfl rfl rfl rfl rfl fun K_ hK_ => ?_; simp only [upd_apply, asB_bool, asB_tup, ↓reduceIte, reduceCtorEq, Nat.reduceEqDiff, Bool.not_true, Bool.not_false]; refine hK_ _ ?_; clear hK_ K_)
  | (with_reducible refine gateK_yes ?_) | (refine gateK_no (by decide) ?_) | (with_reducible refine gateK_none ?_)
  | ((try first | refine WO_op rfl rfl rfl ?_ | refine WO_op0 rfl rfl ?_ | refine WD_op rfl rfl rfl ?_ | refine WD_op0 rfl rfl ?_); (refine WV_gen fun Q_ hQ_ => ?_; simp (disch := first | omega | (simp only [List.length_cons, List.length_nil, List.length_append]; omega)) only [bb, argF, ↓reduceIte, reduceCtorEq, Nat.reduceEqDiff, Nat.reduceLT, Nat.reduceLeDiff, Nat.reduceAdd, Nat.reduceMul, Nat.reduceSub, Nat.reduceBEq, Int.reduceToNat, List.append_assoc, List.length_append, cond_true, cond_false, List.length_cons, List.length_nil, List.cons_append, List.nil_append, List.append_nil, List.getElem?_cons_zero, List.getElem?_cons_succ, List.set_cons_zero, List.set_cons_succ, List.drop_zero, List.drop_succ_cons, List.take_zero, List.take_succ_cons, List.take_nil, List.drop_nil, eq_self, List.toList_toArray, beq_self_eq_true, hlen, hleny, newPtr_X wf, load1_X wf, loadAgg_X wf, store1_X wf, writeCells_X wf, makeFunc_def, bs_29, ia_29, sz_29, ze_29, ia_2, sz_2, ze_2, ia_3, sz_3, ia_25, sz_25, ia_47, sz_47, ia_46, sz_46, ia_22, sz_22, ik_25, ik_47, ik_46, ik_22, fo_24_0, fo_24_1, fo_24_2, ia_24, sz_24, pb_5, pb_6, pb_7, pb_8, pb_9, pb_10, pb_11, pb_12, pb_13, pb_14]; first | (refine dec_split (Q := Q_) (fun hp_ => ?_) (fun hp_ => ?_) <;> first | (exfalso; omega) | (refine hQ_ _ _ ?_; clear hQ_ Q_)) | (refine dec_splitn (Q := Q_) (fun hp_ => ?_) (fun hp_ => ?_) <;> first | (exfalso; omega) | (refine hQ_ _ _ ?_; clear hQ_ Q_)) | (refine hQ_ _ _ ?_; clear hQ_ Q_)))
  | (refine WC_cond fun K_ hK_ => ?_; simp (disch := omega) only [evT_tmp, upd_apply, WB_some, ↓reduceIte, reduceCtorEq, Nat.reduceEqDiff, Nat.reduceLT]; refine hK_ _ ?_; clear hK_ K_)
  | (with_reducible refine condK_tt ?_) | (with_reducible refine condK_ff ?_) | (with_reducible refine roundQ_exit ?_) | (with_reducible refine roundQ_ret ?_)))
    (refine endQ_ret _ _ rfl (ret1 (by decide)) ?_; simp only [upd_apply, ↓reduceIte, reduceCtorEq, Nat.reduceEqDiff]; refine WV_flat rfl (by omega) ?_)
    exact ⟨by rw [decide_eq_true (.inr (.inl g2))], rfl⟩
  (repeat' (first
  | (with_reducible refine WC_seq ?_) | (refine WC_region ?_) | (with_reducible refine WC_skip ?_) | (with_reducible refine WC_label ?_) | (with_reducible refine WC_scope ?_) | (with_reducible refine WC_block ?_) | (with_reducible refine WC_ret ?_) | (with_reducible refine WC_exit ?_)
  | (with_reducible refine seqQ_norm ?_) | (with_reducible refine seqQ_ret ?_) | (with_reducible refine seqQ_exit ?_) | (with_reducible refine blkQ_norm ?_) | (with_reducible refine blkQ_ret ?_) | (with_reducible refine blkQ_here ?_) | (refine blkQ_out rfl ?_)
  | (refine WO_nil ?_)
  | (refine WD_nil ?_)
  | (refine WD_gate rfl rfl rfl rfl rfl fun K_ hK_ => ?_; simp only [upd_apply, asB_bool, asB_tup, ↓reduceIte, reduceCtorEq, Nat.reduceEqDiff, Bool.not_true, Bool.not_false]; refine hK_ _ ?_; clear hK_ K_)
  | (refine WO_gate rfl rfl rfl rfl rfl fun K_ hK_ => ?_; simp only [upd_apply, asB_bool, asB_tup, ↓reduceIte, reduceCtorEq, Nat.reduceEqDiff, Bool.not_true, Bool.not_false]; refine hK_ _ ?_; clear hK_ K_)
  | (with_reducible refine gateK_yes ?_) | (refine gateK_no (by decide) ?_) | (with_reducible refine gateK_none ?_)
  | ((try first | refine WO_op rfl rfl rfl ?_ | refine WO_op0 rfl rfl ?_ | refine WD_op rfl rfl rfl ?_ | refine WD_op0 rfl rfl ?_); (refine WV_gen fun Q_ hQ_ => ?_; simp (disch := first | omega | (simp only [List.length_cons, List.length_nil, List.length_append]; omega)) only [bb, argF, ↓reduceIte, reduceCtorEq, Nat.reduceEqDiff, Nat.reduceLT, Nat.reduceLeDiff, Nat.reduceAdd, Nat.reduceMul, Nat.reduceSub, Nat.reduceBEq, Int.reduceToNat, List.append_assoc, List.length_append, cond_true, cond_false, List.length_cons, List.length_nil, List.cons_append, List.nil_append, List.append_nil, List.getElem?_cons_zero, List.getElem?_cons_succ, List.set_cons_zero, List.set_cons_succ, List.drop_zero, List.drop_succ_cons, List.take_zero, List.take_succ_cons, List.take_nil, List.drop_nil, eq_self, List.toList_toArray, beq_self_eq_true, hlen, hleny, newPtr_X wf, load1_X wf, loadAgg_X wf, store1_X wf, writeCells_X wf, makeFunc_def, bs_29, ia_29, sz_29, ze_29, ia_2, sz_2, ze_2, ia_3, sz_3, ia_25, sz_25, ia_47, sz_47, ia_46, sz_46, ia_22, sz_22, ik_25, ik_47, ik_46, ik_22, fo_24_0, fo_24_1, fo_24_2, ia_24, sz_24, pb_5, pb_6, pb_7, pb_8, pb_9, pb_10, pb_11, pb_12, pb_13, pb_14]; first | (refine dec_split (Q := Q_) (fun hp_ => ?_) (fun hp_ => ?_) <;> first | (exfalso; omega) | (refine hQ_ _ _ ?_; clear hQ_ Q_)) | (refine dec_splitn (Q := Q_) (fun hp_ => ?_) (fun hp_ => ?_) <;> first | (exfalso; omega) | (refine hQ_ _ _ ?_; clear hQ_ Q_)) | (refine hQ_ _ _ ?_; clear hQ_ Q_)))
  | (refine WC_cond fun K_ hK_ => ?_; simp (disch := omega) only [evT_tmp, upd_apply, WB_some, ↓reduceIte, reduceCtorEq, Nat.reduceEqDiff, Nat.reduceLT]; refine hK_ _ ?_; clear hK_ K_)
  | (with_reducible refine condK_tt ?_) | (with_reducible refine condK_ff ?_) | (with_reducible refine roundQ_exit ?_) | (with_reducible refine roundQ_ret ?_)))
  refine WC_loop (fun (i : Nat) f d h' => i ≤ rows.length ∧ (∀ j, j < i → ∀ hj : j < rows.length, rows[j].length ≤ 12) ∧ f 1 = b ∧ f 2 = .ptr (nx h 0) 0 ∧ f 5 = ii (i : Int) ∧ d = [] ∧ h' = X h [.cells (mkCells [ii sp, ii st, a]) 24] h.clock)
    (fun i => rows.length - i) ?_ (rows.length + 1) 0 (by omega) ?_
  · rintro i f d h' ⟨hi', hall, k1, k2, k5, rfl, rfl⟩
    by_cases hlt : i < rows.length
    · obtain ⟨v, hv, hsv⟩ := x.row i hlt
      obtain ⟨id, off, hix, hld⟩ := x.sl.at1 wf hlt ik_22
      rw [hv] at hld
      have hlenv : ∀ h', lenE Try.prog 46 v h' = some (ii (rows[i].length : Int)) := fun h' => hsv.len un_46
      (repeat' (first
  | (with_reducible refine WC_seq ?_) | (refine WC_region ?_) | (with_reducible refine WC_skip ?_) | (with_reducible refine WC_label ?_) | (with_reducible refine WC_scope ?_) | (with_reducible refine WC_block ?_) | (with_reducible refine WC_ret ?_) | (with_reducible refine WC_exit ?_)
  | (with_reducible refine seqQ_norm ?_) | (with_reducible refine seqQ_ret ?_) | (with_reducible refine seqQ_exit ?_) | (with_reducible refine blkQ_norm ?_) | (with_reducible refine blkQ_ret ?_) | (with_reducible refine blkQ_here ?_) | (refine blkQ_out rfl ?_)
  | (refine WO_nil ?_)
  | (refine WD_nil ?_)
  | (refine WD_gate rfl rfl rfl rfl rfl fun K_ hK_ => ?_; simp only [upd_apply, asB_bool, asB_tup, ↓reduceIte, reduceCtorEq, Nat.reduceEqDiff, Bool.not_true, Bool.not_false]; refine hK_ _ ?_; clear hK_ K_)
  | (refine WO_gate rfl rfl rfl rfl rfl fun K_ hK_ => ?_; simp only [upd_apply, asB_bool, asB_tup, ↓reduceIte, reduceCtorEq, Nat.reduceEqDiff, Bool.not_true, Bool.not_false]; refine hK_ _ ?_; clear hK_ K_)
  | (with_reducible refine gateK_yes ?_) | (refine gateK_no (by decide) ?_) | (with_reducible refine gateK_none ?_)
  | ((try first | refine WO_op rfl rfl rfl ?_ | refine WO_op0 rfl rfl ?_ | refine WD_op rfl rfl rfl ?_ | refine WD_op0 rfl rfl ?_); (refine WV_gen fun Q_ hQ_ => ?_; simp (disch := first | omega | (simp only [List.length_cons, List.length_nil, List.length_append]; omega)) only [bb, argF, ↓reduceIte, reduceCtorEq, Nat.reduceEqDiff, Nat.reduceLT, Nat.reduceLeDiff, Nat.reduceAdd, Nat.reduceMul, Nat.reduceSub, Nat.reduceBEq, Int.reduceToNat, List.append_assoc, List.length_append, cond_true, cond_false, List.length_cons, List.length_nil, List.cons_append, List.nil_append, List.append_nil, List.getElem?_cons_zero, List.getElem?_cons_succ, List.set_cons_zero, List.set_cons_succ, List.drop_zero, List.drop_succ_cons, List.take_zero, List.take_succ_cons, List.take_nil, List.drop_nil, eq_self, List.toList_toArray, beq_self_eq_true, k1, k2, k5, hlen, hix, hld, hlenv, newPtr_X wf, load1_X wf, loadAgg_X wf, store1_X wf, writeCells_X wf, makeFunc_def, bs_29, ia_29, sz_29, ze_29, ia_2, sz_2, ze_2, ia_3, sz_3, ia_25, sz_25, ia_47, sz_47, ia_46, sz_46, ia_22, sz_22, ik_25, ik_47, ik_46, ik_22, fo_24_0, fo_24_1, fo_24_2, ia_24, sz_24, pb_5, pb_6, pb_7, pb_8, pb_9, pb_10, pb_11, pb_12, pb_13, pb_14]; first | (refine dec_split (Q := Q_) (fun hp_ => ?_) (fun hp_ => ?_) <;> first | (exfalso; omega) | (refine hQ_ _ _ ?_; clear hQ_ Q_)) | (refine dec_splitn (Q := Q_) (fun hp_ => ?_) (fun hp_ => ?_) <;> first | (exfalso; omega) | (refine hQ_ _ _ ?_; clear hQ_ Q_)) | (refine hQ_ _ _ ?_; clear hQ_ Q_)))
  | (refine WC_cond fun K_ hK_ => ?_; simp (disch := omega) only [evT_tmp, upd_apply, WB_some, ↓reduceIte, reduceCtorEq, Nat.reduceEqDiff, Nat.reduceLT]; refine hK_ _ ?_; clear hK_ K_)
  | (with_reducible refine condK_tt ?_) | (with_reducible refine condK_ff ?_) | (with_reducible refine roundQ_exit ?_) | (with_reducible refine roundQ_ret ?_)))
      · (refine endQ_ret _ _ rfl (ret1 (by decide)) ?_; simp only [upd_apply, ↓reduceIte, reduceCtorEq, Nat.reduceEqDiff]; refine WV_flat rfl (by omega) ?_)
        exact ⟨by rw [decide_eq_true (.inr (.inr (.inl ⟨rows[i], List.getElem_mem _, by omega⟩)))], rfl⟩
      · refine roundQ_again (i + 1) (by omega) ⟨hlt, ?_, by simp only [upd_apply, ↓reduceIte, reduceCtorEq, Nat.reduceEqDiff]; exact k1, by simp only [upd_apply, ↓reduceIte, reduceCtorEq, Nat.reduceEqDiff]; exact k2, by simp only [upd_apply, ↓reduceIte, reduceCtorEq, Nat.reduceEqDiff]; rfl, rfl, rfl⟩
        intro j hj hjl
        by_cases hji : j = i
        · subst hji; omega
        · exact hall j (by omega) hjl
    · have hie : i = rows.length := by omega
      subst hie
      (repeat' (first
  | (with_reducible refine WC_seq ?_) | (refine WC_region ?_) | (with_reducible refine WC_skip ?_) | (with_reducible refine WC_label ?_) | (with_reducible refine WC_scope ?_) | (with_reducible refine WC_block ?_) | (with_reducible refine WC_ret ?_) | (with_reducible refine WC_exit ?_)
  | (with_reducible refine seqQ_norm ?_) | (with_reducible refine seqQ_ret ?_) | (with_reducible refine seqQ_exit ?_) | (with_reducible refine blkQ_norm ?_) | (with_reducible refine blkQ_ret ?_) | (with_reducible refine blkQ_here ?_) | (refine blkQ_out rfl ?_)
  | (refine WO_nil ?_)
  | (refine WD_nil ?_)
  | (refine WD_gate rfl rfl rfl rfl rfl fun K_ hK_ => ?_; simp only [upd_apply, asB_bool, asB_tup, ↓reduceIte, reduceCtorEq, Nat.reduceEqDiff, Bool.not_true, Bool.not_false]; refine hK_ _ ?_; clear hK_ K_)
  | (refine WO_gate rfl rfl rfl rfl rfl fun K_ hK_ => ?_; simp only [upd_apply, asB_bool, asB_tup, ↓reduceIte, reduceCtorEq, Nat.reduceEqDiff, Bool.not_true, Bool.not_false]; refine hK_ _ ?_; clear hK_ K_)
  | (with_reducible refine gateK_yes ?_) | (refine gateK_no (by decide) ?_) | (with_reducible refine gateK_none ?_)
  | ((try first | refine WO_op rfl rfl rfl ?_ | refine WO_op0 rfl rfl ?_ | refine WD_op rfl rfl rfl ?_ | refine WD_op0 rfl rfl ?_); (refine WV_gen fun Q_ hQ_ => ?_; simp (disch := first | omega | (simp only [List.length_cons, List.length_nil, List.length_append]; omega)) only [bb, argF, ↓reduceIte, reduceCtorEq, Nat.reduceEqDiff, Nat.reduceLT, Nat.reduceLeDiff, Nat.reduceAdd, Nat.reduceMul, Nat.reduceSub, Nat.reduceBEq, Int.reduceToNat, List.append_assoc, List.length_append, cond_true, cond_false, List.length_cons, List.length_nil, List.cons_append, List.nil_append, List.append_nil, List.getElem?_cons_zero, List.getElem?_cons_succ, List.set_cons_zero, List.set_cons_succ, List.drop_zero, List.drop_succ_cons, List.take_zero, List.take_succ_cons, List.take_nil, List.drop_nil, eq_self, List.toList_toArray, beq_self_eq_true, k1, k2, k5, hlen, hleny, newPtr_X wf, load1_X wf, loadAgg_X wf, store1_X wf, writeCells_X wf, makeFunc_def, bs_29, ia_29, sz_29, ze_29, ia_2, sz_2, ze_2, ia_3, sz_3, ia_25, sz_25, ia_47, sz_47, ia_46, sz_46, ia_22, sz_22, ik_25, ik_47, ik_46, ik_22, fo_24_0, fo_24_1, fo_24_2, ia_24, sz_24, pb_5, pb_6, pb_7, pb_8, pb_9, pb_10, pb_11, pb_12, pb_13, pb_14]; first | (refine dec_split (Q := Q_) (fun hp_ => ?_) (fun hp_ => ?_) <;> first | (exfalso; omega) | (refine hQ_ _ _ ?_; clear hQ_ Q_)) | (refine dec_splitn (Q := Q_) (fun hp_ => ?_) (fun hp_ => ?_) <;> first | (exfalso; omega) | (refine hQ_ _ _ ?_; clear hQ_ Q_)) | (refine hQ_ _ _ ?_; clear hQ_ Q_)))
  | (refine WC_cond fun K_ hK_ => ?_; simp (disch := omega) only [evT_tmp, upd_apply, WB_some, ↓reduceIte, reduceCtorEq, Nat.reduceEqDiff, Nat.reduceLT]; refine hK_ _ ?_; clear hK_ K_)
  | (with_reducible refine condK_tt ?_) | (with_reducible refine condK_ff ?_) | (with_reducible refine roundQ_exit ?_) | (with_reducible refine roundQ_ret ?_)))
      refine WC_loop (fun (i : Nat) f d h' => i ≤ ys.length ∧ (∀ j, j < i → ∀ hj : j < ys.length, ys[j].length ≤ 12) ∧ f 1 = b ∧ f 6 = ii (i : Int) ∧ d = [] ∧ h' = X h [.cells (mkCells [ii sp, ii st, a]) 24] h.clock)
        (fun i => ys.length - i) ?_ (ys.length + 1) 0 (by omega) ?_
      · clear k2 k5
        rintro i f d h' ⟨hi', hally, k1, k6, rfl, rfl⟩
        by_cases hlt : i < ys.length
        · obtain ⟨v, hv, hsv, hcap⟩ := y.row i hlt
          obtain ⟨id, off, hix, hld⟩ := y.sl.at1 wf hlt ik_25
          rw [hv] at hld
          have hlenv : ∀ h', lenE Try.prog 47 v h' = some (ii (ys[i].length : Int)) := fun h' => hsv.len un_47
          (repeat' (first
  | (with_reducible refine WC_seq ?_) | (refine WC_region ?_) | (with_reducible refine WC_skip ?_) | (with_reducible refine WC_label ?_) | (with_reducible refine WC_scope ?_) | (with_reducible refine WC_block ?_) | (with_reducible refine WC_ret ?_) | (with_reducible refine WC_exit ?_)
  | (with_reducible refine seqQ_norm ?_) | (with_reducible refine seqQ_ret ?_) | (with_reducible refine seqQ_exit ?_) | (with_reducible refine blkQ_norm ?_) | (with_reducible refine blkQ_ret ?_) | (with_reducible refine blkQ_here ?_) | (refine blkQ_out rfl ?_)
  | (refine WO_nil ?_)
  | (refine WD_nil ?_)
  | (refine WD_gate rfl rfl rfl rfl rfl fun K_ hK_ => ?_; simp only [upd_apply, asB_bool, asB_tup, ↓reduceIte, reduceCtorEq, Nat.reduceEqDiff, Bool.not_true, Bool.not_false]; refine hK_ _ ?_; clear hK_ K_)
  | (refine WO_gate rfl rfl rfl rfl rfl fun K_ hK_ => ?_; simp only [upd_apply, asB_bool, asB_tup, ↓reduceIte, reduceCtorEq, Nat.reduceEqDiff, Bool.not_true, Bool.not_false]; refine hK_ _ ?_; clear hK_ K_)
  | (with_reducible refine gateK_yes ?_) | (refine gateK_no (by decide) ?_) | (with_reducible refine gateK_none ?_)
  | ((try first | refine WO_op rfl rfl rfl ?_ | refine WO_op0 rfl rfl ?_ | refine WD_op rfl rfl rfl ?_ | refine WD_op0 rfl rfl ?_); (refine WV_gen fun Q_ hQ_ => ?_; simp (disch := first | omega | (simp only [List.length_cons, List.length_nil, List.length_append]; omega)) only [bb, argF, ↓reduceIte, reduceCtorEq, Nat.reduceEqDiff, Nat.reduceLT, Nat.reduceLeDiff, Nat.reduceAdd, Nat.reduceMul, Nat.reduceSub, Nat.reduceBEq, Int.reduceToNat, List.append_assoc, List.length_append, cond_true, cond_false, List.length_cons, List.length_nil, List.cons_append, List.nil_append, List.append_nil, List.getElem?_cons_zero, List.getElem?_cons_succ, List.set_cons_zero, List.set_cons_succ, List.drop_zero, List.drop_succ_cons, List.take_zero, List.take_succ_cons, List.take_nil, List.drop_nil, eq_self, List.toList_toArray, beq_self_eq_true, k1, k6, hleny, hix, hld, hlenv, newPtr_X wf, load1_X wf, loadAgg_X wf, store1_X wf, writeCells_X wf, makeFunc_def, bs_29, ia_29, sz_29, ze_29, ia_2, sz_2, ze_2, ia_3, sz_3, ia_25, sz_25, ia_47, sz_47, ia_46, sz_46, ia_22, sz_22, ik_25, ik_47, ik_46, ik_22, fo_24_0, fo_24_1, fo_24_2, ia_24, sz_24, pb_5, pb_6, pb_7, pb_8, pb_9, pb_10, pb_11, pb_12, pb_13, pb_14]; first | (refine dec_split (Q := Q_) (fun hp_ => ?_) (fun hp_ => ?_) <;> first | (exfalso; omega) | (refine hQ_ _ _ ?_; clear hQ_ Q_)) | (refine dec_splitn (Q := Q_) (fun hp_ => ?_) (fun hp_ => ?_) <;> first | (exfalso; omega) | (refine hQ_ _ _ ?_; clear hQ_ Q_)) | (refine hQ_ _ _ ?_; clear hQ_ Q_)))
  | (refine WC_cond fun K_ hK_ => ?_; simp (disch := omega) only [evT_tmp, upd_apply, WB_some, ↓reduceIte, reduceCtorEq, Nat.reduceEqDiff, Nat.reduceLT]; refine hK_ _ ?_; clear hK_ K_)
  | (with_reducible refine condK_tt ?_) | (with_reducible refine condK_ff ?_) | (with_reducible refine roundQ_exit ?_) | (with_reducible refine roundQ_ret ?_)))
          · (refine endQ_ret _ _ rfl (ret1 (by decide)) ?_; simp only [upd_apply, ↓reduceIte, reduceCtorEq, Nat.reduceEqDiff]; refine WV_flat rfl (by omega) ?_)
            exact ⟨by rw [decide_eq_true (.inr (.inr (.inr ⟨ys[i], List.getElem_mem _, by omega⟩)))], rfl⟩
          · refine roundQ_again (i + 1) (by omega) ⟨hlt, ?_, by simp only [upd_apply, ↓reduceIte, reduceCtorEq, Nat.reduceEqDiff]; exact k1, by simp only [upd_apply, ↓reduceIte, reduceCtorEq, Nat.reduceEqDiff]; rfl, rfl, rfl⟩
            intro j hj hjl
            by_cases hji : j = i
            · subst hji; omega
            · exact hally j (by omega) hjl
        · have hie : i = ys.length := by omega
          subst hie
          (repeat' (first
  | (with_reducible refine WC_seq ?_) | (refine WC_region ?_) | (with_reducible refine WC_skip ?_) | (with_reducible refine WC_label ?_) | (with_reducible refine WC_scope ?_) | (with_reducible refine WC_block ?_) | (with_reducible refine WC_ret ?_) | (with_reducible refine WC_exit ?_)
  | (with_reducible refine seqQ_norm ?_) | (with_reducible refine seqQ_ret ?_) | (with_reducible refine seqQ_exit ?_) | (with_reducible refine blkQ_norm ?_) | (with_reducible refine blkQ_ret ?_) | (with_reducible refine blkQ_here ?_) | (refine blkQ_out rfl ?_)
  | (refine WO_nil ?_)
  | (refine WD_nil ?_)
  | (refine WD_gate rfl rfl rfl rfl rfl fun K_ hK_ => ?_; simp only [upd_apply, asB_bool, asB_tup, ↓reduceIte, reduceCtorEq, Nat.reduceEqDiff, Bool.not_true, Bool.not_false]; refine hK_ _ ?_; clear hK_ K_)
  | (refine WO_gate rfl rfl rfl rfl rfl fun K_ hK_ => ?_; simp only [upd_apply, asB_bool, asB_tup, ↓reduceIte, reduceCtorEq, Nat.reduceEqDiff, Bool.not_true, Bool.not_false]; refine hK_ _ ?_; clear hK_ K_)
  | (with_reducible refine gateK_yes ?_) | (refine gateK_no (by decide) ?_) | (with_reducible refine gateK_none ?_)
  | ((try first | refine WO_op rfl rfl rfl ?_ | refine WO_op0 rfl rfl ?_ | refine WD_op rfl rfl rfl ?_ | refine WD_op0 rfl rfl ?_); (refine WV_gen fun Q_ hQ_ => ?_; simp (disch := first | omega | (simp only [List.length_cons, List.length_nil, List.length_append]; omega)) only [bb, argF, ↓reduceIte, reduceCtorEq, Nat.reduceEqDiff, Nat.reduceLT, Nat.reduceLeDiff, Nat.reduceAdd, Nat.reduceMul, Nat.reduceSub, Nat.reduceBEq, Int.reduceToNat, List.append_assoc, List.length_append, cond_true, cond_false, List.length_cons, List.length_nil, List.cons_append, List.nil_append, List.append_nil, List.getElem?_cons_zero, List.getElem?_cons_succ, List.set_cons_zero, List.set_cons_succ, List.drop_zero, List.drop_succ_cons, List.take_zero, List.take_succ_cons, List.take_nil, List.drop_nil, eq_self, List.toList_toArray, beq_self_eq_true, k1, k6, hleny, newPtr_X wf, load1_X wf, loadAgg_X wf, store1_X wf, writeCells_X wf, makeFunc_def, bs_29, ia_29, sz_29, ze_29, ia_2, sz_2, ze_2, ia_3, sz_3, ia_25, sz_25, ia_47, sz_47, ia_46, sz_46, ia_22, sz_22, ik_25, ik_47, ik_46, ik_22, fo_24_0, fo_24_1, fo_24_2, ia_24, sz_24, pb_5, pb_6, pb_7, pb_8, pb_9, pb_10, pb_11, pb_12, pb_13, pb_14]; first | (refine dec_split (Q := Q_) (fun hp_ => ?_) (fun hp_ => ?_) <;> first | (exfalso; omega) | (refine hQ_ _ _ ?_; clear hQ_ Q_)) | (refine dec_splitn (Q := Q_) (fun hp_ => ?_) (fun hp_ => ?_) <;> first | (exfalso; omega) | (refine hQ_ _ _ ?_; clear hQ_ Q_)) | (refine hQ_ _ _ ?_; clear hQ_ Q_)))
  | (refine WC_cond fun K_ hK_ => ?_; simp (disch := omega) only [evT_tmp, upd_apply, WB_some, ↓reduceIte, reduceCtorEq, Nat.reduceEqDiff, Nat.reduceLT]; refine hK_ _ ?_; clear hK_ K_)
  | (with_reducible refine condK_tt ?_) | (with_reducible refine condK_ff ?_) | (with_reducible refine roundQ_exit ?_) | (with_reducible refine roundQ_ret ?_)))
          (refine endQ_ret _ _ rfl (ret1 (by decide)) ?_; simp only [upd_apply, ↓reduceIte, reduceCtorEq, Nat.reduceEqDiff]; refine WV_flat rfl (by omega) ?_)
          refine ⟨?_, rfl⟩
          rw [decide_eq_false]
          rintro (h1 | h1 | ⟨row, h1, h2⟩ | ⟨yy, h1, h2⟩)
          · exact g1 h1
          · exact g2 h1
          · obtain ⟨j, hj, rfl⟩ := List.getElem_of_mem h1
            have := hall j hj hj
            omega
          · obtain ⟨j, hj, rfl⟩ := List.getElem_of_mem h1
            have := hally j hj hj
            omega
      · exact ⟨Nat.zero_le _, fun j hj => absurd hj (Nat.not_lt_zero j), by simp only [upd_apply, ↓reduceIte, reduceCtorEq, Nat.reduceEqDiff]; exact k1, by simp only [upd_apply, ↓reduceIte, reduceCtorEq, Nat.reduceEqDiff]; (try rfl), rfl, rfl⟩
  · exact ⟨Nat.zero_le _, fun j hj => absurd hj (Nat.not_lt_zero j), by simp only [upd_apply, ↓reduceIte, reduceCtorEq, Nat.reduceEqDiff], by simp only [upd_apply, ↓reduceIte, reduceCtorEq, Nat.reduceEqDiff], by simp only [upd_apply, ↓reduceIte, reduceCtorEq, Nat.reduceEqDiff]; (try rfl), rfl, rfl⟩

theorem volOut_form (sp st : Int) (rows : List (List (Int × Int))) (ys : List (List Int)) : ∃ p q e, volOut sp st rows ys = .tup [.agg [ii p, ii q], ii e] := by
  unfold volOut
  split
  · exact ⟨_, _, _, rfl⟩
  · exact ⟨_, _, _, rfl⟩
theorem valOut_form (sp st : Int) (rows : List (List (Int × Int))) (ys : List (List Int)) (what : Int) : ∃ p q e, valOut sp st rows ys what = .tup [.agg [ii p, ii q], ii e] := by
  unfold valOut
  split
  · split
    · exact ⟨_, _, _, rfl⟩
    · exact ⟨_, _, _, rfl⟩
  · exact ⟨_, _, _, rfl⟩

theorem lawTrues (sp st what : Int) (a b : AV) (rvs yvs : List AV) (rows : List (List (Int × Int))) (ys : List (List Int)) (h : H) (x : HullR h a rvs rows) (y : YsR h b yvs ys) :
    (om Try.prog KK).call (.fn 3 [.agg [ii sp, ii st, a], b, ii what]) h = .ok (.bool true) h := by
  have wf := x.wf
  have hgr : ∀ l w, w ≤ h.clock + l.length → (om Try.prog KK).call (.fn 5 [.agg [ii sp, ii st, a], b]) (X h l w) = .ok (.bool (decide (Great rows ys))) (X h l w) := fun l w hw => great sp st a b rvs yvs rows ys _ (x.up l w hw) (y.up l w hw)
  have hwk : ∀ l w, (om Try.prog KK).call (.fn 6 []) (X h l w) = .ok (.bool true) (X h l w) := fun l w => works _
  refine WV_to (WV_call (fn := Try.f3) Try.func3 rfl rfl rfl rfl rfl ?_)
  simp only [argF]
  by_cases hG : Great rows ys
  · rw [decide_eq_true hG] at hgr
    (repeat' (first
  | (with_reducible refine WC_seq ?_) | (refine WC_region ?_) | (with_reducible refine WC_skip ?_) | (with_reducible refine WC_label ?_) | (with_reducible refine WC_scope ?_) | (with_reducible refine WC_block ?_) | (with_reducible refine WC_ret ?_) | (with_reducible refine WC_exit ?_)
  | (with_reducible refine seqQ_norm ?_) | (with_reducible refine seqQ_ret ?_) | (with_reducible refine seqQ_exit ?_) | (with_reducible refine blkQ_norm ?_) | (with_reducible refine blkQ_ret ?_) | (with_reducible refine blkQ_here ?_) | (refine blkQ_out rfl ?_)
  | (refine WO_nil ?_)
  | (refine WD_nil ?_)
  | (refine WD_gate rfl rfl rfl rfl rfl fun K_ hK_ => ?_; simp only [upd_apply, asB_bool, asB_tup, ↓reduceIte, reduceCtorEq, Nat.reduceEqDiff, Bool.not_true, Bool.not_false]; refine hK_ _ ?_; clear hK_ K_)
  | (refine WO_gate rfl rfl rfl rfl rfl fun K_ hK_ => ?_; simp only [upd_apply, asB_bool, asB_tup, ↓reduceIte, reduceCtorEq, Nat.reduceEqDiff, Bool.not_true, Bool.not_false]; refine hK_ _ ?_; clear hK_ K_)
  | (with_reducible refine gateK_yes ?_) | (refine gateK_no (by decide) ?_) | (with_reducible refine gateK_none ?_)
  | ((try first | refine WO_op rfl rfl rfl ?_ | refine WO_op0 rfl rfl ?_ | refine WD_op rfl rfl rfl ?_ | refine WD_op0 rfl rfl ?_); (refine WV_gen fun Q_ hQ_ => ?_; simp (disch := first | omega | (simp only [List.length_cons, List.length_nil, List.length_append]; omega)) only [bb, argF, ↓reduceIte, reduceCtorEq, Nat.reduceEqDiff, Nat.reduceLT, Nat.reduceLeDiff, Nat.reduceAdd, Nat.reduceMul, Nat.reduceSub, Nat.reduceBEq, Int.reduceToNat, List.append_assoc, List.length_append, cond_true, cond_false, List.length_cons, List.length_nil, List.cons_append, List.nil_append, List.append_nil, List.getElem?_cons_zero, List.getElem?_cons_succ, List.set_cons_zero, List.set_cons_succ, List.drop_zero, List.drop_succ_cons, List.take_zero, List.take_succ_cons, List.take_nil, List.drop_nil, eq_self, List.toList_toArray, beq_self_eq_true, hgr, hwk, newPtr_X wf, load1_X wf, loadAgg_X wf, store1_X wf, writeCells_X wf, makeFunc_def, bs_29, ia_29, sz_29, ze_29, ia_2, sz_2, ze_2, ia_3, sz_3, ia_25, sz_25, ia_47, sz_47, ia_46, sz_46, ia_22, sz_22, ik_25, ik_47, ik_46, ik_22, fo_24_0, fo_24_1, fo_24_2, ia_24, sz_24, pb_5, pb_6, pb_7, pb_8, pb_9, pb_10, pb_11, pb_12, pb_13, pb_14]; first | (refine dec_split (Q := Q_) (fun hp_ => ?_) (fun hp_ => ?_) <;> first | (exfalso; omega) | (refine hQ_ _ _ ?_; clear hQ_ Q_)) | (refine dec_splitn (Q := Q_) (fun hp_ => ?_) (fun hp_ => ?_) <;> first | (exfalso; omega) | (refine hQ_ _ _ ?_; clear hQ_ Q_)) | (refine hQ_ _ _ ?_; clear hQ_ Q_)))
  | (refine WC_cond fun K_ hK_ => ?_; simp (disch := omega) only [evT_tmp, upd_apply, WB_some, ↓reduceIte, reduceCtorEq, Nat.reduceEqDiff, Nat.reduceLT]; refine hK_ _ ?_; clear hK_ K_)
  | (with_reducible refine condK_tt ?_) | (with_reducible refine condK_ff ?_) | (with_reducible refine roundQ_exit ?_) | (with_reducible refine roundQ_ret ?_)))
    (refine endQ_ret _ _ rfl (ret1 (by decide)) ?_; simp only [upd_apply, ↓reduceIte, reduceCtorEq, Nat.reduceEqDiff]; refine WV_flat rfl (by omega) ?_)
    exact ⟨rfl, rfl⟩
  · rw [decide_eq_false hG] at hgr
    have hyl : ys.length ≤ 1000 := by
      rcases Nat.lt_or_ge 14 ys.length with h1 | h1
      · exact absurd (.inr (.inl h1)) hG
      · omega
    obtain ⟨p, q, e, hvo⟩ := volOut_form sp st rows ys
    obtain ⟨p', q', e', hva⟩ := valOut_form sp st rows ys what
    have h7 : ∀ l w, w ≤ h.clock + l.length → (om Try.prog KK).call (.fn 7 [.agg [ii sp, ii st, a], b]) (X h l w) = .ok (.tup [.agg [ii p, ii q], ii e]) (X h l w) := fun l w hw => by rw [volumeX sp st a b rvs yvs rows ys hyl _ (x.up l w hw) (y.up l w hw), hvo]
    have h8 : ∀ l w, w ≤ h.clock + l.length → (om Try.prog KK).call (.fn 8 [.agg [ii sp, ii st, a], b]) (X h l w) = .ok (.tup [.agg [ii p, ii q], ii e]) (X h l w) := fun l w hw => by rw [volumeR sp st a b rvs yvs rows ys hyl _ (x.up l w hw) (y.up l w hw), hvo]
    have h9 : ∀ l w, w ≤ h.clock + l.length → (om Try.prog KK).call (.fn 9 [.agg [ii sp, ii st, a], b, ii what]) (X h l w) = .ok (.tup [.agg [ii p', ii q'], ii e']) (X h l w) := fun l w hw => by rw [valueX sp st a b rvs yvs rows ys hyl what _ (x.up l w hw) (y.up l w hw), hva]
    have h10 : ∀ l w, w ≤ h.clock + l.length → (om Try.prog KK).call (.fn 10 [.agg [ii sp, ii st, a], b, ii what]) (X h l w) = .ok (.tup [.agg [ii p', ii q'], ii e']) (X h l w) := fun l w hw => by rw [valueRX sp st a b rvs yvs rows ys hyl what _ (x.up l w hw) (y.up l w hw), hva]
    have h11 : ∀ l w, w ≤ h.clock + l.length → (om Try.prog KK).call (.fn 11 [.agg [ii sp, ii st, a]]) (X h l w) = .ok (ii (hullErr sp st rows)) (X h l w) := fun l w hw => checkHull sp st a rvs rows _ (x.up l w hw)
    have h12 : ∀ l w, w ≤ h.clock + l.length → (om Try.prog KK).call (.fn 12 [.agg [ii sp, ii st, a]]) (X h l w) = .ok (ii (hullErr sp st rows)) (X h l w) := fun l w hw => checkHullR sp st a rvs rows _ (x.up l w hw)
    have h13 : ∀ l w, w ≤ h.clock + l.length → (om Try.prog KK).call (.fn 13 [.agg [ii sp, ii st, a], b]) (X h l w) = .ok (ii (trueErr sp st rows ys)) (X h l w) := fun l w hw => checkTrue sp st a b rvs yvs rows ys hyl _ (x.up l w hw) (y.up l w hw)
    have h14 : ∀ l w, w ≤ h.clock + l.length → (om Try.prog KK).call (.fn 14 [.agg [ii sp, ii st, a], b]) (X h l w) = .ok (ii (trueErr sp st rows ys)) (X h l w) := fun l w hw => checkTrueR sp st a b rvs yvs rows ys hyl _ (x.up l w hw) (y.up l w hw)
    (repeat' (first
  | (with_reducible refine WC_seq ?_) | (refine WC_region ?_) | (with_reducible refine WC_skip ?_) | (with_reducible refine WC_label ?_) | (with_reducible refine WC_scope ?_) | (with_reducible refine WC_block ?_) | (with_reducible refine WC_ret ?_) | (with_reducible refine WC_exit ?_)
  | (with_reducible refine seqQ_norm ?_) | (with_reducible refine seqQ_ret ?_) | (with_reducible refine seqQ_exit ?_) | (with_reducible refine blkQ_norm ?_) | (with_reducible refine blkQ_ret ?_) | (with_reducible refine blkQ_here ?_) | (refine blkQ_out rfl ?_)
  | (refine WO_nil ?_)
  | (refine WD_nil ?_)
  | (refine WD_gate rfl rfl rfl rfl rfl fun K_ hK_ => ?_; simp only [upd_apply, asB_bool, asB_tup, ↓reduceIte, reduceCtorEq, Nat.reduceEqDiff, Bool.not_true, Bool.not_false]; refine hK_ _ ?_; clear hK_ K_)
  | (refine WO_gate rfl rfl rfl rfl rfl fun K_ hK_ => ?_; simp only [upd_apply, asB_bool, asB_tup, ↓reduceIte, reduceCtorEq, Nat.reduceEqDiff, Bool.not_true, Bool.not_false]; refine hK_ _ ?_; clear hK_ K_)
  | (with_reducible refine gateK_yes ?_) | (refine gateK_no (by decide) ?_) | (with_reducible refine gateK_none ?_)
  | ((try first | refine WO_op rfl rfl rfl ?_ | refine WO_op0 rfl rfl ?_ | refine WD_op rfl rfl rfl ?_ | refine WD_op0 rfl rfl ?_); (refine WV_gen fun Q_ hQ_ => ?_; simp (disch := first | omega | (simp only [List.length_cons, List.length_nil, List.length_append]; omega)) only [bb, argF, ↓reduceIte, reduceCtorEq, Nat.reduceEqDiff, Nat.reduceLT, Nat.reduceLeDiff, Nat.reduceAdd, Nat.reduceMul, Nat.reduceSub, Nat.reduceBEq, Int.reduceToNat, List.append_assoc, List.length_append, cond_true, cond_false, List.length_cons, List.length_nil, List.cons_append, List.nil_append, List.append_nil, List.getElem?_cons_zero, List.getElem?_cons_succ, List.set_cons_zero, List.set_cons_succ, List.drop_zero, List.drop_succ_cons, List.take_zero, List.take_succ_cons, List.take_nil, List.drop_nil, eq_self, List.toList_toArray, beq_self_eq_true, hgr, h7, h8, h9, h10, newPtr_X wf, load1_X wf, loadAgg_X wf, store1_X wf, writeCells_X wf, makeFunc_def, bs_29, ia_29, sz_29, ze_29, ia_2, sz_2, ze_2, ia_3, sz_3, ia_25, sz_25, ia_47, sz_47, ia_46, sz_46, ia_22, sz_22, ik_25, ik_47, ik_46, ik_22, fo_24_0, fo_24_1, fo_24_2, ia_24, sz_24, pb_5, pb_6, pb_7, pb_8, pb_9, pb_10, pb_11, pb_12, pb_13, pb_14]; first | (refine dec_split (Q := Q_) (fun hp_ => ?_) (fun hp_ => ?_) <;> first | (exfalso; omega) | (refine hQ_ _ _ ?_; clear hQ_ Q_)) | (refine dec_splitn (Q := Q_) (fun hp_ => ?_) (fun hp_ => ?_) <;> first | (exfalso; omega) | (refine hQ_ _ _ ?_; clear hQ_ Q_)) | (refine hQ_ _ _ ?_; clear hQ_ Q_)))
  | (refine WC_cond fun K_ hK_ => ?_; simp (disch := omega) only [evT_tmp, upd_apply, WB_some, ↓reduceIte, reduceCtorEq, Nat.reduceEqDiff, Nat.reduceLT]; refine hK_ _ ?_; clear hK_ K_)
  | (with_reducible refine condK_tt ?_) | (with_reducible refine condK_ff ?_) | (with_reducible refine roundQ_exit ?_) | (with_reducible refine roundQ_ret ?_)))
    refine WC_drawnB [.no, .no, .no, .full, .full, .full, .no, .no, .no, .no, .no, .full, .full, .full, .full, .no, .no, .full, .full, .full, .full, .full, .full, .full, .full, .no, .no, .full, .full, .full, .full, .full, .full, .full, .full, .full, .full, .full] (by kernel_rfl) ?_
    (repeat' (first
  | (with_reducible refine WC_seq ?_) | (refine WC_region ?_) | (with_reducible refine WC_skip ?_) | (with_reducible refine WC_label ?_) | (with_reducible refine WC_scope ?_) | (with_reducible refine WC_block ?_) | (with_reducible refine WC_ret ?_) | (with_reducible refine WC_exit ?_)
  | (with_reducible refine seqQ_norm ?_) | (with_reducible refine seqQ_ret ?_) | (with_reducible refine seqQ_exit ?_) | (with_reducible refine blkQ_norm ?_) | (with_reducible refine blkQ_ret ?_) | (with_reducible refine blkQ_here ?_) | (refine blkQ_out rfl ?_)
  | (refine WO_nil ?_)
  | (refine WD_nil ?_)
  | (refine WD_gate rfl rfl rfl rfl rfl fun K_ hK_ => ?_; simp only [upd_apply, asB_bool, asB_tup, ↓reduceIte, reduceCtorEq, Nat.reduceEqDiff, Bool.not_true, Bool.not_false]; refine hK_ _ ?_; clear hK_ K_)
  | (refine WO_gate rfl rfl rfl rfl rfl fun K_ hK_ => ?_; simp only [upd_apply, asB_bool, asB_tup, ↓reduceIte, reduceCtorEq, Nat.reduceEqDiff, Bool.not_true, Bool.not_false]; refine hK_ _ ?_; clear hK_ K_)
  | (with_reducible refine gateK_yes ?_) | (refine gateK_no (by decide) ?_) | (with_reducible refine gateK_none ?_)
  | ((try first | refine WO_op rfl rfl rfl ?_ | refine WO_op0 rfl rfl ?_ | refine WD_op rfl rfl rfl ?_ | refine WD_op0 rfl rfl ?_); (refine WV_gen fun Q_ hQ_ => ?_; simp (disch := first | omega | (simp only [List.length_cons, List.length_nil, List.length_append]; omega)) only [bb, argF, ↓reduceIte, reduceCtorEq, Nat.reduceEqDiff, Nat.reduceLT, Nat.reduceLeDiff, Nat.reduceAdd, Nat.reduceMul, Nat.reduceSub, Nat.reduceBEq, Int.reduceToNat, List.append_assoc, List.length_append, cond_true, cond_false, List.length_cons, List.length_nil, List.cons_append, List.nil_append, List.append_nil, List.getElem?_cons_zero, List.getElem?_cons_succ, List.set_cons_zero, List.set_cons_succ, List.drop_zero, List.drop_succ_cons, List.take_zero, List.take_succ_cons, List.take_nil, List.drop_nil, eq_self, List.toList_toArray, beq_self_eq_true, h11, h12, h13, h14, hwk, eqR, newPtr_X wf, load1_X wf, loadAgg_X wf, store1_X wf, writeCells_X wf, makeFunc_def, bs_29, ia_29, sz_29, ze_29, ia_2, sz_2, ze_2, ia_3, sz_3, ia_25, sz_25, ia_47, sz_47, ia_46, sz_46, ia_22, sz_22, ik_25, ik_47, ik_46, ik_22, fo_24_0, fo_24_1, fo_24_2, ia_24, sz_24, pb_5, pb_6, pb_7, pb_8, pb_9, pb_10, pb_11, pb_12, pb_13, pb_14]; first | (refine dec_split (Q := Q_) (fun hp_ => ?_) (fun hp_ => ?_) <;> first | (exfalso; omega) | (refine hQ_ _ _ ?_; clear hQ_ Q_)) | (refine dec_splitn (Q := Q_) (fun hp_ => ?_) (fun hp_ => ?_) <;> first | (exfalso; omega) | (refine hQ_ _ _ ?_; clear hQ_ Q_)) | (refine hQ_ _ _ ?_; clear hQ_ Q_)))
  | (refine WC_cond fun K_ hK_ => ?_; simp (disch := omega) only [evT_tmp, upd_apply, WB_some, ↓reduceIte, reduceCtorEq, Nat.reduceEqDiff, Nat.reduceLT]; refine hK_ _ ?_; clear hK_ K_)
  | (with_reducible refine condK_tt ?_) | (with_reducible refine condK_ff ?_) | (with_reducible refine roundQ_exit ?_) | (with_reducible refine roundQ_ret ?_)))
    (refine endQ_ret _ _ rfl (ret1 (by decide)) ?_; simp only [upd_apply, ↓reduceIte, reduceCtorEq, Nat.reduceEqDiff]; refine WV_flat rfl (by omega) ?_)
    exact ⟨rfl, rfl⟩
end Go.Proofs.Ytghondkiondeaab
end

/- EvY -/
section
/-
  THE CLOSED PART OF LAYER 2, RUN BY THE KERNEL.
-/
namespace Go.Proofs.Ytghondkiondeaab
open Go.Ev
set_option maxRecDepth 100000
set_option maxHeartbeats 0
theorem mixed : Try.prog.follows .mixedOrders = true := Checked.mixed Try.checked
theorem cW_run : chk cW ((evc Try.prog [] 100000).call (.fn cW.g cW.args) (smallH cW.tb)) = true := by kernel_rfl
theorem cW_ok : ConOK Try.prog cW := con_run (P := Try.prog) mixed (cons := []) (n := 100000) (c := cW) (fun _ h => by cases h) cW_run
end Go.Proofs.Ytghondkiondeaab
end

/- EvJk -/
section
/- The statement BoxTrues of layer 2: which hulls are valid, and true, the volume of a true hull, and what is asked of it, are what the definitions say, for all hulls, offsets and kinds; no condition. -/
namespace Go.Proofs.Ytghondkiondeaab.boxTrues
open Go.ChangeShapes Go.WideShapes Go.ChangeAt Go.RowKit Go.Ev
set_option maxRecDepth 100000
set_option maxHeartbeats 0

theorem own : ownKnob Try.prog.godebug = none := by kernel_rfl
theorem laidOut : laidOutB Try.prog = true := by kernel_rfl
theorem cells2 : Try.prog.cellsOf 2 = 1 := by kernel_rfl
theorem cells22 : Try.prog.cellsOf 22 = 1 := by kernel_rfl
theorem cells24 : Try.prog.cellsOf 24 = 3 := by kernel_rfl
theorem cells46 : Try.prog.cellsOf 46 = 1 := by kernel_rfl
theorem cells47 : Try.prog.cellsOf 47 = 1 := by kernel_rfl
theorem cells70 : Try.prog.cellsOf 70 = 2 := by kernel_rfl
theorem types24 : Try.prog.cellTypes Try.prog.depth 24 = some [2, 2, 22] := by kernel_rfl
theorem under24 : ∃ f0 f1 f2 : Field, Try.prog.underlying 24 = some (.struct #[f0, f1, f2]) ∧ f0.offset = 0 ∧ f1.offset = 1 ∧ f2.offset = 2 ∧ f0.type = 2 ∧ f1.type = 2 ∧ f2.type = 22 := ⟨_, _, _, Try.underlying24, rfl, rfl, rfl, rfl, rfl, rfl⟩
theorem under70 : ∃ f0 f1 : Field, Try.prog.underlying 70 = some (.struct #[f0, f1]) ∧ f0.offset = 0 ∧ f1.offset = 1 ∧ f0.type = 2 ∧ f1.type = 2 := ⟨_, _, Try.underlying70, rfl, rfl, rfl, rfl⟩

section
variable {H : Type} {enc : TypeId × Value → H} {r : Reach} {bs : Nat}
/-- A hull that came in. -/
theorem hull_in {W : World} {v : Value} {fuel : Nat} {x : DataW H × List MemPlace} (hval : Value.okWide Try.prog W r bs 24 v) (h : DataW.trod enc Try.prog W 0 (fun _ => true) true fuel 24 v.cells.toList = some x) :
    ∃ sp st a rvs rows, VR (startWR W) (.agg [ii sp, ii st, a]) v ∧ HullR (startW W) a rvs rows := by
  obtain ⟨f0, f1, f2, hu, o0, o1, o2, t0, t1, t2⟩ := under24
  obtain ⟨g0, g1, hg, p0, p1, q0, q1⟩ := under70
  obtain ⟨u, w, z, n, y1, y2, y3, rfl, k0, k1, k2, r0, r1, r2⟩ := open_three hu cells24 o0 o1 o2 t0 t1 t2 cells2 cells2 cells22 types24 hval h
  obtain ⟨sp, h1, _⟩ := DataW.trod_int Try.underlying2 r0
  cases h1
  obtain ⟨st, h2, _⟩ := DataW.trod_int Try.underlying2 r1
  cases h2
  obtain ⟨rows, vs, a, va, ca, sa, hrow⟩ := open_rows (α := List (Int × Int)) (R := fun u row => Row (startW W) u 2 row.length (pairCells row)) Try.underlying22 cells46 k2 r2 (fun u n y hy => by
    obtain ⟨sp, b, h1, h2, h3⟩ := open_row_pairs Try.underlying46 hg cells70 p0 p1 q0 q1 Try.underlying2 cells2 hy
    exact ⟨sp, b, h1, h3⟩)
  exact ⟨sp, st, a, vs, rows, .agg _ _ (.cons _ _ _ _ (.int _ _) (.cons _ _ _ _ (.int _ _) (.cons _ _ _ _ va .nil))), startW_wf W, sa, hrow⟩
/-- Offsets that came in. -/
theorem ys_in {W : World} {v : Value} {fuel : Nat} {x : DataW H × List MemPlace} (hval : Cell.okWide Try.prog W r bs 25 v) (h : DataW.trod enc Try.prog W 0 (fun _ => true) true fuel 25 [v] = some x) :
    ∃ b yvs ys, VR (startWR W) b v ∧ YsR (startW W) b yvs ys := by
  obtain ⟨ys, vs, b, vb, cb, sb, hrow⟩ := open_rows (α := List Int) (R := fun u y => Row (startW W) u 1 y.length (y.map ii) ∧ Capd u) Try.underlying25 cells47 hval h (fun u n y hy => by
    obtain ⟨xs, b, h1, h2, h3⟩ := open_row_ints Try.underlying47 Try.underlying2 cells2 hy
    exact ⟨xs, b, h1, h3, h2⟩)
  exact ⟨b, vs, ys, vb, startW_wf W, sb, hrow⟩
end

theorem contract (H : Type) (enc : TypeId × Value → H) (W : World) (base : Nat) (args : Array Value) (ds gs : List (DataW H)) (before : List MemPlace) (hval : ∀ (j : Nat) t v, Try.f3.params[j]? = some t → args[j]? = some v → Value.okWide Try.prog W .any base t v)
    (hW : DataW.Whole enc Try.prog Try.f3.params.toList Rows.boxTruesSpec.vars false W args.toList ds gs before) :
    Calls Try.prog 3 args W fun e W' => ∃ v, e = .returned v ∧ Rows.boxTruesSpec.post enc Try.prog Try.f3 false true false false W args v W' := by
  have hW' := hW
  obtain ⟨p, q, hA0, hV, rfl, hfz, hnd⟩ := hW
  have hA : DataW.TrodAll enc Try.prog W 0 (fun _ => true) true Try.f3.params.toList args.toList ds p := hA0
  rw [Try.params3] at hA hval
  obtain ⟨v0, v1, v2, d0, d1, d2, p0, p1, p2, rfl, rfl, rfl, ⟨n0, h0⟩, ⟨n1, h1⟩, ⟨n2, h2⟩⟩ := trodAll_three hA
  obtain ⟨sp, st, a, rvs, rows, va, xh⟩ := hull_in (hval 0 24 v0 rfl rfl) h0
  have k25 := okWide_cell (P := Try.prog) Try.underlying25 (fun _ e => by cases e) (fun _ _ e => by cases e) (hval 1 25 v1 rfl rfl)
  rw [slice_cells Try.underlying25 k25] at h1
  obtain ⟨b, yvs, ys, vb, yh⟩ := ys_in k25 h1
  obtain ⟨what, hz⟩ := okWideInt Try.underlying3 (okWide_cell (P := Try.prog) Try.underlying3 (fun _ e => by cases e) (fun _ _ e => by cases e) (hval 2 3 v2 rfl rfl))
  subst hz
  have walk := lawTrues sp st what a b rvs yvs rows ys (startW W) xh yh
  have hargs : VL (startWR W) [.agg [ii sp, ii st, a], b, ii what] (#[v0, v1, .int .i64 what] : Array Value).toList :=
    .cons _ _ _ _ va (.cons _ _ _ _ vb (.cons _ _ _ _ (.int _ _) .nil))
  refine (startW_true (P := Try.prog) mixed (K := KK) (fun c hc => by
    have : c = cW := List.mem_singleton.1 hc
    rw [this]; exact cW_ok) walk hargs).mono fun e W' ⟨he, hgr, hs⟩ => ?_
  subst he
  refine ⟨_, rfl, law_post laidOut (by
    rw [Try.params3]
    intro t ht
    rcases List.mem_cons.1 ht with rfl | ht
    · exact ⟨by kernel_rfl, of_decide_eq_true (by kernel_rfl)⟩
    rcases List.mem_cons.1 ht with rfl | ht
    · exact ⟨by kernel_rfl, of_decide_eq_true (by kernel_rfl)⟩
    rcases List.mem_cons.1 ht with rfl | ht
    · exact ⟨by kernel_rfl, of_decide_eq_true (by kernel_rfl)⟩
    cases ht) rfl (by kernel_rfl) Try.underlying4 (fun gs' ⟨q', hq⟩ => ?_) hW' hgr hs⟩
  obtain ⟨rfl, _⟩ := trodVars_none hq
  exact ⟨rfl, rfl, rfl⟩

theorem lifted (os : Os) (started : os.Started) (H : Type) (enc : TypeId × Value → H) :
    ReturnsInHanded {} Try.checked os 3 .any (Rows.boxTruesSpec.pre6 enc Try.prog Try.f3 Rows.boxTruesRow.domain false) (Rows.boxTruesSpec.post enc Try.prog Try.f3 false true false false) := by
  refine returnsInHanded_of_change (C := Try.checked) own started (by kernel_rfl) Try.func3
    (ChangeSpec.witness6 (enc := enc) (C := Try.checked) false ⟨#[], #[.agg #[.int .i64 0, .int .i64 0, .slice none 0 0], .slice none 0 0, .int .i64 0], []⟩ 8 (by kernel_rfl) (by kernel_rfl) (by kernel_rfl) (by kernel_rfl)) ?_
  intro W base args ds gs before hval hW _ _
  exact contract H enc W base args ds gs before hval hW

theorem holds : Rows.BoxTruesSaid :=
  OpenClaim.holds_of_wide 3 Try.f3 rfl rfl rfl rfl rfl rfl rfl ⟨rfl, rfl, rfl, rfl, rfl⟩ rfl rfl rfl rfl rfl (by kernel_rfl) Try.func3 (by kernel_rfl)
    (of_decide_eq_true (by kernel_rfl)) (by unfold Func.isWrapper; first | (rw [if_pos (by decide +kernel)]; kernel_rfl) | (rw [if_neg (by decide +kernel)]; exact ⟨rfl, rfl⟩))
    (fun os started H enc _ => lifted os started H enc)
end Go.Proofs.Ytghondkiondeaab.boxTrues
end
