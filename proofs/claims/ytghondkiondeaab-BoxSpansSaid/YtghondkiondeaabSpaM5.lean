import Derived.Test.YtghondkiondeaabSpaM4
import Derived.Test.YtghondkiondeaabChecked
import Derived.Eval
import Derived.KernelRfl
import Derived.Test.YtghondkiondeaabRows
import Derived.WalkKit
import Derived.ProofKit
import Derived.OpenShut
set_option linter.all false
/- EvI1 -/
section
/-
  LAYER 2, THE REFERENCE: weights, fractions, sums.
-/
namespace Go.Proofs.Ytghondkiondeaab
open Go.Ev
set_option maxRecDepth 100000
set_option linter.unusedSimpArgs false
set_option linter.unusedVariables false
set_option maxHeartbeats 2000000

theorem tEvI1 : type_of% (And.intro (And.intro (And.intro (And.intro (@bs_29) (@ia_29)) (And.intro (@sz_29) (@ze_29))) (And.intro (And.intro (@ia_2) (@sz_2)) (And.intro (@ze_2) (And.intro (@ia_3) (@sz_3))))) (And.intro (And.intro (And.intro (@ia_25) (@sz_25)) (And.intro (@ia_47) (@sz_47))) (And.intro (And.intro (@ik_25) (@ik_47)) (And.intro (@pb_46) (And.intro (@pb_26) (@pb_27)))))) := And.intro (And.intro (And.intro (And.intro (@bs_29) (@ia_29)) (And.intro (@sz_29) (@ze_29))) (And.intro (And.intro (@ia_2) (@sz_2)) (And.intro (@ze_2) (And.intro (@ia_3) (@sz_3))))) (And.intro (And.intro (And.intro (@ia_25) (@sz_25)) (And.intro (@ia_47) (@sz_47))) (And.intro (And.intro (@ik_25) (@ik_47)) (And.intro (@pb_46) (And.intro (@pb_26) (@pb_27)))))
theorem weightR (i n : Nat) (hi : i < n) (hn : n ≤ 1000) (h : H) (wf : Wf h) : (om Try.prog KK).call (.fn 46 [ii (i : Int), ii (n : Int)]) h = .ok (ii (wt n i)) h := by
  refine WV_to (WV_call (fn := Try.f46) Try.func46 rfl rfl rfl rfl rfl ?_)
  simp only [argF]
  (repeat' (first
  | (with_reducible first | refine WC_seq ?_ | refine WC_skip ?_ | refine WC_label ?_ | refine WC_scope ?_ | refine WC_block ?_ | refine WC_ret ?_ | refine WC_exit ?_ | refine seqQ_norm ?_ | refine seqQ_ret ?_ | refine seqQ_exit ?_ | refine blkQ_norm ?_ | refine blkQ_ret ?_ | refine blkQ_here ?_ | refine gateK_yes ?_ | refine gateK_none ?_ | refine condK_tt ?_ | refine condK_ff ?_ | refine roundQ_exit ?_ | refine roundQ_ret ?_)
  | refine WC_region ?_ | refine blkQ_out rfl ?_ | refine WO_nil ?_ | refine WD_nil ?_
  | ((first | refine WD_gate rfl rfl rfl rfl rfl fun K_ hK_ => ?_ | refine WO_gate rfl rfl rfl rfl rfl fun K_ hK_ => ?_); simp only [upd_apply, asB_bool, asB_tup, ↓reduceIte, reduceCtorEq, Nat.reduceEqDiff, Bool.not_true, Bool.not_false]; refine hK_ _ ?_; clear hK_ K_)
  | refine gateK_no (by decide) ?_
  | ((try first | refine WO_op rfl rfl rfl ?_ | refine WO_op0 rfl rfl ?_ | refine WD_op rfl rfl rfl ?_ | refine WD_op0 rfl rfl ?_); (refine WV_gen fun Q_ hQ_ => ?_; simp (disch := first | omega | (simp only [List.length_cons, List.length_nil, List.length_append]; omega)) only [bb, bp, argF, ↓reduceIte, reduceCtorEq, Nat.reduceEqDiff, Nat.reduceLT, Nat.reduceLeDiff, Nat.reduceAdd, Nat.reduceMul, Nat.reduceSub, Nat.reduceBEq, Int.reduceToNat, cond_true, cond_false, eq_self, beq_self_eq_true, newPtr_X wf, load1_X wf, loadAgg_X wf, store1_X wf, writeCells_X wf, makeFunc_def, tEvI1]; first | (refine dec_split (Q := Q_) (fun hp_ => ?_) (fun hp_ => ?_) <;> first | (exfalso; omega) | (refine hQ_ _ _ ?_; clear hQ_ Q_)) | (refine dec_splitn (Q := Q_) (fun hp_ => ?_) (fun hp_ => ?_) <;> first | (exfalso; omega) | (refine hQ_ _ _ ?_; clear hQ_ Q_)) | (refine hQ_ _ _ ?_; clear hQ_ Q_)))
  | (refine WC_cond fun K_ hK_ => ?_; simp (disch := omega) only [evT_tmp, upd_apply, WB_some, ↓reduceIte, reduceCtorEq, Nat.reduceEqDiff, Nat.reduceLT]; refine hK_ _ ?_; clear hK_ K_)))
  all_goals (refine endQ_ret _ _ rfl (ret1 (by decide)) ?_; simp only [upd_apply, ↓reduceIte, reduceCtorEq, Nat.reduceEqDiff]; refine WV_flat rfl (by omega) ?_)
  all_goals refine ⟨?_, rfl⟩
  all_goals unfold wt
  · rw [if_pos (by omega)]
  · rw [if_pos (by omega)]
  · rw [if_neg (by omega), if_pos hi]

theorem fractionR (n d : Int) (hn : i63 n) (hd : 0 < d ∧ d ≤ 9223372036854775807) (h : H) (wf : Wf h) : (om Try.prog KK).call (.fn 27 [ii n, ii d]) h = .ok (frac n d) h := by
  refine WV_to (WV_call (fn := Try.f27) Try.func27 rfl rfl rfl rfl rfl ?_)
  simp only [argF]
  have hg := gcd_le hn hd
  have hz : (Int.gcd n d : Int) ≠ 0 := by omega
  (repeat' (first
  | (with_reducible first | refine WC_seq ?_ | refine WC_skip ?_ | refine WC_label ?_ | refine WC_scope ?_ | refine WC_block ?_ | refine WC_ret ?_ | refine WC_exit ?_ | refine seqQ_norm ?_ | refine seqQ_ret ?_ | refine seqQ_exit ?_ | refine blkQ_norm ?_ | refine blkQ_ret ?_ | refine blkQ_here ?_ | refine gateK_yes ?_ | refine gateK_none ?_ | refine condK_tt ?_ | refine condK_ff ?_ | refine roundQ_exit ?_ | refine roundQ_ret ?_)
  | refine WC_region ?_ | refine blkQ_out rfl ?_ | refine WO_nil ?_ | refine WD_nil ?_
  | ((first | refine WD_gate rfl rfl rfl rfl rfl fun K_ hK_ => ?_ | refine WO_gate rfl rfl rfl rfl rfl fun K_ hK_ => ?_); simp only [upd_apply, asB_bool, asB_tup, ↓reduceIte, reduceCtorEq, Nat.reduceEqDiff, Bool.not_true, Bool.not_false]; refine hK_ _ ?_; clear hK_ K_)
  | refine gateK_no (by decide) ?_
  | ((try first | refine WO_op rfl rfl rfl ?_ | refine WO_op0 rfl rfl ?_ | refine WD_op rfl rfl rfl ?_ | refine WD_op0 rfl rfl ?_); (refine WV_gen fun Q_ hQ_ => ?_; simp (disch := first | omega | (simp only [List.length_cons, List.length_nil, List.length_append]; omega)) only [bb, bp, argF, ↓reduceIte, reduceCtorEq, Nat.reduceEqDiff, Nat.reduceLT, Nat.reduceLeDiff, Nat.reduceAdd, Nat.reduceMul, Nat.reduceSub, Nat.reduceBEq, Int.reduceToNat, cond_true, cond_false, eq_self, beq_self_eq_true, newPtr_X wf, load1_X wf, loadAgg_X wf, store1_X wf, writeCells_X wf, makeFunc_def, tEvI1]; first | (refine dec_split (Q := Q_) (fun hp_ => ?_) (fun hp_ => ?_) <;> first | (exfalso; omega) | (refine hQ_ _ _ ?_; clear hQ_ Q_)) | (refine dec_splitn (Q := Q_) (fun hp_ => ?_) (fun hp_ => ?_) <;> first | (exfalso; omega) | (refine hQ_ _ _ ?_; clear hQ_ Q_)) | (refine hQ_ _ _ ?_; clear hQ_ Q_)))
  | (refine WC_cond fun K_ hK_ => ?_; simp (disch := omega) only [evT_tmp, upd_apply, WB_some, ↓reduceIte, reduceCtorEq, Nat.reduceEqDiff, Nat.reduceLT]; refine hK_ _ ?_; clear hK_ K_)))
  refine WC_loop (fun (p : Int × Int) f e h' => i63 p.1 ∧ i63 p.2 ∧ Int.gcd p.1 p.2 = Int.gcd n d ∧ f 0 = ii n ∧ f 1 = ii d ∧ f 4 = .ptr (nx h 0) 0 ∧ f 5 = ii p.1 ∧ f 6 = ii p.2 ∧ e = [] ∧ h' = X h [.cells (mkCells [ii 0, ii 0]) 29] h.clock) (fun p => p.2.toNat) ?_ (d.toNat + 1) (n, d) (by omega) ?_
  · rintro ⟨x, y⟩ f e h' ⟨hx, hy, hgc, g0, g1, g4, g5, g6, rfl, rfl⟩
    simp only at hx hy hgc g5 g6
    by_cases hy0 : y = 0
    · subst hy0
      have hxg : x = (Int.gcd n d : Int) := by rw [← hgc, Int.gcd_zero_right, Int.natAbs_of_nonneg hx.1]
      rw [hxg] at g5
      (repeat' (first
  | (with_reducible first | refine WC_seq ?_ | refine WC_skip ?_ | refine WC_label ?_ | refine WC_scope ?_ | refine WC_block ?_ | refine WC_ret ?_ | refine WC_exit ?_ | refine seqQ_norm ?_ | refine seqQ_ret ?_ | refine seqQ_exit ?_ | refine blkQ_norm ?_ | refine blkQ_ret ?_ | refine blkQ_here ?_ | refine gateK_yes ?_ | refine gateK_none ?_ | refine condK_tt ?_ | refine condK_ff ?_ | refine roundQ_exit ?_ | refine roundQ_ret ?_)
  | refine WC_region ?_ | refine blkQ_out rfl ?_ | refine WO_nil ?_ | refine WD_nil ?_
  | ((first | refine WD_gate rfl rfl rfl rfl rfl fun K_ hK_ => ?_ | refine WO_gate rfl rfl rfl rfl rfl fun K_ hK_ => ?_); simp only [upd_apply, asB_bool, asB_tup, ↓reduceIte, reduceCtorEq, Nat.reduceEqDiff, Bool.not_true, Bool.not_false]; refine hK_ _ ?_; clear hK_ K_)
  | refine gateK_no (by decide) ?_
  | ((try first | refine WO_op rfl rfl rfl ?_ | refine WO_op0 rfl rfl ?_ | refine WD_op rfl rfl rfl ?_ | refine WD_op0 rfl rfl ?_); (refine WV_gen fun Q_ hQ_ => ?_; simp (disch := first | omega | (simp only [List.length_cons, List.length_nil, List.length_append]; omega)) only [bb, bp, argF, ↓reduceIte, reduceCtorEq, Nat.reduceEqDiff, Nat.reduceLT, Nat.reduceLeDiff, Nat.reduceAdd, Nat.reduceMul, Nat.reduceSub, Nat.reduceBEq, Int.reduceToNat, cond_true, cond_false, eq_self, beq_self_eq_true, g0, g1, g4, g5, g6, newPtr_X wf, load1_X wf, loadAgg_X wf, store1_X wf, writeCells_X wf, makeFunc_def, tEvI1]; first | (refine dec_split (Q := Q_) (fun hp_ => ?_) (fun hp_ => ?_) <;> first | (exfalso; omega) | (refine hQ_ _ _ ?_; clear hQ_ Q_)) | (refine dec_splitn (Q := Q_) (fun hp_ => ?_) (fun hp_ => ?_) <;> first | (exfalso; omega) | (refine hQ_ _ _ ?_; clear hQ_ Q_)) | (refine hQ_ _ _ ?_; clear hQ_ Q_)))
  | (refine WC_cond fun K_ hK_ => ?_; simp (disch := omega) only [evT_tmp, upd_apply, WB_some, ↓reduceIte, reduceCtorEq, Nat.reduceEqDiff, Nat.reduceLT]; refine hK_ _ ?_; clear hK_ K_)))
      refine WC_drawnB [.full, .full, .full, .full, .full, .full, .full, .full] (by kernel_rfl) ?_
      (repeat' (first
  | (with_reducible first | refine WC_seq ?_ | refine WC_skip ?_ | refine WC_label ?_ | refine WC_scope ?_ | refine WC_block ?_ | refine WC_ret ?_ | refine WC_exit ?_ | refine seqQ_norm ?_ | refine seqQ_ret ?_ | refine seqQ_exit ?_ | refine blkQ_norm ?_ | refine blkQ_ret ?_ | refine blkQ_here ?_ | refine gateK_yes ?_ | refine gateK_none ?_ | refine condK_tt ?_ | refine condK_ff ?_ | refine roundQ_exit ?_ | refine roundQ_ret ?_)
  | refine WC_region ?_ | refine blkQ_out rfl ?_ | refine WO_nil ?_ | refine WD_nil ?_
  | ((first | refine WD_gate rfl rfl rfl rfl rfl fun K_ hK_ => ?_ | refine WO_gate rfl rfl rfl rfl rfl fun K_ hK_ => ?_); simp only [upd_apply, asB_bool, asB_tup, ↓reduceIte, reduceCtorEq, Nat.reduceEqDiff, Bool.not_true, Bool.not_false]; refine hK_ _ ?_; clear hK_ K_)
  | refine gateK_no (by decide) ?_
  | ((try first | refine WO_op rfl rfl rfl ?_ | refine WO_op0 rfl rfl ?_ | refine WD_op rfl rfl rfl ?_ | refine WD_op0 rfl rfl ?_); (refine WV_gen fun Q_ hQ_ => ?_; simp (disch := first | omega | (simp only [List.length_cons, List.length_nil, List.length_append]; omega)) only [bb, bp, argF, ↓reduceIte, reduceCtorEq, Nat.reduceEqDiff, Nat.reduceLT, Nat.reduceLeDiff, Nat.reduceAdd, Nat.reduceMul, Nat.reduceSub, Nat.reduceBEq, Int.reduceToNat, cond_true, cond_false, eq_self, beq_self_eq_true, g0, g1, g4, g5, g6, b_quo hz, div_in hn hg.1, div_in (n := d) ⟨by omega, hd.2⟩ hg.1, newPtr_X wf, load1_X wf, loadAgg_X wf, store1_X wf, writeCells_X wf, makeFunc_def, tEvI1]; first | (refine dec_split (Q := Q_) (fun hp_ => ?_) (fun hp_ => ?_) <;> first | (exfalso; omega) | (refine hQ_ _ _ ?_; clear hQ_ Q_)) | (refine dec_splitn (Q := Q_) (fun hp_ => ?_) (fun hp_ => ?_) <;> first | (exfalso; omega) | (refine hQ_ _ _ ?_; clear hQ_ Q_)) | (refine hQ_ _ _ ?_; clear hQ_ Q_)))
  | (refine WC_cond fun K_ hK_ => ?_; simp (disch := omega) only [evT_tmp, upd_apply, WB_some, ↓reduceIte, reduceCtorEq, Nat.reduceEqDiff, Nat.reduceLT]; refine hK_ _ ?_; clear hK_ K_)))
      refine endQ_ret _ _ rfl (retc0 (by decide) (by simp (disch := first | omega | (simp only [List.length_cons, List.length_nil, List.length_append]; omega)) only [bb, bp, argF, ↓reduceIte, reduceCtorEq, Nat.reduceEqDiff, Nat.reduceLT, Nat.reduceLeDiff, Nat.reduceAdd, Nat.reduceMul, Nat.reduceSub, Nat.reduceBEq, Int.reduceToNat, cond_true, cond_false, eq_self, beq_self_eq_true, g4, loadAgg_X wf, tEvI1]; rfl)) ?_
      refine WV_flat rfl (by omega) ?_
      exact ⟨rfl, rfl⟩
    · have hm := tmod_lt hx.1 hy.1 hy0
      (repeat' (first
  | (with_reducible first | refine WC_seq ?_ | refine WC_skip ?_ | refine WC_label ?_ | refine WC_scope ?_ | refine WC_block ?_ | refine WC_ret ?_ | refine WC_exit ?_ | refine seqQ_norm ?_ | refine seqQ_ret ?_ | refine seqQ_exit ?_ | refine blkQ_norm ?_ | refine blkQ_ret ?_ | refine blkQ_here ?_ | refine gateK_yes ?_ | refine gateK_none ?_ | refine condK_tt ?_ | refine condK_ff ?_ | refine roundQ_exit ?_ | refine roundQ_ret ?_)
  | refine WC_region ?_ | refine blkQ_out rfl ?_ | refine WO_nil ?_ | refine WD_nil ?_
  | ((first | refine WD_gate rfl rfl rfl rfl rfl fun K_ hK_ => ?_ | refine WO_gate rfl rfl rfl rfl rfl fun K_ hK_ => ?_); simp only [upd_apply, asB_bool, asB_tup, ↓reduceIte, reduceCtorEq, Nat.reduceEqDiff, Bool.not_true, Bool.not_false]; refine hK_ _ ?_; clear hK_ K_)
  | refine gateK_no (by decide) ?_
  | ((try first | refine WO_op rfl rfl rfl ?_ | refine WO_op0 rfl rfl ?_ | refine WD_op rfl rfl rfl ?_ | refine WD_op0 rfl rfl ?_); (refine WV_gen fun Q_ hQ_ => ?_; simp (disch := first | omega | (simp only [List.length_cons, List.length_nil, List.length_append]; omega)) only [bb, bp, argF, ↓reduceIte, reduceCtorEq, Nat.reduceEqDiff, Nat.reduceLT, Nat.reduceLeDiff, Nat.reduceAdd, Nat.reduceMul, Nat.reduceSub, Nat.reduceBEq, Int.reduceToNat, cond_true, cond_false, eq_self, beq_self_eq_true, g0, g1, g4, g5, g6, b_rem hy0, newPtr_X wf, load1_X wf, loadAgg_X wf, store1_X wf, writeCells_X wf, makeFunc_def, tEvI1]; first | (refine dec_split (Q := Q_) (fun hp_ => ?_) (fun hp_ => ?_) <;> first | (exfalso; omega) | (refine hQ_ _ _ ?_; clear hQ_ Q_)) | (refine dec_splitn (Q := Q_) (fun hp_ => ?_) (fun hp_ => ?_) <;> first | (exfalso; omega) | (refine hQ_ _ _ ?_; clear hQ_ Q_)) | (refine hQ_ _ _ ?_; clear hQ_ Q_)))
  | (refine WC_cond fun K_ hK_ => ?_; simp (disch := omega) only [evT_tmp, upd_apply, WB_some, ↓reduceIte, reduceCtorEq, Nat.reduceEqDiff, Nat.reduceLT]; refine hK_ _ ?_; clear hK_ K_)))
      refine WC_drawnB [.full, .full, .full, .full, .full, .full] (by kernel_rfl) ?_
      (repeat' (first
  | (with_reducible first | refine WC_seq ?_ | refine WC_skip ?_ | refine WC_label ?_ | refine WC_scope ?_ | refine WC_block ?_ | refine WC_ret ?_ | refine WC_exit ?_ | refine seqQ_norm ?_ | refine seqQ_ret ?_ | refine seqQ_exit ?_ | refine blkQ_norm ?_ | refine blkQ_ret ?_ | refine blkQ_here ?_ | refine gateK_yes ?_ | refine gateK_none ?_ | refine condK_tt ?_ | refine condK_ff ?_ | refine roundQ_exit ?_ | refine roundQ_ret ?_)
  | refine WC_region ?_ | refine blkQ_out rfl ?_ | refine WO_nil ?_ | refine WD_nil ?_
  | ((first | refine WD_gate rfl rfl rfl rfl rfl fun K_ hK_ => ?_ | refine WO_gate rfl rfl rfl rfl rfl fun K_ hK_ => ?_); simp only [upd_apply, asB_bool, asB_tup, ↓reduceIte, reduceCtorEq, Nat.reduceEqDiff, Bool.not_true, Bool.not_false]; refine hK_ _ ?_; clear hK_ K_)
  | refine gateK_no (by decide) ?_
  | ((try first | refine WO_op rfl rfl rfl ?_ | refine WO_op0 rfl rfl ?_ | refine WD_op rfl rfl rfl ?_ | refine WD_op0 rfl rfl ?_); (refine WV_gen fun Q_ hQ_ => ?_; simp (disch := first | omega | (simp only [List.length_cons, List.length_nil, List.length_append]; omega)) only [bb, bp, argF, ↓reduceIte, reduceCtorEq, Nat.reduceEqDiff, Nat.reduceLT, Nat.reduceLeDiff, Nat.reduceAdd, Nat.reduceMul, Nat.reduceSub, Nat.reduceBEq, Int.reduceToNat, cond_true, cond_false, eq_self, beq_self_eq_true, g0, g1, g4, g5, g6, b_rem hy0, newPtr_X wf, load1_X wf, loadAgg_X wf, store1_X wf, writeCells_X wf, makeFunc_def, tEvI1]; first | (refine dec_split (Q := Q_) (fun hp_ => ?_) (fun hp_ => ?_) <;> first | (exfalso; omega) | (refine hQ_ _ _ ?_; clear hQ_ Q_)) | (refine dec_splitn (Q := Q_) (fun hp_ => ?_) (fun hp_ => ?_) <;> first | (exfalso; omega) | (refine hQ_ _ _ ?_; clear hQ_ Q_)) | (refine hQ_ _ _ ?_; clear hQ_ Q_)))
  | (refine WC_cond fun K_ hK_ => ?_; simp (disch := omega) only [evT_tmp, upd_apply, WB_some, ↓reduceIte, reduceCtorEq, Nat.reduceEqDiff, Nat.reduceLT]; refine hK_ _ ?_; clear hK_ K_)))
      refine roundQ_again (y, x.tmod y) (by simp only; omega) ⟨hy, ⟨hm.1, by omega⟩, ?_, by simp only [upd_apply, ↓reduceIte, reduceCtorEq, Nat.reduceEqDiff]; exact g0, by simp only [upd_apply, ↓reduceIte, reduceCtorEq, Nat.reduceEqDiff]; exact g1, by simp only [upd_apply, ↓reduceIte, reduceCtorEq, Nat.reduceEqDiff]; exact g4, by simp only [upd_apply, ↓reduceIte, reduceCtorEq, Nat.reduceEqDiff], by simp only [upd_apply, ↓reduceIte, reduceCtorEq, Nat.reduceEqDiff]; (try rfl), rfl, rfl⟩
      simp only
      rw [gcd_step hx.1 hy.1 hy0, hgc]
  · exact ⟨hn, ⟨by omega, hd.2⟩, rfl, by simp only [upd_apply, ↓reduceIte, reduceCtorEq, Nat.reduceEqDiff], by simp only [upd_apply, ↓reduceIte, reduceCtorEq, Nat.reduceEqDiff], by simp only [upd_apply, ↓reduceIte, reduceCtorEq, Nat.reduceEqDiff], by simp only [upd_apply, ↓reduceIte, reduceCtorEq, Nat.reduceEqDiff], by simp only [upd_apply, ↓reduceIte, reduceCtorEq, Nat.reduceEqDiff]; (try rfl), rfl, rfl⟩

theorem at_ik {ys : List (List Int)} {n m i k : Nat} (hi : i < ys.length) (hk : k < m) (hl : ys[i].length = m) : (i * m + k) / m = i ∧ (i * m + k) % m = k ∧ W n m (i * m + k) = wt n i * wt m k ∧ yAt ys m (i * m + k) = ys[i][k]'(by omega) := by
  have e1 : (i * m + k) / m = i := by rw [Nat.mul_comm, Nat.mul_add_div (by omega), Nat.div_eq_of_lt hk]; omega
  have e2 : (i * m + k) % m = k := by rw [Nat.mul_comm, Nat.mul_add_mod]; exact Nat.mod_eq_of_lt hk
  refine ⟨e1, e2, ?_, ?_⟩
  · unfold W; rw [e1, e2]
  · have hk' : k < ys[i].length := by omega
    unfold yAt; rw [e1, e2]; simp [List.getD, hi, hk']
theorem ik_lt {i k n m : Nat} (hi : i < n) (hk : k < m) : i * m + k < n * m := by
  have : (i + 1) * m ≤ n * m := Nat.mul_le_mul_right _ hi
  rw [Nat.succ_mul] at this; omega

def fA (n m : Nat) (ys : List (List Int)) (q : Nat) : Int := W n m q * yAt ys m q
def fB (n m : Nat) (ys : List (List Int)) (q : Nat) : Int := ((q / m : Nat) : Int) * (W n m q * yAt ys m q)
def fC (n m : Nat) (ys : List (List Int)) (q : Nat) : Int := ((q % m : Nat) : Int) * (W n m q * yAt ys m q)
def lastY (m : Nat) (ys : List (List Int)) (i : Nat) : Int := (ys.getD i []).getD (m - 1) 0
def fD (n m : Nat) (ys : List (List Int)) (i : Nat) : Int := wt n i * lastY m ys i * lastY m ys i * lastY m ys i

theorem sumsR (b : AV) (yvs : List AV) (ys : List (List Int)) (m : Nat) (hn : 2 ≤ ys.length ∧ ys.length ≤ 10) (hm : 2 ≤ m ∧ m ≤ 6) (hall : ∀ y ∈ ys, y.length = m) (hy : ∀ q, q < ys.length * m → 0 ≤ yAt ys m q ∧ yAt ys m q ≤ 500) (h : H) (x : YsAt h b yvs ys m) :
    (om Try.prog KK).call (.fn 26 [b]) h = .ok (.tup [ii (psum (fA ys.length m ys) (ys.length * m)), ii (psum (fB ys.length m ys) (ys.length * m)), ii (psum (fC ys.length m ys) (ys.length * m)), ii (psum (fD ys.length m ys) ys.length)]) h := by
  have wf := x.wf
  have hnm : ys.length * m ≤ 60 := by
    have := Nat.mul_le_mul hn.2 hm.2; omega
  have hlen : ∀ h', lenE Try.prog 25 b h' = some (ii (ys.length : Int)) := fun h' => x.sl.len un_25
  have hbA : ∀ q, q < ys.length * m → 0 ≤ fA ys.length m ys q ∧ fA ys.length m ys q ≤ 2000 := fun q hq => by
    have := mul_bd (wt2 ys.length (q / m) m (q % m)) (hy q hq)
    unfold fA W; omega
  have hbB : ∀ q, q < ys.length * m → 0 ≤ fB ys.length m ys q ∧ fB ys.length m ys q ≤ 18000 := fun q hq => by
    obtain ⟨i1, i2, i3⟩ := place_idx hm.2 hn.2 hq
    have := mul_bd (a := ((q / m : Nat) : Int)) (x := 9) ⟨by omega, by omega⟩ (hbA q hq)
    unfold fA at this
    unfold fB; omega
  have hbC : ∀ q, q < ys.length * m → 0 ≤ fC ys.length m ys q ∧ fC ys.length m ys q ≤ 10000 := fun q hq => by
    obtain ⟨i1, i2, i3⟩ := place_idx hm.2 hn.2 hq
    have := mul_bd (a := ((q % m : Nat) : Int)) (x := 5) ⟨by omega, by omega⟩ (hbA q hq)
    unfold fA at this
    unfold fC; omega
  have hlast : ∀ i, i < ys.length → 0 ≤ lastY m ys i ∧ lastY m ys i ≤ 500 := fun i hi => by
    have hk : m - 1 < m := by omega
    have := hy _ (ik_lt hi hk)
    obtain ⟨_, _, _, e4⟩ := at_ik (ys := ys) (n := ys.length) hi hk (hall _ (List.getElem_mem hi))
    rw [e4] at this
    have hk' : m - 1 < ys[i].length := by rw [hall _ (List.getElem_mem hi)]; omega
    unfold lastY
    simpa [List.getD, hi, hk'] using this
  have hbD : ∀ i, i < ys.length → 0 ≤ fD ys.length m ys i ∧ fD ys.length m ys i ≤ 250000000 := fun i hi => by
    have := mul_bd (mul_bd (mul_bd (wt_in ys.length i) (hlast i hi)) (hlast i hi)) (hlast i hi)
    unfold fD; omega
  refine WV_to (WV_call (fn := Try.f26) Try.func26 rfl rfl rfl rfl rfl ?_)
  simp only [argF]
  have hwt : ∀ (i n : Nat), i < n → n ≤ 1000 → ∀ l w, w ≤ h.clock + l.length → (om Try.prog KK).call (.fn 46 [ii (i : Int), ii (n : Int)]) (X h l w) = .ok (ii (wt n i)) (X h l w) := fun i n hi hn l w hw => weightR i n hi hn _ (wf.X hw)
  (repeat' (first
  | (with_reducible first | refine WC_seq ?_ | refine WC_skip ?_ | refine WC_label ?_ | refine WC_scope ?_ | refine WC_block ?_ | refine WC_ret ?_ | refine WC_exit ?_ | refine seqQ_norm ?_ | refine seqQ_ret ?_ | refine seqQ_exit ?_ | refine blkQ_norm ?_ | refine blkQ_ret ?_ | refine blkQ_here ?_ | refine gateK_yes ?_ | refine gateK_none ?_ | refine condK_tt ?_ | refine condK_ff ?_ | refine roundQ_exit ?_ | refine roundQ_ret ?_)
  | refine WC_region ?_ | refine blkQ_out rfl ?_ | refine WO_nil ?_ | refine WD_nil ?_
  | ((first | refine WD_gate rfl rfl rfl rfl rfl fun K_ hK_ => ?_ | refine WO_gate rfl rfl rfl rfl rfl fun K_ hK_ => ?_); simp only [upd_apply, asB_bool, asB_tup, ↓reduceIte, reduceCtorEq, Nat.reduceEqDiff, Bool.not_true, Bool.not_false]; refine hK_ _ ?_; clear hK_ K_)
  | refine gateK_no (by decide) ?_
  | ((try first | refine WO_op rfl rfl rfl ?_ | refine WO_op0 rfl rfl ?_ | refine WD_op rfl rfl rfl ?_ | refine WD_op0 rfl rfl ?_); (refine WV_gen fun Q_ hQ_ => ?_; simp (disch := first | omega | (simp only [List.length_cons, List.length_nil, List.length_append]; omega)) only [bb, bp, argF, ↓reduceIte, reduceCtorEq, Nat.reduceEqDiff, Nat.reduceLT, Nat.reduceLeDiff, Nat.reduceAdd, Nat.reduceMul, Nat.reduceSub, Nat.reduceBEq, Int.reduceToNat, cond_true, cond_false, eq_self, beq_self_eq_true, hlen, newPtr_X wf, load1_X wf, loadAgg_X wf, store1_X wf, writeCells_X wf, makeFunc_def, tEvI1]; first | (refine dec_split (Q := Q_) (fun hp_ => ?_) (fun hp_ => ?_) <;> first | (exfalso; omega) | (refine hQ_ _ _ ?_; clear hQ_ Q_)) | (refine dec_splitn (Q := Q_) (fun hp_ => ?_) (fun hp_ => ?_) <;> first | (exfalso; omega) | (refine hQ_ _ _ ?_; clear hQ_ Q_)) | (refine hQ_ _ _ ?_; clear hQ_ Q_)))
  | (refine WC_cond fun K_ hK_ => ?_; simp (disch := omega) only [evT_tmp, upd_apply, WB_some, ↓reduceIte, reduceCtorEq, Nat.reduceEqDiff, Nat.reduceLT]; refine hK_ _ ?_; clear hK_ K_)))
  refine WC_loop (fun (i : Nat) f d h' => i ≤ ys.length ∧ f 0 = b ∧ f 6 = ii (psum (fA ys.length m ys) (i * m)) ∧ f 7 = ii (psum (fB ys.length m ys) (i * m)) ∧ f 8 = ii (psum (fC ys.length m ys) (i * m)) ∧ f 9 = ii (psum (fD ys.length m ys) i) ∧ f 10 = ii (i : Int) ∧ d = [] ∧ h' = X h [] h.clock)
    (fun i => ys.length - i) ?_ (ys.length + 1) 0 (by omega) ?_
  · rintro i f d h' ⟨hi, g0, g6, g7, g8, g9, g10, rfl, rfl⟩
    by_cases hlt : i < ys.length
    · obtain ⟨v, hv, hsv, hcv, hrl⟩ := x.row i hlt
      obtain ⟨id, off, hix, hld⟩ := x.sl.at1 wf hlt ik_25
      rw [hv] at hld
      have hlenv : ∀ h', lenE Try.prog 47 v h' = some (ii (m : Int)) := fun h' => hsv.len un_47
      (repeat' (first
  | (with_reducible first | refine WC_seq ?_ | refine WC_skip ?_ | refine WC_label ?_ | refine WC_scope ?_ | refine WC_block ?_ | refine WC_ret ?_ | refine WC_exit ?_ | refine seqQ_norm ?_ | refine seqQ_ret ?_ | refine seqQ_exit ?_ | refine blkQ_norm ?_ | refine blkQ_ret ?_ | refine blkQ_here ?_ | refine gateK_yes ?_ | refine gateK_none ?_ | refine condK_tt ?_ | refine condK_ff ?_ | refine roundQ_exit ?_ | refine roundQ_ret ?_)
  | refine WC_region ?_ | refine blkQ_out rfl ?_ | refine WO_nil ?_ | refine WD_nil ?_
  | ((first | refine WD_gate rfl rfl rfl rfl rfl fun K_ hK_ => ?_ | refine WO_gate rfl rfl rfl rfl rfl fun K_ hK_ => ?_); simp only [upd_apply, asB_bool, asB_tup, ↓reduceIte, reduceCtorEq, Nat.reduceEqDiff, Bool.not_true, Bool.not_false]; refine hK_ _ ?_; clear hK_ K_)
  | refine gateK_no (by decide) ?_
  | ((try first | refine WO_op rfl rfl rfl ?_ | refine WO_op0 rfl rfl ?_ | refine WD_op rfl rfl rfl ?_ | refine WD_op0 rfl rfl ?_); (refine WV_gen fun Q_ hQ_ => ?_; simp (disch := first | omega | (simp only [List.length_cons, List.length_nil, List.length_append]; omega)) only [bb, bp, argF, ↓reduceIte, reduceCtorEq, Nat.reduceEqDiff, Nat.reduceLT, Nat.reduceLeDiff, Nat.reduceAdd, Nat.reduceMul, Nat.reduceSub, Nat.reduceBEq, Int.reduceToNat, cond_true, cond_false, eq_self, beq_self_eq_true, g0, g6, g7, g8, g9, g10, hix, hld, hlen, hlenv, newPtr_X wf, load1_X wf, loadAgg_X wf, store1_X wf, writeCells_X wf, makeFunc_def, tEvI1]; first | (refine dec_split (Q := Q_) (fun hp_ => ?_) (fun hp_ => ?_) <;> first | (exfalso; omega) | (refine hQ_ _ _ ?_; clear hQ_ Q_)) | (refine dec_splitn (Q := Q_) (fun hp_ => ?_) (fun hp_ => ?_) <;> first | (exfalso; omega) | (refine hQ_ _ _ ?_; clear hQ_ Q_)) | (refine hQ_ _ _ ?_; clear hQ_ Q_)))
  | (refine WC_cond fun K_ hK_ => ?_; simp (disch := omega) only [evT_tmp, upd_apply, WB_some, ↓reduceIte, reduceCtorEq, Nat.reduceEqDiff, Nat.reduceLT]; refine hK_ _ ?_; clear hK_ K_)))
      refine WC_loop (fun (k : Nat) f d h' => k ≤ m ∧ f 0 = b ∧ f 6 = ii (psum (fA ys.length m ys) (i * m + k)) ∧ f 7 = ii (psum (fB ys.length m ys) (i * m + k)) ∧ f 8 = ii (psum (fC ys.length m ys) (i * m + k)) ∧ f 9 = ii (psum (fD ys.length m ys) i) ∧ f 10 = ii (i : Int) ∧ f 11 = ii (m : Int) ∧ f 12 = ii (k : Int) ∧ d = [] ∧ h' = X h [] h.clock)
        (fun k => m - k) ?_ (m + 1) 0 (by omega) ?_
      · clear g0 g6 g7 g8 g9 g10
        rintro k f d h' ⟨hk, g0, g6, g7, g8, g9, g10, g11, g12, rfl, rfl⟩
        by_cases hkl : k < m
        · obtain ⟨id2, off2, hix2, hld2⟩ := hsv.at1 wf hkl ik_47
          obtain ⟨e1, e2, e3, e4⟩ := at_ik (n := ys.length) hlt hkl hrl
          have hkr : k < ys[i].length := by omega
          have hyz : (ys[i].map ii)[k]? = some (ii (yAt ys m (i * m + k))) := by
            rw [List.getElem?_map, e4]; simp [hkr]
          rw [hyz] at hld2
          have hq := ik_lt (n := ys.length) hlt hkl
          have b1 := hbA _ hq
          have b2 := hbB _ hq
          have b3 := hbC _ hq
          have s1 := psum_in (f := fA ys.length m ys) (b := 2000) (q := i * m + k) (fun q hq' => hbA q (by omega))
          have s2 := psum_in (f := fB ys.length m ys) (b := 18000) (q := i * m + k) (fun q hq' => hbB q (by omega))
          have s3 := psum_in (f := fC ys.length m ys) (b := 10000) (q := i * m + k) (fun q hq' => hbC q (by omega))
          have d1 : fA ys.length m ys (i * m + k) = wt ys.length i * wt m k * yAt ys m (i * m + k) := by unfold fA; rw [e3]
          have d2 : fB ys.length m ys (i * m + k) = (i : Int) * (wt ys.length i * wt m k * yAt ys m (i * m + k)) := by unfold fB; rw [e3, e1]
          have d3 : fC ys.length m ys (i * m + k) = (k : Int) * (wt ys.length i * wt m k * yAt ys m (i * m + k)) := by unfold fC; rw [e3, e2]
          rw [d1] at b1
          rw [d2] at b2
          rw [d3] at b3
          have b0 := wt2 ys.length i m k
          have hw1 := hwt i ys.length hlt (by omega)
          have hw2 := hwt k m hkl (by omega)
          (repeat' (first
  | (with_reducible first | refine WC_seq ?_ | refine WC_skip ?_ | refine WC_label ?_ | refine WC_scope ?_ | refine WC_block ?_ | refine WC_ret ?_ | refine WC_exit ?_ | refine seqQ_norm ?_ | refine seqQ_ret ?_ | refine seqQ_exit ?_ | refine blkQ_norm ?_ | refine blkQ_ret ?_ | refine blkQ_here ?_ | refine gateK_yes ?_ | refine gateK_none ?_ | refine condK_tt ?_ | refine condK_ff ?_ | refine roundQ_exit ?_ | refine roundQ_ret ?_)
  | refine WC_region ?_ | refine blkQ_out rfl ?_ | refine WO_nil ?_ | refine WD_nil ?_
  | ((first | refine WD_gate rfl rfl rfl rfl rfl fun K_ hK_ => ?_ | refine WO_gate rfl rfl rfl rfl rfl fun K_ hK_ => ?_); simp only [upd_apply, asB_bool, asB_tup, ↓reduceIte, reduceCtorEq, Nat.reduceEqDiff, Bool.not_true, Bool.not_false]; refine hK_ _ ?_; clear hK_ K_)
  | refine gateK_no (by decide) ?_
  | ((try first | refine WO_op rfl rfl rfl ?_ | refine WO_op0 rfl rfl ?_ | refine WD_op rfl rfl rfl ?_ | refine WD_op0 rfl rfl ?_); (refine WV_gen fun Q_ hQ_ => ?_; simp (disch := first | omega | (simp only [List.length_cons, List.length_nil, List.length_append]; omega)) only [bb, bp, argF, ↓reduceIte, reduceCtorEq, Nat.reduceEqDiff, Nat.reduceLT, Nat.reduceLeDiff, Nat.reduceAdd, Nat.reduceMul, Nat.reduceSub, Nat.reduceBEq, Int.reduceToNat, cond_true, cond_false, eq_self, beq_self_eq_true, g0, g6, g7, g8, g9, g10, g11, g12, hlen, newPtr_X wf, load1_X wf, loadAgg_X wf, store1_X wf, writeCells_X wf, makeFunc_def, tEvI1]; first | (refine dec_split (Q := Q_) (fun hp_ => ?_) (fun hp_ => ?_) <;> first | (exfalso; omega) | (refine hQ_ _ _ ?_; clear hQ_ Q_)) | (refine dec_splitn (Q := Q_) (fun hp_ => ?_) (fun hp_ => ?_) <;> first | (exfalso; omega) | (refine hQ_ _ _ ?_; clear hQ_ Q_)) | (refine hQ_ _ _ ?_; clear hQ_ Q_)))
  | (refine WC_cond fun K_ hK_ => ?_; simp (disch := omega) only [evT_tmp, upd_apply, WB_some, ↓reduceIte, reduceCtorEq, Nat.reduceEqDiff, Nat.reduceLT]; refine hK_ _ ?_; clear hK_ K_)))
          refine WC_drawnB [.no, .no, .no, .no, .no, .no, .no, .no, .no, .no, .no, .no, .no, .no, .no, .full, .full] (by kernel_rfl) ?_
          (repeat' (first
  | (with_reducible first | refine WC_seq ?_ | refine WC_skip ?_ | refine WC_label ?_ | refine WC_scope ?_ | refine WC_block ?_ | refine WC_ret ?_ | refine WC_exit ?_ | refine seqQ_norm ?_ | refine seqQ_ret ?_ | refine seqQ_exit ?_ | refine blkQ_norm ?_ | refine blkQ_ret ?_ | refine blkQ_here ?_ | refine gateK_yes ?_ | refine gateK_none ?_ | refine condK_tt ?_ | refine condK_ff ?_ | refine roundQ_exit ?_ | refine roundQ_ret ?_)
  | refine WC_region ?_ | refine blkQ_out rfl ?_ | refine WO_nil ?_ | refine WD_nil ?_
  | ((first | refine WD_gate rfl rfl rfl rfl rfl fun K_ hK_ => ?_ | refine WO_gate rfl rfl rfl rfl rfl fun K_ hK_ => ?_); simp only [upd_apply, asB_bool, asB_tup, ↓reduceIte, reduceCtorEq, Nat.reduceEqDiff, Bool.not_true, Bool.not_false]; refine hK_ _ ?_; clear hK_ K_)
  | refine gateK_no (by decide) ?_
  | ((try first | refine WO_op rfl rfl rfl ?_ | refine WO_op0 rfl rfl ?_ | refine WD_op rfl rfl rfl ?_ | refine WD_op0 rfl rfl ?_); (refine WV_gen fun Q_ hQ_ => ?_; simp (disch := first | omega | (simp only [List.length_cons, List.length_nil, List.length_append]; omega)) only [bb, bp, argF, ↓reduceIte, reduceCtorEq, Nat.reduceEqDiff, Nat.reduceLT, Nat.reduceLeDiff, Nat.reduceAdd, Nat.reduceMul, Nat.reduceSub, Nat.reduceBEq, Int.reduceToNat, cond_true, cond_false, eq_self, beq_self_eq_true, g0, g6, g7, g8, g9, g10, g11, g12, hix, hld, hlen, hw1, hw2, hix2, hld2, newPtr_X wf, load1_X wf, loadAgg_X wf, store1_X wf, writeCells_X wf, makeFunc_def, tEvI1]; first | (refine dec_split (Q := Q_) (fun hp_ => ?_) (fun hp_ => ?_) <;> first | (exfalso; omega) | (refine hQ_ _ _ ?_; clear hQ_ Q_)) | (refine dec_splitn (Q := Q_) (fun hp_ => ?_) (fun hp_ => ?_) <;> first | (exfalso; omega) | (refine hQ_ _ _ ?_; clear hQ_ Q_)) | (refine hQ_ _ _ ?_; clear hQ_ Q_)))
  | (refine WC_cond fun K_ hK_ => ?_; simp (disch := omega) only [evT_tmp, upd_apply, WB_some, ↓reduceIte, reduceCtorEq, Nat.reduceEqDiff, Nat.reduceLT]; refine hK_ _ ?_; clear hK_ K_)))
          refine roundQ_again (k + 1) (by omega) ⟨hkl, by simp only [upd_apply, ↓reduceIte, reduceCtorEq, Nat.reduceEqDiff]; exact g0, ?_, ?_, ?_, by simp only [upd_apply, ↓reduceIte, reduceCtorEq, Nat.reduceEqDiff]; exact g9, by simp only [upd_apply, ↓reduceIte, reduceCtorEq, Nat.reduceEqDiff]; exact g10, by simp only [upd_apply, ↓reduceIte, reduceCtorEq, Nat.reduceEqDiff]; exact g11, by simp only [upd_apply, ↓reduceIte, reduceCtorEq, Nat.reduceEqDiff]; rfl, rfl, rfl⟩
          · simp only [upd_apply, ↓reduceIte, reduceCtorEq, Nat.reduceEqDiff]
            rw [← d1]; rfl
          · simp only [upd_apply, ↓reduceIte, reduceCtorEq, Nat.reduceEqDiff]
            rw [← d2]; rfl
          · simp only [upd_apply, ↓reduceIte, reduceCtorEq, Nat.reduceEqDiff]
            rw [← d3]; rfl
        · have hke : k = m := by omega
          subst hke
          obtain ⟨id2, off2, hix2, hld2⟩ := hsv.at1 wf (i := k - 1) (by omega) ik_47
          have hkr : k - 1 < ys[i].length := by omega
          have hyz : (ys[i].map ii)[k - 1]? = some (ii (lastY k ys i)) := by
            rw [List.getElem?_map]; simp [lastY, List.getD, hlt, hkr]
          rw [hyz] at hld2
          have ek : (k : Int) - 1 = ((k - 1 : Nat) : Int) := by omega
          have hw1 := hwt i ys.length hlt (by omega)
          have b0 := wt_in ys.length i
          have bl := hlast i hlt
          have b1 := mul_bd b0 bl
          have b2 := mul_bd b1 bl
          have b3 := mul_bd b2 bl
          have s4 := psum_in (f := fD ys.length k ys) (b := 250000000) (q := i) (fun q hq' => hbD q (by omega))
          (repeat' (first
  | (with_reducible first | refine WC_seq ?_ | refine WC_skip ?_ | refine WC_label ?_ | refine WC_scope ?_ | refine WC_block ?_ | refine WC_ret ?_ | refine WC_exit ?_ | refine seqQ_norm ?_ | refine seqQ_ret ?_ | refine seqQ_exit ?_ | refine blkQ_norm ?_ | refine blkQ_ret ?_ | refine blkQ_here ?_ | refine gateK_yes ?_ | refine gateK_none ?_ | refine condK_tt ?_ | refine condK_ff ?_ | refine roundQ_exit ?_ | refine roundQ_ret ?_)
  | refine WC_region ?_ | refine blkQ_out rfl ?_ | refine WO_nil ?_ | refine WD_nil ?_
  | ((first | refine WD_gate rfl rfl rfl rfl rfl fun K_ hK_ => ?_ | refine WO_gate rfl rfl rfl rfl rfl fun K_ hK_ => ?_); simp only [upd_apply, asB_bool, asB_tup, ↓reduceIte, reduceCtorEq, Nat.reduceEqDiff, Bool.not_true, Bool.not_false]; refine hK_ _ ?_; clear hK_ K_)
  | refine gateK_no (by decide) ?_
  | ((try first | refine WO_op rfl rfl rfl ?_ | refine WO_op0 rfl rfl ?_ | refine WD_op rfl rfl rfl ?_ | refine WD_op0 rfl rfl ?_); (refine WV_gen fun Q_ hQ_ => ?_; simp (disch := first | omega | (simp only [List.length_cons, List.length_nil, List.length_append]; omega)) only [bb, bp, argF, ↓reduceIte, reduceCtorEq, Nat.reduceEqDiff, Nat.reduceLT, Nat.reduceLeDiff, Nat.reduceAdd, Nat.reduceMul, Nat.reduceSub, Nat.reduceBEq, Int.reduceToNat, cond_true, cond_false, eq_self, beq_self_eq_true, g0, g6, g7, g8, g9, g10, g11, g12, hix, hld, hlen, hw1, ek, hix2, hld2, newPtr_X wf, load1_X wf, loadAgg_X wf, store1_X wf, writeCells_X wf, makeFunc_def, tEvI1]; first | (refine dec_split (Q := Q_) (fun hp_ => ?_) (fun hp_ => ?_) <;> first | (exfalso; omega) | (refine hQ_ _ _ ?_; clear hQ_ Q_)) | (refine dec_splitn (Q := Q_) (fun hp_ => ?_) (fun hp_ => ?_) <;> first | (exfalso; omega) | (refine hQ_ _ _ ?_; clear hQ_ Q_)) | (refine hQ_ _ _ ?_; clear hQ_ Q_)))
  | (refine WC_cond fun K_ hK_ => ?_; simp (disch := omega) only [evT_tmp, upd_apply, WB_some, ↓reduceIte, reduceCtorEq, Nat.reduceEqDiff, Nat.reduceLT]; refine hK_ _ ?_; clear hK_ K_)))
          refine roundQ_again (i + 1) (by omega) ⟨hlt, by simp only [upd_apply, ↓reduceIte, reduceCtorEq, Nat.reduceEqDiff]; exact g0, by simp only [upd_apply, ↓reduceIte, reduceCtorEq, Nat.reduceEqDiff]; rw [Nat.succ_mul]; exact g6, by simp only [upd_apply, ↓reduceIte, reduceCtorEq, Nat.reduceEqDiff]; rw [Nat.succ_mul]; exact g7, by simp only [upd_apply, ↓reduceIte, reduceCtorEq, Nat.reduceEqDiff]; rw [Nat.succ_mul]; exact g8, by simp only [upd_apply, ↓reduceIte, reduceCtorEq, Nat.reduceEqDiff]; rfl, by simp only [upd_apply, ↓reduceIte, reduceCtorEq, Nat.reduceEqDiff]; (try rfl), rfl, rfl⟩
      · exact ⟨Nat.zero_le _, by simp only [upd_apply, ↓reduceIte, reduceCtorEq, Nat.reduceEqDiff]; exact g0, by simp only [upd_apply, ↓reduceIte, reduceCtorEq, Nat.reduceEqDiff]; exact g6, by simp only [upd_apply, ↓reduceIte, reduceCtorEq, Nat.reduceEqDiff]; exact g7, by simp only [upd_apply, ↓reduceIte, reduceCtorEq, Nat.reduceEqDiff]; exact g8, by simp only [upd_apply, ↓reduceIte, reduceCtorEq, Nat.reduceEqDiff]; exact g9, by simp only [upd_apply, ↓reduceIte, reduceCtorEq, Nat.reduceEqDiff]; exact g10, by simp only [upd_apply, ↓reduceIte, reduceCtorEq, Nat.reduceEqDiff], by simp only [upd_apply, ↓reduceIte, reduceCtorEq, Nat.reduceEqDiff]; (try rfl), rfl, rfl⟩
    · have hie : i = ys.length := by omega
      subst hie
      (repeat' (first
  | (with_reducible first | refine WC_seq ?_ | refine WC_skip ?_ | refine WC_label ?_ | refine WC_scope ?_ | refine WC_block ?_ | refine WC_ret ?_ | refine WC_exit ?_ | refine seqQ_norm ?_ | refine seqQ_ret ?_ | refine seqQ_exit ?_ | refine blkQ_norm ?_ | refine blkQ_ret ?_ | refine blkQ_here ?_ | refine gateK_yes ?_ | refine gateK_none ?_ | refine condK_tt ?_ | refine condK_ff ?_ | refine roundQ_exit ?_ | refine roundQ_ret ?_)
  | refine WC_region ?_ | refine blkQ_out rfl ?_ | refine WO_nil ?_ | refine WD_nil ?_
  | ((first | refine WD_gate rfl rfl rfl rfl rfl fun K_ hK_ => ?_ | refine WO_gate rfl rfl rfl rfl rfl fun K_ hK_ => ?_); simp only [upd_apply, asB_bool, asB_tup, ↓reduceIte, reduceCtorEq, Nat.reduceEqDiff, Bool.not_true, Bool.not_false]; refine hK_ _ ?_; clear hK_ K_)
  | refine gateK_no (by decide) ?_
  | ((try first | refine WO_op rfl rfl rfl ?_ | refine WO_op0 rfl rfl ?_ | refine WD_op rfl rfl rfl ?_ | refine WD_op0 rfl rfl ?_); (refine WV_gen fun Q_ hQ_ => ?_; simp (disch := first | omega | (simp only [List.length_cons, List.length_nil, List.length_append]; omega)) only [bb, bp, argF, ↓reduceIte, reduceCtorEq, Nat.reduceEqDiff, Nat.reduceLT, Nat.reduceLeDiff, Nat.reduceAdd, Nat.reduceMul, Nat.reduceSub, Nat.reduceBEq, Int.reduceToNat, cond_true, cond_false, eq_self, beq_self_eq_true, g0, g6, g7, g8, g9, g10, hlen, newPtr_X wf, load1_X wf, loadAgg_X wf, store1_X wf, writeCells_X wf, makeFunc_def, tEvI1]; first | (refine dec_split (Q := Q_) (fun hp_ => ?_) (fun hp_ => ?_) <;> first | (exfalso; omega) | (refine hQ_ _ _ ?_; clear hQ_ Q_)) | (refine dec_splitn (Q := Q_) (fun hp_ => ?_) (fun hp_ => ?_) <;> first | (exfalso; omega) | (refine hQ_ _ _ ?_; clear hQ_ Q_)) | (refine hQ_ _ _ ?_; clear hQ_ Q_)))
  | (refine WC_cond fun K_ hK_ => ?_; simp (disch := omega) only [evT_tmp, upd_apply, WB_some, ↓reduceIte, reduceCtorEq, Nat.reduceEqDiff, Nat.reduceLT]; refine hK_ _ ?_; clear hK_ K_)))
      refine endQ_ret _ _ rfl (by simp only [retE, resultsE, resultE, get_mkM _ _ (show 2 < 384 by decide), get_mkM _ _ (show 3 < 384 by decide), get_mkM _ _ (show 4 < 384 by decide), get_mkM _ _ (show 5 < 384 by decide)]; rfl) ?_
      simp only [upd_apply, ↓reduceIte, reduceCtorEq, Nat.reduceEqDiff]
      refine WV_flat rfl (by omega) ?_
      exact ⟨rfl, rfl⟩
  · exact ⟨Nat.zero_le _, by simp only [upd_apply, ↓reduceIte, reduceCtorEq, Nat.reduceEqDiff], by simp only [upd_apply, ↓reduceIte, reduceCtorEq, Nat.reduceEqDiff]; rw [Nat.zero_mul]; rfl, by simp only [upd_apply, ↓reduceIte, reduceCtorEq, Nat.reduceEqDiff]; rw [Nat.zero_mul]; rfl, by simp only [upd_apply, ↓reduceIte, reduceCtorEq, Nat.reduceEqDiff]; rw [Nat.zero_mul]; rfl, by simp only [upd_apply, ↓reduceIte, reduceCtorEq, Nat.reduceEqDiff]; rfl, by simp only [upd_apply, ↓reduceIte, reduceCtorEq, Nat.reduceEqDiff]; (try rfl), rfl, rfl⟩
end Go.Proofs.Ytghondkiondeaab
end

/- EvI2 -/
section
/-
  LAYER 2, THE REFERENCE: what is asked of a true hull.
-/
namespace Go.Proofs.Ytghondkiondeaab
open Go.Ev
set_option maxRecDepth 100000
set_option linter.unusedSimpArgs false
set_option linter.unusedVariables false
set_option maxHeartbeats 2000000

theorem tEvI2 : type_of% (And.intro (And.intro (And.intro (And.intro (@bs_29) (And.intro (@ia_29) (@sz_29))) (And.intro (@ze_29) (And.intro (@ia_2) (@sz_2)))) (And.intro (And.intro (@ze_2) (And.intro (@ia_3) (@sz_3))) (And.intro (@ia_25) (And.intro (@sz_25) (@ia_47))))) (And.intro (And.intro (And.intro (@sz_47) (And.intro (@ik_25) (@ik_47))) (And.intro (@fo_24_0) (And.intro (@fo_24_1) (@fo_24_2)))) (And.intro (And.intro (@ia_24) (And.intro (@sz_24) (@pb_46))) (And.intro (@pb_26) (And.intro (@pb_27) (@pb_30)))))) := And.intro (And.intro (And.intro (And.intro (@bs_29) (And.intro (@ia_29) (@sz_29))) (And.intro (@ze_29) (And.intro (@ia_2) (@sz_2)))) (And.intro (And.intro (@ze_2) (And.intro (@ia_3) (@sz_3))) (And.intro (@ia_25) (And.intro (@sz_25) (@ia_47))))) (And.intro (And.intro (And.intro (@sz_47) (And.intro (@ik_25) (@ik_47))) (And.intro (@fo_24_0) (And.intro (@fo_24_1) (@fo_24_2)))) (And.intro (And.intro (@ia_24) (And.intro (@sz_24) (@pb_46))) (And.intro (@pb_26) (And.intro (@pb_27) (@pb_30)))))
theorem psum_mul (c : Int) (f : Nat → Int) : ∀ n, psum (fun q => c * f q) n = c * psum f n
  | 0 => by simp [psum]
  | n + 1 => by simp only [psum]; rw [psum_mul c f n, Int.mul_add]
theorem psum_add (f g : Nat → Int) : ∀ n, psum (fun q => f q + g q) n = psum f n + psum g n
  | 0 => by simp [psum]
  | n + 1 => by simp only [psum]; rw [psum_add f g n]; omega
theorem psum_block (f : Nat → Int) (a : Nat) : ∀ k, psum f (a + k) = psum f a + psum (fun j => f (a + j)) k
  | 0 => by simp [psum]
  | k + 1 => by rw [← Nat.add_assoc]; simp only [psum]; rw [psum_block f a k]; omega
theorem psum_last {f : Nat → Int} {c : Int} {m : Nat} (hm : 0 < m) (h : ∀ k, k < m → f k = if k + 1 = m then c else 0) : psum f m = c := by
  obtain ⟨m, rfl⟩ : ∃ j, m = j + 1 := ⟨m - 1, by omega⟩
  simp only [psum]
  have h0 : psum f m = 0 := by
    rw [psum_congr (g := fun _ => 0) (fun q hq => by rw [h q (by omega), if_neg (by omega)])]
    clear h
    induction m with
    | zero => rfl
    | succ m ih => simp only [psum]; rw [ih (by omega)]; rfl
  rw [h0, h m (by omega), if_pos rfl]; omega
/-- Only the last of each station. -/
theorem psum_lasts {f g : Nat → Int} {m : Nat} (hm : 0 < m) : ∀ (n : Nat), (∀ i k, i < n → k < m → f (i * m + k) = if k + 1 = m then g i else 0) → psum f (n * m) = psum g n
  | 0, _ => by simp [psum]
  | n + 1, h => by
    rw [Nat.succ_mul, psum_block, psum_lasts hm n (fun i k hi hk => h i k (by omega) hk), psum_last hm (fun k hk => h n k (by omega) hk)]
    rfl

theorem num47 (sp st : Int) (n m : Nat) (ys : List (List Int)) : numS 47 sp st n m ys = sp * psum (fB n m ys) (n * m) := by
  rw [← psum_mul]
  refine psum_congr fun q _ => ?_
  simp only [numOf, fB, ↓reduceIte]
  grind
theorem num48 (sp st : Int) (n m : Nat) (ys : List (List Int)) : numS 48 sp st n m ys = st * psum (fC n m ys) (n * m) := by
  rw [← psum_mul]
  refine psum_congr fun q _ => ?_
  simp only [numOf, fC, ↓reduceIte, Nat.reduceEqDiff]
  grind
theorem den47 (st : Int) (n m : Nat) (ys : List (List Int)) : denS 47 st n m ys = psum (fA n m ys) (n * m) := by
  refine psum_congr fun q _ => ?_
  simp only [denOf, fA, ↓reduceIte, Nat.reduceEqDiff]
theorem den48 (st : Int) (n m : Nat) (ys : List (List Int)) : denS 48 st n m ys = psum (fA n m ys) (n * m) := by
  refine psum_congr fun q _ => ?_
  simp only [denOf, fA, ↓reduceIte, Nat.reduceEqDiff]
theorem den49 (st : Int) (n m : Nat) (ys : List (List Int)) : denS 49 st n m ys = 3 * st * psum (fA n m ys) (n * m) := by
  rw [← psum_mul]
  refine psum_congr fun q _ => ?_
  simp only [denOf, fA, ↓reduceIte, Nat.reduceEqDiff]
theorem wt_last {m : Nat} (hm : 0 < m) : wt m (m - 1) = 1 := by unfold wt; rw [if_pos (by omega)]
theorem num49 (sp st : Int) (m : Nat) (hm : 0 < m) (ys : List (List Int)) (hall : ∀ y ∈ ys, y.length = m) : numS 49 sp st ys.length m ys = 3 * st * st * psum (fC ys.length m ys) (ys.length * m) + 2 * psum (fD ys.length m ys) ys.length := by
  have h2 : psum (fun q => if q % m + 1 = m then 2 * W ys.length m q * yAt ys m q * yAt ys m q * yAt ys m q else 0) (ys.length * m) = psum (fun i => 2 * fD ys.length m ys i) ys.length := by
    refine psum_lasts hm _ fun i k hi hk => ?_
    have hl := hall _ (List.getElem_mem hi)
    obtain ⟨e1, e2, e3, e4⟩ := at_ik (n := ys.length) hi hk hl
    simp only [e2]
    by_cases hkm : k + 1 = m
    · rw [if_pos hkm, if_pos hkm, e3]
      have ek : k = m - 1 := by omega
      have e5 : lastY m ys i = yAt ys m (i * m + k) := by
        rw [e4]
        have hk' : m - 1 < ys[i].length := by omega
        unfold lastY
        simp [List.getD, hi, hk', ek]
      have e6 : wt m k = 1 := by rw [ek]; exact wt_last hm
      unfold fD
      rw [e5, e6]
      grind
    · rw [if_neg hkm, if_neg hkm]
  rw [← psum_mul, ← psum_mul, ← h2, ← psum_add]
  refine psum_congr fun q _ => ?_
  simp only [numOf, fC, ↓reduceIte, Nat.reduceEqDiff]
  split <;> grind

/-- Bounds of the sums. -/
theorem sums_in {ys : List (List Int)} {m : Nat} (hn : 2 ≤ ys.length ∧ ys.length ≤ 10) (hm : 2 ≤ m ∧ m ≤ 6) (hall : ∀ y ∈ ys, y.length = m) (hy : ∀ q, q < ys.length * m → 0 ≤ yAt ys m q ∧ yAt ys m q ≤ 500) :
    (0 ≤ psum (fA ys.length m ys) (ys.length * m) ∧ psum (fA ys.length m ys) (ys.length * m) ≤ 120000) ∧ (0 ≤ psum (fB ys.length m ys) (ys.length * m) ∧ psum (fB ys.length m ys) (ys.length * m) ≤ 1080000) ∧ (0 ≤ psum (fC ys.length m ys) (ys.length * m) ∧ psum (fC ys.length m ys) (ys.length * m) ≤ 600000) ∧ 0 ≤ psum (fD ys.length m ys) ys.length ∧ psum (fD ys.length m ys) ys.length ≤ 2500000000 := by
  have hnm : ys.length * m ≤ 60 := by
    have := Nat.mul_le_mul hn.2 hm.2; omega
  have hbA : ∀ q, q < ys.length * m → 0 ≤ fA ys.length m ys q ∧ fA ys.length m ys q ≤ 2000 := fun q hq => by
    have := mul_bd (wt2 ys.length (q / m) m (q % m)) (hy q hq)
    unfold fA W; omega
  have hbB : ∀ q, q < ys.length * m → 0 ≤ fB ys.length m ys q ∧ fB ys.length m ys q ≤ 18000 := fun q hq => by
    obtain ⟨i1, i2, i3⟩ := place_idx hm.2 hn.2 hq
    have := mul_bd (a := ((q / m : Nat) : Int)) (x := 9) ⟨by omega, by omega⟩ (hbA q hq)
    unfold fA at this
    unfold fB; omega
  have hbC : ∀ q, q < ys.length * m → 0 ≤ fC ys.length m ys q ∧ fC ys.length m ys q ≤ 10000 := fun q hq => by
    obtain ⟨i1, i2, i3⟩ := place_idx hm.2 hn.2 hq
    have := mul_bd (a := ((q % m : Nat) : Int)) (x := 5) ⟨by omega, by omega⟩ (hbA q hq)
    unfold fA at this
    unfold fC; omega
  have hlast : ∀ i, i < ys.length → 0 ≤ lastY m ys i ∧ lastY m ys i ≤ 500 := fun i hi => by
    have hk : m - 1 < m := by omega
    have := hy _ (ik_lt hi hk)
    obtain ⟨_, _, _, e4⟩ := at_ik (ys := ys) (n := ys.length) hi hk (hall _ (List.getElem_mem hi))
    rw [e4] at this
    have hk' : m - 1 < ys[i].length := by rw [hall _ (List.getElem_mem hi)]; omega
    unfold lastY
    simpa [List.getD, hi, hk'] using this
  have hbD : ∀ i, i < ys.length → 0 ≤ fD ys.length m ys i ∧ fD ys.length m ys i ≤ 250000000 := fun i hi => by
    have := mul_bd (mul_bd (mul_bd (wt_in ys.length i) (hlast i hi)) (hlast i hi)) (hlast i hi)
    unfold fD; omega
  have s1 := psum_in (b := 2000) hbA
  have s2 := psum_in (b := 18000) hbB
  have s3 := psum_in (b := 10000) hbC
  have s4 := psum_in (b := 250000000) hbD
  omega

theorem valueR (sp st : Int) (a b : AV) (yvs : List AV) (rows : List (List (Int × Int))) (ys : List (List Int)) (t : IsTrue sp st rows ys) (what : Int) (hwh : 0 ≤ what ∧ what ≤ 2) (h : H) (y : YsAt h b yvs ys (m0 rows)) :
    (om Try.prog KK).call (.fn 30 [.agg [ii sp, ii st, a], b, ii what]) h = .ok (frac (numS (gOf what) sp st rows.length (m0 rows) ys) (denS (gOf what) st rows.length (m0 rows) ys)) h := by
  have wf := y.wf
  have hn := t.n
  have hyn := t.yn
  rw [← hyn] at hn
  have hy : ∀ q, q < ys.length * m0 rows → 0 ≤ yAt ys (m0 rows) q ∧ yAt ys (m0 rows) q ≤ 500 := by rw [hyn]; exact t.y
  have hpos : ∀ g, 0 < denS g st ys.length (m0 rows) ys := fun g => by rw [hyn]; exact denS_pos t
  rw [← hyn]
  obtain ⟨sA, sB, sC, sD⟩ := sums_in hn t.m t.yall hy
  have hp47 := hpos 47
  rw [den47] at hp47
  have hsp := t.sp
  have hst := t.st
  have hsu : ∀ l w, w ≤ h.clock + l.length → (om Try.prog KK).call (.fn 26 [b]) (X h l w) = _ := fun l w hw => sumsR b yvs ys (m0 rows) hn t.m t.yall hy _ (y.up l w hw)
  refine WV_to (WV_call (fn := Try.f30) Try.func30 rfl rfl rfl rfl rfl ?_)
  simp only [argF]
  have n1 := mul_bd (a := sp) (x := 1000) ⟨by omega, by omega⟩ sB
  have n2 := mul_bd (a := st) (x := 100) ⟨by omega, by omega⟩ sC
  have n3 := mul_bd (a := 3 * st) (x := 300) ⟨by omega, by omega⟩ (mul_bd (a := st) (x := 100) ⟨by omega, by omega⟩ sC)
  have n4 := mul_bd (a := 3 * st) (x := 300) (b := st) (y := 100) ⟨by omega, by omega⟩ ⟨by omega, by omega⟩
  have n5 := mul_bd n4 sC
  have n6 := mul_bd (a := 3 * st) (x := 300) ⟨by omega, by omega⟩ sA
  have hp49 : 0 < 3 * st * psum (fA ys.length (m0 rows) ys) (ys.length * m0 rows) := Int.mul_pos (by omega) hp47
  rcases (by omega : what = 0 ∨ what = 1 ∨ what = 2) with rfl | rfl | rfl
  · rw [show gOf 0 = 47 from rfl, num47, den47]
    (repeat' (first
  | (with_reducible first | refine WC_seq ?_ | refine WC_skip ?_ | refine WC_label ?_ | refine WC_scope ?_ | refine WC_block ?_ | refine WC_ret ?_ | refine WC_exit ?_ | refine seqQ_norm ?_ | refine seqQ_ret ?_ | refine seqQ_exit ?_ | refine blkQ_norm ?_ | refine blkQ_ret ?_ | refine blkQ_here ?_ | refine gateK_yes ?_ | refine gateK_none ?_ | refine condK_tt ?_ | refine condK_ff ?_ | refine roundQ_exit ?_ | refine roundQ_ret ?_)
  | refine WC_region ?_ | refine blkQ_out rfl ?_ | refine WO_nil ?_ | refine WD_nil ?_
  | ((first | refine WD_gate rfl rfl rfl rfl rfl fun K_ hK_ => ?_ | refine WO_gate rfl rfl rfl rfl rfl fun K_ hK_ => ?_); simp only [upd_apply, asB_bool, asB_tup, ↓reduceIte, reduceCtorEq, Nat.reduceEqDiff, Bool.not_true, Bool.not_false]; refine hK_ _ ?_; clear hK_ K_)
  | refine gateK_no (by decide) ?_
  | ((try first | refine WO_op rfl rfl rfl ?_ | refine WO_op0 rfl rfl ?_ | refine WD_op rfl rfl rfl ?_ | refine WD_op0 rfl rfl ?_); (refine WV_gen fun Q_ hQ_ => ?_; simp (disch := first | omega | (simp only [List.length_cons, List.length_nil, List.length_append]; omega)) only [bb, bp, argF, ↓reduceIte, reduceCtorEq, Nat.reduceEqDiff, Nat.reduceLT, Nat.reduceLeDiff, Nat.reduceAdd, Nat.reduceMul, Nat.reduceSub, Nat.reduceBEq, Int.reduceToNat, cond_true, cond_false, eq_self, beq_self_eq_true, hsu, frac, newPtr_X wf, load1_X wf, loadAgg_X wf, store1_X wf, writeCells_X wf, makeFunc_def, tEvI2]; first | (refine dec_split (Q := Q_) (fun hp_ => ?_) (fun hp_ => ?_) <;> first | (exfalso; omega) | (refine hQ_ _ _ ?_; clear hQ_ Q_)) | (refine dec_splitn (Q := Q_) (fun hp_ => ?_) (fun hp_ => ?_) <;> first | (exfalso; omega) | (refine hQ_ _ _ ?_; clear hQ_ Q_)) | (refine hQ_ _ _ ?_; clear hQ_ Q_) | (refine WV_eq (fractionR _ _ ⟨n1.1, by omega⟩ ⟨hp47, by omega⟩ _ (wf.X (by simp only [List.length_append, List.length_cons, List.length_nil]; omega))) ?_; refine hQ_ _ _ ?_; clear hQ_ Q_)))
  | (refine WC_cond fun K_ hK_ => ?_; simp (disch := omega) only [evT_tmp, upd_apply, WB_some, ↓reduceIte, reduceCtorEq, Nat.reduceEqDiff, Nat.reduceLT]; refine hK_ _ ?_; clear hK_ K_)))
    refine endQ_ret _ _ rfl (retc0 (by decide) (by simp (disch := first | omega | (simp only [List.length_cons, List.length_nil, List.length_append]; omega)) only [bb, bp, argF, ↓reduceIte, reduceCtorEq, Nat.reduceEqDiff, Nat.reduceLT, Nat.reduceLeDiff, Nat.reduceAdd, Nat.reduceMul, Nat.reduceSub, Nat.reduceBEq, Int.reduceToNat, cond_true, cond_false, eq_self, beq_self_eq_true, loadAgg_X wf, frac, tEvI2]; rfl)) ?_
    refine WV_flat rfl (by omega) ?_
    exact ⟨rfl, rfl⟩
  · rw [show gOf 1 = 48 from rfl, num48, den48]
    (repeat' (first
  | (with_reducible first | refine WC_seq ?_ | refine WC_skip ?_ | refine WC_label ?_ | refine WC_scope ?_ | refine WC_block ?_ | refine WC_ret ?_ | refine WC_exit ?_ | refine seqQ_norm ?_ | refine seqQ_ret ?_ | refine seqQ_exit ?_ | refine blkQ_norm ?_ | refine blkQ_ret ?_ | refine blkQ_here ?_ | refine gateK_yes ?_ | refine gateK_none ?_ | refine condK_tt ?_ | refine condK_ff ?_ | refine roundQ_exit ?_ | refine roundQ_ret ?_)
  | refine WC_region ?_ | refine blkQ_out rfl ?_ | refine WO_nil ?_ | refine WD_nil ?_
  | ((first | refine WD_gate rfl rfl rfl rfl rfl fun K_ hK_ => ?_ | refine WO_gate rfl rfl rfl rfl rfl fun K_ hK_ => ?_); simp only [upd_apply, asB_bool, asB_tup, ↓reduceIte, reduceCtorEq, Nat.reduceEqDiff, Bool.not_true, Bool.not_false]; refine hK_ _ ?_; clear hK_ K_)
  | refine gateK_no (by decide) ?_
  | ((try first | refine WO_op rfl rfl rfl ?_ | refine WO_op0 rfl rfl ?_ | refine WD_op rfl rfl rfl ?_ | refine WD_op0 rfl rfl ?_); (refine WV_gen fun Q_ hQ_ => ?_; simp (disch := first | omega | (simp only [List.length_cons, List.length_nil, List.length_append]; omega)) only [bb, bp, argF, ↓reduceIte, reduceCtorEq, Nat.reduceEqDiff, Nat.reduceLT, Nat.reduceLeDiff, Nat.reduceAdd, Nat.reduceMul, Nat.reduceSub, Nat.reduceBEq, Int.reduceToNat, cond_true, cond_false, eq_self, beq_self_eq_true, hsu, frac, newPtr_X wf, load1_X wf, loadAgg_X wf, store1_X wf, writeCells_X wf, makeFunc_def, tEvI2]; first | (refine dec_split (Q := Q_) (fun hp_ => ?_) (fun hp_ => ?_) <;> first | (exfalso; omega) | (refine hQ_ _ _ ?_; clear hQ_ Q_)) | (refine dec_splitn (Q := Q_) (fun hp_ => ?_) (fun hp_ => ?_) <;> first | (exfalso; omega) | (refine hQ_ _ _ ?_; clear hQ_ Q_)) | (refine hQ_ _ _ ?_; clear hQ_ Q_) | (refine WV_eq (fractionR _ _ ⟨n2.1, by omega⟩ ⟨hp47, by omega⟩ _ (wf.X (by simp only [List.length_append, List.length_cons, List.length_nil]; omega))) ?_; refine hQ_ _ _ ?_; clear hQ_ Q_)))
  | (refine WC_cond fun K_ hK_ => ?_; simp (disch := omega) only [evT_tmp, upd_apply, WB_some, ↓reduceIte, reduceCtorEq, Nat.reduceEqDiff, Nat.reduceLT]; refine hK_ _ ?_; clear hK_ K_)))
    refine endQ_ret _ _ rfl (retc0 (by decide) (by simp (disch := first | omega | (simp only [List.length_cons, List.length_nil, List.length_append]; omega)) only [bb, bp, argF, ↓reduceIte, reduceCtorEq, Nat.reduceEqDiff, Nat.reduceLT, Nat.reduceLeDiff, Nat.reduceAdd, Nat.reduceMul, Nat.reduceSub, Nat.reduceBEq, Int.reduceToNat, cond_true, cond_false, eq_self, beq_self_eq_true, loadAgg_X wf, frac, tEvI2]; rfl)) ?_
    refine WV_flat rfl (by omega) ?_
    exact ⟨rfl, rfl⟩
  · rw [show gOf 2 = 49 from rfl, num49 sp st (m0 rows) (by have := t.m; omega) ys t.yall, den49]
    (repeat' (first
  | (with_reducible first | refine WC_seq ?_ | refine WC_skip ?_ | refine WC_label ?_ | refine WC_scope ?_ | refine WC_block ?_ | refine WC_ret ?_ | refine WC_exit ?_ | refine seqQ_norm ?_ | refine seqQ_ret ?_ | refine seqQ_exit ?_ | refine blkQ_norm ?_ | refine blkQ_ret ?_ | refine blkQ_here ?_ | refine gateK_yes ?_ | refine gateK_none ?_ | refine condK_tt ?_ | refine condK_ff ?_ | refine roundQ_exit ?_ | refine roundQ_ret ?_)
  | refine WC_region ?_ | refine blkQ_out rfl ?_ | refine WO_nil ?_ | refine WD_nil ?_
  | ((first | refine WD_gate rfl rfl rfl rfl rfl fun K_ hK_ => ?_ | refine WO_gate rfl rfl rfl rfl rfl fun K_ hK_ => ?_); simp only [upd_apply, asB_bool, asB_tup, ↓reduceIte, reduceCtorEq, Nat.reduceEqDiff, Bool.not_true, Bool.not_false]; refine hK_ _ ?_; clear hK_ K_)
  | refine gateK_no (by decide) ?_
  | ((try first | refine WO_op rfl rfl rfl ?_ | refine WO_op0 rfl rfl ?_ | refine WD_op rfl rfl rfl ?_ | refine WD_op0 rfl rfl ?_); (refine WV_gen fun Q_ hQ_ => ?_; simp (disch := first | omega | (simp only [List.length_cons, List.length_nil, List.length_append]; omega)) only [bb, bp, argF, ↓reduceIte, reduceCtorEq, Nat.reduceEqDiff, Nat.reduceLT, Nat.reduceLeDiff, Nat.reduceAdd, Nat.reduceMul, Nat.reduceSub, Nat.reduceBEq, Int.reduceToNat, cond_true, cond_false, eq_self, beq_self_eq_true, hsu, frac, newPtr_X wf, load1_X wf, loadAgg_X wf, store1_X wf, writeCells_X wf, makeFunc_def, tEvI2]; first | (refine dec_split (Q := Q_) (fun hp_ => ?_) (fun hp_ => ?_) <;> first | (exfalso; omega) | (refine hQ_ _ _ ?_; clear hQ_ Q_)) | (refine dec_splitn (Q := Q_) (fun hp_ => ?_) (fun hp_ => ?_) <;> first | (exfalso; omega) | (refine hQ_ _ _ ?_; clear hQ_ Q_)) | (refine hQ_ _ _ ?_; clear hQ_ Q_) | (refine WV_eq (fractionR _ _ ⟨by omega, by omega⟩ ⟨hp49, by omega⟩ _ (wf.X (by simp only [List.length_append, List.length_cons, List.length_nil]; omega))) ?_; refine hQ_ _ _ ?_; clear hQ_ Q_)))
  | (refine WC_cond fun K_ hK_ => ?_; simp (disch := omega) only [evT_tmp, upd_apply, WB_some, ↓reduceIte, reduceCtorEq, Nat.reduceEqDiff, Nat.reduceLT]; refine hK_ _ ?_; clear hK_ K_)))
    refine endQ_ret _ _ rfl (retc0 (by decide) (by simp (disch := first | omega | (simp only [List.length_cons, List.length_nil, List.length_append]; omega)) only [bb, bp, argF, ↓reduceIte, reduceCtorEq, Nat.reduceEqDiff, Nat.reduceLT, Nat.reduceLeDiff, Nat.reduceAdd, Nat.reduceMul, Nat.reduceSub, Nat.reduceBEq, Int.reduceToNat, cond_true, cond_false, eq_self, beq_self_eq_true, loadAgg_X wf, frac, tEvI2]; rfl)) ?_
    refine WV_flat rfl (by omega) ?_
    exact ⟨rfl, rfl⟩
end Go.Proofs.Ytghondkiondeaab
end

/- EvI3 -/
section
/-
  LAYER 2, THE REFERENCE: which hulls are valid.
-/
namespace Go.Proofs.Ytghondkiondeaab
open Go.Ev
set_option maxRecDepth 100000
set_option linter.unusedSimpArgs false
set_option linter.unusedVariables false
set_option maxHeartbeats 2000000

theorem tEvI3 : type_of% (And.intro (And.intro (And.intro (And.intro (@bs_29) (And.intro (@ia_29) (@sz_29))) (And.intro (And.intro (@ze_29) (@ia_2)) (And.intro (@sz_2) (@ze_2)))) (And.intro (And.intro (@ia_3) (And.intro (@sz_3) (@ia_47))) (And.intro (And.intro (@sz_47) (@ia_46)) (And.intro (@sz_46) (@ia_22))))) (And.intro (And.intro (And.intro (@sz_22) (And.intro (@ik_47) (@ik_46))) (And.intro (And.intro (@ik_22) (@ia_70)) (And.intro (@sz_70) (@ze_70)))) (And.intro (And.intro (@fo_70_0) (And.intro (@fo_70_1) (@fo_24_0))) (And.intro (And.intro (@fo_24_1) (@fo_24_2)) (And.intro (@ia_24) (@sz_24)))))) := And.intro (And.intro (And.intro (And.intro (@bs_29) (And.intro (@ia_29) (@sz_29))) (And.intro (And.intro (@ze_29) (@ia_2)) (And.intro (@sz_2) (@ze_2)))) (And.intro (And.intro (@ia_3) (And.intro (@sz_3) (@ia_47))) (And.intro (And.intro (@sz_47) (@ia_46)) (And.intro (@sz_46) (@ia_22))))) (And.intro (And.intro (And.intro (@sz_22) (And.intro (@ik_47) (@ik_46))) (And.intro (And.intro (@ik_22) (@ia_70)) (And.intro (@sz_70) (@ze_70)))) (And.intro (And.intro (@fo_70_0) (And.intro (@fo_70_1) (@fo_24_0))) (And.intro (And.intro (@fo_24_1) (@fo_24_2)) (And.intro (@ia_24) (@sz_24)))))
theorem checkHullR (sp st : Int) (a : AV) (rvs : List AV) (rows : List (List (Int × Int))) (h : H) (x : HullR h a rvs rows) :
    (om Try.prog KK).call (.fn 12 [.agg [ii sp, ii st, a]]) h = .ok (ii (hullErr sp st rows)) h := by
  have wf := x.wf
  refine WV_to (WV_call (fn := Try.f12) Try.func12 rfl rfl rfl rfl rfl ?_)
  simp only [argF]
  have hlen : ∀ h', lenE Try.prog 22 a h' = some (ii (rows.length : Int)) := fun h' => x.sl.len un_22
  by_cases hn : 2 ≤ rows.length ∧ rows.length ≤ 10
  · have h0 : 0 < rows.length := by omega
    obtain ⟨v0, hv0, hsv0⟩ := x.row 0 h0
    obtain ⟨id, off, hix, hld⟩ := x.sl.at1 wf h0 ik_22
    rw [hv0] at hld
    have hix' : indexAddrE Try.prog 22 a (.int .i64 0) = some (.ptr id off) := hix
    have em : m0 rows = rows[0].length := by unfold m0; simp [List.getD, h0]
    have hlen0 : ∀ h', lenE Try.prog 46 v0 h' = some (ii (m0 rows : Int)) := fun h' => by rw [em]; exact hsv0.len un_46
    by_cases hm : 2 ≤ m0 rows ∧ m0 rows ≤ 6
    · (repeat' (first
  | (with_reducible first | refine WC_seq ?_ | refine WC_skip ?_ | refine WC_label ?_ | refine WC_scope ?_ | refine WC_block ?_ | refine WC_ret ?_ | refine WC_exit ?_ | refine seqQ_norm ?_ | refine seqQ_ret ?_ | refine seqQ_exit ?_ | refine blkQ_norm ?_ | refine blkQ_ret ?_ | refine blkQ_here ?_ | refine gateK_yes ?_ | refine gateK_none ?_ | refine condK_tt ?_ | refine condK_ff ?_ | refine roundQ_exit ?_ | refine roundQ_ret ?_)
  | refine WC_region ?_ | refine blkQ_out rfl ?_ | refine WO_nil ?_ | refine WD_nil ?_
  | ((first | refine WD_gate rfl rfl rfl rfl rfl fun K_ hK_ => ?_ | refine WO_gate rfl rfl rfl rfl rfl fun K_ hK_ => ?_); simp only [upd_apply, asB_bool, asB_tup, ↓reduceIte, reduceCtorEq, Nat.reduceEqDiff, Bool.not_true, Bool.not_false]; refine hK_ _ ?_; clear hK_ K_)
  | refine gateK_no (by decide) ?_
  | ((try first | refine WO_op rfl rfl rfl ?_ | refine WO_op0 rfl rfl ?_ | refine WD_op rfl rfl rfl ?_ | refine WD_op0 rfl rfl ?_); (refine WV_gen fun Q_ hQ_ => ?_; simp (disch := first | omega | (simp only [List.length_cons, List.length_nil, List.length_append]; omega)) only [bb, bp, argF, ↓reduceIte, reduceCtorEq, Nat.reduceEqDiff, Nat.reduceLT, Nat.reduceLeDiff, Nat.reduceAdd, Nat.reduceMul, Nat.reduceSub, Nat.reduceBEq, Int.reduceToNat, cond_true, cond_false, eq_self, beq_self_eq_true, hlen, hix', hld, hlen0, newPtr_X wf, load1_X wf, loadAgg_X wf, store1_X wf, writeCells_X wf, makeFunc_def, tEvI3]; first | (refine dec_split (Q := Q_) (fun hp_ => ?_) (fun hp_ => ?_) <;> first | (exfalso; omega) | (refine hQ_ _ _ ?_; clear hQ_ Q_)) | (refine dec_splitn (Q := Q_) (fun hp_ => ?_) (fun hp_ => ?_) <;> first | (exfalso; omega) | (refine hQ_ _ _ ?_; clear hQ_ Q_)) | (refine hQ_ _ _ ?_; clear hQ_ Q_)))
  | (refine WC_cond fun K_ hK_ => ?_; simp (disch := omega) only [evT_tmp, upd_apply, WB_some, ↓reduceIte, reduceCtorEq, Nat.reduceEqDiff, Nat.reduceLT]; refine hK_ _ ?_; clear hK_ K_)))
      refine WC_loop (fun (i : Nat) f d h' => i ≤ rows.length ∧ (∀ j, j < i → ∀ hj : j < rows.length, rows[j].length = m0 rows) ∧ f 1 = .ptr (nx h 0) 0 ∧ f 3 = ii (rows.length : Int) ∧ f 4 = ii (i : Int) ∧ d = [] ∧ h' = X h [.cells (mkCells [ii sp, ii st, a]) 24] h.clock)
        (fun i => rows.length - i) ?_ (rows.length + 1) 0 (by omega) ?_
      · rintro i f d h' ⟨hi', hall, g1, g3, g4, rfl, rfl⟩
        by_cases hlt : i < rows.length
        · obtain ⟨v, hv, hsv⟩ := x.row i hlt
          obtain ⟨id, off, hix, hld2⟩ := x.sl.at1 wf hlt ik_22
          rw [hv] at hld2
          have hlenv : ∀ h', lenE Try.prog 46 v h' = some (ii (rows[i].length : Int)) := fun h' => hsv.len un_46
          (repeat' (first
  | (with_reducible first | refine WC_seq ?_ | refine WC_skip ?_ | refine WC_label ?_ | refine WC_scope ?_ | refine WC_block ?_ | refine WC_ret ?_ | refine WC_exit ?_ | refine seqQ_norm ?_ | refine seqQ_ret ?_ | refine seqQ_exit ?_ | refine blkQ_norm ?_ | refine blkQ_ret ?_ | refine blkQ_here ?_ | refine gateK_yes ?_ | refine gateK_none ?_ | refine condK_tt ?_ | refine condK_ff ?_ | refine roundQ_exit ?_ | refine roundQ_ret ?_)
  | refine WC_region ?_ | refine blkQ_out rfl ?_ | refine WO_nil ?_ | refine WD_nil ?_
  | ((first | refine WD_gate rfl rfl rfl rfl rfl fun K_ hK_ => ?_ | refine WO_gate rfl rfl rfl rfl rfl fun K_ hK_ => ?_); simp only [upd_apply, asB_bool, asB_tup, ↓reduceIte, reduceCtorEq, Nat.reduceEqDiff, Bool.not_true, Bool.not_false]; refine hK_ _ ?_; clear hK_ K_)
  | refine gateK_no (by decide) ?_
  | ((try first | refine WO_op rfl rfl rfl ?_ | refine WO_op0 rfl rfl ?_ | refine WD_op rfl rfl rfl ?_ | refine WD_op0 rfl rfl ?_); (refine WV_gen fun Q_ hQ_ => ?_; simp (disch := first | omega | (simp only [List.length_cons, List.length_nil, List.length_append]; omega)) only [bb, bp, argF, ↓reduceIte, reduceCtorEq, Nat.reduceEqDiff, Nat.reduceLT, Nat.reduceLeDiff, Nat.reduceAdd, Nat.reduceMul, Nat.reduceSub, Nat.reduceBEq, Int.reduceToNat, cond_true, cond_false, eq_self, beq_self_eq_true, g1, g3, g4, newPtr_X wf, load1_X wf, loadAgg_X wf, store1_X wf, writeCells_X wf, makeFunc_def, tEvI3]; first | (refine dec_split (Q := Q_) (fun hp_ => ?_) (fun hp_ => ?_) <;> first | (exfalso; omega) | (refine hQ_ _ _ ?_; clear hQ_ Q_)) | (refine dec_splitn (Q := Q_) (fun hp_ => ?_) (fun hp_ => ?_) <;> first | (exfalso; omega) | (refine hQ_ _ _ ?_; clear hQ_ Q_)) | (refine hQ_ _ _ ?_; clear hQ_ Q_)))
  | (refine WC_cond fun K_ hK_ => ?_; simp (disch := omega) only [evT_tmp, upd_apply, WB_some, ↓reduceIte, reduceCtorEq, Nat.reduceEqDiff, Nat.reduceLT]; refine hK_ _ ?_; clear hK_ K_)))
          refine WC_drawnB [.no, .no, .no, .no, .no, .no, .no, .no, .no, .no, .no, .full] (by kernel_rfl) ?_
          (repeat' (first
  | (with_reducible first | refine WC_seq ?_ | refine WC_skip ?_ | refine WC_label ?_ | refine WC_scope ?_ | refine WC_block ?_ | refine WC_ret ?_ | refine WC_exit ?_ | refine seqQ_norm ?_ | refine seqQ_ret ?_ | refine seqQ_exit ?_ | refine blkQ_norm ?_ | refine blkQ_ret ?_ | refine blkQ_here ?_ | refine gateK_yes ?_ | refine gateK_none ?_ | refine condK_tt ?_ | refine condK_ff ?_ | refine roundQ_exit ?_ | refine roundQ_ret ?_)
  | refine WC_region ?_ | refine blkQ_out rfl ?_ | refine WO_nil ?_ | refine WD_nil ?_
  | ((first | refine WD_gate rfl rfl rfl rfl rfl fun K_ hK_ => ?_ | refine WO_gate rfl rfl rfl rfl rfl fun K_ hK_ => ?_); simp only [upd_apply, asB_bool, asB_tup, ↓reduceIte, reduceCtorEq, Nat.reduceEqDiff, Bool.not_true, Bool.not_false]; refine hK_ _ ?_; clear hK_ K_)
  | refine gateK_no (by decide) ?_
  | ((try first | refine WO_op rfl rfl rfl ?_ | refine WO_op0 rfl rfl ?_ | refine WD_op rfl rfl rfl ?_ | refine WD_op0 rfl rfl ?_); (refine WV_gen fun Q_ hQ_ => ?_; simp (disch := first | omega | (simp only [List.length_cons, List.length_nil, List.length_append]; omega)) only [bb, bp, argF, ↓reduceIte, reduceCtorEq, Nat.reduceEqDiff, Nat.reduceLT, Nat.reduceLeDiff, Nat.reduceAdd, Nat.reduceMul, Nat.reduceSub, Nat.reduceBEq, Int.reduceToNat, cond_true, cond_false, eq_self, beq_self_eq_true, g1, g3, g4, hix, hld2, hlenv, hix', hld, hlen0, newPtr_X wf, load1_X wf, loadAgg_X wf, store1_X wf, writeCells_X wf, makeFunc_def, tEvI3]; first | (refine dec_split (Q := Q_) (fun hp_ => ?_) (fun hp_ => ?_) <;> first | (exfalso; omega) | (refine hQ_ _ _ ?_; clear hQ_ Q_)) | (refine dec_splitn (Q := Q_) (fun hp_ => ?_) (fun hp_ => ?_) <;> first | (exfalso; omega) | (refine hQ_ _ _ ?_; clear hQ_ Q_)) | (refine hQ_ _ _ ?_; clear hQ_ Q_)))
  | (refine WC_cond fun K_ hK_ => ?_; simp (disch := omega) only [evT_tmp, upd_apply, WB_some, ↓reduceIte, reduceCtorEq, Nat.reduceEqDiff, Nat.reduceLT]; refine hK_ _ ?_; clear hK_ K_)))
          · refine roundQ_again (i + 1) (by omega) ⟨hlt, ?_, by simp only [upd_apply, ↓reduceIte, reduceCtorEq, Nat.reduceEqDiff]; exact g1, by simp only [upd_apply, ↓reduceIte, reduceCtorEq, Nat.reduceEqDiff]; exact g3, by simp only [upd_apply, ↓reduceIte, reduceCtorEq, Nat.reduceEqDiff]; rfl, rfl, rfl⟩
            intro j hj hjl
            by_cases hji : j = i
            · subst hji; omega
            · exact hall j (by omega) hjl
          · (refine endQ_ret _ _ rfl (ret1 (by decide)) ?_; simp only [upd_apply, ↓reduceIte, reduceCtorEq, Nat.reduceEqDiff]; refine WV_flat rfl (by omega) ?_)
            refine ⟨?_, rfl⟩
            unfold hullErr
            rw [if_neg (not_not_intro hn), if_neg (not_not_intro hm), if_pos (fun hh => by have := hh _ (List.getElem_mem hlt); omega)]
        · have hie : i = rows.length := by omega
          subst hie
          have hall2 : ∀ row ∈ rows, row.length = m0 rows := fun row hr => by
            obtain ⟨j, hj, rfl⟩ := List.getElem_of_mem hr
            exact hall j hj hj
          have xat := x.at (m := m0 rows) (by omega) (fun i hi => hall2 _ (List.getElem_mem hi))
          by_cases hss : (1 ≤ sp ∧ sp ≤ 1000) ∧ (1 ≤ st ∧ st ≤ 100)
          · (repeat' (first
  | (with_reducible first | refine WC_seq ?_ | refine WC_skip ?_ | refine WC_label ?_ | refine WC_scope ?_ | refine WC_block ?_ | refine WC_ret ?_ | refine WC_exit ?_ | refine seqQ_norm ?_ | refine seqQ_ret ?_ | refine seqQ_exit ?_ | refine blkQ_norm ?_ | refine blkQ_ret ?_ | refine blkQ_here ?_ | refine gateK_yes ?_ | refine gateK_none ?_ | refine condK_tt ?_ | refine condK_ff ?_ | refine roundQ_exit ?_ | refine roundQ_ret ?_)
  | refine WC_region ?_ | refine blkQ_out rfl ?_ | refine WO_nil ?_ | refine WD_nil ?_
  | ((first | refine WD_gate rfl rfl rfl rfl rfl fun K_ hK_ => ?_ | refine WO_gate rfl rfl rfl rfl rfl fun K_ hK_ => ?_); simp only [upd_apply, asB_bool, asB_tup, ↓reduceIte, reduceCtorEq, Nat.reduceEqDiff, Bool.not_true, Bool.not_false]; refine hK_ _ ?_; clear hK_ K_)
  | refine gateK_no (by decide) ?_
  | ((try first | refine WO_op rfl rfl rfl ?_ | refine WO_op0 rfl rfl ?_ | refine WD_op rfl rfl rfl ?_ | refine WD_op0 rfl rfl ?_); (refine WV_gen fun Q_ hQ_ => ?_; simp (disch := first | omega | (simp only [List.length_cons, List.length_nil, List.length_append]; omega)) only [bb, bp, argF, ↓reduceIte, reduceCtorEq, Nat.reduceEqDiff, Nat.reduceLT, Nat.reduceLeDiff, Nat.reduceAdd, Nat.reduceMul, Nat.reduceSub, Nat.reduceBEq, Int.reduceToNat, cond_true, cond_false, eq_self, beq_self_eq_true, g1, g3, g4, newPtr_X wf, load1_X wf, loadAgg_X wf, store1_X wf, writeCells_X wf, makeFunc_def, tEvI3]; first | (refine dec_split (Q := Q_) (fun hp_ => ?_) (fun hp_ => ?_) <;> first | (exfalso; omega) | (refine hQ_ _ _ ?_; clear hQ_ Q_)) | (refine dec_splitn (Q := Q_) (fun hp_ => ?_) (fun hp_ => ?_) <;> first | (exfalso; omega) | (refine hQ_ _ _ ?_; clear hQ_ Q_)) | (refine hQ_ _ _ ?_; clear hQ_ Q_)))
  | (refine WC_cond fun K_ hK_ => ?_; simp (disch := omega) only [evT_tmp, upd_apply, WB_some, ↓reduceIte, reduceCtorEq, Nat.reduceEqDiff, Nat.reduceLT]; refine hK_ _ ?_; clear hK_ K_)))
            refine WC_loop (fun (i : Nat) f d h' => i ≤ rows.length ∧ (∀ r ∈ (rows.take i).flatten, isOff r) ∧ f 1 = .ptr (nx h 0) 0 ∧ f 3 = ii (rows.length : Int) ∧ f 5 = .bool (decide (0 < mx (rows.take i).flatten)) ∧ f 6 = ii (i : Int) ∧ d = [] ∧ ∃ J, h' = X h (.cells (mkCells [ii sp, ii st, a]) 24 :: J) h.clock) (fun i => rows.length - i) ?_ (rows.length + 1) 0 (by omega) ?_
            · rintro i f d h' ⟨hi', hofs, g1, g3, g5, g6, rfl, J, rfl⟩
              by_cases hlt : i < rows.length
              · obtain ⟨v, hv, hsv, hrl⟩ := xat.row i hlt
                obtain ⟨id, off, hix, hld2⟩ := x.sl.at1 wf hlt ik_22
                rw [hv] at hld2
                have hlenv : ∀ h', lenE Try.prog 46 v h' = some (ii (m0 rows : Int)) := fun h' => hsv.len un_46
                (repeat' (first
  | (with_reducible first | refine WC_seq ?_ | refine WC_skip ?_ | refine WC_label ?_ | refine WC_scope ?_ | refine WC_block ?_ | refine WC_ret ?_ | refine WC_exit ?_ | refine seqQ_norm ?_ | refine seqQ_ret ?_ | refine seqQ_exit ?_ | refine blkQ_norm ?_ | refine blkQ_ret ?_ | refine blkQ_here ?_ | refine gateK_yes ?_ | refine gateK_none ?_ | refine condK_tt ?_ | refine condK_ff ?_ | refine roundQ_exit ?_ | refine roundQ_ret ?_)
  | refine WC_region ?_ | refine blkQ_out rfl ?_ | refine WO_nil ?_ | refine WD_nil ?_
  | ((first | refine WD_gate rfl rfl rfl rfl rfl fun K_ hK_ => ?_ | refine WO_gate rfl rfl rfl rfl rfl fun K_ hK_ => ?_); simp only [upd_apply, asB_bool, asB_tup, ↓reduceIte, reduceCtorEq, Nat.reduceEqDiff, Bool.not_true, Bool.not_false]; refine hK_ _ ?_; clear hK_ K_)
  | refine gateK_no (by decide) ?_
  | ((try first | refine WO_op rfl rfl rfl ?_ | refine WO_op0 rfl rfl ?_ | refine WD_op rfl rfl rfl ?_ | refine WD_op0 rfl rfl ?_); (refine WV_gen fun Q_ hQ_ => ?_; simp (disch := first | omega | (simp only [List.length_cons, List.length_nil, List.length_append]; omega)) only [bb, bp, argF, ↓reduceIte, reduceCtorEq, Nat.reduceEqDiff, Nat.reduceLT, Nat.reduceLeDiff, Nat.reduceAdd, Nat.reduceMul, Nat.reduceSub, Nat.reduceBEq, Int.reduceToNat, cond_true, cond_false, eq_self, beq_self_eq_true, g1, g3, g5, g6, newPtr_X wf, load1_X wf, loadAgg_X wf, store1_X wf, writeCells_X wf, makeFunc_def, tEvI3]; first | (refine dec_split (Q := Q_) (fun hp_ => ?_) (fun hp_ => ?_) <;> first | (exfalso; omega) | (refine hQ_ _ _ ?_; clear hQ_ Q_)) | (refine dec_splitn (Q := Q_) (fun hp_ => ?_) (fun hp_ => ?_) <;> first | (exfalso; omega) | (refine hQ_ _ _ ?_; clear hQ_ Q_)) | (refine hQ_ _ _ ?_; clear hQ_ Q_)))
  | (refine WC_cond fun K_ hK_ => ?_; simp (disch := omega) only [evT_tmp, upd_apply, WB_some, ↓reduceIte, reduceCtorEq, Nat.reduceEqDiff, Nat.reduceLT]; refine hK_ _ ?_; clear hK_ K_)))
                refine WC_loop (fun (k : Nat) f d h' => k ≤ m0 rows ∧ (∀ r ∈ (rows.take i).flatten ++ rows[i].take k, isOff r) ∧ f 1 = .ptr (nx h 0) 0 ∧ f 3 = ii (rows.length : Int) ∧ f 5 = .bool (decide (0 < mx ((rows.take i).flatten ++ rows[i].take k))) ∧ f 6 = ii (i : Int) ∧ f 7 = ii (k : Int) ∧ d = [] ∧ ∃ J, h' = X h (.cells (mkCells [ii sp, ii st, a]) 24 :: J) h.clock)
                  (fun k => m0 rows - k) ?_ (m0 rows + 1) 0 (by omega) ?_
                · clear g1 g3 g5 g6 hofs
                  rintro k f d h' ⟨hk, hofs, g1, g3, g5, g6, g7, rfl, J, rfl⟩
                  by_cases hkl : k < m0 rows
                  · obtain ⟨id3, off3, hix3, hld3⟩ := hsv.at wf hkl ik_46
                    have hkr : k < rows[i].length := by omega
                    have hrow : ∀ l w, loadAgg id3 off3 (some 2) (X h l w) = some (.agg [ii rows[i][k].1, ii rows[i][k].2]) := fun l w => by rw [(hld3 l w).2, pairCells_at hkr]
                    have hmem : rows[i][k] ∈ rows.flatten := List.mem_flatten.2 ⟨rows[i], List.getElem_mem _, List.getElem_mem _⟩
                    by_cases hio : isOff rows[i][k]
                    · have hio' := hio
                      unfold isOff at hio'
                      have hnext : ∀ r ∈ (rows.take i).flatten ++ rows[i].take (k + 1), isOff r := fun r hr => by
                        rw [take_one hkr, ← List.append_assoc] at hr
                        rcases List.mem_append.1 hr with hr | hr
                        · exact hofs r hr
                        · rw [List.mem_singleton.1 hr]; exact hio
                      by_cases hmx : 0 < mx ((rows.take i).flatten ++ rows[i].take k)
                      · rw [decide_eq_true hmx] at g5
                        (repeat' (first
  | (with_reducible first | refine WC_seq ?_ | refine WC_skip ?_ | refine WC_label ?_ | refine WC_scope ?_ | refine WC_block ?_ | refine WC_ret ?_ | refine WC_exit ?_ | refine seqQ_norm ?_ | refine seqQ_ret ?_ | refine seqQ_exit ?_ | refine blkQ_norm ?_ | refine blkQ_ret ?_ | refine blkQ_here ?_ | refine gateK_yes ?_ | refine gateK_none ?_ | refine condK_tt ?_ | refine condK_ff ?_ | refine roundQ_exit ?_ | refine roundQ_ret ?_)
  | refine WC_region ?_ | refine blkQ_out rfl ?_ | refine WO_nil ?_ | refine WD_nil ?_
  | ((first | refine WD_gate rfl rfl rfl rfl rfl fun K_ hK_ => ?_ | refine WO_gate rfl rfl rfl rfl rfl fun K_ hK_ => ?_); simp only [upd_apply, asB_bool, asB_tup, ↓reduceIte, reduceCtorEq, Nat.reduceEqDiff, Bool.not_true, Bool.not_false]; refine hK_ _ ?_; clear hK_ K_)
  | refine gateK_no (by decide) ?_
  | ((try first | refine WO_op rfl rfl rfl ?_ | refine WO_op0 rfl rfl ?_ | refine WD_op rfl rfl rfl ?_ | refine WD_op0 rfl rfl ?_); (refine WV_gen fun Q_ hQ_ => ?_; simp (disch := first | omega | (simp only [List.length_cons, List.length_nil, List.length_append]; omega)) only [bb, bp, argF, ↓reduceIte, reduceCtorEq, Nat.reduceEqDiff, Nat.reduceLT, Nat.reduceLeDiff, Nat.reduceAdd, Nat.reduceMul, Nat.reduceSub, Nat.reduceBEq, Int.reduceToNat, cond_true, cond_false, eq_self, beq_self_eq_true, g1, g3, g5, g6, g7, hix, hld2, hlenv, hix3, hrow, newPtr_X wf, load1_X wf, loadAgg_X wf, store1_X wf, writeCells_X wf, makeFunc_def, tEvI3]; first | (refine dec_split (Q := Q_) (fun hp_ => ?_) (fun hp_ => ?_) <;> first | (exfalso; omega) | (refine hQ_ _ _ ?_; clear hQ_ Q_)) | (refine dec_splitn (Q := Q_) (fun hp_ => ?_) (fun hp_ => ?_) <;> first | (exfalso; omega) | (refine hQ_ _ _ ?_; clear hQ_ Q_)) | (refine hQ_ _ _ ?_; clear hQ_ Q_)))
  | (refine WC_cond fun K_ hK_ => ?_; simp (disch := omega) only [evT_tmp, upd_apply, WB_some, ↓reduceIte, reduceCtorEq, Nat.reduceEqDiff, Nat.reduceLT]; refine hK_ _ ?_; clear hK_ K_)))
                        refine roundQ_again (k + 1) (by omega) ⟨hkl, hnext, by simp only [upd_apply, ↓reduceIte, reduceCtorEq, Nat.reduceEqDiff]; exact g1, by simp only [upd_apply, ↓reduceIte, reduceCtorEq, Nat.reduceEqDiff]; exact g3, ?_, by simp only [upd_apply, ↓reduceIte, reduceCtorEq, Nat.reduceEqDiff]; exact g6, by simp only [upd_apply, ↓reduceIte, reduceCtorEq, Nat.reduceEqDiff]; rfl, rfl, _, rfl⟩
                        simp only [upd_apply, ↓reduceIte, reduceCtorEq, Nat.reduceEqDiff]
                        rw [take_one hkr, ← List.append_assoc, mx_snoc, decide_eq_true (by omega)]
                      · rw [decide_eq_false hmx] at g5
                        have hge := mx_nonneg ((rows.take i).flatten ++ rows[i].take k)
                        (repeat' (first
  | (with_reducible first | refine WC_seq ?_ | refine WC_skip ?_ | refine WC_label ?_ | refine WC_scope ?_ | refine WC_block ?_ | refine WC_ret ?_ | refine WC_exit ?_ | refine seqQ_norm ?_ | refine seqQ_ret ?_ | refine seqQ_exit ?_ | refine blkQ_norm ?_ | refine blkQ_ret ?_ | refine blkQ_here ?_ | refine gateK_yes ?_ | refine gateK_none ?_ | refine condK_tt ?_ | refine condK_ff ?_ | refine roundQ_exit ?_ | refine roundQ_ret ?_)
  | refine WC_region ?_ | refine blkQ_out rfl ?_ | refine WO_nil ?_ | refine WD_nil ?_
  | ((first | refine WD_gate rfl rfl rfl rfl rfl fun K_ hK_ => ?_ | refine WO_gate rfl rfl rfl rfl rfl fun K_ hK_ => ?_); simp only [upd_apply, asB_bool, asB_tup, ↓reduceIte, reduceCtorEq, Nat.reduceEqDiff, Bool.not_true, Bool.not_false]; refine hK_ _ ?_; clear hK_ K_)
  | refine gateK_no (by decide) ?_
  | ((try first | refine WO_op rfl rfl rfl ?_ | refine WO_op0 rfl rfl ?_ | refine WD_op rfl rfl rfl ?_ | refine WD_op0 rfl rfl ?_); (refine WV_gen fun Q_ hQ_ => ?_; simp (disch := first | omega | (simp only [List.length_cons, List.length_nil, List.length_append]; omega)) only [bb, bp, argF, ↓reduceIte, reduceCtorEq, Nat.reduceEqDiff, Nat.reduceLT, Nat.reduceLeDiff, Nat.reduceAdd, Nat.reduceMul, Nat.reduceSub, Nat.reduceBEq, Int.reduceToNat, cond_true, cond_false, eq_self, beq_self_eq_true, g1, g3, g5, g6, g7, hix, hld2, hlenv, hix3, hrow, newPtr_X wf, load1_X wf, loadAgg_X wf, store1_X wf, writeCells_X wf, makeFunc_def, tEvI3]; first | (refine dec_split (Q := Q_) (fun hp_ => ?_) (fun hp_ => ?_) <;> first | (exfalso; omega) | (refine hQ_ _ _ ?_; clear hQ_ Q_)) | (refine dec_splitn (Q := Q_) (fun hp_ => ?_) (fun hp_ => ?_) <;> first | (exfalso; omega) | (refine hQ_ _ _ ?_; clear hQ_ Q_)) | (refine hQ_ _ _ ?_; clear hQ_ Q_)))
  | (refine WC_cond fun K_ hK_ => ?_; simp (disch := omega) only [evT_tmp, upd_apply, WB_some, ↓reduceIte, reduceCtorEq, Nat.reduceEqDiff, Nat.reduceLT]; refine hK_ _ ?_; clear hK_ K_)))
                        all_goals
                          refine roundQ_again (k + 1) (by omega) ⟨hkl, hnext, by simp only [upd_apply, ↓reduceIte, reduceCtorEq, Nat.reduceEqDiff]; exact g1, by simp only [upd_apply, ↓reduceIte, reduceCtorEq, Nat.reduceEqDiff]; exact g3, ?_, by simp only [upd_apply, ↓reduceIte, reduceCtorEq, Nat.reduceEqDiff]; exact g6, by simp only [upd_apply, ↓reduceIte, reduceCtorEq, Nat.reduceEqDiff]; rfl, rfl, _, rfl⟩
                          simp only [upd_apply, ↓reduceIte, reduceCtorEq, Nat.reduceEqDiff]
                          rw [take_one hkr, ← List.append_assoc, mx_snoc]
                          first | rw [decide_eq_true (by omega)] | rw [decide_eq_false (by omega)]
                    · have hio' := hio
                      unfold isOff at hio'
                      (repeat' (first
  | (with_reducible first | refine WC_seq ?_ | refine WC_skip ?_ | refine WC_label ?_ | refine WC_scope ?_ | refine WC_block ?_ | refine WC_ret ?_ | refine WC_exit ?_ | refine seqQ_norm ?_ | refine seqQ_ret ?_ | refine seqQ_exit ?_ | refine blkQ_norm ?_ | refine blkQ_ret ?_ | refine blkQ_here ?_ | refine gateK_yes ?_ | refine gateK_none ?_ | refine condK_tt ?_ | refine condK_ff ?_ | refine roundQ_exit ?_ | refine roundQ_ret ?_)
  | refine WC_region ?_ | refine blkQ_out rfl ?_ | refine WO_nil ?_ | refine WD_nil ?_
  | ((first | refine WD_gate rfl rfl rfl rfl rfl fun K_ hK_ => ?_ | refine WO_gate rfl rfl rfl rfl rfl fun K_ hK_ => ?_); simp only [upd_apply, asB_bool, asB_tup, ↓reduceIte, reduceCtorEq, Nat.reduceEqDiff, Bool.not_true, Bool.not_false]; refine hK_ _ ?_; clear hK_ K_)
  | refine gateK_no (by decide) ?_
  | ((try first | refine WO_op rfl rfl rfl ?_ | refine WO_op0 rfl rfl ?_ | refine WD_op rfl rfl rfl ?_ | refine WD_op0 rfl rfl ?_); (refine WV_gen fun Q_ hQ_ => ?_; simp (disch := first | omega | (simp only [List.length_cons, List.length_nil, List.length_append]; omega)) only [bb, bp, argF, ↓reduceIte, reduceCtorEq, Nat.reduceEqDiff, Nat.reduceLT, Nat.reduceLeDiff, Nat.reduceAdd, Nat.reduceMul, Nat.reduceSub, Nat.reduceBEq, Int.reduceToNat, cond_true, cond_false, eq_self, beq_self_eq_true, g1, g3, g5, g6, g7, hix, hld2, hlenv, hix3, hrow, newPtr_X wf, load1_X wf, loadAgg_X wf, store1_X wf, writeCells_X wf, makeFunc_def, tEvI3]; first | (refine dec_split (Q := Q_) (fun hp_ => ?_) (fun hp_ => ?_) <;> first | (exfalso; omega) | (refine hQ_ _ _ ?_; clear hQ_ Q_)) | (refine dec_splitn (Q := Q_) (fun hp_ => ?_) (fun hp_ => ?_) <;> first | (exfalso; omega) | (refine hQ_ _ _ ?_; clear hQ_ Q_)) | (refine hQ_ _ _ ?_; clear hQ_ Q_)))
  | (refine WC_cond fun K_ hK_ => ?_; simp (disch := omega) only [evT_tmp, upd_apply, WB_some, ↓reduceIte, reduceCtorEq, Nat.reduceEqDiff, Nat.reduceLT]; refine hK_ _ ?_; clear hK_ K_)))
                      all_goals (refine endQ_ret _ _ rfl (ret1 (by decide)) ?_; simp only [upd_apply, ↓reduceIte, reduceCtorEq, Nat.reduceEqDiff]; refine WV_flat rfl (by omega) ?_)
                      all_goals refine ⟨?_, rfl⟩
                      all_goals unfold hullErr
                      all_goals rw [if_neg (not_not_intro hn), if_neg (not_not_intro hm), if_neg (not_not_intro hall2), if_pos (fun hh => absurd (hh.2.2.1 _ hmem) hio)]
                  · have hke : k = m0 rows := by omega
                    have htk : rows[i].take k = rows[i] := List.take_of_length_le (by omega)
                    rw [htk, ← take_flat hlt] at hofs g5
                    (repeat' (first
  | (with_reducible first | refine WC_seq ?_ | refine WC_skip ?_ | refine WC_label ?_ | refine WC_scope ?_ | refine WC_block ?_ | refine WC_ret ?_ | refine WC_exit ?_ | refine seqQ_norm ?_ | refine seqQ_ret ?_ | refine seqQ_exit ?_ | refine blkQ_norm ?_ | refine blkQ_ret ?_ | refine blkQ_here ?_ | refine gateK_yes ?_ | refine gateK_none ?_ | refine condK_tt ?_ | refine condK_ff ?_ | refine roundQ_exit ?_ | refine roundQ_ret ?_)
  | refine WC_region ?_ | refine blkQ_out rfl ?_ | refine WO_nil ?_ | refine WD_nil ?_
  | ((first | refine WD_gate rfl rfl rfl rfl rfl fun K_ hK_ => ?_ | refine WO_gate rfl rfl rfl rfl rfl fun K_ hK_ => ?_); simp only [upd_apply, asB_bool, asB_tup, ↓reduceIte, reduceCtorEq, Nat.reduceEqDiff, Bool.not_true, Bool.not_false]; refine hK_ _ ?_; clear hK_ K_)
  | refine gateK_no (by decide) ?_
  | ((try first | refine WO_op rfl rfl rfl ?_ | refine WO_op0 rfl rfl ?_ | refine WD_op rfl rfl rfl ?_ | refine WD_op0 rfl rfl ?_); (refine WV_gen fun Q_ hQ_ => ?_; simp (disch := first | omega | (simp only [List.length_cons, List.length_nil, List.length_append]; omega)) only [bb, bp, argF, ↓reduceIte, reduceCtorEq, Nat.reduceEqDiff, Nat.reduceLT, Nat.reduceLeDiff, Nat.reduceAdd, Nat.reduceMul, Nat.reduceSub, Nat.reduceBEq, Int.reduceToNat, cond_true, cond_false, eq_self, beq_self_eq_true, g1, g3, g5, g6, g7, hix, hld2, hlenv, newPtr_X wf, load1_X wf, loadAgg_X wf, store1_X wf, writeCells_X wf, makeFunc_def, tEvI3]; first | (refine dec_split (Q := Q_) (fun hp_ => ?_) (fun hp_ => ?_) <;> first | (exfalso; omega) | (refine hQ_ _ _ ?_; clear hQ_ Q_)) | (refine dec_splitn (Q := Q_) (fun hp_ => ?_) (fun hp_ => ?_) <;> first | (exfalso; omega) | (refine hQ_ _ _ ?_; clear hQ_ Q_)) | (refine hQ_ _ _ ?_; clear hQ_ Q_)))
  | (refine WC_cond fun K_ hK_ => ?_; simp (disch := omega) only [evT_tmp, upd_apply, WB_some, ↓reduceIte, reduceCtorEq, Nat.reduceEqDiff, Nat.reduceLT]; refine hK_ _ ?_; clear hK_ K_)))
                    refine roundQ_again (i + 1) (by omega) ⟨hlt, hofs, by simp only [upd_apply, ↓reduceIte, reduceCtorEq, Nat.reduceEqDiff]; exact g1, by simp only [upd_apply, ↓reduceIte, reduceCtorEq, Nat.reduceEqDiff]; exact g3, by simp only [upd_apply, ↓reduceIte, reduceCtorEq, Nat.reduceEqDiff]; exact g5, by simp only [upd_apply, ↓reduceIte, reduceCtorEq, Nat.reduceEqDiff]; rfl, rfl, _, rfl⟩
                · exact ⟨Nat.zero_le _, by simpa using hofs, by simp only [upd_apply, ↓reduceIte, reduceCtorEq, Nat.reduceEqDiff]; exact g1, by simp only [upd_apply, ↓reduceIte, reduceCtorEq, Nat.reduceEqDiff]; exact g3, by simp only [upd_apply, ↓reduceIte, reduceCtorEq, Nat.reduceEqDiff]; simpa using g5, by simp only [upd_apply, ↓reduceIte, reduceCtorEq, Nat.reduceEqDiff]; exact g6, by simp only [upd_apply, ↓reduceIte, reduceCtorEq, Nat.reduceEqDiff]; (try rfl), rfl, _, rfl⟩
              · have hie : i = rows.length := by omega
                subst hie
                rw [List.take_length] at hofs g5
                by_cases hmx : 0 < mx rows.flatten
                · rw [decide_eq_true hmx] at g5
                  (repeat' (first
  | (with_reducible first | refine WC_seq ?_ | refine WC_skip ?_ | refine WC_label ?_ | refine WC_scope ?_ | refine WC_block ?_ | refine WC_ret ?_ | refine WC_exit ?_ | refine seqQ_norm ?_ | refine seqQ_ret ?_ | refine seqQ_exit ?_ | refine blkQ_norm ?_ | refine blkQ_ret ?_ | refine blkQ_here ?_ | refine gateK_yes ?_ | refine gateK_none ?_ | refine condK_tt ?_ | refine condK_ff ?_ | refine roundQ_exit ?_ | refine roundQ_ret ?_)
  | refine WC_region ?_ | refine blkQ_out rfl ?_ | refine WO_nil ?_ | refine WD_nil ?_
  | ((first | refine WD_gate rfl rfl rfl rfl rfl fun K_ hK_ => ?_ | refine WO_gate rfl rfl rfl rfl rfl fun K_ hK_ => ?_); simp only [upd_apply, asB_bool, asB_tup, ↓reduceIte, reduceCtorEq, Nat.reduceEqDiff, Bool.not_true, Bool.not_false]; refine hK_ _ ?_; clear hK_ K_)
  | refine gateK_no (by decide) ?_
  | ((try first | refine WO_op rfl rfl rfl ?_ | refine WO_op0 rfl rfl ?_ | refine WD_op rfl rfl rfl ?_ | refine WD_op0 rfl rfl ?_); (refine WV_gen fun Q_ hQ_ => ?_; simp (disch := first | omega | (simp only [List.length_cons, List.length_nil, List.length_append]; omega)) only [bb, bp, argF, ↓reduceIte, reduceCtorEq, Nat.reduceEqDiff, Nat.reduceLT, Nat.reduceLeDiff, Nat.reduceAdd, Nat.reduceMul, Nat.reduceSub, Nat.reduceBEq, Int.reduceToNat, cond_true, cond_false, eq_self, beq_self_eq_true, g1, g3, g5, g6, newPtr_X wf, load1_X wf, loadAgg_X wf, store1_X wf, writeCells_X wf, makeFunc_def, tEvI3]; first | (refine dec_split (Q := Q_) (fun hp_ => ?_) (fun hp_ => ?_) <;> first | (exfalso; omega) | (refine hQ_ _ _ ?_; clear hQ_ Q_)) | (refine dec_splitn (Q := Q_) (fun hp_ => ?_) (fun hp_ => ?_) <;> first | (exfalso; omega) | (refine hQ_ _ _ ?_; clear hQ_ Q_)) | (refine hQ_ _ _ ?_; clear hQ_ Q_)))
  | (refine WC_cond fun K_ hK_ => ?_; simp (disch := omega) only [evT_tmp, upd_apply, WB_some, ↓reduceIte, reduceCtorEq, Nat.reduceEqDiff, Nat.reduceLT]; refine hK_ _ ?_; clear hK_ K_)))
                  (refine endQ_ret _ _ rfl (ret1 (by decide)) ?_; simp only [upd_apply, ↓reduceIte, reduceCtorEq, Nat.reduceEqDiff]; refine WV_flat rfl (by omega) ?_)
                  refine ⟨?_, rfl⟩
                  unfold hullErr
                  rw [if_neg (not_not_intro hn), if_neg (not_not_intro hm), if_neg (not_not_intro hall2), if_neg (not_not_intro ⟨hss.1, hss.2, hofs, hmx⟩)]
                · rw [decide_eq_false hmx] at g5
                  (repeat' (first
  | (with_reducible first | refine WC_seq ?_ | refine WC_skip ?_ | refine WC_label ?_ | refine WC_scope ?_ | refine WC_block ?_ | refine WC_ret ?_ | refine WC_exit ?_ | refine seqQ_norm ?_ | refine seqQ_ret ?_ | refine seqQ_exit ?_ | refine blkQ_norm ?_ | refine blkQ_ret ?_ | refine blkQ_here ?_ | refine gateK_yes ?_ | refine gateK_none ?_ | refine condK_tt ?_ | refine condK_ff ?_ | refine roundQ_exit ?_ | refine roundQ_ret ?_)
  | refine WC_region ?_ | refine blkQ_out rfl ?_ | refine WO_nil ?_ | refine WD_nil ?_
  | ((first | refine WD_gate rfl rfl rfl rfl rfl fun K_ hK_ => ?_ | refine WO_gate rfl rfl rfl rfl rfl fun K_ hK_ => ?_); simp only [upd_apply, asB_bool, asB_tup, ↓reduceIte, reduceCtorEq, Nat.reduceEqDiff, Bool.not_true, Bool.not_false]; refine hK_ _ ?_; clear hK_ K_)
  | refine gateK_no (by decide) ?_
  | ((try first | refine WO_op rfl rfl rfl ?_ | refine WO_op0 rfl rfl ?_ | refine WD_op rfl rfl rfl ?_ | refine WD_op0 rfl rfl ?_); (refine WV_gen fun Q_ hQ_ => ?_; simp (disch := first | omega | (simp only [List.length_cons, List.length_nil, List.length_append]; omega)) only [bb, bp, argF, ↓reduceIte, reduceCtorEq, Nat.reduceEqDiff, Nat.reduceLT, Nat.reduceLeDiff, Nat.reduceAdd, Nat.reduceMul, Nat.reduceSub, Nat.reduceBEq, Int.reduceToNat, cond_true, cond_false, eq_self, beq_self_eq_true, g1, g3, g5, g6, newPtr_X wf, load1_X wf, loadAgg_X wf, store1_X wf, writeCells_X wf, makeFunc_def, tEvI3]; first | (refine dec_split (Q := Q_) (fun hp_ => ?_) (fun hp_ => ?_) <;> first | (exfalso; omega) | (refine hQ_ _ _ ?_; clear hQ_ Q_)) | (refine dec_splitn (Q := Q_) (fun hp_ => ?_) (fun hp_ => ?_) <;> first | (exfalso; omega) | (refine hQ_ _ _ ?_; clear hQ_ Q_)) | (refine hQ_ _ _ ?_; clear hQ_ Q_)))
  | (refine WC_cond fun K_ hK_ => ?_; simp (disch := omega) only [evT_tmp, upd_apply, WB_some, ↓reduceIte, reduceCtorEq, Nat.reduceEqDiff, Nat.reduceLT]; refine hK_ _ ?_; clear hK_ K_)))
                  (refine endQ_ret _ _ rfl (ret1 (by decide)) ?_; simp only [upd_apply, ↓reduceIte, reduceCtorEq, Nat.reduceEqDiff]; refine WV_flat rfl (by omega) ?_)
                  refine ⟨?_, rfl⟩
                  unfold hullErr
                  rw [if_neg (not_not_intro hn), if_neg (not_not_intro hm), if_neg (not_not_intro hall2), if_pos (fun hh => absurd hh.2.2.2 hmx)]
            · exact ⟨Nat.zero_le _, by simp, by simp only [upd_apply, ↓reduceIte, reduceCtorEq, Nat.reduceEqDiff]; exact g1, by simp only [upd_apply, ↓reduceIte, reduceCtorEq, Nat.reduceEqDiff]; exact g3, by simp only [upd_apply, ↓reduceIte, reduceCtorEq, Nat.reduceEqDiff]; rfl, by simp only [upd_apply, ↓reduceIte, reduceCtorEq, Nat.reduceEqDiff]; (try rfl), rfl, [], rfl⟩
          · (repeat' (first
  | (with_reducible first | refine WC_seq ?_ | refine WC_skip ?_ | refine WC_label ?_ | refine WC_scope ?_ | refine WC_block ?_ | refine WC_ret ?_ | refine WC_exit ?_ | refine seqQ_norm ?_ | refine seqQ_ret ?_ | refine seqQ_exit ?_ | refine blkQ_norm ?_ | refine blkQ_ret ?_ | refine blkQ_here ?_ | refine gateK_yes ?_ | refine gateK_none ?_ | refine condK_tt ?_ | refine condK_ff ?_ | refine roundQ_exit ?_ | refine roundQ_ret ?_)
  | refine WC_region ?_ | refine blkQ_out rfl ?_ | refine WO_nil ?_ | refine WD_nil ?_
  | ((first | refine WD_gate rfl rfl rfl rfl rfl fun K_ hK_ => ?_ | refine WO_gate rfl rfl rfl rfl rfl fun K_ hK_ => ?_); simp only [upd_apply, asB_bool, asB_tup, ↓reduceIte, reduceCtorEq, Nat.reduceEqDiff, Bool.not_true, Bool.not_false]; refine hK_ _ ?_; clear hK_ K_)
  | refine gateK_no (by decide) ?_
  | ((try first | refine WO_op rfl rfl rfl ?_ | refine WO_op0 rfl rfl ?_ | refine WD_op rfl rfl rfl ?_ | refine WD_op0 rfl rfl ?_); (refine WV_gen fun Q_ hQ_ => ?_; simp (disch := first | omega | (simp only [List.length_cons, List.length_nil, List.length_append]; omega)) only [bb, bp, argF, ↓reduceIte, reduceCtorEq, Nat.reduceEqDiff, Nat.reduceLT, Nat.reduceLeDiff, Nat.reduceAdd, Nat.reduceMul, Nat.reduceSub, Nat.reduceBEq, Int.reduceToNat, cond_true, cond_false, eq_self, beq_self_eq_true, g1, g3, g4, newPtr_X wf, load1_X wf, loadAgg_X wf, store1_X wf, writeCells_X wf, makeFunc_def, tEvI3]; first | (refine dec_split (Q := Q_) (fun hp_ => ?_) (fun hp_ => ?_) <;> first | (exfalso; omega) | (refine hQ_ _ _ ?_; clear hQ_ Q_)) | (refine dec_splitn (Q := Q_) (fun hp_ => ?_) (fun hp_ => ?_) <;> first | (exfalso; omega) | (refine hQ_ _ _ ?_; clear hQ_ Q_)) | (refine hQ_ _ _ ?_; clear hQ_ Q_)))
  | (refine WC_cond fun K_ hK_ => ?_; simp (disch := omega) only [evT_tmp, upd_apply, WB_some, ↓reduceIte, reduceCtorEq, Nat.reduceEqDiff, Nat.reduceLT]; refine hK_ _ ?_; clear hK_ K_)))
            all_goals (refine endQ_ret _ _ rfl (ret1 (by decide)) ?_; simp only [upd_apply, ↓reduceIte, reduceCtorEq, Nat.reduceEqDiff]; refine WV_flat rfl (by omega) ?_)
            all_goals refine ⟨?_, rfl⟩
            all_goals unfold hullErr
            all_goals rw [if_neg (not_not_intro hn), if_neg (not_not_intro hm), if_neg (not_not_intro hall2), if_pos (fun hh => absurd ⟨hh.1, hh.2.1⟩ hss)]
      · exact ⟨Nat.zero_le _, fun j hj => absurd hj (Nat.not_lt_zero j), by simp only [upd_apply, ↓reduceIte, reduceCtorEq, Nat.reduceEqDiff], by simp only [upd_apply, ↓reduceIte, reduceCtorEq, Nat.reduceEqDiff], by simp only [upd_apply, ↓reduceIte, reduceCtorEq, Nat.reduceEqDiff]; rfl, rfl, rfl⟩
    · (repeat' (first
  | (with_reducible first | refine WC_seq ?_ | refine WC_skip ?_ | refine WC_label ?_ | refine WC_scope ?_ | refine WC_block ?_ | refine WC_ret ?_ | refine WC_exit ?_ | refine seqQ_norm ?_ | refine seqQ_ret ?_ | refine seqQ_exit ?_ | refine blkQ_norm ?_ | refine blkQ_ret ?_ | refine blkQ_here ?_ | refine gateK_yes ?_ | refine gateK_none ?_ | refine condK_tt ?_ | refine condK_ff ?_ | refine roundQ_exit ?_ | refine roundQ_ret ?_)
  | refine WC_region ?_ | refine blkQ_out rfl ?_ | refine WO_nil ?_ | refine WD_nil ?_
  | ((first | refine WD_gate rfl rfl rfl rfl rfl fun K_ hK_ => ?_ | refine WO_gate rfl rfl rfl rfl rfl fun K_ hK_ => ?_); simp only [upd_apply, asB_bool, asB_tup, ↓reduceIte, reduceCtorEq, Nat.reduceEqDiff, Bool.not_true, Bool.not_false]; refine hK_ _ ?_; clear hK_ K_)
  | refine gateK_no (by decide) ?_
  | ((try first | refine WO_op rfl rfl rfl ?_ | refine WO_op0 rfl rfl ?_ | refine WD_op rfl rfl rfl ?_ | refine WD_op0 rfl rfl ?_); (refine WV_gen fun Q_ hQ_ => ?_; simp (disch := first | omega | (simp only [List.length_cons, List.length_nil, List.length_append]; omega)) only [bb, bp, argF, ↓reduceIte, reduceCtorEq, Nat.reduceEqDiff, Nat.reduceLT, Nat.reduceLeDiff, Nat.reduceAdd, Nat.reduceMul, Nat.reduceSub, Nat.reduceBEq, Int.reduceToNat, cond_true, cond_false, eq_self, beq_self_eq_true, hlen, hix', hld, hlen0, newPtr_X wf, load1_X wf, loadAgg_X wf, store1_X wf, writeCells_X wf, makeFunc_def, tEvI3]; first | (refine dec_split (Q := Q_) (fun hp_ => ?_) (fun hp_ => ?_) <;> first | (exfalso; omega) | (refine hQ_ _ _ ?_; clear hQ_ Q_)) | (refine dec_splitn (Q := Q_) (fun hp_ => ?_) (fun hp_ => ?_) <;> first | (exfalso; omega) | (refine hQ_ _ _ ?_; clear hQ_ Q_)) | (refine hQ_ _ _ ?_; clear hQ_ Q_)))
  | (refine WC_cond fun K_ hK_ => ?_; simp (disch := omega) only [evT_tmp, upd_apply, WB_some, ↓reduceIte, reduceCtorEq, Nat.reduceEqDiff, Nat.reduceLT]; refine hK_ _ ?_; clear hK_ K_)))
      all_goals (refine endQ_ret _ _ rfl (ret1 (by decide)) ?_; simp only [upd_apply, ↓reduceIte, reduceCtorEq, Nat.reduceEqDiff]; refine WV_flat rfl (by omega) ?_)
      all_goals exact ⟨by unfold hullErr; rw [if_neg (not_not_intro hn), if_pos hm], rfl⟩
  · (repeat' (first
  | (with_reducible first | refine WC_seq ?_ | refine WC_skip ?_ | refine WC_label ?_ | refine WC_scope ?_ | refine WC_block ?_ | refine WC_ret ?_ | refine WC_exit ?_ | refine seqQ_norm ?_ | refine seqQ_ret ?_ | refine seqQ_exit ?_ | refine blkQ_norm ?_ | refine blkQ_ret ?_ | refine blkQ_here ?_ | refine gateK_yes ?_ | refine gateK_none ?_ | refine condK_tt ?_ | refine condK_ff ?_ | refine roundQ_exit ?_ | refine roundQ_ret ?_)
  | refine WC_region ?_ | refine blkQ_out rfl ?_ | refine WO_nil ?_ | refine WD_nil ?_
  | ((first | refine WD_gate rfl rfl rfl rfl rfl fun K_ hK_ => ?_ | refine WO_gate rfl rfl rfl rfl rfl fun K_ hK_ => ?_); simp only [upd_apply, asB_bool, asB_tup, ↓reduceIte, reduceCtorEq, Nat.reduceEqDiff, Bool.not_true, Bool.not_false]; refine hK_ _ ?_; clear hK_ K_)
  | refine gateK_no (by decide) ?_
  | ((try first | refine WO_op rfl rfl rfl ?_ | refine WO_op0 rfl rfl ?_ | refine WD_op rfl rfl rfl ?_ | refine WD_op0 rfl rfl ?_); (refine WV_gen fun Q_ hQ_ => ?_; simp (disch := first | omega | (simp only [List.length_cons, List.length_nil, List.length_append]; omega)) only [bb, bp, argF, ↓reduceIte, reduceCtorEq, Nat.reduceEqDiff, Nat.reduceLT, Nat.reduceLeDiff, Nat.reduceAdd, Nat.reduceMul, Nat.reduceSub, Nat.reduceBEq, Int.reduceToNat, cond_true, cond_false, eq_self, beq_self_eq_true, hlen, newPtr_X wf, load1_X wf, loadAgg_X wf, store1_X wf, writeCells_X wf, makeFunc_def, tEvI3]; first | (refine dec_split (Q := Q_) (fun hp_ => ?_) (fun hp_ => ?_) <;> first | (exfalso; omega) | (refine hQ_ _ _ ?_; clear hQ_ Q_)) | (refine dec_splitn (Q := Q_) (fun hp_ => ?_) (fun hp_ => ?_) <;> first | (exfalso; omega) | (refine hQ_ _ _ ?_; clear hQ_ Q_)) | (refine hQ_ _ _ ?_; clear hQ_ Q_)))
  | (refine WC_cond fun K_ hK_ => ?_; simp (disch := omega) only [evT_tmp, upd_apply, WB_some, ↓reduceIte, reduceCtorEq, Nat.reduceEqDiff, Nat.reduceLT]; refine hK_ _ ?_; clear hK_ K_)))
    all_goals (refine endQ_ret _ _ rfl (ret1 (by decide)) ?_; simp only [upd_apply, ↓reduceIte, reduceCtorEq, Nat.reduceEqDiff]; refine WV_flat rfl (by omega) ?_)
    all_goals exact ⟨by unfold hullErr; rw [if_pos hn], rfl⟩
end Go.Proofs.Ytghondkiondeaab
end

/- EvI4 -/
section
/-
  LAYER 2, THE REFERENCE: true hulls; the volume and the number as it answers them.
-/
namespace Go.Proofs.Ytghondkiondeaab
open Go.Ev
set_option maxRecDepth 100000
set_option linter.unusedSimpArgs false
set_option linter.unusedVariables false
set_option maxHeartbeats 2000000

theorem tEvI4 : type_of% (And.intro (And.intro (And.intro (And.intro (And.intro (@bs_29) (@ia_29)) (And.intro (@sz_29) (@ze_29))) (And.intro (And.intro (@ia_2) (@sz_2)) (And.intro (@ze_2) (And.intro (@ia_3) (@sz_3))))) (And.intro (And.intro (And.intro (@ia_25) (@sz_25)) (And.intro (@ia_47) (@sz_47))) (And.intro (And.intro (@ia_46) (@sz_46)) (And.intro (@ia_22) (And.intro (@sz_22) (@ik_25)))))) (And.intro (And.intro (And.intro (And.intro (@ik_47) (@ik_46)) (And.intro (@ik_22) (@ia_70))) (And.intro (And.intro (@sz_70) (@ze_70)) (And.intro (@fo_70_0) (And.intro (@fo_70_1) (@fo_24_0))))) (And.intro (And.intro (And.intro (@fo_24_1) (@fo_24_2)) (And.intro (@ia_24) (@sz_24))) (And.intro (And.intro (@pb_12) (@pb_14)) (And.intro (@pb_26) (And.intro (@pb_27) (@pb_30))))))) := And.intro (And.intro (And.intro (And.intro (And.intro (@bs_29) (@ia_29)) (And.intro (@sz_29) (@ze_29))) (And.intro (And.intro (@ia_2) (@sz_2)) (And.intro (@ze_2) (And.intro (@ia_3) (@sz_3))))) (And.intro (And.intro (And.intro (@ia_25) (@sz_25)) (And.intro (@ia_47) (@sz_47))) (And.intro (And.intro (@ia_46) (@sz_46)) (And.intro (@ia_22) (And.intro (@sz_22) (@ik_25)))))) (And.intro (And.intro (And.intro (And.intro (@ik_47) (@ik_46)) (And.intro (@ik_22) (@ia_70))) (And.intro (And.intro (@sz_70) (@ze_70)) (And.intro (@fo_70_0) (And.intro (@fo_70_1) (@fo_24_0))))) (And.intro (And.intro (And.intro (@fo_24_1) (@fo_24_2)) (And.intro (@ia_24) (@sz_24))) (And.intro (And.intro (@pb_12) (@pb_14)) (And.intro (@pb_26) (And.intro (@pb_27) (@pb_30))))))
theorem rAt_ik {rows : List (List (Int × Int))} {m i k : Nat} (hi : i < rows.length) (hk : k < m) (hl : rows[i].length = m) : rAt rows m (i * m + k) = rows[i][k]'(by omega) := by
  have e1 : (i * m + k) / m = i := by rw [Nat.mul_comm, Nat.mul_add_div (by omega), Nat.div_eq_of_lt hk]; omega
  have e2 : (i * m + k) % m = k := by rw [Nat.mul_comm, Nat.mul_add_mod]; exact Nat.mod_eq_of_lt hk
  have hk' : k < rows[i].length := by omega
  unfold rAt; rw [e1, e2]; simp [List.getD, hi, hk']

theorem checkTrueR (sp st : Int) (a b : AV) (rvs yvs : List AV) (rows : List (List (Int × Int))) (ys : List (List Int)) (hyl : ys.length ≤ 1000) (h : H) (x : HullR h a rvs rows) (y : YsR h b yvs ys) :
    (om Try.prog KK).call (.fn 14 [.agg [ii sp, ii st, a], b]) h = .ok (ii (trueErr sp st rows ys)) h := by
  have wf := x.wf
  obtain ⟨hbc, hbo⟩ := Sl.one y.sl
  refine WV_to (WV_call (fn := Try.f14) Try.func14 rfl rfl rfl rfl rfl ?_)
  simp only [argF]
  have hlen : ∀ h', lenE Try.prog 22 a h' = some (ii (rows.length : Int)) := fun h' => x.sl.len un_22
  have hleny : ∀ h', lenE Try.prog 25 b h' = some (ii (ys.length : Int)) := fun h' => y.sl.len un_25
  have hch : ∀ l w, w ≤ h.clock + l.length → (om Try.prog KK).call (.fn 12 [.agg [ii sp, ii st, a]]) (X h l w) = .ok (ii (hullErr sp st rows)) (X h l w) := fun l w hw => checkHullR sp st a rvs rows _ (x.up l w hw)
  by_cases he : hullErr sp st rows = 0
  · obtain ⟨hn, hm, hall, hsp, hst, hof⟩ := hullErr_ok he
    have xat := x.at (m := m0 rows) (by omega) (fun i hi => hall _ (List.getElem_mem hi))
    by_cases hyn : ys.length = rows.length
    · (repeat' (first
  | (with_reducible first | refine WC_seq ?_ | refine WC_skip ?_ | refine WC_label ?_ | refine WC_scope ?_ | refine WC_block ?_ | refine WC_ret ?_ | refine WC_exit ?_ | refine seqQ_norm ?_ | refine seqQ_ret ?_ | refine seqQ_exit ?_ | refine blkQ_norm ?_ | refine blkQ_ret ?_ | refine blkQ_here ?_ | refine gateK_yes ?_ | refine gateK_none ?_ | refine condK_tt ?_ | refine condK_ff ?_ | refine roundQ_exit ?_ | refine roundQ_ret ?_)
  | refine WC_region ?_ | refine blkQ_out rfl ?_ | refine WO_nil ?_ | refine WD_nil ?_
  | ((first | refine WD_gate rfl rfl rfl rfl rfl fun K_ hK_ => ?_ | refine WO_gate rfl rfl rfl rfl rfl fun K_ hK_ => ?_); simp only [upd_apply, asB_bool, asB_tup, ↓reduceIte, reduceCtorEq, Nat.reduceEqDiff, Bool.not_true, Bool.not_false]; refine hK_ _ ?_; clear hK_ K_)
  | refine gateK_no (by decide) ?_
  | ((try first | refine WO_op rfl rfl rfl ?_ | refine WO_op0 rfl rfl ?_ | refine WD_op rfl rfl rfl ?_ | refine WD_op0 rfl rfl ?_); (refine WV_gen fun Q_ hQ_ => ?_; simp (disch := first | omega | (simp only [List.length_cons, List.length_nil, List.length_append]; omega)) only [bb, bp, argF, ↓reduceIte, reduceCtorEq, Nat.reduceEqDiff, Nat.reduceLT, Nat.reduceLeDiff, Nat.reduceAdd, Nat.reduceMul, Nat.reduceSub, Nat.reduceBEq, Int.reduceToNat, cond_true, cond_false, eq_self, beq_self_eq_true, hbc, hbo, hlen, hleny, hch, hyn, he, newPtr_X wf, load1_X wf, loadAgg_X wf, store1_X wf, writeCells_X wf, makeFunc_def, tEvI4]; first | (refine dec_split (Q := Q_) (fun hp_ => ?_) (fun hp_ => ?_) <;> first | (exfalso; omega) | (refine hQ_ _ _ ?_; clear hQ_ Q_)) | (refine dec_splitn (Q := Q_) (fun hp_ => ?_) (fun hp_ => ?_) <;> first | (exfalso; omega) | (refine hQ_ _ _ ?_; clear hQ_ Q_)) | (refine hQ_ _ _ ?_; clear hQ_ Q_)))
  | (refine WC_cond fun K_ hK_ => ?_; simp (disch := omega) only [evT_tmp, upd_apply, WB_some, ↓reduceIte, reduceCtorEq, Nat.reduceEqDiff, Nat.reduceLT]; refine hK_ _ ?_; clear hK_ K_)))
      refine WC_loop (fun (i : Nat) f d h' => i ≤ rows.length ∧ (∀ j, j < i → ∀ hj : j < ys.length, ys[j].length = m0 rows) ∧ f 1 = b ∧ f 2 = .ptr (nx h 0) 0 ∧ f 5 = ii (i : Int) ∧ d = [] ∧ h' = X h [.cells (mkCells [ii sp, ii st, a]) 24] h.clock)
        (fun i => rows.length - i) ?_ (rows.length + 1) 0 (by omega) ?_
      · rintro i f d h' ⟨hi', hally, g1, g2, g5, rfl, rfl⟩
        by_cases hlt : i < rows.length
        · obtain ⟨v, hv, hsv, hrl⟩ := xat.row i hlt
          obtain ⟨id, off, hix, hld⟩ := x.sl.at1 wf hlt ik_22
          rw [hv] at hld
          have hlenv : ∀ h', lenE Try.prog 46 v h' = some (ii (m0 rows : Int)) := fun h' => hsv.len un_46
          have hlty : i < ys.length := by omega
          obtain ⟨vy, hvy, hsvy, hcap⟩ := y.row i hlty
          obtain ⟨idy, offy, hixy, hldy⟩ := y.sl.at1 wf hlty ik_25
          rw [hvy] at hldy
          have hlenvy : ∀ h', lenE Try.prog 47 vy h' = some (ii (ys[i].length : Int)) := fun h' => hsvy.len un_47
          (repeat' (first
  | (with_reducible first | refine WC_seq ?_ | refine WC_skip ?_ | refine WC_label ?_ | refine WC_scope ?_ | refine WC_block ?_ | refine WC_ret ?_ | refine WC_exit ?_ | refine seqQ_norm ?_ | refine seqQ_ret ?_ | refine seqQ_exit ?_ | refine blkQ_norm ?_ | refine blkQ_ret ?_ | refine blkQ_here ?_ | refine gateK_yes ?_ | refine gateK_none ?_ | refine condK_tt ?_ | refine condK_ff ?_ | refine roundQ_exit ?_ | refine roundQ_ret ?_)
  | refine WC_region ?_ | refine blkQ_out rfl ?_ | refine WO_nil ?_ | refine WD_nil ?_
  | ((first | refine WD_gate rfl rfl rfl rfl rfl fun K_ hK_ => ?_ | refine WO_gate rfl rfl rfl rfl rfl fun K_ hK_ => ?_); simp only [upd_apply, asB_bool, asB_tup, ↓reduceIte, reduceCtorEq, Nat.reduceEqDiff, Bool.not_true, Bool.not_false]; refine hK_ _ ?_; clear hK_ K_)
  | refine gateK_no (by decide) ?_
  | ((try first | refine WO_op rfl rfl rfl ?_ | refine WO_op0 rfl rfl ?_ | refine WD_op rfl rfl rfl ?_ | refine WD_op0 rfl rfl ?_); (refine WV_gen fun Q_ hQ_ => ?_; simp (disch := first | omega | (simp only [List.length_cons, List.length_nil, List.length_append]; omega)) only [bb, bp, argF, ↓reduceIte, reduceCtorEq, Nat.reduceEqDiff, Nat.reduceLT, Nat.reduceLeDiff, Nat.reduceAdd, Nat.reduceMul, Nat.reduceSub, Nat.reduceBEq, Int.reduceToNat, cond_true, cond_false, eq_self, beq_self_eq_true, g1, g2, g5, hleny, hyn, newPtr_X wf, load1_X wf, loadAgg_X wf, store1_X wf, writeCells_X wf, makeFunc_def, tEvI4]; first | (refine dec_split (Q := Q_) (fun hp_ => ?_) (fun hp_ => ?_) <;> first | (exfalso; omega) | (refine hQ_ _ _ ?_; clear hQ_ Q_)) | (refine dec_splitn (Q := Q_) (fun hp_ => ?_) (fun hp_ => ?_) <;> first | (exfalso; omega) | (refine hQ_ _ _ ?_; clear hQ_ Q_)) | (refine hQ_ _ _ ?_; clear hQ_ Q_)))
  | (refine WC_cond fun K_ hK_ => ?_; simp (disch := omega) only [evT_tmp, upd_apply, WB_some, ↓reduceIte, reduceCtorEq, Nat.reduceEqDiff, Nat.reduceLT]; refine hK_ _ ?_; clear hK_ K_)))
          refine WC_drawnB [.no, .no, .no, .no, .no, .no, .no, .no, .no, .no, .no, .full] (by kernel_rfl) ?_
          (repeat' (first
  | (with_reducible first | refine WC_seq ?_ | refine WC_skip ?_ | refine WC_label ?_ | refine WC_scope ?_ | refine WC_block ?_ | refine WC_ret ?_ | refine WC_exit ?_ | refine seqQ_norm ?_ | refine seqQ_ret ?_ | refine seqQ_exit ?_ | refine blkQ_norm ?_ | refine blkQ_ret ?_ | refine blkQ_here ?_ | refine gateK_yes ?_ | refine gateK_none ?_ | refine condK_tt ?_ | refine condK_ff ?_ | refine roundQ_exit ?_ | refine roundQ_ret ?_)
  | refine WC_region ?_ | refine blkQ_out rfl ?_ | refine WO_nil ?_ | refine WD_nil ?_
  | ((first | refine WD_gate rfl rfl rfl rfl rfl fun K_ hK_ => ?_ | refine WO_gate rfl rfl rfl rfl rfl fun K_ hK_ => ?_); simp only [upd_apply, asB_bool, asB_tup, ↓reduceIte, reduceCtorEq, Nat.reduceEqDiff, Bool.not_true, Bool.not_false]; refine hK_ _ ?_; clear hK_ K_)
  | refine gateK_no (by decide) ?_
  | ((try first | refine WO_op rfl rfl rfl ?_ | refine WO_op0 rfl rfl ?_ | refine WD_op rfl rfl rfl ?_ | refine WD_op0 rfl rfl ?_); (refine WV_gen fun Q_ hQ_ => ?_; simp (disch := first | omega | (simp only [List.length_cons, List.length_nil, List.length_append]; omega)) only [bb, bp, argF, ↓reduceIte, reduceCtorEq, Nat.reduceEqDiff, Nat.reduceLT, Nat.reduceLeDiff, Nat.reduceAdd, Nat.reduceMul, Nat.reduceSub, Nat.reduceBEq, Int.reduceToNat, cond_true, cond_false, eq_self, beq_self_eq_true, g1, g2, g5, hix, hld, hlenv, hixy, hldy, hlenvy, newPtr_X wf, load1_X wf, loadAgg_X wf, store1_X wf, writeCells_X wf, makeFunc_def, tEvI4]; first | (refine dec_split (Q := Q_) (fun hp_ => ?_) (fun hp_ => ?_) <;> first | (exfalso; omega) | (refine hQ_ _ _ ?_; clear hQ_ Q_)) | (refine dec_splitn (Q := Q_) (fun hp_ => ?_) (fun hp_ => ?_) <;> first | (exfalso; omega) | (refine hQ_ _ _ ?_; clear hQ_ Q_)) | (refine hQ_ _ _ ?_; clear hQ_ Q_)))
  | (refine WC_cond fun K_ hK_ => ?_; simp (disch := omega) only [evT_tmp, upd_apply, WB_some, ↓reduceIte, reduceCtorEq, Nat.reduceEqDiff, Nat.reduceLT]; refine hK_ _ ?_; clear hK_ K_)))
          · refine roundQ_again (i + 1) (by omega) ⟨hlt, ?_, by simp only [upd_apply, ↓reduceIte, reduceCtorEq, Nat.reduceEqDiff]; exact g1, by simp only [upd_apply, ↓reduceIte, reduceCtorEq, Nat.reduceEqDiff]; exact g2, by simp only [upd_apply, ↓reduceIte, reduceCtorEq, Nat.reduceEqDiff]; rfl, rfl, rfl⟩
            intro j hj hjl
            by_cases hji : j = i
            · subst hji; omega
            · exact hally j (by omega) hjl
          · (refine endQ_ret _ _ rfl (ret1 (by decide)) ?_; simp only [upd_apply, ↓reduceIte, reduceCtorEq, Nat.reduceEqDiff]; refine WV_flat rfl (by omega) ?_)
            refine ⟨?_, rfl⟩
            unfold trueErr
            rw [if_neg (not_not_intro he), if_neg (not_not_intro hyn), if_pos (fun hh => by have := hh _ (List.getElem_mem hlty); omega)]
        · have hie : i = rows.length := by omega
          subst hie
          have hally2 : ∀ y ∈ ys, y.length = m0 rows := fun row hr => by
            obtain ⟨j, hj, rfl⟩ := List.getElem_of_mem hr
            exact hally j (by omega) hj
          have yat' := y.at (m := m0 rows) (by omega) (fun i hi => hally2 _ (List.getElem_mem hi))
          (repeat' (first
  | (with_reducible first | refine WC_seq ?_ | refine WC_skip ?_ | refine WC_label ?_ | refine WC_scope ?_ | refine WC_block ?_ | refine WC_ret ?_ | refine WC_exit ?_ | refine seqQ_norm ?_ | refine seqQ_ret ?_ | refine seqQ_exit ?_ | refine blkQ_norm ?_ | refine blkQ_ret ?_ | refine blkQ_here ?_ | refine gateK_yes ?_ | refine gateK_none ?_ | refine condK_tt ?_ | refine condK_ff ?_ | refine roundQ_exit ?_ | refine roundQ_ret ?_)
  | refine WC_region ?_ | refine blkQ_out rfl ?_ | refine WO_nil ?_ | refine WD_nil ?_
  | ((first | refine WD_gate rfl rfl rfl rfl rfl fun K_ hK_ => ?_ | refine WO_gate rfl rfl rfl rfl rfl fun K_ hK_ => ?_); simp only [upd_apply, asB_bool, asB_tup, ↓reduceIte, reduceCtorEq, Nat.reduceEqDiff, Bool.not_true, Bool.not_false]; refine hK_ _ ?_; clear hK_ K_)
  | refine gateK_no (by decide) ?_
  | ((try first | refine WO_op rfl rfl rfl ?_ | refine WO_op0 rfl rfl ?_ | refine WD_op rfl rfl rfl ?_ | refine WD_op0 rfl rfl ?_); (refine WV_gen fun Q_ hQ_ => ?_; simp (disch := first | omega | (simp only [List.length_cons, List.length_nil, List.length_append]; omega)) only [bb, bp, argF, ↓reduceIte, reduceCtorEq, Nat.reduceEqDiff, Nat.reduceLT, Nat.reduceLeDiff, Nat.reduceAdd, Nat.reduceMul, Nat.reduceSub, Nat.reduceBEq, Int.reduceToNat, cond_true, cond_false, eq_self, beq_self_eq_true, g1, g2, g5, hleny, hyn, newPtr_X wf, load1_X wf, loadAgg_X wf, store1_X wf, writeCells_X wf, makeFunc_def, tEvI4]; first | (refine dec_split (Q := Q_) (fun hp_ => ?_) (fun hp_ => ?_) <;> first | (exfalso; omega) | (refine hQ_ _ _ ?_; clear hQ_ Q_)) | (refine dec_splitn (Q := Q_) (fun hp_ => ?_) (fun hp_ => ?_) <;> first | (exfalso; omega) | (refine hQ_ _ _ ?_; clear hQ_ Q_)) | (refine hQ_ _ _ ?_; clear hQ_ Q_)))
  | (refine WC_cond fun K_ hK_ => ?_; simp (disch := omega) only [evT_tmp, upd_apply, WB_some, ↓reduceIte, reduceCtorEq, Nat.reduceEqDiff, Nat.reduceLT]; refine hK_ _ ?_; clear hK_ K_)))
          refine WC_loop (fun (i : Nat) f d h' => i ≤ rows.length ∧ (∀ q, q < i * m0 rows → inR rows ys (m0 rows) q) ∧ f 1 = b ∧ f 2 = .ptr (nx h 0) 0 ∧ f 6 = ii (i : Int) ∧ d = [] ∧ h' = X h [.cells (mkCells [ii sp, ii st, a]) 24] h.clock)
            (fun i => rows.length - i) ?_ (rows.length + 1) 0 (by omega) ?_
          · clear g1 g2 g5
            rintro i f d h' ⟨hi', hin, g1, g2, g6, rfl, rfl⟩
            by_cases hlt : i < rows.length
            · obtain ⟨v, hv, hsv, hrl⟩ := xat.row i hlt
              obtain ⟨id, off, hix, hld⟩ := x.sl.at1 wf hlt ik_22
              rw [hv] at hld
              have hlty : i < ys.length := by omega
              obtain ⟨vy, hvy, hsvy, hcap, hyrl⟩ := yat'.row i hlty
              obtain ⟨idy, offy, hixy, hldy⟩ := y.sl.at1 wf hlty ik_25
              rw [hvy] at hldy
              have hlenvy : ∀ h', lenE Try.prog 47 vy h' = some (ii (m0 rows : Int)) := fun h' => hsvy.len un_47
              (repeat' (first
  | (with_reducible first | refine WC_seq ?_ | refine WC_skip ?_ | refine WC_label ?_ | refine WC_scope ?_ | refine WC_block ?_ | refine WC_ret ?_ | refine WC_exit ?_ | refine seqQ_norm ?_ | refine seqQ_ret ?_ | refine seqQ_exit ?_ | refine blkQ_norm ?_ | refine blkQ_ret ?_ | refine blkQ_here ?_ | refine gateK_yes ?_ | refine gateK_none ?_ | refine condK_tt ?_ | refine condK_ff ?_ | refine roundQ_exit ?_ | refine roundQ_ret ?_)
  | refine WC_region ?_ | refine blkQ_out rfl ?_ | refine WO_nil ?_ | refine WD_nil ?_
  | ((first | refine WD_gate rfl rfl rfl rfl rfl fun K_ hK_ => ?_ | refine WO_gate rfl rfl rfl rfl rfl fun K_ hK_ => ?_); simp only [upd_apply, asB_bool, asB_tup, ↓reduceIte, reduceCtorEq, Nat.reduceEqDiff, Bool.not_true, Bool.not_false]; refine hK_ _ ?_; clear hK_ K_)
  | refine gateK_no (by decide) ?_
  | ((try first | refine WO_op rfl rfl rfl ?_ | refine WO_op0 rfl rfl ?_ | refine WD_op rfl rfl rfl ?_ | refine WD_op0 rfl rfl ?_); (refine WV_gen fun Q_ hQ_ => ?_; simp (disch := first | omega | (simp only [List.length_cons, List.length_nil, List.length_append]; omega)) only [bb, bp, argF, ↓reduceIte, reduceCtorEq, Nat.reduceEqDiff, Nat.reduceLT, Nat.reduceLeDiff, Nat.reduceAdd, Nat.reduceMul, Nat.reduceSub, Nat.reduceBEq, Int.reduceToNat, cond_true, cond_false, eq_self, beq_self_eq_true, g1, g2, g6, hleny, hyn, hixy, hldy, hlenvy, newPtr_X wf, load1_X wf, loadAgg_X wf, store1_X wf, writeCells_X wf, makeFunc_def, tEvI4]; first | (refine dec_split (Q := Q_) (fun hp_ => ?_) (fun hp_ => ?_) <;> first | (exfalso; omega) | (refine hQ_ _ _ ?_; clear hQ_ Q_)) | (refine dec_splitn (Q := Q_) (fun hp_ => ?_) (fun hp_ => ?_) <;> first | (exfalso; omega) | (refine hQ_ _ _ ?_; clear hQ_ Q_)) | (refine hQ_ _ _ ?_; clear hQ_ Q_)))
  | (refine WC_cond fun K_ hK_ => ?_; simp (disch := omega) only [evT_tmp, upd_apply, WB_some, ↓reduceIte, reduceCtorEq, Nat.reduceEqDiff, Nat.reduceLT]; refine hK_ _ ?_; clear hK_ K_)))
              refine WC_loop (fun (k : Nat) f d h' => k ≤ m0 rows ∧ (∀ q, q < i * m0 rows + k → inR rows ys (m0 rows) q) ∧ f 1 = b ∧ f 2 = .ptr (nx h 0) 0 ∧ f 6 = ii (i : Int) ∧ f 7 = ii (k : Int) ∧ d = [] ∧ h' = X h [.cells (mkCells [ii sp, ii st, a]) 24] h.clock)
                (fun k => m0 rows - k) ?_ (m0 rows + 1) 0 (by omega) ?_
              · clear g1 g2 g6 hin
                rintro k f d h' ⟨hk, hin, g1, g2, g6, g7, rfl, rfl⟩
                by_cases hkl : k < m0 rows
                · obtain ⟨id3, off3, hix3, hld3⟩ := hsv.at wf hkl ik_46
                  have hkr : k < rows[i].length := by omega
                  have hrow0 : ∀ l w, load1 id3 off3 (X h l w) = some (ii rows[i][k].1) := fun l w => by
                    have := (hld3 l w).1 0 (by decide)
                    rw [Nat.add_zero] at this
                    rw [this, pairCells_get hkr (by decide)]; rfl
                  have hrow1 : ∀ l w, load1 id3 (off3 + 1) (X h l w) = some (ii rows[i][k].2) := fun l w => by
                    have := (hld3 l w).1 1 (by decide)
                    rw [this, pairCells_get hkr (by decide)]; rfl
                  obtain ⟨id4, off4, hix4, hld4⟩ := hsvy.at1 wf hkl ik_47
                  have hky : k < ys[i].length := by omega
                  have hyz : (ys[i].map ii)[k]? = some (ii ys[i][k]) := by rw [List.getElem?_map]; simp [hky]
                  rw [hyz] at hld4
                  have e1 := rAt_ik hlt hkl hrl
                  obtain ⟨_, _, _, e2⟩ := at_ik (n := ys.length) hlty hkl hyrl
                  have hq := ik_lt (n := rows.length) hlt hkl
                  have hinR : inR rows ys (m0 rows) (i * m0 rows + k) ↔ rows[i][k].1 ≤ ys[i][k] ∧ ys[i][k] ≤ rows[i][k].2 := by unfold inR; rw [e1, e2]
                  (repeat' (first
  | (with_reducible first | refine WC_seq ?_ | refine WC_skip ?_ | refine WC_label ?_ | refine WC_scope ?_ | refine WC_block ?_ | refine WC_ret ?_ | refine WC_exit ?_ | refine seqQ_norm ?_ | refine seqQ_ret ?_ | refine seqQ_exit ?_ | refine blkQ_norm ?_ | refine blkQ_ret ?_ | refine blkQ_here ?_ | refine gateK_yes ?_ | refine gateK_none ?_ | refine condK_tt ?_ | refine condK_ff ?_ | refine roundQ_exit ?_ | refine roundQ_ret ?_)
  | refine WC_region ?_ | refine blkQ_out rfl ?_ | refine WO_nil ?_ | refine WD_nil ?_
  | ((first | refine WD_gate rfl rfl rfl rfl rfl fun K_ hK_ => ?_ | refine WO_gate rfl rfl rfl rfl rfl fun K_ hK_ => ?_); simp only [upd_apply, asB_bool, asB_tup, ↓reduceIte, reduceCtorEq, Nat.reduceEqDiff, Bool.not_true, Bool.not_false]; refine hK_ _ ?_; clear hK_ K_)
  | refine gateK_no (by decide) ?_
  | ((try first | refine WO_op rfl rfl rfl ?_ | refine WO_op0 rfl rfl ?_ | refine WD_op rfl rfl rfl ?_ | refine WD_op0 rfl rfl ?_); (refine WV_gen fun Q_ hQ_ => ?_; simp (disch := first | omega | (simp only [List.length_cons, List.length_nil, List.length_append]; omega)) only [bb, bp, argF, ↓reduceIte, reduceCtorEq, Nat.reduceEqDiff, Nat.reduceLT, Nat.reduceLeDiff, Nat.reduceAdd, Nat.reduceMul, Nat.reduceSub, Nat.reduceBEq, Int.reduceToNat, cond_true, cond_false, eq_self, beq_self_eq_true, g1, g2, g6, g7, hleny, hyn, hixy, hldy, hlenvy, newPtr_X wf, load1_X wf, loadAgg_X wf, store1_X wf, writeCells_X wf, makeFunc_def, tEvI4]; first | (refine dec_split (Q := Q_) (fun hp_ => ?_) (fun hp_ => ?_) <;> first | (exfalso; omega) | (refine hQ_ _ _ ?_; clear hQ_ Q_)) | (refine dec_splitn (Q := Q_) (fun hp_ => ?_) (fun hp_ => ?_) <;> first | (exfalso; omega) | (refine hQ_ _ _ ?_; clear hQ_ Q_)) | (refine hQ_ _ _ ?_; clear hQ_ Q_)))
  | (refine WC_cond fun K_ hK_ => ?_; simp (disch := omega) only [evT_tmp, upd_apply, WB_some, ↓reduceIte, reduceCtorEq, Nat.reduceEqDiff, Nat.reduceLT]; refine hK_ _ ?_; clear hK_ K_)))
                  refine WC_drawnB [.no, .no, .no, .no, .no, .no, .no, .no, .no, .no, .no, .no, .no, .no, .no, .no, .full, .full, .no, .no, .no, .no, .no, .no, .no, .no, .no, .no, .no, .no, .no, .no, .no, .no, .full, .full] (by kernel_rfl) ?_
                  (repeat' (first
  | (with_reducible first | refine WC_seq ?_ | refine WC_skip ?_ | refine WC_label ?_ | refine WC_scope ?_ | refine WC_block ?_ | refine WC_ret ?_ | refine WC_exit ?_ | refine seqQ_norm ?_ | refine seqQ_ret ?_ | refine seqQ_exit ?_ | refine blkQ_norm ?_ | refine blkQ_ret ?_ | refine blkQ_here ?_ | refine gateK_yes ?_ | refine gateK_none ?_ | refine condK_tt ?_ | refine condK_ff ?_ | refine roundQ_exit ?_ | refine roundQ_ret ?_)
  | refine WC_region ?_ | refine blkQ_out rfl ?_ | refine WO_nil ?_ | refine WD_nil ?_
  | ((first | refine WD_gate rfl rfl rfl rfl rfl fun K_ hK_ => ?_ | refine WO_gate rfl rfl rfl rfl rfl fun K_ hK_ => ?_); simp only [upd_apply, asB_bool, asB_tup, ↓reduceIte, reduceCtorEq, Nat.reduceEqDiff, Bool.not_true, Bool.not_false]; refine hK_ _ ?_; clear hK_ K_)
  | refine gateK_no (by decide) ?_
  | ((try first | refine WO_op rfl rfl rfl ?_ | refine WO_op0 rfl rfl ?_ | refine WD_op rfl rfl rfl ?_ | refine WD_op0 rfl rfl ?_); (refine WV_gen fun Q_ hQ_ => ?_; simp (disch := first | omega | (simp only [List.length_cons, List.length_nil, List.length_append]; omega)) only [bb, bp, argF, ↓reduceIte, reduceCtorEq, Nat.reduceEqDiff, Nat.reduceLT, Nat.reduceLeDiff, Nat.reduceAdd, Nat.reduceMul, Nat.reduceSub, Nat.reduceBEq, Int.reduceToNat, cond_true, cond_false, eq_self, beq_self_eq_true, g1, g2, g6, g7, hix, hld, hixy, hldy, hix3, hrow0, hrow1, hix4, hld4, newPtr_X wf, load1_X wf, loadAgg_X wf, store1_X wf, writeCells_X wf, makeFunc_def, tEvI4]; first | (refine dec_split (Q := Q_) (fun hp_ => ?_) (fun hp_ => ?_) <;> first | (exfalso; omega) | (refine hQ_ _ _ ?_; clear hQ_ Q_)) | (refine dec_splitn (Q := Q_) (fun hp_ => ?_) (fun hp_ => ?_) <;> first | (exfalso; omega) | (refine hQ_ _ _ ?_; clear hQ_ Q_)) | (refine hQ_ _ _ ?_; clear hQ_ Q_)))
  | (refine WC_cond fun K_ hK_ => ?_; simp (disch := omega) only [evT_tmp, upd_apply, WB_some, ↓reduceIte, reduceCtorEq, Nat.reduceEqDiff, Nat.reduceLT]; refine hK_ _ ?_; clear hK_ K_)))
                  · (refine endQ_ret _ _ rfl (ret1 (by decide)) ?_; simp only [upd_apply, ↓reduceIte, reduceCtorEq, Nat.reduceEqDiff]; refine WV_flat rfl (by omega) ?_)
                    refine ⟨?_, rfl⟩
                    unfold trueErr
                    rw [if_neg (not_not_intro he), if_neg (not_not_intro hyn), if_neg (not_not_intro hally2), if_pos (fun hh => by have := hinR.1 (hh _ hq); omega)]
                  · (refine endQ_ret _ _ rfl (ret1 (by decide)) ?_; simp only [upd_apply, ↓reduceIte, reduceCtorEq, Nat.reduceEqDiff]; refine WV_flat rfl (by omega) ?_)
                    refine ⟨?_, rfl⟩
                    unfold trueErr
                    rw [if_neg (not_not_intro he), if_neg (not_not_intro hyn), if_neg (not_not_intro hally2), if_pos (fun hh => by have := hinR.1 (hh _ hq); omega)]
                  · refine roundQ_again (k + 1) (by omega) ⟨hkl, ?_, by simp only [upd_apply, ↓reduceIte, reduceCtorEq, Nat.reduceEqDiff]; exact g1, by simp only [upd_apply, ↓reduceIte, reduceCtorEq, Nat.reduceEqDiff]; exact g2, by simp only [upd_apply, ↓reduceIte, reduceCtorEq, Nat.reduceEqDiff]; exact g6, by simp only [upd_apply, ↓reduceIte, reduceCtorEq, Nat.reduceEqDiff]; rfl, rfl, rfl⟩
                    intro q hq'
                    by_cases hqe : q = i * m0 rows + k
                    · subst hqe
                      exact hinR.2 (by omega)
                    · exact hin q (by omega)
                · have hke : k = m0 rows := by omega
                  rw [hke] at g7 hin
                  (repeat' (first
  | (with_reducible first | refine WC_seq ?_ | refine WC_skip ?_ | refine WC_label ?_ | refine WC_scope ?_ | refine WC_block ?_ | refine WC_ret ?_ | refine WC_exit ?_ | refine seqQ_norm ?_ | refine seqQ_ret ?_ | refine seqQ_exit ?_ | refine blkQ_norm ?_ | refine blkQ_ret ?_ | refine blkQ_here ?_ | refine gateK_yes ?_ | refine gateK_none ?_ | refine condK_tt ?_ | refine condK_ff ?_ | refine roundQ_exit ?_ | refine roundQ_ret ?_)
  | refine WC_region ?_ | refine blkQ_out rfl ?_ | refine WO_nil ?_ | refine WD_nil ?_
  | ((first | refine WD_gate rfl rfl rfl rfl rfl fun K_ hK_ => ?_ | refine WO_gate rfl rfl rfl rfl rfl fun K_ hK_ => ?_); simp only [upd_apply, asB_bool, asB_tup, ↓reduceIte, reduceCtorEq, Nat.reduceEqDiff, Bool.not_true, Bool.not_false]; refine hK_ _ ?_; clear hK_ K_)
  | refine gateK_no (by decide) ?_
  | ((try first | refine WO_op rfl rfl rfl ?_ | refine WO_op0 rfl rfl ?_ | refine WD_op rfl rfl rfl ?_ | refine WD_op0 rfl rfl ?_); (refine WV_gen fun Q_ hQ_ => ?_; simp (disch := first | omega | (simp only [List.length_cons, List.length_nil, List.length_append]; omega)) only [bb, bp, argF, ↓reduceIte, reduceCtorEq, Nat.reduceEqDiff, Nat.reduceLT, Nat.reduceLeDiff, Nat.reduceAdd, Nat.reduceMul, Nat.reduceSub, Nat.reduceBEq, Int.reduceToNat, cond_true, cond_false, eq_self, beq_self_eq_true, g1, g2, g6, g7, hleny, hyn, hixy, hldy, hlenvy, newPtr_X wf, load1_X wf, loadAgg_X wf, store1_X wf, writeCells_X wf, makeFunc_def, tEvI4]; first | (refine dec_split (Q := Q_) (fun hp_ => ?_) (fun hp_ => ?_) <;> first | (exfalso; omega) | (refine hQ_ _ _ ?_; clear hQ_ Q_)) | (refine dec_splitn (Q := Q_) (fun hp_ => ?_) (fun hp_ => ?_) <;> first | (exfalso; omega) | (refine hQ_ _ _ ?_; clear hQ_ Q_)) | (refine hQ_ _ _ ?_; clear hQ_ Q_)))
  | (refine WC_cond fun K_ hK_ => ?_; simp (disch := omega) only [evT_tmp, upd_apply, WB_some, ↓reduceIte, reduceCtorEq, Nat.reduceEqDiff, Nat.reduceLT]; refine hK_ _ ?_; clear hK_ K_)))
                  refine roundQ_again (i + 1) (by omega) ⟨hlt, by rw [Nat.succ_mul]; exact hin, by simp only [upd_apply, ↓reduceIte, reduceCtorEq, Nat.reduceEqDiff]; exact g1, by simp only [upd_apply, ↓reduceIte, reduceCtorEq, Nat.reduceEqDiff]; exact g2, by simp only [upd_apply, ↓reduceIte, reduceCtorEq, Nat.reduceEqDiff]; rfl, rfl, rfl⟩
              · exact ⟨Nat.zero_le _, hin, by simp only [upd_apply, ↓reduceIte, reduceCtorEq, Nat.reduceEqDiff]; exact g1, by simp only [upd_apply, ↓reduceIte, reduceCtorEq, Nat.reduceEqDiff]; exact g2, by simp only [upd_apply, ↓reduceIte, reduceCtorEq, Nat.reduceEqDiff]; exact g6, by simp only [upd_apply, ↓reduceIte, reduceCtorEq, Nat.reduceEqDiff]; (try rfl), rfl, rfl⟩
            · have hie : i = rows.length := by omega
              subst hie
              (repeat' (first
  | (with_reducible first | refine WC_seq ?_ | refine WC_skip ?_ | refine WC_label ?_ | refine WC_scope ?_ | refine WC_block ?_ | refine WC_ret ?_ | refine WC_exit ?_ | refine seqQ_norm ?_ | refine seqQ_ret ?_ | refine seqQ_exit ?_ | refine blkQ_norm ?_ | refine blkQ_ret ?_ | refine blkQ_here ?_ | refine gateK_yes ?_ | refine gateK_none ?_ | refine condK_tt ?_ | refine condK_ff ?_ | refine roundQ_exit ?_ | refine roundQ_ret ?_)
  | refine WC_region ?_ | refine blkQ_out rfl ?_ | refine WO_nil ?_ | refine WD_nil ?_
  | ((first | refine WD_gate rfl rfl rfl rfl rfl fun K_ hK_ => ?_ | refine WO_gate rfl rfl rfl rfl rfl fun K_ hK_ => ?_); simp only [upd_apply, asB_bool, asB_tup, ↓reduceIte, reduceCtorEq, Nat.reduceEqDiff, Bool.not_true, Bool.not_false]; refine hK_ _ ?_; clear hK_ K_)
  | refine gateK_no (by decide) ?_
  | ((try first | refine WO_op rfl rfl rfl ?_ | refine WO_op0 rfl rfl ?_ | refine WD_op rfl rfl rfl ?_ | refine WD_op0 rfl rfl ?_); (refine WV_gen fun Q_ hQ_ => ?_; simp (disch := first | omega | (simp only [List.length_cons, List.length_nil, List.length_append]; omega)) only [bb, bp, argF, ↓reduceIte, reduceCtorEq, Nat.reduceEqDiff, Nat.reduceLT, Nat.reduceLeDiff, Nat.reduceAdd, Nat.reduceMul, Nat.reduceSub, Nat.reduceBEq, Int.reduceToNat, cond_true, cond_false, eq_self, beq_self_eq_true, g1, g2, g6, hleny, hyn, newPtr_X wf, load1_X wf, loadAgg_X wf, store1_X wf, writeCells_X wf, makeFunc_def, tEvI4]; first | (refine dec_split (Q := Q_) (fun hp_ => ?_) (fun hp_ => ?_) <;> first | (exfalso; omega) | (refine hQ_ _ _ ?_; clear hQ_ Q_)) | (refine dec_splitn (Q := Q_) (fun hp_ => ?_) (fun hp_ => ?_) <;> first | (exfalso; omega) | (refine hQ_ _ _ ?_; clear hQ_ Q_)) | (refine hQ_ _ _ ?_; clear hQ_ Q_)))
  | (refine WC_cond fun K_ hK_ => ?_; simp (disch := omega) only [evT_tmp, upd_apply, WB_some, ↓reduceIte, reduceCtorEq, Nat.reduceEqDiff, Nat.reduceLT]; refine hK_ _ ?_; clear hK_ K_)))
              (refine endQ_ret _ _ rfl (ret1 (by decide)) ?_; simp only [upd_apply, ↓reduceIte, reduceCtorEq, Nat.reduceEqDiff]; refine WV_flat rfl (by omega) ?_)
              refine ⟨?_, rfl⟩
              unfold trueErr
              rw [if_neg (not_not_intro he), if_neg (not_not_intro hyn), if_neg (not_not_intro hally2), if_neg (not_not_intro hin)]
          · exact ⟨Nat.zero_le _, fun q hq => absurd hq (by rw [Nat.zero_mul]; exact Nat.not_lt_zero _), by simp only [upd_apply, ↓reduceIte, reduceCtorEq, Nat.reduceEqDiff]; exact g1, by simp only [upd_apply, ↓reduceIte, reduceCtorEq, Nat.reduceEqDiff]; exact g2, by simp only [upd_apply, ↓reduceIte, reduceCtorEq, Nat.reduceEqDiff]; (try rfl), rfl, rfl⟩
      · exact ⟨Nat.zero_le _, fun j hj => absurd hj (Nat.not_lt_zero j), by simp only [upd_apply, ↓reduceIte, reduceCtorEq, Nat.reduceEqDiff], by simp only [upd_apply, ↓reduceIte, reduceCtorEq, Nat.reduceEqDiff], by simp only [upd_apply, ↓reduceIte, reduceCtorEq, Nat.reduceEqDiff]; (try rfl), rfl, rfl⟩
    · (repeat' (first
  | (with_reducible first | refine WC_seq ?_ | refine WC_skip ?_ | refine WC_label ?_ | refine WC_scope ?_ | refine WC_block ?_ | refine WC_ret ?_ | refine WC_exit ?_ | refine seqQ_norm ?_ | refine seqQ_ret ?_ | refine seqQ_exit ?_ | refine blkQ_norm ?_ | refine blkQ_ret ?_ | refine blkQ_here ?_ | refine gateK_yes ?_ | refine gateK_none ?_ | refine condK_tt ?_ | refine condK_ff ?_ | refine roundQ_exit ?_ | refine roundQ_ret ?_)
  | refine WC_region ?_ | refine blkQ_out rfl ?_ | refine WO_nil ?_ | refine WD_nil ?_
  | ((first | refine WD_gate rfl rfl rfl rfl rfl fun K_ hK_ => ?_ | refine WO_gate rfl rfl rfl rfl rfl fun K_ hK_ => ?_); simp only [upd_apply, asB_bool, asB_tup, ↓reduceIte, reduceCtorEq, Nat.reduceEqDiff, Bool.not_true, Bool.not_false]; refine hK_ _ ?_; clear hK_ K_)
  | refine gateK_no (by decide) ?_
  | ((try first | refine WO_op rfl rfl rfl ?_ | refine WO_op0 rfl rfl ?_ | refine WD_op rfl rfl rfl ?_ | refine WD_op0 rfl rfl ?_); (refine WV_gen fun Q_ hQ_ => ?_; simp (disch := first | omega | (simp only [List.length_cons, List.length_nil, List.length_append]; omega)) only [bb, bp, argF, ↓reduceIte, reduceCtorEq, Nat.reduceEqDiff, Nat.reduceLT, Nat.reduceLeDiff, Nat.reduceAdd, Nat.reduceMul, Nat.reduceSub, Nat.reduceBEq, Int.reduceToNat, cond_true, cond_false, eq_self, beq_self_eq_true, hbc, hbo, hlen, hleny, hch, he, newPtr_X wf, load1_X wf, loadAgg_X wf, store1_X wf, writeCells_X wf, makeFunc_def, tEvI4]; first | (refine dec_split (Q := Q_) (fun hp_ => ?_) (fun hp_ => ?_) <;> first | (exfalso; omega) | (refine hQ_ _ _ ?_; clear hQ_ Q_)) | (refine dec_splitn (Q := Q_) (fun hp_ => ?_) (fun hp_ => ?_) <;> first | (exfalso; omega) | (refine hQ_ _ _ ?_; clear hQ_ Q_)) | (refine hQ_ _ _ ?_; clear hQ_ Q_)))
  | (refine WC_cond fun K_ hK_ => ?_; simp (disch := omega) only [evT_tmp, upd_apply, WB_some, ↓reduceIte, reduceCtorEq, Nat.reduceEqDiff, Nat.reduceLT]; refine hK_ _ ?_; clear hK_ K_)))
      (refine endQ_ret _ _ rfl (ret1 (by decide)) ?_; simp only [upd_apply, ↓reduceIte, reduceCtorEq, Nat.reduceEqDiff]; refine WV_flat rfl (by omega) ?_)
      refine ⟨?_, rfl⟩
      unfold trueErr
      rw [if_neg (not_not_intro he), if_pos hyn]
  · (repeat' (first
  | (with_reducible first | refine WC_seq ?_ | refine WC_skip ?_ | refine WC_label ?_ | refine WC_scope ?_ | refine WC_block ?_ | refine WC_ret ?_ | refine WC_exit ?_ | refine seqQ_norm ?_ | refine seqQ_ret ?_ | refine seqQ_exit ?_ | refine blkQ_norm ?_ | refine blkQ_ret ?_ | refine blkQ_here ?_ | refine gateK_yes ?_ | refine gateK_none ?_ | refine condK_tt ?_ | refine condK_ff ?_ | refine roundQ_exit ?_ | refine roundQ_ret ?_)
  | refine WC_region ?_ | refine blkQ_out rfl ?_ | refine WO_nil ?_ | refine WD_nil ?_
  | ((first | refine WD_gate rfl rfl rfl rfl rfl fun K_ hK_ => ?_ | refine WO_gate rfl rfl rfl rfl rfl fun K_ hK_ => ?_); simp only [upd_apply, asB_bool, asB_tup, ↓reduceIte, reduceCtorEq, Nat.reduceEqDiff, Bool.not_true, Bool.not_false]; refine hK_ _ ?_; clear hK_ K_)
  | refine gateK_no (by decide) ?_
  | ((try first | refine WO_op rfl rfl rfl ?_ | refine WO_op0 rfl rfl ?_ | refine WD_op rfl rfl rfl ?_ | refine WD_op0 rfl rfl ?_); (refine WV_gen fun Q_ hQ_ => ?_; simp (disch := first | omega | (simp only [List.length_cons, List.length_nil, List.length_append]; omega)) only [bb, bp, argF, ↓reduceIte, reduceCtorEq, Nat.reduceEqDiff, Nat.reduceLT, Nat.reduceLeDiff, Nat.reduceAdd, Nat.reduceMul, Nat.reduceSub, Nat.reduceBEq, Int.reduceToNat, cond_true, cond_false, eq_self, beq_self_eq_true, hbc, hbo, hlen, hleny, hch, newPtr_X wf, load1_X wf, loadAgg_X wf, store1_X wf, writeCells_X wf, makeFunc_def, tEvI4]; first | (refine dec_split (Q := Q_) (fun hp_ => ?_) (fun hp_ => ?_) <;> first | (exfalso; omega) | (refine hQ_ _ _ ?_; clear hQ_ Q_)) | (refine dec_splitn (Q := Q_) (fun hp_ => ?_) (fun hp_ => ?_) <;> first | (exfalso; omega) | (refine hQ_ _ _ ?_; clear hQ_ Q_)) | (refine hQ_ _ _ ?_; clear hQ_ Q_)))
  | (refine WC_cond fun K_ hK_ => ?_; simp (disch := omega) only [evT_tmp, upd_apply, WB_some, ↓reduceIte, reduceCtorEq, Nat.reduceEqDiff, Nat.reduceLT]; refine hK_ _ ?_; clear hK_ K_)))
    (refine endQ_ret _ _ rfl (ret1 (by decide)) ?_; simp only [upd_apply, ↓reduceIte, reduceCtorEq, Nat.reduceEqDiff]; refine WV_flat rfl (by omega) ?_)
    refine ⟨?_, rfl⟩
    unfold trueErr
    rw [if_pos he]

theorem valueRX (sp st : Int) (a b : AV) (rvs yvs : List AV) (rows : List (List (Int × Int))) (ys : List (List Int)) (hyl : ys.length ≤ 1000) (what : Int) (h : H) (x : HullR h a rvs rows) (y : YsR h b yvs ys) :
    (om Try.prog KK).call (.fn 10 [.agg [ii sp, ii st, a], b, ii what]) h = .ok (valOut sp st rows ys what) h := by
  have wf := x.wf
  refine WV_to (WV_call (fn := Try.f10) Try.func10 rfl rfl rfl rfl rfl ?_)
  simp only [argF]
  have hch : ∀ l w, w ≤ h.clock + l.length → (om Try.prog KK).call (.fn 14 [.agg [ii sp, ii st, a], b]) (X h l w) = .ok (ii (trueErr sp st rows ys)) (X h l w) := fun l w hw => checkTrueR sp st a b rvs yvs rows ys hyl _ (x.up l w hw) (y.up l w hw)
  unfold valOut
  by_cases he : trueErr sp st rows ys = 0
  · have t := trueErr_ok he
    have yat' := y.at (m := m0 rows) (by have := t.m; omega) (fun i hi => t.yall _ (List.getElem_mem hi))
    rw [if_pos he]
    by_cases hwh : 0 ≤ what ∧ what ≤ 2
    · have hva : ∀ l w, w ≤ h.clock + l.length → (om Try.prog KK).call (.fn 30 [.agg [ii sp, ii st, a], b, ii what]) (X h l w) = _ := fun l w hw => valueR sp st a b yvs rows ys t what hwh _ (yat'.up l w hw)
      rw [if_pos hwh]
      (repeat' (first
  | (with_reducible first | refine WC_seq ?_ | refine WC_skip ?_ | refine WC_label ?_ | refine WC_scope ?_ | refine WC_block ?_ | refine WC_ret ?_ | refine WC_exit ?_ | refine seqQ_norm ?_ | refine seqQ_ret ?_ | refine seqQ_exit ?_ | refine blkQ_norm ?_ | refine blkQ_ret ?_ | refine blkQ_here ?_ | refine gateK_yes ?_ | refine gateK_none ?_ | refine condK_tt ?_ | refine condK_ff ?_ | refine roundQ_exit ?_ | refine roundQ_ret ?_)
  | refine WC_region ?_ | refine blkQ_out rfl ?_ | refine WO_nil ?_ | refine WD_nil ?_
  | ((first | refine WD_gate rfl rfl rfl rfl rfl fun K_ hK_ => ?_ | refine WO_gate rfl rfl rfl rfl rfl fun K_ hK_ => ?_); simp only [upd_apply, asB_bool, asB_tup, ↓reduceIte, reduceCtorEq, Nat.reduceEqDiff, Bool.not_true, Bool.not_false]; refine hK_ _ ?_; clear hK_ K_)
  | refine gateK_no (by decide) ?_
  | ((try first | refine WO_op rfl rfl rfl ?_ | refine WO_op0 rfl rfl ?_ | refine WD_op rfl rfl rfl ?_ | refine WD_op0 rfl rfl ?_); (refine WV_gen fun Q_ hQ_ => ?_; simp (disch := first | omega | (simp only [List.length_cons, List.length_nil, List.length_append]; omega)) only [bb, bp, argF, ↓reduceIte, reduceCtorEq, Nat.reduceEqDiff, Nat.reduceLT, Nat.reduceLeDiff, Nat.reduceAdd, Nat.reduceMul, Nat.reduceSub, Nat.reduceBEq, Int.reduceToNat, cond_true, cond_false, eq_self, beq_self_eq_true, hch, he, hva, frac, newPtr_X wf, load1_X wf, loadAgg_X wf, store1_X wf, writeCells_X wf, makeFunc_def, tEvI4]; first | (refine dec_split (Q := Q_) (fun hp_ => ?_) (fun hp_ => ?_) <;> first | (exfalso; omega) | (refine hQ_ _ _ ?_; clear hQ_ Q_)) | (refine dec_splitn (Q := Q_) (fun hp_ => ?_) (fun hp_ => ?_) <;> first | (exfalso; omega) | (refine hQ_ _ _ ?_; clear hQ_ Q_)) | (refine hQ_ _ _ ?_; clear hQ_ Q_)))
  | (refine WC_cond fun K_ hK_ => ?_; simp (disch := omega) only [evT_tmp, upd_apply, WB_some, ↓reduceIte, reduceCtorEq, Nat.reduceEqDiff, Nat.reduceLT]; refine hK_ _ ?_; clear hK_ K_)))
      refine endQ_ret _ _ rfl (retc1 (by decide) (by decide) (by simp (disch := first | omega | (simp only [List.length_cons, List.length_nil, List.length_append]; omega)) only [bb, bp, argF, ↓reduceIte, reduceCtorEq, Nat.reduceEqDiff, Nat.reduceLT, Nat.reduceLeDiff, Nat.reduceAdd, Nat.reduceMul, Nat.reduceSub, Nat.reduceBEq, Int.reduceToNat, cond_true, cond_false, eq_self, beq_self_eq_true, loadAgg_X wf, frac, tEvI4]; rfl)) ?_
      simp only [upd_apply, ↓reduceIte, reduceCtorEq, Nat.reduceEqDiff]
      refine WV_flat rfl (by omega) ?_
      exact ⟨rfl, rfl⟩
    · rw [if_neg hwh]
      (repeat' (first
  | (with_reducible first | refine WC_seq ?_ | refine WC_skip ?_ | refine WC_label ?_ | refine WC_scope ?_ | refine WC_block ?_ | refine WC_ret ?_ | refine WC_exit ?_ | refine seqQ_norm ?_ | refine seqQ_ret ?_ | refine seqQ_exit ?_ | refine blkQ_norm ?_ | refine blkQ_ret ?_ | refine blkQ_here ?_ | refine gateK_yes ?_ | refine gateK_none ?_ | refine condK_tt ?_ | refine condK_ff ?_ | refine roundQ_exit ?_ | refine roundQ_ret ?_)
  | refine WC_region ?_ | refine blkQ_out rfl ?_ | refine WO_nil ?_ | refine WD_nil ?_
  | ((first | refine WD_gate rfl rfl rfl rfl rfl fun K_ hK_ => ?_ | refine WO_gate rfl rfl rfl rfl rfl fun K_ hK_ => ?_); simp only [upd_apply, asB_bool, asB_tup, ↓reduceIte, reduceCtorEq, Nat.reduceEqDiff, Bool.not_true, Bool.not_false]; refine hK_ _ ?_; clear hK_ K_)
  | refine gateK_no (by decide) ?_
  | ((try first | refine WO_op rfl rfl rfl ?_ | refine WO_op0 rfl rfl ?_ | refine WD_op rfl rfl rfl ?_ | refine WD_op0 rfl rfl ?_); (refine WV_gen fun Q_ hQ_ => ?_; simp (disch := first | omega | (simp only [List.length_cons, List.length_nil, List.length_append]; omega)) only [bb, bp, argF, ↓reduceIte, reduceCtorEq, Nat.reduceEqDiff, Nat.reduceLT, Nat.reduceLeDiff, Nat.reduceAdd, Nat.reduceMul, Nat.reduceSub, Nat.reduceBEq, Int.reduceToNat, cond_true, cond_false, eq_self, beq_self_eq_true, hch, he, newPtr_X wf, load1_X wf, loadAgg_X wf, store1_X wf, writeCells_X wf, makeFunc_def, tEvI4]; first | (refine dec_split (Q := Q_) (fun hp_ => ?_) (fun hp_ => ?_) <;> first | (exfalso; omega) | (refine hQ_ _ _ ?_; clear hQ_ Q_)) | (refine dec_splitn (Q := Q_) (fun hp_ => ?_) (fun hp_ => ?_) <;> first | (exfalso; omega) | (refine hQ_ _ _ ?_; clear hQ_ Q_)) | (refine hQ_ _ _ ?_; clear hQ_ Q_)))
  | (refine WC_cond fun K_ hK_ => ?_; simp (disch := omega) only [evT_tmp, upd_apply, WB_some, ↓reduceIte, reduceCtorEq, Nat.reduceEqDiff, Nat.reduceLT]; refine hK_ _ ?_; clear hK_ K_)))
      all_goals
        refine endQ_ret _ _ rfl (retc1 (by decide) (by decide) (by simp (disch := first | omega | (simp only [List.length_cons, List.length_nil, List.length_append]; omega)) only [bb, bp, argF, ↓reduceIte, reduceCtorEq, Nat.reduceEqDiff, Nat.reduceLT, Nat.reduceLeDiff, Nat.reduceAdd, Nat.reduceMul, Nat.reduceSub, Nat.reduceBEq, Int.reduceToNat, cond_true, cond_false, eq_self, beq_self_eq_true, loadAgg_X wf, tEvI4]; rfl)) ?_
        simp only [upd_apply, ↓reduceIte, reduceCtorEq, Nat.reduceEqDiff]
        refine WV_flat rfl (by omega) ?_
        exact ⟨rfl, rfl⟩
  · rw [if_neg he]
    (repeat' (first
  | (with_reducible first | refine WC_seq ?_ | refine WC_skip ?_ | refine WC_label ?_ | refine WC_scope ?_ | refine WC_block ?_ | refine WC_ret ?_ | refine WC_exit ?_ | refine seqQ_norm ?_ | refine seqQ_ret ?_ | refine seqQ_exit ?_ | refine blkQ_norm ?_ | refine blkQ_ret ?_ | refine blkQ_here ?_ | refine gateK_yes ?_ | refine gateK_none ?_ | refine condK_tt ?_ | refine condK_ff ?_ | refine roundQ_exit ?_ | refine roundQ_ret ?_)
  | refine WC_region ?_ | refine blkQ_out rfl ?_ | refine WO_nil ?_ | refine WD_nil ?_
  | ((first | refine WD_gate rfl rfl rfl rfl rfl fun K_ hK_ => ?_ | refine WO_gate rfl rfl rfl rfl rfl fun K_ hK_ => ?_); simp only [upd_apply, asB_bool, asB_tup, ↓reduceIte, reduceCtorEq, Nat.reduceEqDiff, Bool.not_true, Bool.not_false]; refine hK_ _ ?_; clear hK_ K_)
  | refine gateK_no (by decide) ?_
  | ((try first | refine WO_op rfl rfl rfl ?_ | refine WO_op0 rfl rfl ?_ | refine WD_op rfl rfl rfl ?_ | refine WD_op0 rfl rfl ?_); (refine WV_gen fun Q_ hQ_ => ?_; simp (disch := first | omega | (simp only [List.length_cons, List.length_nil, List.length_append]; omega)) only [bb, bp, argF, ↓reduceIte, reduceCtorEq, Nat.reduceEqDiff, Nat.reduceLT, Nat.reduceLeDiff, Nat.reduceAdd, Nat.reduceMul, Nat.reduceSub, Nat.reduceBEq, Int.reduceToNat, cond_true, cond_false, eq_self, beq_self_eq_true, hch, newPtr_X wf, load1_X wf, loadAgg_X wf, store1_X wf, writeCells_X wf, makeFunc_def, tEvI4]; first | (refine dec_split (Q := Q_) (fun hp_ => ?_) (fun hp_ => ?_) <;> first | (exfalso; omega) | (refine hQ_ _ _ ?_; clear hQ_ Q_)) | (refine dec_splitn (Q := Q_) (fun hp_ => ?_) (fun hp_ => ?_) <;> first | (exfalso; omega) | (refine hQ_ _ _ ?_; clear hQ_ Q_)) | (refine hQ_ _ _ ?_; clear hQ_ Q_)))
  | (refine WC_cond fun K_ hK_ => ?_; simp (disch := omega) only [evT_tmp, upd_apply, WB_some, ↓reduceIte, reduceCtorEq, Nat.reduceEqDiff, Nat.reduceLT]; refine hK_ _ ?_; clear hK_ K_)))
    refine endQ_ret _ _ rfl (retc1 (by decide) (by decide) (by simp (disch := first | omega | (simp only [List.length_cons, List.length_nil, List.length_append]; omega)) only [bb, bp, argF, ↓reduceIte, reduceCtorEq, Nat.reduceEqDiff, Nat.reduceLT, Nat.reduceLeDiff, Nat.reduceAdd, Nat.reduceMul, Nat.reduceSub, Nat.reduceBEq, Int.reduceToNat, cond_true, cond_false, eq_self, beq_self_eq_true, loadAgg_X wf, tEvI4]; rfl)) ?_
    simp only [upd_apply, ↓reduceIte, reduceCtorEq, Nat.reduceEqDiff]
    refine WV_flat rfl (by omega) ?_
    exact ⟨rfl, rfl⟩
end Go.Proofs.Ytghondkiondeaab
end

/- EvJ0 -/
section
/-
  LAYER 2: what all statements use.
-/
namespace Go.Proofs.Ytghondkiondeaab
open Go.Ev
set_option maxRecDepth 100000
set_option linter.unusedSimpArgs false
set_option linter.unusedVariables false
set_option maxHeartbeats 2000000

theorem tEvJ0 : type_of% (And.intro (And.intro (And.intro (And.intro (And.intro (@bs_29) (@ia_29)) (And.intro (@sz_29) (@ze_29))) (And.intro (And.intro (@ia_2) (@sz_2)) (And.intro (@ze_2) (@ia_3)))) (And.intro (And.intro (And.intro (@sz_3) (@ia_25)) (And.intro (@sz_25) (@ia_47))) (And.intro (And.intro (@sz_47) (@ia_46)) (And.intro (@sz_46) (And.intro (@ia_22) (@sz_22)))))) (And.intro (And.intro (And.intro (And.intro (@ik_25) (@ik_47)) (And.intro (@ik_46) (@ik_22))) (And.intro (And.intro (@fo_24_0) (@fo_24_1)) (And.intro (@fo_24_2) (And.intro (@ia_24) (@sz_24))))) (And.intro (And.intro (And.intro (@pb_5) (@pb_6)) (And.intro (@pb_7) (@pb_9))) (And.intro (And.intro (@pb_10) (@pb_11)) (And.intro (@pb_12) (And.intro (@pb_13) (@pb_14))))))) := And.intro (And.intro (And.intro (And.intro (And.intro (@bs_29) (@ia_29)) (And.intro (@sz_29) (@ze_29))) (And.intro (And.intro (@ia_2) (@sz_2)) (And.intro (@ze_2) (@ia_3)))) (And.intro (And.intro (And.intro (@sz_3) (@ia_25)) (And.intro (@sz_25) (@ia_47))) (And.intro (And.intro (@sz_47) (@ia_46)) (And.intro (@sz_46) (And.intro (@ia_22) (@sz_22)))))) (And.intro (And.intro (And.intro (And.intro (@ik_25) (@ik_47)) (And.intro (@ik_46) (@ik_22))) (And.intro (And.intro (@fo_24_0) (@fo_24_1)) (And.intro (@fo_24_2) (And.intro (@ia_24) (@sz_24))))) (And.intro (And.intro (And.intro (@pb_5) (@pb_6)) (And.intro (@pb_7) (@pb_9))) (And.intro (And.intro (@pb_10) (@pb_11)) (And.intro (@pb_12) (And.intro (@pb_13) (@pb_14))))))
theorem under29 : ∃ f0 f1 : Field, Try.prog.underlying 29 = some (.struct #[f0, f1]) ∧ f0.offset = 0 ∧ f1.offset = 1 ∧ f0.type = 2 ∧ f1.type = 2 ∧ f0.name ≠ "_" ∧ f1.name ≠ "_" := ⟨_, _, Try.underlying29, rfl, rfl, rfl, rfl, by decide, by decide⟩
theorem eqR {x y : Operand} {a b : Int} : binE Try.prog .eql 29 x y (.agg [ii a, ii b]) (.agg [ii a, ii b]) = some (.bool true) := by
  obtain ⟨f0, f1, hu, o0, o1, t0, t1, n0, n1⟩ := under29
  exact b_eql2_self hu (by rw [t0]; exact Try.underlying2) (by rw [t1]; exact Try.underlying2) o0 o1 n0 n1 (by kernel_rfl) (by kernel_rfl)

theorem works (h : H) : (om Try.prog KK).call (.fn 6 []) h = .ok (.bool true) h := by
  refine om_con (c := cW) (r := []) ?_
  rfl

/-- Has this too many parts? -/
def Great (rows : List (List (Int × Int))) (ys : List (List Int)) : Prop := 14 < rows.length ∨ 14 < ys.length ∨ (∃ row ∈ rows, 12 < row.length) ∨ ∃ y ∈ ys, 12 < y.length
instance (rows : List (List (Int × Int))) (ys : List (List Int)) : Decidable (Great rows ys) := by unfold Great; infer_instance

theorem great (sp st : Int) (a b : AV) (rvs yvs : List AV) (rows : List (List (Int × Int))) (ys : List (List Int)) (h : H) (x : HullR h a rvs rows) (y : YsR h b yvs ys) :
    (om Try.prog KK).call (.fn 5 [.agg [ii sp, ii st, a], b]) h = .ok (.bool (decide (Great rows ys))) h := by
  have wf := x.wf
  refine WV_to (WV_call (fn := Try.f5) Try.func5 rfl rfl rfl rfl rfl ?_)
  simp only [argF]
  have hlen : ∀ h', lenE Try.prog 22 a h' = some (ii (rows.length : Int)) := fun h' => x.sl.len un_22
  have hleny : ∀ h', lenE Try.prog 25 b h' = some (ii (ys.length : Int)) := fun h' => y.sl.len un_25
  by_cases g1 : 14 < rows.length
  · (repeat' (first
  | (with_reducible first | refine WC_seq ?_ | refine WC_skip ?_ | refine WC_label ?_ | refine WC_scope ?_ | refine WC_block ?_ | refine WC_ret ?_ | refine WC_exit ?_ | refine seqQ_norm ?_ | refine seqQ_ret ?_ | refine seqQ_exit ?_ | refine blkQ_norm ?_ | refine blkQ_ret ?_ | refine blkQ_here ?_ | refine gateK_yes ?_ | refine gateK_none ?_ | refine condK_tt ?_ | refine condK_ff ?_ | refine roundQ_exit ?_ | refine roundQ_ret ?_)
  | refine WC_region ?_ | refine blkQ_out rfl ?_ | refine WO_nil ?_ | refine WD_nil ?_
  | ((first | refine WD_gate rfl rfl rfl rfl rfl fun K_ hK_ => ?_ | refine WO_gate rfl rfl rfl rfl rfl fun K_ hK_ => ?_); simp only [upd_apply, asB_bool, asB_tup, ↓reduceIte, reduceCtorEq, Nat.reduceEqDiff, Bool.not_true, Bool.not_false]; refine hK_ _ ?_; clear hK_ K_)
  | refine gateK_no (by decide) ?_
  | ((try first | refine WO_op rfl rfl rfl ?_ | refine WO_op0 rfl rfl ?_ | refine WD_op rfl rfl rfl ?_ | refine WD_op0 rfl rfl ?_); (refine WV_gen fun Q_ hQ_ => ?_; simp (disch := first | omega | (simp only [List.length_cons, List.length_nil, List.length_append]; omega)) only [bb, bp, argF, ↓reduceIte, reduceCtorEq, Nat.reduceEqDiff, Nat.reduceLT, Nat.reduceLeDiff, Nat.reduceAdd, Nat.reduceMul, Nat.reduceSub, Nat.reduceBEq, Int.reduceToNat, cond_true, cond_false, eq_self, beq_self_eq_true, hlen, hleny, newPtr_X wf, load1_X wf, loadAgg_X wf, store1_X wf, writeCells_X wf, makeFunc_def, tEvJ0]; first | (refine dec_split (Q := Q_) (fun hp_ => ?_) (fun hp_ => ?_) <;> first | (exfalso; omega) | (refine hQ_ _ _ ?_; clear hQ_ Q_)) | (refine dec_splitn (Q := Q_) (fun hp_ => ?_) (fun hp_ => ?_) <;> first | (exfalso; omega) | (refine hQ_ _ _ ?_; clear hQ_ Q_)) | (refine hQ_ _ _ ?_; clear hQ_ Q_)))
  | (refine WC_cond fun K_ hK_ => ?_; simp (disch := omega) only [evT_tmp, upd_apply, WB_some, ↓reduceIte, reduceCtorEq, Nat.reduceEqDiff, Nat.reduceLT]; refine hK_ _ ?_; clear hK_ K_)))
    (refine endQ_ret _ _ rfl (ret1 (by decide)) ?_; simp only [upd_apply, ↓reduceIte, reduceCtorEq, Nat.reduceEqDiff]; refine WV_flat rfl (by omega) ?_)
    exact ⟨by rw [decide_eq_true (.inl g1)], rfl⟩
  by_cases g2 : 14 < ys.length
  · (repeat' (first
  | (with_reducible first | refine WC_seq ?_ | refine WC_skip ?_ | refine WC_label ?_ | refine WC_scope ?_ | refine WC_block ?_ | refine WC_ret ?_ | refine WC_exit ?_ | refine seqQ_norm ?_ | refine seqQ_ret ?_ | refine seqQ_exit ?_ | refine blkQ_norm ?_ | refine blkQ_ret ?_ | refine blkQ_here ?_ | refine gateK_yes ?_ | refine gateK_none ?_ | refine condK_tt ?_ | refine condK_ff ?_ | refine roundQ_exit ?_ | refine roundQ_ret ?_)
  | refine WC_region ?_ | refine blkQ_out rfl ?_ | refine WO_nil ?_ | refine WD_nil ?_
  | ((first | refine WD_gate rfl rfl rfl rfl rfl fun K_ hK_ => ?_ | refine WO_gate rfl rfl rfl rfl rfl fun K_ hK_ => ?_); simp only [upd_apply, asB_bool, asB_tup, ↓reduceIte, reduceCtorEq, Nat.reduceEqDiff, Bool.not_true, Bool.not_false]; refine hK_ _ ?_; clear hK_ K_)
  | refine gateK_no (by decide) ?_
  | ((try first | refine WO_op rfl rfl rfl ?_ | refine WO_op0 rfl rfl ?_ | refine WD_op rfl rfl rfl ?_ | refine WD_op0 rfl rfl ?_); (refine WV_gen fun Q_ hQ_ => ?_; simp (disch := first | omega | (simp only [List.length_cons, List.length_nil, List.length_append]; omega)) only [bb, bp, argF, ↓reduceIte, reduceCtorEq, Nat.reduceEqDiff, Nat.reduceLT, Nat.reduceLeDiff, Nat.reduceAdd, Nat.reduceMul, Nat.reduceSub, Nat.reduceBEq, Int.reduceToNat, cond_true, cond_false, eq_self, beq_self_eq_true, hlen, hleny, newPtr_X wf, load1_X wf, loadAgg_X wf, store1_X wf, writeCells_X wf, makeFunc_def, tEvJ0]; first | (refine dec_split (Q := Q_) (fun hp_ => ?_) (fun hp_ => ?_) <;> first | (exfalso; omega) | (refine hQ_ _ _ ?_; clear hQ_ Q_)) | (refine dec_splitn (Q := Q_) (fun hp_ => ?_) (fun hp_ => ?_) <;> first | (exfalso; omega) | (refine hQ_ _ _ ?_; clear hQ_ Q_)) | (refine hQ_ _ _ ?_; clear hQ_ Q_)))
  | (refine WC_cond fun K_ hK_ => ?_; simp (disch := omega) only [evT_tmp, upd_apply, WB_some, ↓reduceIte, reduceCtorEq, Nat.reduceEqDiff, Nat.reduceLT]; refine hK_ _ ?_; clear hK_ K_)))
    (refine endQ_ret _ _ rfl (ret1 (by decide)) ?_; simp only [upd_apply, ↓reduceIte, reduceCtorEq, Nat.reduceEqDiff]; refine WV_flat rfl (by omega) ?_)
    exact ⟨by rw [decide_eq_true (.inr (.inl g2))], rfl⟩
  (repeat' (first
  | (with_reducible first | refine WC_seq ?_ | refine WC_skip ?_ | refine WC_label ?_ | refine WC_scope ?_ | refine WC_block ?_ | refine WC_ret ?_ | refine WC_exit ?_ | refine seqQ_norm ?_ | refine seqQ_ret ?_ | refine seqQ_exit ?_ | refine blkQ_norm ?_ | refine blkQ_ret ?_ | refine blkQ_here ?_ | refine gateK_yes ?_ | refine gateK_none ?_ | refine condK_tt ?_ | refine condK_ff ?_ | refine roundQ_exit ?_ | refine roundQ_ret ?_)
  | refine WC_region ?_ | refine blkQ_out rfl ?_ | refine WO_nil ?_ | refine WD_nil ?_
  | ((first | refine WD_gate rfl rfl rfl rfl rfl fun K_ hK_ => ?_ | refine WO_gate rfl rfl rfl rfl rfl fun K_ hK_ => ?_); simp only [upd_apply, asB_bool, asB_tup, ↓reduceIte, reduceCtorEq, Nat.reduceEqDiff, Bool.not_true, Bool.not_false]; refine hK_ _ ?_; clear hK_ K_)
  | refine gateK_no (by decide) ?_
  | ((try first | refine WO_op rfl rfl rfl ?_ | refine WO_op0 rfl rfl ?_ | refine WD_op rfl rfl rfl ?_ | refine WD_op0 rfl rfl ?_); (refine WV_gen fun Q_ hQ_ => ?_; simp (disch := first | omega | (simp only [List.length_cons, List.length_nil, List.length_append]; omega)) only [bb, bp, argF, ↓reduceIte, reduceCtorEq, Nat.reduceEqDiff, Nat.reduceLT, Nat.reduceLeDiff, Nat.reduceAdd, Nat.reduceMul, Nat.reduceSub, Nat.reduceBEq, Int.reduceToNat, cond_true, cond_false, eq_self, beq_self_eq_true, hlen, hleny, newPtr_X wf, load1_X wf, loadAgg_X wf, store1_X wf, writeCells_X wf, makeFunc_def, tEvJ0]; first | (refine dec_split (Q := Q_) (fun hp_ => ?_) (fun hp_ => ?_) <;> first | (exfalso; omega) | (refine hQ_ _ _ ?_; clear hQ_ Q_)) | (refine dec_splitn (Q := Q_) (fun hp_ => ?_) (fun hp_ => ?_) <;> first | (exfalso; omega) | (refine hQ_ _ _ ?_; clear hQ_ Q_)) | (refine hQ_ _ _ ?_; clear hQ_ Q_)))
  | (refine WC_cond fun K_ hK_ => ?_; simp (disch := omega) only [evT_tmp, upd_apply, WB_some, ↓reduceIte, reduceCtorEq, Nat.reduceEqDiff, Nat.reduceLT]; refine hK_ _ ?_; clear hK_ K_)))
  refine WC_loop (fun (i : Nat) f d h' => i ≤ rows.length ∧ (∀ j, j < i → ∀ hj : j < rows.length, rows[j].length ≤ 12) ∧ f 1 = b ∧ f 2 = .ptr (nx h 0) 0 ∧ f 5 = ii (i : Int) ∧ d = [] ∧ h' = X h [.cells (mkCells [ii sp, ii st, a]) 24] h.clock)
    (fun i => rows.length - i) ?_ (rows.length + 1) 0 (by omega) ?_
  · rintro i f d h' ⟨hi', hall, k1, k2, k5, rfl, rfl⟩
    by_cases hlt : i < rows.length
    · obtain ⟨v, hv, hsv⟩ := x.row i hlt
      obtain ⟨id, off, hix, hld⟩ := x.sl.at1 wf hlt ik_22
      rw [hv] at hld
      have hlenv : ∀ h', lenE Try.prog 46 v h' = some (ii (rows[i].length : Int)) := fun h' => hsv.len un_46
      (repeat' (first
  | (with_reducible first | refine WC_seq ?_ | refine WC_skip ?_ | refine WC_label ?_ | refine WC_scope ?_ | refine WC_block ?_ | refine WC_ret ?_ | refine WC_exit ?_ | refine seqQ_norm ?_ | refine seqQ_ret ?_ | refine seqQ_exit ?_ | refine blkQ_norm ?_ | refine blkQ_ret ?_ | refine blkQ_here ?_ | refine gateK_yes ?_ | refine gateK_none ?_ | refine condK_tt ?_ | refine condK_ff ?_ | refine roundQ_exit ?_ | refine roundQ_ret ?_)
  | refine WC_region ?_ | refine blkQ_out rfl ?_ | refine WO_nil ?_ | refine WD_nil ?_
  | ((first | refine WD_gate rfl rfl rfl rfl rfl fun K_ hK_ => ?_ | refine WO_gate rfl rfl rfl rfl rfl fun K_ hK_ => ?_); simp only [upd_apply, asB_bool, asB_tup, ↓reduceIte, reduceCtorEq, Nat.reduceEqDiff, Bool.not_true, Bool.not_false]; refine hK_ _ ?_; clear hK_ K_)
  | refine gateK_no (by decide) ?_
  | ((try first | refine WO_op rfl rfl rfl ?_ | refine WO_op0 rfl rfl ?_ | refine WD_op rfl rfl rfl ?_ | refine WD_op0 rfl rfl ?_); (refine WV_gen fun Q_ hQ_ => ?_; simp (disch := first | omega | (simp only [List.length_cons, List.length_nil, List.length_append]; omega)) only [bb, bp, argF, ↓reduceIte, reduceCtorEq, Nat.reduceEqDiff, Nat.reduceLT, Nat.reduceLeDiff, Nat.reduceAdd, Nat.reduceMul, Nat.reduceSub, Nat.reduceBEq, Int.reduceToNat, cond_true, cond_false, eq_self, beq_self_eq_true, k1, k2, k5, hlen, hix, hld, hlenv, newPtr_X wf, load1_X wf, loadAgg_X wf, store1_X wf, writeCells_X wf, makeFunc_def, tEvJ0]; first | (refine dec_split (Q := Q_) (fun hp_ => ?_) (fun hp_ => ?_) <;> first | (exfalso; omega) | (refine hQ_ _ _ ?_; clear hQ_ Q_)) | (refine dec_splitn (Q := Q_) (fun hp_ => ?_) (fun hp_ => ?_) <;> first | (exfalso; omega) | (refine hQ_ _ _ ?_; clear hQ_ Q_)) | (refine hQ_ _ _ ?_; clear hQ_ Q_)))
  | (refine WC_cond fun K_ hK_ => ?_; simp (disch := omega) only [evT_tmp, upd_apply, WB_some, ↓reduceIte, reduceCtorEq, Nat.reduceEqDiff, Nat.reduceLT]; refine hK_ _ ?_; clear hK_ K_)))
      · (refine endQ_ret _ _ rfl (ret1 (by decide)) ?_; simp only [upd_apply, ↓reduceIte, reduceCtorEq, Nat.reduceEqDiff]; refine WV_flat rfl (by omega) ?_)
        exact ⟨by rw [decide_eq_true (.inr (.inr (.inl ⟨rows[i], List.getElem_mem _, by omega⟩)))], rfl⟩
      · refine roundQ_again (i + 1) (by omega) ⟨hlt, ?_, by simp only [upd_apply, ↓reduceIte, reduceCtorEq, Nat.reduceEqDiff]; exact k1, by simp only [upd_apply, ↓reduceIte, reduceCtorEq, Nat.reduceEqDiff]; exact k2, by simp only [upd_apply, ↓reduceIte, reduceCtorEq, Nat.reduceEqDiff]; rfl, rfl, rfl⟩
        intro j hj hjl
        by_cases hji : j = i
        · subst hji; omega
        · exact hall j (by omega) hjl
    · have hie : i = rows.length := by omega
      subst hie
      (repeat' (first
  | (with_reducible first | refine WC_seq ?_ | refine WC_skip ?_ | refine WC_label ?_ | refine WC_scope ?_ | refine WC_block ?_ | refine WC_ret ?_ | refine WC_exit ?_ | refine seqQ_norm ?_ | refine seqQ_ret ?_ | refine seqQ_exit ?_ | refine blkQ_norm ?_ | refine blkQ_ret ?_ | refine blkQ_here ?_ | refine gateK_yes ?_ | refine gateK_none ?_ | refine condK_tt ?_ | refine condK_ff ?_ | refine roundQ_exit ?_ | refine roundQ_ret ?_)
  | refine WC_region ?_ | refine blkQ_out rfl ?_ | refine WO_nil ?_ | refine WD_nil ?_
  | ((first | refine WD_gate rfl rfl rfl rfl rfl fun K_ hK_ => ?_ | refine WO_gate rfl rfl rfl rfl rfl fun K_ hK_ => ?_); simp only [upd_apply, asB_bool, asB_tup, ↓reduceIte, reduceCtorEq, Nat.reduceEqDiff, Bool.not_true, Bool.not_false]; refine hK_ _ ?_; clear hK_ K_)
  | refine gateK_no (by decide) ?_
  | ((try first | refine WO_op rfl rfl rfl ?_ | refine WO_op0 rfl rfl ?_ | refine WD_op rfl rfl rfl ?_ | refine WD_op0 rfl rfl ?_); (refine WV_gen fun Q_ hQ_ => ?_; simp (disch := first | omega | (simp only [List.length_cons, List.length_nil, List.length_append]; omega)) only [bb, bp, argF, ↓reduceIte, reduceCtorEq, Nat.reduceEqDiff, Nat.reduceLT, Nat.reduceLeDiff, Nat.reduceAdd, Nat.reduceMul, Nat.reduceSub, Nat.reduceBEq, Int.reduceToNat, cond_true, cond_false, eq_self, beq_self_eq_true, k1, k2, k5, hlen, hleny, newPtr_X wf, load1_X wf, loadAgg_X wf, store1_X wf, writeCells_X wf, makeFunc_def, tEvJ0]; first | (refine dec_split (Q := Q_) (fun hp_ => ?_) (fun hp_ => ?_) <;> first | (exfalso; omega) | (refine hQ_ _ _ ?_; clear hQ_ Q_)) | (refine dec_splitn (Q := Q_) (fun hp_ => ?_) (fun hp_ => ?_) <;> first | (exfalso; omega) | (refine hQ_ _ _ ?_; clear hQ_ Q_)) | (refine hQ_ _ _ ?_; clear hQ_ Q_)))
  | (refine WC_cond fun K_ hK_ => ?_; simp (disch := omega) only [evT_tmp, upd_apply, WB_some, ↓reduceIte, reduceCtorEq, Nat.reduceEqDiff, Nat.reduceLT]; refine hK_ _ ?_; clear hK_ K_)))
      refine WC_loop (fun (i : Nat) f d h' => i ≤ ys.length ∧ (∀ j, j < i → ∀ hj : j < ys.length, ys[j].length ≤ 12) ∧ f 1 = b ∧ f 6 = ii (i : Int) ∧ d = [] ∧ h' = X h [.cells (mkCells [ii sp, ii st, a]) 24] h.clock)
        (fun i => ys.length - i) ?_ (ys.length + 1) 0 (by omega) ?_
      · clear k2 k5
        rintro i f d h' ⟨hi', hally, k1, k6, rfl, rfl⟩
        by_cases hlt : i < ys.length
        · obtain ⟨v, hv, hsv, hcap⟩ := y.row i hlt
          obtain ⟨id, off, hix, hld⟩ := y.sl.at1 wf hlt ik_25
          rw [hv] at hld
          have hlenv : ∀ h', lenE Try.prog 47 v h' = some (ii (ys[i].length : Int)) := fun h' => hsv.len un_47
          (repeat' (first
  | (with_reducible first | refine WC_seq ?_ | refine WC_skip ?_ | refine WC_label ?_ | refine WC_scope ?_ | refine WC_block ?_ | refine WC_ret ?_ | refine WC_exit ?_ | refine seqQ_norm ?_ | refine seqQ_ret ?_ | refine seqQ_exit ?_ | refine blkQ_norm ?_ | refine blkQ_ret ?_ | refine blkQ_here ?_ | refine gateK_yes ?_ | refine gateK_none ?_ | refine condK_tt ?_ | refine condK_ff ?_ | refine roundQ_exit ?_ | refine roundQ_ret ?_)
  | refine WC_region ?_ | refine blkQ_out rfl ?_ | refine WO_nil ?_ | refine WD_nil ?_
  | ((first | refine WD_gate rfl rfl rfl rfl rfl fun K_ hK_ => ?_ | refine WO_gate rfl rfl rfl rfl rfl fun K_ hK_ => ?_); simp only [upd_apply, asB_bool, asB_tup, ↓reduceIte, reduceCtorEq, Nat.reduceEqDiff, Bool.not_true, Bool.not_false]; refine hK_ _ ?_; clear hK_ K_)
  | refine gateK_no (by decide) ?_
  | ((try first | refine WO_op rfl rfl rfl ?_ | refine WO_op0 rfl rfl ?_ | refine WD_op rfl rfl rfl ?_ | refine WD_op0 rfl rfl ?_); (refine WV_gen fun Q_ hQ_ => ?_; simp (disch := first | omega | (simp only [List.length_cons, List.length_nil, List.length_append]; omega)) only [bb, bp, argF, ↓reduceIte, reduceCtorEq, Nat.reduceEqDiff, Nat.reduceLT, Nat.reduceLeDiff, Nat.reduceAdd, Nat.reduceMul, Nat.reduceSub, Nat.reduceBEq, Int.reduceToNat, cond_true, cond_false, eq_self, beq_self_eq_true, k1, k6, hleny, hix, hld, hlenv, newPtr_X wf, load1_X wf, loadAgg_X wf, store1_X wf, writeCells_X wf, makeFunc_def, tEvJ0]; first | (refine dec_split (Q := Q_) (fun hp_ => ?_) (fun hp_ => ?_) <;> first | (exfalso; omega) | (refine hQ_ _ _ ?_; clear hQ_ Q_)) | (refine dec_splitn (Q := Q_) (fun hp_ => ?_) (fun hp_ => ?_) <;> first | (exfalso; omega) | (refine hQ_ _ _ ?_; clear hQ_ Q_)) | (refine hQ_ _ _ ?_; clear hQ_ Q_)))
  | (refine WC_cond fun K_ hK_ => ?_; simp (disch := omega) only [evT_tmp, upd_apply, WB_some, ↓reduceIte, reduceCtorEq, Nat.reduceEqDiff, Nat.reduceLT]; refine hK_ _ ?_; clear hK_ K_)))
          · (refine endQ_ret _ _ rfl (ret1 (by decide)) ?_; simp only [upd_apply, ↓reduceIte, reduceCtorEq, Nat.reduceEqDiff]; refine WV_flat rfl (by omega) ?_)
            exact ⟨by rw [decide_eq_true (.inr (.inr (.inr ⟨ys[i], List.getElem_mem _, by omega⟩)))], rfl⟩
          · refine roundQ_again (i + 1) (by omega) ⟨hlt, ?_, by simp only [upd_apply, ↓reduceIte, reduceCtorEq, Nat.reduceEqDiff]; exact k1, by simp only [upd_apply, ↓reduceIte, reduceCtorEq, Nat.reduceEqDiff]; rfl, rfl, rfl⟩
            intro j hj hjl
            by_cases hji : j = i
            · subst hji; omega
            · exact hally j (by omega) hjl
        · have hie : i = ys.length := by omega
          subst hie
          (repeat' (first
  | (with_reducible first | refine WC_seq ?_ | refine WC_skip ?_ | refine WC_label ?_ | refine WC_scope ?_ | refine WC_block ?_ | refine WC_ret ?_ | refine WC_exit ?_ | refine seqQ_norm ?_ | refine seqQ_ret ?_ | refine seqQ_exit ?_ | refine blkQ_norm ?_ | refine blkQ_ret ?_ | refine blkQ_here ?_ | refine gateK_yes ?_ | refine gateK_none ?_ | refine condK_tt ?_ | refine condK_ff ?_ | refine roundQ_exit ?_ | refine roundQ_ret ?_)
  | refine WC_region ?_ | refine blkQ_out rfl ?_ | refine WO_nil ?_ | refine WD_nil ?_
  | ((first | refine WD_gate rfl rfl rfl rfl rfl fun K_ hK_ => ?_ | refine WO_gate rfl rfl rfl rfl rfl fun K_ hK_ => ?_); simp only [upd_apply, asB_bool, asB_tup, ↓reduceIte, reduceCtorEq, Nat.reduceEqDiff, Bool.not_true, Bool.not_false]; refine hK_ _ ?_; clear hK_ K_)
  | refine gateK_no (by decide) ?_
  | ((try first | refine WO_op rfl rfl rfl ?_ | refine WO_op0 rfl rfl ?_ | refine WD_op rfl rfl rfl ?_ | refine WD_op0 rfl rfl ?_); (refine WV_gen fun Q_ hQ_ => ?_; simp (disch := first | omega | (simp only [List.length_cons, List.length_nil, List.length_append]; omega)) only [bb, bp, argF, ↓reduceIte, reduceCtorEq, Nat.reduceEqDiff, Nat.reduceLT, Nat.reduceLeDiff, Nat.reduceAdd, Nat.reduceMul, Nat.reduceSub, Nat.reduceBEq, Int.reduceToNat, cond_true, cond_false, eq_self, beq_self_eq_true, k1, k6, hleny, newPtr_X wf, load1_X wf, loadAgg_X wf, store1_X wf, writeCells_X wf, makeFunc_def, tEvJ0]; first | (refine dec_split (Q := Q_) (fun hp_ => ?_) (fun hp_ => ?_) <;> first | (exfalso; omega) | (refine hQ_ _ _ ?_; clear hQ_ Q_)) | (refine dec_splitn (Q := Q_) (fun hp_ => ?_) (fun hp_ => ?_) <;> first | (exfalso; omega) | (refine hQ_ _ _ ?_; clear hQ_ Q_)) | (refine hQ_ _ _ ?_; clear hQ_ Q_)))
  | (refine WC_cond fun K_ hK_ => ?_; simp (disch := omega) only [evT_tmp, upd_apply, WB_some, ↓reduceIte, reduceCtorEq, Nat.reduceEqDiff, Nat.reduceLT]; refine hK_ _ ?_; clear hK_ K_)))
          (refine endQ_ret _ _ rfl (ret1 (by decide)) ?_; simp only [upd_apply, ↓reduceIte, reduceCtorEq, Nat.reduceEqDiff]; refine WV_flat rfl (by omega) ?_)
          refine ⟨?_, rfl⟩
          rw [decide_eq_false]
          rintro (h1 | h1 | ⟨row, h1, h2⟩ | ⟨yy, h1, h2⟩)
          · exact g1 h1
          · exact g2 h1
          · obtain ⟨j, hj, rfl⟩ := List.getElem_of_mem h1
            have := hall j hj hj
            omega
          · obtain ⟨j, hj, rfl⟩ := List.getElem_of_mem h1
            have := hally j hj hj
            omega
      · exact ⟨Nat.zero_le _, fun j hj => absurd hj (Nat.not_lt_zero j), by simp only [upd_apply, ↓reduceIte, reduceCtorEq, Nat.reduceEqDiff]; exact k1, by simp only [upd_apply, ↓reduceIte, reduceCtorEq, Nat.reduceEqDiff]; (try rfl), rfl, rfl⟩
  · exact ⟨Nat.zero_le _, fun j hj => absurd hj (Nat.not_lt_zero j), by simp only [upd_apply, ↓reduceIte, reduceCtorEq, Nat.reduceEqDiff], by simp only [upd_apply, ↓reduceIte, reduceCtorEq, Nat.reduceEqDiff], by simp only [upd_apply, ↓reduceIte, reduceCtorEq, Nat.reduceEqDiff]; (try rfl), rfl, rfl⟩

end Go.Proofs.Ytghondkiondeaab
end

/- EvY -/
section
/-
  THE CLOSED PART OF LAYER 2, RUN BY THE KERNEL.
-/
namespace Go.Proofs.Ytghondkiondeaab
open Go.Ev
set_option maxRecDepth 100000
set_option maxHeartbeats 0
theorem mixed : Try.prog.follows .mixedOrders = true := Checked.mixed Try.checked
theorem cW_run : chk cW ((evc Try.prog [] 100000).call (.fn cW.g cW.args) (smallH cW.tb)) = true := by kernel_rfl
theorem cW_ok : ConOK Try.prog cW := con_run (P := Try.prog) mixed (cons := []) (n := 100000) (c := cW) (fun _ h => by cases h) cW_run
end Go.Proofs.Ytghondkiondeaab
end

/- EvJh -/
section
/-
  LAYER 2: hulls and offsets that come in.
-/
namespace Go.Proofs.Ytghondkiondeaab
open Go.ChangeShapes Go.WideShapes Go.ChangeAt Go.RowKit Go.Ev
set_option maxRecDepth 100000
set_option maxHeartbeats 0

theorem own : ownKnob Try.prog.godebug = none := by kernel_rfl
theorem laidOut : laidOutB Try.prog = true := by kernel_rfl
theorem cells2 : Try.prog.cellsOf 2 = 1 := by kernel_rfl
theorem cells22 : Try.prog.cellsOf 22 = 1 := by kernel_rfl
theorem cells24 : Try.prog.cellsOf 24 = 3 := by kernel_rfl
theorem cells46 : Try.prog.cellsOf 46 = 1 := by kernel_rfl
theorem cells70 : Try.prog.cellsOf 70 = 2 := by kernel_rfl
theorem types24 : Try.prog.cellTypes Try.prog.depth 24 = some [2, 2, 22] := by kernel_rfl
theorem under24 : ∃ f0 f1 f2 : Field, Try.prog.underlying 24 = some (.struct #[f0, f1, f2]) ∧ f0.offset = 0 ∧ f1.offset = 1 ∧ f2.offset = 2 ∧ f0.type = 2 ∧ f1.type = 2 ∧ f2.type = 22 := ⟨_, _, _, Try.underlying24, rfl, rfl, rfl, rfl, rfl, rfl⟩
theorem under70 : ∃ f0 f1 : Field, Try.prog.underlying 70 = some (.struct #[f0, f1]) ∧ f0.offset = 0 ∧ f1.offset = 1 ∧ f0.type = 2 ∧ f1.type = 2 := ⟨_, _, Try.underlying70, rfl, rfl, rfl, rfl⟩

section
variable {H : Type} {enc : TypeId × Value → H} {r : Reach} {bs : Nat}
/-- A hull that came in. -/
theorem hull_in {W : World} {v : Value} {fuel : Nat} {x : DataW H × List MemPlace} (hval : Value.okWide Try.prog W r bs 24 v) (h : DataW.trod enc Try.prog W 0 (fun _ => true) true fuel 24 v.cells.toList = some x) :
    ∃ sp st a rvs rows, VR (startWR W) (.agg [ii sp, ii st, a]) v ∧ HullR (startW W) a rvs rows := by
  obtain ⟨f0, f1, f2, hu, o0, o1, o2, t0, t1, t2⟩ := under24
  obtain ⟨g0, g1, hg, p0, p1, q0, q1⟩ := under70
  obtain ⟨u, w, z, n, y1, y2, y3, rfl, k0, k1, k2, r0, r1, r2⟩ := open_three hu cells24 o0 o1 o2 t0 t1 t2 cells2 cells2 cells22 types24 hval h
  obtain ⟨sp, h1, _⟩ := DataW.trod_int Try.underlying2 r0
  cases h1
  obtain ⟨st, h2, _⟩ := DataW.trod_int Try.underlying2 r1
  cases h2
  obtain ⟨rows, vs, a, va, ca, sa, hrow⟩ := open_rows (α := List (Int × Int)) (R := fun u row => Row (startW W) u 2 row.length (pairCells row)) Try.underlying22 cells46 k2 r2 (fun u n y hy => by
    obtain ⟨sp, b, h1, h2, h3⟩ := open_row_pairs Try.underlying46 hg cells70 p0 p1 q0 q1 Try.underlying2 cells2 hy
    exact ⟨sp, b, h1, h3⟩)
  exact ⟨sp, st, a, vs, rows, .agg _ _ (.cons _ _ _ _ (.int _ _) (.cons _ _ _ _ (.int _ _) (.cons _ _ _ _ va .nil))), startW_wf W, sa, hrow⟩
end

end Go.Proofs.Ytghondkiondeaab
end

/- EvK1 -/
section
/-
  LAYER 2: how far beyond a number the offsets of a place can be.
-/
namespace Go.Proofs.Ytghondkiondeaab
open Go.Ev
set_option maxRecDepth 100000
set_option linter.unusedSimpArgs false
set_option linter.unusedVariables false
set_option maxHeartbeats 2000000

theorem tEvK1 : type_of% (And.intro (And.intro (And.intro (And.intro (@bs_91) (And.intro (@ia_91) (@sz_91))) (And.intro (And.intro (@ze_91) (@fo_91_0)) (And.intro (@fo_91_1) (@ia_62)))) (And.intro (And.intro (And.intro (@sz_62) (@ia_2)) (And.intro (@sz_2) (@ze_2))) (And.intro (And.intro (@ia_3) (@sz_3)) (And.intro (@ia_4) (@sz_4))))) (And.intro (And.intro (And.intro (@ia_75) (And.intro (@sz_75) (@ze_75))) (And.intro (And.intro (@fo_75_0) (@fo_75_1)) (And.intro (@fo_75_2) (@fo_75_3)))) (And.intro (And.intro (And.intro (@fo_70_0) (@fo_70_1)) (And.intro (@ia_29) (@sz_29))) (And.intro (And.intro (@fo_29_0) (@fo_29_1)) (And.intro (@pb_55) (@pb_56)))))) := And.intro (And.intro (And.intro (And.intro (@bs_91) (And.intro (@ia_91) (@sz_91))) (And.intro (And.intro (@ze_91) (@fo_91_0)) (And.intro (@fo_91_1) (@ia_62)))) (And.intro (And.intro (And.intro (@sz_62) (@ia_2)) (And.intro (@sz_2) (@ze_2))) (And.intro (And.intro (@ia_3) (@sz_3)) (And.intro (@ia_4) (@sz_4))))) (And.intro (And.intro (And.intro (@ia_75) (And.intro (@sz_75) (@ze_75))) (And.intro (And.intro (@fo_75_0) (@fo_75_1)) (And.intro (@fo_75_2) (@fo_75_3)))) (And.intro (And.intro (And.intro (@fo_70_0) (@fo_70_1)) (And.intro (@ia_29) (@sz_29))) (And.intro (And.intro (@fo_29_0) (@fo_29_1)) (And.intro (@pb_55) (@pb_56)))))
/-- How far a share is beyond a number. -/
def gapOf (g : Nat) (sp st : Int) (m i k : Nat) (w N D y : Int) : Int := numOf g sp st m i k w y * D - denOf g st w y * N
def sgn (high : Bool) (x : Int) : Int := if high then x else -x
/-- The greatest value, from lo on. -/
def mxf (f : Int → Int) (lo : Int) : Nat → Int
  | 0 => f lo
  | j + 1 => max (mxf f lo j) (f (lo + ((j + 1 : Nat) : Int)))
def amx (f : Int → Int) (lo : Int) : Nat → Int
  | 0 => lo
  | j + 1 => if mxf f lo j < f (lo + ((j + 1 : Nat) : Int)) then lo + ((j + 1 : Nat) : Int) else amx f lo j

theorem numOf_in2 {g : Nat} (hg : g = 47 ∨ g = 48 ∨ g = 49) {sp st : Int} (hsp : 1 ≤ sp ∧ sp ≤ 1000) (hst : 1 ≤ st ∧ st ≤ 100) {m i k : Nat} (hm : m ≤ 6) (hi9 : i < 10) (hk9 : k < m) {w y : Int} (hw : 0 ≤ w ∧ w ≤ 4) (hy : 0 ≤ y ∧ y ≤ 500) :
    (0 ≤ numOf g sp st m i k w y ∧ numOf g sp st m i k w y ≤ 1300000000) ∧ 0 ≤ denOf g st w y ∧ denOf g st w y ≤ 600000 := by
  have h1 := mul_bd (a := st) (b := (k : Int)) (x := 100) (y := 5) ⟨by omega, by omega⟩ ⟨by omega, by omega⟩
  have h2 := mul_bd h1 hw
  have h3 := mul_bd h2 hy
  have h4 := mul_bd hw hy
  have h5 := mul_bd (a := 3 * st) (x := 300) ⟨by omega, by omega⟩ h3
  have h6 := mul_bd (a := 3 * st) (x := 300) ⟨by omega, by omega⟩ h4
  have h7 := mul_bd (a := 2 * w) (x := 8) ⟨by omega, by omega⟩ hy
  have h8 := mul_bd h7 hy
  have h9 := mul_bd h8 hy
  have h11 := mul_bd (a := sp) (b := (i : Int)) (x := 1000) (y := 9) ⟨by omega, by omega⟩ ⟨by omega, by omega⟩
  have h12 := mul_bd h11 hw
  have h13 := mul_bd h12 hy
  rcases hg with rfl | rfl | rfl
  · simp only [numOf, denOf, Nat.reduceEqDiff, ↓reduceIte]; omega
  · simp only [numOf, denOf, Nat.reduceEqDiff, ↓reduceIte]; omega
  · simp only [numOf, denOf, Nat.reduceEqDiff, ↓reduceIte]
    split <;> omega
theorem gap_in {g : Nat} (hg : g = 47 ∨ g = 48 ∨ g = 49) {sp st : Int} (hsp : 1 ≤ sp ∧ sp ≤ 1000) (hst : 1 ≤ st ∧ st ≤ 100) {m i k : Nat} (hm : m ≤ 6) (hi9 : i < 10) (hk9 : k < m) {w y : Int} (hw : 0 ≤ w ∧ w ≤ 4) (hy : 0 ≤ y ∧ y ≤ 500) {N D : Int} (hN : 0 ≤ N ∧ N ≤ 100000000000) (hD : 1 ≤ D ∧ D ≤ 100000000) :
    -130000000000000000 ≤ gapOf g sp st m i k w N D y ∧ gapOf g sp st m i k w N D y ≤ 130000000000000000 := by
  obtain ⟨h1, h2⟩ := numOf_in2 hg hsp hst hm hi9 hk9 hw hy
  have h3 := mul_bd h1 (b := D) (y := 100000000) ⟨by omega, hD.2⟩
  have h4 := mul_bd h2 hN
  unfold gapOf
  omega

theorem clos {g : Nat} (hg : g = 47 ∨ g = 48 ∨ g = 49) (sp st : Int) (hsp : 1 ≤ sp ∧ sp ≤ 1000) (hst : 1 ≤ st ∧ st ≤ 100) (a : AV) (lo hi : Int) (rvs : List AV) (rows : List (List (Int × Int))) (i k m : Nat) (hm : 2 ≤ m ∧ m ≤ 6) (hi9 : i < 10) (hk9 : k < m) (w y : Int) (hw : 0 ≤ w ∧ w ≤ 4) (hy : 0 ≤ y ∧ y ≤ 500)
    (N D : Int) (hN : 0 ≤ N ∧ N ≤ 100000000000) (hD : 1 ≤ D ∧ D ≤ 100000000) (high : Bool) {h : H} (x : HullAt h a rvs rows m) (hn : 0 < rows.length) {L : List AO} {w' A B C E : Nat} (hw' : w' ≤ h.clock + L.length)
    (hA : L[A]? = some (.cells (mkCells [.fn g [.agg [ii sp, ii st, a]] []]) 62)) (hB : L[B]? = some (.cells (mkCells [ii lo, ii hi, ii (i : Int), ii (k : Int), ii w]) 75)) (hC : L[C]? = some (.cells (mkCells [ii N, ii D]) 29)) (hE : L[E]? = some (.cells (mkCells [.bool high]) 4)) :
    (om Try.prog KK).call (.fn 56 [ii y, .ptr (nx h A) 0, .ptr (nx h B) 0, .ptr (nx h C) 0, .ptr (nx h E) 0]) (X h L w') = .ok (ii (sgn high (gapOf g sp st m i k w N D y))) (X h L w') := by
  have wf0 := x.wf
  have get : ∀ {q o}, L[q]? = some o → ∀ l : List AO, (L ++ l)[q]? = some o := fun {q o} hq l => by rw [List.getElem?_append_left (lt_of_get hq), hq]
  have hlA : ∀ l w, load1 (nx h A) 0 (X (X h L w') l w) = some (.fn g [.agg [ii sp, ii st, a]] []) := fun l w => by rw [X_X, load1_X wf0, get hA]; rfl
  have hlB : ∀ l u, loadAgg (nx h B) 0 (some 5) (X (X h L w') l u) = some (.agg [ii lo, ii hi, ii (i : Int), ii (k : Int), ii w]) := fun l u => by rw [X_X, loadAgg_X wf0, get hB, aggAt_cells (by decide)]; rfl
  have hlC0 : ∀ l w, load1 (nx h C) 0 (X (X h L w') l w) = some (ii N) := fun l w => by rw [X_X, load1_X wf0, get hC]; rfl
  have hlC1 : ∀ l w, load1 (nx h C) 1 (X (X h L w') l w) = some (ii D) := fun l w => by rw [X_X, load1_X wf0, get hC]; rfl
  have hlE : ∀ l w, load1 (nx h E) 0 (X (X h L w') l w) = some (.bool high) := fun l w => by rw [X_X, load1_X wf0, get hE]; rfl
  have xb := x.up L w' hw'
  have hsh := share hg sp st hsp hst a (ii lo) (ii hi) rvs rows i k m hm hi9 hk9 w y hw hy (X h L w') xb hn rfl rfl rfl rfl
  have hpb : plainB Try.prog g = true := by rcases hg with rfl | rfl | rfl <;> first | exact pb_47 | exact pb_48 | exact pb_49
  obtain ⟨h1, h2⟩ := numOf_in2 hg hsp hst hm.2 hi9 hk9 hw hy
  have h3 := mul_bd h1 (b := D) (y := 100000000) ⟨by omega, hD.2⟩
  have h4 := mul_bd h2 hN
  have wf := xb.wf
  clear hA hB hC hE get
  generalize X h L w' = hb at *
  generalize nx h A = pA at *
  generalize nx h B = pB at *
  generalize nx h C = pC at *
  generalize nx h E = pE at *
  refine WV_to (WV_call (fn := Try.f56) Try.func56 rfl rfl rfl rfl rfl ?_)
  simp only [argF]
  cases high
  · (repeat' (first
  | (with_reducible first | refine WC_seq ?_ | refine WC_skip ?_ | refine WC_label ?_ | refine WC_scope ?_ | refine WC_block ?_ | refine WC_ret ?_ | refine WC_exit ?_ | refine seqQ_norm ?_ | refine seqQ_ret ?_ | refine seqQ_exit ?_ | refine blkQ_norm ?_ | refine blkQ_ret ?_ | refine blkQ_here ?_ | refine gateK_yes ?_ | refine gateK_none ?_ | refine condK_tt ?_ | refine condK_ff ?_ | refine roundQ_exit ?_ | refine roundQ_ret ?_)
  | refine WC_region ?_ | refine blkQ_out rfl ?_ | refine WO_nil ?_ | refine WD_nil ?_
  | ((first | refine WD_gate rfl rfl rfl rfl rfl fun K_ hK_ => ?_ | refine WO_gate rfl rfl rfl rfl rfl fun K_ hK_ => ?_); simp only [upd_apply, asB_bool, asB_tup, ↓reduceIte, reduceCtorEq, Nat.reduceEqDiff, Bool.not_true, Bool.not_false]; refine hK_ _ ?_; clear hK_ K_)
  | refine gateK_no (by decide) ?_
  | ((try first | refine WO_op rfl rfl rfl ?_ | refine WO_op0 rfl rfl ?_ | refine WD_op rfl rfl rfl ?_ | refine WD_op0 rfl rfl ?_); (refine WV_gen fun Q_ hQ_ => ?_; simp (disch := first | omega | (simp only [List.length_cons, List.length_nil, List.length_append]; omega)) only [bb, bp, argF, ↓reduceIte, reduceCtorEq, Nat.reduceEqDiff, Nat.reduceLT, Nat.reduceLeDiff, Nat.reduceAdd, Nat.reduceMul, Nat.reduceSub, Nat.reduceBEq, Int.reduceToNat, cond_true, cond_false, eq_self, beq_self_eq_true, hlA, hlB, hlC0, hlC1, hlE, hsh, hpb, callV_fn, unE_neg, newPtr_X wf, load1_X wf, loadAgg_X wf, store1_X wf, writeCells_X wf, makeFunc_def, tEvK1]; first | (refine dec_split (Q := Q_) (fun hp_ => ?_) (fun hp_ => ?_) <;> first | (exfalso; omega) | (refine hQ_ _ _ ?_; clear hQ_ Q_)) | (refine dec_splitn (Q := Q_) (fun hp_ => ?_) (fun hp_ => ?_) <;> first | (exfalso; omega) | (refine hQ_ _ _ ?_; clear hQ_ Q_)) | (refine hQ_ _ _ ?_; clear hQ_ Q_)))
  | (refine WC_cond fun K_ hK_ => ?_; simp (disch := omega) only [evT_tmp, upd_apply, WB_some, ↓reduceIte, reduceCtorEq, Nat.reduceEqDiff, Nat.reduceLT]; refine hK_ _ ?_; clear hK_ K_)))
    (refine endQ_ret _ _ rfl (ret1 (by decide)) ?_; simp only [upd_apply, ↓reduceIte, reduceCtorEq, Nat.reduceEqDiff]; refine WV_flat rfl (by omega) ?_)
    refine ⟨?_, rfl⟩
    simp [sgn, gapOf]
  · (repeat' (first
  | (with_reducible first | refine WC_seq ?_ | refine WC_skip ?_ | refine WC_label ?_ | refine WC_scope ?_ | refine WC_block ?_ | refine WC_ret ?_ | refine WC_exit ?_ | refine seqQ_norm ?_ | refine seqQ_ret ?_ | refine seqQ_exit ?_ | refine blkQ_norm ?_ | refine blkQ_ret ?_ | refine blkQ_here ?_ | refine gateK_yes ?_ | refine gateK_none ?_ | refine condK_tt ?_ | refine condK_ff ?_ | refine roundQ_exit ?_ | refine roundQ_ret ?_)
  | refine WC_region ?_ | refine blkQ_out rfl ?_ | refine WO_nil ?_ | refine WD_nil ?_
  | ((first | refine WD_gate rfl rfl rfl rfl rfl fun K_ hK_ => ?_ | refine WO_gate rfl rfl rfl rfl rfl fun K_ hK_ => ?_); simp only [upd_apply, asB_bool, asB_tup, ↓reduceIte, reduceCtorEq, Nat.reduceEqDiff, Bool.not_true, Bool.not_false]; refine hK_ _ ?_; clear hK_ K_)
  | refine gateK_no (by decide) ?_
  | ((try first | refine WO_op rfl rfl rfl ?_ | refine WO_op0 rfl rfl ?_ | refine WD_op rfl rfl rfl ?_ | refine WD_op0 rfl rfl ?_); (refine WV_gen fun Q_ hQ_ => ?_; simp (disch := first | omega | (simp only [List.length_cons, List.length_nil, List.length_append]; omega)) only [bb, bp, argF, ↓reduceIte, reduceCtorEq, Nat.reduceEqDiff, Nat.reduceLT, Nat.reduceLeDiff, Nat.reduceAdd, Nat.reduceMul, Nat.reduceSub, Nat.reduceBEq, Int.reduceToNat, cond_true, cond_false, eq_self, beq_self_eq_true, hlA, hlB, hlC0, hlC1, hlE, hsh, hpb, callV_fn, newPtr_X wf, load1_X wf, loadAgg_X wf, store1_X wf, writeCells_X wf, makeFunc_def, tEvK1]; first | (refine dec_split (Q := Q_) (fun hp_ => ?_) (fun hp_ => ?_) <;> first | (exfalso; omega) | (refine hQ_ _ _ ?_; clear hQ_ Q_)) | (refine dec_splitn (Q := Q_) (fun hp_ => ?_) (fun hp_ => ?_) <;> first | (exfalso; omega) | (refine hQ_ _ _ ?_; clear hQ_ Q_)) | (refine hQ_ _ _ ?_; clear hQ_ Q_)))
  | (refine WC_cond fun K_ hK_ => ?_; simp (disch := omega) only [evT_tmp, upd_apply, WB_some, ↓reduceIte, reduceCtorEq, Nat.reduceEqDiff, Nat.reduceLT]; refine hK_ _ ?_; clear hK_ K_)))
    (refine endQ_ret _ _ rfl (ret1 (by decide)) ?_; simp only [upd_apply, ↓reduceIte, reduceCtorEq, Nat.reduceEqDiff]; refine WV_flat rfl (by omega) ?_)
    exact ⟨rfl, rfl⟩

theorem best (lo hi : Int) (n : Nat) (hlo : 0 ≤ lo) (hhi : hi = lo + (n : Int)) (h500 : hi ≤ 500) (i k w : AV) (F : Int → Int) (caps : List AV) (h : H) (wf : Wf h)
    (hcl : ∀ y, lo ≤ y → y ≤ hi → ∀ l w, w ≤ h.clock + l.length → (om Try.prog KK).call (.fn 56 (ii y :: caps)) (X h l w) = .ok (ii (F y)) (X h l w)) :
    (om Try.prog KK).call (.fn 55 [.agg [ii lo, ii hi, i, k, w], .fn 56 [] caps]) h = .ok (.tup [ii (amx F lo n), ii (mxf F lo n)]) h := by
  refine WV_to (WV_call (fn := Try.f55) Try.func55 rfl rfl rfl rfl rfl ?_)
  simp only [argF]
  have hc0 := hcl lo (Int.le_refl _) (by omega)
  (repeat' (first
  | (with_reducible first | refine WC_seq ?_ | refine WC_skip ?_ | refine WC_label ?_ | refine WC_scope ?_ | refine WC_block ?_ | refine WC_ret ?_ | refine WC_exit ?_ | refine seqQ_norm ?_ | refine seqQ_ret ?_ | refine seqQ_exit ?_ | refine blkQ_norm ?_ | refine blkQ_ret ?_ | refine blkQ_here ?_ | refine gateK_yes ?_ | refine gateK_none ?_ | refine condK_tt ?_ | refine condK_ff ?_ | refine roundQ_exit ?_ | refine roundQ_ret ?_)
  | refine WC_region ?_ | refine blkQ_out rfl ?_ | refine WO_nil ?_ | refine WD_nil ?_
  | ((first | refine WD_gate rfl rfl rfl rfl rfl fun K_ hK_ => ?_ | refine WO_gate rfl rfl rfl rfl rfl fun K_ hK_ => ?_); simp only [upd_apply, asB_bool, asB_tup, ↓reduceIte, reduceCtorEq, Nat.reduceEqDiff, Bool.not_true, Bool.not_false]; refine hK_ _ ?_; clear hK_ K_)
  | refine gateK_no (by decide) ?_
  | ((try first | refine WO_op rfl rfl rfl ?_ | refine WO_op0 rfl rfl ?_ | refine WD_op rfl rfl rfl ?_ | refine WD_op0 rfl rfl ?_); (refine WV_gen fun Q_ hQ_ => ?_; simp (disch := first | omega | (simp only [List.length_cons, List.length_nil, List.length_append]; omega)) only [bb, bp, argF, ↓reduceIte, reduceCtorEq, Nat.reduceEqDiff, Nat.reduceLT, Nat.reduceLeDiff, Nat.reduceAdd, Nat.reduceMul, Nat.reduceSub, Nat.reduceBEq, Int.reduceToNat, cond_true, cond_false, eq_self, beq_self_eq_true, newPtr_X wf, load1_X wf, loadAgg_X wf, store1_X wf, writeCells_X wf, makeFunc_def, tEvK1]; first | (refine dec_split (Q := Q_) (fun hp_ => ?_) (fun hp_ => ?_) <;> first | (exfalso; omega) | (refine hQ_ _ _ ?_; clear hQ_ Q_)) | (refine dec_splitn (Q := Q_) (fun hp_ => ?_) (fun hp_ => ?_) <;> first | (exfalso; omega) | (refine hQ_ _ _ ?_; clear hQ_ Q_)) | (refine hQ_ _ _ ?_; clear hQ_ Q_)))
  | (refine WC_cond fun K_ hK_ => ?_; simp (disch := omega) only [evT_tmp, upd_apply, WB_some, ↓reduceIte, reduceCtorEq, Nat.reduceEqDiff, Nat.reduceLT]; refine hK_ _ ?_; clear hK_ K_)))
  refine WC_drawnB [.no, .no, .no, .no, .no, .no, .no, .no, .full, .full] (by kernel_rfl) ?_
  (repeat' (first
  | (with_reducible first | refine WC_seq ?_ | refine WC_skip ?_ | refine WC_label ?_ | refine WC_scope ?_ | refine WC_block ?_ | refine WC_ret ?_ | refine WC_exit ?_ | refine seqQ_norm ?_ | refine seqQ_ret ?_ | refine seqQ_exit ?_ | refine blkQ_norm ?_ | refine blkQ_ret ?_ | refine blkQ_here ?_ | refine gateK_yes ?_ | refine gateK_none ?_ | refine condK_tt ?_ | refine condK_ff ?_ | refine roundQ_exit ?_ | refine roundQ_ret ?_)
  | refine WC_region ?_ | refine blkQ_out rfl ?_ | refine WO_nil ?_ | refine WD_nil ?_
  | ((first | refine WD_gate rfl rfl rfl rfl rfl fun K_ hK_ => ?_ | refine WO_gate rfl rfl rfl rfl rfl fun K_ hK_ => ?_); simp only [upd_apply, asB_bool, asB_tup, ↓reduceIte, reduceCtorEq, Nat.reduceEqDiff, Bool.not_true, Bool.not_false]; refine hK_ _ ?_; clear hK_ K_)
  | refine gateK_no (by decide) ?_
  | ((try first | refine WO_op rfl rfl rfl ?_ | refine WO_op0 rfl rfl ?_ | refine WD_op rfl rfl rfl ?_ | refine WD_op0 rfl rfl ?_); (refine WV_gen fun Q_ hQ_ => ?_; simp (disch := first | omega | (simp only [List.length_cons, List.length_nil, List.length_append]; omega)) only [bb, bp, argF, ↓reduceIte, reduceCtorEq, Nat.reduceEqDiff, Nat.reduceLT, Nat.reduceLeDiff, Nat.reduceAdd, Nat.reduceMul, Nat.reduceSub, Nat.reduceBEq, Int.reduceToNat, cond_true, cond_false, eq_self, beq_self_eq_true, hc0, callV_fn, newPtr_X wf, load1_X wf, loadAgg_X wf, store1_X wf, writeCells_X wf, makeFunc_def, tEvK1]; first | (refine dec_split (Q := Q_) (fun hp_ => ?_) (fun hp_ => ?_) <;> first | (exfalso; omega) | (refine hQ_ _ _ ?_; clear hQ_ Q_)) | (refine dec_splitn (Q := Q_) (fun hp_ => ?_) (fun hp_ => ?_) <;> first | (exfalso; omega) | (refine hQ_ _ _ ?_; clear hQ_ Q_)) | (refine hQ_ _ _ ?_; clear hQ_ Q_)))
  | (refine WC_cond fun K_ hK_ => ?_; simp (disch := omega) only [evT_tmp, upd_apply, WB_some, ↓reduceIte, reduceCtorEq, Nat.reduceEqDiff, Nat.reduceLT]; refine hK_ _ ?_; clear hK_ K_)))
  refine WC_loop (fun (j : Nat) f d h' => j ≤ n ∧ f 1 = .fn 56 [] caps ∧ f 2 = .ptr (nx h 0) 0 ∧ f 6 = ii (amx F lo j) ∧ f 7 = ii (mxf F lo j) ∧ f 8 = ii (lo + ((j + 1 : Nat) : Int)) ∧ d = [] ∧ h' = X h [.cells (mkCells [ii lo, ii hi, i, k, w]) 75] h.clock) (fun j => n - j) ?_ (n + 1) 0 (by omega) ?_
  · rintro j f d h' ⟨hj, g1, g2, g6, g7, g8, rfl, rfl⟩
    by_cases hlt : j < n
    · have hc := hcl (lo + ((j + 1 : Nat) : Int)) (by omega) (by omega)
      have hb1 : lo + ((j + 1 : Nat) : Int) + 1 = lo + ((j + 1 + 1 : Nat) : Int) := by omega
      (repeat' (first
  | (with_reducible first | refine WC_seq ?_ | refine WC_skip ?_ | refine WC_label ?_ | refine WC_scope ?_ | refine WC_block ?_ | refine WC_ret ?_ | refine WC_exit ?_ | refine seqQ_norm ?_ | refine seqQ_ret ?_ | refine seqQ_exit ?_ | refine blkQ_norm ?_ | refine blkQ_ret ?_ | refine blkQ_here ?_ | refine gateK_yes ?_ | refine gateK_none ?_ | refine condK_tt ?_ | refine condK_ff ?_ | refine roundQ_exit ?_ | refine roundQ_ret ?_)
  | refine WC_region ?_ | refine blkQ_out rfl ?_ | refine WO_nil ?_ | refine WD_nil ?_
  | ((first | refine WD_gate rfl rfl rfl rfl rfl fun K_ hK_ => ?_ | refine WO_gate rfl rfl rfl rfl rfl fun K_ hK_ => ?_); simp only [upd_apply, asB_bool, asB_tup, ↓reduceIte, reduceCtorEq, Nat.reduceEqDiff, Bool.not_true, Bool.not_false]; refine hK_ _ ?_; clear hK_ K_)
  | refine gateK_no (by decide) ?_
  | ((try first | refine WO_op rfl rfl rfl ?_ | refine WO_op0 rfl rfl ?_ | refine WD_op rfl rfl rfl ?_ | refine WD_op0 rfl rfl ?_); (refine WV_gen fun Q_ hQ_ => ?_; simp (disch := first | omega | (simp only [List.length_cons, List.length_nil, List.length_append]; omega)) only [bb, bp, argF, ↓reduceIte, reduceCtorEq, Nat.reduceEqDiff, Nat.reduceLT, Nat.reduceLeDiff, Nat.reduceAdd, Nat.reduceMul, Nat.reduceSub, Nat.reduceBEq, Int.reduceToNat, cond_true, cond_false, eq_self, beq_self_eq_true, g1, g2, g6, g7, g8, hc, callV_fn, newPtr_X wf, load1_X wf, loadAgg_X wf, store1_X wf, writeCells_X wf, makeFunc_def, tEvK1]; first | (refine dec_split (Q := Q_) (fun hp_ => ?_) (fun hp_ => ?_) <;> first | (exfalso; omega) | (refine hQ_ _ _ ?_; clear hQ_ Q_)) | (refine dec_splitn (Q := Q_) (fun hp_ => ?_) (fun hp_ => ?_) <;> first | (exfalso; omega) | (refine hQ_ _ _ ?_; clear hQ_ Q_)) | (refine hQ_ _ _ ?_; clear hQ_ Q_)))
  | (refine WC_cond fun K_ hK_ => ?_; simp (disch := omega) only [evT_tmp, upd_apply, WB_some, ↓reduceIte, reduceCtorEq, Nat.reduceEqDiff, Nat.reduceLT]; refine hK_ _ ?_; clear hK_ K_)))
      · refine roundQ_again (j + 1) (by omega) ⟨hlt, by simp only [upd_apply, ↓reduceIte, reduceCtorEq, Nat.reduceEqDiff]; exact g1, by simp only [upd_apply, ↓reduceIte, reduceCtorEq, Nat.reduceEqDiff]; exact g2, ?_, ?_, by simp only [upd_apply, ↓reduceIte, reduceCtorEq, Nat.reduceEqDiff]; rw [hb1], rfl, rfl⟩
        · simp only [upd_apply, ↓reduceIte, reduceCtorEq, Nat.reduceEqDiff]
          show ii _ = ii (if _ then _ else _)
          rw [if_pos (by assumption)]
        · simp only [upd_apply, ↓reduceIte, reduceCtorEq, Nat.reduceEqDiff]
          show ii _ = ii (max _ _)
          rw [Int.max_eq_right (by omega)]
      · refine roundQ_again (j + 1) (by omega) ⟨hlt, by simp only [upd_apply, ↓reduceIte, reduceCtorEq, Nat.reduceEqDiff]; exact g1, by simp only [upd_apply, ↓reduceIte, reduceCtorEq, Nat.reduceEqDiff]; exact g2, ?_, ?_, by simp only [upd_apply, ↓reduceIte, reduceCtorEq, Nat.reduceEqDiff]; rw [hb1], rfl, rfl⟩
        · simp only [upd_apply, ↓reduceIte, reduceCtorEq, Nat.reduceEqDiff]
          rw [g6]
          show ii _ = ii (if _ then _ else _)
          rw [if_neg (by assumption)]
        · simp only [upd_apply, ↓reduceIte, reduceCtorEq, Nat.reduceEqDiff]
          rw [g7]
          show ii _ = ii (max _ _)
          rw [Int.max_eq_left (by omega)]
    · have hje : j = n := by omega
      subst hje
      (repeat' (first
  | (with_reducible first | refine WC_seq ?_ | refine WC_skip ?_ | refine WC_label ?_ | refine WC_scope ?_ | refine WC_block ?_ | refine WC_ret ?_ | refine WC_exit ?_ | refine seqQ_norm ?_ | refine seqQ_ret ?_ | refine seqQ_exit ?_ | refine blkQ_norm ?_ | refine blkQ_ret ?_ | refine blkQ_here ?_ | refine gateK_yes ?_ | refine gateK_none ?_ | refine condK_tt ?_ | refine condK_ff ?_ | refine roundQ_exit ?_ | refine roundQ_ret ?_)
  | refine WC_region ?_ | refine blkQ_out rfl ?_ | refine WO_nil ?_ | refine WD_nil ?_
  | ((first | refine WD_gate rfl rfl rfl rfl rfl fun K_ hK_ => ?_ | refine WO_gate rfl rfl rfl rfl rfl fun K_ hK_ => ?_); simp only [upd_apply, asB_bool, asB_tup, ↓reduceIte, reduceCtorEq, Nat.reduceEqDiff, Bool.not_true, Bool.not_false]; refine hK_ _ ?_; clear hK_ K_)
  | refine gateK_no (by decide) ?_
  | ((try first | refine WO_op rfl rfl rfl ?_ | refine WO_op0 rfl rfl ?_ | refine WD_op rfl rfl rfl ?_ | refine WD_op0 rfl rfl ?_); (refine WV_gen fun Q_ hQ_ => ?_; simp (disch := first | omega | (simp only [List.length_cons, List.length_nil, List.length_append]; omega)) only [bb, bp, argF, ↓reduceIte, reduceCtorEq, Nat.reduceEqDiff, Nat.reduceLT, Nat.reduceLeDiff, Nat.reduceAdd, Nat.reduceMul, Nat.reduceSub, Nat.reduceBEq, Int.reduceToNat, cond_true, cond_false, eq_self, beq_self_eq_true, g1, g2, g6, g7, g8, newPtr_X wf, load1_X wf, loadAgg_X wf, store1_X wf, writeCells_X wf, makeFunc_def, tEvK1]; first | (refine dec_split (Q := Q_) (fun hp_ => ?_) (fun hp_ => ?_) <;> first | (exfalso; omega) | (refine hQ_ _ _ ?_; clear hQ_ Q_)) | (refine dec_splitn (Q := Q_) (fun hp_ => ?_) (fun hp_ => ?_) <;> first | (exfalso; omega) | (refine hQ_ _ _ ?_; clear hQ_ Q_)) | (refine hQ_ _ _ ?_; clear hQ_ Q_)))
  | (refine WC_cond fun K_ hK_ => ?_; simp (disch := omega) only [evT_tmp, upd_apply, WB_some, ↓reduceIte, reduceCtorEq, Nat.reduceEqDiff, Nat.reduceLT]; refine hK_ _ ?_; clear hK_ K_)))
      (refine endQ_ret _ _ rfl (ret2 (by decide) (by decide)) ?_; simp only [upd_apply, ↓reduceIte, reduceCtorEq, Nat.reduceEqDiff]; refine WV_flat rfl (by omega) ?_)
      exact ⟨rfl, rfl⟩
  · refine ⟨Nat.zero_le _, by simp only [upd_apply, ↓reduceIte, reduceCtorEq, Nat.reduceEqDiff], by simp only [upd_apply, ↓reduceIte, reduceCtorEq, Nat.reduceEqDiff], by simp only [upd_apply, ↓reduceIte, reduceCtorEq, Nat.reduceEqDiff]; rfl, by simp only [upd_apply, ↓reduceIte, reduceCtorEq, Nat.reduceEqDiff]; rfl, ?_, rfl, rfl⟩
    simp only [upd_apply, ↓reduceIte, reduceCtorEq, Nat.reduceEqDiff]
    rfl
end Go.Proofs.Ytghondkiondeaab
end

/- EvK2 -/
section
/-
  LAYER 2: the true hull that is farthest beyond a number.
-/
namespace Go.Proofs.Ytghondkiondeaab
open Go.Ev
set_option maxRecDepth 100000
set_option linter.unusedSimpArgs false
set_option linter.unusedVariables false
set_option maxHeartbeats 2000000

theorem tEvK2 : type_of% (And.intro (And.intro (And.intro (And.intro (@ia_2) (And.intro (@sz_2) (@ze_2))) (And.intro (And.intro (@ia_3) (@sz_3)) (And.intro (@ia_4) (@sz_4)))) (And.intro (And.intro (@ia_52) (And.intro (@sz_52) (@ia_62))) (And.intro (And.intro (@sz_62) (@ia_29)) (And.intro (@sz_29) (@ia_56))))) (And.intro (And.intro (And.intro (@sz_56) (And.intro (@ze_56) (@ia_75))) (And.intro (And.intro (@sz_75) (@ze_75)) (And.intro (@fo_75_0) (@fo_75_1)))) (And.intro (And.intro (@fo_75_2) (And.intro (@fo_75_3) (@ik_56))) (And.intro (And.intro (@ik_54) (@pb_33)) (And.intro (@pb_55) (@pb_56)))))) := And.intro (And.intro (And.intro (And.intro (@ia_2) (And.intro (@sz_2) (@ze_2))) (And.intro (And.intro (@ia_3) (@sz_3)) (And.intro (@ia_4) (@sz_4)))) (And.intro (And.intro (@ia_52) (And.intro (@sz_52) (@ia_62))) (And.intro (And.intro (@sz_62) (@ia_29)) (And.intro (@sz_29) (@ia_56))))) (And.intro (And.intro (And.intro (@sz_56) (And.intro (@ze_56) (@ia_75))) (And.intro (And.intro (@sz_75) (@ze_75)) (And.intro (@fo_75_0) (@fo_75_1)))) (And.intro (And.intro (@fo_75_2) (And.intro (@fo_75_3) (@ik_56))) (And.intro (And.intro (@ik_54) (@pb_33)) (And.intro (@pb_55) (@pb_56)))))
theorem psum_in2 {f : Nat → Int} {b : Int} : ∀ {q : Nat}, (∀ i, i < q → -b ≤ f i ∧ f i ≤ b) → -(q * b) ≤ psum f q ∧ psum f q ≤ q * b
  | 0, _ => by simp [psum]
  | q + 1, h => by
    have := psum_in2 (q := q) (fun i hi => h i (by omega))
    have h2 := h q (by omega)
    simp only [psum]
    have e : ((q + 1 : Nat) : Int) * b = q * b + b := by rw [Int.natCast_add, Int.add_mul]; omega
    omega
theorem mxf_in {f : Int → Int} {lo : Int} {a b : Int} : ∀ {n : Nat}, (∀ y, lo ≤ y → y ≤ lo + (n : Int) → a ≤ f y ∧ f y ≤ b) → a ≤ mxf f lo n ∧ mxf f lo n ≤ b
  | 0, h => h lo (Int.le_refl _) (by omega)
  | j + 1, h => by
    have h1 := mxf_in (n := j) (fun y hy hy' => h y hy (by omega))
    have h2 := h (lo + ((j + 1 : Nat) : Int)) (by omega) (by omega)
    simp only [mxf]
    omega

/-- A place's own question: how far its offsets are beyond a number. -/
def fAt (g : Nat) (sp st : Int) (n m : Nat) (N D : Int) (high : Bool) (q : Nat) (y : Int) : Int := sgn high (gapOf g sp st m (q / m) (q % m) (W n m q) N D y)
def wide (r : Int × Int) : Nat := (r.2 - r.1).toNat
def bestG (g : Nat) (sp st : Int) (rows : List (List (Int × Int))) (m : Nat) (N D : Int) (high : Bool) (q : Nat) : Int := mxf (fAt g sp st rows.length m N D high q) (rAt rows m q).1 (wide (rAt rows m q))
def bestY (g : Nat) (sp st : Int) (rows : List (List (Int × Int))) (m : Nat) (N D : Int) (high : Bool) (q : Nat) : Int := amx (fAt g sp st rows.length m N D high q) (rAt rows m q).1 (wide (rAt rows m q))
def gB (Y : Nat → Int) (m : Nat) : Nat → List Int
  | 0 => List.replicate 60 0
  | q + 1 => (gB Y m q).set (q / m * 6 + q % m) (Y q)
theorem gB_length (Y : Nat → Int) (m : Nat) : ∀ q, (gB Y m q).length = 60
  | 0 => by simp [gB]
  | q + 1 => by simp only [gB, List.length_set]; exact gB_length Y m q

theorem fAt_in {g : Nat} (hg : g = 47 ∨ g = 48 ∨ g = 49) {sp st : Int} (hsp : 1 ≤ sp ∧ sp ≤ 1000) (hst : 1 ≤ st ∧ st ≤ 100) {n m : Nat} (hn : n ≤ 10) (hm : m ≤ 6) {N D : Int} (hN : 0 ≤ N ∧ N ≤ 100000000000) (hD : 1 ≤ D ∧ D ≤ 100000000) (high : Bool) {q : Nat} (hq : q < n * m) {y : Int} (hy : 0 ≤ y ∧ y ≤ 500) :
    -130000000000000000 ≤ fAt g sp st n m N D high q y ∧ fAt g sp st n m N D high q y ≤ 130000000000000000 := by
  obtain ⟨i1, i2, i3⟩ := place_idx hm hn hq
  have := gap_in hg hsp hst hm (i := q / m) (k := q % m) (by omega) i2 (w := W n m q) (wt2 _ _ _ _) hy hN hD
  unfold fAt sgn
  split <;> omega

theorem farthest {g : Nat} (hg : g = 47 ∨ g = 48 ∨ g = 49) (sp st : Int) (hsp : 1 ≤ sp ∧ sp ≤ 1000) (hst : 1 ≤ st ∧ st ≤ 100) (a : AV) (rvs : List AV) (rows : List (List (Int × Int))) (m : Nat) (hn : 2 ≤ rows.length ∧ rows.length ≤ 10) (hm : 2 ≤ m ∧ m ≤ 6)
    (N D : Int) (hN : 0 ≤ N ∧ N ≤ 100000000000) (hD : 1 ≤ D ∧ D ≤ 100000000) (high : Bool) (hof : ∀ q, q < rows.length * m → isOff (rAt rows m q)) (h : H) (x : HullAt h a rvs rows m) :
    (om Try.prog KK).call (.fn 44 [.agg [ii sp, ii st, a], .fn g [.agg [ii sp, ii st, a]] [], .agg [ii N, ii D], .bool high]) h = .ok (.tup [.agg ((gB (bestY g sp st rows m N D high) m (rows.length * m)).map ii), ii (psum (bestG g sp st rows m N D high) (rows.length * m))]) h := by
  have wf := x.wf
  have hnm : rows.length * m ≤ 60 := by
    have := Nat.mul_le_mul hn.2 hm.2; omega
  have hbG : ∀ q, q < rows.length * m → -130000000000000000 ≤ bestG g sp st rows m N D high q ∧ bestG g sp st rows m N D high q ≤ 130000000000000000 := fun q hq => by
    have ho := hof q hq
    unfold isOff at ho
    refine mxf_in fun y hy hy' => fAt_in hg hsp hst hn.2 hm.2 hN hD high hq ⟨by omega, ?_⟩
    unfold wide at hy'
    omega
  have hz : ((List.replicate 60 (0 : Int)).map ii) = (gB (bestY g sp st rows m N D high) m 0).map ii := rfl
  refine WV_to (WV_call (fn := Try.f44) Try.func44 rfl rfl rfl rfl rfl ?_)
  simp only [argF]
  (repeat' (first
  | (with_reducible first | refine WC_seq ?_ | refine WC_skip ?_ | refine WC_label ?_ | refine WC_scope ?_ | refine WC_block ?_ | refine WC_ret ?_ | refine WC_exit ?_ | refine seqQ_norm ?_ | refine seqQ_ret ?_ | refine seqQ_exit ?_ | refine blkQ_norm ?_ | refine blkQ_ret ?_ | refine blkQ_here ?_ | refine gateK_yes ?_ | refine gateK_none ?_ | refine condK_tt ?_ | refine condK_ff ?_ | refine roundQ_exit ?_ | refine roundQ_ret ?_)
  | refine WC_region ?_ | refine blkQ_out rfl ?_ | refine WO_nil ?_ | refine WD_nil ?_
  | ((first | refine WD_gate rfl rfl rfl rfl rfl fun K_ hK_ => ?_ | refine WO_gate rfl rfl rfl rfl rfl fun K_ hK_ => ?_); simp only [upd_apply, asB_bool, asB_tup, ↓reduceIte, reduceCtorEq, Nat.reduceEqDiff, Bool.not_true, Bool.not_false]; refine hK_ _ ?_; clear hK_ K_)
  | refine gateK_no (by decide) ?_
  | ((try first | refine WO_op rfl rfl rfl ?_ | refine WO_op0 rfl rfl ?_ | refine WD_op rfl rfl rfl ?_ | refine WD_op0 rfl rfl ?_); (refine WV_gen fun Q_ hQ_ => ?_; simp (disch := first | omega | (simp only [List.length_cons, List.length_nil, List.length_append]; omega)) only [bb, bp, argF, ↓reduceIte, reduceCtorEq, Nat.reduceEqDiff, Nat.reduceLT, Nat.reduceLeDiff, Nat.reduceAdd, Nat.reduceMul, Nat.reduceSub, Nat.reduceBEq, Int.reduceToNat, cond_true, cond_false, eq_self, beq_self_eq_true, newPtr_X wf, load1_X wf, loadAgg_X wf, store1_X wf, writeCells_X wf, makeFunc_def, tEvK2, indexAddrE_def (P := Try.prog) (t := 56), indexAddrE_def (P := Try.prog) (t := 54)]; first | (refine dec_split (Q := Q_) (fun hp_ => ?_) (fun hp_ => ?_) <;> first | (exfalso; omega) | (refine hQ_ _ _ ?_; clear hQ_ Q_)) | (refine dec_splitn (Q := Q_) (fun hp_ => ?_) (fun hp_ => ?_) <;> first | (exfalso; omega) | (refine hQ_ _ _ ?_; clear hQ_ Q_)) | (refine hQ_ _ _ ?_; clear hQ_ Q_) | (refine WV_eq (places sp st a h wf _ _ (by simp only [List.length_append, List.length_cons, List.length_nil]; omega)) ?_; refine hQ_ _ _ ?_; clear hQ_ Q_)))
  | (refine WC_cond fun K_ hK_ => ?_; simp (disch := omega) only [evT_tmp, upd_apply, WB_some, ↓reduceIte, reduceCtorEq, Nat.reduceEqDiff, Nat.reduceLT]; refine hK_ _ ?_; clear hK_ K_)))
  simp only [List.length_cons, List.length_nil, List.cons_append, List.nil_append]
  refine WC_rangeX wf rfl (evT_tmp (by decide)) fun o ho => ?_
  simp only [upd_apply, ↓reduceIte, reduceCtorEq, Nat.reduceEqDiff, List.length_cons, List.length_nil, List.cons_append, List.nil_append, Nat.reduceAdd]
  refine WV.mono (placesH x hn hm sp st 7 (nx h 9) _ (fun q hb => ∃ w, hb = X h [.cells (mkCells [ii sp, ii st, a]) 52, .cells (mkCells [.fn g [.agg [ii sp, ii st, a]] []]) 62, .cells (mkCells [ii N, ii D]) 29, .cells (mkCells [.bool high]) 4, .cells (mkCells ((gB (bestY g sp st rows m N D high) m 0).map ii)) 56,
      .cells (mkCells ((gB (bestY g sp st rows m N D high) m q).map ii)) 56, .cells (mkCells [ii (psum (bestG g sp st rows m N D high) q)]) 2, .cells (mkCells [ii sp, ii st, a]) 52, .dfr, o] w ∧ w ≤ h.clock + 10)
    (fun _ => False) h.clock (Nat.le_refl _) (Nat.le_add_right _ _) ?_ ?_ ⟨h.clock, rfl, by omega⟩) ?_
  · rintro q hb ⟨w, rfl, hw⟩
    exact ⟨⟨_, w, rfl, hw, rfl⟩, Same.X rfl⟩
  · rintro q xx hx hb J w ⟨w0, rfl, hw0⟩ hlo hw
    obtain ⟨hq, rfl⟩ := placesOf_at hx
    obtain ⟨i1, i2, i3⟩ := place_idx hm.2 hn.2 hq
    have hw' : w ≤ h.clock + 10 + J.length := hw
    rw [X_X]
    have hr : (rows.getD (q / m) []).getD (q % m) (0, 0) = rAt rows m q := rfl
    simp only [List.cons_append, List.nil_append, placeOf, hr]
    refine WV_yldX wf (k := 9) rfl ho (setParams1 rfl) ?_
    (repeat' (first
  | (with_reducible first | refine WC_seq ?_ | refine WC_skip ?_ | refine WC_label ?_ | refine WC_scope ?_ | refine WC_block ?_ | refine WC_ret ?_ | refine WC_exit ?_ | refine seqQ_norm ?_ | refine seqQ_ret ?_ | refine seqQ_exit ?_ | refine blkQ_norm ?_ | refine blkQ_ret ?_ | refine blkQ_here ?_ | refine gateK_yes ?_ | refine gateK_none ?_ | refine condK_tt ?_ | refine condK_ff ?_ | refine roundQ_exit ?_ | refine roundQ_ret ?_)
  | refine WC_region ?_ | refine blkQ_out rfl ?_ | refine WO_nil ?_ | refine WD_nil ?_
  | ((first | refine WD_gate rfl rfl rfl rfl rfl fun K_ hK_ => ?_ | refine WO_gate rfl rfl rfl rfl rfl fun K_ hK_ => ?_); simp only [upd_apply, asB_bool, asB_tup, ↓reduceIte, reduceCtorEq, Nat.reduceEqDiff, Bool.not_true, Bool.not_false]; refine hK_ _ ?_; clear hK_ K_)
  | refine gateK_no (by decide) ?_
  | ((try first | refine WO_op rfl rfl rfl ?_ | refine WO_op0 rfl rfl ?_ | refine WD_op rfl rfl rfl ?_ | refine WD_op0 rfl rfl ?_); (refine WV_gen fun Q_ hQ_ => ?_; simp (disch := first | omega | (simp only [List.length_cons, List.length_nil, List.length_append]; omega)) only [bb, bp, argF, ↓reduceIte, reduceCtorEq, Nat.reduceEqDiff, Nat.reduceLT, Nat.reduceLeDiff, Nat.reduceAdd, Nat.reduceMul, Nat.reduceSub, Nat.reduceBEq, Int.reduceToNat, cond_true, cond_false, eq_self, beq_self_eq_true, newPtr_X wf, load1_X wf, loadAgg_X wf, store1_X wf, writeCells_X wf, makeFunc_def, tEvK2, indexAddrE_def (P := Try.prog) (t := 56), indexAddrE_def (P := Try.prog) (t := 54)]; first | (refine dec_split (Q := Q_) (fun hp_ => ?_) (fun hp_ => ?_) <;> first | (exfalso; omega) | (refine hQ_ _ _ ?_; clear hQ_ Q_)) | (refine dec_splitn (Q := Q_) (fun hp_ => ?_) (fun hp_ => ?_) <;> first | (exfalso; omega) | (refine hQ_ _ _ ?_; clear hQ_ Q_)) | (refine hQ_ _ _ ?_; clear hQ_ Q_)))
  | (refine WC_cond fun K_ hK_ => ?_; simp (disch := omega) only [evT_tmp, upd_apply, WB_some, ↓reduceIte, reduceCtorEq, Nat.reduceEqDiff, Nat.reduceLT]; refine hK_ _ ?_; clear hK_ K_)))
    refine yldA_X wf (k := 9) rfl ho fun o' ho' => ?_
    simp only [List.set_cons_succ, List.set_cons_zero]
    have ho3 := hof q hq
    unfold isOff at ho3
    have hs := psum_in2 (f := bestG g sp st rows m N D high) (b := 130000000000000000) (q := q) (fun i hi => hbG i (by omega))
    have hg1 := hbG q hq
    have hlen := gB_length (bestY g sp st rows m N D high) m q
    have hbest : ∀ u, u ≤ h.clock + J.length + 11 → (om Try.prog KK).call (.fn 55 [.agg [ii (rAt rows m q).1, ii (rAt rows m q).2, ii ((q / m : Nat) : Int), ii ((q % m : Nat) : Int), ii (wt rows.length (q / m) * wt m (q % m))], .fn 56 [] [.ptr (nx h 1) 0, .ptr (nx h (J.length + 10)) 0, .ptr (nx h 2) 0, .ptr (nx h 3) 0]])
        (X h (.cells (mkCells [ii sp, ii st, a]) 52 :: .cells (mkCells [.fn g [.agg [ii sp, ii st, a]] []]) 62 :: .cells (mkCells [ii N, ii D]) 29 :: .cells (mkCells [.bool high]) 4 :: .cells (mkCells ((gB (bestY g sp st rows m N D high) m 0).map ii)) 56 ::
          .cells (mkCells ((gB (bestY g sp st rows m N D high) m q).map ii)) 56 :: .cells (mkCells [ii (psum (bestG g sp st rows m N D high) q)]) 2 :: .cells (mkCells [ii sp, ii st, a]) 52 :: .dfr :: o' :: (J ++ [.cells (mkCells [ii (rAt rows m q).1, ii (rAt rows m q).2, ii ((q / m : Nat) : Int), ii ((q % m : Nat) : Int), ii (wt rows.length (q / m) * wt m (q % m))]) 75])) u)
        = .ok (.tup [ii (bestY g sp st rows m N D high q), ii (bestG g sp st rows m N D high q)]) (X h (.cells (mkCells [ii sp, ii st, a]) 52 :: .cells (mkCells [.fn g [.agg [ii sp, ii st, a]] []]) 62 :: .cells (mkCells [ii N, ii D]) 29 :: .cells (mkCells [.bool high]) 4 :: .cells (mkCells ((gB (bestY g sp st rows m N D high) m 0).map ii)) 56 ::
          .cells (mkCells ((gB (bestY g sp st rows m N D high) m q).map ii)) 56 :: .cells (mkCells [ii (psum (bestG g sp st rows m N D high) q)]) 2 :: .cells (mkCells [ii sp, ii st, a]) 52 :: .dfr :: o' :: (J ++ [.cells (mkCells [ii (rAt rows m q).1, ii (rAt rows m q).2, ii ((q / m : Nat) : Int), ii ((q % m : Nat) : Int), ii (wt rows.length (q / m) * wt m (q % m))]) 75])) u) := fun u hu => by
      refine best _ _ (wide (rAt rows m q)) ho3.1 (by unfold wide; omega) (by omega) _ _ _ (fAt g sp st rows.length m N D high q) _ _ (wf.X (by simp only [List.length_append, List.length_cons, List.length_nil]; omega)) fun y hy1 hy2 l u' hu' => ?_
      rw [X_X]
      rw [X_clock] at hu'
      simp only [List.length_append, List.length_cons, List.length_nil] at hu'
      refine clos hg sp st hsp hst a (rAt rows m q).1 (rAt rows m q).2 rvs rows (q / m) (q % m) m hm (by omega) i2 (wt rows.length (q / m) * wt m (q % m)) y (wt2 _ _ _ _) ⟨by omega, by omega⟩ N D hN hD high x (by omega) (by simp only [List.length_append, List.length_cons, List.length_nil]; omega) (A := 1) (B := J.length + 10) (C := 2) (E := 3) rfl ?_ rfl rfl
      simp only [List.cons_append, List.append_assoc, List.getElem?_cons_succ, app_len0, List.nil_append, List.getElem?_cons_zero]
    (repeat' (first
  | (with_reducible first | refine WC_seq ?_ | refine WC_skip ?_ | refine WC_label ?_ | refine WC_scope ?_ | refine WC_block ?_ | refine WC_ret ?_ | refine WC_exit ?_ | refine seqQ_norm ?_ | refine seqQ_ret ?_ | refine seqQ_exit ?_ | refine blkQ_norm ?_ | refine blkQ_ret ?_ | refine blkQ_here ?_ | refine gateK_yes ?_ | refine gateK_none ?_ | refine condK_tt ?_ | refine condK_ff ?_ | refine roundQ_exit ?_ | refine roundQ_ret ?_)
  | refine WC_region ?_ | refine blkQ_out rfl ?_ | refine WO_nil ?_ | refine WD_nil ?_
  | ((first | refine WD_gate rfl rfl rfl rfl rfl fun K_ hK_ => ?_ | refine WO_gate rfl rfl rfl rfl rfl fun K_ hK_ => ?_); simp only [upd_apply, asB_bool, asB_tup, ↓reduceIte, reduceCtorEq, Nat.reduceEqDiff, Bool.not_true, Bool.not_false]; refine hK_ _ ?_; clear hK_ K_)
  | refine gateK_no (by decide) ?_
  | ((try first | refine WO_op rfl rfl rfl ?_ | refine WO_op0 rfl rfl ?_ | refine WD_op rfl rfl rfl ?_ | refine WD_op0 rfl rfl ?_); (refine WV_gen fun Q_ hQ_ => ?_; simp (disch := first | omega | (simp only [List.length_cons, List.length_nil, List.length_append]; omega)) only [bb, bp, argF, ↓reduceIte, reduceCtorEq, Nat.reduceEqDiff, Nat.reduceLT, Nat.reduceLeDiff, Nat.reduceAdd, Nat.reduceMul, Nat.reduceSub, Nat.reduceBEq, Int.reduceToNat, cond_true, cond_false, eq_self, beq_self_eq_true, hlen, List.length_map, newPtr_X wf, load1_X wf, loadAgg_X wf, store1_X wf, writeCells_X wf, makeFunc_def, tEvK2, indexAddrE_def (P := Try.prog) (t := 56), indexAddrE_def (P := Try.prog) (t := 54)]; first | (refine dec_split (Q := Q_) (fun hp_ => ?_) (fun hp_ => ?_) <;> first | (exfalso; omega) | (refine hQ_ _ _ ?_; clear hQ_ Q_)) | (refine dec_splitn (Q := Q_) (fun hp_ => ?_) (fun hp_ => ?_) <;> first | (exfalso; omega) | (refine hQ_ _ _ ?_; clear hQ_ Q_)) | (refine hQ_ _ _ ?_; clear hQ_ Q_) | (refine WV_eq (hbest _ (by omega)) ?_; refine hQ_ _ _ ?_; clear hQ_ Q_)))
  | (refine WC_cond fun K_ hK_ => ?_; simp (disch := omega) only [evT_tmp, upd_apply, WB_some, ↓reduceIte, reduceCtorEq, Nat.reduceEqDiff, Nat.reduceLT]; refine hK_ _ ?_; clear hK_ K_)))
    have hlm : ((gB (bestY g sp st rows m N D high) m q).map ii).length = 60 := by rw [List.length_map, hlen]
    refine WC_drawnB [.no, .no, .no, .no, .no, .no, .full, .full] (by kernel_rfl) ?_
    (repeat' (first
  | (with_reducible first | refine WC_seq ?_ | refine WC_skip ?_ | refine WC_label ?_ | refine WC_scope ?_ | refine WC_block ?_ | refine WC_ret ?_ | refine WC_exit ?_ | refine seqQ_norm ?_ | refine seqQ_ret ?_ | refine seqQ_exit ?_ | refine blkQ_norm ?_ | refine blkQ_ret ?_ | refine blkQ_here ?_ | refine gateK_yes ?_ | refine gateK_none ?_ | refine condK_tt ?_ | refine condK_ff ?_ | refine roundQ_exit ?_ | refine roundQ_ret ?_)
  | refine WC_region ?_ | refine blkQ_out rfl ?_ | refine WO_nil ?_ | refine WD_nil ?_
  | ((first | refine WD_gate rfl rfl rfl rfl rfl fun K_ hK_ => ?_ | refine WO_gate rfl rfl rfl rfl rfl fun K_ hK_ => ?_); simp only [upd_apply, asB_bool, asB_tup, ↓reduceIte, reduceCtorEq, Nat.reduceEqDiff, Bool.not_true, Bool.not_false]; refine hK_ _ ?_; clear hK_ K_)
  | refine gateK_no (by decide) ?_
  | ((try first | refine WO_op rfl rfl rfl ?_ | refine WO_op0 rfl rfl ?_ | refine WD_op rfl rfl rfl ?_ | refine WD_op0 rfl rfl ?_); (refine WV_gen fun Q_ hQ_ => ?_; simp (disch := first | omega | (simp only [List.length_cons, List.length_nil, List.length_append]; omega)) only [bb, bp, argF, ↓reduceIte, reduceCtorEq, Nat.reduceEqDiff, Nat.reduceLT, Nat.reduceLeDiff, Nat.reduceAdd, Nat.reduceMul, Nat.reduceSub, Nat.reduceBEq, Int.reduceToNat, cond_true, cond_false, eq_self, beq_self_eq_true, hlm, i3, newPtr_X wf, load1_X wf, loadAgg_X wf, store1_X wf, writeCells_X wf, makeFunc_def, tEvK2, indexAddrE_def (P := Try.prog) (t := 56), indexAddrE_def (P := Try.prog) (t := 54)]; first | (refine dec_split (Q := Q_) (fun hp_ => ?_) (fun hp_ => ?_) <;> first | (exfalso; omega) | (refine hQ_ _ _ ?_; clear hQ_ Q_)) | (refine dec_splitn (Q := Q_) (fun hp_ => ?_) (fun hp_ => ?_) <;> first | (exfalso; omega) | (refine hQ_ _ _ ?_; clear hQ_ Q_)) | (refine hQ_ _ _ ?_; clear hQ_ Q_)))
  | (refine WC_cond fun K_ hK_ => ?_; simp (disch := omega) only [evT_tmp, upd_apply, WB_some, ↓reduceIte, reduceCtorEq, Nat.reduceEqDiff, Nat.reduceLT]; refine hK_ _ ?_; clear hK_ K_)))
    refine yldB_X wf (k := 9) rfl ho' ?_
    simp only [List.set_cons_succ, List.set_cons_zero]
    rw [← ho]
    refine ⟨X h [.cells (mkCells [ii sp, ii st, a]) 52, .cells (mkCells [.fn g [.agg [ii sp, ii st, a]] []]) 62, .cells (mkCells [ii N, ii D]) 29, .cells (mkCells [.bool high]) 4, .cells (mkCells ((gB (bestY g sp st rows m N D high) m 0).map ii)) 56,
      .cells (mkCells ((gB (bestY g sp st rows m N D high) m (q + 1)).map ii)) 56, .cells (mkCells [ii (psum (bestG g sp st rows m N D high) (q + 1))]) 2, .cells (mkCells [ii sp, ii st, a]) 52, .dfr, o] w0, _, _, by rw [X_X]; simp only [gB, List.map_set]; rfl, Same.X rfl, by omega, ?_, .inl ⟨rfl, w0, rfl, hw0⟩⟩
    show _ < h.clock + 10
    omega
  · rintro v h' ⟨hb, J, w, rfl, hs, hlo, hw, ⟨w0, rfl, hw0⟩ | hD'⟩
    · rw [X_X, placesOf_length]
      refine rangeQ_X wf (k := 9) rfl ho (by decide) fun o' ho' => ?_
      simp only [List.cons_append, List.nil_append, List.set_cons_succ, List.set_cons_zero]
      have hL : ((gB (bestY g sp st rows m N D high) m (rows.length * m)).map ii).length = 60 := by rw [List.length_map, gB_length]
      have hL0 : ((gB (bestY g sp st rows m N D high) m 0).map ii).length = 60 := by rw [List.length_map, gB_length]
      refine WC_seq ?_
      refine WC_drawnB [.no, .no, .soft [11], .full] (by kernel_rfl) ?_
      have hld : ∀ u, loadE Try.prog 56 (.ptr (nx h 5) 0) (X h (.cells (mkCells [ii sp, ii st, a]) 52 :: .cells (mkCells [.fn g [.agg [ii sp, ii st, a]] []]) 62 :: .cells (mkCells [ii N, ii D]) 29 :: .cells (mkCells [.bool high]) 4 :: .cells (mkCells ((gB (bestY g sp st rows m N D high) m 0).map ii)) 56 ::
          .cells (mkCells ((gB (bestY g sp st rows m N D high) m (rows.length * m)).map ii)) 56 :: .cells (mkCells [ii (psum (bestG g sp st rows m N D high) (rows.length * m))]) 2 :: .cells (mkCells [ii sp, ii st, a]) 52 :: .dfr :: o' :: J) u) = some (.agg ((gB (bestY g sp st rows m N D high) m (rows.length * m)).map ii)) := fun u => loadE_whole wf ia_56 sz_56 (by decide) hL rfl
      have hsto : ∀ u, storeE Try.prog 56 (.ptr (nx h 4) 0) (.agg ((gB (bestY g sp st rows m N D high) m (rows.length * m)).map ii)) (X h (.cells (mkCells [ii sp, ii st, a]) 52 :: .cells (mkCells [.fn g [.agg [ii sp, ii st, a]] []]) 62 :: .cells (mkCells [ii N, ii D]) 29 :: .cells (mkCells [.bool high]) 4 :: .cells (mkCells ((gB (bestY g sp st rows m N D high) m 0).map ii)) 56 ::
          .cells (mkCells ((gB (bestY g sp st rows m N D high) m (rows.length * m)).map ii)) 56 :: .cells (mkCells [ii (psum (bestG g sp st rows m N D high) (rows.length * m))]) 2 :: .cells (mkCells [ii sp, ii st, a]) 52 :: .dfr :: o' :: J) u)
          = some (X h (.cells (mkCells [ii sp, ii st, a]) 52 :: .cells (mkCells [.fn g [.agg [ii sp, ii st, a]] []]) 62 :: .cells (mkCells [ii N, ii D]) 29 :: .cells (mkCells [.bool high]) 4 :: .cells (mkCells ((gB (bestY g sp st rows m N D high) m (rows.length * m)).map ii)) 56 ::
          .cells (mkCells ((gB (bestY g sp st rows m N D high) m (rows.length * m)).map ii)) 56 :: .cells (mkCells [ii (psum (bestG g sp st rows m N D high) (rows.length * m))]) 2 :: .cells (mkCells [ii sp, ii st, a]) 52 :: .dfr :: o' :: J) (min (h.clock + 4) u)) := fun u => storeE_whole wf sz_56 (by decide) hL hL0 rfl (allOne_map (fun _ => rfl) _)
      (repeat' (first
  | (with_reducible first | refine WC_seq ?_ | refine WC_skip ?_ | refine WC_label ?_ | refine WC_scope ?_ | refine WC_block ?_ | refine WC_ret ?_ | refine WC_exit ?_ | refine seqQ_norm ?_ | refine seqQ_ret ?_ | refine seqQ_exit ?_ | refine blkQ_norm ?_ | refine blkQ_ret ?_ | refine blkQ_here ?_ | refine gateK_yes ?_ | refine gateK_none ?_ | refine condK_tt ?_ | refine condK_ff ?_ | refine roundQ_exit ?_ | refine roundQ_ret ?_)
  | refine WC_region ?_ | refine blkQ_out rfl ?_ | refine WO_nil ?_ | refine WD_nil ?_
  | ((first | refine WD_gate rfl rfl rfl rfl rfl fun K_ hK_ => ?_ | refine WO_gate rfl rfl rfl rfl rfl fun K_ hK_ => ?_); simp only [upd_apply, asB_bool, asB_tup, ↓reduceIte, reduceCtorEq, Nat.reduceEqDiff, Bool.not_true, Bool.not_false]; refine hK_ _ ?_; clear hK_ K_)
  | refine gateK_no (by decide) ?_
  | ((try first | refine WO_op rfl rfl rfl ?_ | refine WO_op0 rfl rfl ?_ | refine WD_op rfl rfl rfl ?_ | refine WD_op0 rfl rfl ?_); (refine WV_gen fun Q_ hQ_ => ?_; simp (disch := first | omega | (simp only [List.length_cons, List.length_nil, List.length_append]; omega)) only [bb, bp, argF, ↓reduceIte, reduceCtorEq, Nat.reduceEqDiff, Nat.reduceLT, Nat.reduceLeDiff, Nat.reduceAdd, Nat.reduceMul, Nat.reduceSub, Nat.reduceBEq, Int.reduceToNat, cond_true, cond_false, eq_self, beq_self_eq_true, hld, load1_X wf, tEvK2, indexAddrE_def (P := Try.prog) (t := 56), indexAddrE_def (P := Try.prog) (t := 54)]; first | (refine dec_split (Q := Q_) (fun hp_ => ?_) (fun hp_ => ?_) <;> first | (exfalso; omega) | (refine hQ_ _ _ ?_; clear hQ_ Q_)) | (refine dec_splitn (Q := Q_) (fun hp_ => ?_) (fun hp_ => ?_) <;> first | (exfalso; omega) | (refine hQ_ _ _ ?_; clear hQ_ Q_)) | (refine hQ_ _ _ ?_; clear hQ_ Q_)))
  | (refine WC_cond fun K_ hK_ => ?_; simp (disch := omega) only [evT_tmp, upd_apply, WB_some, ↓reduceIte, reduceCtorEq, Nat.reduceEqDiff, Nat.reduceLT]; refine hK_ _ ?_; clear hK_ K_)))
      refine WD_op0 rfl rfl (WV_soft (v := .tup []) (by
        rw [x_store, evT_tmp (by decide), on1_ok, evT_tmp (by decide), on1_ok]
        simp only [upd_apply, ↓reduceIte, reduceCtorEq, Nat.reduceEqDiff]
        rw [marked_X, hsto]
        rfl) (barOk_store1 (by simp only [upd_apply, ↓reduceIte, reduceCtorEq, Nat.reduceEqDiff]; rfl) (by simp only [upd_apply, ↓reduceIte, reduceCtorEq, Nat.reduceEqDiff]; rfl) (nx_ne (by decide)) (by decide) (by decide)) ?_)
      (repeat' (first
  | (with_reducible first | refine WC_seq ?_ | refine WC_skip ?_ | refine WC_label ?_ | refine WC_scope ?_ | refine WC_block ?_ | refine WC_ret ?_ | refine WC_exit ?_ | refine seqQ_norm ?_ | refine seqQ_ret ?_ | refine seqQ_exit ?_ | refine blkQ_norm ?_ | refine blkQ_ret ?_ | refine blkQ_here ?_ | refine gateK_yes ?_ | refine gateK_none ?_ | refine condK_tt ?_ | refine condK_ff ?_ | refine roundQ_exit ?_ | refine roundQ_ret ?_)
  | refine WC_region ?_ | refine blkQ_out rfl ?_ | refine WO_nil ?_ | refine WD_nil ?_
  | ((first | refine WD_gate rfl rfl rfl rfl rfl fun K_ hK_ => ?_ | refine WO_gate rfl rfl rfl rfl rfl fun K_ hK_ => ?_); simp only [upd_apply, asB_bool, asB_tup, ↓reduceIte, reduceCtorEq, Nat.reduceEqDiff, Bool.not_true, Bool.not_false]; refine hK_ _ ?_; clear hK_ K_)
  | refine gateK_no (by decide) ?_
  | ((try first | refine WO_op rfl rfl rfl ?_ | refine WO_op0 rfl rfl ?_ | refine WD_op rfl rfl rfl ?_ | refine WD_op0 rfl rfl ?_); (refine WV_gen fun Q_ hQ_ => ?_; simp (disch := first | omega | (simp only [List.length_cons, List.length_nil, List.length_append]; omega)) only [bb, bp, argF, ↓reduceIte, reduceCtorEq, Nat.reduceEqDiff, Nat.reduceLT, Nat.reduceLeDiff, Nat.reduceAdd, Nat.reduceMul, Nat.reduceSub, Nat.reduceBEq, Int.reduceToNat, cond_true, cond_false, eq_self, beq_self_eq_true, tEvK2, indexAddrE_def (P := Try.prog) (t := 56), indexAddrE_def (P := Try.prog) (t := 54)]; first | (refine dec_split (Q := Q_) (fun hp_ => ?_) (fun hp_ => ?_) <;> first | (exfalso; omega) | (refine hQ_ _ _ ?_; clear hQ_ Q_)) | (refine dec_splitn (Q := Q_) (fun hp_ => ?_) (fun hp_ => ?_) <;> first | (exfalso; omega) | (refine hQ_ _ _ ?_; clear hQ_ Q_)) | (refine hQ_ _ _ ?_; clear hQ_ Q_)))
  | (refine WC_cond fun K_ hK_ => ?_; simp (disch := omega) only [evT_tmp, upd_apply, WB_some, ↓reduceIte, reduceCtorEq, Nat.reduceEqDiff, Nat.reduceLT]; refine hK_ _ ?_; clear hK_ K_)))
      refine endQ_ret _ _ (takeAll_X wf (k := 8) rfl) (retc1 (by decide) (by decide) (by simp only [upd_apply, ↓reduceIte, reduceCtorEq, Nat.reduceEqDiff]; exact loadE_whole wf ia_56 sz_56 (by decide) hL rfl)) ?_
      simp only [upd_apply, ↓reduceIte, reduceCtorEq, Nat.reduceEqDiff]
      refine WV_flat ?_ (by omega) ?_
      · show (bif flatL ((gB (bestY g sp st rows m N D high) m (rows.length * m)).map ii) then _ else false) = true
        rw [flatL_ii]; rfl
      · exact ⟨rfl, rfl⟩
    · exact hD'.elim
end Go.Proofs.Ytghondkiondeaab
end

/- EvK3 -/
section
/-
  LAYER 2: bounds; what the package answers of them.
-/
namespace Go.Proofs.Ytghondkiondeaab
open Go.Ev
set_option maxRecDepth 100000
set_option linter.unusedSimpArgs false
set_option linter.unusedVariables false
set_option maxHeartbeats 2000000

theorem tEvK3 : type_of% (And.intro (And.intro (And.intro (And.intro (And.intro (@bs_52) (@ia_2)) (And.intro (@sz_2) (@ze_2))) (And.intro (And.intro (@ia_3) (@sz_3)) (And.intro (@ia_4) (@sz_4)))) (And.intro (And.intro (And.intro (@ia_24) (@sz_24)) (And.intro (@ia_47) (@sz_47))) (And.intro (And.intro (@ia_52) (@sz_52)) (And.intro (@ze_52) (@ia_62))))) (And.intro (And.intro (And.intro (And.intro (@sz_62) (@ia_29)) (And.intro (@sz_29) (@ze_29))) (And.intro (And.intro (@fo_29_0) (@fo_29_1)) (And.intro (@ia_56) (@sz_56)))) (And.intro (And.intro (And.intro (@ze_56) (@pb_38)) (And.intro (@pb_43) (@pb_44))) (And.intro (And.intro (@pb_11) (@pb_28)) (And.intro (@pb_31) (@pb_45)))))) := And.intro (And.intro (And.intro (And.intro (And.intro (@bs_52) (@ia_2)) (And.intro (@sz_2) (@ze_2))) (And.intro (And.intro (@ia_3) (@sz_3)) (And.intro (@ia_4) (@sz_4)))) (And.intro (And.intro (And.intro (@ia_24) (@sz_24)) (And.intro (@ia_47) (@sz_47))) (And.intro (And.intro (@ia_52) (@sz_52)) (And.intro (@ze_52) (@ia_62))))) (And.intro (And.intro (And.intro (And.intro (@sz_62) (@ia_29)) (And.intro (@sz_29) (@ze_29))) (And.intro (And.intro (@fo_29_0) (@fo_29_1)) (And.intro (@ia_56) (@sz_56)))) (And.intro (And.intro (And.intro (@ze_56) (@pb_38)) (And.intro (@pb_43) (@pb_44))) (And.intro (And.intro (@pb_11) (@pb_28)) (And.intro (@pb_31) (@pb_45)))))
def bndIn (N D : Int) : Prop := (0 ≤ N ∧ N ≤ 100000000000) ∧ 1 ≤ D ∧ D ≤ 100000000
instance (N D : Int) : Decidable (bndIn N D) := by unfold bndIn; infer_instance
/-- May this be a bound? -/
def isBnd (N D : Int) : Bool := decide (bndIn N D) && (N == N / (Int.gcd N D : Int) && D == D / (Int.gcd N D : Int))

/-- The question that is put. -/
theorem questionBad (sp st : Int) (a : AV) (rvs : List AV) (rows : List (List (Int × Int))) (what : Int) (he : hullErr sp st rows ≠ 0) (h : H) (x : HullR h a rvs rows) :
    (om Try.prog KK).call (.fn 38 [.agg [ii sp, ii st, a], ii what]) h = .ok (.tup [.agg [ii 0, ii 0, .nils], .nilf, ii (hullErr sp st rows)]) h := by
  have wf := x.wf
  have hch : ∀ l w, w ≤ h.clock + l.length → (om Try.prog KK).call (.fn 11 [.agg [ii sp, ii st, a]]) (X h l w) = .ok (ii (hullErr sp st rows)) (X h l w) := fun l w hw => checkHull sp st a rvs rows _ (x.up l w hw)
  refine WV_to (WV_call (fn := Try.f38) Try.func38 rfl rfl rfl rfl rfl ?_)
  simp only [argF]
  (repeat' (first
  | (with_reducible first | refine WC_seq ?_ | refine WC_skip ?_ | refine WC_label ?_ | refine WC_scope ?_ | refine WC_block ?_ | refine WC_ret ?_ | refine WC_exit ?_ | refine seqQ_norm ?_ | refine seqQ_ret ?_ | refine seqQ_exit ?_ | refine blkQ_norm ?_ | refine blkQ_ret ?_ | refine blkQ_here ?_ | refine gateK_yes ?_ | refine gateK_none ?_ | refine condK_tt ?_ | refine condK_ff ?_ | refine roundQ_exit ?_ | refine roundQ_ret ?_)
  | refine WC_region ?_ | refine blkQ_out rfl ?_ | refine WO_nil ?_ | refine WD_nil ?_
  | ((first | refine WD_gate rfl rfl rfl rfl rfl fun K_ hK_ => ?_ | refine WO_gate rfl rfl rfl rfl rfl fun K_ hK_ => ?_); simp only [upd_apply, asB_bool, asB_tup, ↓reduceIte, reduceCtorEq, Nat.reduceEqDiff, Bool.not_true, Bool.not_false]; refine hK_ _ ?_; clear hK_ K_)
  | refine gateK_no (by decide) ?_
  | ((try first | refine WO_op rfl rfl rfl ?_ | refine WO_op0 rfl rfl ?_ | refine WD_op rfl rfl rfl ?_ | refine WD_op0 rfl rfl ?_); (refine WV_gen fun Q_ hQ_ => ?_; simp (disch := first | omega | (simp only [List.length_cons, List.length_nil, List.length_append]; omega)) only [bb, bp, argF, ↓reduceIte, reduceCtorEq, Nat.reduceEqDiff, Nat.reduceLT, Nat.reduceLeDiff, Nat.reduceAdd, Nat.reduceMul, Nat.reduceSub, Nat.reduceBEq, Int.reduceToNat, cond_true, cond_false, eq_self, beq_self_eq_true, hch, newPtr_X wf, load1_X wf, loadAgg_X wf, store1_X wf, writeCells_X wf, makeFunc_def, tEvK3, bsl_47, newSlice_X wf]; first | (refine dec_split (Q := Q_) (fun hp_ => ?_) (fun hp_ => ?_) <;> first | (exfalso; omega) | (refine hQ_ _ _ ?_; clear hQ_ Q_)) | (refine dec_splitn (Q := Q_) (fun hp_ => ?_) (fun hp_ => ?_) <;> first | (exfalso; omega) | (refine hQ_ _ _ ?_; clear hQ_ Q_)) | (refine hQ_ _ _ ?_; clear hQ_ Q_)))
  | (refine WC_cond fun K_ hK_ => ?_; simp (disch := omega) only [evT_tmp, upd_apply, WB_some, ↓reduceIte, reduceCtorEq, Nat.reduceEqDiff, Nat.reduceLT]; refine hK_ _ ?_; clear hK_ K_)))
  refine endQ_ret _ _ rfl (retc2 (by decide) (by decide) (by decide) (by simp (disch := first | omega | (simp only [List.length_cons, List.length_nil, List.length_append]; omega)) only [bb, bp, argF, ↓reduceIte, reduceCtorEq, Nat.reduceEqDiff, Nat.reduceLT, Nat.reduceLeDiff, Nat.reduceAdd, Nat.reduceMul, Nat.reduceSub, Nat.reduceBEq, Int.reduceToNat, cond_true, cond_false, eq_self, beq_self_eq_true, loadAgg_X wf, tEvK3, bsl_47, newSlice_X wf]; rfl)) ?_
  simp only [upd_apply, ↓reduceIte, reduceCtorEq, Nat.reduceEqDiff]
  refine WV_flat rfl (by omega) ?_
  exact ⟨rfl, rfl⟩

theorem hullErr_sl {h : H} {a : AV} {rvs : List AV} {rows : List (List (Int × Int))} (x : HullR h a rvs rows) (hn : 0 < rows.length) : ∃ id off cap esz, a = .sl id off rows.length cap esz := by
  obtain ⟨_, ⟨_, h0⟩ | ⟨id, off, cap, esz, _, _, e, _⟩⟩ := x.sl
  · omega
  · exact ⟨id, off, cap, esz, e⟩

theorem questionNot (sp st : Int) (a : AV) (rvs : List AV) (rows : List (List (Int × Int))) (what : Int) (he : hullErr sp st rows = 0) (hwh : ¬ (0 ≤ what ∧ what ≤ 2)) {h0 : H} (x0 : HullR h0 a rvs rows) {J : List AO} {w0 : Nat} (hw0 : w0 ≤ h0.clock + J.length) :
    (om Try.prog KK).call (.fn 38 [.agg [ii sp, ii st, a], ii what]) (X h0 J w0) = .ok (.tup [.agg [ii sp, ii st, a], .nilf, ii 3]) (X h0 (J ++ [.cells (mkCells [ii sp, ii st, a]) 24, .cells (mkCells [ii sp, ii st, a]) 52, .cells (mkCells [ii sp, ii st, a]) 52]) w0) := by
  have x := x0.up J w0 hw0
  have key : ∀ h, HullR h a rvs rows → (om Try.prog KK).call (.fn 38 [.agg [ii sp, ii st, a], ii what]) h = .ok (.tup [.agg [ii sp, ii st, a], .nilf, ii 3]) (X h [.cells (mkCells [ii sp, ii st, a]) 24, .cells (mkCells [ii sp, ii st, a]) 52, .cells (mkCells [ii sp, ii st, a]) 52] h.w) := by
    clear x x0
    intro h x
    have wf := x.wf
    obtain ⟨hn, hm, hall, hsp, hst, hof⟩ := hullErr_ok he
    obtain ⟨id, off, cap, esz, rfl⟩ := hullErr_sl x (by omega)
    have hch : ∀ l w, w ≤ h.clock + l.length → (om Try.prog KK).call (.fn 11 [.agg [ii sp, ii st, .sl id off rows.length cap esz]]) (X h l w) = .ok (ii (hullErr sp st rows)) (X h l w) := fun l w hw => checkHull sp st _ rvs rows _ (x.up l w hw)
    have han : ∀ l w, w ≤ h.clock + l.length → (om Try.prog KK).call (.fn 28 [.agg [ii sp, ii st, .sl id off rows.length cap esz], ii what]) (X h l w) = .ok (.tup [.nilf, ii 3]) (X h l w) := fun l w hw => askedNot sp st _ what hwh _ (wf.X hw)
    refine WV_to (WV_call (fn := Try.f38) Try.func38 rfl rfl rfl rfl rfl ?_)
    simp only [argF]
    (repeat' (first
  | (with_reducible first | refine WC_seq ?_ | refine WC_skip ?_ | refine WC_label ?_ | refine WC_scope ?_ | refine WC_block ?_ | refine WC_ret ?_ | refine WC_exit ?_ | refine seqQ_norm ?_ | refine seqQ_ret ?_ | refine seqQ_exit ?_ | refine blkQ_norm ?_ | refine blkQ_ret ?_ | refine blkQ_here ?_ | refine gateK_yes ?_ | refine gateK_none ?_ | refine condK_tt ?_ | refine condK_ff ?_ | refine roundQ_exit ?_ | refine roundQ_ret ?_)
  | refine WC_region ?_ | refine blkQ_out rfl ?_ | refine WO_nil ?_ | refine WD_nil ?_
  | ((first | refine WD_gate rfl rfl rfl rfl rfl fun K_ hK_ => ?_ | refine WO_gate rfl rfl rfl rfl rfl fun K_ hK_ => ?_); simp only [upd_apply, asB_bool, asB_tup, ↓reduceIte, reduceCtorEq, Nat.reduceEqDiff, Bool.not_true, Bool.not_false]; refine hK_ _ ?_; clear hK_ K_)
  | refine gateK_no (by decide) ?_
  | ((try first | refine WO_op rfl rfl rfl ?_ | refine WO_op0 rfl rfl ?_ | refine WD_op rfl rfl rfl ?_ | refine WD_op0 rfl rfl ?_); (refine WV_gen fun Q_ hQ_ => ?_; simp (disch := first | omega | (simp only [List.length_cons, List.length_nil, List.length_append]; omega)) only [bb, bp, argF, ↓reduceIte, reduceCtorEq, Nat.reduceEqDiff, Nat.reduceLT, Nat.reduceLeDiff, Nat.reduceAdd, Nat.reduceMul, Nat.reduceSub, Nat.reduceBEq, Int.reduceToNat, cond_true, cond_false, eq_self, beq_self_eq_true, hch, he, han, newPtr_X wf, load1_X wf, loadAgg_X wf, store1_X wf, writeCells_X wf, makeFunc_def, tEvK3, bsl_47, newSlice_X wf]; first | (refine dec_split (Q := Q_) (fun hp_ => ?_) (fun hp_ => ?_) <;> first | (exfalso; omega) | (refine hQ_ _ _ ?_; clear hQ_ Q_)) | (refine dec_splitn (Q := Q_) (fun hp_ => ?_) (fun hp_ => ?_) <;> first | (exfalso; omega) | (refine hQ_ _ _ ?_; clear hQ_ Q_)) | (refine hQ_ _ _ ?_; clear hQ_ Q_)))
  | (refine WC_cond fun K_ hK_ => ?_; simp (disch := omega) only [evT_tmp, upd_apply, WB_some, ↓reduceIte, reduceCtorEq, Nat.reduceEqDiff, Nat.reduceLT]; refine hK_ _ ?_; clear hK_ K_)))
    refine endQ_ret _ _ rfl (retc2 (by decide) (by decide) (by decide) (by simp (disch := first | omega | (simp only [List.length_cons, List.length_nil, List.length_append]; omega)) only [bb, bp, argF, ↓reduceIte, reduceCtorEq, Nat.reduceEqDiff, Nat.reduceLT, Nat.reduceLeDiff, Nat.reduceAdd, Nat.reduceMul, Nat.reduceSub, Nat.reduceBEq, Int.reduceToNat, cond_true, cond_false, eq_self, beq_self_eq_true, loadAgg_X wf, tEvK3, bsl_47, newSlice_X wf]; rfl)) ?_
    simp only [upd_apply, ↓reduceIte, reduceCtorEq, Nat.reduceEqDiff]
    refine WV_ext (by
      show (_ && flat (.tup [.agg [ii sp, ii st, .sl _ _ _ _ _], .nilf, ii 3])) = false
      exact Bool.and_false _) ?_
    refine ⟨rfl, ?_⟩
    rw [Nat.min_eq_left (by have := wf.wle; omega)]
  rw [key _ x, X_X, X_w]

theorem question (sp st : Int) (a : AV) (rvs : List AV) (rows : List (List (Int × Int))) (what : Int) (he : hullErr sp st rows = 0) (hwh : 0 ≤ what ∧ what ≤ 2) {h0 : H} (x0 : HullR h0 a rvs rows) {J : List AO} {w0 : Nat} (hw0 : w0 ≤ h0.clock + J.length) :
    (om Try.prog KK).call (.fn 38 [.agg [ii sp, ii st, a], ii what]) (X h0 J w0) = .ok (.tup [.agg [ii sp, ii st, a], .fn (gOf what) [.agg [ii sp, ii st, a]] [], ii 0]) (X h0 (J ++ [.cells (mkCells [ii sp, ii st, a]) 24, .cells (mkCells [ii sp, ii st, a]) 52, .cells (mkCells [ii sp, ii st, a]) 52, .cells (mkCells [ii sp, ii st, a]) 52]) w0) := by
  have x := x0.up J w0 hw0
  have key : ∀ h, HullR h a rvs rows → (om Try.prog KK).call (.fn 38 [.agg [ii sp, ii st, a], ii what]) h = .ok (.tup [.agg [ii sp, ii st, a], .fn (gOf what) [.agg [ii sp, ii st, a]] [], ii 0]) (X h [.cells (mkCells [ii sp, ii st, a]) 24, .cells (mkCells [ii sp, ii st, a]) 52, .cells (mkCells [ii sp, ii st, a]) 52, .cells (mkCells [ii sp, ii st, a]) 52] h.w) := by
    clear x x0
    intro h x
    have wf := x.wf
    obtain ⟨hn, hm, hall, hsp, hst, hof⟩ := hullErr_ok he
    obtain ⟨id, off, cap, esz, rfl⟩ := hullErr_sl x (by omega)
    have hch : ∀ l w, w ≤ h.clock + l.length → (om Try.prog KK).call (.fn 11 [.agg [ii sp, ii st, .sl id off rows.length cap esz]]) (X h l w) = .ok (ii (hullErr sp st rows)) (X h l w) := fun l w hw => checkHull sp st _ rvs rows _ (x.up l w hw)
    refine WV_to (WV_call (fn := Try.f38) Try.func38 rfl rfl rfl rfl rfl ?_)
    simp only [argF]
    (repeat' (first
  | (with_reducible first | refine WC_seq ?_ | refine WC_skip ?_ | refine WC_label ?_ | refine WC_scope ?_ | refine WC_block ?_ | refine WC_ret ?_ | refine WC_exit ?_ | refine seqQ_norm ?_ | refine seqQ_ret ?_ | refine seqQ_exit ?_ | refine blkQ_norm ?_ | refine blkQ_ret ?_ | refine blkQ_here ?_ | refine gateK_yes ?_ | refine gateK_none ?_ | refine condK_tt ?_ | refine condK_ff ?_ | refine roundQ_exit ?_ | refine roundQ_ret ?_)
  | refine WC_region ?_ | refine blkQ_out rfl ?_ | refine WO_nil ?_ | refine WD_nil ?_
  | ((first | refine WD_gate rfl rfl rfl rfl rfl fun K_ hK_ => ?_ | refine WO_gate rfl rfl rfl rfl rfl fun K_ hK_ => ?_); simp only [upd_apply, asB_bool, asB_tup, ↓reduceIte, reduceCtorEq, Nat.reduceEqDiff, Bool.not_true, Bool.not_false]; refine hK_ _ ?_; clear hK_ K_)
  | refine gateK_no (by decide) ?_
  | ((try first | refine WO_op rfl rfl rfl ?_ | refine WO_op0 rfl rfl ?_ | refine WD_op rfl rfl rfl ?_ | refine WD_op0 rfl rfl ?_); (refine WV_gen fun Q_ hQ_ => ?_; simp (disch := first | omega | (simp only [List.length_cons, List.length_nil, List.length_append]; omega)) only [bb, bp, argF, ↓reduceIte, reduceCtorEq, Nat.reduceEqDiff, Nat.reduceLT, Nat.reduceLeDiff, Nat.reduceAdd, Nat.reduceMul, Nat.reduceSub, Nat.reduceBEq, Int.reduceToNat, cond_true, cond_false, eq_self, beq_self_eq_true, hch, he, newPtr_X wf, load1_X wf, loadAgg_X wf, store1_X wf, writeCells_X wf, makeFunc_def, tEvK3, bsl_47, newSlice_X wf]; first | (refine dec_split (Q := Q_) (fun hp_ => ?_) (fun hp_ => ?_) <;> first | (exfalso; omega) | (refine hQ_ _ _ ?_; clear hQ_ Q_)) | (refine dec_splitn (Q := Q_) (fun hp_ => ?_) (fun hp_ => ?_) <;> first | (exfalso; omega) | (refine hQ_ _ _ ?_; clear hQ_ Q_)) | (refine hQ_ _ _ ?_; clear hQ_ Q_) | (refine WV_eq (asked sp st _ what hwh h wf _ _ (by simp only [List.length_append, List.length_cons, List.length_nil]; omega)) ?_; refine hQ_ _ _ ?_; clear hQ_ Q_)))
  | (refine WC_cond fun K_ hK_ => ?_; simp (disch := omega) only [evT_tmp, upd_apply, WB_some, ↓reduceIte, reduceCtorEq, Nat.reduceEqDiff, Nat.reduceLT]; refine hK_ _ ?_; clear hK_ K_)))
    refine endQ_ret _ _ rfl (retc2 (by decide) (by decide) (by decide) (by simp (disch := first | omega | (simp only [List.length_cons, List.length_nil, List.length_append]; omega)) only [bb, bp, argF, ↓reduceIte, reduceCtorEq, Nat.reduceEqDiff, Nat.reduceLT, Nat.reduceLeDiff, Nat.reduceAdd, Nat.reduceMul, Nat.reduceSub, Nat.reduceBEq, Int.reduceToNat, cond_true, cond_false, eq_self, beq_self_eq_true, loadAgg_X wf, tEvK3, bsl_47, newSlice_X wf]; rfl)) ?_
    simp only [upd_apply, ↓reduceIte, reduceCtorEq, Nat.reduceEqDiff]
    refine WV_ext (by
      show (_ && flat (.tup [.agg [ii sp, ii st, .sl _ _ _ _ _], .fn _ _ _, ii 0])) = false
      exact Bool.and_false _) ?_
    refine ⟨rfl, ?_⟩
    rw [Nat.min_eq_left (by have := wf.wle; omega)]
  rw [key _ x, X_X, X_w]

/-- What a bound's check answers. -/
def bndErr (sp st : Int) (rows : List (List (Int × Int))) (what N D : Int) (high : Bool) : Int :=
  if hullErr sp st rows ≠ 0 then hullErr sp st rows else if ¬ (0 ≤ what ∧ what ≤ 2) then 3 else if isBnd N D = false then 2
  else if 0 < psum (bestG (gOf what) sp st rows (m0 rows) N D high) (rows.length * m0 rows) then 14 else 0

end Go.Proofs.Ytghondkiondeaab
end
