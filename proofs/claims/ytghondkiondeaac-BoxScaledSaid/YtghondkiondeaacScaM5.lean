import Derived.Test.YtghondkiondeaacScaM4
import Derived.Test.YtghondkiondeaacChecked
import Derived.Eval
import Derived.KernelRfl
import Derived.Test.YtghondkiondeaacRows
import Derived.WalkKit
import Derived.ProofKit
import Derived.OpenShut
set_option linter.all false
/- EvI3 -/
section
/-
  LAYER 2, THE REFERENCE: which hulls are valid.
-/
namespace Go.Proofs.Ytghondkiondeaac
open Go.Ev
set_option maxRecDepth 100000
set_option linter.unusedSimpArgs false
set_option linter.unusedVariables false
set_option maxHeartbeats 2000000

theorem tEvI3 : type_of% (And.intro (And.intro (And.intro (And.intro (@bs_26) (And.intro (@ia_26) (@sz_26))) (And.intro (And.intro (@ze_26) (@ia_2)) (And.intro (@sz_2) (@ze_2)))) (And.intro (And.intro (@ia_3) (And.intro (@sz_3) (@ia_53))) (And.intro (And.intro (@sz_53) (@ia_52)) (And.intro (@sz_52) (@ia_22))))) (And.intro (And.intro (And.intro (@sz_22) (And.intro (@ik_53) (@ik_52))) (And.intro (And.intro (@ik_22) (@ia_55)) (And.intro (@sz_55) (@ze_55)))) (And.intro (And.intro (@fo_55_0) (And.intro (@fo_55_1) (@fo_24_0))) (And.intro (And.intro (@fo_24_1) (@fo_24_2)) (And.intro (@ia_24) (@sz_24)))))) := And.intro (And.intro (And.intro (And.intro (@bs_26) (And.intro (@ia_26) (@sz_26))) (And.intro (And.intro (@ze_26) (@ia_2)) (And.intro (@sz_2) (@ze_2)))) (And.intro (And.intro (@ia_3) (And.intro (@sz_3) (@ia_53))) (And.intro (And.intro (@sz_53) (@ia_52)) (And.intro (@sz_52) (@ia_22))))) (And.intro (And.intro (And.intro (@sz_22) (And.intro (@ik_53) (@ik_52))) (And.intro (And.intro (@ik_22) (@ia_55)) (And.intro (@sz_55) (@ze_55)))) (And.intro (And.intro (@fo_55_0) (And.intro (@fo_55_1) (@fo_24_0))) (And.intro (And.intro (@fo_24_1) (@fo_24_2)) (And.intro (@ia_24) (@sz_24)))))
theorem checkHullR (sp st : Int) (a : AV) (rvs : List AV) (rows : List (List (Int × Int))) (h : H) (x : HullR h a rvs rows) :
    (om Try.prog KK).call (.fn 31 [.agg [ii sp, ii st, a]]) h = .ok (ii (hullErr sp st rows)) h := by
  have wf := x.wf
  refine WV_to (WV_call (fn := Try.f31) Try.func31 rfl rfl rfl rfl rfl ?_)
  simp only [argF]
  have hlen : ∀ h', lenE Try.prog 22 a h' = some (ii (rows.length : Int)) := fun h' => x.sl.len un_22
  by_cases hn : 2 ≤ rows.length ∧ rows.length ≤ 10
  · have h0 : 0 < rows.length := by omega
    obtain ⟨v0, hv0, hsv0⟩ := x.row 0 h0
    obtain ⟨id, off, hix, hld⟩ := x.sl.at1 wf h0 ik_22
    rw [hv0] at hld
    have hix' : indexAddrE Try.prog 22 a (.int .i64 0) = some (.ptr id off) := hix
    have em : m0 rows = rows[0].length := by unfold m0; simp [List.getD, h0]
    have hlen0 : ∀ h', lenE Try.prog 52 v0 h' = some (ii (m0 rows : Int)) := fun h' => by rw [em]; exact hsv0.len un_52
    by_cases hm : 2 ≤ m0 rows ∧ m0 rows ≤ 6
    · (repeat' (first
  | (with_reducible first | refine WC_seq ?_ | refine WC_skip ?_ | refine WC_label ?_ | refine WC_scope ?_ | refine WC_block ?_ | refine WC_ret ?_ | refine WC_exit ?_ | refine seqQ_norm ?_ | refine seqQ_ret ?_ | refine seqQ_exit ?_ | refine blkQ_norm ?_ | refine blkQ_ret ?_ | refine blkQ_here ?_ | refine gateK_yes ?_ | refine gateK_none ?_ | refine condK_tt ?_ | refine condK_ff ?_ | refine roundQ_exit ?_ | refine roundQ_ret ?_)
  | refine WC_region ?_ | refine blkQ_out rfl ?_ | refine WO_nil ?_ | refine WD_nil ?_
  | ((first | refine WD_gate rfl rfl rfl rfl rfl fun K_ hK_ => ?_ | refine WO_gate rfl rfl rfl rfl rfl fun K_ hK_ => ?_); simp only [upd_apply, asB_bool, asB_tup, ↓reduceIte, reduceCtorEq, Nat.reduceEqDiff, Bool.not_true, Bool.not_false]; refine hK_ _ ?_; clear hK_ K_)
  | refine gateK_no (by decide) ?_
  | ((try first | refine WO_op rfl rfl rfl ?_ | refine WO_op0 rfl rfl ?_ | refine WD_op rfl rfl rfl ?_ | refine WD_op0 rfl rfl ?_); (refine WV_gen fun Q_ hQ_ => ?_; simp (disch := first | omega | (simp only [List.length_cons, List.length_nil, List.length_append]; omega)) only [bb, bp, argF, ↓reduceIte, reduceCtorEq, Nat.reduceEqDiff, Nat.reduceLT, Nat.reduceLeDiff, Nat.reduceAdd, Nat.reduceMul, Nat.reduceSub, Nat.reduceBEq, Int.reduceToNat, cond_true, cond_false, eq_self, beq_self_eq_true, hlen, hix', hld, hlen0, newPtr_X wf, load1_X wf, loadAgg_X wf, store1_X wf, writeCells_X wf, makeFunc_def, tEvI3]; first | (refine dec_split (Q := Q_) (fun hp_ => ?_) (fun hp_ => ?_) <;> first | (exfalso; omega) | (refine hQ_ _ _ ?_; clear hQ_ Q_)) | (refine dec_splitn (Q := Q_) (fun hp_ => ?_) (fun hp_ => ?_) <;> first | (exfalso; omega) | (refine hQ_ _ _ ?_; clear hQ_ Q_)) | (refine hQ_ _ _ ?_; clear hQ_ Q_)))
  | (refine WC_cond fun K_ hK_ => ?_; simp (disch := omega) only [evT_tmp, upd_apply, WB_some, ↓reduceIte, reduceCtorEq, Nat.reduceEqDiff, Nat.reduceLT]; refine hK_ _ ?_; clear hK_ K_)))
      refine WC_loop (fun (i : Nat) f d h' => i ≤ rows.length ∧ (∀ j, j < i → ∀ hj : j < rows.length, rows[j].length = m0 rows) ∧ f 1 = .ptr (nx h 0) 0 ∧ f 3 = ii (rows.length : Int) ∧ f 4 = ii (i : Int) ∧ d = [] ∧ h' = X h [.cells (mkCells [ii sp, ii st, a]) 24] h.clock)
        (fun i => rows.length - i) ?_ (rows.length + 1) 0 (by omega) ?_
      · rintro i f d h' ⟨hi', hall, g1, g3, g4, rfl, rfl⟩
        by_cases hlt : i < rows.length
        · obtain ⟨v, hv, hsv⟩ := x.row i hlt
          obtain ⟨id, off, hix, hld2⟩ := x.sl.at1 wf hlt ik_22
          rw [hv] at hld2
          have hlenv : ∀ h', lenE Try.prog 52 v h' = some (ii (rows[i].length : Int)) := fun h' => hsv.len un_52
          (repeat' (first
  | (with_reducible first | refine WC_seq ?_ | refine WC_skip ?_ | refine WC_label ?_ | refine WC_scope ?_ | refine WC_block ?_ | refine WC_ret ?_ | refine WC_exit ?_ | refine seqQ_norm ?_ | refine seqQ_ret ?_ | refine seqQ_exit ?_ | refine blkQ_norm ?_ | refine blkQ_ret ?_ | refine blkQ_here ?_ | refine gateK_yes ?_ | refine gateK_none ?_ | refine condK_tt ?_ | refine condK_ff ?_ | refine roundQ_exit ?_ | refine roundQ_ret ?_)
  | refine WC_region ?_ | refine blkQ_out rfl ?_ | refine WO_nil ?_ | refine WD_nil ?_
  | ((first | refine WD_gate rfl rfl rfl rfl rfl fun K_ hK_ => ?_ | refine WO_gate rfl rfl rfl rfl rfl fun K_ hK_ => ?_); simp only [upd_apply, asB_bool, asB_tup, ↓reduceIte, reduceCtorEq, Nat.reduceEqDiff, Bool.not_true, Bool.not_false]; refine hK_ _ ?_; clear hK_ K_)
  | refine gateK_no (by decide) ?_
  | ((try first | refine WO_op rfl rfl rfl ?_ | refine WO_op0 rfl rfl ?_ | refine WD_op rfl rfl rfl ?_ | refine WD_op0 rfl rfl ?_); (refine WV_gen fun Q_ hQ_ => ?_; simp (disch := first | omega | (simp only [List.length_cons, List.length_nil, List.length_append]; omega)) only [bb, bp, argF, ↓reduceIte, reduceCtorEq, Nat.reduceEqDiff, Nat.reduceLT, Nat.reduceLeDiff, Nat.reduceAdd, Nat.reduceMul, Nat.reduceSub, Nat.reduceBEq, Int.reduceToNat, cond_true, cond_false, eq_self, beq_self_eq_true, g1, g3, g4, newPtr_X wf, load1_X wf, loadAgg_X wf, store1_X wf, writeCells_X wf, makeFunc_def, tEvI3]; first | (refine dec_split (Q := Q_) (fun hp_ => ?_) (fun hp_ => ?_) <;> first | (exfalso; omega) | (refine hQ_ _ _ ?_; clear hQ_ Q_)) | (refine dec_splitn (Q := Q_) (fun hp_ => ?_) (fun hp_ => ?_) <;> first | (exfalso; omega) | (refine hQ_ _ _ ?_; clear hQ_ Q_)) | (refine hQ_ _ _ ?_; clear hQ_ Q_)))
  | (refine WC_cond fun K_ hK_ => ?_; simp (disch := omega) only [evT_tmp, upd_apply, WB_some, ↓reduceIte, reduceCtorEq, Nat.reduceEqDiff, Nat.reduceLT]; refine hK_ _ ?_; clear hK_ K_)))
          refine WC_drawnB [.no, .no, .no, .no, .no, .no, .no, .no, .no, .no, .no, .full] (by kernel_rfl) ?_
          (repeat' (first
  | (with_reducible first | refine WC_seq ?_ | refine WC_skip ?_ | refine WC_label ?_ | refine WC_scope ?_ | refine WC_block ?_ | refine WC_ret ?_ | refine WC_exit ?_ | refine seqQ_norm ?_ | refine seqQ_ret ?_ | refine seqQ_exit ?_ | refine blkQ_norm ?_ | refine blkQ_ret ?_ | refine blkQ_here ?_ | refine gateK_yes ?_ | refine gateK_none ?_ | refine condK_tt ?_ | refine condK_ff ?_ | refine roundQ_exit ?_ | refine roundQ_ret ?_)
  | refine WC_region ?_ | refine blkQ_out rfl ?_ | refine WO_nil ?_ | refine WD_nil ?_
  | ((first | refine WD_gate rfl rfl rfl rfl rfl fun K_ hK_ => ?_ | refine WO_gate rfl rfl rfl rfl rfl fun K_ hK_ => ?_); simp only [upd_apply, asB_bool, asB_tup, ↓reduceIte, reduceCtorEq, Nat.reduceEqDiff, Bool.not_true, Bool.not_false]; refine hK_ _ ?_; clear hK_ K_)
  | refine gateK_no (by decide) ?_
  | ((try first | refine WO_op rfl rfl rfl ?_ | refine WO_op0 rfl rfl ?_ | refine WD_op rfl rfl rfl ?_ | refine WD_op0 rfl rfl ?_); (refine WV_gen fun Q_ hQ_ => ?_; simp (disch := first | omega | (simp only [List.length_cons, List.length_nil, List.length_append]; omega)) only [bb, bp, argF, ↓reduceIte, reduceCtorEq, Nat.reduceEqDiff, Nat.reduceLT, Nat.reduceLeDiff, Nat.reduceAdd, Nat.reduceMul, Nat.reduceSub, Nat.reduceBEq, Int.reduceToNat, cond_true, cond_false, eq_self, beq_self_eq_true, g1, g3, g4, hix, hld2, hlenv, hix', hld, hlen0, newPtr_X wf, load1_X wf, loadAgg_X wf, store1_X wf, writeCells_X wf, makeFunc_def, tEvI3]; first | (refine dec_split (Q := Q_) (fun hp_ => ?_) (fun hp_ => ?_) <;> first | (exfalso; omega) | (refine hQ_ _ _ ?_; clear hQ_ Q_)) | (refine dec_splitn (Q := Q_) (fun hp_ => ?_) (fun hp_ => ?_) <;> first | (exfalso; omega) | (refine hQ_ _ _ ?_; clear hQ_ Q_)) | (refine hQ_ _ _ ?_; clear hQ_ Q_)))
  | (refine WC_cond fun K_ hK_ => ?_; simp (disch := omega) only [evT_tmp, upd_apply, WB_some, ↓reduceIte, reduceCtorEq, Nat.reduceEqDiff, Nat.reduceLT]; refine hK_ _ ?_; clear hK_ K_)))
          · refine roundQ_again (i + 1) (by omega) ⟨hlt, ?_, by simp only [upd_apply, ↓reduceIte, reduceCtorEq, Nat.reduceEqDiff]; exact g1, by simp only [upd_apply, ↓reduceIte, reduceCtorEq, Nat.reduceEqDiff]; exact g3, by simp only [upd_apply, ↓reduceIte, reduceCtorEq, Nat.reduceEqDiff]; rfl, rfl, rfl⟩
            intro j hj hjl
            by_cases hji : j = i
            · subst hji; omega
            · exact hall j (by omega) hjl
          · (refine endQ_ret _ _ rfl (ret1 (by decide)) ?_; simp only [upd_apply, ↓reduceIte, reduceCtorEq, Nat.reduceEqDiff]; refine WV_flat rfl (by omega) ?_)
            refine ⟨?_, rfl⟩
            unfold hullErr
            rw [if_neg (not_not_intro hn), if_neg (not_not_intro hm), if_pos (fun hh => by have := hh _ (List.getElem_mem hlt); omega)]
        · have hie : i = rows.length := by omega
          subst hie
          have hall2 : ∀ row ∈ rows, row.length = m0 rows := fun row hr => by
            obtain ⟨j, hj, rfl⟩ := List.getElem_of_mem hr
            exact hall j hj hj
          have xat := x.at (m := m0 rows) (by omega) (fun i hi => hall2 _ (List.getElem_mem hi))
          by_cases hss : (1 ≤ sp ∧ sp ≤ 1000) ∧ (1 ≤ st ∧ st ≤ 100)
          · (repeat' (first
  | (with_reducible first | refine WC_seq ?_ | refine WC_skip ?_ | refine WC_label ?_ | refine WC_scope ?_ | refine WC_block ?_ | refine WC_ret ?_ | refine WC_exit ?_ | refine seqQ_norm ?_ | refine seqQ_ret ?_ | refine seqQ_exit ?_ | refine blkQ_norm ?_ | refine blkQ_ret ?_ | refine blkQ_here ?_ | refine gateK_yes ?_ | refine gateK_none ?_ | refine condK_tt ?_ | refine condK_ff ?_ | refine roundQ_exit ?_ | refine roundQ_ret ?_)
  | refine WC_region ?_ | refine blkQ_out rfl ?_ | refine WO_nil ?_ | refine WD_nil ?_
  | ((first | refine WD_gate rfl rfl rfl rfl rfl fun K_ hK_ => ?_ | refine WO_gate rfl rfl rfl rfl rfl fun K_ hK_ => ?_); simp only [upd_apply, asB_bool, asB_tup, ↓reduceIte, reduceCtorEq, Nat.reduceEqDiff, Bool.not_true, Bool.not_false]; refine hK_ _ ?_; clear hK_ K_)
  | refine gateK_no (by decide) ?_
  | ((try first | refine WO_op rfl rfl rfl ?_ | refine WO_op0 rfl rfl ?_ | refine WD_op rfl rfl rfl ?_ | refine WD_op0 rfl rfl ?_); (refine WV_gen fun Q_ hQ_ => ?_; simp (disch := first | omega | (simp only [List.length_cons, List.length_nil, List.length_append]; omega)) only [bb, bp, argF, ↓reduceIte, reduceCtorEq, Nat.reduceEqDiff, Nat.reduceLT, Nat.reduceLeDiff, Nat.reduceAdd, Nat.reduceMul, Nat.reduceSub, Nat.reduceBEq, Int.reduceToNat, cond_true, cond_false, eq_self, beq_self_eq_true, g1, g3, g4, newPtr_X wf, load1_X wf, loadAgg_X wf, store1_X wf, writeCells_X wf, makeFunc_def, tEvI3]; first | (refine dec_split (Q := Q_) (fun hp_ => ?_) (fun hp_ => ?_) <;> first | (exfalso; omega) | (refine hQ_ _ _ ?_; clear hQ_ Q_)) | (refine dec_splitn (Q := Q_) (fun hp_ => ?_) (fun hp_ => ?_) <;> first | (exfalso; omega) | (refine hQ_ _ _ ?_; clear hQ_ Q_)) | (refine hQ_ _ _ ?_; clear hQ_ Q_)))
  | (refine WC_cond fun K_ hK_ => ?_; simp (disch := omega) only [evT_tmp, upd_apply, WB_some, ↓reduceIte, reduceCtorEq, Nat.reduceEqDiff, Nat.reduceLT]; refine hK_ _ ?_; clear hK_ K_)))
            refine WC_loop (fun (i : Nat) f d h' => i ≤ rows.length ∧ (∀ r ∈ (rows.take i).flatten, isOff r) ∧ f 1 = .ptr (nx h 0) 0 ∧ f 3 = ii (rows.length : Int) ∧ f 5 = .bool (decide (0 < mx (rows.take i).flatten)) ∧ f 6 = ii (i : Int) ∧ d = [] ∧ ∃ J, h' = X h (.cells (mkCells [ii sp, ii st, a]) 24 :: J) h.clock) (fun i => rows.length - i) ?_ (rows.length + 1) 0 (by omega) ?_
            · rintro i f d h' ⟨hi', hofs, g1, g3, g5, g6, rfl, J, rfl⟩
              by_cases hlt : i < rows.length
              · obtain ⟨v, hv, hsv, hrl⟩ := xat.row i hlt
                obtain ⟨id, off, hix, hld2⟩ := x.sl.at1 wf hlt ik_22
                rw [hv] at hld2
                have hlenv : ∀ h', lenE Try.prog 52 v h' = some (ii (m0 rows : Int)) := fun h' => hsv.len un_52
                (repeat' (first
  | (with_reducible first | refine WC_seq ?_ | refine WC_skip ?_ | refine WC_label ?_ | refine WC_scope ?_ | refine WC_block ?_ | refine WC_ret ?_ | refine WC_exit ?_ | refine seqQ_norm ?_ | refine seqQ_ret ?_ | refine seqQ_exit ?_ | refine blkQ_norm ?_ | refine blkQ_ret ?_ | refine blkQ_here ?_ | refine gateK_yes ?_ | refine gateK_none ?_ | refine condK_tt ?_ | refine condK_ff ?_ | refine roundQ_exit ?_ | refine roundQ_ret ?_)
  | refine WC_region ?_ | refine blkQ_out rfl ?_ | refine WO_nil ?_ | refine WD_nil ?_
  | ((first | refine WD_gate rfl rfl rfl rfl rfl fun K_ hK_ => ?_ | refine WO_gate rfl rfl rfl rfl rfl fun K_ hK_ => ?_); simp only [upd_apply, asB_bool, asB_tup, ↓reduceIte, reduceCtorEq, Nat.reduceEqDiff, Bool.not_true, Bool.not_false]; refine hK_ _ ?_; clear hK_ K_)
  | refine gateK_no (by decide) ?_
  | ((try first | refine WO_op rfl rfl rfl ?_ | refine WO_op0 rfl rfl ?_ | refine WD_op rfl rfl rfl ?_ | refine WD_op0 rfl rfl ?_); (refine WV_gen fun Q_ hQ_ => ?_; simp (disch := first | omega | (simp only [List.length_cons, List.length_nil, List.length_append]; omega)) only [bb, bp, argF, ↓reduceIte, reduceCtorEq, Nat.reduceEqDiff, Nat.reduceLT, Nat.reduceLeDiff, Nat.reduceAdd, Nat.reduceMul, Nat.reduceSub, Nat.reduceBEq, Int.reduceToNat, cond_true, cond_false, eq_self, beq_self_eq_true, g1, g3, g5, g6, newPtr_X wf, load1_X wf, loadAgg_X wf, store1_X wf, writeCells_X wf, makeFunc_def, tEvI3]; first | (refine dec_split (Q := Q_) (fun hp_ => ?_) (fun hp_ => ?_) <;> first | (exfalso; omega) | (refine hQ_ _ _ ?_; clear hQ_ Q_)) | (refine dec_splitn (Q := Q_) (fun hp_ => ?_) (fun hp_ => ?_) <;> first | (exfalso; omega) | (refine hQ_ _ _ ?_; clear hQ_ Q_)) | (refine hQ_ _ _ ?_; clear hQ_ Q_)))
  | (refine WC_cond fun K_ hK_ => ?_; simp (disch := omega) only [evT_tmp, upd_apply, WB_some, ↓reduceIte, reduceCtorEq, Nat.reduceEqDiff, Nat.reduceLT]; refine hK_ _ ?_; clear hK_ K_)))
                refine WC_loop (fun (k : Nat) f d h' => k ≤ m0 rows ∧ (∀ r ∈ (rows.take i).flatten ++ rows[i].take k, isOff r) ∧ f 1 = .ptr (nx h 0) 0 ∧ f 3 = ii (rows.length : Int) ∧ f 5 = .bool (decide (0 < mx ((rows.take i).flatten ++ rows[i].take k))) ∧ f 6 = ii (i : Int) ∧ f 7 = ii (k : Int) ∧ d = [] ∧ ∃ J, h' = X h (.cells (mkCells [ii sp, ii st, a]) 24 :: J) h.clock)
                  (fun k => m0 rows - k) ?_ (m0 rows + 1) 0 (by omega) ?_
                · clear g1 g3 g5 g6 hofs
                  rintro k f d h' ⟨hk, hofs, g1, g3, g5, g6, g7, rfl, J, rfl⟩
                  by_cases hkl : k < m0 rows
                  · obtain ⟨id3, off3, hix3, hld3⟩ := hsv.at wf hkl ik_52
                    have hkr : k < rows[i].length := by omega
                    have hrow : ∀ l w, loadAgg id3 off3 (some 2) (X h l w) = some (.agg [ii rows[i][k].1, ii rows[i][k].2]) := fun l w => by rw [(hld3 l w).2, pairCells_at hkr]
                    have hmem : rows[i][k] ∈ rows.flatten := List.mem_flatten.2 ⟨rows[i], List.getElem_mem _, List.getElem_mem _⟩
                    by_cases hio : isOff rows[i][k]
                    · have hio' := hio
                      unfold isOff at hio'
                      have hnext : ∀ r ∈ (rows.take i).flatten ++ rows[i].take (k + 1), isOff r := fun r hr => by
                        rw [take_one hkr, ← List.append_assoc] at hr
                        rcases List.mem_append.1 hr with hr | hr
                        · exact hofs r hr
                        · rw [List.mem_singleton.1 hr]; exact hio
                      by_cases hmx : 0 < mx ((rows.take i).flatten ++ rows[i].take k)
                      · rw [decide_eq_true hmx] at g5
                        (repeat' (first
  | (with_reducible first | refine WC_seq ?_ | refine WC_skip ?_ | refine WC_label ?_ | refine WC_scope ?_ | refine WC_block ?_ | refine WC_ret ?_ | refine WC_exit ?_ | refine seqQ_norm ?_ | refine seqQ_ret ?_ | refine seqQ_exit ?_ | refine blkQ_norm ?_ | refine blkQ_ret ?_ | refine blkQ_here ?_ | refine gateK_yes ?_ | refine gateK_none ?_ | refine condK_tt ?_ | refine condK_ff ?_ | refine roundQ_exit ?_ | refine roundQ_ret ?_)
  | refine WC_region ?_ | refine blkQ_out rfl ?_ | refine WO_nil ?_ | refine WD_nil ?_
  | ((first | refine WD_gate rfl rfl rfl rfl rfl fun K_ hK_ => ?_ | refine WO_gate rfl rfl rfl rfl rfl fun K_ hK_ => ?_); simp only [upd_apply, asB_bool, asB_tup, ↓reduceIte, reduceCtorEq, Nat.reduceEqDiff, Bool.not_true, Bool.not_false]; refine hK_ _ ?_; clear hK_ K_)
  | refine gateK_no (by decide) ?_
  | ((try first | refine WO_op rfl rfl rfl ?_ | refine WO_op0 rfl rfl ?_ | refine WD_op rfl rfl rfl ?_ | refine WD_op0 rfl rfl ?_); (refine WV_gen fun Q_ hQ_ => ?_; simp (disch := first | omega | (simp only [List.length_cons, List.length_nil, List.length_append]; omega)) only [bb, bp, argF, ↓reduceIte, reduceCtorEq, Nat.reduceEqDiff, Nat.reduceLT, Nat.reduceLeDiff, Nat.reduceAdd, Nat.reduceMul, Nat.reduceSub, Nat.reduceBEq, Int.reduceToNat, cond_true, cond_false, eq_self, beq_self_eq_true, g1, g3, g5, g6, g7, hix, hld2, hlenv, hix3, hrow, newPtr_X wf, load1_X wf, loadAgg_X wf, store1_X wf, writeCells_X wf, makeFunc_def, tEvI3]; first | (refine dec_split (Q := Q_) (fun hp_ => ?_) (fun hp_ => ?_) <;> first | (exfalso; omega) | (refine hQ_ _ _ ?_; clear hQ_ Q_)) | (refine dec_splitn (Q := Q_) (fun hp_ => ?_) (fun hp_ => ?_) <;> first | (exfalso; omega) | (refine hQ_ _ _ ?_; clear hQ_ Q_)) | (refine hQ_ _ _ ?_; clear hQ_ Q_)))
  | (refine WC_cond fun K_ hK_ => ?_; simp (disch := omega) only [evT_tmp, upd_apply, WB_some, ↓reduceIte, reduceCtorEq, Nat.reduceEqDiff, Nat.reduceLT]; refine hK_ _ ?_; clear hK_ K_)))
                        refine roundQ_again (k + 1) (by omega) ⟨hkl, hnext, by simp only [upd_apply, ↓reduceIte, reduceCtorEq, Nat.reduceEqDiff]; exact g1, by simp only [upd_apply, ↓reduceIte, reduceCtorEq, Nat.reduceEqDiff]; exact g3, ?_, by simp only [upd_apply, ↓reduceIte, reduceCtorEq, Nat.reduceEqDiff]; exact g6, by simp only [upd_apply, ↓reduceIte, reduceCtorEq, Nat.reduceEqDiff]; rfl, rfl, _, rfl⟩
                        simp only [upd_apply, ↓reduceIte, reduceCtorEq, Nat.reduceEqDiff]
                        rw [take_one hkr, ← List.append_assoc, mx_snoc, decide_eq_true (by omega)]
                      · rw [decide_eq_false hmx] at g5
                        have hge := mx_nonneg ((rows.take i).flatten ++ rows[i].take k)
                        (repeat' (first
  | (with_reducible first | refine WC_seq ?_ | refine WC_skip ?_ | refine WC_label ?_ | refine WC_scope ?_ | refine WC_block ?_ | refine WC_ret ?_ | refine WC_exit ?_ | refine seqQ_norm ?_ | refine seqQ_ret ?_ | refine seqQ_exit ?_ | refine blkQ_norm ?_ | refine blkQ_ret ?_ | refine blkQ_here ?_ | refine gateK_yes ?_ | refine gateK_none ?_ | refine condK_tt ?_ | refine condK_ff ?_ | refine roundQ_exit ?_ | refine roundQ_ret ?_)
  | refine WC_region ?_ | refine blkQ_out rfl ?_ | refine WO_nil ?_ | refine WD_nil ?_
  | ((first | refine WD_gate rfl rfl rfl rfl rfl fun K_ hK_ => ?_ | refine WO_gate rfl rfl rfl rfl rfl fun K_ hK_ => ?_); simp only [upd_apply, asB_bool, asB_tup, ↓reduceIte, reduceCtorEq, Nat.reduceEqDiff, Bool.not_true, Bool.not_false]; refine hK_ _ ?_; clear hK_ K_)
  | refine gateK_no (by decide) ?_
  | ((try first | refine WO_op rfl rfl rfl ?_ | refine WO_op0 rfl rfl ?_ | refine WD_op rfl rfl rfl ?_ | refine WD_op0 rfl rfl ?_); (refine WV_gen fun Q_ hQ_ => ?_; simp (disch := first | omega | (simp only [List.length_cons, List.length_nil, List.length_append]; omega)) only [bb, bp, argF, ↓reduceIte, reduceCtorEq, Nat.reduceEqDiff, Nat.reduceLT, Nat.reduceLeDiff, Nat.reduceAdd, Nat.reduceMul, Nat.reduceSub, Nat.reduceBEq, Int.reduceToNat, cond_true, cond_false, eq_self, beq_self_eq_true, g1, g3, g5, g6, g7, hix, hld2, hlenv, hix3, hrow, newPtr_X wf, load1_X wf, loadAgg_X wf, store1_X wf, writeCells_X wf, makeFunc_def, tEvI3]; first | (refine dec_split (Q := Q_) (fun hp_ => ?_) (fun hp_ => ?_) <;> first | (exfalso; omega) | (refine hQ_ _ _ ?_; clear hQ_ Q_)) | (refine dec_splitn (Q := Q_) (fun hp_ => ?_) (fun hp_ => ?_) <;> first | (exfalso; omega) | (refine hQ_ _ _ ?_; clear hQ_ Q_)) | (refine hQ_ _ _ ?_; clear hQ_ Q_)))
  | (refine WC_cond fun K_ hK_ => ?_; simp (disch := omega) only [evT_tmp, upd_apply, WB_some, ↓reduceIte, reduceCtorEq, Nat.reduceEqDiff, Nat.reduceLT]; refine hK_ _ ?_; clear hK_ K_)))
                        all_goals
                          refine roundQ_again (k + 1) (by omega) ⟨hkl, hnext, by simp only [upd_apply, ↓reduceIte, reduceCtorEq, Nat.reduceEqDiff]; exact g1, by simp only [upd_apply, ↓reduceIte, reduceCtorEq, Nat.reduceEqDiff]; exact g3, ?_, by simp only [upd_apply, ↓reduceIte, reduceCtorEq, Nat.reduceEqDiff]; exact g6, by simp only [upd_apply, ↓reduceIte, reduceCtorEq, Nat.reduceEqDiff]; rfl, rfl, _, rfl⟩
                          simp only [upd_apply, ↓reduceIte, reduceCtorEq, Nat.reduceEqDiff]
                          rw [take_one hkr, ← List.append_assoc, mx_snoc]
                          first | rw [decide_eq_true (by omega)] | rw [decide_eq_false (by omega)]
                    · have hio' := hio
                      unfold isOff at hio'
                      (repeat' (first
  | (with_reducible first | refine WC_seq ?_ | refine WC_skip ?_ | refine WC_label ?_ | refine WC_scope ?_ | refine WC_block ?_ | refine WC_ret ?_ | refine WC_exit ?_ | refine seqQ_norm ?_ | refine seqQ_ret ?_ | refine seqQ_exit ?_ | refine blkQ_norm ?_ | refine blkQ_ret ?_ | refine blkQ_here ?_ | refine gateK_yes ?_ | refine gateK_none ?_ | refine condK_tt ?_ | refine condK_ff ?_ | refine roundQ_exit ?_ | refine roundQ_ret ?_)
  | refine WC_region ?_ | refine blkQ_out rfl ?_ | refine WO_nil ?_ | refine WD_nil ?_
  | ((first | refine WD_gate rfl rfl rfl rfl rfl fun K_ hK_ => ?_ | refine WO_gate rfl rfl rfl rfl rfl fun K_ hK_ => ?_); simp only [upd_apply, asB_bool, asB_tup, ↓reduceIte, reduceCtorEq, Nat.reduceEqDiff, Bool.not_true, Bool.not_false]; refine hK_ _ ?_; clear hK_ K_)
  | refine gateK_no (by decide) ?_
  | ((try first | refine WO_op rfl rfl rfl ?_ | refine WO_op0 rfl rfl ?_ | refine WD_op rfl rfl rfl ?_ | refine WD_op0 rfl rfl ?_); (refine WV_gen fun Q_ hQ_ => ?_; simp (disch := first | omega | (simp only [List.length_cons, List.length_nil, List.length_append]; omega)) only [bb, bp, argF, ↓reduceIte, reduceCtorEq, Nat.reduceEqDiff, Nat.reduceLT, Nat.reduceLeDiff, Nat.reduceAdd, Nat.reduceMul, Nat.reduceSub, Nat.reduceBEq, Int.reduceToNat, cond_true, cond_false, eq_self, beq_self_eq_true, g1, g3, g5, g6, g7, hix, hld2, hlenv, hix3, hrow, newPtr_X wf, load1_X wf, loadAgg_X wf, store1_X wf, writeCells_X wf, makeFunc_def, tEvI3]; first | (refine dec_split (Q := Q_) (fun hp_ => ?_) (fun hp_ => ?_) <;> first | (exfalso; omega) | (refine hQ_ _ _ ?_; clear hQ_ Q_)) | (refine dec_splitn (Q := Q_) (fun hp_ => ?_) (fun hp_ => ?_) <;> first | (exfalso; omega) | (refine hQ_ _ _ ?_; clear hQ_ Q_)) | (refine hQ_ _ _ ?_; clear hQ_ Q_)))
  | (refine WC_cond fun K_ hK_ => ?_; simp (disch := omega) only [evT_tmp, upd_apply, WB_some, ↓reduceIte, reduceCtorEq, Nat.reduceEqDiff, Nat.reduceLT]; refine hK_ _ ?_; clear hK_ K_)))
                      all_goals (refine endQ_ret _ _ rfl (ret1 (by decide)) ?_; simp only [upd_apply, ↓reduceIte, reduceCtorEq, Nat.reduceEqDiff]; refine WV_flat rfl (by omega) ?_)
                      all_goals refine ⟨?_, rfl⟩
                      all_goals unfold hullErr
                      all_goals rw [if_neg (not_not_intro hn), if_neg (not_not_intro hm), if_neg (not_not_intro hall2), if_pos (fun hh => absurd (hh.2.2.1 _ hmem) hio)]
                  · have hke : k = m0 rows := by omega
                    have htk : rows[i].take k = rows[i] := List.take_of_length_le (by omega)
                    rw [htk, ← take_flat hlt] at hofs g5
                    (repeat' (first
  | (with_reducible first | refine WC_seq ?_ | refine WC_skip ?_ | refine WC_label ?_ | refine WC_scope ?_ | refine WC_block ?_ | refine WC_ret ?_ | refine WC_exit ?_ | refine seqQ_norm ?_ | refine seqQ_ret ?_ | refine seqQ_exit ?_ | refine blkQ_norm ?_ | refine blkQ_ret ?_ | refine blkQ_here ?_ | refine gateK_yes ?_ | refine gateK_none ?_ | refine condK_tt ?_ | refine condK_ff ?_ | refine roundQ_exit ?_ | refine roundQ_ret ?_)
  | refine WC_region ?_ | refine blkQ_out rfl ?_ | refine WO_nil ?_ | refine WD_nil ?_
  | ((first | refine WD_gate rfl rfl rfl rfl rfl fun K_ hK_ => ?_ | refine WO_gate rfl rfl rfl rfl rfl fun K_ hK_ => ?_); simp only [upd_apply, asB_bool, asB_tup, ↓reduceIte, reduceCtorEq, Nat.reduceEqDiff, Bool.not_true, Bool.not_false]; refine hK_ _ ?_; clear hK_ K_)
  | refine gateK_no (by decide) ?_
  | ((try first | refine WO_op rfl rfl rfl ?_ | refine WO_op0 rfl rfl ?_ | refine WD_op rfl rfl rfl ?_ | refine WD_op0 rfl rfl ?_); (refine WV_gen fun Q_ hQ_ => ?_; simp (disch := first | omega | (simp only [List.length_cons, List.length_nil, List.length_append]; omega)) only [bb, bp, argF, ↓reduceIte, reduceCtorEq, Nat.reduceEqDiff, Nat.reduceLT, Nat.reduceLeDiff, Nat.reduceAdd, Nat.reduceMul, Nat.reduceSub, Nat.reduceBEq, Int.reduceToNat, cond_true, cond_false, eq_self, beq_self_eq_true, g1, g3, g5, g6, g7, hix, hld2, hlenv, newPtr_X wf, load1_X wf, loadAgg_X wf, store1_X wf, writeCells_X wf, makeFunc_def, tEvI3]; first | (refine dec_split (Q := Q_) (fun hp_ => ?_) (fun hp_ => ?_) <;> first | (exfalso; omega) | (refine hQ_ _ _ ?_; clear hQ_ Q_)) | (refine dec_splitn (Q := Q_) (fun hp_ => ?_) (fun hp_ => ?_) <;> first | (exfalso; omega) | (refine hQ_ _ _ ?_; clear hQ_ Q_)) | (refine hQ_ _ _ ?_; clear hQ_ Q_)))
  | (refine WC_cond fun K_ hK_ => ?_; simp (disch := omega) only [evT_tmp, upd_apply, WB_some, ↓reduceIte, reduceCtorEq, Nat.reduceEqDiff, Nat.reduceLT]; refine hK_ _ ?_; clear hK_ K_)))
                    refine roundQ_again (i + 1) (by omega) ⟨hlt, hofs, by simp only [upd_apply, ↓reduceIte, reduceCtorEq, Nat.reduceEqDiff]; exact g1, by simp only [upd_apply, ↓reduceIte, reduceCtorEq, Nat.reduceEqDiff]; exact g3, by simp only [upd_apply, ↓reduceIte, reduceCtorEq, Nat.reduceEqDiff]; exact g5, by simp only [upd_apply, ↓reduceIte, reduceCtorEq, Nat.reduceEqDiff]; rfl, rfl, _, rfl⟩
                · exact ⟨Nat.zero_le _, by simpa using hofs, by simp only [upd_apply, ↓reduceIte, reduceCtorEq, Nat.reduceEqDiff]; exact g1, by simp only [upd_apply, ↓reduceIte, reduceCtorEq, Nat.reduceEqDiff]; exact g3, by simp only [upd_apply, ↓reduceIte, reduceCtorEq, Nat.reduceEqDiff]; simpa using g5, by simp only [upd_apply, ↓reduceIte, reduceCtorEq, Nat.reduceEqDiff]; exact g6, by simp only [upd_apply, ↓reduceIte, reduceCtorEq, Nat.reduceEqDiff]; (try rfl), rfl, _, rfl⟩
              · have hie : i = rows.length := by omega
                subst hie
                rw [List.take_length] at hofs g5
                by_cases hmx : 0 < mx rows.flatten
                · rw [decide_eq_true hmx] at g5
                  (repeat' (first
  | (with_reducible first | refine WC_seq ?_ | refine WC_skip ?_ | refine WC_label ?_ | refine WC_scope ?_ | refine WC_block ?_ | refine WC_ret ?_ | refine WC_exit ?_ | refine seqQ_norm ?_ | refine seqQ_ret ?_ | refine seqQ_exit ?_ | refine blkQ_norm ?_ | refine blkQ_ret ?_ | refine blkQ_here ?_ | refine gateK_yes ?_ | refine gateK_none ?_ | refine condK_tt ?_ | refine condK_ff ?_ | refine roundQ_exit ?_ | refine roundQ_ret ?_)
  | refine WC_region ?_ | refine blkQ_out rfl ?_ | refine WO_nil ?_ | refine WD_nil ?_
  | ((first | refine WD_gate rfl rfl rfl rfl rfl fun K_ hK_ => ?_ | refine WO_gate rfl rfl rfl rfl rfl fun K_ hK_ => ?_); simp only [upd_apply, asB_bool, asB_tup, ↓reduceIte, reduceCtorEq, Nat.reduceEqDiff, Bool.not_true, Bool.not_false]; refine hK_ _ ?_; clear hK_ K_)
  | refine gateK_no (by decide) ?_
  | ((try first | refine WO_op rfl rfl rfl ?_ | refine WO_op0 rfl rfl ?_ | refine WD_op rfl rfl rfl ?_ | refine WD_op0 rfl rfl ?_); (refine WV_gen fun Q_ hQ_ => ?_; simp (disch := first | omega | (simp only [List.length_cons, List.length_nil, List.length_append]; omega)) only [bb, bp, argF, ↓reduceIte, reduceCtorEq, Nat.reduceEqDiff, Nat.reduceLT, Nat.reduceLeDiff, Nat.reduceAdd, Nat.reduceMul, Nat.reduceSub, Nat.reduceBEq, Int.reduceToNat, cond_true, cond_false, eq_self, beq_self_eq_true, g1, g3, g5, g6, newPtr_X wf, load1_X wf, loadAgg_X wf, store1_X wf, writeCells_X wf, makeFunc_def, tEvI3]; first | (refine dec_split (Q := Q_) (fun hp_ => ?_) (fun hp_ => ?_) <;> first | (exfalso; omega) | (refine hQ_ _ _ ?_; clear hQ_ Q_)) | (refine dec_splitn (Q := Q_) (fun hp_ => ?_) (fun hp_ => ?_) <;> first | (exfalso; omega) | (refine hQ_ _ _ ?_; clear hQ_ Q_)) | (refine hQ_ _ _ ?_; clear hQ_ Q_)))
  | (refine WC_cond fun K_ hK_ => ?_; simp (disch := omega) only [evT_tmp, upd_apply, WB_some, ↓reduceIte, reduceCtorEq, Nat.reduceEqDiff, Nat.reduceLT]; refine hK_ _ ?_; clear hK_ K_)))
                  (refine endQ_ret _ _ rfl (ret1 (by decide)) ?_; simp only [upd_apply, ↓reduceIte, reduceCtorEq, Nat.reduceEqDiff]; refine WV_flat rfl (by omega) ?_)
                  refine ⟨?_, rfl⟩
                  unfold hullErr
                  rw [if_neg (not_not_intro hn), if_neg (not_not_intro hm), if_neg (not_not_intro hall2), if_neg (not_not_intro ⟨hss.1, hss.2, hofs, hmx⟩)]
                · rw [decide_eq_false hmx] at g5
                  (repeat' (first
  | (with_reducible first | refine WC_seq ?_ | refine WC_skip ?_ | refine WC_label ?_ | refine WC_scope ?_ | refine WC_block ?_ | refine WC_ret ?_ | refine WC_exit ?_ | refine seqQ_norm ?_ | refine seqQ_ret ?_ | refine seqQ_exit ?_ | refine blkQ_norm ?_ | refine blkQ_ret ?_ | refine blkQ_here ?_ | refine gateK_yes ?_ | refine gateK_none ?_ | refine condK_tt ?_ | refine condK_ff ?_ | refine roundQ_exit ?_ | refine roundQ_ret ?_)
  | refine WC_region ?_ | refine blkQ_out rfl ?_ | refine WO_nil ?_ | refine WD_nil ?_
  | ((first | refine WD_gate rfl rfl rfl rfl rfl fun K_ hK_ => ?_ | refine WO_gate rfl rfl rfl rfl rfl fun K_ hK_ => ?_); simp only [upd_apply, asB_bool, asB_tup, ↓reduceIte, reduceCtorEq, Nat.reduceEqDiff, Bool.not_true, Bool.not_false]; refine hK_ _ ?_; clear hK_ K_)
  | refine gateK_no (by decide) ?_
  | ((try first | refine WO_op rfl rfl rfl ?_ | refine WO_op0 rfl rfl ?_ | refine WD_op rfl rfl rfl ?_ | refine WD_op0 rfl rfl ?_); (refine WV_gen fun Q_ hQ_ => ?_; simp (disch := first | omega | (simp only [List.length_cons, List.length_nil, List.length_append]; omega)) only [bb, bp, argF, ↓reduceIte, reduceCtorEq, Nat.reduceEqDiff, Nat.reduceLT, Nat.reduceLeDiff, Nat.reduceAdd, Nat.reduceMul, Nat.reduceSub, Nat.reduceBEq, Int.reduceToNat, cond_true, cond_false, eq_self, beq_self_eq_true, g1, g3, g5, g6, newPtr_X wf, load1_X wf, loadAgg_X wf, store1_X wf, writeCells_X wf, makeFunc_def, tEvI3]; first | (refine dec_split (Q := Q_) (fun hp_ => ?_) (fun hp_ => ?_) <;> first | (exfalso; omega) | (refine hQ_ _ _ ?_; clear hQ_ Q_)) | (refine dec_splitn (Q := Q_) (fun hp_ => ?_) (fun hp_ => ?_) <;> first | (exfalso; omega) | (refine hQ_ _ _ ?_; clear hQ_ Q_)) | (refine hQ_ _ _ ?_; clear hQ_ Q_)))
  | (refine WC_cond fun K_ hK_ => ?_; simp (disch := omega) only [evT_tmp, upd_apply, WB_some, ↓reduceIte, reduceCtorEq, Nat.reduceEqDiff, Nat.reduceLT]; refine hK_ _ ?_; clear hK_ K_)))
                  (refine endQ_ret _ _ rfl (ret1 (by decide)) ?_; simp only [upd_apply, ↓reduceIte, reduceCtorEq, Nat.reduceEqDiff]; refine WV_flat rfl (by omega) ?_)
                  refine ⟨?_, rfl⟩
                  unfold hullErr
                  rw [if_neg (not_not_intro hn), if_neg (not_not_intro hm), if_neg (not_not_intro hall2), if_pos (fun hh => absurd hh.2.2.2 hmx)]
            · exact ⟨Nat.zero_le _, by simp, by simp only [upd_apply, ↓reduceIte, reduceCtorEq, Nat.reduceEqDiff]; exact g1, by simp only [upd_apply, ↓reduceIte, reduceCtorEq, Nat.reduceEqDiff]; exact g3, by simp only [upd_apply, ↓reduceIte, reduceCtorEq, Nat.reduceEqDiff]; rfl, by simp only [upd_apply, ↓reduceIte, reduceCtorEq, Nat.reduceEqDiff]; (try rfl), rfl, [], rfl⟩
          · (repeat' (first
  | (with_reducible first | refine WC_seq ?_ | refine WC_skip ?_ | refine WC_label ?_ | refine WC_scope ?_ | refine WC_block ?_ | refine WC_ret ?_ | refine WC_exit ?_ | refine seqQ_norm ?_ | refine seqQ_ret ?_ | refine seqQ_exit ?_ | refine blkQ_norm ?_ | refine blkQ_ret ?_ | refine blkQ_here ?_ | refine gateK_yes ?_ | refine gateK_none ?_ | refine condK_tt ?_ | refine condK_ff ?_ | refine roundQ_exit ?_ | refine roundQ_ret ?_)
  | refine WC_region ?_ | refine blkQ_out rfl ?_ | refine WO_nil ?_ | refine WD_nil ?_
  | ((first | refine WD_gate rfl rfl rfl rfl rfl fun K_ hK_ => ?_ | refine WO_gate rfl rfl rfl rfl rfl fun K_ hK_ => ?_); simp only [upd_apply, asB_bool, asB_tup, ↓reduceIte, reduceCtorEq, Nat.reduceEqDiff, Bool.not_true, Bool.not_false]; refine hK_ _ ?_; clear hK_ K_)
  | refine gateK_no (by decide) ?_
  | ((try first | refine WO_op rfl rfl rfl ?_ | refine WO_op0 rfl rfl ?_ | refine WD_op rfl rfl rfl ?_ | refine WD_op0 rfl rfl ?_); (refine WV_gen fun Q_ hQ_ => ?_; simp (disch := first | omega | (simp only [List.length_cons, List.length_nil, List.length_append]; omega)) only [bb, bp, argF, ↓reduceIte, reduceCtorEq, Nat.reduceEqDiff, Nat.reduceLT, Nat.reduceLeDiff, Nat.reduceAdd, Nat.reduceMul, Nat.reduceSub, Nat.reduceBEq, Int.reduceToNat, cond_true, cond_false, eq_self, beq_self_eq_true, g1, g3, g4, newPtr_X wf, load1_X wf, loadAgg_X wf, store1_X wf, writeCells_X wf, makeFunc_def, tEvI3]; first | (refine dec_split (Q := Q_) (fun hp_ => ?_) (fun hp_ => ?_) <;> first | (exfalso; omega) | (refine hQ_ _ _ ?_; clear hQ_ Q_)) | (refine dec_splitn (Q := Q_) (fun hp_ => ?_) (fun hp_ => ?_) <;> first | (exfalso; omega) | (refine hQ_ _ _ ?_; clear hQ_ Q_)) | (refine hQ_ _ _ ?_; clear hQ_ Q_)))
  | (refine WC_cond fun K_ hK_ => ?_; simp (disch := omega) only [evT_tmp, upd_apply, WB_some, ↓reduceIte, reduceCtorEq, Nat.reduceEqDiff, Nat.reduceLT]; refine hK_ _ ?_; clear hK_ K_)))
            all_goals (refine endQ_ret _ _ rfl (ret1 (by decide)) ?_; simp only [upd_apply, ↓reduceIte, reduceCtorEq, Nat.reduceEqDiff]; refine WV_flat rfl (by omega) ?_)
            all_goals refine ⟨?_, rfl⟩
            all_goals unfold hullErr
            all_goals rw [if_neg (not_not_intro hn), if_neg (not_not_intro hm), if_neg (not_not_intro hall2), if_pos (fun hh => absurd ⟨hh.1, hh.2.1⟩ hss)]
      · exact ⟨Nat.zero_le _, fun j hj => absurd hj (Nat.not_lt_zero j), by simp only [upd_apply, ↓reduceIte, reduceCtorEq, Nat.reduceEqDiff], by simp only [upd_apply, ↓reduceIte, reduceCtorEq, Nat.reduceEqDiff], by simp only [upd_apply, ↓reduceIte, reduceCtorEq, Nat.reduceEqDiff]; rfl, rfl, rfl⟩
    · (repeat' (first
  | (with_reducible first | refine WC_seq ?_ | refine WC_skip ?_ | refine WC_label ?_ | refine WC_scope ?_ | refine WC_block ?_ | refine WC_ret ?_ | refine WC_exit ?_ | refine seqQ_norm ?_ | refine seqQ_ret ?_ | refine seqQ_exit ?_ | refine blkQ_norm ?_ | refine blkQ_ret ?_ | refine blkQ_here ?_ | refine gateK_yes ?_ | refine gateK_none ?_ | refine condK_tt ?_ | refine condK_ff ?_ | refine roundQ_exit ?_ | refine roundQ_ret ?_)
  | refine WC_region ?_ | refine blkQ_out rfl ?_ | refine WO_nil ?_ | refine WD_nil ?_
  | ((first | refine WD_gate rfl rfl rfl rfl rfl fun K_ hK_ => ?_ | refine WO_gate rfl rfl rfl rfl rfl fun K_ hK_ => ?_); simp only [upd_apply, asB_bool, asB_tup, ↓reduceIte, reduceCtorEq, Nat.reduceEqDiff, Bool.not_true, Bool.not_false]; refine hK_ _ ?_; clear hK_ K_)
  | refine gateK_no (by decide) ?_
  | ((try first | refine WO_op rfl rfl rfl ?_ | refine WO_op0 rfl rfl ?_ | refine WD_op rfl rfl rfl ?_ | refine WD_op0 rfl rfl ?_); (refine WV_gen fun Q_ hQ_ => ?_; simp (disch := first | omega | (simp only [List.length_cons, List.length_nil, List.length_append]; omega)) only [bb, bp, argF, ↓reduceIte, reduceCtorEq, Nat.reduceEqDiff, Nat.reduceLT, Nat.reduceLeDiff, Nat.reduceAdd, Nat.reduceMul, Nat.reduceSub, Nat.reduceBEq, Int.reduceToNat, cond_true, cond_false, eq_self, beq_self_eq_true, hlen, hix', hld, hlen0, newPtr_X wf, load1_X wf, loadAgg_X wf, store1_X wf, writeCells_X wf, makeFunc_def, tEvI3]; first | (refine dec_split (Q := Q_) (fun hp_ => ?_) (fun hp_ => ?_) <;> first | (exfalso; omega) | (refine hQ_ _ _ ?_; clear hQ_ Q_)) | (refine dec_splitn (Q := Q_) (fun hp_ => ?_) (fun hp_ => ?_) <;> first | (exfalso; omega) | (refine hQ_ _ _ ?_; clear hQ_ Q_)) | (refine hQ_ _ _ ?_; clear hQ_ Q_)))
  | (refine WC_cond fun K_ hK_ => ?_; simp (disch := omega) only [evT_tmp, upd_apply, WB_some, ↓reduceIte, reduceCtorEq, Nat.reduceEqDiff, Nat.reduceLT]; refine hK_ _ ?_; clear hK_ K_)))
      all_goals (refine endQ_ret _ _ rfl (ret1 (by decide)) ?_; simp only [upd_apply, ↓reduceIte, reduceCtorEq, Nat.reduceEqDiff]; refine WV_flat rfl (by omega) ?_)
      all_goals exact ⟨by unfold hullErr; rw [if_neg (not_not_intro hn), if_pos hm], rfl⟩
  · (repeat' (first
  | (with_reducible first | refine WC_seq ?_ | refine WC_skip ?_ | refine WC_label ?_ | refine WC_scope ?_ | refine WC_block ?_ | refine WC_ret ?_ | refine WC_exit ?_ | refine seqQ_norm ?_ | refine seqQ_ret ?_ | refine seqQ_exit ?_ | refine blkQ_norm ?_ | refine blkQ_ret ?_ | refine blkQ_here ?_ | refine gateK_yes ?_ | refine gateK_none ?_ | refine condK_tt ?_ | refine condK_ff ?_ | refine roundQ_exit ?_ | refine roundQ_ret ?_)
  | refine WC_region ?_ | refine blkQ_out rfl ?_ | refine WO_nil ?_ | refine WD_nil ?_
  | ((first | refine WD_gate rfl rfl rfl rfl rfl fun K_ hK_ => ?_ | refine WO_gate rfl rfl rfl rfl rfl fun K_ hK_ => ?_); simp only [upd_apply, asB_bool, asB_tup, ↓reduceIte, reduceCtorEq, Nat.reduceEqDiff, Bool.not_true, Bool.not_false]; refine hK_ _ ?_; clear hK_ K_)
  | refine gateK_no (by decide) ?_
  | ((try first | refine WO_op rfl rfl rfl ?_ | refine WO_op0 rfl rfl ?_ | refine WD_op rfl rfl rfl ?_ | refine WD_op0 rfl rfl ?_); (refine WV_gen fun Q_ hQ_ => ?_; simp (disch := first | omega | (simp only [List.length_cons, List.length_nil, List.length_append]; omega)) only [bb, bp, argF, ↓reduceIte, reduceCtorEq, Nat.reduceEqDiff, Nat.reduceLT, Nat.reduceLeDiff, Nat.reduceAdd, Nat.reduceMul, Nat.reduceSub, Nat.reduceBEq, Int.reduceToNat, cond_true, cond_false, eq_self, beq_self_eq_true, hlen, newPtr_X wf, load1_X wf, loadAgg_X wf, store1_X wf, writeCells_X wf, makeFunc_def, tEvI3]; first | (refine dec_split (Q := Q_) (fun hp_ => ?_) (fun hp_ => ?_) <;> first | (exfalso; omega) | (refine hQ_ _ _ ?_; clear hQ_ Q_)) | (refine dec_splitn (Q := Q_) (fun hp_ => ?_) (fun hp_ => ?_) <;> first | (exfalso; omega) | (refine hQ_ _ _ ?_; clear hQ_ Q_)) | (refine hQ_ _ _ ?_; clear hQ_ Q_)))
  | (refine WC_cond fun K_ hK_ => ?_; simp (disch := omega) only [evT_tmp, upd_apply, WB_some, ↓reduceIte, reduceCtorEq, Nat.reduceEqDiff, Nat.reduceLT]; refine hK_ _ ?_; clear hK_ K_)))
    all_goals (refine endQ_ret _ _ rfl (ret1 (by decide)) ?_; simp only [upd_apply, ↓reduceIte, reduceCtorEq, Nat.reduceEqDiff]; refine WV_flat rfl (by omega) ?_)
    all_goals exact ⟨by unfold hullErr; rw [if_pos hn], rfl⟩
end Go.Proofs.Ytghondkiondeaac
end

/- EvI4 -/
section
/-
  LAYER 2, THE REFERENCE: true hulls; the volume and the number as it answers them.
-/
namespace Go.Proofs.Ytghondkiondeaac
open Go.Ev
set_option maxRecDepth 100000
set_option linter.unusedSimpArgs false
set_option linter.unusedVariables false
set_option maxHeartbeats 2000000

theorem rAt_ik {rows : List (List (Int × Int))} {m i k : Nat} (hi : i < rows.length) (hk : k < m) (hl : rows[i].length = m) : rAt rows m (i * m + k) = rows[i][k]'(by omega) := by
  have e1 : (i * m + k) / m = i := by rw [Nat.mul_comm, Nat.mul_add_div (by omega), Nat.div_eq_of_lt hk]; omega
  have e2 : (i * m + k) % m = k := by rw [Nat.mul_comm, Nat.mul_add_mod]; exact Nat.mod_eq_of_lt hk
  have hk' : k < rows[i].length := by omega
  unfold rAt; rw [e1, e2]; simp [List.getD, hi, hk']

end Go.Proofs.Ytghondkiondeaac
end

/- EvJ0 -/
section
/-
  LAYER 2: what all statements use.
-/
namespace Go.Proofs.Ytghondkiondeaac
open Go.Ev
set_option maxRecDepth 100000
set_option linter.unusedSimpArgs false
set_option linter.unusedVariables false
set_option maxHeartbeats 2000000

theorem tEvJ0 : type_of% (And.intro (And.intro (And.intro (And.intro (And.intro (@bs_26) (@ia_26)) (And.intro (@sz_26) (@ze_26))) (And.intro (And.intro (@ia_2) (@sz_2)) (And.intro (@ze_2) (@ia_3)))) (And.intro (And.intro (And.intro (@sz_3) (@ia_34)) (And.intro (@sz_34) (@ia_53))) (And.intro (And.intro (@sz_53) (@ia_52)) (And.intro (@sz_52) (And.intro (@ia_22) (@sz_22)))))) (And.intro (And.intro (And.intro (And.intro (@ik_34) (@ik_53)) (And.intro (@ik_52) (@ik_22))) (And.intro (And.intro (@fo_24_0) (@fo_24_1)) (And.intro (@fo_24_2) (And.intro (@ia_24) (@sz_24))))) (And.intro (And.intro (And.intro (@pb_9) (@pb_10)) (And.intro (@pb_15) (@pb_17))) (And.intro (And.intro (@pb_23) (@pb_36)) (And.intro (@pb_31) (And.intro (@pb_33) (@pb_44))))))) := And.intro (And.intro (And.intro (And.intro (And.intro (@bs_26) (@ia_26)) (And.intro (@sz_26) (@ze_26))) (And.intro (And.intro (@ia_2) (@sz_2)) (And.intro (@ze_2) (@ia_3)))) (And.intro (And.intro (And.intro (@sz_3) (@ia_34)) (And.intro (@sz_34) (@ia_53))) (And.intro (And.intro (@sz_53) (@ia_52)) (And.intro (@sz_52) (And.intro (@ia_22) (@sz_22)))))) (And.intro (And.intro (And.intro (And.intro (@ik_34) (@ik_53)) (And.intro (@ik_52) (@ik_22))) (And.intro (And.intro (@fo_24_0) (@fo_24_1)) (And.intro (@fo_24_2) (And.intro (@ia_24) (@sz_24))))) (And.intro (And.intro (And.intro (@pb_9) (@pb_10)) (And.intro (@pb_15) (@pb_17))) (And.intro (And.intro (@pb_23) (@pb_36)) (And.intro (@pb_31) (And.intro (@pb_33) (@pb_44))))))
theorem under29 : ∃ f0 f1 : Field, Try.prog.underlying 26 = some (.struct #[f0, f1]) ∧ f0.offset = 0 ∧ f1.offset = 1 ∧ f0.type = 2 ∧ f1.type = 2 ∧ f0.name ≠ "_" ∧ f1.name ≠ "_" := ⟨_, _, Try.underlying26, rfl, rfl, rfl, rfl, by decide, by decide⟩
theorem works (h : H) : (om Try.prog KK).call (.fn 10 []) h = .ok (.bool true) h := by
  refine om_con (c := cW) (r := []) ?_
  rfl

/-- Has this too many parts? -/
def Great (rows : List (List (Int × Int))) (ys : List (List Int)) : Prop := 14 < rows.length ∨ 14 < ys.length ∨ (∃ row ∈ rows, 12 < row.length) ∨ ∃ y ∈ ys, 12 < y.length
instance (rows : List (List (Int × Int))) (ys : List (List Int)) : Decidable (Great rows ys) := by unfold Great; infer_instance

theorem great (sp st : Int) (a b : AV) (rvs yvs : List AV) (rows : List (List (Int × Int))) (ys : List (List Int)) (h : H) (x : HullR h a rvs rows) (y : YsR h b yvs ys) :
    (om Try.prog KK).call (.fn 9 [.agg [ii sp, ii st, a], b]) h = .ok (.bool (decide (Great rows ys))) h := by
  have wf := x.wf
  refine WV_to (WV_call (fn := Try.f9) Try.func9 rfl rfl rfl rfl rfl ?_)
  simp only [argF]
  have hlen : ∀ h', lenE Try.prog 22 a h' = some (ii (rows.length : Int)) := fun h' => x.sl.len un_22
  have hleny : ∀ h', lenE Try.prog 34 b h' = some (ii (ys.length : Int)) := fun h' => y.sl.len un_34
  by_cases g1 : 14 < rows.length
  · (repeat' (first
  | (with_reducible first | refine WC_seq ?_ | refine WC_skip ?_ | refine WC_label ?_ | refine WC_scope ?_ | refine WC_block ?_ | refine WC_ret ?_ | refine WC_exit ?_ | refine seqQ_norm ?_ | refine seqQ_ret ?_ | refine seqQ_exit ?_ | refine blkQ_norm ?_ | refine blkQ_ret ?_ | refine blkQ_here ?_ | refine gateK_yes ?_ | refine gateK_none ?_ | refine condK_tt ?_ | refine condK_ff ?_ | refine roundQ_exit ?_ | refine roundQ_ret ?_)
  | refine WC_region ?_ | refine blkQ_out rfl ?_ | refine WO_nil ?_ | refine WD_nil ?_
  | ((first | refine WD_gate rfl rfl rfl rfl rfl fun K_ hK_ => ?_ | refine WO_gate rfl rfl rfl rfl rfl fun K_ hK_ => ?_); simp only [upd_apply, asB_bool, asB_tup, ↓reduceIte, reduceCtorEq, Nat.reduceEqDiff, Bool.not_true, Bool.not_false]; refine hK_ _ ?_; clear hK_ K_)
  | refine gateK_no (by decide) ?_
  | ((try first | refine WO_op rfl rfl rfl ?_ | refine WO_op0 rfl rfl ?_ | refine WD_op rfl rfl rfl ?_ | refine WD_op0 rfl rfl ?_); (refine WV_gen fun Q_ hQ_ => ?_; simp (disch := first | omega | (simp only [List.length_cons, List.length_nil, List.length_append]; omega)) only [bb, bp, argF, ↓reduceIte, reduceCtorEq, Nat.reduceEqDiff, Nat.reduceLT, Nat.reduceLeDiff, Nat.reduceAdd, Nat.reduceMul, Nat.reduceSub, Nat.reduceBEq, Int.reduceToNat, cond_true, cond_false, eq_self, beq_self_eq_true, hlen, hleny, newPtr_X wf, load1_X wf, loadAgg_X wf, store1_X wf, writeCells_X wf, makeFunc_def, tEvJ0]; first | (refine dec_split (Q := Q_) (fun hp_ => ?_) (fun hp_ => ?_) <;> first | (exfalso; omega) | (refine hQ_ _ _ ?_; clear hQ_ Q_)) | (refine dec_splitn (Q := Q_) (fun hp_ => ?_) (fun hp_ => ?_) <;> first | (exfalso; omega) | (refine hQ_ _ _ ?_; clear hQ_ Q_)) | (refine hQ_ _ _ ?_; clear hQ_ Q_)))
  | (refine WC_cond fun K_ hK_ => ?_; simp (disch := omega) only [evT_tmp, upd_apply, WB_some, ↓reduceIte, reduceCtorEq, Nat.reduceEqDiff, Nat.reduceLT]; refine hK_ _ ?_; clear hK_ K_)))
    (refine endQ_ret _ _ rfl (ret1 (by decide)) ?_; simp only [upd_apply, ↓reduceIte, reduceCtorEq, Nat.reduceEqDiff]; refine WV_flat rfl (by omega) ?_)
    exact ⟨by rw [decide_eq_true (.inl g1)], rfl⟩
  by_cases g2 : 14 < ys.length
  · (repeat' (first
  | (with_reducible first | refine WC_seq ?_ | refine WC_skip ?_ | refine WC_label ?_ | refine WC_scope ?_ | refine WC_block ?_ | refine WC_ret ?_ | refine WC_exit ?_ | refine seqQ_norm ?_ | refine seqQ_ret ?_ | refine seqQ_exit ?_ | refine blkQ_norm ?_ | refine blkQ_ret ?_ | refine blkQ_here ?_ | refine gateK_yes ?_ | refine gateK_none ?_ | refine condK_tt ?_ | refine condK_ff ?_ | refine roundQ_exit ?_ | refine roundQ_ret ?_)
  | refine WC_region ?_ | refine blkQ_out rfl ?_ | refine WO_nil ?_ | refine WD_nil ?_
  | ((first | refine WD_gate rfl rfl rfl rfl rfl fun K_ hK_ => ?_ | refine WO_gate rfl rfl rfl rfl rfl fun K_ hK_ => ?_); simp only [upd_apply, asB_bool, asB_tup, ↓reduceIte, reduceCtorEq, Nat.reduceEqDiff, Bool.not_true, Bool.not_false]; refine hK_ _ ?_; clear hK_ K_)
  | refine gateK_no (by decide) ?_
  | ((try first | refine WO_op rfl rfl rfl ?_ | refine WO_op0 rfl rfl ?_ | refine WD_op rfl rfl rfl ?_ | refine WD_op0 rfl rfl ?_); (refine WV_gen fun Q_ hQ_ => ?_; simp (disch := first | omega | (simp only [List.length_cons, List.length_nil, List.length_append]; omega)) only [bb, bp, argF, ↓reduceIte, reduceCtorEq, Nat.reduceEqDiff, Nat.reduceLT, Nat.reduceLeDiff, Nat.reduceAdd, Nat.reduceMul, Nat.reduceSub, Nat.reduceBEq, Int.reduceToNat, cond_true, cond_false, eq_self, beq_self_eq_true, hlen, hleny, newPtr_X wf, load1_X wf, loadAgg_X wf, store1_X wf, writeCells_X wf, makeFunc_def, tEvJ0]; first | (refine dec_split (Q := Q_) (fun hp_ => ?_) (fun hp_ => ?_) <;> first | (exfalso; omega) | (refine hQ_ _ _ ?_; clear hQ_ Q_)) | (refine dec_splitn (Q := Q_) (fun hp_ => ?_) (fun hp_ => ?_) <;> first | (exfalso; omega) | (refine hQ_ _ _ ?_; clear hQ_ Q_)) | (refine hQ_ _ _ ?_; clear hQ_ Q_)))
  | (refine WC_cond fun K_ hK_ => ?_; simp (disch := omega) only [evT_tmp, upd_apply, WB_some, ↓reduceIte, reduceCtorEq, Nat.reduceEqDiff, Nat.reduceLT]; refine hK_ _ ?_; clear hK_ K_)))
    (refine endQ_ret _ _ rfl (ret1 (by decide)) ?_; simp only [upd_apply, ↓reduceIte, reduceCtorEq, Nat.reduceEqDiff]; refine WV_flat rfl (by omega) ?_)
    exact ⟨by rw [decide_eq_true (.inr (.inl g2))], rfl⟩
  (repeat' (first
  | (with_reducible first | refine WC_seq ?_ | refine WC_skip ?_ | refine WC_label ?_ | refine WC_scope ?_ | refine WC_block ?_ | refine WC_ret ?_ | refine WC_exit ?_ | refine seqQ_norm ?_ | refine seqQ_ret ?_ | refine seqQ_exit ?_ | refine blkQ_norm ?_ | refine blkQ_ret ?_ | refine blkQ_here ?_ | refine gateK_yes ?_ | refine gateK_none ?_ | refine condK_tt ?_ | refine condK_ff ?_ | refine roundQ_exit ?_ | refine roundQ_ret ?_)
  | refine WC_region ?_ | refine blkQ_out rfl ?_ | refine WO_nil ?_ | refine WD_nil ?_
  | ((first | refine WD_gate rfl rfl rfl rfl rfl fun K_ hK_ => ?_ | refine WO_gate rfl rfl rfl rfl rfl fun K_ hK_ => ?_); simp only [upd_apply, asB_bool, asB_tup, ↓reduceIte, reduceCtorEq, Nat.reduceEqDiff, Bool.not_true, Bool.not_false]; refine hK_ _ ?_; clear hK_ K_)
  | refine gateK_no (by decide) ?_
  | ((try first | refine WO_op rfl rfl rfl ?_ | refine WO_op0 rfl rfl ?_ | refine WD_op rfl rfl rfl ?_ | refine WD_op0 rfl rfl ?_); (refine WV_gen fun Q_ hQ_ => ?_; simp (disch := first | omega | (simp only [List.length_cons, List.length_nil, List.length_append]; omega)) only [bb, bp, argF, ↓reduceIte, reduceCtorEq, Nat.reduceEqDiff, Nat.reduceLT, Nat.reduceLeDiff, Nat.reduceAdd, Nat.reduceMul, Nat.reduceSub, Nat.reduceBEq, Int.reduceToNat, cond_true, cond_false, eq_self, beq_self_eq_true, hlen, hleny, newPtr_X wf, load1_X wf, loadAgg_X wf, store1_X wf, writeCells_X wf, makeFunc_def, tEvJ0]; first | (refine dec_split (Q := Q_) (fun hp_ => ?_) (fun hp_ => ?_) <;> first | (exfalso; omega) | (refine hQ_ _ _ ?_; clear hQ_ Q_)) | (refine dec_splitn (Q := Q_) (fun hp_ => ?_) (fun hp_ => ?_) <;> first | (exfalso; omega) | (refine hQ_ _ _ ?_; clear hQ_ Q_)) | (refine hQ_ _ _ ?_; clear hQ_ Q_)))
  | (refine WC_cond fun K_ hK_ => ?_; simp (disch := omega) only [evT_tmp, upd_apply, WB_some, ↓reduceIte, reduceCtorEq, Nat.reduceEqDiff, Nat.reduceLT]; refine hK_ _ ?_; clear hK_ K_)))
  refine WC_loop (fun (i : Nat) f d h' => i ≤ rows.length ∧ (∀ j, j < i → ∀ hj : j < rows.length, rows[j].length ≤ 12) ∧ f 1 = b ∧ f 2 = .ptr (nx h 0) 0 ∧ f 5 = ii (i : Int) ∧ d = [] ∧ h' = X h [.cells (mkCells [ii sp, ii st, a]) 24] h.clock)
    (fun i => rows.length - i) ?_ (rows.length + 1) 0 (by omega) ?_
  · rintro i f d h' ⟨hi', hall, k1, k2, k5, rfl, rfl⟩
    by_cases hlt : i < rows.length
    · obtain ⟨v, hv, hsv⟩ := x.row i hlt
      obtain ⟨id, off, hix, hld⟩ := x.sl.at1 wf hlt ik_22
      rw [hv] at hld
      have hlenv : ∀ h', lenE Try.prog 52 v h' = some (ii (rows[i].length : Int)) := fun h' => hsv.len un_52
      (repeat' (first
  | (with_reducible first | refine WC_seq ?_ | refine WC_skip ?_ | refine WC_label ?_ | refine WC_scope ?_ | refine WC_block ?_ | refine WC_ret ?_ | refine WC_exit ?_ | refine seqQ_norm ?_ | refine seqQ_ret ?_ | refine seqQ_exit ?_ | refine blkQ_norm ?_ | refine blkQ_ret ?_ | refine blkQ_here ?_ | refine gateK_yes ?_ | refine gateK_none ?_ | refine condK_tt ?_ | refine condK_ff ?_ | refine roundQ_exit ?_ | refine roundQ_ret ?_)
  | refine WC_region ?_ | refine blkQ_out rfl ?_ | refine WO_nil ?_ | refine WD_nil ?_
  | ((first | refine WD_gate rfl rfl rfl rfl rfl fun K_ hK_ => ?_ | refine WO_gate rfl rfl rfl rfl rfl fun K_ hK_ => ?_); simp only [upd_apply, asB_bool, asB_tup, ↓reduceIte, reduceCtorEq, Nat.reduceEqDiff, Bool.not_true, Bool.not_false]; refine hK_ _ ?_; clear hK_ K_)
  | refine gateK_no (by decide) ?_
  | ((try first | refine WO_op rfl rfl rfl ?_ | refine WO_op0 rfl rfl ?_ | refine WD_op rfl rfl rfl ?_ | refine WD_op0 rfl rfl ?_); (refine WV_gen fun Q_ hQ_ => ?_; simp (disch := first | omega | (simp only [List.length_cons, List.length_nil, List.length_append]; omega)) only [bb, bp, argF, ↓reduceIte, reduceCtorEq, Nat.reduceEqDiff, Nat.reduceLT, Nat.reduceLeDiff, Nat.reduceAdd, Nat.reduceMul, Nat.reduceSub, Nat.reduceBEq, Int.reduceToNat, cond_true, cond_false, eq_self, beq_self_eq_true, k1, k2, k5, hlen, hix, hld, hlenv, newPtr_X wf, load1_X wf, loadAgg_X wf, store1_X wf, writeCells_X wf, makeFunc_def, tEvJ0]; first | (refine dec_split (Q := Q_) (fun hp_ => ?_) (fun hp_ => ?_) <;> first | (exfalso; omega) | (refine hQ_ _ _ ?_; clear hQ_ Q_)) | (refine dec_splitn (Q := Q_) (fun hp_ => ?_) (fun hp_ => ?_) <;> first | (exfalso; omega) | (refine hQ_ _ _ ?_; clear hQ_ Q_)) | (refine hQ_ _ _ ?_; clear hQ_ Q_)))
  | (refine WC_cond fun K_ hK_ => ?_; simp (disch := omega) only [evT_tmp, upd_apply, WB_some, ↓reduceIte, reduceCtorEq, Nat.reduceEqDiff, Nat.reduceLT]; refine hK_ _ ?_; clear hK_ K_)))
      · (refine endQ_ret _ _ rfl (ret1 (by decide)) ?_; simp only [upd_apply, ↓reduceIte, reduceCtorEq, Nat.reduceEqDiff]; refine WV_flat rfl (by omega) ?_)
        exact ⟨by rw [decide_eq_true (.inr (.inr (.inl ⟨rows[i], List.getElem_mem _, by omega⟩)))], rfl⟩
      · refine roundQ_again (i + 1) (by omega) ⟨hlt, ?_, by simp only [upd_apply, ↓reduceIte, reduceCtorEq, Nat.reduceEqDiff]; exact k1, by simp only [upd_apply, ↓reduceIte, reduceCtorEq, Nat.reduceEqDiff]; exact k2, by simp only [upd_apply, ↓reduceIte, reduceCtorEq, Nat.reduceEqDiff]; rfl, rfl, rfl⟩
        intro j hj hjl
        by_cases hji : j = i
        · subst hji; omega
        · exact hall j (by omega) hjl
    · have hie : i = rows.length := by omega
      subst hie
      (repeat' (first
  | (with_reducible first | refine WC_seq ?_ | refine WC_skip ?_ | refine WC_label ?_ | refine WC_scope ?_ | refine WC_block ?_ | refine WC_ret ?_ | refine WC_exit ?_ | refine seqQ_norm ?_ | refine seqQ_ret ?_ | refine seqQ_exit ?_ | refine blkQ_norm ?_ | refine blkQ_ret ?_ | refine blkQ_here ?_ | refine gateK_yes ?_ | refine gateK_none ?_ | refine condK_tt ?_ | refine condK_ff ?_ | refine roundQ_exit ?_ | refine roundQ_ret ?_)
  | refine WC_region ?_ | refine blkQ_out rfl ?_ | refine WO_nil ?_ | refine WD_nil ?_
  | ((first | refine WD_gate rfl rfl rfl rfl rfl fun K_ hK_ => ?_ | refine WO_gate rfl rfl rfl rfl rfl fun K_ hK_ => ?_); simp only [upd_apply, asB_bool, asB_tup, ↓reduceIte, reduceCtorEq, Nat.reduceEqDiff, Bool.not_true, Bool.not_false]; refine hK_ _ ?_; clear hK_ K_)
  | refine gateK_no (by decide) ?_
  | ((try first | refine WO_op rfl rfl rfl ?_ | refine WO_op0 rfl rfl ?_ | refine WD_op rfl rfl rfl ?_ | refine WD_op0 rfl rfl ?_); (refine WV_gen fun Q_ hQ_ => ?_; simp (disch := first | omega | (simp only [List.length_cons, List.length_nil, List.length_append]; omega)) only [bb, bp, argF, ↓reduceIte, reduceCtorEq, Nat.reduceEqDiff, Nat.reduceLT, Nat.reduceLeDiff, Nat.reduceAdd, Nat.reduceMul, Nat.reduceSub, Nat.reduceBEq, Int.reduceToNat, cond_true, cond_false, eq_self, beq_self_eq_true, k1, k2, k5, hlen, hleny, newPtr_X wf, load1_X wf, loadAgg_X wf, store1_X wf, writeCells_X wf, makeFunc_def, tEvJ0]; first | (refine dec_split (Q := Q_) (fun hp_ => ?_) (fun hp_ => ?_) <;> first | (exfalso; omega) | (refine hQ_ _ _ ?_; clear hQ_ Q_)) | (refine dec_splitn (Q := Q_) (fun hp_ => ?_) (fun hp_ => ?_) <;> first | (exfalso; omega) | (refine hQ_ _ _ ?_; clear hQ_ Q_)) | (refine hQ_ _ _ ?_; clear hQ_ Q_)))
  | (refine WC_cond fun K_ hK_ => ?_; simp (disch := omega) only [evT_tmp, upd_apply, WB_some, ↓reduceIte, reduceCtorEq, Nat.reduceEqDiff, Nat.reduceLT]; refine hK_ _ ?_; clear hK_ K_)))
      refine WC_loop (fun (i : Nat) f d h' => i ≤ ys.length ∧ (∀ j, j < i → ∀ hj : j < ys.length, ys[j].length ≤ 12) ∧ f 1 = b ∧ f 6 = ii (i : Int) ∧ d = [] ∧ h' = X h [.cells (mkCells [ii sp, ii st, a]) 24] h.clock)
        (fun i => ys.length - i) ?_ (ys.length + 1) 0 (by omega) ?_
      · clear k2 k5
        rintro i f d h' ⟨hi', hally, k1, k6, rfl, rfl⟩
        by_cases hlt : i < ys.length
        · obtain ⟨v, hv, hsv, hcap⟩ := y.row i hlt
          obtain ⟨id, off, hix, hld⟩ := y.sl.at1 wf hlt ik_34
          rw [hv] at hld
          have hlenv : ∀ h', lenE Try.prog 53 v h' = some (ii (ys[i].length : Int)) := fun h' => hsv.len un_53
          (repeat' (first
  | (with_reducible first | refine WC_seq ?_ | refine WC_skip ?_ | refine WC_label ?_ | refine WC_scope ?_ | refine WC_block ?_ | refine WC_ret ?_ | refine WC_exit ?_ | refine seqQ_norm ?_ | refine seqQ_ret ?_ | refine seqQ_exit ?_ | refine blkQ_norm ?_ | refine blkQ_ret ?_ | refine blkQ_here ?_ | refine gateK_yes ?_ | refine gateK_none ?_ | refine condK_tt ?_ | refine condK_ff ?_ | refine roundQ_exit ?_ | refine roundQ_ret ?_)
  | refine WC_region ?_ | refine blkQ_out rfl ?_ | refine WO_nil ?_ | refine WD_nil ?_
  | ((first | refine WD_gate rfl rfl rfl rfl rfl fun K_ hK_ => ?_ | refine WO_gate rfl rfl rfl rfl rfl fun K_ hK_ => ?_); simp only [upd_apply, asB_bool, asB_tup, ↓reduceIte, reduceCtorEq, Nat.reduceEqDiff, Bool.not_true, Bool.not_false]; refine hK_ _ ?_; clear hK_ K_)
  | refine gateK_no (by decide) ?_
  | ((try first | refine WO_op rfl rfl rfl ?_ | refine WO_op0 rfl rfl ?_ | refine WD_op rfl rfl rfl ?_ | refine WD_op0 rfl rfl ?_); (refine WV_gen fun Q_ hQ_ => ?_; simp (disch := first | omega | (simp only [List.length_cons, List.length_nil, List.length_append]; omega)) only [bb, bp, argF, ↓reduceIte, reduceCtorEq, Nat.reduceEqDiff, Nat.reduceLT, Nat.reduceLeDiff, Nat.reduceAdd, Nat.reduceMul, Nat.reduceSub, Nat.reduceBEq, Int.reduceToNat, cond_true, cond_false, eq_self, beq_self_eq_true, k1, k6, hleny, hix, hld, hlenv, newPtr_X wf, load1_X wf, loadAgg_X wf, store1_X wf, writeCells_X wf, makeFunc_def, tEvJ0]; first | (refine dec_split (Q := Q_) (fun hp_ => ?_) (fun hp_ => ?_) <;> first | (exfalso; omega) | (refine hQ_ _ _ ?_; clear hQ_ Q_)) | (refine dec_splitn (Q := Q_) (fun hp_ => ?_) (fun hp_ => ?_) <;> first | (exfalso; omega) | (refine hQ_ _ _ ?_; clear hQ_ Q_)) | (refine hQ_ _ _ ?_; clear hQ_ Q_)))
  | (refine WC_cond fun K_ hK_ => ?_; simp (disch := omega) only [evT_tmp, upd_apply, WB_some, ↓reduceIte, reduceCtorEq, Nat.reduceEqDiff, Nat.reduceLT]; refine hK_ _ ?_; clear hK_ K_)))
          · (refine endQ_ret _ _ rfl (ret1 (by decide)) ?_; simp only [upd_apply, ↓reduceIte, reduceCtorEq, Nat.reduceEqDiff]; refine WV_flat rfl (by omega) ?_)
            exact ⟨by rw [decide_eq_true (.inr (.inr (.inr ⟨ys[i], List.getElem_mem _, by omega⟩)))], rfl⟩
          · refine roundQ_again (i + 1) (by omega) ⟨hlt, ?_, by simp only [upd_apply, ↓reduceIte, reduceCtorEq, Nat.reduceEqDiff]; exact k1, by simp only [upd_apply, ↓reduceIte, reduceCtorEq, Nat.reduceEqDiff]; rfl, rfl, rfl⟩
            intro j hj hjl
            by_cases hji : j = i
            · subst hji; omega
            · exact hally j (by omega) hjl
        · have hie : i = ys.length := by omega
          subst hie
          (repeat' (first
  | (with_reducible first | refine WC_seq ?_ | refine WC_skip ?_ | refine WC_label ?_ | refine WC_scope ?_ | refine WC_block ?_ | refine WC_ret ?_ | refine WC_exit ?_ | refine seqQ_norm ?_ | refine seqQ_ret ?_ | refine seqQ_exit ?_ | refine blkQ_norm ?_ | refine blkQ_ret ?_ | refine blkQ_here ?_ | refine gateK_yes ?_ | refine gateK_none ?_ | refine condK_tt ?_ | refine condK_ff ?_ | refine roundQ_exit ?_ | refine roundQ_ret ?_)
  | refine WC_region ?_ | refine blkQ_out rfl ?_ | refine WO_nil ?_ | refine WD_nil ?_
  | ((first | refine WD_gate rfl rfl rfl rfl rfl fun K_ hK_ => ?_ | refine WO_gate rfl rfl rfl rfl rfl fun K_ hK_ => ?_); simp only [upd_apply, asB_bool, asB_tup, ↓reduceIte, reduceCtorEq, Nat.reduceEqDiff, Bool.not_true, Bool.not_false]; refine hK_ _ ?_; clear hK_ K_)
  | refine gateK_no (by decide) ?_
  | ((try first | refine WO_op rfl rfl rfl ?_ | refine WO_op0 rfl rfl ?_ | refine WD_op rfl rfl rfl ?_ | refine WD_op0 rfl rfl ?_); (refine WV_gen fun Q_ hQ_ => ?_; simp (disch := first | omega | (simp only [List.length_cons, List.length_nil, List.length_append]; omega)) only [bb, bp, argF, ↓reduceIte, reduceCtorEq, Nat.reduceEqDiff, Nat.reduceLT, Nat.reduceLeDiff, Nat.reduceAdd, Nat.reduceMul, Nat.reduceSub, Nat.reduceBEq, Int.reduceToNat, cond_true, cond_false, eq_self, beq_self_eq_true, k1, k6, hleny, newPtr_X wf, load1_X wf, loadAgg_X wf, store1_X wf, writeCells_X wf, makeFunc_def, tEvJ0]; first | (refine dec_split (Q := Q_) (fun hp_ => ?_) (fun hp_ => ?_) <;> first | (exfalso; omega) | (refine hQ_ _ _ ?_; clear hQ_ Q_)) | (refine dec_splitn (Q := Q_) (fun hp_ => ?_) (fun hp_ => ?_) <;> first | (exfalso; omega) | (refine hQ_ _ _ ?_; clear hQ_ Q_)) | (refine hQ_ _ _ ?_; clear hQ_ Q_)))
  | (refine WC_cond fun K_ hK_ => ?_; simp (disch := omega) only [evT_tmp, upd_apply, WB_some, ↓reduceIte, reduceCtorEq, Nat.reduceEqDiff, Nat.reduceLT]; refine hK_ _ ?_; clear hK_ K_)))
          (refine endQ_ret _ _ rfl (ret1 (by decide)) ?_; simp only [upd_apply, ↓reduceIte, reduceCtorEq, Nat.reduceEqDiff]; refine WV_flat rfl (by omega) ?_)
          refine ⟨?_, rfl⟩
          rw [decide_eq_false]
          rintro (h1 | h1 | ⟨row, h1, h2⟩ | ⟨yy, h1, h2⟩)
          · exact g1 h1
          · exact g2 h1
          · obtain ⟨j, hj, rfl⟩ := List.getElem_of_mem h1
            have := hall j hj hj
            omega
          · obtain ⟨j, hj, rfl⟩ := List.getElem_of_mem h1
            have := hally j hj hj
            omega
      · exact ⟨Nat.zero_le _, fun j hj => absurd hj (Nat.not_lt_zero j), by simp only [upd_apply, ↓reduceIte, reduceCtorEq, Nat.reduceEqDiff]; exact k1, by simp only [upd_apply, ↓reduceIte, reduceCtorEq, Nat.reduceEqDiff]; (try rfl), rfl, rfl⟩
  · exact ⟨Nat.zero_le _, fun j hj => absurd hj (Nat.not_lt_zero j), by simp only [upd_apply, ↓reduceIte, reduceCtorEq, Nat.reduceEqDiff], by simp only [upd_apply, ↓reduceIte, reduceCtorEq, Nat.reduceEqDiff], by simp only [upd_apply, ↓reduceIte, reduceCtorEq, Nat.reduceEqDiff]; (try rfl), rfl, rfl⟩

end Go.Proofs.Ytghondkiondeaac
end

/- EvY -/
section
/-
  THE CLOSED PART OF LAYER 2, RUN BY THE KERNEL.
-/
namespace Go.Proofs.Ytghondkiondeaac
open Go.Ev
set_option maxRecDepth 100000
set_option maxHeartbeats 0
theorem mixed : Try.prog.follows .mixedOrders = true := Checked.mixed Try.checked
theorem cW_run : chk cW ((evc Try.prog [] 100000).call (.fn cW.g cW.args) (smallH cW.tb)) = true := by kernel_rfl
theorem cW_ok : ConOK Try.prog cW := con_run (P := Try.prog) mixed (cons := []) (n := 100000) (c := cW) (fun _ h => by cases h) cW_run
end Go.Proofs.Ytghondkiondeaac
end

/- EvJh -/
section
/-
  LAYER 2: hulls and offsets that come in.
-/
namespace Go.Proofs.Ytghondkiondeaac
open Go.ChangeShapes Go.WideShapes Go.ChangeAt Go.RowKit Go.Ev
set_option maxRecDepth 100000
set_option maxHeartbeats 0

theorem own : ownKnob Try.prog.godebug = none := by kernel_rfl
theorem laidOut : laidOutB Try.prog = true := by kernel_rfl
theorem cells2 : Try.prog.cellsOf 2 = 1 := by kernel_rfl
theorem cells22 : Try.prog.cellsOf 22 = 1 := by kernel_rfl
theorem cells24 : Try.prog.cellsOf 24 = 3 := by kernel_rfl
theorem cells46 : Try.prog.cellsOf 52 = 1 := by kernel_rfl
theorem cells70 : Try.prog.cellsOf 55 = 2 := by kernel_rfl
theorem types24 : Try.prog.cellTypes Try.prog.depth 24 = some [2, 2, 22] := by kernel_rfl
theorem under24 : ∃ f0 f1 f2 : Field, Try.prog.underlying 24 = some (.struct #[f0, f1, f2]) ∧ f0.offset = 0 ∧ f1.offset = 1 ∧ f2.offset = 2 ∧ f0.type = 2 ∧ f1.type = 2 ∧ f2.type = 22 := ⟨_, _, _, Try.underlying24, rfl, rfl, rfl, rfl, rfl, rfl⟩
theorem under70 : ∃ f0 f1 : Field, Try.prog.underlying 55 = some (.struct #[f0, f1]) ∧ f0.offset = 0 ∧ f1.offset = 1 ∧ f0.type = 2 ∧ f1.type = 2 := ⟨_, _, Try.underlying55, rfl, rfl, rfl, rfl⟩

section
variable {H : Type} {enc : TypeId × Value → H} {r : Reach} {bs : Nat}
/-- A hull that came in. -/
theorem hull_in {W : World} {v : Value} {fuel : Nat} {x : DataW H × List MemPlace} (hval : Value.okWide Try.prog W r bs 24 v) (h : DataW.trod enc Try.prog W 0 (fun _ => true) true fuel 24 v.cells.toList = some x) :
    ∃ sp st a rvs rows, VR (startWR W) (.agg [ii sp, ii st, a]) v ∧ HullR (startW W) a rvs rows := by
  obtain ⟨f0, f1, f2, hu, o0, o1, o2, t0, t1, t2⟩ := under24
  obtain ⟨g0, g1, hg, p0, p1, q0, q1⟩ := under70
  obtain ⟨u, w, z, n, y1, y2, y3, rfl, k0, k1, k2, r0, r1, r2⟩ := open_three hu cells24 o0 o1 o2 t0 t1 t2 cells2 cells2 cells22 types24 hval h
  obtain ⟨sp, h1, _⟩ := DataW.trod_int Try.underlying2 r0
  cases h1
  obtain ⟨st, h2, _⟩ := DataW.trod_int Try.underlying2 r1
  cases h2
  obtain ⟨rows, vs, a, va, ca, sa, hrow⟩ := open_rows (α := List (Int × Int)) (R := fun u row => Row (startW W) u 2 row.length (pairCells row)) Try.underlying22 cells46 k2 r2 (fun u n y hy => by
    obtain ⟨sp, b, h1, h2, h3⟩ := open_row_pairs Try.underlying52 hg cells70 p0 p1 q0 q1 Try.underlying2 cells2 hy
    exact ⟨sp, b, h1, h3⟩)
  exact ⟨sp, st, a, vs, rows, .agg _ _ (.cons _ _ _ _ (.int _ _) (.cons _ _ _ _ (.int _ _) (.cons _ _ _ _ va .nil))), startW_wf W, sa, hrow⟩
end

end Go.Proofs.Ytghondkiondeaac
end

/- EvK1 -/
section
/-
  LAYER 2: how far beyond a number the offsets of a place can be.
-/
namespace Go.Proofs.Ytghondkiondeaac
open Go.Ev
set_option maxRecDepth 100000
set_option linter.unusedSimpArgs false
set_option linter.unusedVariables false
set_option maxHeartbeats 2000000

theorem tEvK1 : type_of% (And.intro (And.intro (And.intro (And.intro (@bs_97) (And.intro (@ia_97) (@sz_97))) (And.intro (And.intro (@ze_97) (@fo_97_0)) (And.intro (@fo_97_1) (@ia_66)))) (And.intro (And.intro (And.intro (@sz_66) (@ia_2)) (And.intro (@sz_2) (@ze_2))) (And.intro (And.intro (@ia_3) (@sz_3)) (And.intro (@ia_4) (@sz_4))))) (And.intro (And.intro (And.intro (@ia_81) (And.intro (@sz_81) (@ze_81))) (And.intro (And.intro (@fo_81_0) (@fo_81_1)) (And.intro (@fo_81_2) (@fo_81_3)))) (And.intro (And.intro (And.intro (@fo_55_0) (@fo_55_1)) (And.intro (@ia_26) (@sz_26))) (And.intro (And.intro (@fo_26_0) (@fo_26_1)) (And.intro (@pb_49) (@pb_50)))))) := And.intro (And.intro (And.intro (And.intro (@bs_97) (And.intro (@ia_97) (@sz_97))) (And.intro (And.intro (@ze_97) (@fo_97_0)) (And.intro (@fo_97_1) (@ia_66)))) (And.intro (And.intro (And.intro (@sz_66) (@ia_2)) (And.intro (@sz_2) (@ze_2))) (And.intro (And.intro (@ia_3) (@sz_3)) (And.intro (@ia_4) (@sz_4))))) (And.intro (And.intro (And.intro (@ia_81) (And.intro (@sz_81) (@ze_81))) (And.intro (And.intro (@fo_81_0) (@fo_81_1)) (And.intro (@fo_81_2) (@fo_81_3)))) (And.intro (And.intro (And.intro (@fo_55_0) (@fo_55_1)) (And.intro (@ia_26) (@sz_26))) (And.intro (And.intro (@fo_26_0) (@fo_26_1)) (And.intro (@pb_49) (@pb_50)))))
/-- How far a share is beyond a number. -/
def gapOf (g : Nat) (sp st : Int) (m i k : Nat) (w N D y : Int) : Int := numOf g sp st m i k w y * D - denOf g st w y * N
def sgn (high : Bool) (x : Int) : Int := if high then x else -x
/-- The greatest value, from lo on. -/
def mxf (f : Int → Int) (lo : Int) : Nat → Int
  | 0 => f lo
  | j + 1 => max (mxf f lo j) (f (lo + ((j + 1 : Nat) : Int)))
def amx (f : Int → Int) (lo : Int) : Nat → Int
  | 0 => lo
  | j + 1 => if mxf f lo j < f (lo + ((j + 1 : Nat) : Int)) then lo + ((j + 1 : Nat) : Int) else amx f lo j

theorem numOf_in2 {g : Nat} (hg : g = 53 ∨ g = 54 ∨ g = 55) {sp st : Int} (hsp : 1 ≤ sp ∧ sp ≤ 1000) (hst : 1 ≤ st ∧ st ≤ 100) {m i k : Nat} (hm : m ≤ 6) (hi9 : i < 10) (hk9 : k < m) {w y : Int} (hw : 0 ≤ w ∧ w ≤ 4) (hy : 0 ≤ y ∧ y ≤ 500) :
    (0 ≤ numOf g sp st m i k w y ∧ numOf g sp st m i k w y ≤ 1300000000) ∧ 0 ≤ denOf g st w y ∧ denOf g st w y ≤ 600000 := by
  have h1 := mul_bd (a := st) (b := (k : Int)) (x := 100) (y := 5) ⟨by omega, by omega⟩ ⟨by omega, by omega⟩
  have h2 := mul_bd h1 hw
  have h3 := mul_bd h2 hy
  have h4 := mul_bd hw hy
  have h5 := mul_bd (a := 3 * st) (x := 300) ⟨by omega, by omega⟩ h3
  have h6 := mul_bd (a := 3 * st) (x := 300) ⟨by omega, by omega⟩ h4
  have h7 := mul_bd (a := 2 * w) (x := 8) ⟨by omega, by omega⟩ hy
  have h8 := mul_bd h7 hy
  have h9 := mul_bd h8 hy
  have h11 := mul_bd (a := sp) (b := (i : Int)) (x := 1000) (y := 9) ⟨by omega, by omega⟩ ⟨by omega, by omega⟩
  have h12 := mul_bd h11 hw
  have h13 := mul_bd h12 hy
  rcases hg with rfl | rfl | rfl
  · simp only [numOf, denOf, Nat.reduceEqDiff, ↓reduceIte]; omega
  · simp only [numOf, denOf, Nat.reduceEqDiff, ↓reduceIte]; omega
  · simp only [numOf, denOf, Nat.reduceEqDiff, ↓reduceIte]
    split <;> omega
theorem gap_in {g : Nat} (hg : g = 53 ∨ g = 54 ∨ g = 55) {sp st : Int} (hsp : 1 ≤ sp ∧ sp ≤ 1000) (hst : 1 ≤ st ∧ st ≤ 100) {m i k : Nat} (hm : m ≤ 6) (hi9 : i < 10) (hk9 : k < m) {w y : Int} (hw : 0 ≤ w ∧ w ≤ 4) (hy : 0 ≤ y ∧ y ≤ 500) {N D : Int} (hN : 0 ≤ N ∧ N ≤ 100000000000) (hD : 1 ≤ D ∧ D ≤ 100000000) :
    -130000000000000000 ≤ gapOf g sp st m i k w N D y ∧ gapOf g sp st m i k w N D y ≤ 130000000000000000 := by
  obtain ⟨h1, h2⟩ := numOf_in2 hg hsp hst hm hi9 hk9 hw hy
  have h3 := mul_bd h1 (b := D) (y := 100000000) ⟨by omega, hD.2⟩
  have h4 := mul_bd h2 hN
  unfold gapOf
  omega

theorem clos {g : Nat} (hg : g = 53 ∨ g = 54 ∨ g = 55) (sp st : Int) (hsp : 1 ≤ sp ∧ sp ≤ 1000) (hst : 1 ≤ st ∧ st ≤ 100) (a : AV) (lo hi : Int) (rvs : List AV) (rows : List (List (Int × Int))) (i k m : Nat) (hm : 2 ≤ m ∧ m ≤ 6) (hi9 : i < 10) (hk9 : k < m) (w y : Int) (hw : 0 ≤ w ∧ w ≤ 4) (hy : 0 ≤ y ∧ y ≤ 500)
    (N D : Int) (hN : 0 ≤ N ∧ N ≤ 100000000000) (hD : 1 ≤ D ∧ D ≤ 100000000) (high : Bool) {h : H} (x : HullAt h a rvs rows m) (hn : 0 < rows.length) {L : List AO} {w' A B C E : Nat} (hw' : w' ≤ h.clock + L.length)
    (hA : L[A]? = some (.cells (mkCells [.fn g [.agg [ii sp, ii st, a]] []]) 66)) (hB : L[B]? = some (.cells (mkCells [ii lo, ii hi, ii (i : Int), ii (k : Int), ii w]) 81)) (hC : L[C]? = some (.cells (mkCells [ii N, ii D]) 26)) (hE : L[E]? = some (.cells (mkCells [.bool high]) 4)) :
    (om Try.prog KK).call (.fn 50 [ii y, .ptr (nx h A) 0, .ptr (nx h B) 0, .ptr (nx h C) 0, .ptr (nx h E) 0]) (X h L w') = .ok (ii (sgn high (gapOf g sp st m i k w N D y))) (X h L w') := by
  have wf0 := x.wf
  have get : ∀ {q o}, L[q]? = some o → ∀ l : List AO, (L ++ l)[q]? = some o := fun {q o} hq l => by rw [List.getElem?_append_left (lt_of_get hq), hq]
  have hlA : ∀ l w, load1 (nx h A) 0 (X (X h L w') l w) = some (.fn g [.agg [ii sp, ii st, a]] []) := fun l w => by rw [X_X, load1_X wf0, get hA]; rfl
  have hlB : ∀ l u, loadAgg (nx h B) 0 (some 5) (X (X h L w') l u) = some (.agg [ii lo, ii hi, ii (i : Int), ii (k : Int), ii w]) := fun l u => by rw [X_X, loadAgg_X wf0, get hB, aggAt_cells (by decide)]; rfl
  have hlC0 : ∀ l w, load1 (nx h C) 0 (X (X h L w') l w) = some (ii N) := fun l w => by rw [X_X, load1_X wf0, get hC]; rfl
  have hlC1 : ∀ l w, load1 (nx h C) 1 (X (X h L w') l w) = some (ii D) := fun l w => by rw [X_X, load1_X wf0, get hC]; rfl
  have hlE : ∀ l w, load1 (nx h E) 0 (X (X h L w') l w) = some (.bool high) := fun l w => by rw [X_X, load1_X wf0, get hE]; rfl
  have xb := x.up L w' hw'
  have hsh := share hg sp st hsp hst a (ii lo) (ii hi) rvs rows i k m hm hi9 hk9 w y hw hy (X h L w') xb hn rfl rfl rfl rfl
  have hpb : plainB Try.prog g = true := by rcases hg with rfl | rfl | rfl <;> first | exact pb_53 | exact pb_54 | exact pb_55
  obtain ⟨h1, h2⟩ := numOf_in2 hg hsp hst hm.2 hi9 hk9 hw hy
  have h3 := mul_bd h1 (b := D) (y := 100000000) ⟨by omega, hD.2⟩
  have h4 := mul_bd h2 hN
  have wf := xb.wf
  clear hA hB hC hE get
  generalize X h L w' = hb at *
  generalize nx h A = pA at *
  generalize nx h B = pB at *
  generalize nx h C = pC at *
  generalize nx h E = pE at *
  refine WV_to (WV_call (fn := Try.f50) Try.func50 rfl rfl rfl rfl rfl ?_)
  simp only [argF]
  cases high
  · (repeat' (first
  | (with_reducible first | refine WC_seq ?_ | refine WC_skip ?_ | refine WC_label ?_ | refine WC_scope ?_ | refine WC_block ?_ | refine WC_ret ?_ | refine WC_exit ?_ | refine seqQ_norm ?_ | refine seqQ_ret ?_ | refine seqQ_exit ?_ | refine blkQ_norm ?_ | refine blkQ_ret ?_ | refine blkQ_here ?_ | refine gateK_yes ?_ | refine gateK_none ?_ | refine condK_tt ?_ | refine condK_ff ?_ | refine roundQ_exit ?_ | refine roundQ_ret ?_)
  | refine WC_region ?_ | refine blkQ_out rfl ?_ | refine WO_nil ?_ | refine WD_nil ?_
  | ((first | refine WD_gate rfl rfl rfl rfl rfl fun K_ hK_ => ?_ | refine WO_gate rfl rfl rfl rfl rfl fun K_ hK_ => ?_); simp only [upd_apply, asB_bool, asB_tup, ↓reduceIte, reduceCtorEq, Nat.reduceEqDiff, Bool.not_true, Bool.not_false]; refine hK_ _ ?_; clear hK_ K_)
  | refine gateK_no (by decide) ?_
  | ((try first | refine WO_op rfl rfl rfl ?_ | refine WO_op0 rfl rfl ?_ | refine WD_op rfl rfl rfl ?_ | refine WD_op0 rfl rfl ?_); (refine WV_gen fun Q_ hQ_ => ?_; simp (disch := first | omega | (simp only [List.length_cons, List.length_nil, List.length_append]; omega)) only [bb, bp, argF, ↓reduceIte, reduceCtorEq, Nat.reduceEqDiff, Nat.reduceLT, Nat.reduceLeDiff, Nat.reduceAdd, Nat.reduceMul, Nat.reduceSub, Nat.reduceBEq, Int.reduceToNat, cond_true, cond_false, eq_self, beq_self_eq_true, hlA, hlB, hlC0, hlC1, hlE, hsh, hpb, callV_fn, unE_neg, newPtr_X wf, load1_X wf, loadAgg_X wf, store1_X wf, writeCells_X wf, makeFunc_def, tEvK1]; first | (refine dec_split (Q := Q_) (fun hp_ => ?_) (fun hp_ => ?_) <;> first | (exfalso; omega) | (refine hQ_ _ _ ?_; clear hQ_ Q_)) | (refine dec_splitn (Q := Q_) (fun hp_ => ?_) (fun hp_ => ?_) <;> first | (exfalso; omega) | (refine hQ_ _ _ ?_; clear hQ_ Q_)) | (refine hQ_ _ _ ?_; clear hQ_ Q_)))
  | (refine WC_cond fun K_ hK_ => ?_; simp (disch := omega) only [evT_tmp, upd_apply, WB_some, ↓reduceIte, reduceCtorEq, Nat.reduceEqDiff, Nat.reduceLT]; refine hK_ _ ?_; clear hK_ K_)))
    (refine endQ_ret _ _ rfl (ret1 (by decide)) ?_; simp only [upd_apply, ↓reduceIte, reduceCtorEq, Nat.reduceEqDiff]; refine WV_flat rfl (by omega) ?_)
    refine ⟨?_, rfl⟩
    simp [sgn, gapOf]
  · (repeat' (first
  | (with_reducible first | refine WC_seq ?_ | refine WC_skip ?_ | refine WC_label ?_ | refine WC_scope ?_ | refine WC_block ?_ | refine WC_ret ?_ | refine WC_exit ?_ | refine seqQ_norm ?_ | refine seqQ_ret ?_ | refine seqQ_exit ?_ | refine blkQ_norm ?_ | refine blkQ_ret ?_ | refine blkQ_here ?_ | refine gateK_yes ?_ | refine gateK_none ?_ | refine condK_tt ?_ | refine condK_ff ?_ | refine roundQ_exit ?_ | refine roundQ_ret ?_)
  | refine WC_region ?_ | refine blkQ_out rfl ?_ | refine WO_nil ?_ | refine WD_nil ?_
  | ((first | refine WD_gate rfl rfl rfl rfl rfl fun K_ hK_ => ?_ | refine WO_gate rfl rfl rfl rfl rfl fun K_ hK_ => ?_); simp only [upd_apply, asB_bool, asB_tup, ↓reduceIte, reduceCtorEq, Nat.reduceEqDiff, Bool.not_true, Bool.not_false]; refine hK_ _ ?_; clear hK_ K_)
  | refine gateK_no (by decide) ?_
  | ((try first | refine WO_op rfl rfl rfl ?_ | refine WO_op0 rfl rfl ?_ | refine WD_op rfl rfl rfl ?_ | refine WD_op0 rfl rfl ?_); (refine WV_gen fun Q_ hQ_ => ?_; simp (disch := first | omega | (simp only [List.length_cons, List.length_nil, List.length_append]; omega)) only [bb, bp, argF, ↓reduceIte, reduceCtorEq, Nat.reduceEqDiff, Nat.reduceLT, Nat.reduceLeDiff, Nat.reduceAdd, Nat.reduceMul, Nat.reduceSub, Nat.reduceBEq, Int.reduceToNat, cond_true, cond_false, eq_self, beq_self_eq_true, hlA, hlB, hlC0, hlC1, hlE, hsh, hpb, callV_fn, newPtr_X wf, load1_X wf, loadAgg_X wf, store1_X wf, writeCells_X wf, makeFunc_def, tEvK1]; first | (refine dec_split (Q := Q_) (fun hp_ => ?_) (fun hp_ => ?_) <;> first | (exfalso; omega) | (refine hQ_ _ _ ?_; clear hQ_ Q_)) | (refine dec_splitn (Q := Q_) (fun hp_ => ?_) (fun hp_ => ?_) <;> first | (exfalso; omega) | (refine hQ_ _ _ ?_; clear hQ_ Q_)) | (refine hQ_ _ _ ?_; clear hQ_ Q_)))
  | (refine WC_cond fun K_ hK_ => ?_; simp (disch := omega) only [evT_tmp, upd_apply, WB_some, ↓reduceIte, reduceCtorEq, Nat.reduceEqDiff, Nat.reduceLT]; refine hK_ _ ?_; clear hK_ K_)))
    (refine endQ_ret _ _ rfl (ret1 (by decide)) ?_; simp only [upd_apply, ↓reduceIte, reduceCtorEq, Nat.reduceEqDiff]; refine WV_flat rfl (by omega) ?_)
    exact ⟨rfl, rfl⟩

theorem best (lo hi : Int) (n : Nat) (hlo : 0 ≤ lo) (hhi : hi = lo + (n : Int)) (h500 : hi ≤ 500) (i k w : AV) (F : Int → Int) (caps : List AV) (h : H) (wf : Wf h)
    (hcl : ∀ y, lo ≤ y → y ≤ hi → ∀ l w, w ≤ h.clock + l.length → (om Try.prog KK).call (.fn 50 (ii y :: caps)) (X h l w) = .ok (ii (F y)) (X h l w)) :
    (om Try.prog KK).call (.fn 49 [.agg [ii lo, ii hi, i, k, w], .fn 50 [] caps]) h = .ok (.tup [ii (amx F lo n), ii (mxf F lo n)]) h := by
  refine WV_to (WV_call (fn := Try.f49) Try.func49 rfl rfl rfl rfl rfl ?_)
  simp only [argF]
  have hc0 := hcl lo (Int.le_refl _) (by omega)
  (repeat' (first
  | (with_reducible first | refine WC_seq ?_ | refine WC_skip ?_ | refine WC_label ?_ | refine WC_scope ?_ | refine WC_block ?_ | refine WC_ret ?_ | refine WC_exit ?_ | refine seqQ_norm ?_ | refine seqQ_ret ?_ | refine seqQ_exit ?_ | refine blkQ_norm ?_ | refine blkQ_ret ?_ | refine blkQ_here ?_ | refine gateK_yes ?_ | refine gateK_none ?_ | refine condK_tt ?_ | refine condK_ff ?_ | refine roundQ_exit ?_ | refine roundQ_ret ?_)
  | refine WC_region ?_ | refine blkQ_out rfl ?_ | refine WO_nil ?_ | refine WD_nil ?_
  | ((first | refine WD_gate rfl rfl rfl rfl rfl fun K_ hK_ => ?_ | refine WO_gate rfl rfl rfl rfl rfl fun K_ hK_ => ?_); simp only [upd_apply, asB_bool, asB_tup, ↓reduceIte, reduceCtorEq, Nat.reduceEqDiff, Bool.not_true, Bool.not_false]; refine hK_ _ ?_; clear hK_ K_)
  | refine gateK_no (by decide) ?_
  | ((try first | refine WO_op rfl rfl rfl ?_ | refine WO_op0 rfl rfl ?_ | refine WD_op rfl rfl rfl ?_ | refine WD_op0 rfl rfl ?_); (refine WV_gen fun Q_ hQ_ => ?_; simp (disch := first | omega | (simp only [List.length_cons, List.length_nil, List.length_append]; omega)) only [bb, bp, argF, ↓reduceIte, reduceCtorEq, Nat.reduceEqDiff, Nat.reduceLT, Nat.reduceLeDiff, Nat.reduceAdd, Nat.reduceMul, Nat.reduceSub, Nat.reduceBEq, Int.reduceToNat, cond_true, cond_false, eq_self, beq_self_eq_true, newPtr_X wf, load1_X wf, loadAgg_X wf, store1_X wf, writeCells_X wf, makeFunc_def, tEvK1]; first | (refine dec_split (Q := Q_) (fun hp_ => ?_) (fun hp_ => ?_) <;> first | (exfalso; omega) | (refine hQ_ _ _ ?_; clear hQ_ Q_)) | (refine dec_splitn (Q := Q_) (fun hp_ => ?_) (fun hp_ => ?_) <;> first | (exfalso; omega) | (refine hQ_ _ _ ?_; clear hQ_ Q_)) | (refine hQ_ _ _ ?_; clear hQ_ Q_)))
  | (refine WC_cond fun K_ hK_ => ?_; simp (disch := omega) only [evT_tmp, upd_apply, WB_some, ↓reduceIte, reduceCtorEq, Nat.reduceEqDiff, Nat.reduceLT]; refine hK_ _ ?_; clear hK_ K_)))
  refine WC_drawnB [.no, .no, .no, .no, .no, .no, .no, .no, .full, .full] (by kernel_rfl) ?_
  (repeat' (first
  | (with_reducible first | refine WC_seq ?_ | refine WC_skip ?_ | refine WC_label ?_ | refine WC_scope ?_ | refine WC_block ?_ | refine WC_ret ?_ | refine WC_exit ?_ | refine seqQ_norm ?_ | refine seqQ_ret ?_ | refine seqQ_exit ?_ | refine blkQ_norm ?_ | refine blkQ_ret ?_ | refine blkQ_here ?_ | refine gateK_yes ?_ | refine gateK_none ?_ | refine condK_tt ?_ | refine condK_ff ?_ | refine roundQ_exit ?_ | refine roundQ_ret ?_)
  | refine WC_region ?_ | refine blkQ_out rfl ?_ | refine WO_nil ?_ | refine WD_nil ?_
  | ((first | refine WD_gate rfl rfl rfl rfl rfl fun K_ hK_ => ?_ | refine WO_gate rfl rfl rfl rfl rfl fun K_ hK_ => ?_); simp only [upd_apply, asB_bool, asB_tup, ↓reduceIte, reduceCtorEq, Nat.reduceEqDiff, Bool.not_true, Bool.not_false]; refine hK_ _ ?_; clear hK_ K_)
  | refine gateK_no (by decide) ?_
  | ((try first | refine WO_op rfl rfl rfl ?_ | refine WO_op0 rfl rfl ?_ | refine WD_op rfl rfl rfl ?_ | refine WD_op0 rfl rfl ?_); (refine WV_gen fun Q_ hQ_ => ?_; simp (disch := first | omega | (simp only [List.length_cons, List.length_nil, List.length_append]; omega)) only [bb, bp, argF, ↓reduceIte, reduceCtorEq, Nat.reduceEqDiff, Nat.reduceLT, Nat.reduceLeDiff, Nat.reduceAdd, Nat.reduceMul, Nat.reduceSub, Nat.reduceBEq, Int.reduceToNat, cond_true, cond_false, eq_self, beq_self_eq_true, hc0, callV_fn, newPtr_X wf, load1_X wf, loadAgg_X wf, store1_X wf, writeCells_X wf, makeFunc_def, tEvK1]; first | (refine dec_split (Q := Q_) (fun hp_ => ?_) (fun hp_ => ?_) <;> first | (exfalso; omega) | (refine hQ_ _ _ ?_; clear hQ_ Q_)) | (refine dec_splitn (Q := Q_) (fun hp_ => ?_) (fun hp_ => ?_) <;> first | (exfalso; omega) | (refine hQ_ _ _ ?_; clear hQ_ Q_)) | (refine hQ_ _ _ ?_; clear hQ_ Q_)))
  | (refine WC_cond fun K_ hK_ => ?_; simp (disch := omega) only [evT_tmp, upd_apply, WB_some, ↓reduceIte, reduceCtorEq, Nat.reduceEqDiff, Nat.reduceLT]; refine hK_ _ ?_; clear hK_ K_)))
  refine WC_loop (fun (j : Nat) f d h' => j ≤ n ∧ f 1 = .fn 50 [] caps ∧ f 2 = .ptr (nx h 0) 0 ∧ f 6 = ii (amx F lo j) ∧ f 7 = ii (mxf F lo j) ∧ f 8 = ii (lo + ((j + 1 : Nat) : Int)) ∧ d = [] ∧ h' = X h [.cells (mkCells [ii lo, ii hi, i, k, w]) 81] h.clock) (fun j => n - j) ?_ (n + 1) 0 (by omega) ?_
  · rintro j f d h' ⟨hj, g1, g2, g6, g7, g8, rfl, rfl⟩
    by_cases hlt : j < n
    · have hc := hcl (lo + ((j + 1 : Nat) : Int)) (by omega) (by omega)
      have hb1 : lo + ((j + 1 : Nat) : Int) + 1 = lo + ((j + 1 + 1 : Nat) : Int) := by omega
      (repeat' (first
  | (with_reducible first | refine WC_seq ?_ | refine WC_skip ?_ | refine WC_label ?_ | refine WC_scope ?_ | refine WC_block ?_ | refine WC_ret ?_ | refine WC_exit ?_ | refine seqQ_norm ?_ | refine seqQ_ret ?_ | refine seqQ_exit ?_ | refine blkQ_norm ?_ | refine blkQ_ret ?_ | refine blkQ_here ?_ | refine gateK_yes ?_ | refine gateK_none ?_ | refine condK_tt ?_ | refine condK_ff ?_ | refine roundQ_exit ?_ | refine roundQ_ret ?_)
  | refine WC_region ?_ | refine blkQ_out rfl ?_ | refine WO_nil ?_ | refine WD_nil ?_
  | ((first | refine WD_gate rfl rfl rfl rfl rfl fun K_ hK_ => ?_ | refine WO_gate rfl rfl rfl rfl rfl fun K_ hK_ => ?_); simp only [upd_apply, asB_bool, asB_tup, ↓reduceIte, reduceCtorEq, Nat.reduceEqDiff, Bool.not_true, Bool.not_false]; refine hK_ _ ?_; clear hK_ K_)
  | refine gateK_no (by decide) ?_
  | ((try first | refine WO_op rfl rfl rfl ?_ | refine WO_op0 rfl rfl ?_ | refine WD_op rfl rfl rfl ?_ | refine WD_op0 rfl rfl ?_); (refine WV_gen fun Q_ hQ_ => ?_; simp (disch := first | omega | (simp only [List.length_cons, List.length_nil, List.length_append]; omega)) only [bb, bp, argF, ↓reduceIte, reduceCtorEq, Nat.reduceEqDiff, Nat.reduceLT, Nat.reduceLeDiff, Nat.reduceAdd, Nat.reduceMul, Nat.reduceSub, Nat.reduceBEq, Int.reduceToNat, cond_true, cond_false, eq_self, beq_self_eq_true, g1, g2, g6, g7, g8, hc, callV_fn, newPtr_X wf, load1_X wf, loadAgg_X wf, store1_X wf, writeCells_X wf, makeFunc_def, tEvK1]; first | (refine dec_split (Q := Q_) (fun hp_ => ?_) (fun hp_ => ?_) <;> first | (exfalso; omega) | (refine hQ_ _ _ ?_; clear hQ_ Q_)) | (refine dec_splitn (Q := Q_) (fun hp_ => ?_) (fun hp_ => ?_) <;> first | (exfalso; omega) | (refine hQ_ _ _ ?_; clear hQ_ Q_)) | (refine hQ_ _ _ ?_; clear hQ_ Q_)))
  | (refine WC_cond fun K_ hK_ => ?_; simp (disch := omega) only [evT_tmp, upd_apply, WB_some, ↓reduceIte, reduceCtorEq, Nat.reduceEqDiff, Nat.reduceLT]; refine hK_ _ ?_; clear hK_ K_)))
      · refine roundQ_again (j + 1) (by omega) ⟨hlt, by simp only [upd_apply, ↓reduceIte, reduceCtorEq, Nat.reduceEqDiff]; exact g1, by simp only [upd_apply, ↓reduceIte, reduceCtorEq, Nat.reduceEqDiff]; exact g2, ?_, ?_, by simp only [upd_apply, ↓reduceIte, reduceCtorEq, Nat.reduceEqDiff]; rw [hb1], rfl, rfl⟩
        · simp only [upd_apply, ↓reduceIte, reduceCtorEq, Nat.reduceEqDiff]
          show ii _ = ii (if _ then _ else _)
          rw [if_pos (by assumption)]
        · simp only [upd_apply, ↓reduceIte, reduceCtorEq, Nat.reduceEqDiff]
          show ii _ = ii (max _ _)
          rw [Int.max_eq_right (by omega)]
      · refine roundQ_again (j + 1) (by omega) ⟨hlt, by simp only [upd_apply, ↓reduceIte, reduceCtorEq, Nat.reduceEqDiff]; exact g1, by simp only [upd_apply, ↓reduceIte, reduceCtorEq, Nat.reduceEqDiff]; exact g2, ?_, ?_, by simp only [upd_apply, ↓reduceIte, reduceCtorEq, Nat.reduceEqDiff]; rw [hb1], rfl, rfl⟩
        · simp only [upd_apply, ↓reduceIte, reduceCtorEq, Nat.reduceEqDiff]
          rw [g6]
          show ii _ = ii (if _ then _ else _)
          rw [if_neg (by assumption)]
        · simp only [upd_apply, ↓reduceIte, reduceCtorEq, Nat.reduceEqDiff]
          rw [g7]
          show ii _ = ii (max _ _)
          rw [Int.max_eq_left (by omega)]
    · have hje : j = n := by omega
      subst hje
      (repeat' (first
  | (with_reducible first | refine WC_seq ?_ | refine WC_skip ?_ | refine WC_label ?_ | refine WC_scope ?_ | refine WC_block ?_ | refine WC_ret ?_ | refine WC_exit ?_ | refine seqQ_norm ?_ | refine seqQ_ret ?_ | refine seqQ_exit ?_ | refine blkQ_norm ?_ | refine blkQ_ret ?_ | refine blkQ_here ?_ | refine gateK_yes ?_ | refine gateK_none ?_ | refine condK_tt ?_ | refine condK_ff ?_ | refine roundQ_exit ?_ | refine roundQ_ret ?_)
  | refine WC_region ?_ | refine blkQ_out rfl ?_ | refine WO_nil ?_ | refine WD_nil ?_
  | ((first | refine WD_gate rfl rfl rfl rfl rfl fun K_ hK_ => ?_ | refine WO_gate rfl rfl rfl rfl rfl fun K_ hK_ => ?_); simp only [upd_apply, asB_bool, asB_tup, ↓reduceIte, reduceCtorEq, Nat.reduceEqDiff, Bool.not_true, Bool.not_false]; refine hK_ _ ?_; clear hK_ K_)
  | refine gateK_no (by decide) ?_
  | ((try first | refine WO_op rfl rfl rfl ?_ | refine WO_op0 rfl rfl ?_ | refine WD_op rfl rfl rfl ?_ | refine WD_op0 rfl rfl ?_); (refine WV_gen fun Q_ hQ_ => ?_; simp (disch := first | omega | (simp only [List.length_cons, List.length_nil, List.length_append]; omega)) only [bb, bp, argF, ↓reduceIte, reduceCtorEq, Nat.reduceEqDiff, Nat.reduceLT, Nat.reduceLeDiff, Nat.reduceAdd, Nat.reduceMul, Nat.reduceSub, Nat.reduceBEq, Int.reduceToNat, cond_true, cond_false, eq_self, beq_self_eq_true, g1, g2, g6, g7, g8, newPtr_X wf, load1_X wf, loadAgg_X wf, store1_X wf, writeCells_X wf, makeFunc_def, tEvK1]; first | (refine dec_split (Q := Q_) (fun hp_ => ?_) (fun hp_ => ?_) <;> first | (exfalso; omega) | (refine hQ_ _ _ ?_; clear hQ_ Q_)) | (refine dec_splitn (Q := Q_) (fun hp_ => ?_) (fun hp_ => ?_) <;> first | (exfalso; omega) | (refine hQ_ _ _ ?_; clear hQ_ Q_)) | (refine hQ_ _ _ ?_; clear hQ_ Q_)))
  | (refine WC_cond fun K_ hK_ => ?_; simp (disch := omega) only [evT_tmp, upd_apply, WB_some, ↓reduceIte, reduceCtorEq, Nat.reduceEqDiff, Nat.reduceLT]; refine hK_ _ ?_; clear hK_ K_)))
      (refine endQ_ret _ _ rfl (ret2 (by decide) (by decide)) ?_; simp only [upd_apply, ↓reduceIte, reduceCtorEq, Nat.reduceEqDiff]; refine WV_flat rfl (by omega) ?_)
      exact ⟨rfl, rfl⟩
  · refine ⟨Nat.zero_le _, by simp only [upd_apply, ↓reduceIte, reduceCtorEq, Nat.reduceEqDiff], by simp only [upd_apply, ↓reduceIte, reduceCtorEq, Nat.reduceEqDiff], by simp only [upd_apply, ↓reduceIte, reduceCtorEq, Nat.reduceEqDiff]; rfl, by simp only [upd_apply, ↓reduceIte, reduceCtorEq, Nat.reduceEqDiff]; rfl, ?_, rfl, rfl⟩
    simp only [upd_apply, ↓reduceIte, reduceCtorEq, Nat.reduceEqDiff]
    rfl
end Go.Proofs.Ytghondkiondeaac
end

/- EvK2 -/
section
/-
  LAYER 2: the true hull that is farthest beyond a number.
-/
namespace Go.Proofs.Ytghondkiondeaac
open Go.Ev
set_option maxRecDepth 100000
set_option linter.unusedSimpArgs false
set_option linter.unusedVariables false
set_option maxHeartbeats 2000000

theorem tEvK2 : type_of% (And.intro (And.intro (And.intro (And.intro (@ia_2) (And.intro (@sz_2) (@ze_2))) (And.intro (And.intro (@ia_3) (@sz_3)) (And.intro (@ia_4) (@sz_4)))) (And.intro (And.intro (@ia_64) (And.intro (@sz_64) (@ia_66))) (And.intro (And.intro (@sz_66) (@ia_26)) (And.intro (@sz_26) (@ia_71))))) (And.intro (And.intro (And.intro (@sz_71) (And.intro (@ze_71) (@ia_81))) (And.intro (And.intro (@sz_81) (@ze_81)) (And.intro (@fo_81_0) (@fo_81_1)))) (And.intro (And.intro (@fo_81_2) (And.intro (@fo_81_3) (@ik_71))) (And.intro (And.intro (@ik_69) (@pb_48)) (And.intro (@pb_49) (@pb_50)))))) := And.intro (And.intro (And.intro (And.intro (@ia_2) (And.intro (@sz_2) (@ze_2))) (And.intro (And.intro (@ia_3) (@sz_3)) (And.intro (@ia_4) (@sz_4)))) (And.intro (And.intro (@ia_64) (And.intro (@sz_64) (@ia_66))) (And.intro (And.intro (@sz_66) (@ia_26)) (And.intro (@sz_26) (@ia_71))))) (And.intro (And.intro (And.intro (@sz_71) (And.intro (@ze_71) (@ia_81))) (And.intro (And.intro (@sz_81) (@ze_81)) (And.intro (@fo_81_0) (@fo_81_1)))) (And.intro (And.intro (@fo_81_2) (And.intro (@fo_81_3) (@ik_71))) (And.intro (And.intro (@ik_69) (@pb_48)) (And.intro (@pb_49) (@pb_50)))))
theorem psum_in2 {f : Nat → Int} {b : Int} : ∀ {q : Nat}, (∀ i, i < q → -b ≤ f i ∧ f i ≤ b) → -(q * b) ≤ psum f q ∧ psum f q ≤ q * b
  | 0, _ => by simp [psum]
  | q + 1, h => by
    have := psum_in2 (q := q) (fun i hi => h i (by omega))
    have h2 := h q (by omega)
    simp only [psum]
    have e : ((q + 1 : Nat) : Int) * b = q * b + b := by rw [Int.natCast_add, Int.add_mul]; omega
    omega
theorem mxf_in {f : Int → Int} {lo : Int} {a b : Int} : ∀ {n : Nat}, (∀ y, lo ≤ y → y ≤ lo + (n : Int) → a ≤ f y ∧ f y ≤ b) → a ≤ mxf f lo n ∧ mxf f lo n ≤ b
  | 0, h => h lo (Int.le_refl _) (by omega)
  | j + 1, h => by
    have h1 := mxf_in (n := j) (fun y hy hy' => h y hy (by omega))
    have h2 := h (lo + ((j + 1 : Nat) : Int)) (by omega) (by omega)
    simp only [mxf]
    omega

/-- A place's own question: how far its offsets are beyond a number. -/
def fAt (g : Nat) (sp st : Int) (n m : Nat) (N D : Int) (high : Bool) (q : Nat) (y : Int) : Int := sgn high (gapOf g sp st m (q / m) (q % m) (W n m q) N D y)
def wide (r : Int × Int) : Nat := (r.2 - r.1).toNat
def bestG (g : Nat) (sp st : Int) (rows : List (List (Int × Int))) (m : Nat) (N D : Int) (high : Bool) (q : Nat) : Int := mxf (fAt g sp st rows.length m N D high q) (rAt rows m q).1 (wide (rAt rows m q))
def bestY (g : Nat) (sp st : Int) (rows : List (List (Int × Int))) (m : Nat) (N D : Int) (high : Bool) (q : Nat) : Int := amx (fAt g sp st rows.length m N D high q) (rAt rows m q).1 (wide (rAt rows m q))
def gB (Y : Nat → Int) (m : Nat) : Nat → List Int
  | 0 => List.replicate 60 0
  | q + 1 => (gB Y m q).set (q / m * 6 + q % m) (Y q)
theorem gB_length (Y : Nat → Int) (m : Nat) : ∀ q, (gB Y m q).length = 60
  | 0 => by simp [gB]
  | q + 1 => by simp only [gB, List.length_set]; exact gB_length Y m q

theorem fAt_in {g : Nat} (hg : g = 53 ∨ g = 54 ∨ g = 55) {sp st : Int} (hsp : 1 ≤ sp ∧ sp ≤ 1000) (hst : 1 ≤ st ∧ st ≤ 100) {n m : Nat} (hn : n ≤ 10) (hm : m ≤ 6) {N D : Int} (hN : 0 ≤ N ∧ N ≤ 100000000000) (hD : 1 ≤ D ∧ D ≤ 100000000) (high : Bool) {q : Nat} (hq : q < n * m) {y : Int} (hy : 0 ≤ y ∧ y ≤ 500) :
    -130000000000000000 ≤ fAt g sp st n m N D high q y ∧ fAt g sp st n m N D high q y ≤ 130000000000000000 := by
  obtain ⟨i1, i2, i3⟩ := place_idx hm hn hq
  have := gap_in hg hsp hst hm (i := q / m) (k := q % m) (by omega) i2 (w := W n m q) (wt2 _ _ _ _) hy hN hD
  unfold fAt sgn
  split <;> omega

theorem farthest {g : Nat} (hg : g = 53 ∨ g = 54 ∨ g = 55) (sp st : Int) (hsp : 1 ≤ sp ∧ sp ≤ 1000) (hst : 1 ≤ st ∧ st ≤ 100) (a : AV) (rvs : List AV) (rows : List (List (Int × Int))) (m : Nat) (hn : 2 ≤ rows.length ∧ rows.length ≤ 10) (hm : 2 ≤ m ∧ m ≤ 6)
    (N D : Int) (hN : 0 ≤ N ∧ N ≤ 100000000000) (hD : 1 ≤ D ∧ D ≤ 100000000) (high : Bool) (hof : ∀ q, q < rows.length * m → isOff (rAt rows m q)) (h : H) (x : HullAt h a rvs rows m) :
    (om Try.prog KK).call (.fn 30 [.agg [ii sp, ii st, a], .fn g [.agg [ii sp, ii st, a]] [], .agg [ii N, ii D], .bool high]) h = .ok (.tup [.agg ((gB (bestY g sp st rows m N D high) m (rows.length * m)).map ii), ii (psum (bestG g sp st rows m N D high) (rows.length * m))]) h := by
  have wf := x.wf
  have hnm : rows.length * m ≤ 60 := by
    have := Nat.mul_le_mul hn.2 hm.2; omega
  have hbG : ∀ q, q < rows.length * m → -130000000000000000 ≤ bestG g sp st rows m N D high q ∧ bestG g sp st rows m N D high q ≤ 130000000000000000 := fun q hq => by
    have ho := hof q hq
    unfold isOff at ho
    refine mxf_in fun y hy hy' => fAt_in hg hsp hst hn.2 hm.2 hN hD high hq ⟨by omega, ?_⟩
    unfold wide at hy'
    omega
  have hz : ((List.replicate 60 (0 : Int)).map ii) = (gB (bestY g sp st rows m N D high) m 0).map ii := rfl
  refine WV_to (WV_call (fn := Try.f30) Try.func30 rfl rfl rfl rfl rfl ?_)
  simp only [argF]
  (repeat' (first
  | (with_reducible first | refine WC_seq ?_ | refine WC_skip ?_ | refine WC_label ?_ | refine WC_scope ?_ | refine WC_block ?_ | refine WC_ret ?_ | refine WC_exit ?_ | refine seqQ_norm ?_ | refine seqQ_ret ?_ | refine seqQ_exit ?_ | refine blkQ_norm ?_ | refine blkQ_ret ?_ | refine blkQ_here ?_ | refine gateK_yes ?_ | refine gateK_none ?_ | refine condK_tt ?_ | refine condK_ff ?_ | refine roundQ_exit ?_ | refine roundQ_ret ?_)
  | refine WC_region ?_ | refine blkQ_out rfl ?_ | refine WO_nil ?_ | refine WD_nil ?_
  | ((first | refine WD_gate rfl rfl rfl rfl rfl fun K_ hK_ => ?_ | refine WO_gate rfl rfl rfl rfl rfl fun K_ hK_ => ?_); simp only [upd_apply, asB_bool, asB_tup, ↓reduceIte, reduceCtorEq, Nat.reduceEqDiff, Bool.not_true, Bool.not_false]; refine hK_ _ ?_; clear hK_ K_)
  | refine gateK_no (by decide) ?_
  | ((try first | refine WO_op rfl rfl rfl ?_ | refine WO_op0 rfl rfl ?_ | refine WD_op rfl rfl rfl ?_ | refine WD_op0 rfl rfl ?_); (refine WV_gen fun Q_ hQ_ => ?_; simp (disch := first | omega | (simp only [List.length_cons, List.length_nil, List.length_append]; omega)) only [bb, bp, argF, ↓reduceIte, reduceCtorEq, Nat.reduceEqDiff, Nat.reduceLT, Nat.reduceLeDiff, Nat.reduceAdd, Nat.reduceMul, Nat.reduceSub, Nat.reduceBEq, Int.reduceToNat, cond_true, cond_false, eq_self, beq_self_eq_true, newPtr_X wf, load1_X wf, loadAgg_X wf, store1_X wf, writeCells_X wf, makeFunc_def, tEvK2, indexAddrE_def (P := Try.prog) (t := 71), indexAddrE_def (P := Try.prog) (t := 69)]; first | (refine dec_split (Q := Q_) (fun hp_ => ?_) (fun hp_ => ?_) <;> first | (exfalso; omega) | (refine hQ_ _ _ ?_; clear hQ_ Q_)) | (refine dec_splitn (Q := Q_) (fun hp_ => ?_) (fun hp_ => ?_) <;> first | (exfalso; omega) | (refine hQ_ _ _ ?_; clear hQ_ Q_)) | (refine hQ_ _ _ ?_; clear hQ_ Q_) | (refine WV_eq (places sp st a h wf _ _ (by simp only [List.length_append, List.length_cons, List.length_nil]; omega)) ?_; refine hQ_ _ _ ?_; clear hQ_ Q_)))
  | (refine WC_cond fun K_ hK_ => ?_; simp (disch := omega) only [evT_tmp, upd_apply, WB_some, ↓reduceIte, reduceCtorEq, Nat.reduceEqDiff, Nat.reduceLT]; refine hK_ _ ?_; clear hK_ K_)))
  simp only [List.length_cons, List.length_nil, List.cons_append, List.nil_append]
  refine WC_rangeX wf rfl (evT_tmp (by decide)) fun o ho => ?_
  simp only [upd_apply, ↓reduceIte, reduceCtorEq, Nat.reduceEqDiff, List.length_cons, List.length_nil, List.cons_append, List.nil_append, Nat.reduceAdd]
  refine WV.mono (placesH x hn hm sp st 7 (nx h 9) _ (fun q hb => ∃ w, hb = X h [.cells (mkCells [ii sp, ii st, a]) 64, .cells (mkCells [.fn g [.agg [ii sp, ii st, a]] []]) 66, .cells (mkCells [ii N, ii D]) 26, .cells (mkCells [.bool high]) 4, .cells (mkCells ((gB (bestY g sp st rows m N D high) m 0).map ii)) 71,
      .cells (mkCells ((gB (bestY g sp st rows m N D high) m q).map ii)) 71, .cells (mkCells [ii (psum (bestG g sp st rows m N D high) q)]) 2, .cells (mkCells [ii sp, ii st, a]) 64, .dfr, o] w ∧ w ≤ h.clock + 10)
    (fun _ => False) h.clock (Nat.le_refl _) (Nat.le_add_right _ _) ?_ ?_ ⟨h.clock, rfl, by omega⟩) ?_
  · rintro q hb ⟨w, rfl, hw⟩
    exact ⟨⟨_, w, rfl, hw, rfl⟩, Same.X rfl⟩
  · rintro q xx hx hb J w ⟨w0, rfl, hw0⟩ hlo hw
    obtain ⟨hq, rfl⟩ := placesOf_at hx
    obtain ⟨i1, i2, i3⟩ := place_idx hm.2 hn.2 hq
    have hw' : w ≤ h.clock + 10 + J.length := hw
    rw [X_X]
    have hr : (rows.getD (q / m) []).getD (q % m) (0, 0) = rAt rows m q := rfl
    simp only [List.cons_append, List.nil_append, placeOf, hr]
    refine WV_yldX wf (k := 9) rfl ho (setParams1 rfl) ?_
    (repeat' (first
  | (with_reducible first | refine WC_seq ?_ | refine WC_skip ?_ | refine WC_label ?_ | refine WC_scope ?_ | refine WC_block ?_ | refine WC_ret ?_ | refine WC_exit ?_ | refine seqQ_norm ?_ | refine seqQ_ret ?_ | refine seqQ_exit ?_ | refine blkQ_norm ?_ | refine blkQ_ret ?_ | refine blkQ_here ?_ | refine gateK_yes ?_ | refine gateK_none ?_ | refine condK_tt ?_ | refine condK_ff ?_ | refine roundQ_exit ?_ | refine roundQ_ret ?_)
  | refine WC_region ?_ | refine blkQ_out rfl ?_ | refine WO_nil ?_ | refine WD_nil ?_
  | ((first | refine WD_gate rfl rfl rfl rfl rfl fun K_ hK_ => ?_ | refine WO_gate rfl rfl rfl rfl rfl fun K_ hK_ => ?_); simp only [upd_apply, asB_bool, asB_tup, ↓reduceIte, reduceCtorEq, Nat.reduceEqDiff, Bool.not_true, Bool.not_false]; refine hK_ _ ?_; clear hK_ K_)
  | refine gateK_no (by decide) ?_
  | ((try first | refine WO_op rfl rfl rfl ?_ | refine WO_op0 rfl rfl ?_ | refine WD_op rfl rfl rfl ?_ | refine WD_op0 rfl rfl ?_); (refine WV_gen fun Q_ hQ_ => ?_; simp (disch := first | omega | (simp only [List.length_cons, List.length_nil, List.length_append]; omega)) only [bb, bp, argF, ↓reduceIte, reduceCtorEq, Nat.reduceEqDiff, Nat.reduceLT, Nat.reduceLeDiff, Nat.reduceAdd, Nat.reduceMul, Nat.reduceSub, Nat.reduceBEq, Int.reduceToNat, cond_true, cond_false, eq_self, beq_self_eq_true, newPtr_X wf, load1_X wf, loadAgg_X wf, store1_X wf, writeCells_X wf, makeFunc_def, tEvK2, indexAddrE_def (P := Try.prog) (t := 71), indexAddrE_def (P := Try.prog) (t := 69)]; first | (refine dec_split (Q := Q_) (fun hp_ => ?_) (fun hp_ => ?_) <;> first | (exfalso; omega) | (refine hQ_ _ _ ?_; clear hQ_ Q_)) | (refine dec_splitn (Q := Q_) (fun hp_ => ?_) (fun hp_ => ?_) <;> first | (exfalso; omega) | (refine hQ_ _ _ ?_; clear hQ_ Q_)) | (refine hQ_ _ _ ?_; clear hQ_ Q_)))
  | (refine WC_cond fun K_ hK_ => ?_; simp (disch := omega) only [evT_tmp, upd_apply, WB_some, ↓reduceIte, reduceCtorEq, Nat.reduceEqDiff, Nat.reduceLT]; refine hK_ _ ?_; clear hK_ K_)))
    refine yldA_X wf (k := 9) rfl ho fun o' ho' => ?_
    simp only [List.set_cons_succ, List.set_cons_zero]
    have ho3 := hof q hq
    unfold isOff at ho3
    have hs := psum_in2 (f := bestG g sp st rows m N D high) (b := 130000000000000000) (q := q) (fun i hi => hbG i (by omega))
    have hg1 := hbG q hq
    have hlen := gB_length (bestY g sp st rows m N D high) m q
    have hbest : ∀ u, u ≤ h.clock + J.length + 11 → (om Try.prog KK).call (.fn 49 [.agg [ii (rAt rows m q).1, ii (rAt rows m q).2, ii ((q / m : Nat) : Int), ii ((q % m : Nat) : Int), ii (wt rows.length (q / m) * wt m (q % m))], .fn 50 [] [.ptr (nx h 1) 0, .ptr (nx h (J.length + 10)) 0, .ptr (nx h 2) 0, .ptr (nx h 3) 0]])
        (X h (.cells (mkCells [ii sp, ii st, a]) 64 :: .cells (mkCells [.fn g [.agg [ii sp, ii st, a]] []]) 66 :: .cells (mkCells [ii N, ii D]) 26 :: .cells (mkCells [.bool high]) 4 :: .cells (mkCells ((gB (bestY g sp st rows m N D high) m 0).map ii)) 71 ::
          .cells (mkCells ((gB (bestY g sp st rows m N D high) m q).map ii)) 71 :: .cells (mkCells [ii (psum (bestG g sp st rows m N D high) q)]) 2 :: .cells (mkCells [ii sp, ii st, a]) 64 :: .dfr :: o' :: (J ++ [.cells (mkCells [ii (rAt rows m q).1, ii (rAt rows m q).2, ii ((q / m : Nat) : Int), ii ((q % m : Nat) : Int), ii (wt rows.length (q / m) * wt m (q % m))]) 81])) u)
        = .ok (.tup [ii (bestY g sp st rows m N D high q), ii (bestG g sp st rows m N D high q)]) (X h (.cells (mkCells [ii sp, ii st, a]) 64 :: .cells (mkCells [.fn g [.agg [ii sp, ii st, a]] []]) 66 :: .cells (mkCells [ii N, ii D]) 26 :: .cells (mkCells [.bool high]) 4 :: .cells (mkCells ((gB (bestY g sp st rows m N D high) m 0).map ii)) 71 ::
          .cells (mkCells ((gB (bestY g sp st rows m N D high) m q).map ii)) 71 :: .cells (mkCells [ii (psum (bestG g sp st rows m N D high) q)]) 2 :: .cells (mkCells [ii sp, ii st, a]) 64 :: .dfr :: o' :: (J ++ [.cells (mkCells [ii (rAt rows m q).1, ii (rAt rows m q).2, ii ((q / m : Nat) : Int), ii ((q % m : Nat) : Int), ii (wt rows.length (q / m) * wt m (q % m))]) 81])) u) := fun u hu => by
      refine best _ _ (wide (rAt rows m q)) ho3.1 (by unfold wide; omega) (by omega) _ _ _ (fAt g sp st rows.length m N D high q) _ _ (wf.X (by simp only [List.length_append, List.length_cons, List.length_nil]; omega)) fun y hy1 hy2 l u' hu' => ?_
      rw [X_X]
      rw [X_clock] at hu'
      simp only [List.length_append, List.length_cons, List.length_nil] at hu'
      refine clos hg sp st hsp hst a (rAt rows m q).1 (rAt rows m q).2 rvs rows (q / m) (q % m) m hm (by omega) i2 (wt rows.length (q / m) * wt m (q % m)) y (wt2 _ _ _ _) ⟨by omega, by omega⟩ N D hN hD high x (by omega) (by simp only [List.length_append, List.length_cons, List.length_nil]; omega) (A := 1) (B := J.length + 10) (C := 2) (E := 3) rfl ?_ rfl rfl
      simp only [List.cons_append, List.append_assoc, List.getElem?_cons_succ, app_len0, List.nil_append, List.getElem?_cons_zero]
    (repeat' (first
  | (with_reducible first | refine WC_seq ?_ | refine WC_skip ?_ | refine WC_label ?_ | refine WC_scope ?_ | refine WC_block ?_ | refine WC_ret ?_ | refine WC_exit ?_ | refine seqQ_norm ?_ | refine seqQ_ret ?_ | refine seqQ_exit ?_ | refine blkQ_norm ?_ | refine blkQ_ret ?_ | refine blkQ_here ?_ | refine gateK_yes ?_ | refine gateK_none ?_ | refine condK_tt ?_ | refine condK_ff ?_ | refine roundQ_exit ?_ | refine roundQ_ret ?_)
  | refine WC_region ?_ | refine blkQ_out rfl ?_ | refine WO_nil ?_ | refine WD_nil ?_
  | ((first | refine WD_gate rfl rfl rfl rfl rfl fun K_ hK_ => ?_ | refine WO_gate rfl rfl rfl rfl rfl fun K_ hK_ => ?_); simp only [upd_apply, asB_bool, asB_tup, ↓reduceIte, reduceCtorEq, Nat.reduceEqDiff, Bool.not_true, Bool.not_false]; refine hK_ _ ?_; clear hK_ K_)
  | refine gateK_no (by decide) ?_
  | ((try first | refine WO_op rfl rfl rfl ?_ | refine WO_op0 rfl rfl ?_ | refine WD_op rfl rfl rfl ?_ | refine WD_op0 rfl rfl ?_); (refine WV_gen fun Q_ hQ_ => ?_; simp (disch := first | omega | (simp only [List.length_cons, List.length_nil, List.length_append]; omega)) only [bb, bp, argF, ↓reduceIte, reduceCtorEq, Nat.reduceEqDiff, Nat.reduceLT, Nat.reduceLeDiff, Nat.reduceAdd, Nat.reduceMul, Nat.reduceSub, Nat.reduceBEq, Int.reduceToNat, cond_true, cond_false, eq_self, beq_self_eq_true, hlen, List.length_map, newPtr_X wf, load1_X wf, loadAgg_X wf, store1_X wf, writeCells_X wf, makeFunc_def, tEvK2, indexAddrE_def (P := Try.prog) (t := 71), indexAddrE_def (P := Try.prog) (t := 69)]; first | (refine dec_split (Q := Q_) (fun hp_ => ?_) (fun hp_ => ?_) <;> first | (exfalso; omega) | (refine hQ_ _ _ ?_; clear hQ_ Q_)) | (refine dec_splitn (Q := Q_) (fun hp_ => ?_) (fun hp_ => ?_) <;> first | (exfalso; omega) | (refine hQ_ _ _ ?_; clear hQ_ Q_)) | (refine hQ_ _ _ ?_; clear hQ_ Q_) | (refine WV_eq (hbest _ (by omega)) ?_; refine hQ_ _ _ ?_; clear hQ_ Q_)))
  | (refine WC_cond fun K_ hK_ => ?_; simp (disch := omega) only [evT_tmp, upd_apply, WB_some, ↓reduceIte, reduceCtorEq, Nat.reduceEqDiff, Nat.reduceLT]; refine hK_ _ ?_; clear hK_ K_)))
    have hlm : ((gB (bestY g sp st rows m N D high) m q).map ii).length = 60 := by rw [List.length_map, hlen]
    refine WC_drawnB [.no, .no, .no, .no, .no, .no, .full, .full] (by kernel_rfl) ?_
    (repeat' (first
  | (with_reducible first | refine WC_seq ?_ | refine WC_skip ?_ | refine WC_label ?_ | refine WC_scope ?_ | refine WC_block ?_ | refine WC_ret ?_ | refine WC_exit ?_ | refine seqQ_norm ?_ | refine seqQ_ret ?_ | refine seqQ_exit ?_ | refine blkQ_norm ?_ | refine blkQ_ret ?_ | refine blkQ_here ?_ | refine gateK_yes ?_ | refine gateK_none ?_ | refine condK_tt ?_ | refine condK_ff ?_ | refine roundQ_exit ?_ | refine roundQ_ret ?_)
  | refine WC_region ?_ | refine blkQ_out rfl ?_ | refine WO_nil ?_ | refine WD_nil ?_
  | ((first | refine WD_gate rfl rfl rfl rfl rfl fun K_ hK_ => ?_ | refine WO_gate rfl rfl rfl rfl rfl fun K_ hK_ => ?_); simp only [upd_apply, asB_bool, asB_tup, ↓reduceIte, reduceCtorEq, Nat.reduceEqDiff, Bool.not_true, Bool.not_false]; refine hK_ _ ?_; clear hK_ K_)
  | refine gateK_no (by decide) ?_
  | ((try first | refine WO_op rfl rfl rfl ?_ | refine WO_op0 rfl rfl ?_ | refine WD_op rfl rfl rfl ?_ | refine WD_op0 rfl rfl ?_); (refine WV_gen fun Q_ hQ_ => ?_; simp (disch := first | omega | (simp only [List.length_cons, List.length_nil, List.length_append]; omega)) only [bb, bp, argF, ↓reduceIte, reduceCtorEq, Nat.reduceEqDiff, Nat.reduceLT, Nat.reduceLeDiff, Nat.reduceAdd, Nat.reduceMul, Nat.reduceSub, Nat.reduceBEq, Int.reduceToNat, cond_true, cond_false, eq_self, beq_self_eq_true, hlm, i3, newPtr_X wf, load1_X wf, loadAgg_X wf, store1_X wf, writeCells_X wf, makeFunc_def, tEvK2, indexAddrE_def (P := Try.prog) (t := 71), indexAddrE_def (P := Try.prog) (t := 69)]; first | (refine dec_split (Q := Q_) (fun hp_ => ?_) (fun hp_ => ?_) <;> first | (exfalso; omega) | (refine hQ_ _ _ ?_; clear hQ_ Q_)) | (refine dec_splitn (Q := Q_) (fun hp_ => ?_) (fun hp_ => ?_) <;> first | (exfalso; omega) | (refine hQ_ _ _ ?_; clear hQ_ Q_)) | (refine hQ_ _ _ ?_; clear hQ_ Q_)))
  | (refine WC_cond fun K_ hK_ => ?_; simp (disch := omega) only [evT_tmp, upd_apply, WB_some, ↓reduceIte, reduceCtorEq, Nat.reduceEqDiff, Nat.reduceLT]; refine hK_ _ ?_; clear hK_ K_)))
    refine yldB_X wf (k := 9) rfl ho' ?_
    simp only [List.set_cons_succ, List.set_cons_zero]
    rw [← ho]
    refine ⟨X h [.cells (mkCells [ii sp, ii st, a]) 64, .cells (mkCells [.fn g [.agg [ii sp, ii st, a]] []]) 66, .cells (mkCells [ii N, ii D]) 26, .cells (mkCells [.bool high]) 4, .cells (mkCells ((gB (bestY g sp st rows m N D high) m 0).map ii)) 71,
      .cells (mkCells ((gB (bestY g sp st rows m N D high) m (q + 1)).map ii)) 71, .cells (mkCells [ii (psum (bestG g sp st rows m N D high) (q + 1))]) 2, .cells (mkCells [ii sp, ii st, a]) 64, .dfr, o] w0, _, _, by rw [X_X]; simp only [gB, List.map_set]; rfl, Same.X rfl, by omega, ?_, .inl ⟨rfl, w0, rfl, hw0⟩⟩
    show _ < h.clock + 10
    omega
  · rintro v h' ⟨hb, J, w, rfl, hs, hlo, hw, ⟨w0, rfl, hw0⟩ | hD'⟩
    · rw [X_X, placesOf_length]
      refine rangeQ_X wf (k := 9) rfl ho (by decide) fun o' ho' => ?_
      simp only [List.cons_append, List.nil_append, List.set_cons_succ, List.set_cons_zero]
      have hL : ((gB (bestY g sp st rows m N D high) m (rows.length * m)).map ii).length = 60 := by rw [List.length_map, gB_length]
      have hL0 : ((gB (bestY g sp st rows m N D high) m 0).map ii).length = 60 := by rw [List.length_map, gB_length]
      refine WC_seq ?_
      refine WC_drawnB [.no, .no, .soft [11], .full] (by kernel_rfl) ?_
      have hld : ∀ u, loadE Try.prog 71 (.ptr (nx h 5) 0) (X h (.cells (mkCells [ii sp, ii st, a]) 64 :: .cells (mkCells [.fn g [.agg [ii sp, ii st, a]] []]) 66 :: .cells (mkCells [ii N, ii D]) 26 :: .cells (mkCells [.bool high]) 4 :: .cells (mkCells ((gB (bestY g sp st rows m N D high) m 0).map ii)) 71 ::
          .cells (mkCells ((gB (bestY g sp st rows m N D high) m (rows.length * m)).map ii)) 71 :: .cells (mkCells [ii (psum (bestG g sp st rows m N D high) (rows.length * m))]) 2 :: .cells (mkCells [ii sp, ii st, a]) 64 :: .dfr :: o' :: J) u) = some (.agg ((gB (bestY g sp st rows m N D high) m (rows.length * m)).map ii)) := fun u => loadE_whole wf ia_71 sz_71 (by decide) hL rfl
      have hsto : ∀ u, storeE Try.prog 71 (.ptr (nx h 4) 0) (.agg ((gB (bestY g sp st rows m N D high) m (rows.length * m)).map ii)) (X h (.cells (mkCells [ii sp, ii st, a]) 64 :: .cells (mkCells [.fn g [.agg [ii sp, ii st, a]] []]) 66 :: .cells (mkCells [ii N, ii D]) 26 :: .cells (mkCells [.bool high]) 4 :: .cells (mkCells ((gB (bestY g sp st rows m N D high) m 0).map ii)) 71 ::
          .cells (mkCells ((gB (bestY g sp st rows m N D high) m (rows.length * m)).map ii)) 71 :: .cells (mkCells [ii (psum (bestG g sp st rows m N D high) (rows.length * m))]) 2 :: .cells (mkCells [ii sp, ii st, a]) 64 :: .dfr :: o' :: J) u)
          = some (X h (.cells (mkCells [ii sp, ii st, a]) 64 :: .cells (mkCells [.fn g [.agg [ii sp, ii st, a]] []]) 66 :: .cells (mkCells [ii N, ii D]) 26 :: .cells (mkCells [.bool high]) 4 :: .cells (mkCells ((gB (bestY g sp st rows m N D high) m (rows.length * m)).map ii)) 71 ::
          .cells (mkCells ((gB (bestY g sp st rows m N D high) m (rows.length * m)).map ii)) 71 :: .cells (mkCells [ii (psum (bestG g sp st rows m N D high) (rows.length * m))]) 2 :: .cells (mkCells [ii sp, ii st, a]) 64 :: .dfr :: o' :: J) (min (h.clock + 4) u)) := fun u => storeE_whole wf sz_71 (by decide) hL hL0 rfl (allOne_map (fun _ => rfl) _)
      (repeat' (first
  | (with_reducible first | refine WC_seq ?_ | refine WC_skip ?_ | refine WC_label ?_ | refine WC_scope ?_ | refine WC_block ?_ | refine WC_ret ?_ | refine WC_exit ?_ | refine seqQ_norm ?_ | refine seqQ_ret ?_ | refine seqQ_exit ?_ | refine blkQ_norm ?_ | refine blkQ_ret ?_ | refine blkQ_here ?_ | refine gateK_yes ?_ | refine gateK_none ?_ | refine condK_tt ?_ | refine condK_ff ?_ | refine roundQ_exit ?_ | refine roundQ_ret ?_)
  | refine WC_region ?_ | refine blkQ_out rfl ?_ | refine WO_nil ?_ | refine WD_nil ?_
  | ((first | refine WD_gate rfl rfl rfl rfl rfl fun K_ hK_ => ?_ | refine WO_gate rfl rfl rfl rfl rfl fun K_ hK_ => ?_); simp only [upd_apply, asB_bool, asB_tup, ↓reduceIte, reduceCtorEq, Nat.reduceEqDiff, Bool.not_true, Bool.not_false]; refine hK_ _ ?_; clear hK_ K_)
  | refine gateK_no (by decide) ?_
  | ((try first | refine WO_op rfl rfl rfl ?_ | refine WO_op0 rfl rfl ?_ | refine WD_op rfl rfl rfl ?_ | refine WD_op0 rfl rfl ?_); (refine WV_gen fun Q_ hQ_ => ?_; simp (disch := first | omega | (simp only [List.length_cons, List.length_nil, List.length_append]; omega)) only [bb, bp, argF, ↓reduceIte, reduceCtorEq, Nat.reduceEqDiff, Nat.reduceLT, Nat.reduceLeDiff, Nat.reduceAdd, Nat.reduceMul, Nat.reduceSub, Nat.reduceBEq, Int.reduceToNat, cond_true, cond_false, eq_self, beq_self_eq_true, hld, load1_X wf, tEvK2, indexAddrE_def (P := Try.prog) (t := 71), indexAddrE_def (P := Try.prog) (t := 69)]; first | (refine dec_split (Q := Q_) (fun hp_ => ?_) (fun hp_ => ?_) <;> first | (exfalso; omega) | (refine hQ_ _ _ ?_; clear hQ_ Q_)) | (refine dec_splitn (Q := Q_) (fun hp_ => ?_) (fun hp_ => ?_) <;> first | (exfalso; omega) | (refine hQ_ _ _ ?_; clear hQ_ Q_)) | (refine hQ_ _ _ ?_; clear hQ_ Q_)))
  | (refine WC_cond fun K_ hK_ => ?_; simp (disch := omega) only [evT_tmp, upd_apply, WB_some, ↓reduceIte, reduceCtorEq, Nat.reduceEqDiff, Nat.reduceLT]; refine hK_ _ ?_; clear hK_ K_)))
      refine WD_op0 rfl rfl (WV_soft (v := .tup []) (by
        rw [x_store, evT_tmp (by decide), on1_ok, evT_tmp (by decide), on1_ok]
        simp only [upd_apply, ↓reduceIte, reduceCtorEq, Nat.reduceEqDiff]
        rw [marked_X, hsto]
        rfl) (barOk_store1 (by simp only [upd_apply, ↓reduceIte, reduceCtorEq, Nat.reduceEqDiff]; rfl) (by simp only [upd_apply, ↓reduceIte, reduceCtorEq, Nat.reduceEqDiff]; rfl) (nx_ne (by decide)) (by decide) (by decide)) ?_)
      (repeat' (first
  | (with_reducible first | refine WC_seq ?_ | refine WC_skip ?_ | refine WC_label ?_ | refine WC_scope ?_ | refine WC_block ?_ | refine WC_ret ?_ | refine WC_exit ?_ | refine seqQ_norm ?_ | refine seqQ_ret ?_ | refine seqQ_exit ?_ | refine blkQ_norm ?_ | refine blkQ_ret ?_ | refine blkQ_here ?_ | refine gateK_yes ?_ | refine gateK_none ?_ | refine condK_tt ?_ | refine condK_ff ?_ | refine roundQ_exit ?_ | refine roundQ_ret ?_)
  | refine WC_region ?_ | refine blkQ_out rfl ?_ | refine WO_nil ?_ | refine WD_nil ?_
  | ((first | refine WD_gate rfl rfl rfl rfl rfl fun K_ hK_ => ?_ | refine WO_gate rfl rfl rfl rfl rfl fun K_ hK_ => ?_); simp only [upd_apply, asB_bool, asB_tup, ↓reduceIte, reduceCtorEq, Nat.reduceEqDiff, Bool.not_true, Bool.not_false]; refine hK_ _ ?_; clear hK_ K_)
  | refine gateK_no (by decide) ?_
  | ((try first | refine WO_op rfl rfl rfl ?_ | refine WO_op0 rfl rfl ?_ | refine WD_op rfl rfl rfl ?_ | refine WD_op0 rfl rfl ?_); (refine WV_gen fun Q_ hQ_ => ?_; simp (disch := first | omega | (simp only [List.length_cons, List.length_nil, List.length_append]; omega)) only [bb, bp, argF, ↓reduceIte, reduceCtorEq, Nat.reduceEqDiff, Nat.reduceLT, Nat.reduceLeDiff, Nat.reduceAdd, Nat.reduceMul, Nat.reduceSub, Nat.reduceBEq, Int.reduceToNat, cond_true, cond_false, eq_self, beq_self_eq_true, tEvK2, indexAddrE_def (P := Try.prog) (t := 71), indexAddrE_def (P := Try.prog) (t := 69)]; first | (refine dec_split (Q := Q_) (fun hp_ => ?_) (fun hp_ => ?_) <;> first | (exfalso; omega) | (refine hQ_ _ _ ?_; clear hQ_ Q_)) | (refine dec_splitn (Q := Q_) (fun hp_ => ?_) (fun hp_ => ?_) <;> first | (exfalso; omega) | (refine hQ_ _ _ ?_; clear hQ_ Q_)) | (refine hQ_ _ _ ?_; clear hQ_ Q_)))
  | (refine WC_cond fun K_ hK_ => ?_; simp (disch := omega) only [evT_tmp, upd_apply, WB_some, ↓reduceIte, reduceCtorEq, Nat.reduceEqDiff, Nat.reduceLT]; refine hK_ _ ?_; clear hK_ K_)))
      refine endQ_ret _ _ (takeAll_X wf (k := 8) rfl) (retc1 (by decide) (by decide) (by simp only [upd_apply, ↓reduceIte, reduceCtorEq, Nat.reduceEqDiff]; exact loadE_whole wf ia_71 sz_71 (by decide) hL rfl)) ?_
      simp only [upd_apply, ↓reduceIte, reduceCtorEq, Nat.reduceEqDiff]
      refine WV_flat ?_ (by omega) ?_
      · show (bif flatL ((gB (bestY g sp st rows m N D high) m (rows.length * m)).map ii) then _ else false) = true
        rw [flatL_ii]; rfl
      · exact ⟨rfl, rfl⟩
    · exact hD'.elim
end Go.Proofs.Ytghondkiondeaac
end

/- EvK3 -/
section
/-
  LAYER 2: bounds; what the package answers of them.
-/
namespace Go.Proofs.Ytghondkiondeaac
open Go.Ev
set_option maxRecDepth 100000
set_option linter.unusedSimpArgs false
set_option linter.unusedVariables false
set_option maxHeartbeats 2000000

theorem tEvK3 : type_of% (And.intro (And.intro (And.intro (And.intro (And.intro (@bs_64) (@ia_2)) (And.intro (@sz_2) (@ze_2))) (And.intro (And.intro (@ia_3) (@sz_3)) (And.intro (@ia_4) (@sz_4)))) (And.intro (And.intro (And.intro (@ia_24) (@sz_24)) (And.intro (@ia_53) (@sz_53))) (And.intro (And.intro (@ia_64) (@sz_64)) (And.intro (@ze_64) (@ia_66))))) (And.intro (And.intro (And.intro (And.intro (@sz_66) (@ia_26)) (And.intro (@sz_26) (@ze_26))) (And.intro (And.intro (@fo_26_0) (@fo_26_1)) (And.intro (@ia_71) (@sz_71)))) (And.intro (And.intro (And.intro (@ze_71) (@pb_28)) (And.intro (@pb_29) (@pb_30))) (And.intro (And.intro (@pb_36) (@pb_40)) (And.intro (@pb_46) (@pb_47)))))) := And.intro (And.intro (And.intro (And.intro (And.intro (@bs_64) (@ia_2)) (And.intro (@sz_2) (@ze_2))) (And.intro (And.intro (@ia_3) (@sz_3)) (And.intro (@ia_4) (@sz_4)))) (And.intro (And.intro (And.intro (@ia_24) (@sz_24)) (And.intro (@ia_53) (@sz_53))) (And.intro (And.intro (@ia_64) (@sz_64)) (And.intro (@ze_64) (@ia_66))))) (And.intro (And.intro (And.intro (And.intro (@sz_66) (@ia_26)) (And.intro (@sz_26) (@ze_26))) (And.intro (And.intro (@fo_26_0) (@fo_26_1)) (And.intro (@ia_71) (@sz_71)))) (And.intro (And.intro (And.intro (@ze_71) (@pb_28)) (And.intro (@pb_29) (@pb_30))) (And.intro (And.intro (@pb_36) (@pb_40)) (And.intro (@pb_46) (@pb_47)))))
def bndIn (N D : Int) : Prop := (0 ≤ N ∧ N ≤ 100000000000) ∧ 1 ≤ D ∧ D ≤ 100000000
instance (N D : Int) : Decidable (bndIn N D) := by unfold bndIn; infer_instance
/-- May this be a bound? -/
def isBnd (N D : Int) : Bool := decide (bndIn N D) && (N == N / (Int.gcd N D : Int) && D == D / (Int.gcd N D : Int))

theorem eqQ {x y : Operand} {a b c e : Int} : binE Try.prog .eql 26 x y (.agg [ii a, ii b]) (.agg [ii c, ii e]) = some (.bool (a == c && b == e)) := by
  obtain ⟨f0, f1, hu, o0, o1, t0, t1, n0, n1⟩ := under29
  exact b_eql2 hu (by rw [t0]; exact Try.underlying2) (by rw [t1]; exact Try.underlying2) o0 o1 n0 n1 (by kernel_rfl) (by kernel_rfl)

/-- The question that is put. -/
theorem questionBad (sp st : Int) (a : AV) (rvs : List AV) (rows : List (List (Int × Int))) (what : Int) (he : hullErr sp st rows ≠ 0) (h : H) (x : HullR h a rvs rows) :
    (om Try.prog KK).call (.fn 28 [.agg [ii sp, ii st, a], ii what]) h = .ok (.tup [.agg [ii 0, ii 0, .nils], .nilf, ii (hullErr sp st rows)]) h := by
  have wf := x.wf
  have hch : ∀ l w, w ≤ h.clock + l.length → (om Try.prog KK).call (.fn 36 [.agg [ii sp, ii st, a]]) (X h l w) = .ok (ii (hullErr sp st rows)) (X h l w) := fun l w hw => checkHull sp st a rvs rows _ (x.up l w hw)
  refine WV_to (WV_call (fn := Try.f28) Try.func28 rfl rfl rfl rfl rfl ?_)
  simp only [argF]
  (repeat' (first
  | (with_reducible first | refine WC_seq ?_ | refine WC_skip ?_ | refine WC_label ?_ | refine WC_scope ?_ | refine WC_block ?_ | refine WC_ret ?_ | refine WC_exit ?_ | refine seqQ_norm ?_ | refine seqQ_ret ?_ | refine seqQ_exit ?_ | refine blkQ_norm ?_ | refine blkQ_ret ?_ | refine blkQ_here ?_ | refine gateK_yes ?_ | refine gateK_none ?_ | refine condK_tt ?_ | refine condK_ff ?_ | refine roundQ_exit ?_ | refine roundQ_ret ?_)
  | refine WC_region ?_ | refine blkQ_out rfl ?_ | refine WO_nil ?_ | refine WD_nil ?_
  | ((first | refine WD_gate rfl rfl rfl rfl rfl fun K_ hK_ => ?_ | refine WO_gate rfl rfl rfl rfl rfl fun K_ hK_ => ?_); simp only [upd_apply, asB_bool, asB_tup, ↓reduceIte, reduceCtorEq, Nat.reduceEqDiff, Bool.not_true, Bool.not_false]; refine hK_ _ ?_; clear hK_ K_)
  | refine gateK_no (by decide) ?_
  | ((try first | refine WO_op rfl rfl rfl ?_ | refine WO_op0 rfl rfl ?_ | refine WD_op rfl rfl rfl ?_ | refine WD_op0 rfl rfl ?_); (refine WV_gen fun Q_ hQ_ => ?_; simp (disch := first | omega | (simp only [List.length_cons, List.length_nil, List.length_append]; omega)) only [bb, bp, argF, ↓reduceIte, reduceCtorEq, Nat.reduceEqDiff, Nat.reduceLT, Nat.reduceLeDiff, Nat.reduceAdd, Nat.reduceMul, Nat.reduceSub, Nat.reduceBEq, Int.reduceToNat, cond_true, cond_false, eq_self, beq_self_eq_true, hch, newPtr_X wf, load1_X wf, loadAgg_X wf, store1_X wf, writeCells_X wf, makeFunc_def, tEvK3, bsl_53, newSlice_X wf]; first | (refine dec_split (Q := Q_) (fun hp_ => ?_) (fun hp_ => ?_) <;> first | (exfalso; omega) | (refine hQ_ _ _ ?_; clear hQ_ Q_)) | (refine dec_splitn (Q := Q_) (fun hp_ => ?_) (fun hp_ => ?_) <;> first | (exfalso; omega) | (refine hQ_ _ _ ?_; clear hQ_ Q_)) | (refine hQ_ _ _ ?_; clear hQ_ Q_)))
  | (refine WC_cond fun K_ hK_ => ?_; simp (disch := omega) only [evT_tmp, upd_apply, WB_some, ↓reduceIte, reduceCtorEq, Nat.reduceEqDiff, Nat.reduceLT]; refine hK_ _ ?_; clear hK_ K_)))
  refine endQ_ret _ _ rfl (retc2 (by decide) (by decide) (by decide) (by simp (disch := first | omega | (simp only [List.length_cons, List.length_nil, List.length_append]; omega)) only [bb, bp, argF, ↓reduceIte, reduceCtorEq, Nat.reduceEqDiff, Nat.reduceLT, Nat.reduceLeDiff, Nat.reduceAdd, Nat.reduceMul, Nat.reduceSub, Nat.reduceBEq, Int.reduceToNat, cond_true, cond_false, eq_self, beq_self_eq_true, loadAgg_X wf, tEvK3, bsl_53, newSlice_X wf]; rfl)) ?_
  simp only [upd_apply, ↓reduceIte, reduceCtorEq, Nat.reduceEqDiff]
  refine WV_flat rfl (by omega) ?_
  exact ⟨rfl, rfl⟩

theorem hullErr_sl {h : H} {a : AV} {rvs : List AV} {rows : List (List (Int × Int))} (x : HullR h a rvs rows) (hn : 0 < rows.length) : ∃ id off cap esz, a = .sl id off rows.length cap esz := by
  obtain ⟨_, ⟨_, h0⟩ | ⟨id, off, cap, esz, _, _, e, _⟩⟩ := x.sl
  · omega
  · exact ⟨id, off, cap, esz, e⟩

theorem questionNot (sp st : Int) (a : AV) (rvs : List AV) (rows : List (List (Int × Int))) (what : Int) (he : hullErr sp st rows = 0) (hwh : ¬ (0 ≤ what ∧ what ≤ 2)) {h0 : H} (x0 : HullR h0 a rvs rows) {J : List AO} {w0 : Nat} (hw0 : w0 ≤ h0.clock + J.length) :
    (om Try.prog KK).call (.fn 28 [.agg [ii sp, ii st, a], ii what]) (X h0 J w0) = .ok (.tup [.agg [ii sp, ii st, a], .nilf, ii 3]) (X h0 (J ++ [.cells (mkCells [ii sp, ii st, a]) 24, .cells (mkCells [ii sp, ii st, a]) 64, .cells (mkCells [ii sp, ii st, a]) 64]) w0) := by
  have x := x0.up J w0 hw0
  have key : ∀ h, HullR h a rvs rows → (om Try.prog KK).call (.fn 28 [.agg [ii sp, ii st, a], ii what]) h = .ok (.tup [.agg [ii sp, ii st, a], .nilf, ii 3]) (X h [.cells (mkCells [ii sp, ii st, a]) 24, .cells (mkCells [ii sp, ii st, a]) 64, .cells (mkCells [ii sp, ii st, a]) 64] h.w) := by
    clear x x0
    intro h x
    have wf := x.wf
    obtain ⟨hn, hm, hall, hsp, hst, hof⟩ := hullErr_ok he
    obtain ⟨id, off, cap, esz, rfl⟩ := hullErr_sl x (by omega)
    have hch : ∀ l w, w ≤ h.clock + l.length → (om Try.prog KK).call (.fn 36 [.agg [ii sp, ii st, .sl id off rows.length cap esz]]) (X h l w) = .ok (ii (hullErr sp st rows)) (X h l w) := fun l w hw => checkHull sp st _ rvs rows _ (x.up l w hw)
    have han : ∀ l w, w ≤ h.clock + l.length → (om Try.prog KK).call (.fn 40 [.agg [ii sp, ii st, .sl id off rows.length cap esz], ii what]) (X h l w) = .ok (.tup [.nilf, ii 3]) (X h l w) := fun l w hw => askedNot sp st _ what hwh _ (wf.X hw)
    refine WV_to (WV_call (fn := Try.f28) Try.func28 rfl rfl rfl rfl rfl ?_)
    simp only [argF]
    (repeat' (first
  | (with_reducible first | refine WC_seq ?_ | refine WC_skip ?_ | refine WC_label ?_ | refine WC_scope ?_ | refine WC_block ?_ | refine WC_ret ?_ | refine WC_exit ?_ | refine seqQ_norm ?_ | refine seqQ_ret ?_ | refine seqQ_exit ?_ | refine blkQ_norm ?_ | refine blkQ_ret ?_ | refine blkQ_here ?_ | refine gateK_yes ?_ | refine gateK_none ?_ | refine condK_tt ?_ | refine condK_ff ?_ | refine roundQ_exit ?_ | refine roundQ_ret ?_)
  | refine WC_region ?_ | refine blkQ_out rfl ?_ | refine WO_nil ?_ | refine WD_nil ?_
  | ((first | refine WD_gate rfl rfl rfl rfl rfl fun K_ hK_ => ?_ | refine WO_gate rfl rfl rfl rfl rfl fun K_ hK_ => ?_); simp only [upd_apply, asB_bool, asB_tup, ↓reduceIte, reduceCtorEq, Nat.reduceEqDiff, Bool.not_true, Bool.not_false]; refine hK_ _ ?_; clear hK_ K_)
  | refine gateK_no (by decide) ?_
  | ((try first | refine WO_op rfl rfl rfl ?_ | refine WO_op0 rfl rfl ?_ | refine WD_op rfl rfl rfl ?_ | refine WD_op0 rfl rfl ?_); (refine WV_gen fun Q_ hQ_ => ?_; simp (disch := first | omega | (simp only [List.length_cons, List.length_nil, List.length_append]; omega)) only [bb, bp, argF, ↓reduceIte, reduceCtorEq, Nat.reduceEqDiff, Nat.reduceLT, Nat.reduceLeDiff, Nat.reduceAdd, Nat.reduceMul, Nat.reduceSub, Nat.reduceBEq, Int.reduceToNat, cond_true, cond_false, eq_self, beq_self_eq_true, hch, he, han, newPtr_X wf, load1_X wf, loadAgg_X wf, store1_X wf, writeCells_X wf, makeFunc_def, tEvK3, bsl_53, newSlice_X wf]; first | (refine dec_split (Q := Q_) (fun hp_ => ?_) (fun hp_ => ?_) <;> first | (exfalso; omega) | (refine hQ_ _ _ ?_; clear hQ_ Q_)) | (refine dec_splitn (Q := Q_) (fun hp_ => ?_) (fun hp_ => ?_) <;> first | (exfalso; omega) | (refine hQ_ _ _ ?_; clear hQ_ Q_)) | (refine hQ_ _ _ ?_; clear hQ_ Q_)))
  | (refine WC_cond fun K_ hK_ => ?_; simp (disch := omega) only [evT_tmp, upd_apply, WB_some, ↓reduceIte, reduceCtorEq, Nat.reduceEqDiff, Nat.reduceLT]; refine hK_ _ ?_; clear hK_ K_)))
    refine endQ_ret _ _ rfl (retc2 (by decide) (by decide) (by decide) (by simp (disch := first | omega | (simp only [List.length_cons, List.length_nil, List.length_append]; omega)) only [bb, bp, argF, ↓reduceIte, reduceCtorEq, Nat.reduceEqDiff, Nat.reduceLT, Nat.reduceLeDiff, Nat.reduceAdd, Nat.reduceMul, Nat.reduceSub, Nat.reduceBEq, Int.reduceToNat, cond_true, cond_false, eq_self, beq_self_eq_true, loadAgg_X wf, tEvK3, bsl_53, newSlice_X wf]; rfl)) ?_
    simp only [upd_apply, ↓reduceIte, reduceCtorEq, Nat.reduceEqDiff]
    refine WV_ext (by
      show (_ && flat (.tup [.agg [ii sp, ii st, .sl _ _ _ _ _], .nilf, ii 3])) = false
      exact Bool.and_false _) ?_
    refine ⟨rfl, ?_⟩
    rw [Nat.min_eq_left (by have := wf.wle; omega)]
  rw [key _ x, X_X, X_w]

theorem question (sp st : Int) (a : AV) (rvs : List AV) (rows : List (List (Int × Int))) (what : Int) (he : hullErr sp st rows = 0) (hwh : 0 ≤ what ∧ what ≤ 2) {h0 : H} (x0 : HullR h0 a rvs rows) {J : List AO} {w0 : Nat} (hw0 : w0 ≤ h0.clock + J.length) :
    (om Try.prog KK).call (.fn 28 [.agg [ii sp, ii st, a], ii what]) (X h0 J w0) = .ok (.tup [.agg [ii sp, ii st, a], .fn (gOf what) [.agg [ii sp, ii st, a]] [], ii 0]) (X h0 (J ++ [.cells (mkCells [ii sp, ii st, a]) 24, .cells (mkCells [ii sp, ii st, a]) 64, .cells (mkCells [ii sp, ii st, a]) 64, .cells (mkCells [ii sp, ii st, a]) 64]) w0) := by
  have x := x0.up J w0 hw0
  have key : ∀ h, HullR h a rvs rows → (om Try.prog KK).call (.fn 28 [.agg [ii sp, ii st, a], ii what]) h = .ok (.tup [.agg [ii sp, ii st, a], .fn (gOf what) [.agg [ii sp, ii st, a]] [], ii 0]) (X h [.cells (mkCells [ii sp, ii st, a]) 24, .cells (mkCells [ii sp, ii st, a]) 64, .cells (mkCells [ii sp, ii st, a]) 64, .cells (mkCells [ii sp, ii st, a]) 64] h.w) := by
    clear x x0
    intro h x
    have wf := x.wf
    obtain ⟨hn, hm, hall, hsp, hst, hof⟩ := hullErr_ok he
    obtain ⟨id, off, cap, esz, rfl⟩ := hullErr_sl x (by omega)
    have hch : ∀ l w, w ≤ h.clock + l.length → (om Try.prog KK).call (.fn 36 [.agg [ii sp, ii st, .sl id off rows.length cap esz]]) (X h l w) = .ok (ii (hullErr sp st rows)) (X h l w) := fun l w hw => checkHull sp st _ rvs rows _ (x.up l w hw)
    refine WV_to (WV_call (fn := Try.f28) Try.func28 rfl rfl rfl rfl rfl ?_)
    simp only [argF]
    (repeat' (first
  | (with_reducible first | refine WC_seq ?_ | refine WC_skip ?_ | refine WC_label ?_ | refine WC_scope ?_ | refine WC_block ?_ | refine WC_ret ?_ | refine WC_exit ?_ | refine seqQ_norm ?_ | refine seqQ_ret ?_ | refine seqQ_exit ?_ | refine blkQ_norm ?_ | refine blkQ_ret ?_ | refine blkQ_here ?_ | refine gateK_yes ?_ | refine gateK_none ?_ | refine condK_tt ?_ | refine condK_ff ?_ | refine roundQ_exit ?_ | refine roundQ_ret ?_)
  | refine WC_region ?_ | refine blkQ_out rfl ?_ | refine WO_nil ?_ | refine WD_nil ?_
  | ((first | refine WD_gate rfl rfl rfl rfl rfl fun K_ hK_ => ?_ | refine WO_gate rfl rfl rfl rfl rfl fun K_ hK_ => ?_); simp only [upd_apply, asB_bool, asB_tup, ↓reduceIte, reduceCtorEq, Nat.reduceEqDiff, Bool.not_true, Bool.not_false]; refine hK_ _ ?_; clear hK_ K_)
  | refine gateK_no (by decide) ?_
  | ((try first | refine WO_op rfl rfl rfl ?_ | refine WO_op0 rfl rfl ?_ | refine WD_op rfl rfl rfl ?_ | refine WD_op0 rfl rfl ?_); (refine WV_gen fun Q_ hQ_ => ?_; simp (disch := first | omega | (simp only [List.length_cons, List.length_nil, List.length_append]; omega)) only [bb, bp, argF, ↓reduceIte, reduceCtorEq, Nat.reduceEqDiff, Nat.reduceLT, Nat.reduceLeDiff, Nat.reduceAdd, Nat.reduceMul, Nat.reduceSub, Nat.reduceBEq, Int.reduceToNat, cond_true, cond_false, eq_self, beq_self_eq_true, hch, he, newPtr_X wf, load1_X wf, loadAgg_X wf, store1_X wf, writeCells_X wf, makeFunc_def, tEvK3, bsl_53, newSlice_X wf]; first | (refine dec_split (Q := Q_) (fun hp_ => ?_) (fun hp_ => ?_) <;> first | (exfalso; omega) | (refine hQ_ _ _ ?_; clear hQ_ Q_)) | (refine dec_splitn (Q := Q_) (fun hp_ => ?_) (fun hp_ => ?_) <;> first | (exfalso; omega) | (refine hQ_ _ _ ?_; clear hQ_ Q_)) | (refine hQ_ _ _ ?_; clear hQ_ Q_) | (refine WV_eq (asked sp st _ what hwh h wf _ _ (by simp only [List.length_append, List.length_cons, List.length_nil]; omega)) ?_; refine hQ_ _ _ ?_; clear hQ_ Q_)))
  | (refine WC_cond fun K_ hK_ => ?_; simp (disch := omega) only [evT_tmp, upd_apply, WB_some, ↓reduceIte, reduceCtorEq, Nat.reduceEqDiff, Nat.reduceLT]; refine hK_ _ ?_; clear hK_ K_)))
    refine endQ_ret _ _ rfl (retc2 (by decide) (by decide) (by decide) (by simp (disch := first | omega | (simp only [List.length_cons, List.length_nil, List.length_append]; omega)) only [bb, bp, argF, ↓reduceIte, reduceCtorEq, Nat.reduceEqDiff, Nat.reduceLT, Nat.reduceLeDiff, Nat.reduceAdd, Nat.reduceMul, Nat.reduceSub, Nat.reduceBEq, Int.reduceToNat, cond_true, cond_false, eq_self, beq_self_eq_true, loadAgg_X wf, tEvK3, bsl_53, newSlice_X wf]; rfl)) ?_
    simp only [upd_apply, ↓reduceIte, reduceCtorEq, Nat.reduceEqDiff]
    refine WV_ext (by
      show (_ && flat (.tup [.agg [ii sp, ii st, .sl _ _ _ _ _], .fn _ _ _, ii 0])) = false
      exact Bool.and_false _) ?_
    refine ⟨rfl, ?_⟩
    rw [Nat.min_eq_left (by have := wf.wle; omega)]
  rw [key _ x, X_X, X_w]

/-- What a bound's check answers. -/
def bndErr (sp st : Int) (rows : List (List (Int × Int))) (what N D : Int) (high : Bool) : Int :=
  if hullErr sp st rows ≠ 0 then hullErr sp st rows else if ¬ (0 ≤ what ∧ what ≤ 2) then 3 else if isBnd N D = false then 2
  else if 0 < psum (bestG (gOf what) sp st rows (m0 rows) N D high) (rows.length * m0 rows) then 14 else 0

end Go.Proofs.Ytghondkiondeaac
end

/- EvM1 -/
section
/-
  LAYER 2: a hull that is built place by place.
-/
namespace Go.Proofs.Ytghondkiondeaac
open Go.Ev
set_option maxRecDepth 100000
set_option linter.unusedSimpArgs false
set_option linter.unusedVariables false
set_option maxHeartbeats 2000000

theorem tEvM1 : type_of% (And.intro (And.intro (And.intro (And.intro (And.intro (@ia_2) (@sz_2)) (And.intro (@ze_2) (@ia_3))) (And.intro (And.intro (@sz_3) (@ia_4)) (And.intro (@sz_4) (@ia_55)))) (And.intro (And.intro (And.intro (@sz_55) (@fo_55_0)) (And.intro (@fo_55_1) (@ia_64))) (And.intro (And.intro (@sz_64) (@ia_66)) (And.intro (@sz_66) (And.intro (@ia_82) (@sz_82)))))) (And.intro (And.intro (And.intro (And.intro (@ia_26) (@sz_26)) (And.intro (@ia_71) (@sz_71))) (And.intro (And.intro (@ze_71) (@ia_81)) (And.intro (@sz_81) (And.intro (@ze_81) (@fo_81_0))))) (And.intro (And.intro (And.intro (@fo_81_1) (@fo_81_2)) (And.intro (@fo_81_3) (@ik_71))) (And.intro (And.intro (@ik_69) (@pb_48)) (And.intro (@pb_56) (And.intro (@pb_38) (@pb_39))))))) := And.intro (And.intro (And.intro (And.intro (And.intro (@ia_2) (@sz_2)) (And.intro (@ze_2) (@ia_3))) (And.intro (And.intro (@sz_3) (@ia_4)) (And.intro (@sz_4) (@ia_55)))) (And.intro (And.intro (And.intro (@sz_55) (@fo_55_0)) (And.intro (@fo_55_1) (@ia_64))) (And.intro (And.intro (@sz_64) (@ia_66)) (And.intro (@sz_66) (And.intro (@ia_82) (@sz_82)))))) (And.intro (And.intro (And.intro (And.intro (@ia_26) (@sz_26)) (And.intro (@ia_71) (@sz_71))) (And.intro (And.intro (@ze_71) (@ia_81)) (And.intro (@sz_81) (And.intro (@ze_81) (@fo_81_0))))) (And.intro (And.intro (And.intro (@fo_81_1) (@fo_81_2)) (And.intro (@fo_81_3) (@ik_71))) (And.intro (And.intro (@ik_69) (@pb_48)) (And.intro (@pb_56) (And.intro (@pb_38) (@pb_39))))))
/-- Which offset a function picks. -/
def pickOf (c : Nat) (r : Int × Int) : Int := if c = 39 then r.2 else r.1
theorem pick {c : Nat} (hc : c = 56 ∨ c = 38 ∨ c = 39) (r : Int × Int) (i k w : AV) (h : H) (wf : Wf h) :
    (om Try.prog KK).call (.fn c [.agg [ii r.1, ii r.2, i, k, w]]) h = .ok (ii (pickOf c r)) h := by
  rcases hc with rfl | rfl | rfl
  · refine WV_to (WV_call (fn := Try.f56) Try.func56 rfl rfl rfl rfl rfl ?_)
    simp only [argF]
    (repeat' (first
  | (with_reducible first | refine WC_seq ?_ | refine WC_skip ?_ | refine WC_label ?_ | refine WC_scope ?_ | refine WC_block ?_ | refine WC_ret ?_ | refine WC_exit ?_ | refine seqQ_norm ?_ | refine seqQ_ret ?_ | refine seqQ_exit ?_ | refine blkQ_norm ?_ | refine blkQ_ret ?_ | refine blkQ_here ?_ | refine gateK_yes ?_ | refine gateK_none ?_ | refine condK_tt ?_ | refine condK_ff ?_ | refine roundQ_exit ?_ | refine roundQ_ret ?_)
  | refine WC_region ?_ | refine blkQ_out rfl ?_ | refine WO_nil ?_ | refine WD_nil ?_
  | ((first | refine WD_gate rfl rfl rfl rfl rfl fun K_ hK_ => ?_ | refine WO_gate rfl rfl rfl rfl rfl fun K_ hK_ => ?_); simp only [upd_apply, asB_bool, asB_tup, ↓reduceIte, reduceCtorEq, Nat.reduceEqDiff, Bool.not_true, Bool.not_false]; refine hK_ _ ?_; clear hK_ K_)
  | refine gateK_no (by decide) ?_
  | ((try first | refine WO_op rfl rfl rfl ?_ | refine WO_op0 rfl rfl ?_ | refine WD_op rfl rfl rfl ?_ | refine WD_op0 rfl rfl ?_); (refine WV_gen fun Q_ hQ_ => ?_; simp (disch := first | omega | (simp only [List.length_cons, List.length_nil, List.length_append]; omega)) only [bb, bp, argF, ↓reduceIte, reduceCtorEq, Nat.reduceEqDiff, Nat.reduceLT, Nat.reduceLeDiff, Nat.reduceAdd, Nat.reduceMul, Nat.reduceSub, Nat.reduceBEq, Int.reduceToNat, cond_true, cond_false, eq_self, beq_self_eq_true, newPtr_X wf, load1_X wf, loadAgg_X wf, store1_X wf, writeCells_X wf, makeFunc_def, tEvM1, indexAddrE_def (P := Try.prog) (t := 71), indexAddrE_def (P := Try.prog) (t := 69)]; first | (refine dec_split (Q := Q_) (fun hp_ => ?_) (fun hp_ => ?_) <;> first | (exfalso; omega) | (refine hQ_ _ _ ?_; clear hQ_ Q_)) | (refine dec_splitn (Q := Q_) (fun hp_ => ?_) (fun hp_ => ?_) <;> first | (exfalso; omega) | (refine hQ_ _ _ ?_; clear hQ_ Q_)) | (refine hQ_ _ _ ?_; clear hQ_ Q_)))
  | (refine WC_cond fun K_ hK_ => ?_; simp (disch := omega) only [evT_tmp, upd_apply, WB_some, ↓reduceIte, reduceCtorEq, Nat.reduceEqDiff, Nat.reduceLT]; refine hK_ _ ?_; clear hK_ K_)))
    (refine endQ_ret _ _ rfl (ret1 (by decide)) ?_; simp only [upd_apply, ↓reduceIte, reduceCtorEq, Nat.reduceEqDiff]; refine WV_flat rfl (by omega) ?_)
    exact ⟨rfl, rfl⟩
  · refine WV_to (WV_call (fn := Try.f38) Try.func38 rfl rfl rfl rfl rfl ?_)
    simp only [argF]
    (repeat' (first
  | (with_reducible first | refine WC_seq ?_ | refine WC_skip ?_ | refine WC_label ?_ | refine WC_scope ?_ | refine WC_block ?_ | refine WC_ret ?_ | refine WC_exit ?_ | refine seqQ_norm ?_ | refine seqQ_ret ?_ | refine seqQ_exit ?_ | refine blkQ_norm ?_ | refine blkQ_ret ?_ | refine blkQ_here ?_ | refine gateK_yes ?_ | refine gateK_none ?_ | refine condK_tt ?_ | refine condK_ff ?_ | refine roundQ_exit ?_ | refine roundQ_ret ?_)
  | refine WC_region ?_ | refine blkQ_out rfl ?_ | refine WO_nil ?_ | refine WD_nil ?_
  | ((first | refine WD_gate rfl rfl rfl rfl rfl fun K_ hK_ => ?_ | refine WO_gate rfl rfl rfl rfl rfl fun K_ hK_ => ?_); simp only [upd_apply, asB_bool, asB_tup, ↓reduceIte, reduceCtorEq, Nat.reduceEqDiff, Bool.not_true, Bool.not_false]; refine hK_ _ ?_; clear hK_ K_)
  | refine gateK_no (by decide) ?_
  | ((try first | refine WO_op rfl rfl rfl ?_ | refine WO_op0 rfl rfl ?_ | refine WD_op rfl rfl rfl ?_ | refine WD_op0 rfl rfl ?_); (refine WV_gen fun Q_ hQ_ => ?_; simp (disch := first | omega | (simp only [List.length_cons, List.length_nil, List.length_append]; omega)) only [bb, bp, argF, ↓reduceIte, reduceCtorEq, Nat.reduceEqDiff, Nat.reduceLT, Nat.reduceLeDiff, Nat.reduceAdd, Nat.reduceMul, Nat.reduceSub, Nat.reduceBEq, Int.reduceToNat, cond_true, cond_false, eq_self, beq_self_eq_true, newPtr_X wf, load1_X wf, loadAgg_X wf, store1_X wf, writeCells_X wf, makeFunc_def, tEvM1, indexAddrE_def (P := Try.prog) (t := 71), indexAddrE_def (P := Try.prog) (t := 69)]; first | (refine dec_split (Q := Q_) (fun hp_ => ?_) (fun hp_ => ?_) <;> first | (exfalso; omega) | (refine hQ_ _ _ ?_; clear hQ_ Q_)) | (refine dec_splitn (Q := Q_) (fun hp_ => ?_) (fun hp_ => ?_) <;> first | (exfalso; omega) | (refine hQ_ _ _ ?_; clear hQ_ Q_)) | (refine hQ_ _ _ ?_; clear hQ_ Q_)))
  | (refine WC_cond fun K_ hK_ => ?_; simp (disch := omega) only [evT_tmp, upd_apply, WB_some, ↓reduceIte, reduceCtorEq, Nat.reduceEqDiff, Nat.reduceLT]; refine hK_ _ ?_; clear hK_ K_)))
    (refine endQ_ret _ _ rfl (ret1 (by decide)) ?_; simp only [upd_apply, ↓reduceIte, reduceCtorEq, Nat.reduceEqDiff]; refine WV_flat rfl (by omega) ?_)
    exact ⟨rfl, rfl⟩
  · refine WV_to (WV_call (fn := Try.f39) Try.func39 rfl rfl rfl rfl rfl ?_)
    simp only [argF]
    (repeat' (first
  | (with_reducible first | refine WC_seq ?_ | refine WC_skip ?_ | refine WC_label ?_ | refine WC_scope ?_ | refine WC_block ?_ | refine WC_ret ?_ | refine WC_exit ?_ | refine seqQ_norm ?_ | refine seqQ_ret ?_ | refine seqQ_exit ?_ | refine blkQ_norm ?_ | refine blkQ_ret ?_ | refine blkQ_here ?_ | refine gateK_yes ?_ | refine gateK_none ?_ | refine condK_tt ?_ | refine condK_ff ?_ | refine roundQ_exit ?_ | refine roundQ_ret ?_)
  | refine WC_region ?_ | refine blkQ_out rfl ?_ | refine WO_nil ?_ | refine WD_nil ?_
  | ((first | refine WD_gate rfl rfl rfl rfl rfl fun K_ hK_ => ?_ | refine WO_gate rfl rfl rfl rfl rfl fun K_ hK_ => ?_); simp only [upd_apply, asB_bool, asB_tup, ↓reduceIte, reduceCtorEq, Nat.reduceEqDiff, Bool.not_true, Bool.not_false]; refine hK_ _ ?_; clear hK_ K_)
  | refine gateK_no (by decide) ?_
  | ((try first | refine WO_op rfl rfl rfl ?_ | refine WO_op0 rfl rfl ?_ | refine WD_op rfl rfl rfl ?_ | refine WD_op0 rfl rfl ?_); (refine WV_gen fun Q_ hQ_ => ?_; simp (disch := first | omega | (simp only [List.length_cons, List.length_nil, List.length_append]; omega)) only [bb, bp, argF, ↓reduceIte, reduceCtorEq, Nat.reduceEqDiff, Nat.reduceLT, Nat.reduceLeDiff, Nat.reduceAdd, Nat.reduceMul, Nat.reduceSub, Nat.reduceBEq, Int.reduceToNat, cond_true, cond_false, eq_self, beq_self_eq_true, newPtr_X wf, load1_X wf, loadAgg_X wf, store1_X wf, writeCells_X wf, makeFunc_def, tEvM1, indexAddrE_def (P := Try.prog) (t := 71), indexAddrE_def (P := Try.prog) (t := 69)]; first | (refine dec_split (Q := Q_) (fun hp_ => ?_) (fun hp_ => ?_) <;> first | (exfalso; omega) | (refine hQ_ _ _ ?_; clear hQ_ Q_)) | (refine dec_splitn (Q := Q_) (fun hp_ => ?_) (fun hp_ => ?_) <;> first | (exfalso; omega) | (refine hQ_ _ _ ?_; clear hQ_ Q_)) | (refine hQ_ _ _ ?_; clear hQ_ Q_)))
  | (refine WC_cond fun K_ hK_ => ?_; simp (disch := omega) only [evT_tmp, upd_apply, WB_some, ↓reduceIte, reduceCtorEq, Nat.reduceEqDiff, Nat.reduceLT]; refine hK_ _ ?_; clear hK_ K_)))
    (refine endQ_ret _ _ rfl (ret1 (by decide)) ?_; simp only [upd_apply, ↓reduceIte, reduceCtorEq, Nat.reduceEqDiff]; refine WV_flat rfl (by omega) ?_)
    exact ⟨rfl, rfl⟩

def pickY (c : Nat) (rows : List (List (Int × Int))) (m q : Nat) : Int := pickOf c (rAt rows m q)

theorem built {c : Nat} (hc : c = 56 ∨ c = 38 ∨ c = 39) (sp st : Int) (a : AV) (rvs : List AV) (rows : List (List (Int × Int))) (m : Nat) (hn : 2 ≤ rows.length ∧ rows.length ≤ 10) (hm : 2 ≤ m ∧ m ≤ 6) (h : H) (x : HullAt h a rvs rows m) :
    (om Try.prog KK).call (.fn 37 [.agg [ii sp, ii st, a], .fn c [] []]) h = .ok (.agg ((gB (pickY c rows m) m (rows.length * m)).map ii)) h := by
  have wf := x.wf
  have hpb : plainB Try.prog c = true := by rcases hc with rfl | rfl | rfl <;> first | exact pb_56 | exact pb_38 | exact pb_39
  refine WV_to (WV_call (fn := Try.f37) Try.func37 rfl rfl rfl rfl rfl ?_)
  simp only [argF]
  (repeat' (first
  | (with_reducible first | refine WC_seq ?_ | refine WC_skip ?_ | refine WC_label ?_ | refine WC_scope ?_ | refine WC_block ?_ | refine WC_ret ?_ | refine WC_exit ?_ | refine seqQ_norm ?_ | refine seqQ_ret ?_ | refine seqQ_exit ?_ | refine blkQ_norm ?_ | refine blkQ_ret ?_ | refine blkQ_here ?_ | refine gateK_yes ?_ | refine gateK_none ?_ | refine condK_tt ?_ | refine condK_ff ?_ | refine roundQ_exit ?_ | refine roundQ_ret ?_)
  | refine WC_region ?_ | refine blkQ_out rfl ?_ | refine WO_nil ?_ | refine WD_nil ?_
  | ((first | refine WD_gate rfl rfl rfl rfl rfl fun K_ hK_ => ?_ | refine WO_gate rfl rfl rfl rfl rfl fun K_ hK_ => ?_); simp only [upd_apply, asB_bool, asB_tup, ↓reduceIte, reduceCtorEq, Nat.reduceEqDiff, Bool.not_true, Bool.not_false]; refine hK_ _ ?_; clear hK_ K_)
  | refine gateK_no (by decide) ?_
  | ((try first | refine WO_op rfl rfl rfl ?_ | refine WO_op0 rfl rfl ?_ | refine WD_op rfl rfl rfl ?_ | refine WD_op0 rfl rfl ?_); (refine WV_gen fun Q_ hQ_ => ?_; simp (disch := first | omega | (simp only [List.length_cons, List.length_nil, List.length_append]; omega)) only [bb, bp, argF, ↓reduceIte, reduceCtorEq, Nat.reduceEqDiff, Nat.reduceLT, Nat.reduceLeDiff, Nat.reduceAdd, Nat.reduceMul, Nat.reduceSub, Nat.reduceBEq, Int.reduceToNat, cond_true, cond_false, eq_self, beq_self_eq_true, newPtr_X wf, load1_X wf, loadAgg_X wf, store1_X wf, writeCells_X wf, makeFunc_def, tEvM1, indexAddrE_def (P := Try.prog) (t := 71), indexAddrE_def (P := Try.prog) (t := 69)]; first | (refine dec_split (Q := Q_) (fun hp_ => ?_) (fun hp_ => ?_) <;> first | (exfalso; omega) | (refine hQ_ _ _ ?_; clear hQ_ Q_)) | (refine dec_splitn (Q := Q_) (fun hp_ => ?_) (fun hp_ => ?_) <;> first | (exfalso; omega) | (refine hQ_ _ _ ?_; clear hQ_ Q_)) | (refine hQ_ _ _ ?_; clear hQ_ Q_) | (refine WV_eq (places sp st a h wf _ _ (by simp only [List.length_append, List.length_cons, List.length_nil]; omega)) ?_; refine hQ_ _ _ ?_; clear hQ_ Q_)))
  | (refine WC_cond fun K_ hK_ => ?_; simp (disch := omega) only [evT_tmp, upd_apply, WB_some, ↓reduceIte, reduceCtorEq, Nat.reduceEqDiff, Nat.reduceLT]; refine hK_ _ ?_; clear hK_ K_)))
  simp only [List.length_cons, List.length_nil, List.cons_append, List.nil_append]
  refine WC_rangeX wf rfl (evT_tmp (by decide)) fun o ho => ?_
  simp only [upd_apply, ↓reduceIte, reduceCtorEq, Nat.reduceEqDiff, List.length_cons, List.length_nil, List.cons_append, List.nil_append, Nat.reduceAdd]
  refine WV.mono (placesH x hn hm sp st 4 (nx h 6) _ (fun q hb => ∃ w, hb = X h [.cells (mkCells [ii sp, ii st, a]) 64, .cells (mkCells [.fn c [] []]) 82, .cells (mkCells ((gB (pickY c rows m) m 0).map ii)) 71, .cells (mkCells ((gB (pickY c rows m) m q).map ii)) 71, .cells (mkCells [ii sp, ii st, a]) 64, .dfr, o] w ∧ w ≤ h.clock + 7)
    (fun _ => False) h.clock (Nat.le_refl _) (Nat.le_add_right _ _) ?_ ?_ ⟨h.clock, rfl, by omega⟩) ?_
  · rintro q hb ⟨w, rfl, hw⟩
    exact ⟨⟨_, w, rfl, hw, rfl⟩, Same.X rfl⟩
  · rintro q xx hx hb J w ⟨w0, rfl, hw0⟩ hlo hw
    obtain ⟨hq, rfl⟩ := placesOf_at hx
    obtain ⟨i1, i2, i3⟩ := place_idx hm.2 hn.2 hq
    have hw' : w ≤ h.clock + 7 + J.length := hw
    rw [X_X]
    have hr : (rows.getD (q / m) []).getD (q % m) (0, 0) = rAt rows m q := rfl
    simp only [List.cons_append, List.nil_append, placeOf, hr]
    refine WV_yldX wf (k := 6) rfl ho (setParams1 rfl) ?_
    (repeat' (first
  | (with_reducible first | refine WC_seq ?_ | refine WC_skip ?_ | refine WC_label ?_ | refine WC_scope ?_ | refine WC_block ?_ | refine WC_ret ?_ | refine WC_exit ?_ | refine seqQ_norm ?_ | refine seqQ_ret ?_ | refine seqQ_exit ?_ | refine blkQ_norm ?_ | refine blkQ_ret ?_ | refine blkQ_here ?_ | refine gateK_yes ?_ | refine gateK_none ?_ | refine condK_tt ?_ | refine condK_ff ?_ | refine roundQ_exit ?_ | refine roundQ_ret ?_)
  | refine WC_region ?_ | refine blkQ_out rfl ?_ | refine WO_nil ?_ | refine WD_nil ?_
  | ((first | refine WD_gate rfl rfl rfl rfl rfl fun K_ hK_ => ?_ | refine WO_gate rfl rfl rfl rfl rfl fun K_ hK_ => ?_); simp only [upd_apply, asB_bool, asB_tup, ↓reduceIte, reduceCtorEq, Nat.reduceEqDiff, Bool.not_true, Bool.not_false]; refine hK_ _ ?_; clear hK_ K_)
  | refine gateK_no (by decide) ?_
  | ((try first | refine WO_op rfl rfl rfl ?_ | refine WO_op0 rfl rfl ?_ | refine WD_op rfl rfl rfl ?_ | refine WD_op0 rfl rfl ?_); (refine WV_gen fun Q_ hQ_ => ?_; simp (disch := first | omega | (simp only [List.length_cons, List.length_nil, List.length_append]; omega)) only [bb, bp, argF, ↓reduceIte, reduceCtorEq, Nat.reduceEqDiff, Nat.reduceLT, Nat.reduceLeDiff, Nat.reduceAdd, Nat.reduceMul, Nat.reduceSub, Nat.reduceBEq, Int.reduceToNat, cond_true, cond_false, eq_self, beq_self_eq_true, newPtr_X wf, load1_X wf, loadAgg_X wf, store1_X wf, writeCells_X wf, makeFunc_def, tEvM1, indexAddrE_def (P := Try.prog) (t := 71), indexAddrE_def (P := Try.prog) (t := 69)]; first | (refine dec_split (Q := Q_) (fun hp_ => ?_) (fun hp_ => ?_) <;> first | (exfalso; omega) | (refine hQ_ _ _ ?_; clear hQ_ Q_)) | (refine dec_splitn (Q := Q_) (fun hp_ => ?_) (fun hp_ => ?_) <;> first | (exfalso; omega) | (refine hQ_ _ _ ?_; clear hQ_ Q_)) | (refine hQ_ _ _ ?_; clear hQ_ Q_)))
  | (refine WC_cond fun K_ hK_ => ?_; simp (disch := omega) only [evT_tmp, upd_apply, WB_some, ↓reduceIte, reduceCtorEq, Nat.reduceEqDiff, Nat.reduceLT]; refine hK_ _ ?_; clear hK_ K_)))
    refine yldA_X wf (k := 6) rfl ho fun o' ho' => ?_
    simp only [List.set_cons_succ, List.set_cons_zero]
    have hlm : ((gB (pickY c rows m) m q).map ii).length = 60 := by rw [List.length_map, gB_length]
    have hpk : ∀ l w, w ≤ h.clock + l.length → (om Try.prog KK).call (.fn c [.agg [ii (rAt rows m q).1, ii (rAt rows m q).2, ii ((q / m : Nat) : Int), ii ((q % m : Nat) : Int), ii (wt rows.length (q / m) * wt m (q % m))]]) (X h l w) = .ok (ii (pickY c rows m q)) (X h l w) := fun l w hw => pick hc (rAt rows m q) _ _ _ _ (wf.X hw)
    refine WC_block ?_
    refine WC_drawnB [.no, .no, .no, .no, .no, .no, .no, .no, .full, .full] (by kernel_rfl) ?_
    (repeat' (first
  | (with_reducible first | refine WC_seq ?_ | refine WC_skip ?_ | refine WC_label ?_ | refine WC_scope ?_ | refine WC_block ?_ | refine WC_ret ?_ | refine WC_exit ?_ | refine seqQ_norm ?_ | refine seqQ_ret ?_ | refine seqQ_exit ?_ | refine blkQ_norm ?_ | refine blkQ_ret ?_ | refine blkQ_here ?_ | refine gateK_yes ?_ | refine gateK_none ?_ | refine condK_tt ?_ | refine condK_ff ?_ | refine roundQ_exit ?_ | refine roundQ_ret ?_)
  | refine WC_region ?_ | refine blkQ_out rfl ?_ | refine WO_nil ?_ | refine WD_nil ?_
  | ((first | refine WD_gate rfl rfl rfl rfl rfl fun K_ hK_ => ?_ | refine WO_gate rfl rfl rfl rfl rfl fun K_ hK_ => ?_); simp only [upd_apply, asB_bool, asB_tup, ↓reduceIte, reduceCtorEq, Nat.reduceEqDiff, Bool.not_true, Bool.not_false]; refine hK_ _ ?_; clear hK_ K_)
  | refine gateK_no (by decide) ?_
  | ((try first | refine WO_op rfl rfl rfl ?_ | refine WO_op0 rfl rfl ?_ | refine WD_op rfl rfl rfl ?_ | refine WD_op0 rfl rfl ?_); (refine WV_gen fun Q_ hQ_ => ?_; simp (disch := first | omega | (simp only [List.length_cons, List.length_nil, List.length_append]; omega)) only [bb, bp, argF, ↓reduceIte, reduceCtorEq, Nat.reduceEqDiff, Nat.reduceLT, Nat.reduceLeDiff, Nat.reduceAdd, Nat.reduceMul, Nat.reduceSub, Nat.reduceBEq, Int.reduceToNat, cond_true, cond_false, eq_self, beq_self_eq_true, hlm, i3, hpk, hpb, callV_fn, newPtr_X wf, load1_X wf, loadAgg_X wf, store1_X wf, writeCells_X wf, makeFunc_def, tEvM1, indexAddrE_def (P := Try.prog) (t := 71), indexAddrE_def (P := Try.prog) (t := 69)]; first | (refine dec_split (Q := Q_) (fun hp_ => ?_) (fun hp_ => ?_) <;> first | (exfalso; omega) | (refine hQ_ _ _ ?_; clear hQ_ Q_)) | (refine dec_splitn (Q := Q_) (fun hp_ => ?_) (fun hp_ => ?_) <;> first | (exfalso; omega) | (refine hQ_ _ _ ?_; clear hQ_ Q_)) | (refine hQ_ _ _ ?_; clear hQ_ Q_)))
  | (refine WC_cond fun K_ hK_ => ?_; simp (disch := omega) only [evT_tmp, upd_apply, WB_some, ↓reduceIte, reduceCtorEq, Nat.reduceEqDiff, Nat.reduceLT]; refine hK_ _ ?_; clear hK_ K_)))
    refine yldB_X wf (k := 6) rfl ho' ?_
    simp only [List.set_cons_succ, List.set_cons_zero]
    rw [← ho]
    refine ⟨X h [.cells (mkCells [ii sp, ii st, a]) 64, .cells (mkCells [.fn c [] []]) 82, .cells (mkCells ((gB (pickY c rows m) m 0).map ii)) 71, .cells (mkCells ((gB (pickY c rows m) m (q + 1)).map ii)) 71, .cells (mkCells [ii sp, ii st, a]) 64, .dfr, o] w0, _, _, by rw [X_X]; simp only [gB, List.map_set]; rfl, Same.X rfl, by omega, ?_, .inl ⟨rfl, w0, rfl, hw0⟩⟩
    show _ < h.clock + 7
    omega
  · rintro v h' ⟨hb, J, w, rfl, hs, hlo, hw, ⟨w0, rfl, hw0⟩ | hD'⟩
    · rw [X_X, placesOf_length]
      refine rangeQ_X wf (k := 6) rfl ho (by decide) fun o' ho' => ?_
      simp only [List.cons_append, List.nil_append, List.set_cons_succ, List.set_cons_zero]
      have hL : ((gB (pickY c rows m) m (rows.length * m)).map ii).length = 60 := by rw [List.length_map, gB_length]
      have hL0 : ((gB (pickY c rows m) m 0).map ii).length = 60 := by rw [List.length_map, gB_length]
      have hld : ∀ u, loadE Try.prog 71 (.ptr (nx h 3) 0) (X h (.cells (mkCells [ii sp, ii st, a]) 64 :: .cells (mkCells [.fn c [] []]) 82 :: .cells (mkCells ((gB (pickY c rows m) m 0).map ii)) 71 :: .cells (mkCells ((gB (pickY c rows m) m (rows.length * m)).map ii)) 71 :: .cells (mkCells [ii sp, ii st, a]) 64 :: .dfr :: o' :: J) u) = some (.agg ((gB (pickY c rows m) m (rows.length * m)).map ii)) := fun u => loadE_whole wf ia_71 sz_71 (by decide) hL rfl
      have hsto : ∀ u, storeE Try.prog 71 (.ptr (nx h 2) 0) (.agg ((gB (pickY c rows m) m (rows.length * m)).map ii)) (X h (.cells (mkCells [ii sp, ii st, a]) 64 :: .cells (mkCells [.fn c [] []]) 82 :: .cells (mkCells ((gB (pickY c rows m) m 0).map ii)) 71 :: .cells (mkCells ((gB (pickY c rows m) m (rows.length * m)).map ii)) 71 :: .cells (mkCells [ii sp, ii st, a]) 64 :: .dfr :: o' :: J) u)
        = some (X h (.cells (mkCells [ii sp, ii st, a]) 64 :: .cells (mkCells [.fn c [] []]) 82 :: .cells (mkCells ((gB (pickY c rows m) m (rows.length * m)).map ii)) 71 :: .cells (mkCells ((gB (pickY c rows m) m (rows.length * m)).map ii)) 71 :: .cells (mkCells [ii sp, ii st, a]) 64 :: .dfr :: o' :: J) (min (h.clock + 2) u)) := fun u => storeE_whole wf sz_71 (by decide) hL hL0 rfl (allOne_map (fun _ => rfl) _)
      (repeat' (first
  | (with_reducible first | refine WC_seq ?_ | refine WC_skip ?_ | refine WC_label ?_ | refine WC_scope ?_ | refine WC_block ?_ | refine WC_ret ?_ | refine WC_exit ?_ | refine seqQ_norm ?_ | refine seqQ_ret ?_ | refine seqQ_exit ?_ | refine blkQ_norm ?_ | refine blkQ_ret ?_ | refine blkQ_here ?_ | refine gateK_yes ?_ | refine gateK_none ?_ | refine condK_tt ?_ | refine condK_ff ?_ | refine roundQ_exit ?_ | refine roundQ_ret ?_)
  | refine WC_region ?_ | refine blkQ_out rfl ?_ | refine WO_nil ?_ | refine WD_nil ?_
  | ((first | refine WD_gate rfl rfl rfl rfl rfl fun K_ hK_ => ?_ | refine WO_gate rfl rfl rfl rfl rfl fun K_ hK_ => ?_); simp only [upd_apply, asB_bool, asB_tup, ↓reduceIte, reduceCtorEq, Nat.reduceEqDiff, Bool.not_true, Bool.not_false]; refine hK_ _ ?_; clear hK_ K_)
  | refine gateK_no (by decide) ?_
  | ((try first | refine WO_op rfl rfl rfl ?_ | refine WO_op0 rfl rfl ?_ | refine WD_op rfl rfl rfl ?_ | refine WD_op0 rfl rfl ?_); (refine WV_gen fun Q_ hQ_ => ?_; simp (disch := first | omega | (simp only [List.length_cons, List.length_nil, List.length_append]; omega)) only [bb, bp, argF, ↓reduceIte, reduceCtorEq, Nat.reduceEqDiff, Nat.reduceLT, Nat.reduceLeDiff, Nat.reduceAdd, Nat.reduceMul, Nat.reduceSub, Nat.reduceBEq, Int.reduceToNat, cond_true, cond_false, eq_self, beq_self_eq_true, hld, hsto]; first | (refine dec_split (Q := Q_) (fun hp_ => ?_) (fun hp_ => ?_) <;> first | (exfalso; omega) | (refine hQ_ _ _ ?_; clear hQ_ Q_)) | (refine dec_splitn (Q := Q_) (fun hp_ => ?_) (fun hp_ => ?_) <;> first | (exfalso; omega) | (refine hQ_ _ _ ?_; clear hQ_ Q_)) | (refine hQ_ _ _ ?_; clear hQ_ Q_)))
  | (refine WC_cond fun K_ hK_ => ?_; simp (disch := omega) only [evT_tmp, upd_apply, WB_some, ↓reduceIte, reduceCtorEq, Nat.reduceEqDiff, Nat.reduceLT]; refine hK_ _ ?_; clear hK_ K_)))
      refine endQ_ret _ _ (takeAll_X wf (k := 5) rfl) (retc0 (by decide) (by simp only [upd_apply, ↓reduceIte, reduceCtorEq, Nat.reduceEqDiff]; exact loadE_whole wf ia_71 sz_71 (by decide) hL rfl)) ?_
      refine WV_flat (flatL_ii _) (by omega) ?_
      exact ⟨rfl, rfl⟩
    · exact hD'.elim
end Go.Proofs.Ytghondkiondeaac
end

/- EvM2 -/
section
/-
  LAYER 2: from hull to hull, until none is beyond the number.
-/
namespace Go.Proofs.Ytghondkiondeaac
open Go.Ev
set_option maxRecDepth 100000
set_option linter.unusedSimpArgs false
set_option linter.unusedVariables false
set_option maxHeartbeats 2000000

/-- A hull that is valid, and a share. -/
structure HOK (g : Nat) (sp st : Int) (rows : List (List (Int × Int))) (m : Nat) : Prop where
  hg : g = 53 ∨ g = 54 ∨ g = 55
  hsp : 1 ≤ sp ∧ sp ≤ 1000
  hst : 1 ≤ st ∧ st ≤ 100
  hn : 2 ≤ rows.length ∧ rows.length ≤ 10
  hm : 2 ≤ m ∧ m ≤ 6
  hoff : ∀ q, q < rows.length * m → isOff (rAt rows m q)
  hpos : ∃ q, q < rows.length * m ∧ 0 < (rAt rows m q).1

theorem nm_le {n m : Nat} (hn : n ≤ 10) (hm : m ≤ 6) : n * m ≤ 60 := by
  have := Nat.mul_le_mul hn hm; omega
theorem idx_inj {n m p q : Nat} (hm : m ≤ 6) (hp : p < n * m) (hq : q < n * m) (h : p / m * 6 + p % m = q / m * 6 + q % m) : p = q := by
  have hm0 : 0 < m := by rcases Nat.eq_zero_or_pos m with rfl | h; · simp at hp
                         · exact h
  have h1 := Nat.mod_lt p hm0
  have h2 := Nat.mod_lt q hm0
  have e1 : p / m = q / m := by omega
  have e2 : p % m = q % m := by omega
  rw [← Nat.div_add_mod p m, ← Nat.div_add_mod q m, e1, e2]
theorem gB_at (Y : Nat → Int) {n m : Nat} (hn : n ≤ 10) (hm : m ≤ 6) : ∀ Q, Q ≤ n * m → ∀ q, q < Q → yat (gB Y m Q) m q = Y q
  | 0, _, q, h => absurd h (Nat.not_lt_zero q)
  | Q + 1, hQ, q, h => by
    obtain ⟨_, _, i3⟩ := place_idx hm hn (show Q < n * m by omega)
    obtain ⟨_, _, j3⟩ := place_idx hm hn (show q < n * m by omega)
    have hlen := gB_length Y m Q
    unfold yat
    simp only [gB]
    by_cases hq : q = Q
    · subst hq
      simp [List.getD, hlen, i3]
    · have hne : q / m * 6 + q % m ≠ Q / m * 6 + Q % m := fun e => hq (idx_inj (n := n) hm (by omega) (by omega) e)
      have := gB_at Y hn hm Q (by omega) q (by omega)
      unfold yat at this
      rw [← this]
      simp [List.getD, List.getElem?_set_ne (Ne.symm hne)]

theorem amx_in {f : Int → Int} {lo : Int} : ∀ {n : Nat}, lo ≤ amx f lo n ∧ amx f lo n ≤ lo + (n : Int) ∧ f (amx f lo n) = mxf f lo n
  | 0 => ⟨Int.le_refl _, by simp [amx], rfl⟩
  | j + 1 => by
    obtain ⟨h1, h2, h3⟩ := amx_in (f := f) (lo := lo) (n := j)
    simp only [amx, mxf]
    split
    · refine ⟨by omega, by omega, ?_⟩
      rw [Int.max_eq_right (by omega)]
    · refine ⟨h1, by omega, ?_⟩
      rw [Int.max_eq_left (by omega), h3]
theorem mxf_ge {f : Int → Int} {lo : Int} : ∀ {n : Nat} {y : Int}, lo ≤ y → y ≤ lo + (n : Int) → f y ≤ mxf f lo n
  | 0, y, h1, h2 => by
    have : y = lo := by omega
    subst this; exact Int.le_refl _
  | j + 1, y, h1, h2 => by
    simp only [mxf]
    by_cases h : y = lo + ((j + 1 : Nat) : Int)
    · subst h; omega
    · have := mxf_ge (f := f) (lo := lo) (n := j) (y := y) h1 (by omega)
      omega

section
variable {g : Nat} {sp st : Int} {rows : List (List (Int × Int))} {m : Nat}

/-- A grid within the ranges. -/
def InG (rows : List (List (Int × Int))) (m : Nat) (gs : List Int) : Prop := gs.length = 60 ∧ ∀ q, q < rows.length * m → (rAt rows m q).1 ≤ yat gs m q ∧ yat gs m q ≤ (rAt rows m q).2
/-- What is divided, and by what. -/
def numG (g : Nat) (sp st : Int) (rows : List (List (Int × Int))) (m : Nat) (gs : List Int) : Int := psum (nuAt g sp st rows.length m gs) (rows.length * m)
def denG (g : Nat) (st : Int) (rows : List (List (Int × Int))) (m : Nat) (gs : List Int) : Int := psum (deAt g st rows.length m gs) (rows.length * m)
def gcdG (g : Nat) (sp st : Int) (rows : List (List (Int × Int))) (m : Nat) (gs : List Int) : Int := (Int.gcd (numG g sp st rows m gs) (denG g st rows m gs) : Int)
def ratN (g : Nat) (sp st : Int) (rows : List (List (Int × Int))) (m : Nat) (gs : List Int) : Int := numG g sp st rows m gs / gcdG g sp st rows m gs
def ratD (g : Nat) (sp st : Int) (rows : List (List (Int × Int))) (m : Nat) (gs : List Int) : Int := denG g st rows m gs / gcdG g sp st rows m gs

theorem InG.y (k : HOK g sp st rows m) {gs : List Int} (hi : InG rows m gs) : ∀ q, q < rows.length * m → 0 ≤ yat gs m q ∧ yat gs m q ≤ 500 := fun q hq => by
  have h1 := hi.2 q hq
  have h2 := k.hoff q hq
  unfold isOff at h2
  omega
theorem terms_in (k : HOK g sp st rows m) {gs : List Int} (hi : InG rows m gs) : ∀ q, q < rows.length * m → (0 ≤ nuAt g sp st rows.length m gs q ∧ nuAt g sp st rows.length m gs q ≤ 1300000000) ∧ 0 ≤ deAt g st rows.length m gs q ∧ deAt g st rows.length m gs q ≤ 600000 := fun q hq => by
  obtain ⟨i1, i2, i3⟩ := place_idx k.hm.2 k.hn.2 hq
  exact numOf_in2 k.hg k.hsp k.hst k.hm.2 (by have := k.hn; omega) i2 (wt2 _ _ _ _) (hi.y k q hq)
theorem numG_in (k : HOK g sp st rows m) {gs : List Int} (hi : InG rows m gs) : 0 ≤ numG g sp st rows m gs ∧ numG g sp st rows m gs ≤ 78000000000 := by
  have := psum_in (b := 1300000000) (fun q hq => (terms_in k hi q hq).1)
  have h2 := nm_le k.hn.2 k.hm.2
  unfold numG; omega
theorem denG_pos (k : HOK g sp st rows m) {gs : List Int} (hi : InG rows m gs) : 0 < denG g st rows m gs ∧ denG g st rows m gs ≤ 36000000 := by
  have h1 := psum_in (b := 600000) (fun q hq => (terms_in k hi q hq).2)
  have h2 := nm_le k.hn.2 k.hm.2
  obtain ⟨q, hq, hp⟩ := k.hpos
  have h3 := hi.2 q hq
  have hw : 1 ≤ W rows.length m q := W_pos (by have := k.hm; omega) hq
  have h4 : 0 < W rows.length m q * yat gs m q := Int.mul_pos (by omega) (by omega)
  refine ⟨psum_pos (q0 := q) (fun q hq => (terms_in k hi q hq).2.1) hq ?_, by unfold denG; omega⟩
  unfold deAt denOf
  have hst := k.hst
  split
  · exact Int.mul_pos (by omega) h4
  · exact h4
theorem gcd_facts {a b : Int} (ha : 0 ≤ a) (hb : 0 < b) : 0 < (Int.gcd a b : Int) ∧ a = a / (Int.gcd a b : Int) * (Int.gcd a b : Int) ∧ b = b / (Int.gcd a b : Int) * (Int.gcd a b : Int) ∧ 0 ≤ a / (Int.gcd a b : Int) ∧ a / (Int.gcd a b : Int) ≤ a ∧ 1 ≤ b / (Int.gcd a b : Int) ∧ b / (Int.gcd a b : Int) ≤ b := by
  have h0 : 0 < (Int.gcd a b : Int) := by
    have : 0 < Int.gcd a b := Int.gcd_pos_of_ne_zero_right _ (by omega)
    omega
  have h1 : a / (Int.gcd a b : Int) * (Int.gcd a b : Int) = a := Int.ediv_mul_cancel (Int.gcd_dvd_left ..)
  have h2 : b / (Int.gcd a b : Int) * (Int.gcd a b : Int) = b := Int.ediv_mul_cancel (Int.gcd_dvd_right ..)
  have h3 : 0 ≤ a / (Int.gcd a b : Int) := Int.ediv_nonneg ha (by omega)
  have h4 : a / (Int.gcd a b : Int) ≤ a := Int.ediv_le_self _ ha
  have h5 : b / (Int.gcd a b : Int) ≤ b := Int.ediv_le_self _ (by omega)
  have h6 : 1 ≤ b / (Int.gcd a b : Int) := by
    rcases Int.lt_or_le 0 (b / (Int.gcd a b : Int)) with h | h
    · omega
    · have : b / (Int.gcd a b : Int) * (Int.gcd a b : Int) ≤ 0 := Int.mul_nonpos_of_nonpos_of_nonneg h (by omega)
      omega
  exact ⟨h0, h1.symm, h2.symm, h3, h4, h6, h5⟩
theorem rat_in (k : HOK g sp st rows m) {gs : List Int} (hi : InG rows m gs) : (0 ≤ ratN g sp st rows m gs ∧ ratN g sp st rows m gs ≤ 78000000000) ∧ 1 ≤ ratD g sp st rows m gs ∧ ratD g sp st rows m gs ≤ 36000000 := by
  have h1 := numG_in k hi
  have h2 := denG_pos k hi
  obtain ⟨a1, a2, a3, a4, a5, a6, a7⟩ := gcd_facts h1.1 h2.1
  unfold ratN ratD gcdG
  omega
theorem rat_num (k : HOK g sp st rows m) {gs : List Int} (hi : InG rows m gs) : 0 < gcdG g sp st rows m gs ∧ numG g sp st rows m gs = ratN g sp st rows m gs * gcdG g sp st rows m gs ∧ denG g st rows m gs = ratD g sp st rows m gs * gcdG g sp st rows m gs := by
  obtain ⟨a1, a2, a3, _⟩ := gcd_facts (numG_in k hi).1 (denG_pos k hi).1
  exact ⟨a1, a2, a3⟩

/-- How far a grid is beyond a number. -/
def farG (g : Nat) (sp st : Int) (rows : List (List (Int × Int))) (m : Nat) (N D : Int) (high : Bool) (gs : List Int) : Int := psum (fun q => fAt g sp st rows.length m N D high q (yat gs m q)) (rows.length * m)
theorem farG_eq (N D : Int) (high : Bool) (gs : List Int) : farG g sp st rows m N D high gs = sgn high (numG g sp st rows m gs * D - denG g st rows m gs * N) := by
  unfold farG numG denG
  have e : ∀ q, fAt g sp st rows.length m N D high q (yat gs m q) = sgn high (D * nuAt g sp st rows.length m gs q + (-N) * deAt g st rows.length m gs q) := fun q => by
    unfold fAt gapOf nuAt deAt W
    congr 1
    grind
  have h : psum (fun q => fAt g sp st rows.length m N D high q (yat gs m q)) (rows.length * m) = psum (fun q => sgn high (D * nuAt g sp st rows.length m gs q + (-N) * deAt g st rows.length m gs q)) (rows.length * m) := psum_congr fun q _ => e q
  rw [h]
  have h2 : ∀ n, psum (fun q => sgn high (D * nuAt g sp st rows.length m gs q + (-N) * deAt g st rows.length m gs q)) n = sgn high (psum (fun q => D * nuAt g sp st rows.length m gs q + (-N) * deAt g st rows.length m gs q) n) := by
    intro n
    induction n with
    | zero => cases high <;> rfl
    | succ n ih =>
      simp only [psum]
      rw [ih]
      cases high
      · simp only [sgn, if_neg (show ¬ (false = true) by decide)]; omega
      · rfl
  rw [h2, psum_add, psum_mul, psum_mul]
  congr 1
  grind
theorem farG_le (k : HOK g sp st rows m) (N D : Int) (high : Bool) {gs : List Int} (hi : InG rows m gs) : farG g sp st rows m N D high gs ≤ psum (bestG g sp st rows m N D high) (rows.length * m) := by
  have key : ∀ n, n ≤ rows.length * m → psum (fun q => fAt g sp st rows.length m N D high q (yat gs m q)) n ≤ psum (bestG g sp st rows m N D high) n := by
    intro n
    induction n with
    | zero => intro _; exact Int.le_refl _
    | succ n ih =>
      intro hn
      have h1 := ih (by omega)
      have h2 := hi.2 n (by omega)
      have h3 : fAt g sp st rows.length m N D high n (yat gs m n) ≤ bestG g sp st rows m N D high n := mxf_ge h2.1 (by unfold wide; omega)
      simp only [psum]
      omega
  exact key _ (Nat.le_refl _)

/-- The next hull. -/
def stepG (g : Nat) (sp st : Int) (rows : List (List (Int × Int))) (m : Nat) (high : Bool) (gs : List Int) : List Int := gB (bestY g sp st rows m (ratN g sp st rows m gs) (ratD g sp st rows m gs) high) m (rows.length * m)
def sumG (g : Nat) (sp st : Int) (rows : List (List (Int × Int))) (m : Nat) (high : Bool) (gs : List Int) : Int := psum (bestG g sp st rows m (ratN g sp st rows m gs) (ratD g sp st rows m gs) high) (rows.length * m)
theorem stepG_in (k : HOK g sp st rows m) (high : Bool) (gs : List Int) : InG rows m (stepG g sp st rows m high gs) := by
  refine ⟨gB_length _ _ _, fun q hq => ?_⟩
  unfold stepG
  rw [gB_at _ k.hn.2 k.hm.2 _ (Nat.le_refl _) q hq]
  obtain ⟨h1, h2, _⟩ := amx_in (f := fAt g sp st rows.length m (ratN g sp st rows m gs) (ratD g sp st rows m gs) high q) (lo := (rAt rows m q).1) (n := wide (rAt rows m q))
  have h3 := k.hoff q hq
  unfold isOff at h3
  unfold bestY
  refine ⟨h1, ?_⟩
  have : ((wide (rAt rows m q) : Nat) : Int) = (rAt rows m q).2 - (rAt rows m q).1 := by unfold wide; omega
  omega
theorem stepG_far (k : HOK g sp st rows m) (high : Bool) (gs : List Int) : farG g sp st rows m (ratN g sp st rows m gs) (ratD g sp st rows m gs) high (stepG g sp st rows m high gs) = sumG g sp st rows m high gs := by
  unfold farG sumG
  refine psum_congr fun q hq => ?_
  unfold stepG
  rw [gB_at _ k.hn.2 k.hm.2 _ (Nat.le_refl _) q hq]
  exact (amx_in (f := fAt g sp st rows.length m (ratN g sp st rows m gs) (ratD g sp st rows m gs) high q)).2.2

/-- A number's height, in steps that are fine enough. -/
def MM : Int := 1296000000000000
theorem MM_eq : MM = 36000000 * 36000000 := by decide
def hgt (g : Nat) (sp st : Int) (rows : List (List (Int × Int))) (m : Nat) (gs : List Int) : Int := ratN g sp st rows m gs * MM / ratD g sp st rows m gs
theorem hgt_lt {N D N' D' : Int} (hN : 0 ≤ N) (hD : 1 ≤ D ∧ D ≤ 36000000) (hD' : 1 ≤ D' ∧ D' ≤ 36000000) (h : N * D' < N' * D) : N * MM / D < N' * MM / D' := by
  have hdd : D * D' ≤ MM := by rw [MM_eq]; exact Int.mul_le_mul hD.2 hD'.2 (by omega) (by omega)
  have hMp : 0 < MM := by decide
  generalize hf : N * MM / D = f
  have h1 : f * D ≤ N * MM := by rw [← hf]; exact Int.ediv_mul_le _ (by omega)
  have h2 : (f + 1) * D' ≤ N' * MM := by
    have h3 : (f + 1) * D' * D ≤ N' * MM * D := by
      have h4 : f * D * D' ≤ N * MM * D' := Int.mul_le_mul_of_nonneg_right h1 (by omega)
      have h5 : N * D' * MM + MM ≤ N' * D * MM := by
        have : (N * D' + 1) * MM ≤ N' * D * MM := Int.mul_le_mul_of_nonneg_right (by omega) (by omega)
        grind
      grind
    exact Int.le_of_mul_le_mul_right h3 (by omega)
  have h3 : f + 1 ≤ N' * MM / D' := Int.le_ediv_of_mul_le (by omega) h2
  omega
def muG (g : Nat) (sp st : Int) (rows : List (List (Int × Int))) (m : Nat) (high : Bool) (gs : List Int) : Nat := if high then (78000000000 * MM - hgt g sp st rows m gs).toNat else (hgt g sp st rows m gs).toNat
theorem hgt_in (k : HOK g sp st rows m) {gs : List Int} (hi : InG rows m gs) : 0 ≤ hgt g sp st rows m gs ∧ hgt g sp st rows m gs ≤ 78000000000 * MM := by
  obtain ⟨h1, h2⟩ := rat_in k hi
  have hMp : 0 < MM := by decide
  have h3 : 0 ≤ ratN g sp st rows m gs * MM := Int.mul_nonneg h1.1 (by omega)
  have h4 : ratN g sp st rows m gs * MM ≤ 78000000000 * MM := Int.mul_le_mul_of_nonneg_right h1.2 (by omega)
  unfold hgt
  refine ⟨Int.ediv_nonneg h3 (by omega), Int.le_trans (Int.ediv_le_self _ h3) h4⟩
theorem muG_lt (k : HOK g sp st rows m) (high : Bool) {gs : List Int} (hi : InG rows m gs) (hs : 0 < sumG g sp st rows m high gs) : muG g sp st rows m high (stepG g sp st rows m high gs) < muG g sp st rows m high gs := by
  have hi' := stepG_in k high gs
  rw [← stepG_far k high gs, farG_eq] at hs
  obtain ⟨g1, g2, g3⟩ := rat_num k hi'
  obtain ⟨r1, r2⟩ := rat_in k hi
  obtain ⟨r3, r4⟩ := rat_in k hi'
  have b1 := hgt_in k hi
  have b2 := hgt_in k hi'
  generalize hgs : stepG g sp st rows m high gs = gs' at *
  rw [g2, g3] at hs
  cases high with
  | true =>
    have h1 : 0 < (ratN g sp st rows m gs' * ratD g sp st rows m gs - ratD g sp st rows m gs' * ratN g sp st rows m gs) * gcdG g sp st rows m gs' := by
      have : sgn true (ratN g sp st rows m gs' * gcdG g sp st rows m gs' * ratD g sp st rows m gs - ratD g sp st rows m gs' * gcdG g sp st rows m gs' * ratN g sp st rows m gs) = (ratN g sp st rows m gs' * ratD g sp st rows m gs - ratD g sp st rows m gs' * ratN g sp st rows m gs) * gcdG g sp st rows m gs' := by
        simp only [sgn, ↓reduceIte]; grind
      rw [← this]; exact hs
    have h2 : 0 < ratN g sp st rows m gs' * ratD g sp st rows m gs - ratD g sp st rows m gs' * ratN g sp st rows m gs := Int.pos_of_mul_pos_left h1 (by omega)
    have h3 : ratN g sp st rows m gs * ratD g sp st rows m gs' < ratN g sp st rows m gs' * ratD g sp st rows m gs := by
      have e := Int.mul_comm (ratD g sp st rows m gs') (ratN g sp st rows m gs)
      omega
    have h4 := hgt_lt r1.1 r2 r4 h3
    unfold muG
    simp only [↓reduceIte]
    unfold hgt at *
    omega
  | false =>
    have h1 : 0 < (ratD g sp st rows m gs' * ratN g sp st rows m gs - ratN g sp st rows m gs' * ratD g sp st rows m gs) * gcdG g sp st rows m gs' := by
      have : sgn false (ratN g sp st rows m gs' * gcdG g sp st rows m gs' * ratD g sp st rows m gs - ratD g sp st rows m gs' * gcdG g sp st rows m gs' * ratN g sp st rows m gs) = (ratD g sp st rows m gs' * ratN g sp st rows m gs - ratN g sp st rows m gs' * ratD g sp st rows m gs) * gcdG g sp st rows m gs' := by
        simp only [sgn, Bool.false_eq_true, ↓reduceIte]; grind
      rw [← this]; exact hs
    have h2 : 0 < ratD g sp st rows m gs' * ratN g sp st rows m gs - ratN g sp st rows m gs' * ratD g sp st rows m gs := Int.pos_of_mul_pos_left h1 (by omega)
    have h3 : ratN g sp st rows m gs' * ratD g sp st rows m gs < ratN g sp st rows m gs * ratD g sp st rows m gs' := by
      have e := Int.mul_comm (ratD g sp st rows m gs') (ratN g sp st rows m gs)
      omega
    have h4 := hgt_lt r3.1 r4 r2 h3
    unfold muG
    simp only [Bool.false_eq_true, ↓reduceIte]
    unfold hgt at *
    omega

def endF (g : Nat) (sp st : Int) (rows : List (List (Int × Int))) (m : Nat) (high : Bool) : Nat → List Int → List Int
  | 0, gs => gs
  | k + 1, gs => if 0 < sumG g sp st rows m high gs then endF g sp st rows m high k (stepG g sp st rows m high gs) else gs
theorem endF_more (k : HOK g sp st rows m) (high : Bool) : ∀ (M : Nat) {gs : List Int}, InG rows m gs → muG g sp st rows m high gs ≤ M → ∀ d, endF g sp st rows m high (M + d) gs = endF g sp st rows m high M gs
  | 0, gs, hi, hM, d => by
    cases d with
    | zero => rfl
    | succ d =>
      show (if 0 < sumG g sp st rows m high gs then _ else gs) = gs
      rw [if_neg (fun hs => by have := muG_lt k high hi hs; omega)]
  | M + 1, gs, hi, hM, d => by
    rw [Nat.succ_add]
    show (if 0 < sumG g sp st rows m high gs then _ else gs) = (if 0 < sumG g sp st rows m high gs then _ else gs)
    by_cases hs : 0 < sumG g sp st rows m high gs
    · rw [if_pos hs, if_pos hs]
      exact endF_more k high M (stepG_in k high gs) (by have := muG_lt k high hi hs; omega) d
    · rw [if_neg hs, if_neg hs]
/-- The hull at the end. -/
def endG (g : Nat) (sp st : Int) (rows : List (List (Int × Int))) (m : Nat) (high : Bool) (gs : List Int) : List Int := endF g sp st rows m high (muG g sp st rows m high gs) gs
theorem endG_stop (high : Bool) {gs : List Int} (hs : ¬ 0 < sumG g sp st rows m high gs) : endG g sp st rows m high gs = gs := by
  unfold endG
  cases muG g sp st rows m high gs with
  | zero => rfl
  | succ n => show (if 0 < sumG g sp st rows m high gs then _ else gs) = gs; rw [if_neg hs]
theorem endG_step (k : HOK g sp st rows m) (high : Bool) {gs : List Int} (hi : InG rows m gs) (hs : 0 < sumG g sp st rows m high gs) : endG g sp st rows m high gs = endG g sp st rows m high (stepG g sp st rows m high gs) := by
  have h1 := muG_lt k high hi hs
  unfold endG
  obtain ⟨d, hd⟩ : ∃ d, muG g sp st rows m high gs = muG g sp st rows m high (stepG g sp st rows m high gs) + d + 1 := ⟨muG g sp st rows m high gs - muG g sp st rows m high (stepG g sp st rows m high gs) - 1, by omega⟩
  rw [hd]
  show (if 0 < sumG g sp st rows m high gs then _ else gs) = _
  rw [if_pos hs]
  exact endF_more k high _ (stepG_in k high gs) (Nat.le_refl _) d
theorem endG_ok (k : HOK g sp st rows m) (high : Bool) : ∀ (M : Nat) {gs : List Int}, InG rows m gs → muG g sp st rows m high gs ≤ M → InG rows m (endG g sp st rows m high gs) ∧ sumG g sp st rows m high (endG g sp st rows m high gs) ≤ 0
  | M, gs, hi, hM => by
    by_cases hs : 0 < sumG g sp st rows m high gs
    · rw [endG_step k high hi hs]
      have := muG_lt k high hi hs
      cases M with
      | zero => omega
      | succ M => exact endG_ok k high M (stepG_in k high gs) (by omega)
    · rw [endG_stop high hs]
      exact ⟨hi, by omega⟩
end
end Go.Proofs.Ytghondkiondeaac
end

/- EvM3 -/
section
/-
  LAYER 2: the end, and the span, as the package answers them.
-/
namespace Go.Proofs.Ytghondkiondeaac
open Go.Ev
set_option maxRecDepth 100000
set_option linter.unusedSimpArgs false
set_option linter.unusedVariables false
set_option maxHeartbeats 2000000

theorem tEvM3 : type_of% (And.intro (And.intro (And.intro (And.intro (@bs_39) (And.intro (@bs_64) (@ia_2))) (And.intro (And.intro (@sz_2) (@ze_2)) (And.intro (@ia_3) (@sz_3)))) (And.intro (And.intro (And.intro (@ia_4) (@sz_4)) (And.intro (@ia_24) (@sz_24))) (And.intro (And.intro (@ia_64) (@sz_64)) (And.intro (@ze_64) (@ia_66))))) (And.intro (And.intro (And.intro (@sz_66) (And.intro (@ia_26) (@sz_26))) (And.intro (And.intro (@ze_26) (@ia_39)) (And.intro (@sz_39) (@ze_39)))) (And.intro (And.intro (And.intro (@ia_71) (@sz_71)) (And.intro (@ze_71) (@pb_28))) (And.intro (And.intro (@pb_30) (@pb_37)) (And.intro (@pb_41) (@pb_42)))))) := And.intro (And.intro (And.intro (And.intro (@bs_39) (And.intro (@bs_64) (@ia_2))) (And.intro (And.intro (@sz_2) (@ze_2)) (And.intro (@ia_3) (@sz_3)))) (And.intro (And.intro (And.intro (@ia_4) (@sz_4)) (And.intro (@ia_24) (@sz_24))) (And.intro (And.intro (@ia_64) (@sz_64)) (And.intro (@ze_64) (@ia_66))))) (And.intro (And.intro (And.intro (@sz_66) (And.intro (@ia_26) (@sz_26))) (And.intro (And.intro (@ze_26) (@ia_39)) (And.intro (@sz_39) (@ze_39)))) (And.intro (And.intro (And.intro (@ia_71) (@sz_71)) (And.intro (@ze_71) (@pb_28))) (And.intro (And.intro (@pb_30) (@pb_37)) (And.intro (@pb_41) (@pb_42)))))
/-- A grid's cells. -/
structure Big (G : List Int) : Prop where
  len : (G.map ii).length = 60
  take : (G.map ii).take 60 = G.map ii
  all : ∀ id off (h : H), storeAll id off (G.map ii) h = writeCells id off (G.map ii) h
  over : ∀ (old : List AV) e, old.length = 60 → writeAt (some (.cells (mkCells old) e)) 0 (G.map ii) = some (.cells (mkCells (G.map ii)) e)
theorem big {G : List Int} (hG : G.length = 60) : Big G := by
  have hl : (G.map ii).length = 60 := by rw [List.length_map, hG]
  refine ⟨hl, List.take_of_length_le (by omega), fun id off h => storeAll_many (by omega), fun old e ho => ?_⟩
  have h1 : allOne (G.map ii) = true := allOne_map (fun _ => rfl) _
  generalize G.map ii = cs at *
  cases cs with
  | nil => simp at hl
  | cons v vs =>
    rw [writeAt_cells, h1]
    show (if 0 + (v :: vs).length ≤ old.length then some _ else none) = _
    rw [if_pos (by omega), splice_all (by omega)]
theorem Big.zero {G : List Int} (b : Big G) (e : TypeId) : writeAt (some (.cells (mkCells [ii 0, ii 0, ii 0, ii 0, ii 0, ii 0, ii 0, ii 0, ii 0, ii 0, ii 0, ii 0, ii 0, ii 0, ii 0, ii 0, ii 0, ii 0, ii 0, ii 0, ii 0, ii 0, ii 0, ii 0, ii 0, ii 0, ii 0, ii 0, ii 0, ii 0, ii 0, ii 0, ii 0, ii 0, ii 0, ii 0, ii 0, ii 0, ii 0, ii 0, ii 0, ii 0, ii 0, ii 0, ii 0, ii 0, ii 0, ii 0, ii 0, ii 0, ii 0, ii 0, ii 0, ii 0, ii 0, ii 0, ii 0, ii 0, ii 0, ii 0]) e)) 0 (G.map ii) = some (.cells (mkCells (G.map ii)) e) := b.over _ e rfl
theorem Big.over' {G G' : List Int} (b : Big G) (b' : Big G') (e : TypeId) : writeAt (some (.cells (mkCells (G'.map ii)) e)) 0 (G.map ii) = some (.cells (mkCells (G.map ii)) e) := b.over _ e b'.len

theorem retcc {h : H} {P : Program} {a t b u : Nat} {f : TF} {v x : AV} (ha : a < 384) (hb : b < 384) (hl : loadE P t (f a) h = some v) (hu : loadE P u (f b) h = some x) : retE P [.cell a t, .cell b u] (mkM f) h = .ok (.tup [v, x]) h := by
  simp only [retE, resultsE, resultE, get_mkM _ _ ha, get_mkM _ _ hb, hl, hu]

def grid0 (rows : List (List (Int × Int))) (m : Nat) : List Int := gB (pickY 56 rows m) m (rows.length * m)
theorem grid0_in {g : Nat} {sp st : Int} {rows : List (List (Int × Int))} {m : Nat} (k : HOK g sp st rows m) : InG rows m (grid0 rows m) := by
  refine ⟨gB_length _ _ _, fun q hq => ?_⟩
  unfold grid0
  rw [gB_at _ k.hn.2 k.hm.2 _ (Nat.le_refl _) q hq]
  have := k.hoff q hq
  unfold isOff at this
  unfold pickY pickOf
  rw [if_neg (by decide)]
  omega
/-- The hull at the end, from the lowest one on. -/
def theEnd (g : Nat) (sp st : Int) (rows : List (List (Int × Int))) (m : Nat) (high : Bool) : List Int := endG g sp st rows m high (grid0 rows m)
def ratio (g : Nat) (sp st : Int) (rows : List (List (Int × Int))) (m : Nat) (gs : List Int) : AV := .agg [ii (ratN g sp st rows m gs), ii (ratD g sp st rows m gs)]

theorem endC {g : Nat} {sp st : Int} {rows : List (List (Int × Int))} {m : Nat} (k : HOK g sp st rows m) (high : Bool) (a : AV) (rvs : List AV) (h : H) (x : HullAt h a rvs rows m) :
    (om Try.prog KK).call (.fn 42 [.agg [ii sp, ii st, a], .fn g [.agg [ii sp, ii st, a]] [], .bool high]) h = .ok (.tup [.agg ((theEnd g sp st rows m high).map ii), ratio g sp st rows m (theEnd g sp st rows m high)]) h := by
  have wf := x.wf
  have hnu : ∀ gs, InG rows m gs → ∀ l w, w ≤ h.clock + l.length → (om Try.prog KK).call (.fn 41 [.agg [ii sp, ii st, a], .fn g [.agg [ii sp, ii st, a]] [], .agg (gs.map ii)]) (X h l w) = .ok (.agg [ii (ratN g sp st rows m gs), ii (ratD g sp st rows m gs)]) (X h l w) := fun gs hi l w hw => by
    rw [number k.hg sp st k.hsp k.hst a rvs rows m k.hn k.hm gs hi.1 (hi.y k) _ (x.up l w hw) (denG_pos k hi).1]; rfl
  have hfa : ∀ gs, InG rows m gs → ∀ l w, w ≤ h.clock + l.length → (om Try.prog KK).call (.fn 30 [.agg [ii sp, ii st, a], .fn g [.agg [ii sp, ii st, a]] [], .agg [ii (ratN g sp st rows m gs), ii (ratD g sp st rows m gs)], .bool high]) (X h l w) = .ok (.tup [.agg ((stepG g sp st rows m high gs).map ii), ii (sumG g sp st rows m high gs)]) (X h l w) := fun gs hi l w hw => by
    obtain ⟨r1, r2⟩ := rat_in k hi
    rw [farthest k.hg sp st k.hsp k.hst a rvs rows m k.hn k.hm _ _ ⟨r1.1, by omega⟩ ⟨r2.1, by omega⟩ high k.hoff _ (x.up l w hw)]; rfl
  have hbu : ∀ l w, w ≤ h.clock + l.length → (om Try.prog KK).call (.fn 37 [.agg [ii sp, ii st, a], .fn 56 [] []]) (X h l w) = .ok (.agg ((grid0 rows m).map ii)) (X h l w) := fun l w hw => built (.inl rfl) sp st a rvs rows m k.hn k.hm _ (x.up l w hw)
  have hi0 := grid0_in k
  have b0 := big hi0.1
  have hnu0 := hnu _ hi0
  refine WV_to (WV_call (fn := Try.f42) Try.func42 rfl rfl rfl rfl rfl ?_)
  simp only [argF]
  (repeat' (first
  | (with_reducible first | refine WC_seq ?_ | refine WC_skip ?_ | refine WC_label ?_ | refine WC_scope ?_ | refine WC_block ?_ | refine WC_ret ?_ | refine WC_exit ?_ | refine seqQ_norm ?_ | refine seqQ_ret ?_ | refine seqQ_exit ?_ | refine blkQ_norm ?_ | refine blkQ_ret ?_ | refine blkQ_here ?_ | refine gateK_yes ?_ | refine gateK_none ?_ | refine condK_tt ?_ | refine condK_ff ?_ | refine roundQ_exit ?_ | refine roundQ_ret ?_)
  | refine WC_region ?_ | refine blkQ_out rfl ?_ | refine WO_nil ?_ | refine WD_nil ?_
  | ((first | refine WD_gate rfl rfl rfl rfl rfl fun K_ hK_ => ?_ | refine WO_gate rfl rfl rfl rfl rfl fun K_ hK_ => ?_); simp only [upd_apply, asB_bool, asB_tup, ↓reduceIte, reduceCtorEq, Nat.reduceEqDiff, Bool.not_true, Bool.not_false]; refine hK_ _ ?_; clear hK_ K_)
  | refine gateK_no (by decide) ?_
  | ((try first | refine WO_op rfl rfl rfl ?_ | refine WO_op0 rfl rfl ?_ | refine WD_op rfl rfl rfl ?_ | refine WD_op0 rfl rfl ?_); (refine WV_gen fun Q_ hQ_ => ?_; simp (disch := first | omega | (simp only [List.length_cons, List.length_nil, List.length_append]; omega)) only [bb, bp, argF, ↓reduceIte, reduceCtorEq, Nat.reduceEqDiff, Nat.reduceLT, Nat.reduceLeDiff, Nat.reduceAdd, Nat.reduceMul, Nat.reduceSub, Nat.reduceBEq, Int.reduceToNat, cond_true, cond_false, eq_self, beq_self_eq_true, hbu, hnu0, b0.len, b0.take, b0.all, b0.zero, newPtr_X wf, load1_X wf, loadAgg_X wf, store1_X wf, writeCells_X wf, makeFunc_def, tEvM3]; first | (refine dec_split (Q := Q_) (fun hp_ => ?_) (fun hp_ => ?_) <;> first | (exfalso; omega) | (refine hQ_ _ _ ?_; clear hQ_ Q_)) | (refine dec_splitn (Q := Q_) (fun hp_ => ?_) (fun hp_ => ?_) <;> first | (exfalso; omega) | (refine hQ_ _ _ ?_; clear hQ_ Q_)) | (refine hQ_ _ _ ?_; clear hQ_ Q_)))
  | (refine WC_cond fun K_ hK_ => ?_; simp (disch := omega) only [evT_tmp, upd_apply, WB_some, ↓reduceIte, reduceCtorEq, Nat.reduceEqDiff, Nat.reduceLT]; refine hK_ _ ?_; clear hK_ K_)))
  refine WC_loop (fun (gs : List Int) f d h' => InG rows m gs ∧ endG g sp st rows m high gs = theEnd g sp st rows m high ∧ f 1 = .fn g [.agg [ii sp, ii st, a]] [] ∧ f 2 = .bool high ∧ f 3 = .ptr (nx h 0) 0 ∧ f 6 = .ptr (nx h 1) 0 ∧ f 7 = .ptr (nx h 2) 0 ∧ f 8 = .ptr (nx h 3) 0 ∧ f 9 = .ptr (nx h 4) 0 ∧ d = [] ∧
    ∃ J, h' = X h (.cells (mkCells [ii sp, ii st, a]) 64 :: .cells (mkCells ((List.replicate 60 (0 : Int)).map ii)) 71 :: .cells (mkCells [ii 0, ii 0]) 26 :: .cells (mkCells (gs.map ii)) 71 :: .cells (mkCells [ii (ratN g sp st rows m gs), ii (ratD g sp st rows m gs)]) 26 :: J) h.clock)
    (fun gs => muG g sp st rows m high gs) ?_ (muG g sp st rows m high (grid0 rows m) + 1) (grid0 rows m) (Nat.lt_succ_self _) ?_
  · rintro gs f d h' ⟨hi, hend, g1, g2, g3, g6, g7, g8, g9, rfl, J, rfl⟩
    have hfg := hfa gs hi
    have hi' := stepG_in k high gs
    have hng := hnu _ hi'
    have bg := big hi.1
    have bs := big hi'.1
    have bz : Big (List.replicate 60 (0 : Int)) := big (by simp)
    by_cases hs : 0 < sumG g sp st rows m high gs
    · (repeat' (first
  | (with_reducible first | refine WC_seq ?_ | refine WC_skip ?_ | refine WC_label ?_ | refine WC_scope ?_ | refine WC_block ?_ | refine WC_ret ?_ | refine WC_exit ?_ | refine seqQ_norm ?_ | refine seqQ_ret ?_ | refine seqQ_exit ?_ | refine blkQ_norm ?_ | refine blkQ_ret ?_ | refine blkQ_here ?_ | refine gateK_yes ?_ | refine gateK_none ?_ | refine condK_tt ?_ | refine condK_ff ?_ | refine roundQ_exit ?_ | refine roundQ_ret ?_)
  | refine WC_region ?_ | refine blkQ_out rfl ?_ | refine WO_nil ?_ | refine WD_nil ?_
  | ((first | refine WD_gate rfl rfl rfl rfl rfl fun K_ hK_ => ?_ | refine WO_gate rfl rfl rfl rfl rfl fun K_ hK_ => ?_); simp only [upd_apply, asB_bool, asB_tup, ↓reduceIte, reduceCtorEq, Nat.reduceEqDiff, Bool.not_true, Bool.not_false]; refine hK_ _ ?_; clear hK_ K_)
  | refine gateK_no (by decide) ?_
  | ((try first | refine WO_op rfl rfl rfl ?_ | refine WO_op0 rfl rfl ?_ | refine WD_op rfl rfl rfl ?_ | refine WD_op0 rfl rfl ?_); (refine WV_gen fun Q_ hQ_ => ?_; simp (disch := first | omega | (simp only [List.length_cons, List.length_nil, List.length_append]; omega)) only [bb, bp, argF, ↓reduceIte, reduceCtorEq, Nat.reduceEqDiff, Nat.reduceLT, Nat.reduceLeDiff, Nat.reduceAdd, Nat.reduceMul, Nat.reduceSub, Nat.reduceBEq, Int.reduceToNat, cond_true, cond_false, eq_self, beq_self_eq_true, g1, g2, g3, g6, g7, g8, g9, hfg, hng, bg.len, bg.take, bs.len, bs.take, bs.all, bs.zero, bs.over' bg, newPtr_X wf, load1_X wf, loadAgg_X wf, store1_X wf, writeCells_X wf, makeFunc_def, tEvM3]; first | (refine dec_split (Q := Q_) (fun hp_ => ?_) (fun hp_ => ?_) <;> first | (exfalso; omega) | (refine hQ_ _ _ ?_; clear hQ_ Q_)) | (refine dec_splitn (Q := Q_) (fun hp_ => ?_) (fun hp_ => ?_) <;> first | (exfalso; omega) | (refine hQ_ _ _ ?_; clear hQ_ Q_)) | (refine hQ_ _ _ ?_; clear hQ_ Q_)))
  | (refine WC_cond fun K_ hK_ => ?_; simp (disch := omega) only [evT_tmp, upd_apply, WB_some, ↓reduceIte, reduceCtorEq, Nat.reduceEqDiff, Nat.reduceLT]; refine hK_ _ ?_; clear hK_ K_)))
      refine roundQ_again (stepG g sp st rows m high gs) (muG_lt k high hi hs) ⟨hi', by rw [← endG_step k high hi hs]; exact hend, by simp only [upd_apply, ↓reduceIte, reduceCtorEq, Nat.reduceEqDiff]; exact g1, by simp only [upd_apply, ↓reduceIte, reduceCtorEq, Nat.reduceEqDiff]; exact g2, by simp only [upd_apply, ↓reduceIte, reduceCtorEq, Nat.reduceEqDiff]; exact g3, by simp only [upd_apply, ↓reduceIte, reduceCtorEq, Nat.reduceEqDiff]; exact g6, by simp only [upd_apply, ↓reduceIte, reduceCtorEq, Nat.reduceEqDiff]; exact g7, by simp only [upd_apply, ↓reduceIte, reduceCtorEq, Nat.reduceEqDiff]; exact g8, by simp only [upd_apply, ↓reduceIte, reduceCtorEq, Nat.reduceEqDiff]; exact g9, rfl, J ++ [.cells (mkCells ((stepG g sp st rows m high gs).map ii)) 71], ?_⟩
      have hmk : ∀ (L : List AO) (w w' : Nat), w = w' → X h L w = X h L w' := fun L w w' e => by rw [e]
      exact hmk _ _ _ (by omega)
    · have he : gs = theEnd g sp st rows m high := by rw [← hend, endG_stop high hs]
      subst he
      (repeat' (first
  | (with_reducible first | refine WC_seq ?_ | refine WC_skip ?_ | refine WC_label ?_ | refine WC_scope ?_ | refine WC_block ?_ | refine WC_ret ?_ | refine WC_exit ?_ | refine seqQ_norm ?_ | refine seqQ_ret ?_ | refine seqQ_exit ?_ | refine blkQ_norm ?_ | refine blkQ_ret ?_ | refine blkQ_here ?_ | refine gateK_yes ?_ | refine gateK_none ?_ | refine condK_tt ?_ | refine condK_ff ?_ | refine roundQ_exit ?_ | refine roundQ_ret ?_)
  | refine WC_region ?_ | refine blkQ_out rfl ?_ | refine WO_nil ?_ | refine WD_nil ?_
  | ((first | refine WD_gate rfl rfl rfl rfl rfl fun K_ hK_ => ?_ | refine WO_gate rfl rfl rfl rfl rfl fun K_ hK_ => ?_); simp only [upd_apply, asB_bool, asB_tup, ↓reduceIte, reduceCtorEq, Nat.reduceEqDiff, Bool.not_true, Bool.not_false]; refine hK_ _ ?_; clear hK_ K_)
  | refine gateK_no (by decide) ?_
  | ((try first | refine WO_op rfl rfl rfl ?_ | refine WO_op0 rfl rfl ?_ | refine WD_op rfl rfl rfl ?_ | refine WD_op0 rfl rfl ?_); (refine WV_gen fun Q_ hQ_ => ?_; simp (disch := first | omega | (simp only [List.length_cons, List.length_nil, List.length_append]; omega)) only [bb, bp, argF, ↓reduceIte, reduceCtorEq, Nat.reduceEqDiff, Nat.reduceLT, Nat.reduceLeDiff, Nat.reduceAdd, Nat.reduceMul, Nat.reduceSub, Nat.reduceBEq, Int.reduceToNat, cond_true, cond_false, eq_self, beq_self_eq_true, g1, g2, g3, g6, g7, g8, g9, hfg, bg.len, bg.take, bs.len, bs.take, bs.all, bs.zero, newPtr_X wf, load1_X wf, loadAgg_X wf, store1_X wf, writeCells_X wf, makeFunc_def, tEvM3]; first | (refine dec_split (Q := Q_) (fun hp_ => ?_) (fun hp_ => ?_) <;> first | (exfalso; omega) | (refine hQ_ _ _ ?_; clear hQ_ Q_)) | (refine dec_splitn (Q := Q_) (fun hp_ => ?_) (fun hp_ => ?_) <;> first | (exfalso; omega) | (refine hQ_ _ _ ?_; clear hQ_ Q_)) | (refine hQ_ _ _ ?_; clear hQ_ Q_)))
  | (refine WC_cond fun K_ hK_ => ?_; simp (disch := omega) only [evT_tmp, upd_apply, WB_some, ↓reduceIte, reduceCtorEq, Nat.reduceEqDiff, Nat.reduceLT]; refine hK_ _ ?_; clear hK_ K_)))
      generalize theEnd g sp st rows m high = gs at *
      refine WC_drawnB [.no, .no, .soft [9], .full] (by kernel_rfl) ?_
      (repeat' (first
  | (with_reducible first | refine WC_seq ?_ | refine WC_skip ?_ | refine WC_label ?_ | refine WC_scope ?_ | refine WC_block ?_ | refine WC_ret ?_ | refine WC_exit ?_ | refine seqQ_norm ?_ | refine seqQ_ret ?_ | refine seqQ_exit ?_ | refine blkQ_norm ?_ | refine blkQ_ret ?_ | refine blkQ_here ?_ | refine gateK_yes ?_ | refine gateK_none ?_ | refine condK_tt ?_ | refine condK_ff ?_ | refine roundQ_exit ?_ | refine roundQ_ret ?_)
  | refine WC_region ?_ | refine blkQ_out rfl ?_ | refine WO_nil ?_ | refine WD_nil ?_
  | ((first | refine WD_gate rfl rfl rfl rfl rfl fun K_ hK_ => ?_ | refine WO_gate rfl rfl rfl rfl rfl fun K_ hK_ => ?_); simp only [upd_apply, asB_bool, asB_tup, ↓reduceIte, reduceCtorEq, Nat.reduceEqDiff, Bool.not_true, Bool.not_false]; refine hK_ _ ?_; clear hK_ K_)
  | refine gateK_no (by decide) ?_
  | ((try first | refine WO_op rfl rfl rfl ?_ | refine WO_op0 rfl rfl ?_ | refine WD_op rfl rfl rfl ?_ | refine WD_op0 rfl rfl ?_); (refine WV_gen fun Q_ hQ_ => ?_; simp (disch := first | omega | (simp only [List.length_cons, List.length_nil, List.length_append]; omega)) only [bb, bp, argF, ↓reduceIte, reduceCtorEq, Nat.reduceEqDiff, Nat.reduceLT, Nat.reduceLeDiff, Nat.reduceAdd, Nat.reduceMul, Nat.reduceSub, Nat.reduceBEq, Int.reduceToNat, cond_true, cond_false, eq_self, beq_self_eq_true, g1, g2, g3, g6, g7, g8, g9, bg.len, bg.take, newPtr_X wf, load1_X wf, loadAgg_X wf, store1_X wf, writeCells_X wf, makeFunc_def, tEvM3]; first | (refine dec_split (Q := Q_) (fun hp_ => ?_) (fun hp_ => ?_) <;> first | (exfalso; omega) | (refine hQ_ _ _ ?_; clear hQ_ Q_)) | (refine dec_splitn (Q := Q_) (fun hp_ => ?_) (fun hp_ => ?_) <;> first | (exfalso; omega) | (refine hQ_ _ _ ?_; clear hQ_ Q_)) | (refine hQ_ _ _ ?_; clear hQ_ Q_)))
  | (refine WC_cond fun K_ hK_ => ?_; simp (disch := omega) only [evT_tmp, upd_apply, WB_some, ↓reduceIte, reduceCtorEq, Nat.reduceEqDiff, Nat.reduceLT]; refine hK_ _ ?_; clear hK_ K_)))
      refine WD_op0 rfl rfl (WV_soft (v := .tup []) (by
        rw [x_store, evT_tmp (by decide), on1_ok, evT_tmp (by decide), on1_ok]
        simp only [upd_apply, ↓reduceIte, reduceCtorEq, Nat.reduceEqDiff, g6]
        rw [marked_X, storeE_whole wf sz_71 (by decide) bg.len bz.len rfl (allOne_map (fun _ => rfl) _)]
        rfl) (barOk_store1 (by simp only [upd_apply, ↓reduceIte, reduceCtorEq, Nat.reduceEqDiff]; exact g6) (by simp only [upd_apply, ↓reduceIte, reduceCtorEq, Nat.reduceEqDiff]; exact g9) (nx_ne (by decide)) (by decide) (by decide)) ?_)
      (repeat' (first
  | (with_reducible first | refine WC_seq ?_ | refine WC_skip ?_ | refine WC_label ?_ | refine WC_scope ?_ | refine WC_block ?_ | refine WC_ret ?_ | refine WC_exit ?_ | refine seqQ_norm ?_ | refine seqQ_ret ?_ | refine seqQ_exit ?_ | refine blkQ_norm ?_ | refine blkQ_ret ?_ | refine blkQ_here ?_ | refine gateK_yes ?_ | refine gateK_none ?_ | refine condK_tt ?_ | refine condK_ff ?_ | refine roundQ_exit ?_ | refine roundQ_ret ?_)
  | refine WC_region ?_ | refine blkQ_out rfl ?_ | refine WO_nil ?_ | refine WD_nil ?_
  | ((first | refine WD_gate rfl rfl rfl rfl rfl fun K_ hK_ => ?_ | refine WO_gate rfl rfl rfl rfl rfl fun K_ hK_ => ?_); simp only [upd_apply, asB_bool, asB_tup, ↓reduceIte, reduceCtorEq, Nat.reduceEqDiff, Bool.not_true, Bool.not_false]; refine hK_ _ ?_; clear hK_ K_)
  | refine gateK_no (by decide) ?_
  | ((try first | refine WO_op rfl rfl rfl ?_ | refine WO_op0 rfl rfl ?_ | refine WD_op rfl rfl rfl ?_ | refine WD_op0 rfl rfl ?_); (refine WV_gen fun Q_ hQ_ => ?_; simp (disch := first | omega | (simp only [List.length_cons, List.length_nil, List.length_append]; omega)) only [bb, bp, argF, ↓reduceIte, reduceCtorEq, Nat.reduceEqDiff, Nat.reduceLT, Nat.reduceLeDiff, Nat.reduceAdd, Nat.reduceMul, Nat.reduceSub, Nat.reduceBEq, Int.reduceToNat, cond_true, cond_false, eq_self, beq_self_eq_true, g1, g2, g3, g6, g7, g8, g9, newPtr_X wf, load1_X wf, loadAgg_X wf, store1_X wf, writeCells_X wf, makeFunc_def, tEvM3]; first | (refine dec_split (Q := Q_) (fun hp_ => ?_) (fun hp_ => ?_) <;> first | (exfalso; omega) | (refine hQ_ _ _ ?_; clear hQ_ Q_)) | (refine dec_splitn (Q := Q_) (fun hp_ => ?_) (fun hp_ => ?_) <;> first | (exfalso; omega) | (refine hQ_ _ _ ?_; clear hQ_ Q_)) | (refine hQ_ _ _ ?_; clear hQ_ Q_)))
  | (refine WC_cond fun K_ hK_ => ?_; simp (disch := omega) only [evT_tmp, upd_apply, WB_some, ↓reduceIte, reduceCtorEq, Nat.reduceEqDiff, Nat.reduceLT]; refine hK_ _ ?_; clear hK_ K_)))
      refine endQ_ret _ _ rfl (retcc (by decide) (by decide) (by simp only [upd_apply, ↓reduceIte, reduceCtorEq, Nat.reduceEqDiff]; rw [g6]; exact loadE_whole wf ia_71 sz_71 (by decide) bg.len rfl) (by simp (disch := first | omega | (simp only [List.length_cons, List.length_nil, List.length_append]; omega)) only [bb, bp, argF, ↓reduceIte, reduceCtorEq, Nat.reduceEqDiff, Nat.reduceLT, Nat.reduceLeDiff, Nat.reduceAdd, Nat.reduceMul, Nat.reduceSub, Nat.reduceBEq, Int.reduceToNat, cond_true, cond_false, eq_self, beq_self_eq_true, g7, loadAgg_X wf, tEvM3]; rfl)) ?_
      refine WV_flat ?_ (by omega) ?_
      · show (bif flatL (gs.map ii) then _ else false) = true
        rw [flatL_ii]; rfl
      · exact ⟨rfl, rfl⟩
  · refine ⟨hi0, rfl, by simp only [upd_apply, ↓reduceIte, reduceCtorEq, Nat.reduceEqDiff], by simp only [upd_apply, ↓reduceIte, reduceCtorEq, Nat.reduceEqDiff], by simp only [upd_apply, ↓reduceIte, reduceCtorEq, Nat.reduceEqDiff], by simp only [upd_apply, ↓reduceIte, reduceCtorEq, Nat.reduceEqDiff], by simp only [upd_apply, ↓reduceIte, reduceCtorEq, Nat.reduceEqDiff], by simp only [upd_apply, ↓reduceIte, reduceCtorEq, Nat.reduceEqDiff], by simp only [upd_apply, ↓reduceIte, reduceCtorEq, Nat.reduceEqDiff], rfl, [], ?_⟩
    congr 1
end Go.Proofs.Ytghondkiondeaac
end

/- EvM4 -/
section
/-
  LAYER 2: spans, as the package answers them.
-/
namespace Go.Proofs.Ytghondkiondeaac
open Go.Ev
set_option maxRecDepth 100000
set_option linter.unusedSimpArgs false
set_option linter.unusedVariables false
set_option maxHeartbeats 2000000

theorem tEvM4 : type_of% (And.intro (And.intro (And.intro (And.intro (And.intro (@bs_39) (@bs_64)) (And.intro (@ia_2) (@sz_2))) (And.intro (And.intro (@ze_2) (@ia_3)) (And.intro (@sz_3) (@ia_4)))) (And.intro (And.intro (And.intro (@sz_4) (@ia_24)) (And.intro (@sz_24) (@ia_64))) (And.intro (And.intro (@sz_64) (@ze_64)) (And.intro (@ia_66) (And.intro (@sz_66) (@ia_26)))))) (And.intro (And.intro (And.intro (And.intro (@sz_26) (@ze_26)) (And.intro (@ia_39) (@sz_39))) (And.intro (And.intro (@ze_39) (@ia_71)) (And.intro (@sz_71) (@ze_71)))) (And.intro (And.intro (And.intro (@pb_28) (@pb_30)) (And.intro (@pb_36) (@pb_37))) (And.intro (And.intro (@pb_38) (@pb_39)) (And.intro (@pb_41) (And.intro (@pb_42) (@pb_34))))))) := And.intro (And.intro (And.intro (And.intro (And.intro (@bs_39) (@bs_64)) (And.intro (@ia_2) (@sz_2))) (And.intro (And.intro (@ze_2) (@ia_3)) (And.intro (@sz_3) (@ia_4)))) (And.intro (And.intro (And.intro (@sz_4) (@ia_24)) (And.intro (@sz_24) (@ia_64))) (And.intro (And.intro (@sz_64) (@ze_64)) (And.intro (@ia_66) (And.intro (@sz_66) (@ia_26)))))) (And.intro (And.intro (And.intro (And.intro (@sz_26) (@ze_26)) (And.intro (@ia_39) (@sz_39))) (And.intro (And.intro (@ze_39) (@ia_71)) (And.intro (@sz_71) (@ze_71)))) (And.intro (And.intro (And.intro (@pb_28) (@pb_30)) (And.intro (@pb_36) (@pb_37))) (And.intro (And.intro (@pb_38) (@pb_39)) (And.intro (@pb_41) (And.intro (@pb_42) (@pb_34))))))
theorem hok {sp st : Int} {rows : List (List (Int × Int))} (he : hullErr sp st rows = 0) {g : Nat} (hg : g = 53 ∨ g = 54 ∨ g = 55) : HOK g sp st rows (m0 rows) := by
  obtain ⟨hn, hm, hall, hsp, hst, hof⟩ := hullErr_ok he
  refine ⟨hg, hsp, hst, hn, hm, fun q hq => hof.1 _ (rAt_mem hall (by omega) hq), ?_⟩
  obtain ⟨r, hr, hp⟩ := mx_pos hof.2
  obtain ⟨row, h5, h6⟩ := List.mem_flatten.1 hr
  obtain ⟨i, hi, rfl⟩ := List.getElem_of_mem h5
  obtain ⟨k, hk, rfl⟩ := List.getElem_of_mem h6
  have hkm : k < m0 rows := by rw [← hall _ h5]; exact hk
  refine ⟨i * m0 rows + k, ik_lt hi hkm, ?_⟩
  rw [rAt_ik hi hkm (hall _ h5)]
  exact hp

/-- What a span's question answers. -/
def lowG (sp st : Int) (rows : List (List (Int × Int))) (what : Int) (high : Bool) : List Int := theEnd (gOf what) sp st rows (m0 rows) high
def spanOut (sp st : Int) (rows : List (List (Int × Int))) (what : Int) : AV :=
  if hullErr sp st rows ≠ 0 then .tup [.agg [ii 0, ii 0, ii 0, ii 0], ii (hullErr sp st rows)] else if ¬ (0 ≤ what ∧ what ≤ 2) then .tup [.agg [ii 0, ii 0, ii 0, ii 0], ii 3]
  else .tup [.agg [ii (ratN (gOf what) sp st rows (m0 rows) (lowG sp st rows what false)), ii (ratD (gOf what) sp st rows (m0 rows) (lowG sp st rows what false)), ii (ratN (gOf what) sp st rows (m0 rows) (lowG sp st rows what true)), ii (ratD (gOf what) sp st rows (m0 rows) (lowG sp st rows what true))], ii 0]

theorem spanC (sp st : Int) (a : AV) (rvs : List AV) (rows : List (List (Int × Int))) (what : Int) (h : H) (x : HullR h a rvs rows) :
    (om Try.prog KK).call (.fn 18 [.agg [ii sp, ii st, a], ii what]) h = .ok (spanOut sp st rows what) h := by
  have wf := x.wf
  obtain ⟨hac, hao⟩ := Sl.one x.sl
  refine WV_to (WV_call (fn := Try.f18) Try.func18 rfl rfl rfl rfl rfl ?_)
  simp only [argF]
  unfold spanOut
  by_cases he : hullErr sp st rows = 0
  · rw [if_neg (not_not_intro he)]
    by_cases hwh : 0 ≤ what ∧ what ≤ 2
    · rw [if_neg (not_not_intro hwh)]
      have k := hok he (gOf_or what)
      obtain ⟨hn, hm, hall, hsp, hst, hof⟩ := hullErr_ok he
      have xat := x.at (m := m0 rows) (by omega) (fun i hi => hall _ (List.getElem_mem hi))
      have hen : ∀ high l w, w ≤ h.clock + l.length → (om Try.prog KK).call (.fn 42 [.agg [ii sp, ii st, a], .fn (gOf what) [.agg [ii sp, ii st, a]] [], .bool high]) (X h l w) = .ok (.tup [.agg ((lowG sp st rows what high).map ii), .agg [ii (ratN (gOf what) sp st rows (m0 rows) (lowG sp st rows what high)), ii (ratD (gOf what) sp st rows (m0 rows) (lowG sp st rows what high))]]) (X h l w) := fun high l w hw => endC k high a rvs _ (xat.up l w hw)
      have i1 : ∀ high, InG rows (m0 rows) (lowG sp st rows what high) := fun high => (endG_ok k high _ (grid0_in k) (Nat.le_refl _)).1
      have b1 := big (i1 false).1
      have b2 := big (i1 true).1
      (repeat' (first
  | (with_reducible first | refine WC_seq ?_ | refine WC_skip ?_ | refine WC_label ?_ | refine WC_scope ?_ | refine WC_block ?_ | refine WC_ret ?_ | refine WC_exit ?_ | refine seqQ_norm ?_ | refine seqQ_ret ?_ | refine seqQ_exit ?_ | refine blkQ_norm ?_ | refine blkQ_ret ?_ | refine blkQ_here ?_ | refine gateK_yes ?_ | refine gateK_none ?_ | refine condK_tt ?_ | refine condK_ff ?_ | refine roundQ_exit ?_ | refine roundQ_ret ?_)
  | refine WC_region ?_ | refine blkQ_out rfl ?_ | refine WO_nil ?_ | refine WD_nil ?_
  | ((first | refine WD_gate rfl rfl rfl rfl rfl fun K_ hK_ => ?_ | refine WO_gate rfl rfl rfl rfl rfl fun K_ hK_ => ?_); simp only [upd_apply, asB_bool, asB_tup, ↓reduceIte, reduceCtorEq, Nat.reduceEqDiff, Bool.not_true, Bool.not_false]; refine hK_ _ ?_; clear hK_ K_)
  | refine gateK_no (by decide) ?_
  | ((try first | refine WO_op rfl rfl rfl ?_ | refine WO_op0 rfl rfl ?_ | refine WD_op rfl rfl rfl ?_ | refine WD_op0 rfl rfl ?_); (refine WV_gen fun Q_ hQ_ => ?_; simp (disch := first | omega | (simp only [List.length_cons, List.length_nil, List.length_append]; omega)) only [bb, bp, argF, ↓reduceIte, reduceCtorEq, Nat.reduceEqDiff, Nat.reduceLT, Nat.reduceLeDiff, Nat.reduceAdd, Nat.reduceMul, Nat.reduceSub, Nat.reduceBEq, Int.reduceToNat, cond_true, cond_false, eq_self, beq_self_eq_true, hao, hen, b1.len, b1.take, b1.all, b1.zero, b2.len, b2.take, b2.all, b2.zero, newPtr_X wf, load1_X wf, loadAgg_X wf, store1_X wf, writeCells_X wf, makeFunc_def, tEvM4]; first | (refine dec_split (Q := Q_) (fun hp_ => ?_) (fun hp_ => ?_) <;> first | (exfalso; omega) | (refine hQ_ _ _ ?_; clear hQ_ Q_)) | (refine dec_splitn (Q := Q_) (fun hp_ => ?_) (fun hp_ => ?_) <;> first | (exfalso; omega) | (refine hQ_ _ _ ?_; clear hQ_ Q_)) | (refine hQ_ _ _ ?_; clear hQ_ Q_) | (refine WV_eq (question sp st a rvs rows what he hwh x (by simp only [List.length_append, List.length_cons, List.length_nil]; omega)) ?_; refine hQ_ _ _ ?_; clear hQ_ Q_)))
  | (refine WC_cond fun K_ hK_ => ?_; simp (disch := omega) only [evT_tmp, upd_apply, WB_some, ↓reduceIte, reduceCtorEq, Nat.reduceEqDiff, Nat.reduceLT]; refine hK_ _ ?_; clear hK_ K_)))
      refine endQ_ret _ _ rfl (retc1 (by decide) (by decide) (by simp (disch := first | omega | (simp only [List.length_cons, List.length_nil, List.length_append]; omega)) only [bb, bp, argF, ↓reduceIte, reduceCtorEq, Nat.reduceEqDiff, Nat.reduceLT, Nat.reduceLeDiff, Nat.reduceAdd, Nat.reduceMul, Nat.reduceSub, Nat.reduceBEq, Int.reduceToNat, cond_true, cond_false, eq_self, beq_self_eq_true, loadAgg_X wf, tEvM4]; rfl)) ?_
      simp only [upd_apply, ↓reduceIte, reduceCtorEq, Nat.reduceEqDiff]
      refine WV_flat rfl (by omega) ?_
      exact ⟨rfl, rfl⟩
    · rw [if_pos hwh]
      (repeat' (first
  | (with_reducible first | refine WC_seq ?_ | refine WC_skip ?_ | refine WC_label ?_ | refine WC_scope ?_ | refine WC_block ?_ | refine WC_ret ?_ | refine WC_exit ?_ | refine seqQ_norm ?_ | refine seqQ_ret ?_ | refine seqQ_exit ?_ | refine blkQ_norm ?_ | refine blkQ_ret ?_ | refine blkQ_here ?_ | refine gateK_yes ?_ | refine gateK_none ?_ | refine condK_tt ?_ | refine condK_ff ?_ | refine roundQ_exit ?_ | refine roundQ_ret ?_)
  | refine WC_region ?_ | refine blkQ_out rfl ?_ | refine WO_nil ?_ | refine WD_nil ?_
  | ((first | refine WD_gate rfl rfl rfl rfl rfl fun K_ hK_ => ?_ | refine WO_gate rfl rfl rfl rfl rfl fun K_ hK_ => ?_); simp only [upd_apply, asB_bool, asB_tup, ↓reduceIte, reduceCtorEq, Nat.reduceEqDiff, Bool.not_true, Bool.not_false]; refine hK_ _ ?_; clear hK_ K_)
  | refine gateK_no (by decide) ?_
  | ((try first | refine WO_op rfl rfl rfl ?_ | refine WO_op0 rfl rfl ?_ | refine WD_op rfl rfl rfl ?_ | refine WD_op0 rfl rfl ?_); (refine WV_gen fun Q_ hQ_ => ?_; simp (disch := first | omega | (simp only [List.length_cons, List.length_nil, List.length_append]; omega)) only [bb, bp, argF, ↓reduceIte, reduceCtorEq, Nat.reduceEqDiff, Nat.reduceLT, Nat.reduceLeDiff, Nat.reduceAdd, Nat.reduceMul, Nat.reduceSub, Nat.reduceBEq, Int.reduceToNat, cond_true, cond_false, eq_self, beq_self_eq_true, hao, newPtr_X wf, load1_X wf, loadAgg_X wf, store1_X wf, writeCells_X wf, makeFunc_def, tEvM4]; first | (refine dec_split (Q := Q_) (fun hp_ => ?_) (fun hp_ => ?_) <;> first | (exfalso; omega) | (refine hQ_ _ _ ?_; clear hQ_ Q_)) | (refine dec_splitn (Q := Q_) (fun hp_ => ?_) (fun hp_ => ?_) <;> first | (exfalso; omega) | (refine hQ_ _ _ ?_; clear hQ_ Q_)) | (refine hQ_ _ _ ?_; clear hQ_ Q_) | (refine WV_eq (questionNot sp st a rvs rows what he hwh x (by simp only [List.length_append, List.length_cons, List.length_nil]; omega)) ?_; refine hQ_ _ _ ?_; clear hQ_ Q_)))
  | (refine WC_cond fun K_ hK_ => ?_; simp (disch := omega) only [evT_tmp, upd_apply, WB_some, ↓reduceIte, reduceCtorEq, Nat.reduceEqDiff, Nat.reduceLT]; refine hK_ _ ?_; clear hK_ K_)))
      refine endQ_ret _ _ rfl (retc1 (by decide) (by decide) (by simp (disch := first | omega | (simp only [List.length_cons, List.length_nil, List.length_append]; omega)) only [bb, bp, argF, ↓reduceIte, reduceCtorEq, Nat.reduceEqDiff, Nat.reduceLT, Nat.reduceLeDiff, Nat.reduceAdd, Nat.reduceMul, Nat.reduceSub, Nat.reduceBEq, Int.reduceToNat, cond_true, cond_false, eq_self, beq_self_eq_true, loadAgg_X wf, tEvM4]; rfl)) ?_
      simp only [upd_apply, ↓reduceIte, reduceCtorEq, Nat.reduceEqDiff]
      refine WV_flat rfl (by omega) ?_
      exact ⟨rfl, rfl⟩
  · rw [if_pos he]
    have hqb : ∀ l w, w ≤ h.clock + l.length → (om Try.prog KK).call (.fn 28 [.agg [ii sp, ii st, a], ii what]) (X h l w) = .ok (.tup [.agg [ii 0, ii 0, .nils], .nilf, ii (hullErr sp st rows)]) (X h l w) := fun l w hw => questionBad sp st a rvs rows what he _ (x.up l w hw)
    (repeat' (first
  | (with_reducible first | refine WC_seq ?_ | refine WC_skip ?_ | refine WC_label ?_ | refine WC_scope ?_ | refine WC_block ?_ | refine WC_ret ?_ | refine WC_exit ?_ | refine seqQ_norm ?_ | refine seqQ_ret ?_ | refine seqQ_exit ?_ | refine blkQ_norm ?_ | refine blkQ_ret ?_ | refine blkQ_here ?_ | refine gateK_yes ?_ | refine gateK_none ?_ | refine condK_tt ?_ | refine condK_ff ?_ | refine roundQ_exit ?_ | refine roundQ_ret ?_)
  | refine WC_region ?_ | refine blkQ_out rfl ?_ | refine WO_nil ?_ | refine WD_nil ?_
  | ((first | refine WD_gate rfl rfl rfl rfl rfl fun K_ hK_ => ?_ | refine WO_gate rfl rfl rfl rfl rfl fun K_ hK_ => ?_); simp only [upd_apply, asB_bool, asB_tup, ↓reduceIte, reduceCtorEq, Nat.reduceEqDiff, Bool.not_true, Bool.not_false]; refine hK_ _ ?_; clear hK_ K_)
  | refine gateK_no (by decide) ?_
  | ((try first | refine WO_op rfl rfl rfl ?_ | refine WO_op0 rfl rfl ?_ | refine WD_op rfl rfl rfl ?_ | refine WD_op0 rfl rfl ?_); (refine WV_gen fun Q_ hQ_ => ?_; simp (disch := first | omega | (simp only [List.length_cons, List.length_nil, List.length_append]; omega)) only [bb, bp, argF, ↓reduceIte, reduceCtorEq, Nat.reduceEqDiff, Nat.reduceLT, Nat.reduceLeDiff, Nat.reduceAdd, Nat.reduceMul, Nat.reduceSub, Nat.reduceBEq, Int.reduceToNat, cond_true, cond_false, eq_self, beq_self_eq_true, hqb, hao, newPtr_X wf, load1_X wf, loadAgg_X wf, store1_X wf, writeCells_X wf, makeFunc_def, tEvM4]; first | (refine dec_split (Q := Q_) (fun hp_ => ?_) (fun hp_ => ?_) <;> first | (exfalso; omega) | (refine hQ_ _ _ ?_; clear hQ_ Q_)) | (refine dec_splitn (Q := Q_) (fun hp_ => ?_) (fun hp_ => ?_) <;> first | (exfalso; omega) | (refine hQ_ _ _ ?_; clear hQ_ Q_)) | (refine hQ_ _ _ ?_; clear hQ_ Q_)))
  | (refine WC_cond fun K_ hK_ => ?_; simp (disch := omega) only [evT_tmp, upd_apply, WB_some, ↓reduceIte, reduceCtorEq, Nat.reduceEqDiff, Nat.reduceLT]; refine hK_ _ ?_; clear hK_ K_)))
    refine endQ_ret _ _ rfl (retc1 (by decide) (by decide) (by simp (disch := first | omega | (simp only [List.length_cons, List.length_nil, List.length_append]; omega)) only [bb, bp, argF, ↓reduceIte, reduceCtorEq, Nat.reduceEqDiff, Nat.reduceLT, Nat.reduceLeDiff, Nat.reduceAdd, Nat.reduceMul, Nat.reduceSub, Nat.reduceBEq, Int.reduceToNat, cond_true, cond_false, eq_self, beq_self_eq_true, loadAgg_X wf, tEvM4]; rfl)) ?_
    simp only [upd_apply, ↓reduceIte, reduceCtorEq, Nat.reduceEqDiff]
    refine WV_flat rfl (by omega) ?_
    exact ⟨rfl, rfl⟩

def lowV (c : Nat) (rows : List (List (Int × Int))) : List Int := gB (pickY c rows (m0 rows)) (m0 rows) (rows.length * m0 rows)
def volS (sp st : Int) (rows : List (List (Int × Int))) (gs : List Int) : Int := sp * st * psum (vterm rows.length (m0 rows) gs) (rows.length * m0 rows)
noncomputable def volsOut (sp st : Int) (rows : List (List (Int × Int))) : AV :=
  if hullErr sp st rows ≠ 0 then .tup [.agg [ii 0, ii 0, ii 0, ii 0], ii (hullErr sp st rows)]
  else .tup [.agg (AV.cells (frac (volS sp st rows (lowV 38 rows)) 2) ++ AV.cells (frac (volS sp st rows (lowV 39 rows)) 2)), ii 0]

end Go.Proofs.Ytghondkiondeaac
end

/- EvM5 -/
section
/-
  LAYER 2: the offsets of a grid, as lists.
-/
namespace Go.Proofs.Ytghondkiondeaac
open Go.Ev
set_option maxRecDepth 100000
set_option linter.unusedSimpArgs false
set_option linter.unusedVariables false
set_option maxHeartbeats 2000000

/-- A station's offsets in a grid. -/
def gRow (gs : List Int) (m i : Nat) : List Int := (gs.drop (i * 6)).take m
noncomputable def rowO (gs : List Int) (m : Nat) (j : Nat) : AO := .cells (mkCells ((gRow gs m j).map ii)) 2
noncomputable def rowV (h : H) (m j : Nat) : AV := .sl (nx h (j + 3)) 0 m (some m) 1
noncomputable def outer (h : H) (n m i : Nat) : List AV := (List.range n).map fun j => if j < i then rowV h m j else .nils
end Go.Proofs.Ytghondkiondeaac
end

/- EvM6 -/
section
/-
  LAYER 2: the end as lists; fractions held against one another.
-/
namespace Go.Proofs.Ytghondkiondeaac
open Go.Ev
set_option maxRecDepth 100000
set_option linter.unusedSimpArgs false
set_option linter.unusedVariables false
set_option maxHeartbeats 2000000

/-- What End leaves in memory. -/
noncomputable def endL (h : H) (sp st : Int) (a : AV) (rows : List (List (Int × Int))) (what : Int) (high : Bool) : List AO :=
  [.cells (mkCells [ii sp, ii st, a]) 24, .cells (mkCells [ii sp, ii st, a]) 24, .cells (mkCells [ii sp, ii st, a]) 64, .cells (mkCells [ii sp, ii st, a]) 64, .cells (mkCells [ii sp, ii st, a]) 64, .cells (mkCells [ii sp, ii st, a]) 64,
    .cells (mkCells ((lowG sp st rows what high).map ii)) 71, .cells (mkCells [ii (ratN (gOf what) sp st rows (m0 rows) (lowG sp st rows what high)), ii (ratD (gOf what) sp st rows (m0 rows) (lowG sp st rows what high))]) 26]
noncomputable def endE (h : H) (sp st : Int) (a : AV) (rows : List (List (Int × Int))) (what : Int) (high : Bool) : List AO :=
  endL h sp st a rows what high ++ (.cells (mkCells [ii sp, ii st, a]) 64 :: .cells (mkCells ((lowG sp st rows what high).map ii)) 71 :: .cells (mkCells (outer (X h (endL h sp st a rows what high) h.clock) rows.length (m0 rows) rows.length)) 53 :: (List.range rows.length).map (rowO (lowG sp st rows what high) (m0 rows)))
end Go.Proofs.Ytghondkiondeaac
end
