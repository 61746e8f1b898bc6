import Derived.Test.YtghondkiondeaacNarM5
set_option linter.all false
/- EvM1 -/
section
/-
  LAYER 2: a hull that is built place by place.
-/
namespace Go.Proofs.Ytghondkiondeaac
open Go.Ev
set_option maxRecDepth 100000
set_option linter.unusedSimpArgs false
set_option linter.unusedVariables false
set_option maxHeartbeats 2000000

theorem tEvM1 : type_of% (And.intro (And.intro (And.intro (And.intro (And.intro (@ia_2) (@sz_2)) (And.intro (@ze_2) (@ia_3))) (And.intro (And.intro (@sz_3) (@ia_4)) (And.intro (@sz_4) (@ia_55)))) (And.intro (And.intro (And.intro (@sz_55) (@fo_55_0)) (And.intro (@fo_55_1) (@ia_64))) (And.intro (And.intro (@sz_64) (@ia_66)) (And.intro (@sz_66) (And.intro (@ia_82) (@sz_82)))))) (And.intro (And.intro (And.intro (And.intro (@ia_26) (@sz_26)) (And.intro (@ia_71) (@sz_71))) (And.intro (And.intro (@ze_71) (@ia_81)) (And.intro (@sz_81) (And.intro (@ze_81) (@fo_81_0))))) (And.intro (And.intro (And.intro (@fo_81_1) (@fo_81_2)) (And.intro (@fo_81_3) (@ik_71))) (And.intro (And.intro (@ik_69) (@pb_48)) (And.intro (@pb_56) (And.intro (@pb_38) (@pb_39))))))) := And.intro (And.intro (And.intro (And.intro (And.intro (@ia_2) (@sz_2)) (And.intro (@ze_2) (@ia_3))) (And.intro (And.intro (@sz_3) (@ia_4)) (And.intro (@sz_4) (@ia_55)))) (And.intro (And.intro (And.intro (@sz_55) (@fo_55_0)) (And.intro (@fo_55_1) (@ia_64))) (And.intro (And.intro (@sz_64) (@ia_66)) (And.intro (@sz_66) (And.intro (@ia_82) (@sz_82)))))) (And.intro (And.intro (And.intro (And.intro (@ia_26) (@sz_26)) (And.intro (@ia_71) (@sz_71))) (And.intro (And.intro (@ze_71) (@ia_81)) (And.intro (@sz_81) (And.intro (@ze_81) (@fo_81_0))))) (And.intro (And.intro (And.intro (@fo_81_1) (@fo_81_2)) (And.intro (@fo_81_3) (@ik_71))) (And.intro (And.intro (@ik_69) (@pb_48)) (And.intro (@pb_56) (And.intro (@pb_38) (@pb_39))))))
/-- Which offset a function picks. -/
def pickOf (c : Nat) (r : Int × Int) : Int := if c = 39 then r.2 else r.1
theorem pick {c : Nat} (hc : c = 56 ∨ c = 38 ∨ c = 39) (r : Int × Int) (i k w : AV) (h : H) (wf : Wf h) :
    (om Try.prog KK).call (.fn c [.agg [ii r.1, ii r.2, i, k, w]]) h = .ok (ii (pickOf c r)) h := by
  rcases hc with rfl | rfl | rfl
  · refine WV_to (WV_call (fn := Try.f56) Try.func56 rfl rfl rfl rfl rfl ?_)
    simp only [argF]
    (repeat' (first
  | (with_reducible first | refine WC_seq ?_ | refine WC_skip ?_ | refine WC_label ?_ | refine WC_scope ?_ | refine WC_block ?_ | refine WC_ret ?_ | refine WC_exit ?_ | refine seqQ_norm ?_ | refine seqQ_ret ?_ | refine seqQ_exit ?_ | refine blkQ_norm ?_ | refine blkQ_ret ?_ | refine blkQ_here ?_ | refine gateK_yes ?_ | refine gateK_none ?_ | refine condK_tt ?_ | refine condK_ff ?_ | refine roundQ_exit ?_ | refine roundQ_ret ?_)
  | refine WC_region ?_ | refine blkQ_out rfl ?_ | refine WO_nil ?_ | refine WD_nil ?_
  | ((first | refine WD_gate rfl rfl rfl rfl rfl fun K_ hK_ => ?_ | refine WO_gate rfl rfl rfl rfl rfl fun K_ hK_ => ?_); simp only [upd_apply, asB_bool, asB_tup, ↓reduceIte, reduceCtorEq, Nat.reduceEqDiff, Bool.not_true, Bool.not_false]; refine hK_ _ ?_; clear hK_ K_)
  | refine gateK_no (by decide) ?_
  | ((try first | refine WO_op rfl rfl rfl ?_ | refine WO_op0 rfl rfl ?_ | refine WD_op rfl rfl rfl ?_ | refine WD_op0 rfl rfl ?_); (refine WV_gen fun Q_ hQ_ => ?_; simp (disch := first | omega | (simp only [List.length_cons, List.length_nil, List.length_append]; omega)) only [bb, bp, argF, ↓reduceIte, reduceCtorEq, Nat.reduceEqDiff, Nat.reduceLT, Nat.reduceLeDiff, Nat.reduceAdd, Nat.reduceMul, Nat.reduceSub, Nat.reduceBEq, Int.reduceToNat, cond_true, cond_false, eq_self, beq_self_eq_true, newPtr_X wf, load1_X wf, loadAgg_X wf, store1_X wf, writeCells_X wf, makeFunc_def, tEvM1, indexAddrE_def (P := Try.prog) (t := 71), indexAddrE_def (P := Try.prog) (t := 69)]; first | (refine dec_split (Q := Q_) (fun hp_ => ?_) (fun hp_ => ?_) <;> first | (exfalso; omega) | (refine hQ_ _ _ ?_; clear hQ_ Q_)) | (refine dec_splitn (Q := Q_) (fun hp_ => ?_) (fun hp_ => ?_) <;> first | (exfalso; omega) | (refine hQ_ _ _ ?_; clear hQ_ Q_)) | (refine hQ_ _ _ ?_; clear hQ_ Q_)))
  | (refine WC_cond fun K_ hK_ => ?_; simp (disch := omega) only [evT_tmp, upd_apply, WB_some, ↓reduceIte, reduceCtorEq, Nat.reduceEqDiff, Nat.reduceLT]; refine hK_ _ ?_; clear hK_ K_)))
    (refine endQ_ret _ _ rfl (ret1 (by decide)) ?_; simp only [upd_apply, ↓reduceIte, reduceCtorEq, Nat.reduceEqDiff]; refine WV_flat rfl (by omega) ?_)
    exact ⟨rfl, rfl⟩
  · refine WV_to (WV_call (fn := Try.f38) Try.func38 rfl rfl rfl rfl rfl ?_)
    simp only [argF]
    (repeat' (first
  | (with_reducible first | refine WC_seq ?_ | refine WC_skip ?_ | refine WC_label ?_ | refine WC_scope ?_ | refine WC_block ?_ | refine WC_ret ?_ | refine WC_exit ?_ | refine seqQ_norm ?_ | refine seqQ_ret ?_ | refine seqQ_exit ?_ | refine blkQ_norm ?_ | refine blkQ_ret ?_ | refine blkQ_here ?_ | refine gateK_yes ?_ | refine gateK_none ?_ | refine condK_tt ?_ | refine condK_ff ?_ | refine roundQ_exit ?_ | refine roundQ_ret ?_)
  | refine WC_region ?_ | refine blkQ_out rfl ?_ | refine WO_nil ?_ | refine WD_nil ?_
  | ((first | refine WD_gate rfl rfl rfl rfl rfl fun K_ hK_ => ?_ | refine WO_gate rfl rfl rfl rfl rfl fun K_ hK_ => ?_); simp only [upd_apply, asB_bool, asB_tup, ↓reduceIte, reduceCtorEq, Nat.reduceEqDiff, Bool.not_true, Bool.not_false]; refine hK_ _ ?_; clear hK_ K_)
  | refine gateK_no (by decide) ?_
  | ((try first | refine WO_op rfl rfl rfl ?_ | refine WO_op0 rfl rfl ?_ | refine WD_op rfl rfl rfl ?_ | refine WD_op0 rfl rfl ?_); (refine WV_gen fun Q_ hQ_ => ?_; simp (disch := first | omega | (simp only [List.length_cons, List.length_nil, List.length_append]; omega)) only [bb, bp, argF, ↓reduceIte, reduceCtorEq, Nat.reduceEqDiff, Nat.reduceLT, Nat.reduceLeDiff, Nat.reduceAdd, Nat.reduceMul, Nat.reduceSub, Nat.reduceBEq, Int.reduceToNat, cond_true, cond_false, eq_self, beq_self_eq_true, newPtr_X wf, load1_X wf, loadAgg_X wf, store1_X wf, writeCells_X wf, makeFunc_def, tEvM1, indexAddrE_def (P := Try.prog) (t := 71), indexAddrE_def (P := Try.prog) (t := 69)]; first | (refine dec_split (Q := Q_) (fun hp_ => ?_) (fun hp_ => ?_) <;> first | (exfalso; omega) | (refine hQ_ _ _ ?_; clear hQ_ Q_)) | (refine dec_splitn (Q := Q_) (fun hp_ => ?_) (fun hp_ => ?_) <;> first | (exfalso; omega) | (refine hQ_ _ _ ?_; clear hQ_ Q_)) | (refine hQ_ _ _ ?_; clear hQ_ Q_)))
  | (refine WC_cond fun K_ hK_ => ?_; simp (disch := omega) only [evT_tmp, upd_apply, WB_some, ↓reduceIte, reduceCtorEq, Nat.reduceEqDiff, Nat.reduceLT]; refine hK_ _ ?_; clear hK_ K_)))
    (refine endQ_ret _ _ rfl (ret1 (by decide)) ?_; simp only [upd_apply, ↓reduceIte, reduceCtorEq, Nat.reduceEqDiff]; refine WV_flat rfl (by omega) ?_)
    exact ⟨rfl, rfl⟩
  · refine WV_to (WV_call (fn := Try.f39) Try.func39 rfl rfl rfl rfl rfl ?_)
    simp only [argF]
    (repeat' (first
  | (with_reducible first | refine WC_seq ?_ | refine WC_skip ?_ | refine WC_label ?_ | refine WC_scope ?_ | refine WC_block ?_ | refine WC_ret ?_ | refine WC_exit ?_ | refine seqQ_norm ?_ | refine seqQ_ret ?_ | refine seqQ_exit ?_ | refine blkQ_norm ?_ | refine blkQ_ret ?_ | refine blkQ_here ?_ | refine gateK_yes ?_ | refine gateK_none ?_ | refine condK_tt ?_ | refine condK_ff ?_ | refine roundQ_exit ?_ | refine roundQ_ret ?_)
  | refine WC_region ?_ | refine blkQ_out rfl ?_ | refine WO_nil ?_ | refine WD_nil ?_
  | ((first | refine WD_gate rfl rfl rfl rfl rfl fun K_ hK_ => ?_ | refine WO_gate rfl rfl rfl rfl rfl fun K_ hK_ => ?_); simp only [upd_apply, asB_bool, asB_tup, ↓reduceIte, reduceCtorEq, Nat.reduceEqDiff, Bool.not_true, Bool.not_false]; refine hK_ _ ?_; clear hK_ K_)
  | refine gateK_no (by decide) ?_
  | ((try first | refine WO_op rfl rfl rfl ?_ | refine WO_op0 rfl rfl ?_ | refine WD_op rfl rfl rfl ?_ | refine WD_op0 rfl rfl ?_); (refine WV_gen fun Q_ hQ_ => ?_; simp (disch := first | omega | (simp only [List.length_cons, List.length_nil, List.length_append]; omega)) only [bb, bp, argF, ↓reduceIte, reduceCtorEq, Nat.reduceEqDiff, Nat.reduceLT, Nat.reduceLeDiff, Nat.reduceAdd, Nat.reduceMul, Nat.reduceSub, Nat.reduceBEq, Int.reduceToNat, cond_true, cond_false, eq_self, beq_self_eq_true, newPtr_X wf, load1_X wf, loadAgg_X wf, store1_X wf, writeCells_X wf, makeFunc_def, tEvM1, indexAddrE_def (P := Try.prog) (t := 71), indexAddrE_def (P := Try.prog) (t := 69)]; first | (refine dec_split (Q := Q_) (fun hp_ => ?_) (fun hp_ => ?_) <;> first | (exfalso; omega) | (refine hQ_ _ _ ?_; clear hQ_ Q_)) | (refine dec_splitn (Q := Q_) (fun hp_ => ?_) (fun hp_ => ?_) <;> first | (exfalso; omega) | (refine hQ_ _ _ ?_; clear hQ_ Q_)) | (refine hQ_ _ _ ?_; clear hQ_ Q_)))
  | (refine WC_cond fun K_ hK_ => ?_; simp (disch := omega) only [evT_tmp, upd_apply, WB_some, ↓reduceIte, reduceCtorEq, Nat.reduceEqDiff, Nat.reduceLT]; refine hK_ _ ?_; clear hK_ K_)))
    (refine endQ_ret _ _ rfl (ret1 (by decide)) ?_; simp only [upd_apply, ↓reduceIte, reduceCtorEq, Nat.reduceEqDiff]; refine WV_flat rfl (by omega) ?_)
    exact ⟨rfl, rfl⟩

def pickY (c : Nat) (rows : List (List (Int × Int))) (m q : Nat) : Int := pickOf c (rAt rows m q)

theorem built {c : Nat} (hc : c = 56 ∨ c = 38 ∨ c = 39) (sp st : Int) (a : AV) (rvs : List AV) (rows : List (List (Int × Int))) (m : Nat) (hn : 2 ≤ rows.length ∧ rows.length ≤ 10) (hm : 2 ≤ m ∧ m ≤ 6) (h : H) (x : HullAt h a rvs rows m) :
    (om Try.prog KK).call (.fn 37 [.agg [ii sp, ii st, a], .fn c [] []]) h = .ok (.agg ((gB (pickY c rows m) m (rows.length * m)).map ii)) h := by
  have wf := x.wf
  have hpb : plainB Try.prog c = true := by rcases hc with rfl | rfl | rfl <;> first | exact pb_56 | exact pb_38 | exact pb_39
  refine WV_to (WV_call (fn := Try.f37) Try.func37 rfl rfl rfl rfl rfl ?_)
  simp only [argF]
  (repeat' (first
  | (with_reducible first | refine WC_seq ?_ | refine WC_skip ?_ | refine WC_label ?_ | refine WC_scope ?_ | refine WC_block ?_ | refine WC_ret ?_ | refine WC_exit ?_ | refine seqQ_norm ?_ | refine seqQ_ret ?_ | refine seqQ_exit ?_ | refine blkQ_norm ?_ | refine blkQ_ret ?_ | refine blkQ_here ?_ | refine gateK_yes ?_ | refine gateK_none ?_ | refine condK_tt ?_ | refine condK_ff ?_ | refine roundQ_exit ?_ | refine roundQ_ret ?_)
  | refine WC_region ?_ | refine blkQ_out rfl ?_ | refine WO_nil ?_ | refine WD_nil ?_
  | ((first | refine WD_gate rfl rfl rfl rfl rfl fun K_ hK_ => ?_ | refine WO_gate rfl rfl rfl rfl rfl fun K_ hK_ => ?_); simp only [upd_apply, asB_bool, asB_tup, ↓reduceIte, reduceCtorEq, Nat.reduceEqDiff, Bool.not_true, Bool.not_false]; refine hK_ _ ?_; clear hK_ K_)
  | refine gateK_no (by decide) ?_
  | ((try first | refine WO_op rfl rfl rfl ?_ | refine WO_op0 rfl rfl ?_ | refine WD_op rfl rfl rfl ?_ | refine WD_op0 rfl rfl ?_); (refine WV_gen fun Q_ hQ_ => ?_; simp (disch := first | omega | (simp only [List.length_cons, List.length_nil, List.length_append]; omega)) only [bb, bp, argF, ↓reduceIte, reduceCtorEq, Nat.reduceEqDiff, Nat.reduceLT, Nat.reduceLeDiff, Nat.reduceAdd, Nat.reduceMul, Nat.reduceSub, Nat.reduceBEq, Int.reduceToNat, cond_true, cond_false, eq_self, beq_self_eq_true, newPtr_X wf, load1_X wf, loadAgg_X wf, store1_X wf, writeCells_X wf, makeFunc_def, tEvM1, indexAddrE_def (P := Try.prog) (t := 71), indexAddrE_def (P := Try.prog) (t := 69)]; first | (refine dec_split (Q := Q_) (fun hp_ => ?_) (fun hp_ => ?_) <;> first | (exfalso; omega) | (refine hQ_ _ _ ?_; clear hQ_ Q_)) | (refine dec_splitn (Q := Q_) (fun hp_ => ?_) (fun hp_ => ?_) <;> first | (exfalso; omega) | (refine hQ_ _ _ ?_; clear hQ_ Q_)) | (refine hQ_ _ _ ?_; clear hQ_ Q_) | (refine WV_eq (places sp st a h wf _ _ (by simp only [List.length_append, List.length_cons, List.length_nil]; omega)) ?_; refine hQ_ _ _ ?_; clear hQ_ Q_)))
  | (refine WC_cond fun K_ hK_ => ?_; simp (disch := omega) only [evT_tmp, upd_apply, WB_some, ↓reduceIte, reduceCtorEq, Nat.reduceEqDiff, Nat.reduceLT]; refine hK_ _ ?_; clear hK_ K_)))
  simp only [List.length_cons, List.length_nil, List.cons_append, List.nil_append]
  refine WC_rangeX wf rfl (evT_tmp (by decide)) fun o ho => ?_
  simp only [upd_apply, ↓reduceIte, reduceCtorEq, Nat.reduceEqDiff, List.length_cons, List.length_nil, List.cons_append, List.nil_append, Nat.reduceAdd]
  refine WV.mono (placesH x hn hm sp st 4 (nx h 6) _ (fun q hb => ∃ w, hb = X h [.cells (mkCells [ii sp, ii st, a]) 64, .cells (mkCells [.fn c [] []]) 82, .cells (mkCells ((gB (pickY c rows m) m 0).map ii)) 71, .cells (mkCells ((gB (pickY c rows m) m q).map ii)) 71, .cells (mkCells [ii sp, ii st, a]) 64, .dfr, o] w ∧ w ≤ h.clock + 7)
    (fun _ => False) h.clock (Nat.le_refl _) (Nat.le_add_right _ _) ?_ ?_ ⟨h.clock, rfl, by omega⟩) ?_
  · rintro q hb ⟨w, rfl, hw⟩
    exact ⟨⟨_, w, rfl, hw, rfl⟩, Same.X rfl⟩
  · rintro q xx hx hb J w ⟨w0, rfl, hw0⟩ hlo hw
    obtain ⟨hq, rfl⟩ := placesOf_at hx
    obtain ⟨i1, i2, i3⟩ := place_idx hm.2 hn.2 hq
    have hw' : w ≤ h.clock + 7 + J.length := hw
    rw [X_X]
    have hr : (rows.getD (q / m) []).getD (q % m) (0, 0) = rAt rows m q := rfl
    simp only [List.cons_append, List.nil_append, placeOf, hr]
    refine WV_yldX wf (k := 6) rfl ho (setParams1 rfl) ?_
    (repeat' (first
  | (with_reducible first | refine WC_seq ?_ | refine WC_skip ?_ | refine WC_label ?_ | refine WC_scope ?_ | refine WC_block ?_ | refine WC_ret ?_ | refine WC_exit ?_ | refine seqQ_norm ?_ | refine seqQ_ret ?_ | refine seqQ_exit ?_ | refine blkQ_norm ?_ | refine blkQ_ret ?_ | refine blkQ_here ?_ | refine gateK_yes ?_ | refine gateK_none ?_ | refine condK_tt ?_ | refine condK_ff ?_ | refine roundQ_exit ?_ | refine roundQ_ret ?_)
  | refine WC_region ?_ | refine blkQ_out rfl ?_ | refine WO_nil ?_ | refine WD_nil ?_
  | ((first | refine WD_gate rfl rfl rfl rfl rfl fun K_ hK_ => ?_ | refine WO_gate rfl rfl rfl rfl rfl fun K_ hK_ => ?_); simp only [upd_apply, asB_bool, asB_tup, ↓reduceIte, reduceCtorEq, Nat.reduceEqDiff, Bool.not_true, Bool.not_false]; refine hK_ _ ?_; clear hK_ K_)
  | refine gateK_no (by decide) ?_
  | ((try first | refine WO_op rfl rfl rfl ?_ | refine WO_op0 rfl rfl ?_ | refine WD_op rfl rfl rfl ?_ | refine WD_op0 rfl rfl ?_); (refine WV_gen fun Q_ hQ_ => ?_; simp (disch := first | omega | (simp only [List.length_cons, List.length_nil, List.length_append]; omega)) only [bb, bp, argF, ↓reduceIte, reduceCtorEq, Nat.reduceEqDiff, Nat.reduceLT, Nat.reduceLeDiff, Nat.reduceAdd, Nat.reduceMul, Nat.reduceSub, Nat.reduceBEq, Int.reduceToNat, cond_true, cond_false, eq_self, beq_self_eq_true, newPtr_X wf, load1_X wf, loadAgg_X wf, store1_X wf, writeCells_X wf, makeFunc_def, tEvM1, indexAddrE_def (P := Try.prog) (t := 71), indexAddrE_def (P := Try.prog) (t := 69)]; first | (refine dec_split (Q := Q_) (fun hp_ => ?_) (fun hp_ => ?_) <;> first | (exfalso; omega) | (refine hQ_ _ _ ?_; clear hQ_ Q_)) | (refine dec_splitn (Q := Q_) (fun hp_ => ?_) (fun hp_ => ?_) <;> first | (exfalso; omega) | (refine hQ_ _ _ ?_; clear hQ_ Q_)) | (refine hQ_ _ _ ?_; clear hQ_ Q_)))
  | (refine WC_cond fun K_ hK_ => ?_; simp (disch := omega) only [evT_tmp, upd_apply, WB_some, ↓reduceIte, reduceCtorEq, Nat.reduceEqDiff, Nat.reduceLT]; refine hK_ _ ?_; clear hK_ K_)))
    refine yldA_X wf (k := 6) rfl ho fun o' ho' => ?_
    simp only [List.set_cons_succ, List.set_cons_zero]
    have hlm : ((gB (pickY c rows m) m q).map ii).length = 60 := by rw [List.length_map, gB_length]
    have hpk : ∀ l w, w ≤ h.clock + l.length → (om Try.prog KK).call (.fn c [.agg [ii (rAt rows m q).1, ii (rAt rows m q).2, ii ((q / m : Nat) : Int), ii ((q % m : Nat) : Int), ii (wt rows.length (q / m) * wt m (q % m))]]) (X h l w) = .ok (ii (pickY c rows m q)) (X h l w) := fun l w hw => pick hc (rAt rows m q) _ _ _ _ (wf.X hw)
    refine WC_block ?_
    refine WC_drawnB [.no, .no, .no, .no, .no, .no, .no, .no, .full, .full] (by kernel_rfl) ?_
    (repeat' (first
  | (with_reducible first | refine WC_seq ?_ | refine WC_skip ?_ | refine WC_label ?_ | refine WC_scope ?_ | refine WC_block ?_ | refine WC_ret ?_ | refine WC_exit ?_ | refine seqQ_norm ?_ | refine seqQ_ret ?_ | refine seqQ_exit ?_ | refine blkQ_norm ?_ | refine blkQ_ret ?_ | refine blkQ_here ?_ | refine gateK_yes ?_ | refine gateK_none ?_ | refine condK_tt ?_ | refine condK_ff ?_ | refine roundQ_exit ?_ | refine roundQ_ret ?_)
  | refine WC_region ?_ | refine blkQ_out rfl ?_ | refine WO_nil ?_ | refine WD_nil ?_
  | ((first | refine WD_gate rfl rfl rfl rfl rfl fun K_ hK_ => ?_ | refine WO_gate rfl rfl rfl rfl rfl fun K_ hK_ => ?_); simp only [upd_apply, asB_bool, asB_tup, ↓reduceIte, reduceCtorEq, Nat.reduceEqDiff, Bool.not_true, Bool.not_false]; refine hK_ _ ?_; clear hK_ K_)
  | refine gateK_no (by decide) ?_
  | ((try first | refine WO_op rfl rfl rfl ?_ | refine WO_op0 rfl rfl ?_ | refine WD_op rfl rfl rfl ?_ | refine WD_op0 rfl rfl ?_); (refine WV_gen fun Q_ hQ_ => ?_; simp (disch := first | omega | (simp only [List.length_cons, List.length_nil, List.length_append]; omega)) only [bb, bp, argF, ↓reduceIte, reduceCtorEq, Nat.reduceEqDiff, Nat.reduceLT, Nat.reduceLeDiff, Nat.reduceAdd, Nat.reduceMul, Nat.reduceSub, Nat.reduceBEq, Int.reduceToNat, cond_true, cond_false, eq_self, beq_self_eq_true, hlm, i3, hpk, hpb, callV_fn, newPtr_X wf, load1_X wf, loadAgg_X wf, store1_X wf, writeCells_X wf, makeFunc_def, tEvM1, indexAddrE_def (P := Try.prog) (t := 71), indexAddrE_def (P := Try.prog) (t := 69)]; first | (refine dec_split (Q := Q_) (fun hp_ => ?_) (fun hp_ => ?_) <;> first | (exfalso; omega) | (refine hQ_ _ _ ?_; clear hQ_ Q_)) | (refine dec_splitn (Q := Q_) (fun hp_ => ?_) (fun hp_ => ?_) <;> first | (exfalso; omega) | (refine hQ_ _ _ ?_; clear hQ_ Q_)) | (refine hQ_ _ _ ?_; clear hQ_ Q_)))
  | (refine WC_cond fun K_ hK_ => ?_; simp (disch := omega) only [evT_tmp, upd_apply, WB_some, ↓reduceIte, reduceCtorEq, Nat.reduceEqDiff, Nat.reduceLT]; refine hK_ _ ?_; clear hK_ K_)))
    refine yldB_X wf (k := 6) rfl ho' ?_
    simp only [List.set_cons_succ, List.set_cons_zero]
    rw [← ho]
    refine ⟨X h [.cells (mkCells [ii sp, ii st, a]) 64, .cells (mkCells [.fn c [] []]) 82, .cells (mkCells ((gB (pickY c rows m) m 0).map ii)) 71, .cells (mkCells ((gB (pickY c rows m) m (q + 1)).map ii)) 71, .cells (mkCells [ii sp, ii st, a]) 64, .dfr, o] w0, _, _, by rw [X_X]; simp only [gB, List.map_set]; rfl, Same.X rfl, by omega, ?_, .inl ⟨rfl, w0, rfl, hw0⟩⟩
    show _ < h.clock + 7
    omega
  · rintro v h' ⟨hb, J, w, rfl, hs, hlo, hw, ⟨w0, rfl, hw0⟩ | hD'⟩
    · rw [X_X, placesOf_length]
      refine rangeQ_X wf (k := 6) rfl ho (by decide) fun o' ho' => ?_
      simp only [List.cons_append, List.nil_append, List.set_cons_succ, List.set_cons_zero]
      have hL : ((gB (pickY c rows m) m (rows.length * m)).map ii).length = 60 := by rw [List.length_map, gB_length]
      have hL0 : ((gB (pickY c rows m) m 0).map ii).length = 60 := by rw [List.length_map, gB_length]
      have hld : ∀ u, loadE Try.prog 71 (.ptr (nx h 3) 0) (X h (.cells (mkCells [ii sp, ii st, a]) 64 :: .cells (mkCells [.fn c [] []]) 82 :: .cells (mkCells ((gB (pickY c rows m) m 0).map ii)) 71 :: .cells (mkCells ((gB (pickY c rows m) m (rows.length * m)).map ii)) 71 :: .cells (mkCells [ii sp, ii st, a]) 64 :: .dfr :: o' :: J) u) = some (.agg ((gB (pickY c rows m) m (rows.length * m)).map ii)) := fun u => loadE_whole wf ia_71 sz_71 (by decide) hL rfl
      have hsto : ∀ u, storeE Try.prog 71 (.ptr (nx h 2) 0) (.agg ((gB (pickY c rows m) m (rows.length * m)).map ii)) (X h (.cells (mkCells [ii sp, ii st, a]) 64 :: .cells (mkCells [.fn c [] []]) 82 :: .cells (mkCells ((gB (pickY c rows m) m 0).map ii)) 71 :: .cells (mkCells ((gB (pickY c rows m) m (rows.length * m)).map ii)) 71 :: .cells (mkCells [ii sp, ii st, a]) 64 :: .dfr :: o' :: J) u)
        = some (X h (.cells (mkCells [ii sp, ii st, a]) 64 :: .cells (mkCells [.fn c [] []]) 82 :: .cells (mkCells ((gB (pickY c rows m) m (rows.length * m)).map ii)) 71 :: .cells (mkCells ((gB (pickY c rows m) m (rows.length * m)).map ii)) 71 :: .cells (mkCells [ii sp, ii st, a]) 64 :: .dfr :: o' :: J) (min (h.clock + 2) u)) := fun u => storeE_whole wf sz_71 (by decide) hL hL0 rfl (allOne_map (fun _ => rfl) _)
      (repeat' (first
  | (with_reducible first | refine WC_seq ?_ | refine WC_skip ?_ | refine WC_label ?_ | refine WC_scope ?_ | refine WC_block ?_ | refine WC_ret ?_ | refine WC_exit ?_ | refine seqQ_norm ?_ | refine seqQ_ret ?_ | refine seqQ_exit ?_ | refine blkQ_norm ?_ | refine blkQ_ret ?_ | refine blkQ_here ?_ | refine gateK_yes ?_ | refine gateK_none ?_ | refine condK_tt ?_ | refine condK_ff ?_ | refine roundQ_exit ?_ | refine roundQ_ret ?_)
  | refine WC_region ?_ | refine blkQ_out rfl ?_ | refine WO_nil ?_ | refine WD_nil ?_
  | ((first | refine WD_gate rfl rfl rfl rfl rfl fun K_ hK_ => ?_ | refine WO_gate rfl rfl rfl rfl rfl fun K_ hK_ => ?_); simp only [upd_apply, asB_bool, asB_tup, ↓reduceIte, reduceCtorEq, Nat.reduceEqDiff, Bool.not_true, Bool.not_false]; refine hK_ _ ?_; clear hK_ K_)
  | refine gateK_no (by decide) ?_
  | ((try first | refine WO_op rfl rfl rfl ?_ | refine WO_op0 rfl rfl ?_ | refine WD_op rfl rfl rfl ?_ | refine WD_op0 rfl rfl ?_); (refine WV_gen fun Q_ hQ_ => ?_; simp (disch := first | omega | (simp only [List.length_cons, List.length_nil, List.length_append]; omega)) only [bb, bp, argF, ↓reduceIte, reduceCtorEq, Nat.reduceEqDiff, Nat.reduceLT, Nat.reduceLeDiff, Nat.reduceAdd, Nat.reduceMul, Nat.reduceSub, Nat.reduceBEq, Int.reduceToNat, cond_true, cond_false, eq_self, beq_self_eq_true, hld, hsto]; first | (refine dec_split (Q := Q_) (fun hp_ => ?_) (fun hp_ => ?_) <;> first | (exfalso; omega) | (refine hQ_ _ _ ?_; clear hQ_ Q_)) | (refine dec_splitn (Q := Q_) (fun hp_ => ?_) (fun hp_ => ?_) <;> first | (exfalso; omega) | (refine hQ_ _ _ ?_; clear hQ_ Q_)) | (refine hQ_ _ _ ?_; clear hQ_ Q_)))
  | (refine WC_cond fun K_ hK_ => ?_; simp (disch := omega) only [evT_tmp, upd_apply, WB_some, ↓reduceIte, reduceCtorEq, Nat.reduceEqDiff, Nat.reduceLT]; refine hK_ _ ?_; clear hK_ K_)))
      refine endQ_ret _ _ (takeAll_X wf (k := 5) rfl) (retc0 (by decide) (by simp only [upd_apply, ↓reduceIte, reduceCtorEq, Nat.reduceEqDiff]; exact loadE_whole wf ia_71 sz_71 (by decide) hL rfl)) ?_
      refine WV_flat (flatL_ii _) (by omega) ?_
      exact ⟨rfl, rfl⟩
    · exact hD'.elim
end Go.Proofs.Ytghondkiondeaac
end

/- EvM2 -/
section
/-
  LAYER 2: from hull to hull, until none is beyond the number.
-/
namespace Go.Proofs.Ytghondkiondeaac
open Go.Ev
set_option maxRecDepth 100000
set_option linter.unusedSimpArgs false
set_option linter.unusedVariables false
set_option maxHeartbeats 2000000

/-- A hull that is valid, and a share. -/
structure HOK (g : Nat) (sp st : Int) (rows : List (List (Int × Int))) (m : Nat) : Prop where
  hg : g = 53 ∨ g = 54 ∨ g = 55
  hsp : 1 ≤ sp ∧ sp ≤ 1000
  hst : 1 ≤ st ∧ st ≤ 100
  hn : 2 ≤ rows.length ∧ rows.length ≤ 10
  hm : 2 ≤ m ∧ m ≤ 6
  hoff : ∀ q, q < rows.length * m → isOff (rAt rows m q)
  hpos : ∃ q, q < rows.length * m ∧ 0 < (rAt rows m q).1

theorem nm_le {n m : Nat} (hn : n ≤ 10) (hm : m ≤ 6) : n * m ≤ 60 := by
  have := Nat.mul_le_mul hn hm; omega
theorem idx_inj {n m p q : Nat} (hm : m ≤ 6) (hp : p < n * m) (hq : q < n * m) (h : p / m * 6 + p % m = q / m * 6 + q % m) : p = q := by
  have hm0 : 0 < m := by rcases Nat.eq_zero_or_pos m with rfl | h; · simp at hp
                         · exact h
  have h1 := Nat.mod_lt p hm0
  have h2 := Nat.mod_lt q hm0
  have e1 : p / m = q / m := by omega
  have e2 : p % m = q % m := by omega
  rw [← Nat.div_add_mod p m, ← Nat.div_add_mod q m, e1, e2]
theorem gB_at (Y : Nat → Int) {n m : Nat} (hn : n ≤ 10) (hm : m ≤ 6) : ∀ Q, Q ≤ n * m → ∀ q, q < Q → yat (gB Y m Q) m q = Y q
  | 0, _, q, h => absurd h (Nat.not_lt_zero q)
  | Q + 1, hQ, q, h => by
    obtain ⟨_, _, i3⟩ := place_idx hm hn (show Q < n * m by omega)
    obtain ⟨_, _, j3⟩ := place_idx hm hn (show q < n * m by omega)
    have hlen := gB_length Y m Q
    unfold yat
    simp only [gB]
    by_cases hq : q = Q
    · subst hq
      simp [List.getD, hlen, i3]
    · have hne : q / m * 6 + q % m ≠ Q / m * 6 + Q % m := fun e => hq (idx_inj (n := n) hm (by omega) (by omega) e)
      have := gB_at Y hn hm Q (by omega) q (by omega)
      unfold yat at this
      rw [← this]
      simp [List.getD, List.getElem?_set_ne (Ne.symm hne)]

theorem amx_in {f : Int → Int} {lo : Int} : ∀ {n : Nat}, lo ≤ amx f lo n ∧ amx f lo n ≤ lo + (n : Int) ∧ f (amx f lo n) = mxf f lo n
  | 0 => ⟨Int.le_refl _, by simp [amx], rfl⟩
  | j + 1 => by
    obtain ⟨h1, h2, h3⟩ := amx_in (f := f) (lo := lo) (n := j)
    simp only [amx, mxf]
    split
    · refine ⟨by omega, by omega, ?_⟩
      rw [Int.max_eq_right (by omega)]
    · refine ⟨h1, by omega, ?_⟩
      rw [Int.max_eq_left (by omega), h3]
theorem mxf_ge {f : Int → Int} {lo : Int} : ∀ {n : Nat} {y : Int}, lo ≤ y → y ≤ lo + (n : Int) → f y ≤ mxf f lo n
  | 0, y, h1, h2 => by
    have : y = lo := by omega
    subst this; exact Int.le_refl _
  | j + 1, y, h1, h2 => by
    simp only [mxf]
    by_cases h : y = lo + ((j + 1 : Nat) : Int)
    · subst h; omega
    · have := mxf_ge (f := f) (lo := lo) (n := j) (y := y) h1 (by omega)
      omega

section
variable {g : Nat} {sp st : Int} {rows : List (List (Int × Int))} {m : Nat}

/-- A grid within the ranges. -/
def InG (rows : List (List (Int × Int))) (m : Nat) (gs : List Int) : Prop := gs.length = 60 ∧ ∀ q, q < rows.length * m → (rAt rows m q).1 ≤ yat gs m q ∧ yat gs m q ≤ (rAt rows m q).2
/-- What is divided, and by what. -/
def numG (g : Nat) (sp st : Int) (rows : List (List (Int × Int))) (m : Nat) (gs : List Int) : Int := psum (nuAt g sp st rows.length m gs) (rows.length * m)
def denG (g : Nat) (st : Int) (rows : List (List (Int × Int))) (m : Nat) (gs : List Int) : Int := psum (deAt g st rows.length m gs) (rows.length * m)
def gcdG (g : Nat) (sp st : Int) (rows : List (List (Int × Int))) (m : Nat) (gs : List Int) : Int := (Int.gcd (numG g sp st rows m gs) (denG g st rows m gs) : Int)
def ratN (g : Nat) (sp st : Int) (rows : List (List (Int × Int))) (m : Nat) (gs : List Int) : Int := numG g sp st rows m gs / gcdG g sp st rows m gs
def ratD (g : Nat) (sp st : Int) (rows : List (List (Int × Int))) (m : Nat) (gs : List Int) : Int := denG g st rows m gs / gcdG g sp st rows m gs

theorem InG.y (k : HOK g sp st rows m) {gs : List Int} (hi : InG rows m gs) : ∀ q, q < rows.length * m → 0 ≤ yat gs m q ∧ yat gs m q ≤ 500 := fun q hq => by
  have h1 := hi.2 q hq
  have h2 := k.hoff q hq
  unfold isOff at h2
  omega
theorem terms_in (k : HOK g sp st rows m) {gs : List Int} (hi : InG rows m gs) : ∀ q, q < rows.length * m → (0 ≤ nuAt g sp st rows.length m gs q ∧ nuAt g sp st rows.length m gs q ≤ 1300000000) ∧ 0 ≤ deAt g st rows.length m gs q ∧ deAt g st rows.length m gs q ≤ 600000 := fun q hq => by
  obtain ⟨i1, i2, i3⟩ := place_idx k.hm.2 k.hn.2 hq
  exact numOf_in2 k.hg k.hsp k.hst k.hm.2 (by have := k.hn; omega) i2 (wt2 _ _ _ _) (hi.y k q hq)
theorem numG_in (k : HOK g sp st rows m) {gs : List Int} (hi : InG rows m gs) : 0 ≤ numG g sp st rows m gs ∧ numG g sp st rows m gs ≤ 78000000000 := by
  have := psum_in (b := 1300000000) (fun q hq => (terms_in k hi q hq).1)
  have h2 := nm_le k.hn.2 k.hm.2
  unfold numG; omega
theorem denG_pos (k : HOK g sp st rows m) {gs : List Int} (hi : InG rows m gs) : 0 < denG g st rows m gs ∧ denG g st rows m gs ≤ 36000000 := by
  have h1 := psum_in (b := 600000) (fun q hq => (terms_in k hi q hq).2)
  have h2 := nm_le k.hn.2 k.hm.2
  obtain ⟨q, hq, hp⟩ := k.hpos
  have h3 := hi.2 q hq
  have hw : 1 ≤ W rows.length m q := W_pos (by have := k.hm; omega) hq
  have h4 : 0 < W rows.length m q * yat gs m q := Int.mul_pos (by omega) (by omega)
  refine ⟨psum_pos (q0 := q) (fun q hq => (terms_in k hi q hq).2.1) hq ?_, by unfold denG; omega⟩
  unfold deAt denOf
  have hst := k.hst
  split
  · exact Int.mul_pos (by omega) h4
  · exact h4
theorem gcd_facts {a b : Int} (ha : 0 ≤ a) (hb : 0 < b) : 0 < (Int.gcd a b : Int) ∧ a = a / (Int.gcd a b : Int) * (Int.gcd a b : Int) ∧ b = b / (Int.gcd a b : Int) * (Int.gcd a b : Int) ∧ 0 ≤ a / (Int.gcd a b : Int) ∧ a / (Int.gcd a b : Int) ≤ a ∧ 1 ≤ b / (Int.gcd a b : Int) ∧ b / (Int.gcd a b : Int) ≤ b := by
  have h0 : 0 < (Int.gcd a b : Int) := by
    have : 0 < Int.gcd a b := Int.gcd_pos_of_ne_zero_right _ (by omega)
    omega
  have h1 : a / (Int.gcd a b : Int) * (Int.gcd a b : Int) = a := Int.ediv_mul_cancel (Int.gcd_dvd_left ..)
  have h2 : b / (Int.gcd a b : Int) * (Int.gcd a b : Int) = b := Int.ediv_mul_cancel (Int.gcd_dvd_right ..)
  have h3 : 0 ≤ a / (Int.gcd a b : Int) := Int.ediv_nonneg ha (by omega)
  have h4 : a / (Int.gcd a b : Int) ≤ a := Int.ediv_le_self _ ha
  have h5 : b / (Int.gcd a b : Int) ≤ b := Int.ediv_le_self _ (by omega)
  have h6 : 1 ≤ b / (Int.gcd a b : Int) := by
    rcases Int.lt_or_le 0 (b / (Int.gcd a b : Int)) with h | h
    · omega
    · have : b / (Int.gcd a b : Int) * (Int.gcd a b : Int) ≤ 0 := Int.mul_nonpos_of_nonpos_of_nonneg h (by omega)
      omega
  exact ⟨h0, h1.symm, h2.symm, h3, h4, h6, h5⟩
theorem rat_in (k : HOK g sp st rows m) {gs : List Int} (hi : InG rows m gs) : (0 ≤ ratN g sp st rows m gs ∧ ratN g sp st rows m gs ≤ 78000000000) ∧ 1 ≤ ratD g sp st rows m gs ∧ ratD g sp st rows m gs ≤ 36000000 := by
  have h1 := numG_in k hi
  have h2 := denG_pos k hi
  obtain ⟨a1, a2, a3, a4, a5, a6, a7⟩ := gcd_facts h1.1 h2.1
  unfold ratN ratD gcdG
  omega
theorem rat_num (k : HOK g sp st rows m) {gs : List Int} (hi : InG rows m gs) : 0 < gcdG g sp st rows m gs ∧ numG g sp st rows m gs = ratN g sp st rows m gs * gcdG g sp st rows m gs ∧ denG g st rows m gs = ratD g sp st rows m gs * gcdG g sp st rows m gs := by
  obtain ⟨a1, a2, a3, _⟩ := gcd_facts (numG_in k hi).1 (denG_pos k hi).1
  exact ⟨a1, a2, a3⟩

/-- How far a grid is beyond a number. -/
def farG (g : Nat) (sp st : Int) (rows : List (List (Int × Int))) (m : Nat) (N D : Int) (high : Bool) (gs : List Int) : Int := psum (fun q => fAt g sp st rows.length m N D high q (yat gs m q)) (rows.length * m)
theorem farG_eq (N D : Int) (high : Bool) (gs : List Int) : farG g sp st rows m N D high gs = sgn high (numG g sp st rows m gs * D - denG g st rows m gs * N) := by
  unfold farG numG denG
  have e : ∀ q, fAt g sp st rows.length m N D high q (yat gs m q) = sgn high (D * nuAt g sp st rows.length m gs q + (-N) * deAt g st rows.length m gs q) := fun q => by
    unfold fAt gapOf nuAt deAt W
    congr 1
    grind
  have h : psum (fun q => fAt g sp st rows.length m N D high q (yat gs m q)) (rows.length * m) = psum (fun q => sgn high (D * nuAt g sp st rows.length m gs q + (-N) * deAt g st rows.length m gs q)) (rows.length * m) := psum_congr fun q _ => e q
  rw [h]
  have h2 : ∀ n, psum (fun q => sgn high (D * nuAt g sp st rows.length m gs q + (-N) * deAt g st rows.length m gs q)) n = sgn high (psum (fun q => D * nuAt g sp st rows.length m gs q + (-N) * deAt g st rows.length m gs q) n) := by
    intro n
    induction n with
    | zero => cases high <;> rfl
    | succ n ih =>
      simp only [psum]
      rw [ih]
      cases high
      · simp only [sgn, if_neg (show ¬ (false = true) by decide)]; omega
      · rfl
  rw [h2, psum_add, psum_mul, psum_mul]
  congr 1
  grind
theorem farG_le (k : HOK g sp st rows m) (N D : Int) (high : Bool) {gs : List Int} (hi : InG rows m gs) : farG g sp st rows m N D high gs ≤ psum (bestG g sp st rows m N D high) (rows.length * m) := by
  have key : ∀ n, n ≤ rows.length * m → psum (fun q => fAt g sp st rows.length m N D high q (yat gs m q)) n ≤ psum (bestG g sp st rows m N D high) n := by
    intro n
    induction n with
    | zero => intro _; exact Int.le_refl _
    | succ n ih =>
      intro hn
      have h1 := ih (by omega)
      have h2 := hi.2 n (by omega)
      have h3 : fAt g sp st rows.length m N D high n (yat gs m n) ≤ bestG g sp st rows m N D high n := mxf_ge h2.1 (by unfold wide; omega)
      simp only [psum]
      omega
  exact key _ (Nat.le_refl _)

/-- The next hull. -/
def stepG (g : Nat) (sp st : Int) (rows : List (List (Int × Int))) (m : Nat) (high : Bool) (gs : List Int) : List Int := gB (bestY g sp st rows m (ratN g sp st rows m gs) (ratD g sp st rows m gs) high) m (rows.length * m)
def sumG (g : Nat) (sp st : Int) (rows : List (List (Int × Int))) (m : Nat) (high : Bool) (gs : List Int) : Int := psum (bestG g sp st rows m (ratN g sp st rows m gs) (ratD g sp st rows m gs) high) (rows.length * m)
theorem stepG_in (k : HOK g sp st rows m) (high : Bool) (gs : List Int) : InG rows m (stepG g sp st rows m high gs) := by
  refine ⟨gB_length _ _ _, fun q hq => ?_⟩
  unfold stepG
  rw [gB_at _ k.hn.2 k.hm.2 _ (Nat.le_refl _) q hq]
  obtain ⟨h1, h2, _⟩ := amx_in (f := fAt g sp st rows.length m (ratN g sp st rows m gs) (ratD g sp st rows m gs) high q) (lo := (rAt rows m q).1) (n := wide (rAt rows m q))
  have h3 := k.hoff q hq
  unfold isOff at h3
  unfold bestY
  refine ⟨h1, ?_⟩
  have : ((wide (rAt rows m q) : Nat) : Int) = (rAt rows m q).2 - (rAt rows m q).1 := by unfold wide; omega
  omega
theorem stepG_far (k : HOK g sp st rows m) (high : Bool) (gs : List Int) : farG g sp st rows m (ratN g sp st rows m gs) (ratD g sp st rows m gs) high (stepG g sp st rows m high gs) = sumG g sp st rows m high gs := by
  unfold farG sumG
  refine psum_congr fun q hq => ?_
  unfold stepG
  rw [gB_at _ k.hn.2 k.hm.2 _ (Nat.le_refl _) q hq]
  exact (amx_in (f := fAt g sp st rows.length m (ratN g sp st rows m gs) (ratD g sp st rows m gs) high q)).2.2

/-- A number's height, in steps that are fine enough. -/
def MM : Int := 1296000000000000
theorem MM_eq : MM = 36000000 * 36000000 := by decide
def hgt (g : Nat) (sp st : Int) (rows : List (List (Int × Int))) (m : Nat) (gs : List Int) : Int := ratN g sp st rows m gs * MM / ratD g sp st rows m gs
theorem hgt_lt {N D N' D' : Int} (hN : 0 ≤ N) (hD : 1 ≤ D ∧ D ≤ 36000000) (hD' : 1 ≤ D' ∧ D' ≤ 36000000) (h : N * D' < N' * D) : N * MM / D < N' * MM / D' := by
  have hdd : D * D' ≤ MM := by rw [MM_eq]; exact Int.mul_le_mul hD.2 hD'.2 (by omega) (by omega)
  have hMp : 0 < MM := by decide
  generalize hf : N * MM / D = f
  have h1 : f * D ≤ N * MM := by rw [← hf]; exact Int.ediv_mul_le _ (by omega)
  have h2 : (f + 1) * D' ≤ N' * MM := by
    have h3 : (f + 1) * D' * D ≤ N' * MM * D := by
      have h4 : f * D * D' ≤ N * MM * D' := Int.mul_le_mul_of_nonneg_right h1 (by omega)
      have h5 : N * D' * MM + MM ≤ N' * D * MM := by
        have : (N * D' + 1) * MM ≤ N' * D * MM := Int.mul_le_mul_of_nonneg_right (by omega) (by omega)
        grind
      grind
    exact Int.le_of_mul_le_mul_right h3 (by omega)
  have h3 : f + 1 ≤ N' * MM / D' := Int.le_ediv_of_mul_le (by omega) h2
  omega
def muG (g : Nat) (sp st : Int) (rows : List (List (Int × Int))) (m : Nat) (high : Bool) (gs : List Int) : Nat := if high then (78000000000 * MM - hgt g sp st rows m gs).toNat else (hgt g sp st rows m gs).toNat
theorem hgt_in (k : HOK g sp st rows m) {gs : List Int} (hi : InG rows m gs) : 0 ≤ hgt g sp st rows m gs ∧ hgt g sp st rows m gs ≤ 78000000000 * MM := by
  obtain ⟨h1, h2⟩ := rat_in k hi
  have hMp : 0 < MM := by decide
  have h3 : 0 ≤ ratN g sp st rows m gs * MM := Int.mul_nonneg h1.1 (by omega)
  have h4 : ratN g sp st rows m gs * MM ≤ 78000000000 * MM := Int.mul_le_mul_of_nonneg_right h1.2 (by omega)
  unfold hgt
  refine ⟨Int.ediv_nonneg h3 (by omega), Int.le_trans (Int.ediv_le_self _ h3) h4⟩
theorem muG_lt (k : HOK g sp st rows m) (high : Bool) {gs : List Int} (hi : InG rows m gs) (hs : 0 < sumG g sp st rows m high gs) : muG g sp st rows m high (stepG g sp st rows m high gs) < muG g sp st rows m high gs := by
  have hi' := stepG_in k high gs
  rw [← stepG_far k high gs, farG_eq] at hs
  obtain ⟨g1, g2, g3⟩ := rat_num k hi'
  obtain ⟨r1, r2⟩ := rat_in k hi
  obtain ⟨r3, r4⟩ := rat_in k hi'
  have b1 := hgt_in k hi
  have b2 := hgt_in k hi'
  generalize hgs : stepG g sp st rows m high gs = gs' at *
  rw [g2, g3] at hs
  cases high with
  | true =>
    have h1 : 0 < (ratN g sp st rows m gs' * ratD g sp st rows m gs - ratD g sp st rows m gs' * ratN g sp st rows m gs) * gcdG g sp st rows m gs' := by
      have : sgn true (ratN g sp st rows m gs' * gcdG g sp st rows m gs' * ratD g sp st rows m gs - ratD g sp st rows m gs' * gcdG g sp st rows m gs' * ratN g sp st rows m gs) = (ratN g sp st rows m gs' * ratD g sp st rows m gs - ratD g sp st rows m gs' * ratN g sp st rows m gs) * gcdG g sp st rows m gs' := by
        simp only [sgn, ↓reduceIte]; grind
      rw [← this]; exact hs
    have h2 : 0 < ratN g sp st rows m gs' * ratD g sp st rows m gs - ratD g sp st rows m gs' * ratN g sp st rows m gs := Int.pos_of_mul_pos_left h1 (by omega)
    have h3 : ratN g sp st rows m gs * ratD g sp st rows m gs' < ratN g sp st rows m gs' * ratD g sp st rows m gs := by
      have e := Int.mul_comm (ratD g sp st rows m gs') (ratN g sp st rows m gs)
      omega
    have h4 := hgt_lt r1.1 r2 r4 h3
    unfold muG
    simp only [↓reduceIte]
    unfold hgt at *
    omega
  | false =>
    have h1 : 0 < (ratD g sp st rows m gs' * ratN g sp st rows m gs - ratN g sp st rows m gs' * ratD g sp st rows m gs) * gcdG g sp st rows m gs' := by
      have : sgn false (ratN g sp st rows m gs' * gcdG g sp st rows m gs' * ratD g sp st rows m gs - ratD g sp st rows m gs' * gcdG g sp st rows m gs' * ratN g sp st rows m gs) = (ratD g sp st rows m gs' * ratN g sp st rows m gs - ratN g sp st rows m gs' * ratD g sp st rows m gs) * gcdG g sp st rows m gs' := by
        simp only [sgn, Bool.false_eq_true, ↓reduceIte]; grind
      rw [← this]; exact hs
    have h2 : 0 < ratD g sp st rows m gs' * ratN g sp st rows m gs - ratN g sp st rows m gs' * ratD g sp st rows m gs := Int.pos_of_mul_pos_left h1 (by omega)
    have h3 : ratN g sp st rows m gs' * ratD g sp st rows m gs < ratN g sp st rows m gs * ratD g sp st rows m gs' := by
      have e := Int.mul_comm (ratD g sp st rows m gs') (ratN g sp st rows m gs)
      omega
    have h4 := hgt_lt r3.1 r4 r2 h3
    unfold muG
    simp only [Bool.false_eq_true, ↓reduceIte]
    unfold hgt at *
    omega

def endF (g : Nat) (sp st : Int) (rows : List (List (Int × Int))) (m : Nat) (high : Bool) : Nat → List Int → List Int
  | 0, gs => gs
  | k + 1, gs => if 0 < sumG g sp st rows m high gs then endF g sp st rows m high k (stepG g sp st rows m high gs) else gs
theorem endF_more (k : HOK g sp st rows m) (high : Bool) : ∀ (M : Nat) {gs : List Int}, InG rows m gs → muG g sp st rows m high gs ≤ M → ∀ d, endF g sp st rows m high (M + d) gs = endF g sp st rows m high M gs
  | 0, gs, hi, hM, d => by
    cases d with
    | zero => rfl
    | succ d =>
      show (if 0 < sumG g sp st rows m high gs then _ else gs) = gs
      rw [if_neg (fun hs => by have := muG_lt k high hi hs; omega)]
  | M + 1, gs, hi, hM, d => by
    rw [Nat.succ_add]
    show (if 0 < sumG g sp st rows m high gs then _ else gs) = (if 0 < sumG g sp st rows m high gs then _ else gs)
    by_cases hs : 0 < sumG g sp st rows m high gs
    · rw [if_pos hs, if_pos hs]
      exact endF_more k high M (stepG_in k high gs) (by have := muG_lt k high hi hs; omega) d
    · rw [if_neg hs, if_neg hs]
/-- The hull at the end. -/
def endG (g : Nat) (sp st : Int) (rows : List (List (Int × Int))) (m : Nat) (high : Bool) (gs : List Int) : List Int := endF g sp st rows m high (muG g sp st rows m high gs) gs
theorem endG_stop (high : Bool) {gs : List Int} (hs : ¬ 0 < sumG g sp st rows m high gs) : endG g sp st rows m high gs = gs := by
  unfold endG
  cases muG g sp st rows m high gs with
  | zero => rfl
  | succ n => show (if 0 < sumG g sp st rows m high gs then _ else gs) = gs; rw [if_neg hs]
theorem endG_step (k : HOK g sp st rows m) (high : Bool) {gs : List Int} (hi : InG rows m gs) (hs : 0 < sumG g sp st rows m high gs) : endG g sp st rows m high gs = endG g sp st rows m high (stepG g sp st rows m high gs) := by
  have h1 := muG_lt k high hi hs
  unfold endG
  obtain ⟨d, hd⟩ : ∃ d, muG g sp st rows m high gs = muG g sp st rows m high (stepG g sp st rows m high gs) + d + 1 := ⟨muG g sp st rows m high gs - muG g sp st rows m high (stepG g sp st rows m high gs) - 1, by omega⟩
  rw [hd]
  show (if 0 < sumG g sp st rows m high gs then _ else gs) = _
  rw [if_pos hs]
  exact endF_more k high _ (stepG_in k high gs) (Nat.le_refl _) d
theorem endG_ok (k : HOK g sp st rows m) (high : Bool) : ∀ (M : Nat) {gs : List Int}, InG rows m gs → muG g sp st rows m high gs ≤ M → InG rows m (endG g sp st rows m high gs) ∧ sumG g sp st rows m high (endG g sp st rows m high gs) ≤ 0
  | M, gs, hi, hM => by
    by_cases hs : 0 < sumG g sp st rows m high gs
    · rw [endG_step k high hi hs]
      have := muG_lt k high hi hs
      cases M with
      | zero => omega
      | succ M => exact endG_ok k high M (stepG_in k high gs) (by omega)
    · rw [endG_stop high hs]
      exact ⟨hi, by omega⟩
end
end Go.Proofs.Ytghondkiondeaac
end

/- EvM3 -/
section
/-
  LAYER 2: the end, and the span, as the package answers them.
-/
namespace Go.Proofs.Ytghondkiondeaac
open Go.Ev
set_option maxRecDepth 100000
set_option linter.unusedSimpArgs false
set_option linter.unusedVariables false
set_option maxHeartbeats 2000000

theorem tEvM3 : type_of% (And.intro (And.intro (And.intro (And.intro (@bs_39) (And.intro (@bs_64) (@ia_2))) (And.intro (And.intro (@sz_2) (@ze_2)) (And.intro (@ia_3) (@sz_3)))) (And.intro (And.intro (And.intro (@ia_4) (@sz_4)) (And.intro (@ia_24) (@sz_24))) (And.intro (And.intro (@ia_64) (@sz_64)) (And.intro (@ze_64) (@ia_66))))) (And.intro (And.intro (And.intro (@sz_66) (And.intro (@ia_26) (@sz_26))) (And.intro (And.intro (@ze_26) (@ia_39)) (And.intro (@sz_39) (@ze_39)))) (And.intro (And.intro (And.intro (@ia_71) (@sz_71)) (And.intro (@ze_71) (@pb_28))) (And.intro (And.intro (@pb_30) (@pb_37)) (And.intro (@pb_41) (@pb_42)))))) := And.intro (And.intro (And.intro (And.intro (@bs_39) (And.intro (@bs_64) (@ia_2))) (And.intro (And.intro (@sz_2) (@ze_2)) (And.intro (@ia_3) (@sz_3)))) (And.intro (And.intro (And.intro (@ia_4) (@sz_4)) (And.intro (@ia_24) (@sz_24))) (And.intro (And.intro (@ia_64) (@sz_64)) (And.intro (@ze_64) (@ia_66))))) (And.intro (And.intro (And.intro (@sz_66) (And.intro (@ia_26) (@sz_26))) (And.intro (And.intro (@ze_26) (@ia_39)) (And.intro (@sz_39) (@ze_39)))) (And.intro (And.intro (And.intro (@ia_71) (@sz_71)) (And.intro (@ze_71) (@pb_28))) (And.intro (And.intro (@pb_30) (@pb_37)) (And.intro (@pb_41) (@pb_42)))))
/-- A grid's cells. -/
structure Big (G : List Int) : Prop where
  len : (G.map ii).length = 60
  take : (G.map ii).take 60 = G.map ii
  all : ∀ id off (h : H), storeAll id off (G.map ii) h = writeCells id off (G.map ii) h
  over : ∀ (old : List AV) e, old.length = 60 → writeAt (some (.cells (mkCells old) e)) 0 (G.map ii) = some (.cells (mkCells (G.map ii)) e)
theorem big {G : List Int} (hG : G.length = 60) : Big G := by
  have hl : (G.map ii).length = 60 := by rw [List.length_map, hG]
  refine ⟨hl, List.take_of_length_le (by omega), fun id off h => storeAll_many (by omega), fun old e ho => ?_⟩
  have h1 : allOne (G.map ii) = true := allOne_map (fun _ => rfl) _
  generalize G.map ii = cs at *
  cases cs with
  | nil => simp at hl
  | cons v vs =>
    rw [writeAt_cells, h1]
    show (if 0 + (v :: vs).length ≤ old.length then some _ else none) = _
    rw [if_pos (by omega), splice_all (by omega)]
theorem Big.zero {G : List Int} (b : Big G) (e : TypeId) : writeAt (some (.cells (mkCells [ii 0, ii 0, ii 0, ii 0, ii 0, ii 0, ii 0, ii 0, ii 0, ii 0, ii 0, ii 0, ii 0, ii 0, ii 0, ii 0, ii 0, ii 0, ii 0, ii 0, ii 0, ii 0, ii 0, ii 0, ii 0, ii 0, ii 0, ii 0, ii 0, ii 0, ii 0, ii 0, ii 0, ii 0, ii 0, ii 0, ii 0, ii 0, ii 0, ii 0, ii 0, ii 0, ii 0, ii 0, ii 0, ii 0, ii 0, ii 0, ii 0, ii 0, ii 0, ii 0, ii 0, ii 0, ii 0, ii 0, ii 0, ii 0, ii 0, ii 0]) e)) 0 (G.map ii) = some (.cells (mkCells (G.map ii)) e) := b.over _ e rfl
theorem Big.over' {G G' : List Int} (b : Big G) (b' : Big G') (e : TypeId) : writeAt (some (.cells (mkCells (G'.map ii)) e)) 0 (G.map ii) = some (.cells (mkCells (G.map ii)) e) := b.over _ e b'.len

theorem retcc {h : H} {P : Program} {a t b u : Nat} {f : TF} {v x : AV} (ha : a < 384) (hb : b < 384) (hl : loadE P t (f a) h = some v) (hu : loadE P u (f b) h = some x) : retE P [.cell a t, .cell b u] (mkM f) h = .ok (.tup [v, x]) h := by
  simp only [retE, resultsE, resultE, get_mkM _ _ ha, get_mkM _ _ hb, hl, hu]

def grid0 (rows : List (List (Int × Int))) (m : Nat) : List Int := gB (pickY 56 rows m) m (rows.length * m)
theorem grid0_in {g : Nat} {sp st : Int} {rows : List (List (Int × Int))} {m : Nat} (k : HOK g sp st rows m) : InG rows m (grid0 rows m) := by
  refine ⟨gB_length _ _ _, fun q hq => ?_⟩
  unfold grid0
  rw [gB_at _ k.hn.2 k.hm.2 _ (Nat.le_refl _) q hq]
  have := k.hoff q hq
  unfold isOff at this
  unfold pickY pickOf
  rw [if_neg (by decide)]
  omega
/-- The hull at the end, from the lowest one on. -/
def theEnd (g : Nat) (sp st : Int) (rows : List (List (Int × Int))) (m : Nat) (high : Bool) : List Int := endG g sp st rows m high (grid0 rows m)
def ratio (g : Nat) (sp st : Int) (rows : List (List (Int × Int))) (m : Nat) (gs : List Int) : AV := .agg [ii (ratN g sp st rows m gs), ii (ratD g sp st rows m gs)]

theorem endC {g : Nat} {sp st : Int} {rows : List (List (Int × Int))} {m : Nat} (k : HOK g sp st rows m) (high : Bool) (a : AV) (rvs : List AV) (h : H) (x : HullAt h a rvs rows m) :
    (om Try.prog KK).call (.fn 42 [.agg [ii sp, ii st, a], .fn g [.agg [ii sp, ii st, a]] [], .bool high]) h = .ok (.tup [.agg ((theEnd g sp st rows m high).map ii), ratio g sp st rows m (theEnd g sp st rows m high)]) h := by
  have wf := x.wf
  have hnu : ∀ gs, InG rows m gs → ∀ l w, w ≤ h.clock + l.length → (om Try.prog KK).call (.fn 41 [.agg [ii sp, ii st, a], .fn g [.agg [ii sp, ii st, a]] [], .agg (gs.map ii)]) (X h l w) = .ok (.agg [ii (ratN g sp st rows m gs), ii (ratD g sp st rows m gs)]) (X h l w) := fun gs hi l w hw => by
    rw [number k.hg sp st k.hsp k.hst a rvs rows m k.hn k.hm gs hi.1 (hi.y k) _ (x.up l w hw) (denG_pos k hi).1]; rfl
  have hfa : ∀ gs, InG rows m gs → ∀ l w, w ≤ h.clock + l.length → (om Try.prog KK).call (.fn 30 [.agg [ii sp, ii st, a], .fn g [.agg [ii sp, ii st, a]] [], .agg [ii (ratN g sp st rows m gs), ii (ratD g sp st rows m gs)], .bool high]) (X h l w) = .ok (.tup [.agg ((stepG g sp st rows m high gs).map ii), ii (sumG g sp st rows m high gs)]) (X h l w) := fun gs hi l w hw => by
    obtain ⟨r1, r2⟩ := rat_in k hi
    rw [farthest k.hg sp st k.hsp k.hst a rvs rows m k.hn k.hm _ _ ⟨r1.1, by omega⟩ ⟨r2.1, by omega⟩ high k.hoff _ (x.up l w hw)]; rfl
  have hbu : ∀ l w, w ≤ h.clock + l.length → (om Try.prog KK).call (.fn 37 [.agg [ii sp, ii st, a], .fn 56 [] []]) (X h l w) = .ok (.agg ((grid0 rows m).map ii)) (X h l w) := fun l w hw => built (.inl rfl) sp st a rvs rows m k.hn k.hm _ (x.up l w hw)
  have hi0 := grid0_in k
  have b0 := big hi0.1
  have hnu0 := hnu _ hi0
  refine WV_to (WV_call (fn := Try.f42) Try.func42 rfl rfl rfl rfl rfl ?_)
  simp only [argF]
  (repeat' (first
  | (with_reducible first | refine WC_seq ?_ | refine WC_skip ?_ | refine WC_label ?_ | refine WC_scope ?_ | refine WC_block ?_ | refine WC_ret ?_ | refine WC_exit ?_ | refine seqQ_norm ?_ | refine seqQ_ret ?_ | refine seqQ_exit ?_ | refine blkQ_norm ?_ | refine blkQ_ret ?_ | refine blkQ_here ?_ | refine gateK_yes ?_ | refine gateK_none ?_ | refine condK_tt ?_ | refine condK_ff ?_ | refine roundQ_exit ?_ | refine roundQ_ret ?_)
  | refine WC_region ?_ | refine blkQ_out rfl ?_ | refine WO_nil ?_ | refine WD_nil ?_
  | ((first | refine WD_gate rfl rfl rfl rfl rfl fun K_ hK_ => ?_ | refine WO_gate rfl rfl rfl rfl rfl fun K_ hK_ => ?_); simp only [upd_apply, asB_bool, asB_tup, ↓reduceIte, reduceCtorEq, Nat.reduceEqDiff, Bool.not_true, Bool.not_false]; refine hK_ _ ?_; clear hK_ K_)
  | refine gateK_no (by decide) ?_
  | ((try first | refine WO_op rfl rfl rfl ?_ | refine WO_op0 rfl rfl ?_ | refine WD_op rfl rfl rfl ?_ | refine WD_op0 rfl rfl ?_); (refine WV_gen fun Q_ hQ_ => ?_; simp (disch := first | omega | (simp only [List.length_cons, List.length_nil, List.length_append]; omega)) only [bb, bp, argF, ↓reduceIte, reduceCtorEq, Nat.reduceEqDiff, Nat.reduceLT, Nat.reduceLeDiff, Nat.reduceAdd, Nat.reduceMul, Nat.reduceSub, Nat.reduceBEq, Int.reduceToNat, cond_true, cond_false, eq_self, beq_self_eq_true, hbu, hnu0, b0.len, b0.take, b0.all, b0.zero, newPtr_X wf, load1_X wf, loadAgg_X wf, store1_X wf, writeCells_X wf, makeFunc_def, tEvM3]; first | (refine dec_split (Q := Q_) (fun hp_ => ?_) (fun hp_ => ?_) <;> first | (exfalso; omega) | (refine hQ_ _ _ ?_; clear hQ_ Q_)) | (refine dec_splitn (Q := Q_) (fun hp_ => ?_) (fun hp_ => ?_) <;> first | (exfalso; omega) | (refine hQ_ _ _ ?_; clear hQ_ Q_)) | (refine hQ_ _ _ ?_; clear hQ_ Q_)))
  | (refine WC_cond fun K_ hK_ => ?_; simp (disch := omega) only [evT_tmp, upd_apply, WB_some, ↓reduceIte, reduceCtorEq, Nat.reduceEqDiff, Nat.reduceLT]; refine hK_ _ ?_; clear hK_ K_)))
  refine WC_loop (fun (gs : List Int) f d h' => InG rows m gs ∧ endG g sp st rows m high gs = theEnd g sp st rows m high ∧ f 1 = .fn g [.agg [ii sp, ii st, a]] [] ∧ f 2 = .bool high ∧ f 3 = .ptr (nx h 0) 0 ∧ f 6 = .ptr (nx h 1) 0 ∧ f 7 = .ptr (nx h 2) 0 ∧ f 8 = .ptr (nx h 3) 0 ∧ f 9 = .ptr (nx h 4) 0 ∧ d = [] ∧
    ∃ J, h' = X h (.cells (mkCells [ii sp, ii st, a]) 64 :: .cells (mkCells ((List.replicate 60 (0 : Int)).map ii)) 71 :: .cells (mkCells [ii 0, ii 0]) 26 :: .cells (mkCells (gs.map ii)) 71 :: .cells (mkCells [ii (ratN g sp st rows m gs), ii (ratD g sp st rows m gs)]) 26 :: J) h.clock)
    (fun gs => muG g sp st rows m high gs) ?_ (muG g sp st rows m high (grid0 rows m) + 1) (grid0 rows m) (Nat.lt_succ_self _) ?_
  · rintro gs f d h' ⟨hi, hend, g1, g2, g3, g6, g7, g8, g9, rfl, J, rfl⟩
    have hfg := hfa gs hi
    have hi' := stepG_in k high gs
    have hng := hnu _ hi'
    have bg := big hi.1
    have bs := big hi'.1
    have bz : Big (List.replicate 60 (0 : Int)) := big (by simp)
    by_cases hs : 0 < sumG g sp st rows m high gs
    · (repeat' (first
  | (with_reducible first | refine WC_seq ?_ | refine WC_skip ?_ | refine WC_label ?_ | refine WC_scope ?_ | refine WC_block ?_ | refine WC_ret ?_ | refine WC_exit ?_ | refine seqQ_norm ?_ | refine seqQ_ret ?_ | refine seqQ_exit ?_ | refine blkQ_norm ?_ | refine blkQ_ret ?_ | refine blkQ_here ?_ | refine gateK_yes ?_ | refine gateK_none ?_ | refine condK_tt ?_ | refine condK_ff ?_ | refine roundQ_exit ?_ | refine roundQ_ret ?_)
  | refine WC_region ?_ | refine blkQ_out rfl ?_ | refine WO_nil ?_ | refine WD_nil ?_
  | ((first | refine WD_gate rfl rfl rfl rfl rfl fun K_ hK_ => ?_ | refine WO_gate rfl rfl rfl rfl rfl fun K_ hK_ => ?_); simp only [upd_apply, asB_bool, asB_tup, ↓reduceIte, reduceCtorEq, Nat.reduceEqDiff, Bool.not_true, Bool.not_false]; refine hK_ _ ?_; clear hK_ K_)
  | refine gateK_no (by decide) ?_
  | ((try first | refine WO_op rfl rfl rfl ?_ | refine WO_op0 rfl rfl ?_ | refine WD_op rfl rfl rfl ?_ | refine WD_op0 rfl rfl ?_); (refine WV_gen fun Q_ hQ_ => ?_; simp (disch := first | omega | (simp only [List.length_cons, List.length_nil, List.length_append]; omega)) only [bb, bp, argF, ↓reduceIte, reduceCtorEq, Nat.reduceEqDiff, Nat.reduceLT, Nat.reduceLeDiff, Nat.reduceAdd, Nat.reduceMul, Nat.reduceSub, Nat.reduceBEq, Int.reduceToNat, cond_true, cond_false, eq_self, beq_self_eq_true, g1, g2, g3, g6, g7, g8, g9, hfg, hng, bg.len, bg.take, bs.len, bs.take, bs.all, bs.zero, bs.over' bg, newPtr_X wf, load1_X wf, loadAgg_X wf, store1_X wf, writeCells_X wf, makeFunc_def, tEvM3]; first | (refine dec_split (Q := Q_) (fun hp_ => ?_) (fun hp_ => ?_) <;> first | (exfalso; omega) | (refine hQ_ _ _ ?_; clear hQ_ Q_)) | (refine dec_splitn (Q := Q_) (fun hp_ => ?_) (fun hp_ => ?_) <;> first | (exfalso; omega) | (refine hQ_ _ _ ?_; clear hQ_ Q_)) | (refine hQ_ _ _ ?_; clear hQ_ Q_)))
  | (refine WC_cond fun K_ hK_ => ?_; simp (disch := omega) only [evT_tmp, upd_apply, WB_some, ↓reduceIte, reduceCtorEq, Nat.reduceEqDiff, Nat.reduceLT]; refine hK_ _ ?_; clear hK_ K_)))
      refine roundQ_again (stepG g sp st rows m high gs) (muG_lt k high hi hs) ⟨hi', by rw [← endG_step k high hi hs]; exact hend, by simp only [upd_apply, ↓reduceIte, reduceCtorEq, Nat.reduceEqDiff]; exact g1, by simp only [upd_apply, ↓reduceIte, reduceCtorEq, Nat.reduceEqDiff]; exact g2, by simp only [upd_apply, ↓reduceIte, reduceCtorEq, Nat.reduceEqDiff]; exact g3, by simp only [upd_apply, ↓reduceIte, reduceCtorEq, Nat.reduceEqDiff]; exact g6, by simp only [upd_apply, ↓reduceIte, reduceCtorEq, Nat.reduceEqDiff]; exact g7, by simp only [upd_apply, ↓reduceIte, reduceCtorEq, Nat.reduceEqDiff]; exact g8, by simp only [upd_apply, ↓reduceIte, reduceCtorEq, Nat.reduceEqDiff]; exact g9, rfl, J ++ [.cells (mkCells ((stepG g sp st rows m high gs).map ii)) 71], ?_⟩
      have hmk : ∀ (L : List AO) (w w' : Nat), w = w' → X h L w = X h L w' := fun L w w' e => by rw [e]
      exact hmk _ _ _ (by omega)
    · have he : gs = theEnd g sp st rows m high := by rw [← hend, endG_stop high hs]
      subst he
      (repeat' (first
  | (with_reducible first | refine WC_seq ?_ | refine WC_skip ?_ | refine WC_label ?_ | refine WC_scope ?_ | refine WC_block ?_ | refine WC_ret ?_ | refine WC_exit ?_ | refine seqQ_norm ?_ | refine seqQ_ret ?_ | refine seqQ_exit ?_ | refine blkQ_norm ?_ | refine blkQ_ret ?_ | refine blkQ_here ?_ | refine gateK_yes ?_ | refine gateK_none ?_ | refine condK_tt ?_ | refine condK_ff ?_ | refine roundQ_exit ?_ | refine roundQ_ret ?_)
  | refine WC_region ?_ | refine blkQ_out rfl ?_ | refine WO_nil ?_ | refine WD_nil ?_
  | ((first | refine WD_gate rfl rfl rfl rfl rfl fun K_ hK_ => ?_ | refine WO_gate rfl rfl rfl rfl rfl fun K_ hK_ => ?_); simp only [upd_apply, asB_bool, asB_tup, ↓reduceIte, reduceCtorEq, Nat.reduceEqDiff, Bool.not_true, Bool.not_false]; refine hK_ _ ?_; clear hK_ K_)
  | refine gateK_no (by decide) ?_
  | ((try first | refine WO_op rfl rfl rfl ?_ | refine WO_op0 rfl rfl ?_ | refine WD_op rfl rfl rfl ?_ | refine WD_op0 rfl rfl ?_); (refine WV_gen fun Q_ hQ_ => ?_; simp (disch := first | omega | (simp only [List.length_cons, List.length_nil, List.length_append]; omega)) only [bb, bp, argF, ↓reduceIte, reduceCtorEq, Nat.reduceEqDiff, Nat.reduceLT, Nat.reduceLeDiff, Nat.reduceAdd, Nat.reduceMul, Nat.reduceSub, Nat.reduceBEq, Int.reduceToNat, cond_true, cond_false, eq_self, beq_self_eq_true, g1, g2, g3, g6, g7, g8, g9, hfg, bg.len, bg.take, bs.len, bs.take, bs.all, bs.zero, newPtr_X wf, load1_X wf, loadAgg_X wf, store1_X wf, writeCells_X wf, makeFunc_def, tEvM3]; first | (refine dec_split (Q := Q_) (fun hp_ => ?_) (fun hp_ => ?_) <;> first | (exfalso; omega) | (refine hQ_ _ _ ?_; clear hQ_ Q_)) | (refine dec_splitn (Q := Q_) (fun hp_ => ?_) (fun hp_ => ?_) <;> first | (exfalso; omega) | (refine hQ_ _ _ ?_; clear hQ_ Q_)) | (refine hQ_ _ _ ?_; clear hQ_ Q_)))
  | (refine WC_cond fun K_ hK_ => ?_; simp (disch := omega) only [evT_tmp, upd_apply, WB_some, ↓reduceIte, reduceCtorEq, Nat.reduceEqDiff, Nat.reduceLT]; refine hK_ _ ?_; clear hK_ K_)))
      generalize theEnd g sp st rows m high = gs at *
      refine WC_drawnB [.no, .no, .soft [9], .full] (by kernel_rfl) ?_
      (repeat' (first
  | (with_reducible first | refine WC_seq ?_ | refine WC_skip ?_ | refine WC_label ?_ | refine WC_scope ?_ | refine WC_block ?_ | refine WC_ret ?_ | refine WC_exit ?_ | refine seqQ_norm ?_ | refine seqQ_ret ?_ | refine seqQ_exit ?_ | refine blkQ_norm ?_ | refine blkQ_ret ?_ | refine blkQ_here ?_ | refine gateK_yes ?_ | refine gateK_none ?_ | refine condK_tt ?_ | refine condK_ff ?_ | refine roundQ_exit ?_ | refine roundQ_ret ?_)
  | refine WC_region ?_ | refine blkQ_out rfl ?_ | refine WO_nil ?_ | refine WD_nil ?_
  | ((first | refine WD_gate rfl rfl rfl rfl rfl fun K_ hK_ => ?_ | refine WO_gate rfl rfl rfl rfl rfl fun K_ hK_ => ?_); simp only [upd_apply, asB_bool, asB_tup, ↓reduceIte, reduceCtorEq, Nat.reduceEqDiff, Bool.not_true, Bool.not_false]; refine hK_ _ ?_; clear hK_ K_)
  | refine gateK_no (by decide) ?_
  | ((try first | refine WO_op rfl rfl rfl ?_ | refine WO_op0 rfl rfl ?_ | refine WD_op rfl rfl rfl ?_ | refine WD_op0 rfl rfl ?_); (refine WV_gen fun Q_ hQ_ => ?_; simp (disch := first | omega | (simp only [List.length_cons, List.length_nil, List.length_append]; omega)) only [bb, bp, argF, ↓reduceIte, reduceCtorEq, Nat.reduceEqDiff, Nat.reduceLT, Nat.reduceLeDiff, Nat.reduceAdd, Nat.reduceMul, Nat.reduceSub, Nat.reduceBEq, Int.reduceToNat, cond_true, cond_false, eq_self, beq_self_eq_true, g1, g2, g3, g6, g7, g8, g9, bg.len, bg.take, newPtr_X wf, load1_X wf, loadAgg_X wf, store1_X wf, writeCells_X wf, makeFunc_def, tEvM3]; first | (refine dec_split (Q := Q_) (fun hp_ => ?_) (fun hp_ => ?_) <;> first | (exfalso; omega) | (refine hQ_ _ _ ?_; clear hQ_ Q_)) | (refine dec_splitn (Q := Q_) (fun hp_ => ?_) (fun hp_ => ?_) <;> first | (exfalso; omega) | (refine hQ_ _ _ ?_; clear hQ_ Q_)) | (refine hQ_ _ _ ?_; clear hQ_ Q_)))
  | (refine WC_cond fun K_ hK_ => ?_; simp (disch := omega) only [evT_tmp, upd_apply, WB_some, ↓reduceIte, reduceCtorEq, Nat.reduceEqDiff, Nat.reduceLT]; refine hK_ _ ?_; clear hK_ K_)))
      refine WD_op0 rfl rfl (WV_soft (v := .tup []) (by
        rw [x_store, evT_tmp (by decide), on1_ok, evT_tmp (by decide), on1_ok]
        simp only [upd_apply, ↓reduceIte, reduceCtorEq, Nat.reduceEqDiff, g6]
        rw [marked_X, storeE_whole wf sz_71 (by decide) bg.len bz.len rfl (allOne_map (fun _ => rfl) _)]
        rfl) (barOk_store1 (by simp only [upd_apply, ↓reduceIte, reduceCtorEq, Nat.reduceEqDiff]; exact g6) (by simp only [upd_apply, ↓reduceIte, reduceCtorEq, Nat.reduceEqDiff]; exact g9) (nx_ne (by decide)) (by decide) (by decide)) ?_)
      (repeat' (first
  | (with_reducible first | refine WC_seq ?_ | refine WC_skip ?_ | refine WC_label ?_ | refine WC_scope ?_ | refine WC_block ?_ | refine WC_ret ?_ | refine WC_exit ?_ | refine seqQ_norm ?_ | refine seqQ_ret ?_ | refine seqQ_exit ?_ | refine blkQ_norm ?_ | refine blkQ_ret ?_ | refine blkQ_here ?_ | refine gateK_yes ?_ | refine gateK_none ?_ | refine condK_tt ?_ | refine condK_ff ?_ | refine roundQ_exit ?_ | refine roundQ_ret ?_)
  | refine WC_region ?_ | refine blkQ_out rfl ?_ | refine WO_nil ?_ | refine WD_nil ?_
  | ((first | refine WD_gate rfl rfl rfl rfl rfl fun K_ hK_ => ?_ | refine WO_gate rfl rfl rfl rfl rfl fun K_ hK_ => ?_); simp only [upd_apply, asB_bool, asB_tup, ↓reduceIte, reduceCtorEq, Nat.reduceEqDiff, Bool.not_true, Bool.not_false]; refine hK_ _ ?_; clear hK_ K_)
  | refine gateK_no (by decide) ?_
  | ((try first | refine WO_op rfl rfl rfl ?_ | refine WO_op0 rfl rfl ?_ | refine WD_op rfl rfl rfl ?_ | refine WD_op0 rfl rfl ?_); (refine WV_gen fun Q_ hQ_ => ?_; simp (disch := first | omega | (simp only [List.length_cons, List.length_nil, List.length_append]; omega)) only [bb, bp, argF, ↓reduceIte, reduceCtorEq, Nat.reduceEqDiff, Nat.reduceLT, Nat.reduceLeDiff, Nat.reduceAdd, Nat.reduceMul, Nat.reduceSub, Nat.reduceBEq, Int.reduceToNat, cond_true, cond_false, eq_self, beq_self_eq_true, g1, g2, g3, g6, g7, g8, g9, newPtr_X wf, load1_X wf, loadAgg_X wf, store1_X wf, writeCells_X wf, makeFunc_def, tEvM3]; first | (refine dec_split (Q := Q_) (fun hp_ => ?_) (fun hp_ => ?_) <;> first | (exfalso; omega) | (refine hQ_ _ _ ?_; clear hQ_ Q_)) | (refine dec_splitn (Q := Q_) (fun hp_ => ?_) (fun hp_ => ?_) <;> first | (exfalso; omega) | (refine hQ_ _ _ ?_; clear hQ_ Q_)) | (refine hQ_ _ _ ?_; clear hQ_ Q_)))
  | (refine WC_cond fun K_ hK_ => ?_; simp (disch := omega) only [evT_tmp, upd_apply, WB_some, ↓reduceIte, reduceCtorEq, Nat.reduceEqDiff, Nat.reduceLT]; refine hK_ _ ?_; clear hK_ K_)))
      refine endQ_ret _ _ rfl (retcc (by decide) (by decide) (by simp only [upd_apply, ↓reduceIte, reduceCtorEq, Nat.reduceEqDiff]; rw [g6]; exact loadE_whole wf ia_71 sz_71 (by decide) bg.len rfl) (by simp (disch := first | omega | (simp only [List.length_cons, List.length_nil, List.length_append]; omega)) only [bb, bp, argF, ↓reduceIte, reduceCtorEq, Nat.reduceEqDiff, Nat.reduceLT, Nat.reduceLeDiff, Nat.reduceAdd, Nat.reduceMul, Nat.reduceSub, Nat.reduceBEq, Int.reduceToNat, cond_true, cond_false, eq_self, beq_self_eq_true, g7, loadAgg_X wf, tEvM3]; rfl)) ?_
      refine WV_flat ?_ (by omega) ?_
      · show (bif flatL (gs.map ii) then _ else false) = true
        rw [flatL_ii]; rfl
      · exact ⟨rfl, rfl⟩
  · refine ⟨hi0, rfl, by simp only [upd_apply, ↓reduceIte, reduceCtorEq, Nat.reduceEqDiff], by simp only [upd_apply, ↓reduceIte, reduceCtorEq, Nat.reduceEqDiff], by simp only [upd_apply, ↓reduceIte, reduceCtorEq, Nat.reduceEqDiff], by simp only [upd_apply, ↓reduceIte, reduceCtorEq, Nat.reduceEqDiff], by simp only [upd_apply, ↓reduceIte, reduceCtorEq, Nat.reduceEqDiff], by simp only [upd_apply, ↓reduceIte, reduceCtorEq, Nat.reduceEqDiff], by simp only [upd_apply, ↓reduceIte, reduceCtorEq, Nat.reduceEqDiff], rfl, [], ?_⟩
    congr 1
end Go.Proofs.Ytghondkiondeaac
end

/- EvM4 -/
section
/-
  LAYER 2: spans, as the package answers them.
-/
namespace Go.Proofs.Ytghondkiondeaac
open Go.Ev
set_option maxRecDepth 100000
set_option linter.unusedSimpArgs false
set_option linter.unusedVariables false
set_option maxHeartbeats 2000000

theorem tEvM4 : type_of% (And.intro (And.intro (And.intro (And.intro (And.intro (@bs_39) (@bs_64)) (And.intro (@ia_2) (@sz_2))) (And.intro (And.intro (@ze_2) (@ia_3)) (And.intro (@sz_3) (@ia_4)))) (And.intro (And.intro (And.intro (@sz_4) (@ia_24)) (And.intro (@sz_24) (@ia_64))) (And.intro (And.intro (@sz_64) (@ze_64)) (And.intro (@ia_66) (And.intro (@sz_66) (@ia_26)))))) (And.intro (And.intro (And.intro (And.intro (@sz_26) (@ze_26)) (And.intro (@ia_39) (@sz_39))) (And.intro (And.intro (@ze_39) (@ia_71)) (And.intro (@sz_71) (@ze_71)))) (And.intro (And.intro (And.intro (@pb_28) (@pb_30)) (And.intro (@pb_36) (@pb_37))) (And.intro (And.intro (@pb_38) (@pb_39)) (And.intro (@pb_41) (And.intro (@pb_42) (@pb_34))))))) := And.intro (And.intro (And.intro (And.intro (And.intro (@bs_39) (@bs_64)) (And.intro (@ia_2) (@sz_2))) (And.intro (And.intro (@ze_2) (@ia_3)) (And.intro (@sz_3) (@ia_4)))) (And.intro (And.intro (And.intro (@sz_4) (@ia_24)) (And.intro (@sz_24) (@ia_64))) (And.intro (And.intro (@sz_64) (@ze_64)) (And.intro (@ia_66) (And.intro (@sz_66) (@ia_26)))))) (And.intro (And.intro (And.intro (And.intro (@sz_26) (@ze_26)) (And.intro (@ia_39) (@sz_39))) (And.intro (And.intro (@ze_39) (@ia_71)) (And.intro (@sz_71) (@ze_71)))) (And.intro (And.intro (And.intro (@pb_28) (@pb_30)) (And.intro (@pb_36) (@pb_37))) (And.intro (And.intro (@pb_38) (@pb_39)) (And.intro (@pb_41) (And.intro (@pb_42) (@pb_34))))))
theorem hok {sp st : Int} {rows : List (List (Int × Int))} (he : hullErr sp st rows = 0) {g : Nat} (hg : g = 53 ∨ g = 54 ∨ g = 55) : HOK g sp st rows (m0 rows) := by
  obtain ⟨hn, hm, hall, hsp, hst, hof⟩ := hullErr_ok he
  refine ⟨hg, hsp, hst, hn, hm, fun q hq => hof.1 _ (rAt_mem hall (by omega) hq), ?_⟩
  obtain ⟨r, hr, hp⟩ := mx_pos hof.2
  obtain ⟨row, h5, h6⟩ := List.mem_flatten.1 hr
  obtain ⟨i, hi, rfl⟩ := List.getElem_of_mem h5
  obtain ⟨k, hk, rfl⟩ := List.getElem_of_mem h6
  have hkm : k < m0 rows := by rw [← hall _ h5]; exact hk
  refine ⟨i * m0 rows + k, ik_lt hi hkm, ?_⟩
  rw [rAt_ik hi hkm (hall _ h5)]
  exact hp

/-- What a span's question answers. -/
def lowG (sp st : Int) (rows : List (List (Int × Int))) (what : Int) (high : Bool) : List Int := theEnd (gOf what) sp st rows (m0 rows) high
def spanOut (sp st : Int) (rows : List (List (Int × Int))) (what : Int) : AV :=
  if hullErr sp st rows ≠ 0 then .tup [.agg [ii 0, ii 0, ii 0, ii 0], ii (hullErr sp st rows)] else if ¬ (0 ≤ what ∧ what ≤ 2) then .tup [.agg [ii 0, ii 0, ii 0, ii 0], ii 3]
  else .tup [.agg [ii (ratN (gOf what) sp st rows (m0 rows) (lowG sp st rows what false)), ii (ratD (gOf what) sp st rows (m0 rows) (lowG sp st rows what false)), ii (ratN (gOf what) sp st rows (m0 rows) (lowG sp st rows what true)), ii (ratD (gOf what) sp st rows (m0 rows) (lowG sp st rows what true))], ii 0]

theorem spanC (sp st : Int) (a : AV) (rvs : List AV) (rows : List (List (Int × Int))) (what : Int) (h : H) (x : HullR h a rvs rows) :
    (om Try.prog KK).call (.fn 18 [.agg [ii sp, ii st, a], ii what]) h = .ok (spanOut sp st rows what) h := by
  have wf := x.wf
  obtain ⟨hac, hao⟩ := Sl.one x.sl
  refine WV_to (WV_call (fn := Try.f18) Try.func18 rfl rfl rfl rfl rfl ?_)
  simp only [argF]
  unfold spanOut
  by_cases he : hullErr sp st rows = 0
  · rw [if_neg (not_not_intro he)]
    by_cases hwh : 0 ≤ what ∧ what ≤ 2
    · rw [if_neg (not_not_intro hwh)]
      have k := hok he (gOf_or what)
      obtain ⟨hn, hm, hall, hsp, hst, hof⟩ := hullErr_ok he
      have xat := x.at (m := m0 rows) (by omega) (fun i hi => hall _ (List.getElem_mem hi))
      have hen : ∀ high l w, w ≤ h.clock + l.length → (om Try.prog KK).call (.fn 42 [.agg [ii sp, ii st, a], .fn (gOf what) [.agg [ii sp, ii st, a]] [], .bool high]) (X h l w) = .ok (.tup [.agg ((lowG sp st rows what high).map ii), .agg [ii (ratN (gOf what) sp st rows (m0 rows) (lowG sp st rows what high)), ii (ratD (gOf what) sp st rows (m0 rows) (lowG sp st rows what high))]]) (X h l w) := fun high l w hw => endC k high a rvs _ (xat.up l w hw)
      have i1 : ∀ high, InG rows (m0 rows) (lowG sp st rows what high) := fun high => (endG_ok k high _ (grid0_in k) (Nat.le_refl _)).1
      have b1 := big (i1 false).1
      have b2 := big (i1 true).1
      (repeat' (first
  | (with_reducible first | refine WC_seq ?_ | refine WC_skip ?_ | refine WC_label ?_ | refine WC_scope ?_ | refine WC_block ?_ | refine WC_ret ?_ | refine WC_exit ?_ | refine seqQ_norm ?_ | refine seqQ_ret ?_ | refine seqQ_exit ?_ | refine blkQ_norm ?_ | refine blkQ_ret ?_ | refine blkQ_here ?_ | refine gateK_yes ?_ | refine gateK_none ?_ | refine condK_tt ?_ | refine condK_ff ?_ | refine roundQ_exit ?_ | refine roundQ_ret ?_)
  | refine WC_region ?_ | refine blkQ_out rfl ?_ | refine WO_nil ?_ | refine WD_nil ?_
  | ((first | refine WD_gate rfl rfl rfl rfl rfl fun K_ hK_ => ?_ | refine WO_gate rfl rfl rfl rfl rfl fun K_ hK_ => ?_); simp only [upd_apply, asB_bool, asB_tup, ↓reduceIte, reduceCtorEq, Nat.reduceEqDiff, Bool.not_true, Bool.not_false]; refine hK_ _ ?_; clear hK_ K_)
  | refine gateK_no (by decide) ?_
  | ((try first | refine WO_op rfl rfl rfl ?_ | refine WO_op0 rfl rfl ?_ | refine WD_op rfl rfl rfl ?_ | refine WD_op0 rfl rfl ?_); (refine WV_gen fun Q_ hQ_ => ?_; simp (disch := first | omega | (simp only [List.length_cons, List.length_nil, List.length_append]; omega)) only [bb, bp, argF, ↓reduceIte, reduceCtorEq, Nat.reduceEqDiff, Nat.reduceLT, Nat.reduceLeDiff, Nat.reduceAdd, Nat.reduceMul, Nat.reduceSub, Nat.reduceBEq, Int.reduceToNat, cond_true, cond_false, eq_self, beq_self_eq_true, hao, hen, b1.len, b1.take, b1.all, b1.zero, b2.len, b2.take, b2.all, b2.zero, newPtr_X wf, load1_X wf, loadAgg_X wf, store1_X wf, writeCells_X wf, makeFunc_def, tEvM4]; first | (refine dec_split (Q := Q_) (fun hp_ => ?_) (fun hp_ => ?_) <;> first | (exfalso; omega) | (refine hQ_ _ _ ?_; clear hQ_ Q_)) | (refine dec_splitn (Q := Q_) (fun hp_ => ?_) (fun hp_ => ?_) <;> first | (exfalso; omega) | (refine hQ_ _ _ ?_; clear hQ_ Q_)) | (refine hQ_ _ _ ?_; clear hQ_ Q_) | (refine WV_eq (question sp st a rvs rows what he hwh x (by simp only [List.length_append, List.length_cons, List.length_nil]; omega)) ?_; refine hQ_ _ _ ?_; clear hQ_ Q_)))
  | (refine WC_cond fun K_ hK_ => ?_; simp (disch := omega) only [evT_tmp, upd_apply, WB_some, ↓reduceIte, reduceCtorEq, Nat.reduceEqDiff, Nat.reduceLT]; refine hK_ _ ?_; clear hK_ K_)))
      refine endQ_ret _ _ rfl (retc1 (by decide) (by decide) (by simp (disch := first | omega | (simp only [List.length_cons, List.length_nil, List.length_append]; omega)) only [bb, bp, argF, ↓reduceIte, reduceCtorEq, Nat.reduceEqDiff, Nat.reduceLT, Nat.reduceLeDiff, Nat.reduceAdd, Nat.reduceMul, Nat.reduceSub, Nat.reduceBEq, Int.reduceToNat, cond_true, cond_false, eq_self, beq_self_eq_true, loadAgg_X wf, tEvM4]; rfl)) ?_
      simp only [upd_apply, ↓reduceIte, reduceCtorEq, Nat.reduceEqDiff]
      refine WV_flat rfl (by omega) ?_
      exact ⟨rfl, rfl⟩
    · rw [if_pos hwh]
      (repeat' (first
  | (with_reducible first | refine WC_seq ?_ | refine WC_skip ?_ | refine WC_label ?_ | refine WC_scope ?_ | refine WC_block ?_ | refine WC_ret ?_ | refine WC_exit ?_ | refine seqQ_norm ?_ | refine seqQ_ret ?_ | refine seqQ_exit ?_ | refine blkQ_norm ?_ | refine blkQ_ret ?_ | refine blkQ_here ?_ | refine gateK_yes ?_ | refine gateK_none ?_ | refine condK_tt ?_ | refine condK_ff ?_ | refine roundQ_exit ?_ | refine roundQ_ret ?_)
  | refine WC_region ?_ | refine blkQ_out rfl ?_ | refine WO_nil ?_ | refine WD_nil ?_
  | ((first | refine WD_gate rfl rfl rfl rfl rfl fun K_ hK_ => ?_ | refine WO_gate rfl rfl rfl rfl rfl fun K_ hK_ => ?_); simp only [upd_apply, asB_bool, asB_tup, ↓reduceIte, reduceCtorEq, Nat.reduceEqDiff, Bool.not_true, Bool.not_false]; refine hK_ _ ?_; clear hK_ K_)
  | refine gateK_no (by decide) ?_
  | ((try first | refine WO_op rfl rfl rfl ?_ | refine WO_op0 rfl rfl ?_ | refine WD_op rfl rfl rfl ?_ | refine WD_op0 rfl rfl ?_); (refine WV_gen fun Q_ hQ_ => ?_; simp (disch := first | omega | (simp only [List.length_cons, List.length_nil, List.length_append]; omega)) only [bb, bp, argF, ↓reduceIte, reduceCtorEq, Nat.reduceEqDiff, Nat.reduceLT, Nat.reduceLeDiff, Nat.reduceAdd, Nat.reduceMul, Nat.reduceSub, Nat.reduceBEq, Int.reduceToNat, cond_true, cond_false, eq_self, beq_self_eq_true, hao, newPtr_X wf, load1_X wf, loadAgg_X wf, store1_X wf, writeCells_X wf, makeFunc_def, tEvM4]; first | (refine dec_split (Q := Q_) (fun hp_ => ?_) (fun hp_ => ?_) <;> first | (exfalso; omega) | (refine hQ_ _ _ ?_; clear hQ_ Q_)) | (refine dec_splitn (Q := Q_) (fun hp_ => ?_) (fun hp_ => ?_) <;> first | (exfalso; omega) | (refine hQ_ _ _ ?_; clear hQ_ Q_)) | (refine hQ_ _ _ ?_; clear hQ_ Q_) | (refine WV_eq (questionNot sp st a rvs rows what he hwh x (by simp only [List.length_append, List.length_cons, List.length_nil]; omega)) ?_; refine hQ_ _ _ ?_; clear hQ_ Q_)))
  | (refine WC_cond fun K_ hK_ => ?_; simp (disch := omega) only [evT_tmp, upd_apply, WB_some, ↓reduceIte, reduceCtorEq, Nat.reduceEqDiff, Nat.reduceLT]; refine hK_ _ ?_; clear hK_ K_)))
      refine endQ_ret _ _ rfl (retc1 (by decide) (by decide) (by simp (disch := first | omega | (simp only [List.length_cons, List.length_nil, List.length_append]; omega)) only [bb, bp, argF, ↓reduceIte, reduceCtorEq, Nat.reduceEqDiff, Nat.reduceLT, Nat.reduceLeDiff, Nat.reduceAdd, Nat.reduceMul, Nat.reduceSub, Nat.reduceBEq, Int.reduceToNat, cond_true, cond_false, eq_self, beq_self_eq_true, loadAgg_X wf, tEvM4]; rfl)) ?_
      simp only [upd_apply, ↓reduceIte, reduceCtorEq, Nat.reduceEqDiff]
      refine WV_flat rfl (by omega) ?_
      exact ⟨rfl, rfl⟩
  · rw [if_pos he]
    have hqb : ∀ l w, w ≤ h.clock + l.length → (om Try.prog KK).call (.fn 28 [.agg [ii sp, ii st, a], ii what]) (X h l w) = .ok (.tup [.agg [ii 0, ii 0, .nils], .nilf, ii (hullErr sp st rows)]) (X h l w) := fun l w hw => questionBad sp st a rvs rows what he _ (x.up l w hw)
    (repeat' (first
  | (with_reducible first | refine WC_seq ?_ | refine WC_skip ?_ | refine WC_label ?_ | refine WC_scope ?_ | refine WC_block ?_ | refine WC_ret ?_ | refine WC_exit ?_ | refine seqQ_norm ?_ | refine seqQ_ret ?_ | refine seqQ_exit ?_ | refine blkQ_norm ?_ | refine blkQ_ret ?_ | refine blkQ_here ?_ | refine gateK_yes ?_ | refine gateK_none ?_ | refine condK_tt ?_ | refine condK_ff ?_ | refine roundQ_exit ?_ | refine roundQ_ret ?_)
  | refine WC_region ?_ | refine blkQ_out rfl ?_ | refine WO_nil ?_ | refine WD_nil ?_
  | ((first | refine WD_gate rfl rfl rfl rfl rfl fun K_ hK_ => ?_ | refine WO_gate rfl rfl rfl rfl rfl fun K_ hK_ => ?_); simp only [upd_apply, asB_bool, asB_tup, ↓reduceIte, reduceCtorEq, Nat.reduceEqDiff, Bool.not_true, Bool.not_false]; refine hK_ _ ?_; clear hK_ K_)
  | refine gateK_no (by decide) ?_
  | ((try first | refine WO_op rfl rfl rfl ?_ | refine WO_op0 rfl rfl ?_ | refine WD_op rfl rfl rfl ?_ | refine WD_op0 rfl rfl ?_); (refine WV_gen fun Q_ hQ_ => ?_; simp (disch := first | omega | (simp only [List.length_cons, List.length_nil, List.length_append]; omega)) only [bb, bp, argF, ↓reduceIte, reduceCtorEq, Nat.reduceEqDiff, Nat.reduceLT, Nat.reduceLeDiff, Nat.reduceAdd, Nat.reduceMul, Nat.reduceSub, Nat.reduceBEq, Int.reduceToNat, cond_true, cond_false, eq_self, beq_self_eq_true, hqb, hao, newPtr_X wf, load1_X wf, loadAgg_X wf, store1_X wf, writeCells_X wf, makeFunc_def, tEvM4]; first | (refine dec_split (Q := Q_) (fun hp_ => ?_) (fun hp_ => ?_) <;> first | (exfalso; omega) | (refine hQ_ _ _ ?_; clear hQ_ Q_)) | (refine dec_splitn (Q := Q_) (fun hp_ => ?_) (fun hp_ => ?_) <;> first | (exfalso; omega) | (refine hQ_ _ _ ?_; clear hQ_ Q_)) | (refine hQ_ _ _ ?_; clear hQ_ Q_)))
  | (refine WC_cond fun K_ hK_ => ?_; simp (disch := omega) only [evT_tmp, upd_apply, WB_some, ↓reduceIte, reduceCtorEq, Nat.reduceEqDiff, Nat.reduceLT]; refine hK_ _ ?_; clear hK_ K_)))
    refine endQ_ret _ _ rfl (retc1 (by decide) (by decide) (by simp (disch := first | omega | (simp only [List.length_cons, List.length_nil, List.length_append]; omega)) only [bb, bp, argF, ↓reduceIte, reduceCtorEq, Nat.reduceEqDiff, Nat.reduceLT, Nat.reduceLeDiff, Nat.reduceAdd, Nat.reduceMul, Nat.reduceSub, Nat.reduceBEq, Int.reduceToNat, cond_true, cond_false, eq_self, beq_self_eq_true, loadAgg_X wf, tEvM4]; rfl)) ?_
    simp only [upd_apply, ↓reduceIte, reduceCtorEq, Nat.reduceEqDiff]
    refine WV_flat rfl (by omega) ?_
    exact ⟨rfl, rfl⟩

def lowV (c : Nat) (rows : List (List (Int × Int))) : List Int := gB (pickY c rows (m0 rows)) (m0 rows) (rows.length * m0 rows)
def volS (sp st : Int) (rows : List (List (Int × Int))) (gs : List Int) : Int := sp * st * psum (vterm rows.length (m0 rows) gs) (rows.length * m0 rows)
noncomputable def volsOut (sp st : Int) (rows : List (List (Int × Int))) : AV :=
  if hullErr sp st rows ≠ 0 then .tup [.agg [ii 0, ii 0, ii 0, ii 0], ii (hullErr sp st rows)]
  else .tup [.agg (AV.cells (frac (volS sp st rows (lowV 38 rows)) 2) ++ AV.cells (frac (volS sp st rows (lowV 39 rows)) 2)), ii 0]

end Go.Proofs.Ytghondkiondeaac
end

/- EvM5 -/
section
/-
  LAYER 2: the offsets of a grid, as lists.
-/
namespace Go.Proofs.Ytghondkiondeaac
open Go.Ev
set_option maxRecDepth 100000
set_option linter.unusedSimpArgs false
set_option linter.unusedVariables false
set_option maxHeartbeats 2000000

/-- A station's offsets in a grid. -/
def gRow (gs : List Int) (m i : Nat) : List Int := (gs.drop (i * 6)).take m
noncomputable def rowO (gs : List Int) (m : Nat) (j : Nat) : AO := .cells (mkCells ((gRow gs m j).map ii)) 2
noncomputable def rowV (h : H) (m j : Nat) : AV := .sl (nx h (j + 3)) 0 m (some m) 1
noncomputable def outer (h : H) (n m i : Nat) : List AV := (List.range n).map fun j => if j < i then rowV h m j else .nils
theorem gRow_length {gs : List Int} (hl : gs.length = 60) {m i : Nat} (hi : i < 10) (hm : m ≤ 6) : (gRow gs m i).length = m := by
  unfold gRow; simp [hl]; omega

end Go.Proofs.Ytghondkiondeaac
end

/- EvM6 -/
section
/-
  LAYER 2: the end as lists; fractions held against one another.
-/
namespace Go.Proofs.Ytghondkiondeaac
open Go.Ev
set_option maxRecDepth 100000
set_option linter.unusedSimpArgs false
set_option linter.unusedVariables false
set_option maxHeartbeats 2000000

theorem tEvM6 : type_of% (And.intro (And.intro (And.intro (And.intro (@bs_64) (And.intro (@ia_2) (@sz_2))) (And.intro (And.intro (@ze_2) (@ia_3)) (And.intro (@sz_3) (@ia_4)))) (And.intro (And.intro (@sz_4) (And.intro (@ia_24) (@sz_24))) (And.intro (And.intro (@ia_64) (@sz_64)) (And.intro (@ze_64) (@ia_66))))) (And.intro (And.intro (And.intro (@sz_66) (And.intro (@ia_26) (@sz_26))) (And.intro (And.intro (@ze_26) (@fo_26_0)) (And.intro (@fo_26_1) (@ia_71)))) (And.intro (And.intro (@sz_71) (And.intro (@ze_71) (@pb_28))) (And.intro (And.intro (@pb_42) (@pb_43)) (And.intro (@pb_22) (@pb_21)))))) := And.intro (And.intro (And.intro (And.intro (@bs_64) (And.intro (@ia_2) (@sz_2))) (And.intro (And.intro (@ze_2) (@ia_3)) (And.intro (@sz_3) (@ia_4)))) (And.intro (And.intro (@sz_4) (And.intro (@ia_24) (@sz_24))) (And.intro (And.intro (@ia_64) (@sz_64)) (And.intro (@ze_64) (@ia_66))))) (And.intro (And.intro (And.intro (@sz_66) (And.intro (@ia_26) (@sz_26))) (And.intro (And.intro (@ze_26) (@fo_26_0)) (And.intro (@fo_26_1) (@ia_71)))) (And.intro (And.intro (@sz_71) (And.intro (@ze_71) (@pb_28))) (And.intro (And.intro (@pb_42) (@pb_43)) (And.intro (@pb_22) (@pb_21)))))
theorem tdivmod {a b : Int} (ha : 0 ≤ a) (hb : 1 ≤ b) : a.tdiv b = a / b ∧ a.tmod b = a % b ∧ a = b * (a / b) + a % b ∧ 0 ≤ a % b ∧ a % b < b ∧ 0 ≤ a / b ∧ a / b ≤ a := by
  refine ⟨Int.tdiv_eq_ediv_of_nonneg ha, Int.tmod_eq_emod_of_nonneg ha, (Int.mul_ediv_add_emod a b).symm, Int.emod_nonneg _ (by omega), Int.emod_lt_of_pos _ (by omega), Int.ediv_nonneg ha (by omega), Int.ediv_le_self _ ha⟩
theorem less_q {a b c d : Int} (ha : 0 ≤ a) (hb : 1 ≤ b) (hc : 0 ≤ c) (hd : 1 ≤ d) (h : a / b < c / d) : a * d < c * b := by
  obtain ⟨_, _, e1, r1, r2, q1, _⟩ := tdivmod ha hb
  obtain ⟨_, _, e2, s1, s2, q2, _⟩ := tdivmod hc hd
  have h1 : a + 1 ≤ b * (c / d) := by
    have : b * (a / b + 1) ≤ b * (c / d) := Int.mul_le_mul_of_nonneg_left (by omega) (by omega)
    rw [Int.mul_add] at this; omega
  have h2 : (a + 1) * d ≤ b * (c / d) * d := Int.mul_le_mul_of_nonneg_right h1 (by omega)
  have h3 : d * (c / d) ≤ c := by omega
  have h4 : b * (d * (c / d)) ≤ b * c := Int.mul_le_mul_of_nonneg_left h3 (by omega)
  have e : b * (c / d) * d = b * (d * (c / d)) := by grind
  rw [Int.add_mul] at h2
  have e' : c * b = b * c := Int.mul_comm _ _
  omega
theorem less_r {a b c d : Int} (ha : 0 ≤ a) (hb : 1 ≤ b) (hc : 0 ≤ c) (hd : 1 ≤ d) (h : a / b = c / d) : a * d < c * b ↔ a % b * d < c % d * b := by
  obtain ⟨_, _, e1, r1, r2, q1, _⟩ := tdivmod ha hb
  obtain ⟨_, _, e2, s1, s2, q2, _⟩ := tdivmod hc hd
  have h1 : a * d = b * (a / b) * d + a % b * d := by rw [← Int.add_mul, ← e1]
  have h2 : c * b = d * (c / d) * b + c % d * b := by rw [← Int.add_mul, ← e2]
  have h3 : b * (a / b) * d = d * (c / d) * b := by rw [h]; grind
  omega

theorem lessR (N D N' D' : Int) (h1 : bndIn N D) (h2 : bndIn N' D') (h : H) (wf : Wf h) : (om Try.prog KK).call (.fn 21 [.agg [ii N, ii D], .agg [ii N', ii D']]) h = .ok (.bool (decide (N * D' < N' * D))) h := by
  unfold bndIn at h1 h2
  obtain ⟨a1, a2, a3, a4, a5, a6, a7⟩ := tdivmod (a := N) (b := D) h1.1.1 h1.2.1
  obtain ⟨c1, c2, c3, c4, c5, c6, c7⟩ := tdivmod (a := N') (b := D') h2.1.1 h2.2.1
  have hz : D ≠ 0 := by omega
  have hz' : D' ≠ 0 := by omega
  have m1 := mul_bd (a := N % D) (b := D') (x := 100000000) (y := 100000000) ⟨a4, by omega⟩ ⟨by omega, by omega⟩
  have m2 := mul_bd (a := N' % D') (b := D) (x := 100000000) (y := 100000000) ⟨c4, by omega⟩ ⟨by omega, by omega⟩
  have hq := less_q (a := N) (b := D) (c := N') (d := D') h1.1.1 h1.2.1 h2.1.1 h2.2.1
  have hq' := less_q (a := N') (b := D') (c := N) (d := D) h2.1.1 h2.2.1 h1.1.1 h1.2.1
  have hr := less_r (a := N) (b := D) (c := N') (d := D') h1.1.1 h1.2.1 h2.1.1 h2.2.1
  have w1 : IntKind.i64.wrap (N / D) = N / D := wrap_in _ (by omega) (by omega)
  have w2 : IntKind.i64.wrap (N' / D') = N' / D' := wrap_in _ (by omega) (by omega)
  refine WV_to (WV_call (fn := Try.f21) Try.func21 rfl rfl rfl rfl rfl ?_)
  simp only [argF]
  (repeat' (first
  | (with_reducible first | refine WC_seq ?_ | refine WC_skip ?_ | refine WC_label ?_ | refine WC_scope ?_ | refine WC_block ?_ | refine WC_ret ?_ | refine WC_exit ?_ | refine seqQ_norm ?_ | refine seqQ_ret ?_ | refine seqQ_exit ?_ | refine blkQ_norm ?_ | refine blkQ_ret ?_ | refine blkQ_here ?_ | refine gateK_yes ?_ | refine gateK_none ?_ | refine condK_tt ?_ | refine condK_ff ?_ | refine roundQ_exit ?_ | refine roundQ_ret ?_)
  | refine WC_region ?_ | refine blkQ_out rfl ?_ | refine WO_nil ?_ | refine WD_nil ?_
  | ((first | refine WD_gate rfl rfl rfl rfl rfl fun K_ hK_ => ?_ | refine WO_gate rfl rfl rfl rfl rfl fun K_ hK_ => ?_); simp only [upd_apply, asB_bool, asB_tup, ↓reduceIte, reduceCtorEq, Nat.reduceEqDiff, Bool.not_true, Bool.not_false]; refine hK_ _ ?_; clear hK_ K_)
  | refine gateK_no (by decide) ?_
  | ((try first | refine WO_op rfl rfl rfl ?_ | refine WO_op0 rfl rfl ?_ | refine WD_op rfl rfl rfl ?_ | refine WD_op0 rfl rfl ?_); (refine WV_gen fun Q_ hQ_ => ?_; simp (disch := first | omega | (simp only [List.length_cons, List.length_nil, List.length_append]; omega)) only [bb, bp, argF, ↓reduceIte, reduceCtorEq, Nat.reduceEqDiff, Nat.reduceLT, Nat.reduceLeDiff, Nat.reduceAdd, Nat.reduceMul, Nat.reduceSub, Nat.reduceBEq, Int.reduceToNat, cond_true, cond_false, eq_self, beq_self_eq_true, newPtr_X wf, load1_X wf, loadAgg_X wf, store1_X wf, writeCells_X wf, makeFunc_def, tEvM6]; first | (refine dec_split (Q := Q_) (fun hp_ => ?_) (fun hp_ => ?_) <;> first | (exfalso; omega) | (refine hQ_ _ _ ?_; clear hQ_ Q_)) | (refine dec_splitn (Q := Q_) (fun hp_ => ?_) (fun hp_ => ?_) <;> first | (exfalso; omega) | (refine hQ_ _ _ ?_; clear hQ_ Q_)) | (refine hQ_ _ _ ?_; clear hQ_ Q_)))
  | (refine WC_cond fun K_ hK_ => ?_; simp (disch := omega) only [evT_tmp, upd_apply, WB_some, ↓reduceIte, reduceCtorEq, Nat.reduceEqDiff, Nat.reduceLT]; refine hK_ _ ?_; clear hK_ K_)))
  refine WC_drawnB [.no, .no, .no, .no, .no, .no, .no, .no, .no, .no, .full] (by kernel_rfl) ?_
  (repeat' (first
  | (with_reducible first | refine WC_seq ?_ | refine WC_skip ?_ | refine WC_label ?_ | refine WC_scope ?_ | refine WC_block ?_ | refine WC_ret ?_ | refine WC_exit ?_ | refine seqQ_norm ?_ | refine seqQ_ret ?_ | refine seqQ_exit ?_ | refine blkQ_norm ?_ | refine blkQ_ret ?_ | refine blkQ_here ?_ | refine gateK_yes ?_ | refine gateK_none ?_ | refine condK_tt ?_ | refine condK_ff ?_ | refine roundQ_exit ?_ | refine roundQ_ret ?_)
  | refine WC_region ?_ | refine blkQ_out rfl ?_ | refine WO_nil ?_ | refine WD_nil ?_
  | ((first | refine WD_gate rfl rfl rfl rfl rfl fun K_ hK_ => ?_ | refine WO_gate rfl rfl rfl rfl rfl fun K_ hK_ => ?_); simp only [upd_apply, asB_bool, asB_tup, ↓reduceIte, reduceCtorEq, Nat.reduceEqDiff, Bool.not_true, Bool.not_false]; refine hK_ _ ?_; clear hK_ K_)
  | refine gateK_no (by decide) ?_
  | ((try first | refine WO_op rfl rfl rfl ?_ | refine WO_op0 rfl rfl ?_ | refine WD_op rfl rfl rfl ?_ | refine WD_op0 rfl rfl ?_); (refine WV_gen fun Q_ hQ_ => ?_; simp (disch := first | omega | (simp only [List.length_cons, List.length_nil, List.length_append]; omega)) only [bb, bp, argF, ↓reduceIte, reduceCtorEq, Nat.reduceEqDiff, Nat.reduceLT, Nat.reduceLeDiff, Nat.reduceAdd, Nat.reduceMul, Nat.reduceSub, Nat.reduceBEq, Int.reduceToNat, cond_true, cond_false, eq_self, beq_self_eq_true, b_quo hz, b_quo hz', a1, c1, w1, w2, newPtr_X wf, load1_X wf, loadAgg_X wf, store1_X wf, writeCells_X wf, makeFunc_def, tEvM6]; first | (refine dec_split (Q := Q_) (fun hp_ => ?_) (fun hp_ => ?_) <;> first | (exfalso; omega) | (refine hQ_ _ _ ?_; clear hQ_ Q_)) | (refine dec_splitn (Q := Q_) (fun hp_ => ?_) (fun hp_ => ?_) <;> first | (exfalso; omega) | (refine hQ_ _ _ ?_; clear hQ_ Q_)) | (refine hQ_ _ _ ?_; clear hQ_ Q_)))
  | (refine WC_cond fun K_ hK_ => ?_; simp (disch := omega) only [evT_tmp, upd_apply, WB_some, ↓reduceIte, reduceCtorEq, Nat.reduceEqDiff, Nat.reduceLT]; refine hK_ _ ?_; clear hK_ K_)))
  · refine WC_drawnB [.no, .no, .no, .no, .no, .no, .no, .no, .no, .no, .no, .no, .no, .no, .no, .no, .full, .full] (by kernel_rfl) ?_
    (repeat' (first
  | (with_reducible first | refine WC_seq ?_ | refine WC_skip ?_ | refine WC_label ?_ | refine WC_scope ?_ | refine WC_block ?_ | refine WC_ret ?_ | refine WC_exit ?_ | refine seqQ_norm ?_ | refine seqQ_ret ?_ | refine seqQ_exit ?_ | refine blkQ_norm ?_ | refine blkQ_ret ?_ | refine blkQ_here ?_ | refine gateK_yes ?_ | refine gateK_none ?_ | refine condK_tt ?_ | refine condK_ff ?_ | refine roundQ_exit ?_ | refine roundQ_ret ?_)
  | refine WC_region ?_ | refine blkQ_out rfl ?_ | refine WO_nil ?_ | refine WD_nil ?_
  | ((first | refine WD_gate rfl rfl rfl rfl rfl fun K_ hK_ => ?_ | refine WO_gate rfl rfl rfl rfl rfl fun K_ hK_ => ?_); simp only [upd_apply, asB_bool, asB_tup, ↓reduceIte, reduceCtorEq, Nat.reduceEqDiff, Bool.not_true, Bool.not_false]; refine hK_ _ ?_; clear hK_ K_)
  | refine gateK_no (by decide) ?_
  | ((try first | refine WO_op rfl rfl rfl ?_ | refine WO_op0 rfl rfl ?_ | refine WD_op rfl rfl rfl ?_ | refine WD_op0 rfl rfl ?_); (refine WV_gen fun Q_ hQ_ => ?_; simp (disch := first | omega | (simp only [List.length_cons, List.length_nil, List.length_append]; omega)) only [bb, bp, argF, ↓reduceIte, reduceCtorEq, Nat.reduceEqDiff, Nat.reduceLT, Nat.reduceLeDiff, Nat.reduceAdd, Nat.reduceMul, Nat.reduceSub, Nat.reduceBEq, Int.reduceToNat, cond_true, cond_false, eq_self, beq_self_eq_true, b_rem hz, b_rem hz', a2, c2, newPtr_X wf, load1_X wf, loadAgg_X wf, store1_X wf, writeCells_X wf, makeFunc_def, tEvM6]; first | (refine dec_split (Q := Q_) (fun hp_ => ?_) (fun hp_ => ?_) <;> first | (exfalso; omega) | (refine hQ_ _ _ ?_; clear hQ_ Q_)) | (refine dec_splitn (Q := Q_) (fun hp_ => ?_) (fun hp_ => ?_) <;> first | (exfalso; omega) | (refine hQ_ _ _ ?_; clear hQ_ Q_)) | (refine hQ_ _ _ ?_; clear hQ_ Q_)))
  | (refine WC_cond fun K_ hK_ => ?_; simp (disch := omega) only [evT_tmp, upd_apply, WB_some, ↓reduceIte, reduceCtorEq, Nat.reduceEqDiff, Nat.reduceLT]; refine hK_ _ ?_; clear hK_ K_)))
    all_goals (refine endQ_ret _ _ rfl (ret1 (by decide)) ?_; simp only [upd_apply, ↓reduceIte, reduceCtorEq, Nat.reduceEqDiff]; refine WV_flat rfl (by omega) ?_)
    · exact ⟨by rw [decide_eq_true ((hr (by assumption)).2 (by assumption))], rfl⟩
    · exact ⟨by rw [decide_eq_false (fun hh => absurd ((hr (by assumption)).1 hh) (by assumption))], rfl⟩
  · refine WC_drawnB [.no, .no, .no, .no, .no, .no, .no, .no, .no, .no, .full, .full] (by kernel_rfl) ?_
    (repeat' (first
  | (with_reducible first | refine WC_seq ?_ | refine WC_skip ?_ | refine WC_label ?_ | refine WC_scope ?_ | refine WC_block ?_ | refine WC_ret ?_ | refine WC_exit ?_ | refine seqQ_norm ?_ | refine seqQ_ret ?_ | refine seqQ_exit ?_ | refine blkQ_norm ?_ | refine blkQ_ret ?_ | refine blkQ_here ?_ | refine gateK_yes ?_ | refine gateK_none ?_ | refine condK_tt ?_ | refine condK_ff ?_ | refine roundQ_exit ?_ | refine roundQ_ret ?_)
  | refine WC_region ?_ | refine blkQ_out rfl ?_ | refine WO_nil ?_ | refine WD_nil ?_
  | ((first | refine WD_gate rfl rfl rfl rfl rfl fun K_ hK_ => ?_ | refine WO_gate rfl rfl rfl rfl rfl fun K_ hK_ => ?_); simp only [upd_apply, asB_bool, asB_tup, ↓reduceIte, reduceCtorEq, Nat.reduceEqDiff, Bool.not_true, Bool.not_false]; refine hK_ _ ?_; clear hK_ K_)
  | refine gateK_no (by decide) ?_
  | ((try first | refine WO_op rfl rfl rfl ?_ | refine WO_op0 rfl rfl ?_ | refine WD_op rfl rfl rfl ?_ | refine WD_op0 rfl rfl ?_); (refine WV_gen fun Q_ hQ_ => ?_; simp (disch := first | omega | (simp only [List.length_cons, List.length_nil, List.length_append]; omega)) only [bb, bp, argF, ↓reduceIte, reduceCtorEq, Nat.reduceEqDiff, Nat.reduceLT, Nat.reduceLeDiff, Nat.reduceAdd, Nat.reduceMul, Nat.reduceSub, Nat.reduceBEq, Int.reduceToNat, cond_true, cond_false, eq_self, beq_self_eq_true, b_quo hz, b_quo hz', a1, c1, w1, w2, newPtr_X wf, load1_X wf, loadAgg_X wf, store1_X wf, writeCells_X wf, makeFunc_def, tEvM6]; first | (refine dec_split (Q := Q_) (fun hp_ => ?_) (fun hp_ => ?_) <;> first | (exfalso; omega) | (refine hQ_ _ _ ?_; clear hQ_ Q_)) | (refine dec_splitn (Q := Q_) (fun hp_ => ?_) (fun hp_ => ?_) <;> first | (exfalso; omega) | (refine hQ_ _ _ ?_; clear hQ_ Q_)) | (refine hQ_ _ _ ?_; clear hQ_ Q_)))
  | (refine WC_cond fun K_ hK_ => ?_; simp (disch := omega) only [evT_tmp, upd_apply, WB_some, ↓reduceIte, reduceCtorEq, Nat.reduceEqDiff, Nat.reduceLT]; refine hK_ _ ?_; clear hK_ K_)))
    all_goals (refine endQ_ret _ _ rfl (ret1 (by decide)) ?_; simp only [upd_apply, ↓reduceIte, reduceCtorEq, Nat.reduceEqDiff]; refine WV_flat rfl (by omega) ?_)
    · exact ⟨by rw [decide_eq_true (hq (by assumption))], rfl⟩
    · exact ⟨by rw [decide_eq_false (fun hh => by have := hq' (by omega); omega)], rfl⟩

/-- What End leaves in memory. -/
noncomputable def endL (h : H) (sp st : Int) (a : AV) (rows : List (List (Int × Int))) (what : Int) (high : Bool) : List AO :=
  [.cells (mkCells [ii sp, ii st, a]) 24, .cells (mkCells [ii sp, ii st, a]) 24, .cells (mkCells [ii sp, ii st, a]) 64, .cells (mkCells [ii sp, ii st, a]) 64, .cells (mkCells [ii sp, ii st, a]) 64, .cells (mkCells [ii sp, ii st, a]) 64,
    .cells (mkCells ((lowG sp st rows what high).map ii)) 71, .cells (mkCells [ii (ratN (gOf what) sp st rows (m0 rows) (lowG sp st rows what high)), ii (ratD (gOf what) sp st rows (m0 rows) (lowG sp st rows what high))]) 26]
noncomputable def endE (h : H) (sp st : Int) (a : AV) (rows : List (List (Int × Int))) (what : Int) (high : Bool) : List AO :=
  endL h sp st a rows what high ++ (.cells (mkCells [ii sp, ii st, a]) 64 :: .cells (mkCells ((lowG sp st rows what high).map ii)) 71 :: .cells (mkCells (outer (X h (endL h sp st a rows what high) h.clock) rows.length (m0 rows) rows.length)) 53 :: (List.range rows.length).map (rowO (lowG sp st rows what high) (m0 rows)))
end Go.Proofs.Ytghondkiondeaac
end

/- EvK4 -/
section
/-
  LAYER 2, THE REFERENCE: bounds.
-/
namespace Go.Proofs.Ytghondkiondeaac
open Go.Ev
set_option maxRecDepth 100000
set_option linter.unusedSimpArgs false
set_option linter.unusedVariables false
set_option maxHeartbeats 4000000

theorem tEvK4 : type_of% (And.intro (And.intro (And.intro (And.intro (And.intro (@ia_2) (@sz_2)) (And.intro (@ze_2) (@ia_3))) (And.intro (And.intro (@sz_3) (@ia_4)) (And.intro (@sz_4) (@ia_24)))) (And.intro (And.intro (And.intro (@sz_24) (@ia_22)) (And.intro (@sz_22) (@ia_52))) (And.intro (And.intro (@sz_52) (@ia_55)) (And.intro (@sz_55) (@ia_26))))) (And.intro (And.intro (And.intro (And.intro (@sz_26) (@ze_26)) (And.intro (@fo_24_0) (@fo_24_1))) (And.intro (And.intro (@fo_24_2) (@fo_26_0)) (And.intro (@fo_26_1) (@fo_55_0)))) (And.intro (And.intro (And.intro (@fo_55_1) (@ik_22)) (And.intro (@ik_52) (@pb_12))) (And.intro (And.intro (@pb_20) (@pb_24)) (And.intro (@pb_31) (And.intro (@pb_32) (@pb_51))))))) := And.intro (And.intro (And.intro (And.intro (And.intro (@ia_2) (@sz_2)) (And.intro (@ze_2) (@ia_3))) (And.intro (And.intro (@sz_3) (@ia_4)) (And.intro (@sz_4) (@ia_24)))) (And.intro (And.intro (And.intro (@sz_24) (@ia_22)) (And.intro (@sz_22) (@ia_52))) (And.intro (And.intro (@sz_52) (@ia_55)) (And.intro (@sz_55) (@ia_26))))) (And.intro (And.intro (And.intro (And.intro (@sz_26) (@ze_26)) (And.intro (@fo_24_0) (@fo_24_1))) (And.intro (And.intro (@fo_24_2) (@fo_26_0)) (And.intro (@fo_26_1) (@fo_55_0)))) (And.intro (And.intro (And.intro (@fo_55_1) (@ik_22)) (And.intro (@ik_52) (@pb_12))) (And.intro (And.intro (@pb_20) (@pb_24)) (And.intro (@pb_31) (And.intro (@pb_32) (@pb_51))))))
theorem isBoundR (N D : Int) (h : H) (wf : Wf h) : (om Try.prog KK).call (.fn 20 [.agg [ii N, ii D]]) h = .ok (.bool (isBnd N D)) h := by
  refine WV_to (WV_call (fn := Try.f20) Try.func20 rfl rfl rfl rfl rfl ?_)
  simp only [argF]
  have heq : ∀ x y, binE Try.prog .eql 26 x y (frac N D) (.agg [ii N, ii D]) = some (.bool (N / (Int.gcd N D : Int) == N && D / (Int.gcd N D : Int) == D)) := fun x y => eqQ
  have hsy : (N / (Int.gcd N D : Int) == N && D / (Int.gcd N D : Int) == D) = (N == N / (Int.gcd N D : Int) && D == D / (Int.gcd N D : Int)) := by rw [Bool.beq_comm, Bool.beq_comm (a := D / _)]
  rw [hsy] at heq
  by_cases hb : bndIn N D
  · have hb' := hb
    unfold bndIn at hb'
    have hfr : ∀ l w, w ≤ h.clock + l.length → (om Try.prog KK).call (.fn 24 [ii N, ii D]) (X h l w) = .ok (frac N D) (X h l w) := fun l w hw => fractionR N D ⟨hb'.1.1, by omega⟩ ⟨by omega, by omega⟩ _ (wf.X hw)
    (repeat' (first
  | (with_reducible first | refine WC_seq ?_ | refine WC_skip ?_ | refine WC_label ?_ | refine WC_scope ?_ | refine WC_block ?_ | refine WC_ret ?_ | refine WC_exit ?_ | refine seqQ_norm ?_ | refine seqQ_ret ?_ | refine seqQ_exit ?_ | refine blkQ_norm ?_ | refine blkQ_ret ?_ | refine blkQ_here ?_ | refine gateK_yes ?_ | refine gateK_none ?_ | refine condK_tt ?_ | refine condK_ff ?_ | refine roundQ_exit ?_ | refine roundQ_ret ?_)
  | refine WC_region ?_ | refine blkQ_out rfl ?_ | refine WO_nil ?_ | refine WD_nil ?_
  | ((first | refine WD_gate rfl rfl rfl rfl rfl fun K_ hK_ => ?_ | refine WO_gate rfl rfl rfl rfl rfl fun K_ hK_ => ?_); simp only [upd_apply, asB_bool, asB_tup, ↓reduceIte, reduceCtorEq, Nat.reduceEqDiff, Bool.not_true, Bool.not_false]; refine hK_ _ ?_; clear hK_ K_)
  | refine gateK_no (by decide) ?_
  | ((try first | refine WO_op rfl rfl rfl ?_ | refine WO_op0 rfl rfl ?_ | refine WD_op rfl rfl rfl ?_ | refine WD_op0 rfl rfl ?_); (refine WV_gen fun Q_ hQ_ => ?_; simp (disch := first | omega | (simp only [List.length_cons, List.length_nil, List.length_append]; omega)) only [bb, bp, argF, ↓reduceIte, reduceCtorEq, Nat.reduceEqDiff, Nat.reduceLT, Nat.reduceLeDiff, Nat.reduceAdd, Nat.reduceMul, Nat.reduceSub, Nat.reduceBEq, Int.reduceToNat, cond_true, cond_false, eq_self, beq_self_eq_true, newPtr_X wf, load1_X wf, loadAgg_X wf, store1_X wf, writeCells_X wf, makeFunc_def, tEvK4]; first | (refine dec_split (Q := Q_) (fun hp_ => ?_) (fun hp_ => ?_) <;> first | (exfalso; omega) | (refine hQ_ _ _ ?_; clear hQ_ Q_)) | (refine dec_splitn (Q := Q_) (fun hp_ => ?_) (fun hp_ => ?_) <;> first | (exfalso; omega) | (refine hQ_ _ _ ?_; clear hQ_ Q_)) | (refine hQ_ _ _ ?_; clear hQ_ Q_)))
  | (refine WC_cond fun K_ hK_ => ?_; simp (disch := omega) only [evT_tmp, upd_apply, WB_some, ↓reduceIte, reduceCtorEq, Nat.reduceEqDiff, Nat.reduceLT]; refine hK_ _ ?_; clear hK_ K_)))
    refine WC_drawnB [.full, .full, .full, .full, .full, .full, .full, .full, .full, .full, .full, .full, .full, .full, .full, .full, .full, .full, .full, .no, .no, .no, .no, .no, .no, .full, .full, .full] (by kernel_rfl) ?_
    (repeat' (first
  | (with_reducible first | refine WC_seq ?_ | refine WC_skip ?_ | refine WC_label ?_ | refine WC_scope ?_ | refine WC_block ?_ | refine WC_ret ?_ | refine WC_exit ?_ | refine seqQ_norm ?_ | refine seqQ_ret ?_ | refine seqQ_exit ?_ | refine blkQ_norm ?_ | refine blkQ_ret ?_ | refine blkQ_here ?_ | refine gateK_yes ?_ | refine gateK_none ?_ | refine condK_tt ?_ | refine condK_ff ?_ | refine roundQ_exit ?_ | refine roundQ_ret ?_)
  | refine WC_region ?_ | refine blkQ_out rfl ?_ | refine WO_nil ?_ | refine WD_nil ?_
  | ((first | refine WD_gate rfl rfl rfl rfl rfl fun K_ hK_ => ?_ | refine WO_gate rfl rfl rfl rfl rfl fun K_ hK_ => ?_); simp only [upd_apply, asB_bool, asB_tup, ↓reduceIte, reduceCtorEq, Nat.reduceEqDiff, Bool.not_true, Bool.not_false]; refine hK_ _ ?_; clear hK_ K_)
  | refine gateK_no (by decide) ?_
  | ((try first | refine WO_op rfl rfl rfl ?_ | refine WO_op0 rfl rfl ?_ | refine WD_op rfl rfl rfl ?_ | refine WD_op0 rfl rfl ?_); (refine WV_gen fun Q_ hQ_ => ?_; simp (disch := first | omega | (simp only [List.length_cons, List.length_nil, List.length_append]; omega)) only [bb, bp, argF, ↓reduceIte, reduceCtorEq, Nat.reduceEqDiff, Nat.reduceLT, Nat.reduceLeDiff, Nat.reduceAdd, Nat.reduceMul, Nat.reduceSub, Nat.reduceBEq, Int.reduceToNat, cond_true, cond_false, eq_self, beq_self_eq_true, hfr, heq, newPtr_X wf, load1_X wf, loadAgg_X wf, store1_X wf, writeCells_X wf, makeFunc_def, tEvK4]; first | (refine dec_split (Q := Q_) (fun hp_ => ?_) (fun hp_ => ?_) <;> first | (exfalso; omega) | (refine hQ_ _ _ ?_; clear hQ_ Q_)) | (refine dec_splitn (Q := Q_) (fun hp_ => ?_) (fun hp_ => ?_) <;> first | (exfalso; omega) | (refine hQ_ _ _ ?_; clear hQ_ Q_)) | (refine hQ_ _ _ ?_; clear hQ_ Q_)))
  | (refine WC_cond fun K_ hK_ => ?_; simp (disch := omega) only [evT_tmp, upd_apply, WB_some, ↓reduceIte, reduceCtorEq, Nat.reduceEqDiff, Nat.reduceLT]; refine hK_ _ ?_; clear hK_ K_)))
    (refine endQ_ret _ _ rfl (ret1 (by decide)) ?_; simp only [upd_apply, ↓reduceIte, reduceCtorEq, Nat.reduceEqDiff]; refine WV_flat rfl (by omega) ?_)
    refine ⟨?_, rfl⟩
    unfold isBnd
    rw [decide_eq_true hb]; rfl
  · have hb' := hb
    unfold bndIn at hb'
    (repeat' (first
  | (with_reducible first | refine WC_seq ?_ | refine WC_skip ?_ | refine WC_label ?_ | refine WC_scope ?_ | refine WC_block ?_ | refine WC_ret ?_ | refine WC_exit ?_ | refine seqQ_norm ?_ | refine seqQ_ret ?_ | refine seqQ_exit ?_ | refine blkQ_norm ?_ | refine blkQ_ret ?_ | refine blkQ_here ?_ | refine gateK_yes ?_ | refine gateK_none ?_ | refine condK_tt ?_ | refine condK_ff ?_ | refine roundQ_exit ?_ | refine roundQ_ret ?_)
  | refine WC_region ?_ | refine blkQ_out rfl ?_ | refine WO_nil ?_ | refine WD_nil ?_
  | ((first | refine WD_gate rfl rfl rfl rfl rfl fun K_ hK_ => ?_ | refine WO_gate rfl rfl rfl rfl rfl fun K_ hK_ => ?_); simp only [upd_apply, asB_bool, asB_tup, ↓reduceIte, reduceCtorEq, Nat.reduceEqDiff, Bool.not_true, Bool.not_false]; refine hK_ _ ?_; clear hK_ K_)
  | refine gateK_no (by decide) ?_
  | ((try first | refine WO_op rfl rfl rfl ?_ | refine WO_op0 rfl rfl ?_ | refine WD_op rfl rfl rfl ?_ | refine WD_op0 rfl rfl ?_); (refine WV_gen fun Q_ hQ_ => ?_; simp (disch := first | omega | (simp only [List.length_cons, List.length_nil, List.length_append]; omega)) only [bb, bp, argF, ↓reduceIte, reduceCtorEq, Nat.reduceEqDiff, Nat.reduceLT, Nat.reduceLeDiff, Nat.reduceAdd, Nat.reduceMul, Nat.reduceSub, Nat.reduceBEq, Int.reduceToNat, cond_true, cond_false, eq_self, beq_self_eq_true, newPtr_X wf, load1_X wf, loadAgg_X wf, store1_X wf, writeCells_X wf, makeFunc_def, tEvK4]; first | (refine dec_split (Q := Q_) (fun hp_ => ?_) (fun hp_ => ?_) <;> first | (exfalso; omega) | (refine hQ_ _ _ ?_; clear hQ_ Q_)) | (refine dec_splitn (Q := Q_) (fun hp_ => ?_) (fun hp_ => ?_) <;> first | (exfalso; omega) | (refine hQ_ _ _ ?_; clear hQ_ Q_)) | (refine hQ_ _ _ ?_; clear hQ_ Q_)))
  | (refine WC_cond fun K_ hK_ => ?_; simp (disch := omega) only [evT_tmp, upd_apply, WB_some, ↓reduceIte, reduceCtorEq, Nat.reduceEqDiff, Nat.reduceLT]; refine hK_ _ ?_; clear hK_ K_)))
    refine WC_drawnB [.full, .full, .full, .full, .full, .full, .full, .full, .full, .full, .full, .full, .full, .full, .full, .full, .full, .full, .full, .no, .no, .no, .no, .no, .no, .full, .full, .full] (by kernel_rfl) ?_
    (repeat' (first
  | (with_reducible first | refine WC_seq ?_ | refine WC_skip ?_ | refine WC_label ?_ | refine WC_scope ?_ | refine WC_block ?_ | refine WC_ret ?_ | refine WC_exit ?_ | refine seqQ_norm ?_ | refine seqQ_ret ?_ | refine seqQ_exit ?_ | refine blkQ_norm ?_ | refine blkQ_ret ?_ | refine blkQ_here ?_ | refine gateK_yes ?_ | refine gateK_none ?_ | refine condK_tt ?_ | refine condK_ff ?_ | refine roundQ_exit ?_ | refine roundQ_ret ?_)
  | refine WC_region ?_ | refine blkQ_out rfl ?_ | refine WO_nil ?_ | refine WD_nil ?_
  | ((first | refine WD_gate rfl rfl rfl rfl rfl fun K_ hK_ => ?_ | refine WO_gate rfl rfl rfl rfl rfl fun K_ hK_ => ?_); simp only [upd_apply, asB_bool, asB_tup, ↓reduceIte, reduceCtorEq, Nat.reduceEqDiff, Bool.not_true, Bool.not_false]; refine hK_ _ ?_; clear hK_ K_)
  | refine gateK_no (by decide) ?_
  | ((try first | refine WO_op rfl rfl rfl ?_ | refine WO_op0 rfl rfl ?_ | refine WD_op rfl rfl rfl ?_ | refine WD_op0 rfl rfl ?_); (refine WV_gen fun Q_ hQ_ => ?_; simp (disch := first | omega | (simp only [List.length_cons, List.length_nil, List.length_append]; omega)) only [bb, bp, argF, ↓reduceIte, reduceCtorEq, Nat.reduceEqDiff, Nat.reduceLT, Nat.reduceLeDiff, Nat.reduceAdd, Nat.reduceMul, Nat.reduceSub, Nat.reduceBEq, Int.reduceToNat, cond_true, cond_false, eq_self, beq_self_eq_true, newPtr_X wf, load1_X wf, loadAgg_X wf, store1_X wf, writeCells_X wf, makeFunc_def, tEvK4]; first | (refine dec_split (Q := Q_) (fun hp_ => ?_) (fun hp_ => ?_) <;> first | (exfalso; omega) | (refine hQ_ _ _ ?_; clear hQ_ Q_)) | (refine dec_splitn (Q := Q_) (fun hp_ => ?_) (fun hp_ => ?_) <;> first | (exfalso; omega) | (refine hQ_ _ _ ?_; clear hQ_ Q_)) | (refine hQ_ _ _ ?_; clear hQ_ Q_)))
  | (refine WC_cond fun K_ hK_ => ?_; simp (disch := omega) only [evT_tmp, upd_apply, WB_some, ↓reduceIte, reduceCtorEq, Nat.reduceEqDiff, Nat.reduceLT]; refine hK_ _ ?_; clear hK_ K_)))
    all_goals (refine endQ_ret _ _ rfl (ret1 (by decide)) ?_; simp only [upd_apply, ↓reduceIte, reduceCtorEq, Nat.reduceEqDiff]; refine WV_flat rfl (by omega) ?_)
    all_goals refine ⟨?_, rfl⟩
    all_goals unfold isBnd
    all_goals rw [decide_eq_false hb]
    all_goals rfl

theorem sgn_tt (x : Int) : sgn true x = x := rfl
theorem sgn_ff (x : Int) : sgn false x = -x := rfl
theorem sgn_sgn (b : Bool) (x : Int) : sgn b (sgn b x) = x := by cases b <;> simp [sgn]

theorem mx_taken {high : Bool} {F : Int → Int} {lo : Int} {j : Nat} {x best : Int} (hx : F (lo + (j : Int)) = sgn high x) (hb : (if j = 0 then 0 else sgn high (mxf F lo (j - 1))) = best) (hc : j = 0 ∨ (high = true ∧ best < x) ∨ (high = false ∧ x < best)) :
    x = sgn high (mxf F lo (j + 1 - 1)) := by
  rw [Nat.add_sub_cancel]
  cases j with
  | zero =>
    simp only [mxf]
    have : F lo = sgn high x := by simpa using hx
    rw [this, sgn_sgn]
  | succ j =>
    rw [if_neg (by omega), Nat.add_sub_cancel] at hb
    simp only [mxf]
    rw [hx]
    rcases hc with h | ⟨rfl, h⟩ | ⟨rfl, h⟩
    · omega
    · rw [sgn_tt] at *; rw [sgn_tt]; omega
    · rw [sgn_ff] at *; rw [sgn_ff]; omega
theorem mx_left {high : Bool} {F : Int → Int} {lo : Int} {j : Nat} {x best : Int} (hx : F (lo + (j : Int)) = sgn high x) (hb : (if j = 0 then 0 else sgn high (mxf F lo (j - 1))) = best) (hj : j ≠ 0) (h1 : high = true → x ≤ best) (h2 : high = false → best ≤ x) :
    best = sgn high (mxf F lo (j + 1 - 1)) := by
  rw [Nat.add_sub_cancel]
  cases j with
  | zero => exact absurd rfl hj
  | succ j =>
    rw [if_neg (by omega), Nat.add_sub_cancel] at hb
    simp only [mxf]
    rw [hx]
    cases high with
    | true => have := h1 rfl; rw [sgn_tt] at *; rw [sgn_tt]; omega
    | false => have := h2 rfl; rw [sgn_ff] at *; rw [sgn_ff]; omega

/-- What a place adds to the reference's sum. -/
def refG (g : Nat) (sp st : Int) (rows : List (List (Int × Int))) (m : Nat) (N D : Int) (high : Bool) (q : Nat) : Int := sgn high (bestG g sp st rows m N D high q)

theorem part (sp st : Int) (hsp : 1 ≤ sp ∧ sp ≤ 1000) (hst : 1 ≤ st ∧ st ≤ 100) (a : AV) (rvs : List AV) (rows : List (List (Int × Int))) (m : Nat) (hn : 2 ≤ rows.length ∧ rows.length ≤ 10) (hm : 2 ≤ m ∧ m ≤ 6)
    (what N D : Int) (hwh : 0 ≤ what ∧ what ≤ 2) (hN : 0 ≤ N ∧ N ≤ 100000000000) (hD : 1 ≤ D ∧ D ≤ 100000000) (high : Bool) (hof : ∀ q, q < rows.length * m → isOff (rAt rows m q)) (h : H) (x : HullAt h a rvs rows m) :
    (om Try.prog KK).call (.fn 32 [.agg [ii sp, ii st, a], ii what, .agg [ii N, ii D], .bool high]) h = .ok (ii (psum (refG (gOf what) sp st rows m N D high) (rows.length * m))) h := by
  have wf := x.wf
  have hnm : rows.length * m ≤ 60 := by
    have := Nat.mul_le_mul hn.2 hm.2; omega
  have hg := gOf_or what
  have hFin : ∀ q, q < rows.length * m → ∀ y, (rAt rows m q).1 ≤ y → y ≤ (rAt rows m q).1 + (wide (rAt rows m q) : Int) → -130000000000000000 ≤ fAt (gOf what) sp st rows.length m N D high q y ∧ fAt (gOf what) sp st rows.length m N D high q y ≤ 130000000000000000 := fun q hq y hy hy' => by
    have ho := hof q hq
    unfold isOff at ho
    refine fAt_in hg hsp hst hn.2 hm.2 hN hD high hq ⟨by omega, ?_⟩
    unfold wide at hy'
    omega
  have hbG : ∀ q, q < rows.length * m → -130000000000000000 ≤ refG (gOf what) sp st rows m N D high q ∧ refG (gOf what) sp st rows m N D high q ≤ 130000000000000000 := fun q hq => by
    have : -130000000000000000 ≤ bestG (gOf what) sp st rows m N D high q ∧ bestG (gOf what) sp st rows m N D high q ≤ 130000000000000000 := mxf_in (hFin q hq)
    unfold refG sgn
    split <;> omega
  have hlen : ∀ h', lenE Try.prog 22 a h' = some (ii (rows.length : Int)) := fun h' => x.sl.len un_22
  have hwt : ∀ (i n : Nat), i < n → n ≤ 1000 → ∀ l w, w ≤ h.clock + l.length → (om Try.prog KK).call (.fn 51 [ii (i : Int), ii (n : Int)]) (X h l w) = .ok (ii (wt n i)) (X h l w) := fun i n hi hn l w hw => weightR i n hi hn _ (wf.X hw)
  refine WV_to (WV_call (fn := Try.f32) Try.func32 rfl rfl rfl rfl rfl ?_)
  simp only [argF]
  (repeat' (first
  | (with_reducible first | refine WC_seq ?_ | refine WC_skip ?_ | refine WC_label ?_ | refine WC_scope ?_ | refine WC_block ?_ | refine WC_ret ?_ | refine WC_exit ?_ | refine seqQ_norm ?_ | refine seqQ_ret ?_ | refine seqQ_exit ?_ | refine blkQ_norm ?_ | refine blkQ_ret ?_ | refine blkQ_here ?_ | refine gateK_yes ?_ | refine gateK_none ?_ | refine condK_tt ?_ | refine condK_ff ?_ | refine roundQ_exit ?_ | refine roundQ_ret ?_)
  | refine WC_region ?_ | refine blkQ_out rfl ?_ | refine WO_nil ?_ | refine WD_nil ?_
  | ((first | refine WD_gate rfl rfl rfl rfl rfl fun K_ hK_ => ?_ | refine WO_gate rfl rfl rfl rfl rfl fun K_ hK_ => ?_); simp only [upd_apply, asB_bool, asB_tup, ↓reduceIte, reduceCtorEq, Nat.reduceEqDiff, Bool.not_true, Bool.not_false]; refine hK_ _ ?_; clear hK_ K_)
  | refine gateK_no (by decide) ?_
  | ((try first | refine WO_op rfl rfl rfl ?_ | refine WO_op0 rfl rfl ?_ | refine WD_op rfl rfl rfl ?_ | refine WD_op0 rfl rfl ?_); (refine WV_gen fun Q_ hQ_ => ?_; simp (disch := first | omega | (simp only [List.length_cons, List.length_nil, List.length_append]; omega)) only [bb, bp, argF, ↓reduceIte, reduceCtorEq, Nat.reduceEqDiff, Nat.reduceLT, Nat.reduceLeDiff, Nat.reduceAdd, Nat.reduceMul, Nat.reduceSub, Nat.reduceBEq, Int.reduceToNat, cond_true, cond_false, eq_self, beq_self_eq_true, newPtr_X wf, load1_X wf, loadAgg_X wf, store1_X wf, writeCells_X wf, makeFunc_def, tEvK4]; first | (refine dec_split (Q := Q_) (fun hp_ => ?_) (fun hp_ => ?_) <;> first | (exfalso; omega) | (refine hQ_ _ _ ?_; clear hQ_ Q_)) | (refine dec_splitn (Q := Q_) (fun hp_ => ?_) (fun hp_ => ?_) <;> first | (exfalso; omega) | (refine hQ_ _ _ ?_; clear hQ_ Q_)) | (refine hQ_ _ _ ?_; clear hQ_ Q_)))
  | (refine WC_cond fun K_ hK_ => ?_; simp (disch := omega) only [evT_tmp, upd_apply, WB_some, ↓reduceIte, reduceCtorEq, Nat.reduceEqDiff, Nat.reduceLT]; refine hK_ _ ?_; clear hK_ K_)))
  refine WC_loop (fun (i : Nat) f d h' => i ≤ rows.length ∧ f 1 = ii what ∧ f 3 = .bool high ∧ f 4 = .ptr (nx h 0) 0 ∧ f 6 = .ptr (nx h 1) 0 ∧ f 9 = ii (psum (refG (gOf what) sp st rows m N D high) (i * m)) ∧ f 10 = ii (i : Int) ∧ d = [] ∧ h' = X h [.cells (mkCells [ii sp, ii st, a]) 24, .cells (mkCells [ii N, ii D]) 26] h.clock)
    (fun i => rows.length - i) ?_ (rows.length + 1) 0 (by omega) ?_
  · rintro i f d h' ⟨hi', g1, g3, g4, g6, g9, g10, rfl, rfl⟩
    by_cases hlt : i < rows.length
    · obtain ⟨v, hv, hsv, hrl⟩ := x.row i hlt
      obtain ⟨id, off, hix, hld⟩ := x.sl.at1 wf hlt ik_22
      rw [hv] at hld
      have hlenv : ∀ h', lenE Try.prog 52 v h' = some (ii (m : Int)) := fun h' => hsv.len un_52
      (repeat' (first
  | (with_reducible first | refine WC_seq ?_ | refine WC_skip ?_ | refine WC_label ?_ | refine WC_scope ?_ | refine WC_block ?_ | refine WC_ret ?_ | refine WC_exit ?_ | refine seqQ_norm ?_ | refine seqQ_ret ?_ | refine seqQ_exit ?_ | refine blkQ_norm ?_ | refine blkQ_ret ?_ | refine blkQ_here ?_ | refine gateK_yes ?_ | refine gateK_none ?_ | refine condK_tt ?_ | refine condK_ff ?_ | refine roundQ_exit ?_ | refine roundQ_ret ?_)
  | refine WC_region ?_ | refine blkQ_out rfl ?_ | refine WO_nil ?_ | refine WD_nil ?_
  | ((first | refine WD_gate rfl rfl rfl rfl rfl fun K_ hK_ => ?_ | refine WO_gate rfl rfl rfl rfl rfl fun K_ hK_ => ?_); simp only [upd_apply, asB_bool, asB_tup, ↓reduceIte, reduceCtorEq, Nat.reduceEqDiff, Bool.not_true, Bool.not_false]; refine hK_ _ ?_; clear hK_ K_)
  | refine gateK_no (by decide) ?_
  | ((try first | refine WO_op rfl rfl rfl ?_ | refine WO_op0 rfl rfl ?_ | refine WD_op rfl rfl rfl ?_ | refine WD_op0 rfl rfl ?_); (refine WV_gen fun Q_ hQ_ => ?_; simp (disch := first | omega | (simp only [List.length_cons, List.length_nil, List.length_append]; omega)) only [bb, bp, argF, ↓reduceIte, reduceCtorEq, Nat.reduceEqDiff, Nat.reduceLT, Nat.reduceLeDiff, Nat.reduceAdd, Nat.reduceMul, Nat.reduceSub, Nat.reduceBEq, Int.reduceToNat, cond_true, cond_false, eq_self, beq_self_eq_true, g1, g3, g4, g6, g9, g10, hlen, hix, hld, hlenv, newPtr_X wf, load1_X wf, loadAgg_X wf, store1_X wf, writeCells_X wf, makeFunc_def, tEvK4]; first | (refine dec_split (Q := Q_) (fun hp_ => ?_) (fun hp_ => ?_) <;> first | (exfalso; omega) | (refine hQ_ _ _ ?_; clear hQ_ Q_)) | (refine dec_splitn (Q := Q_) (fun hp_ => ?_) (fun hp_ => ?_) <;> first | (exfalso; omega) | (refine hQ_ _ _ ?_; clear hQ_ Q_)) | (refine hQ_ _ _ ?_; clear hQ_ Q_)))
  | (refine WC_cond fun K_ hK_ => ?_; simp (disch := omega) only [evT_tmp, upd_apply, WB_some, ↓reduceIte, reduceCtorEq, Nat.reduceEqDiff, Nat.reduceLT]; refine hK_ _ ?_; clear hK_ K_)))
      refine WC_loop (fun (k : Nat) f d h' => k ≤ m ∧ f 1 = ii what ∧ f 3 = .bool high ∧ f 4 = .ptr (nx h 0) 0 ∧ f 6 = .ptr (nx h 1) 0 ∧ f 9 = ii (psum (refG (gOf what) sp st rows m N D high) (i * m + k)) ∧ f 10 = ii (i : Int) ∧ f 11 = ii (m : Int) ∧ f 12 = ii (k : Int) ∧ d = [] ∧ h' = X h [.cells (mkCells [ii sp, ii st, a]) 24, .cells (mkCells [ii N, ii D]) 26] h.clock)
        (fun k => m - k) ?_ (m + 1) 0 (by omega) ?_
      · clear g1 g3 g4 g6 g9 g10
        rintro k f d h' ⟨hk, g1, g3, g4, g6, g9, g10, g11, g12, rfl, rfl⟩
        by_cases hkl : k < m
        · obtain ⟨id2, off2, hix2, hld2⟩ := hsv.at wf hkl ik_52
          have hkr : k < rows[i].length := by omega
          have hr0 := rAt_ik hlt hkl hrl
          have hrow0 : ∀ l w, load1 id2 off2 (X h l w) = some (ii (rAt rows m (i * m + k)).1) := fun l w => by
            have := (hld2 l w).1 0 (by decide)
            rw [Nat.add_zero] at this
            rw [this, pairCells_get hkr (by decide), hr0]; rfl
          have hrow1 : ∀ l w, load1 id2 (off2 + 1) (X h l w) = some (ii (rAt rows m (i * m + k)).2) := fun l w => by
            have := (hld2 l w).1 1 (by decide)
            rw [this, pairCells_get hkr (by decide), hr0]; rfl
          have hq := ik_lt (n := rows.length) hlt hkl
          have hF := hFin _ hq
          have ho := hof _ hq
          unfold isOff at ho
          have e1 : (i * m + k) / m = i := by rw [Nat.mul_comm, Nat.mul_add_div (by omega), Nat.div_eq_of_lt hkl]; omega
          have e2 : (i * m + k) % m = k := by rw [Nat.mul_comm, Nat.mul_add_mod]; exact Nat.mod_eq_of_lt hkl
          have e3 : W rows.length m (i * m + k) = wt rows.length i * wt m k := by unfold W; rw [e1, e2]
          have hs := psum_in2 (f := refG (gOf what) sp st rows m N D high) (b := 130000000000000000) (q := i * m + k) (fun i' hi' => hbG i' (by omega))
          have hg1 := hbG _ hq
          have hw1 := hwt i rows.length hlt (by omega)
          have hw2 := hwt k m hkl (by omega)
          have b0 := wt2 rows.length i m k
          have hwd : ((wide (rAt rows m (i * m + k)) : Nat) : Int) = (rAt rows m (i * m + k)).2 - (rAt rows m (i * m + k)).1 := by unfold wide; omega
          (repeat' (first
  | (with_reducible first | refine WC_seq ?_ | refine WC_skip ?_ | refine WC_label ?_ | refine WC_scope ?_ | refine WC_block ?_ | refine WC_ret ?_ | refine WC_exit ?_ | refine seqQ_norm ?_ | refine seqQ_ret ?_ | refine seqQ_exit ?_ | refine blkQ_norm ?_ | refine blkQ_ret ?_ | refine blkQ_here ?_ | refine gateK_yes ?_ | refine gateK_none ?_ | refine condK_tt ?_ | refine condK_ff ?_ | refine roundQ_exit ?_ | refine roundQ_ret ?_)
  | refine WC_region ?_ | refine blkQ_out rfl ?_ | refine WO_nil ?_ | refine WD_nil ?_
  | ((first | refine WD_gate rfl rfl rfl rfl rfl fun K_ hK_ => ?_ | refine WO_gate rfl rfl rfl rfl rfl fun K_ hK_ => ?_); simp only [upd_apply, asB_bool, asB_tup, ↓reduceIte, reduceCtorEq, Nat.reduceEqDiff, Bool.not_true, Bool.not_false]; refine hK_ _ ?_; clear hK_ K_)
  | refine gateK_no (by decide) ?_
  | ((try first | refine WO_op rfl rfl rfl ?_ | refine WO_op0 rfl rfl ?_ | refine WD_op rfl rfl rfl ?_ | refine WD_op0 rfl rfl ?_); (refine WV_gen fun Q_ hQ_ => ?_; simp (disch := first | omega | (simp only [List.length_cons, List.length_nil, List.length_append]; omega)) only [bb, bp, argF, ↓reduceIte, reduceCtorEq, Nat.reduceEqDiff, Nat.reduceLT, Nat.reduceLeDiff, Nat.reduceAdd, Nat.reduceMul, Nat.reduceSub, Nat.reduceBEq, Int.reduceToNat, cond_true, cond_false, eq_self, beq_self_eq_true, g1, g3, g4, g6, g9, g10, g11, g12, hlen, hix, hld, hlenv, hix2, hrow0, hrow1, hw1, hw2, newPtr_X wf, load1_X wf, loadAgg_X wf, store1_X wf, writeCells_X wf, makeFunc_def, tEvK4]; first | (refine dec_split (Q := Q_) (fun hp_ => ?_) (fun hp_ => ?_) <;> first | (exfalso; omega) | (refine hQ_ _ _ ?_; clear hQ_ Q_)) | (refine dec_splitn (Q := Q_) (fun hp_ => ?_) (fun hp_ => ?_) <;> first | (exfalso; omega) | (refine hQ_ _ _ ?_; clear hQ_ Q_)) | (refine hQ_ _ _ ?_; clear hQ_ Q_)))
  | (refine WC_cond fun K_ hK_ => ?_; simp (disch := omega) only [evT_tmp, upd_apply, WB_some, ↓reduceIte, reduceCtorEq, Nat.reduceEqDiff, Nat.reduceLT]; refine hK_ _ ?_; clear hK_ K_)))
          generalize hrr : rAt rows m (i * m + k) = r at *
          generalize hnw : wide r = nw at *
          refine WC_loop (fun (j : Nat) f d h' => j ≤ nw + 1 ∧ f 1 = ii what ∧ f 3 = .bool high ∧ f 4 = .ptr (nx h 0) 0 ∧ f 6 = .ptr (nx h 1) 0 ∧ f 9 = ii (psum (refG (gOf what) sp st rows m N D high) (i * m + k)) ∧ f 10 = ii (i : Int) ∧ f 11 = ii (m : Int) ∧ f 12 = ii (k : Int) ∧ f 13 = ii (wt rows.length i * wt m k) ∧
              f 14 = ii (if j = 0 then 0 else sgn high (mxf (fAt (gOf what) sp st rows.length m N D high (i * m + k)) r.1 (j - 1))) ∧ f 15 = ii (r.1 + (j : Int)) ∧ d = [] ∧ h' = X h [.cells (mkCells [ii sp, ii st, a]) 24, .cells (mkCells [ii N, ii D]) 26] h.clock)
            (fun j => nw + 1 - j) ?_ (nw + 2) 0 (by omega) ?_
          · clear g1 g3 g4 g6 g9 g10 g11 g12
            rintro j f d h' ⟨hj, g1, g3, g4, g6, g9, g10, g11, g12, g13, g14, g15, rfl, rfl⟩
            by_cases hjl : j < nw + 1
            · have hy : 0 ≤ r.1 + (j : Int) ∧ r.1 + (j : Int) ≤ 500 := ⟨by omega, by omega⟩
              generalize hbst : (if j = 0 then (0 : Int) else sgn high (mxf (fAt (gOf what) sp st rows.length m N D high (i * m + k)) r.1 (j - 1))) = bst at *
              have hFy : fAt (gOf what) sp st rows.length m N D high (i * m + k) (r.1 + (j : Int)) = sgn high (gapOf (gOf what) sp st m i k (wt rows.length i * wt m k) N D (r.1 + (j : Int))) := by unfold fAt; rw [e1, e2, e3]
              have hX := gap_in hg hsp hst hm.2 (i := i) (k := k) (by omega) hkl b0 hy hN hD
              have hy0 : (r.1 + (j : Int) = r.1) ↔ j = 0 := by omega
              have hylt : r.1 + (j : Int) ≤ r.2 := by omega
              generalize hyy : r.1 + (j : Int) = y at *
              generalize hWW : wt rows.length i * wt m k = w at *
              have bi := wt_in rows.length i
              have a1 := mul_bd (a := sp) (b := (i : Int)) (x := 1000) (y := 9) ⟨by omega, by omega⟩ ⟨by omega, by omega⟩
              have a2 := mul_bd a1 b0
              have a3 := mul_bd a2 hy
              have c1 := mul_bd b0 hy
              have s1 := mul_bd (a := st) (b := (k : Int)) (x := 100) (y := 5) ⟨by omega, by omega⟩ ⟨by omega, by omega⟩
              have s2 := mul_bd s1 b0
              have s3 := mul_bd s2 hy
              have t1 := mul_bd (a := 3 * st) (b := st) (x := 300) (y := 100) ⟨by omega, by omega⟩ ⟨by omega, by omega⟩
              have t2 := mul_bd t1 (b := (k : Int)) (y := 5) ⟨by omega, by omega⟩
              have t3 := mul_bd t2 b0
              have t4 := mul_bd t3 hy
              have u1 := mul_bd (a := 3 * st) (x := 300) ⟨by omega, by omega⟩ b0
              have u2 := mul_bd u1 hy
              have v2 := mul_bd (a := 2 * wt rows.length i) (x := 4) ⟨by omega, by omega⟩ hy
              have v3 := mul_bd v2 hy
              have v4 := mul_bd v3 hy
              have d0 := mul_bd (a := D) (x := 100000000) ⟨by omega, by omega⟩ a3
              have d1 := mul_bd (a := D) (x := 100000000) ⟨by omega, by omega⟩ s3
              have d2 := mul_bd (a := D) (x := 100000000) ⟨by omega, by omega⟩ t4
              have d3 := mul_bd (a := D) (x := 100000000) (b := 3 * st * st * (k : Int) * w * y + 2 * wt rows.length i * y * y * y) (y := 1000000000) ⟨by omega, by omega⟩ ⟨by omega, by omega⟩
              have m0' := mul_bd hN c1
              have m2' := mul_bd hN u2
              rcases (by omega : what = 0 ∨ what = 1 ∨ what = 2) with rfl | rfl | rfl
              · have hx0 : D * (sp * (i : Int) * w * y) - N * (w * y) = gapOf (gOf 0) sp st m i k w N D y := by
                  simp only [gapOf, gOf, numOf, denOf, ↓reduceIte, Nat.reduceEqDiff]; grind
                cases high
                · (repeat' (first
  | (with_reducible first | refine WC_seq ?_ | refine WC_skip ?_ | refine WC_label ?_ | refine WC_scope ?_ | refine WC_block ?_ | refine WC_ret ?_ | refine WC_exit ?_ | refine seqQ_norm ?_ | refine seqQ_ret ?_ | refine seqQ_exit ?_ | refine blkQ_norm ?_ | refine blkQ_ret ?_ | refine blkQ_here ?_ | refine gateK_yes ?_ | refine gateK_none ?_ | refine condK_tt ?_ | refine condK_ff ?_ | refine roundQ_exit ?_ | refine roundQ_ret ?_)
  | refine WC_region ?_ | refine blkQ_out rfl ?_ | refine WO_nil ?_ | refine WD_nil ?_
  | ((first | refine WD_gate rfl rfl rfl rfl rfl fun K_ hK_ => ?_ | refine WO_gate rfl rfl rfl rfl rfl fun K_ hK_ => ?_); simp only [upd_apply, asB_bool, asB_tup, ↓reduceIte, reduceCtorEq, Nat.reduceEqDiff, Bool.not_true, Bool.not_false]; refine hK_ _ ?_; clear hK_ K_)
  | refine gateK_no (by decide) ?_
  | ((try first | refine WO_op rfl rfl rfl ?_ | refine WO_op0 rfl rfl ?_ | refine WD_op rfl rfl rfl ?_ | refine WD_op0 rfl rfl ?_); (refine WV_gen fun Q_ hQ_ => ?_; simp (disch := first | omega | (simp only [List.length_cons, List.length_nil, List.length_append]; omega)) only [bb, bp, argF, ↓reduceIte, reduceCtorEq, Nat.reduceEqDiff, Nat.reduceLT, Nat.reduceLeDiff, Nat.reduceAdd, Nat.reduceMul, Nat.reduceSub, Nat.reduceBEq, Int.reduceToNat, cond_true, cond_false, eq_self, beq_self_eq_true, g1, g3, g4, g6, g9, g10, g11, g12, g13, g14, g15, hx0, hy0, hlen, hix, hld, hlenv, hix2, hrow0, hrow1, newPtr_X wf, load1_X wf, loadAgg_X wf, store1_X wf, writeCells_X wf, makeFunc_def, tEvK4]; first | (refine dec_split (Q := Q_) (fun hp_ => ?_) (fun hp_ => ?_) <;> first | (exfalso; omega) | (refine hQ_ _ _ ?_; clear hQ_ Q_)) | (refine dec_splitn (Q := Q_) (fun hp_ => ?_) (fun hp_ => ?_) <;> first | (exfalso; omega) | (refine hQ_ _ _ ?_; clear hQ_ Q_)) | (refine hQ_ _ _ ?_; clear hQ_ Q_)))
  | (refine WC_cond fun K_ hK_ => ?_; simp (disch := omega) only [evT_tmp, upd_apply, WB_some, ↓reduceIte, reduceCtorEq, Nat.reduceEqDiff, Nat.reduceLT]; refine hK_ _ ?_; clear hK_ K_)))
                  all_goals
                    first
                      | (refine roundQ_again (j + 1) (by omega) ⟨by omega, by simp only [upd_apply, ↓reduceIte, reduceCtorEq, Nat.reduceEqDiff]; exact g1, by simp only [upd_apply, ↓reduceIte, reduceCtorEq, Nat.reduceEqDiff]; exact g3, by simp only [upd_apply, ↓reduceIte, reduceCtorEq, Nat.reduceEqDiff]; exact g4, by simp only [upd_apply, ↓reduceIte, reduceCtorEq, Nat.reduceEqDiff]; exact g6, by simp only [upd_apply, ↓reduceIte, reduceCtorEq, Nat.reduceEqDiff]; exact g9, by simp only [upd_apply, ↓reduceIte, reduceCtorEq, Nat.reduceEqDiff]; exact g10, by simp only [upd_apply, ↓reduceIte, reduceCtorEq, Nat.reduceEqDiff]; exact g11, by simp only [upd_apply, ↓reduceIte, reduceCtorEq, Nat.reduceEqDiff]; exact g12, by simp only [upd_apply, ↓reduceIte, reduceCtorEq, Nat.reduceEqDiff]; exact g13, by simp only [upd_apply, ↓reduceIte, reduceCtorEq, Nat.reduceEqDiff]; exact congrArg ii (mx_taken (by rw [hyy]; exact hFy) hbst (by first | exact .inl (by omega) | exact .inr (.inl ⟨rfl, by omega⟩) | exact .inr (.inr ⟨rfl, by omega⟩))), by simp only [upd_apply, ↓reduceIte, reduceCtorEq, Nat.reduceEqDiff]; exact congrArg ii (by omega), rfl, rfl⟩)
                      | (refine roundQ_again (j + 1) (by omega) ⟨by omega, by simp only [upd_apply, ↓reduceIte, reduceCtorEq, Nat.reduceEqDiff]; exact g1, by simp only [upd_apply, ↓reduceIte, reduceCtorEq, Nat.reduceEqDiff]; exact g3, by simp only [upd_apply, ↓reduceIte, reduceCtorEq, Nat.reduceEqDiff]; exact g4, by simp only [upd_apply, ↓reduceIte, reduceCtorEq, Nat.reduceEqDiff]; exact g6, by simp only [upd_apply, ↓reduceIte, reduceCtorEq, Nat.reduceEqDiff]; exact g9, by simp only [upd_apply, ↓reduceIte, reduceCtorEq, Nat.reduceEqDiff]; exact g10, by simp only [upd_apply, ↓reduceIte, reduceCtorEq, Nat.reduceEqDiff]; exact g11, by simp only [upd_apply, ↓reduceIte, reduceCtorEq, Nat.reduceEqDiff]; exact g12, by simp only [upd_apply, ↓reduceIte, reduceCtorEq, Nat.reduceEqDiff]; exact g13, by simp only [upd_apply, ↓reduceIte, reduceCtorEq, Nat.reduceEqDiff]; rw [g14]; exact congrArg ii (mx_left (by rw [hyy]; exact hFy) hbst (by omega) (by first | (intro _; omega) | (intro hh; cases hh)) (by first | (intro _; omega) | (intro hh; cases hh))), by simp only [upd_apply, ↓reduceIte, reduceCtorEq, Nat.reduceEqDiff]; exact congrArg ii (by omega), rfl, rfl⟩)
                · (repeat' (first
  | (with_reducible first | refine WC_seq ?_ | refine WC_skip ?_ | refine WC_label ?_ | refine WC_scope ?_ | refine WC_block ?_ | refine WC_ret ?_ | refine WC_exit ?_ | refine seqQ_norm ?_ | refine seqQ_ret ?_ | refine seqQ_exit ?_ | refine blkQ_norm ?_ | refine blkQ_ret ?_ | refine blkQ_here ?_ | refine gateK_yes ?_ | refine gateK_none ?_ | refine condK_tt ?_ | refine condK_ff ?_ | refine roundQ_exit ?_ | refine roundQ_ret ?_)
  | refine WC_region ?_ | refine blkQ_out rfl ?_ | refine WO_nil ?_ | refine WD_nil ?_
  | ((first | refine WD_gate rfl rfl rfl rfl rfl fun K_ hK_ => ?_ | refine WO_gate rfl rfl rfl rfl rfl fun K_ hK_ => ?_); simp only [upd_apply, asB_bool, asB_tup, ↓reduceIte, reduceCtorEq, Nat.reduceEqDiff, Bool.not_true, Bool.not_false]; refine hK_ _ ?_; clear hK_ K_)
  | refine gateK_no (by decide) ?_
  | ((try first | refine WO_op rfl rfl rfl ?_ | refine WO_op0 rfl rfl ?_ | refine WD_op rfl rfl rfl ?_ | refine WD_op0 rfl rfl ?_); (refine WV_gen fun Q_ hQ_ => ?_; simp (disch := first | omega | (simp only [List.length_cons, List.length_nil, List.length_append]; omega)) only [bb, bp, argF, ↓reduceIte, reduceCtorEq, Nat.reduceEqDiff, Nat.reduceLT, Nat.reduceLeDiff, Nat.reduceAdd, Nat.reduceMul, Nat.reduceSub, Nat.reduceBEq, Int.reduceToNat, cond_true, cond_false, eq_self, beq_self_eq_true, g1, g3, g4, g6, g9, g10, g11, g12, g13, g14, g15, hx0, hy0, hlen, hix, hld, hlenv, hix2, hrow0, hrow1, newPtr_X wf, load1_X wf, loadAgg_X wf, store1_X wf, writeCells_X wf, makeFunc_def, tEvK4]; first | (refine dec_split (Q := Q_) (fun hp_ => ?_) (fun hp_ => ?_) <;> first | (exfalso; omega) | (refine hQ_ _ _ ?_; clear hQ_ Q_)) | (refine dec_splitn (Q := Q_) (fun hp_ => ?_) (fun hp_ => ?_) <;> first | (exfalso; omega) | (refine hQ_ _ _ ?_; clear hQ_ Q_)) | (refine hQ_ _ _ ?_; clear hQ_ Q_)))
  | (refine WC_cond fun K_ hK_ => ?_; simp (disch := omega) only [evT_tmp, upd_apply, WB_some, ↓reduceIte, reduceCtorEq, Nat.reduceEqDiff, Nat.reduceLT]; refine hK_ _ ?_; clear hK_ K_)))
                  all_goals
                    first
                      | (refine roundQ_again (j + 1) (by omega) ⟨by omega, by simp only [upd_apply, ↓reduceIte, reduceCtorEq, Nat.reduceEqDiff]; exact g1, by simp only [upd_apply, ↓reduceIte, reduceCtorEq, Nat.reduceEqDiff]; exact g3, by simp only [upd_apply, ↓reduceIte, reduceCtorEq, Nat.reduceEqDiff]; exact g4, by simp only [upd_apply, ↓reduceIte, reduceCtorEq, Nat.reduceEqDiff]; exact g6, by simp only [upd_apply, ↓reduceIte, reduceCtorEq, Nat.reduceEqDiff]; exact g9, by simp only [upd_apply, ↓reduceIte, reduceCtorEq, Nat.reduceEqDiff]; exact g10, by simp only [upd_apply, ↓reduceIte, reduceCtorEq, Nat.reduceEqDiff]; exact g11, by simp only [upd_apply, ↓reduceIte, reduceCtorEq, Nat.reduceEqDiff]; exact g12, by simp only [upd_apply, ↓reduceIte, reduceCtorEq, Nat.reduceEqDiff]; exact g13, by simp only [upd_apply, ↓reduceIte, reduceCtorEq, Nat.reduceEqDiff]; exact congrArg ii (mx_taken (by rw [hyy]; exact hFy) hbst (by first | exact .inl (by omega) | exact .inr (.inl ⟨rfl, by omega⟩) | exact .inr (.inr ⟨rfl, by omega⟩))), by simp only [upd_apply, ↓reduceIte, reduceCtorEq, Nat.reduceEqDiff]; exact congrArg ii (by omega), rfl, rfl⟩)
                      | (refine roundQ_again (j + 1) (by omega) ⟨by omega, by simp only [upd_apply, ↓reduceIte, reduceCtorEq, Nat.reduceEqDiff]; exact g1, by simp only [upd_apply, ↓reduceIte, reduceCtorEq, Nat.reduceEqDiff]; exact g3, by simp only [upd_apply, ↓reduceIte, reduceCtorEq, Nat.reduceEqDiff]; exact g4, by simp only [upd_apply, ↓reduceIte, reduceCtorEq, Nat.reduceEqDiff]; exact g6, by simp only [upd_apply, ↓reduceIte, reduceCtorEq, Nat.reduceEqDiff]; exact g9, by simp only [upd_apply, ↓reduceIte, reduceCtorEq, Nat.reduceEqDiff]; exact g10, by simp only [upd_apply, ↓reduceIte, reduceCtorEq, Nat.reduceEqDiff]; exact g11, by simp only [upd_apply, ↓reduceIte, reduceCtorEq, Nat.reduceEqDiff]; exact g12, by simp only [upd_apply, ↓reduceIte, reduceCtorEq, Nat.reduceEqDiff]; exact g13, by simp only [upd_apply, ↓reduceIte, reduceCtorEq, Nat.reduceEqDiff]; rw [g14]; exact congrArg ii (mx_left (by rw [hyy]; exact hFy) hbst (by omega) (by first | (intro _; omega) | (intro hh; cases hh)) (by first | (intro _; omega) | (intro hh; cases hh))), by simp only [upd_apply, ↓reduceIte, reduceCtorEq, Nat.reduceEqDiff]; exact congrArg ii (by omega), rfl, rfl⟩)
              · have hx0 : D * (st * (k : Int) * w * y) - N * (w * y) = gapOf (gOf 1) sp st m i k w N D y := by
                  simp only [gapOf, gOf, numOf, denOf, ↓reduceIte, Nat.reduceEqDiff, reduceCtorEq, Int.reduceEq]; grind
                cases high
                · (repeat' (first
  | (with_reducible first | refine WC_seq ?_ | refine WC_skip ?_ | refine WC_label ?_ | refine WC_scope ?_ | refine WC_block ?_ | refine WC_ret ?_ | refine WC_exit ?_ | refine seqQ_norm ?_ | refine seqQ_ret ?_ | refine seqQ_exit ?_ | refine blkQ_norm ?_ | refine blkQ_ret ?_ | refine blkQ_here ?_ | refine gateK_yes ?_ | refine gateK_none ?_ | refine condK_tt ?_ | refine condK_ff ?_ | refine roundQ_exit ?_ | refine roundQ_ret ?_)
  | refine WC_region ?_ | refine blkQ_out rfl ?_ | refine WO_nil ?_ | refine WD_nil ?_
  | ((first | refine WD_gate rfl rfl rfl rfl rfl fun K_ hK_ => ?_ | refine WO_gate rfl rfl rfl rfl rfl fun K_ hK_ => ?_); simp only [upd_apply, asB_bool, asB_tup, ↓reduceIte, reduceCtorEq, Nat.reduceEqDiff, Bool.not_true, Bool.not_false]; refine hK_ _ ?_; clear hK_ K_)
  | refine gateK_no (by decide) ?_
  | ((try first | refine WO_op rfl rfl rfl ?_ | refine WO_op0 rfl rfl ?_ | refine WD_op rfl rfl rfl ?_ | refine WD_op0 rfl rfl ?_); (refine WV_gen fun Q_ hQ_ => ?_; simp (disch := first | omega | (simp only [List.length_cons, List.length_nil, List.length_append]; omega)) only [bb, bp, argF, ↓reduceIte, reduceCtorEq, Nat.reduceEqDiff, Nat.reduceLT, Nat.reduceLeDiff, Nat.reduceAdd, Nat.reduceMul, Nat.reduceSub, Nat.reduceBEq, Int.reduceToNat, cond_true, cond_false, eq_self, beq_self_eq_true, g1, g3, g4, g6, g9, g10, g11, g12, g13, g14, g15, hx0, hy0, hlen, hix, hld, hlenv, hix2, hrow0, hrow1, newPtr_X wf, load1_X wf, loadAgg_X wf, store1_X wf, writeCells_X wf, makeFunc_def, tEvK4]; first | (refine dec_split (Q := Q_) (fun hp_ => ?_) (fun hp_ => ?_) <;> first | (exfalso; omega) | (refine hQ_ _ _ ?_; clear hQ_ Q_)) | (refine dec_splitn (Q := Q_) (fun hp_ => ?_) (fun hp_ => ?_) <;> first | (exfalso; omega) | (refine hQ_ _ _ ?_; clear hQ_ Q_)) | (refine hQ_ _ _ ?_; clear hQ_ Q_)))
  | (refine WC_cond fun K_ hK_ => ?_; simp (disch := omega) only [evT_tmp, upd_apply, WB_some, ↓reduceIte, reduceCtorEq, Nat.reduceEqDiff, Nat.reduceLT]; refine hK_ _ ?_; clear hK_ K_)))
                  all_goals
                    first
                      | (refine roundQ_again (j + 1) (by omega) ⟨by omega, by simp only [upd_apply, ↓reduceIte, reduceCtorEq, Nat.reduceEqDiff]; exact g1, by simp only [upd_apply, ↓reduceIte, reduceCtorEq, Nat.reduceEqDiff]; exact g3, by simp only [upd_apply, ↓reduceIte, reduceCtorEq, Nat.reduceEqDiff]; exact g4, by simp only [upd_apply, ↓reduceIte, reduceCtorEq, Nat.reduceEqDiff]; exact g6, by simp only [upd_apply, ↓reduceIte, reduceCtorEq, Nat.reduceEqDiff]; exact g9, by simp only [upd_apply, ↓reduceIte, reduceCtorEq, Nat.reduceEqDiff]; exact g10, by simp only [upd_apply, ↓reduceIte, reduceCtorEq, Nat.reduceEqDiff]; exact g11, by simp only [upd_apply, ↓reduceIte, reduceCtorEq, Nat.reduceEqDiff]; exact g12, by simp only [upd_apply, ↓reduceIte, reduceCtorEq, Nat.reduceEqDiff]; exact g13, by simp only [upd_apply, ↓reduceIte, reduceCtorEq, Nat.reduceEqDiff]; exact congrArg ii (mx_taken (by rw [hyy]; exact hFy) hbst (by first | exact .inl (by omega) | exact .inr (.inl ⟨rfl, by omega⟩) | exact .inr (.inr ⟨rfl, by omega⟩))), by simp only [upd_apply, ↓reduceIte, reduceCtorEq, Nat.reduceEqDiff]; exact congrArg ii (by omega), rfl, rfl⟩)
                      | (refine roundQ_again (j + 1) (by omega) ⟨by omega, by simp only [upd_apply, ↓reduceIte, reduceCtorEq, Nat.reduceEqDiff]; exact g1, by simp only [upd_apply, ↓reduceIte, reduceCtorEq, Nat.reduceEqDiff]; exact g3, by simp only [upd_apply, ↓reduceIte, reduceCtorEq, Nat.reduceEqDiff]; exact g4, by simp only [upd_apply, ↓reduceIte, reduceCtorEq, Nat.reduceEqDiff]; exact g6, by simp only [upd_apply, ↓reduceIte, reduceCtorEq, Nat.reduceEqDiff]; exact g9, by simp only [upd_apply, ↓reduceIte, reduceCtorEq, Nat.reduceEqDiff]; exact g10, by simp only [upd_apply, ↓reduceIte, reduceCtorEq, Nat.reduceEqDiff]; exact g11, by simp only [upd_apply, ↓reduceIte, reduceCtorEq, Nat.reduceEqDiff]; exact g12, by simp only [upd_apply, ↓reduceIte, reduceCtorEq, Nat.reduceEqDiff]; exact g13, by simp only [upd_apply, ↓reduceIte, reduceCtorEq, Nat.reduceEqDiff]; rw [g14]; exact congrArg ii (mx_left (by rw [hyy]; exact hFy) hbst (by omega) (by first | (intro _; omega) | (intro hh; cases hh)) (by first | (intro _; omega) | (intro hh; cases hh))), by simp only [upd_apply, ↓reduceIte, reduceCtorEq, Nat.reduceEqDiff]; exact congrArg ii (by omega), rfl, rfl⟩)
                · (repeat' (first
  | (with_reducible first | refine WC_seq ?_ | refine WC_skip ?_ | refine WC_label ?_ | refine WC_scope ?_ | refine WC_block ?_ | refine WC_ret ?_ | refine WC_exit ?_ | refine seqQ_norm ?_ | refine seqQ_ret ?_ | refine seqQ_exit ?_ | refine blkQ_norm ?_ | refine blkQ_ret ?_ | refine blkQ_here ?_ | refine gateK_yes ?_ | refine gateK_none ?_ | refine condK_tt ?_ | refine condK_ff ?_ | refine roundQ_exit ?_ | refine roundQ_ret ?_)
  | refine WC_region ?_ | refine blkQ_out rfl ?_ | refine WO_nil ?_ | refine WD_nil ?_
  | ((first | refine WD_gate rfl rfl rfl rfl rfl fun K_ hK_ => ?_ | refine WO_gate rfl rfl rfl rfl rfl fun K_ hK_ => ?_); simp only [upd_apply, asB_bool, asB_tup, ↓reduceIte, reduceCtorEq, Nat.reduceEqDiff, Bool.not_true, Bool.not_false]; refine hK_ _ ?_; clear hK_ K_)
  | refine gateK_no (by decide) ?_
  | ((try first | refine WO_op rfl rfl rfl ?_ | refine WO_op0 rfl rfl ?_ | refine WD_op rfl rfl rfl ?_ | refine WD_op0 rfl rfl ?_); (refine WV_gen fun Q_ hQ_ => ?_; simp (disch := first | omega | (simp only [List.length_cons, List.length_nil, List.length_append]; omega)) only [bb, bp, argF, ↓reduceIte, reduceCtorEq, Nat.reduceEqDiff, Nat.reduceLT, Nat.reduceLeDiff, Nat.reduceAdd, Nat.reduceMul, Nat.reduceSub, Nat.reduceBEq, Int.reduceToNat, cond_true, cond_false, eq_self, beq_self_eq_true, g1, g3, g4, g6, g9, g10, g11, g12, g13, g14, g15, hx0, hy0, hlen, hix, hld, hlenv, hix2, hrow0, hrow1, newPtr_X wf, load1_X wf, loadAgg_X wf, store1_X wf, writeCells_X wf, makeFunc_def, tEvK4]; first | (refine dec_split (Q := Q_) (fun hp_ => ?_) (fun hp_ => ?_) <;> first | (exfalso; omega) | (refine hQ_ _ _ ?_; clear hQ_ Q_)) | (refine dec_splitn (Q := Q_) (fun hp_ => ?_) (fun hp_ => ?_) <;> first | (exfalso; omega) | (refine hQ_ _ _ ?_; clear hQ_ Q_)) | (refine hQ_ _ _ ?_; clear hQ_ Q_)))
  | (refine WC_cond fun K_ hK_ => ?_; simp (disch := omega) only [evT_tmp, upd_apply, WB_some, ↓reduceIte, reduceCtorEq, Nat.reduceEqDiff, Nat.reduceLT]; refine hK_ _ ?_; clear hK_ K_)))
                  all_goals
                    first
                      | (refine roundQ_again (j + 1) (by omega) ⟨by omega, by simp only [upd_apply, ↓reduceIte, reduceCtorEq, Nat.reduceEqDiff]; exact g1, by simp only [upd_apply, ↓reduceIte, reduceCtorEq, Nat.reduceEqDiff]; exact g3, by simp only [upd_apply, ↓reduceIte, reduceCtorEq, Nat.reduceEqDiff]; exact g4, by simp only [upd_apply, ↓reduceIte, reduceCtorEq, Nat.reduceEqDiff]; exact g6, by simp only [upd_apply, ↓reduceIte, reduceCtorEq, Nat.reduceEqDiff]; exact g9, by simp only [upd_apply, ↓reduceIte, reduceCtorEq, Nat.reduceEqDiff]; exact g10, by simp only [upd_apply, ↓reduceIte, reduceCtorEq, Nat.reduceEqDiff]; exact g11, by simp only [upd_apply, ↓reduceIte, reduceCtorEq, Nat.reduceEqDiff]; exact g12, by simp only [upd_apply, ↓reduceIte, reduceCtorEq, Nat.reduceEqDiff]; exact g13, by simp only [upd_apply, ↓reduceIte, reduceCtorEq, Nat.reduceEqDiff]; exact congrArg ii (mx_taken (by rw [hyy]; exact hFy) hbst (by first | exact .inl (by omega) | exact .inr (.inl ⟨rfl, by omega⟩) | exact .inr (.inr ⟨rfl, by omega⟩))), by simp only [upd_apply, ↓reduceIte, reduceCtorEq, Nat.reduceEqDiff]; exact congrArg ii (by omega), rfl, rfl⟩)
                      | (refine roundQ_again (j + 1) (by omega) ⟨by omega, by simp only [upd_apply, ↓reduceIte, reduceCtorEq, Nat.reduceEqDiff]; exact g1, by simp only [upd_apply, ↓reduceIte, reduceCtorEq, Nat.reduceEqDiff]; exact g3, by simp only [upd_apply, ↓reduceIte, reduceCtorEq, Nat.reduceEqDiff]; exact g4, by simp only [upd_apply, ↓reduceIte, reduceCtorEq, Nat.reduceEqDiff]; exact g6, by simp only [upd_apply, ↓reduceIte, reduceCtorEq, Nat.reduceEqDiff]; exact g9, by simp only [upd_apply, ↓reduceIte, reduceCtorEq, Nat.reduceEqDiff]; exact g10, by simp only [upd_apply, ↓reduceIte, reduceCtorEq, Nat.reduceEqDiff]; exact g11, by simp only [upd_apply, ↓reduceIte, reduceCtorEq, Nat.reduceEqDiff]; exact g12, by simp only [upd_apply, ↓reduceIte, reduceCtorEq, Nat.reduceEqDiff]; exact g13, by simp only [upd_apply, ↓reduceIte, reduceCtorEq, Nat.reduceEqDiff]; rw [g14]; exact congrArg ii (mx_left (by rw [hyy]; exact hFy) hbst (by omega) (by first | (intro _; omega) | (intro hh; cases hh)) (by first | (intro _; omega) | (intro hh; cases hh))), by simp only [upd_apply, ↓reduceIte, reduceCtorEq, Nat.reduceEqDiff]; exact congrArg ii (by omega), rfl, rfl⟩)
              · by_cases hkm : k + 1 = m
                · have hwk : wt m k = 1 := by rw [show k = m - 1 by omega]; exact wt_last (by omega)
                  have hkm' : ((k : Int) = (m : Int) - 1) = True := eq_true (by omega)
                  have hwi : wt rows.length i = w := by rw [← hWW, hwk]; omega
                  have hw1' := hwt i rows.length hlt (by omega)
                  rw [hwi] at hw1'
                  rw [hwi] at v2 v3 v4 d3 bi
                  have hx0 : D * (3 * st * st * (k : Int) * w * y + 2 * w * y * y * y) - N * (3 * st * w * y) = gapOf (gOf 2) sp st m i k w N D y := by
                    simp only [gapOf, gOf, numOf, denOf, ↓reduceIte, Nat.reduceEqDiff, reduceCtorEq, Int.reduceEq, hkm]; grind
                  cases high
                  · (repeat' (first
  | (with_reducible first | refine WC_seq ?_ | refine WC_skip ?_ | refine WC_label ?_ | refine WC_scope ?_ | refine WC_block ?_ | refine WC_ret ?_ | refine WC_exit ?_ | refine seqQ_norm ?_ | refine seqQ_ret ?_ | refine seqQ_exit ?_ | refine blkQ_norm ?_ | refine blkQ_ret ?_ | refine blkQ_here ?_ | refine gateK_yes ?_ | refine gateK_none ?_ | refine condK_tt ?_ | refine condK_ff ?_ | refine roundQ_exit ?_ | refine roundQ_ret ?_)
  | refine WC_region ?_ | refine blkQ_out rfl ?_ | refine WO_nil ?_ | refine WD_nil ?_
  | ((first | refine WD_gate rfl rfl rfl rfl rfl fun K_ hK_ => ?_ | refine WO_gate rfl rfl rfl rfl rfl fun K_ hK_ => ?_); simp only [upd_apply, asB_bool, asB_tup, ↓reduceIte, reduceCtorEq, Nat.reduceEqDiff, Bool.not_true, Bool.not_false]; refine hK_ _ ?_; clear hK_ K_)
  | refine gateK_no (by decide) ?_
  | ((try first | refine WO_op rfl rfl rfl ?_ | refine WO_op0 rfl rfl ?_ | refine WD_op rfl rfl rfl ?_ | refine WD_op0 rfl rfl ?_); (refine WV_gen fun Q_ hQ_ => ?_; simp (disch := first | omega | (simp only [List.length_cons, List.length_nil, List.length_append]; omega)) only [bb, bp, argF, ↓reduceIte, reduceCtorEq, Nat.reduceEqDiff, Nat.reduceLT, Nat.reduceLeDiff, Nat.reduceAdd, Nat.reduceMul, Nat.reduceSub, Nat.reduceBEq, Int.reduceToNat, cond_true, cond_false, eq_self, beq_self_eq_true, g1, g3, g4, g6, g9, g10, g11, g12, g13, g14, g15, hx0, hy0, hlen, hix, hld, hlenv, hix2, hrow0, hrow1, newPtr_X wf, load1_X wf, loadAgg_X wf, store1_X wf, writeCells_X wf, makeFunc_def, tEvK4, hw1', hkm']; first | (refine dec_split (Q := Q_) (fun hp_ => ?_) (fun hp_ => ?_) <;> first | (exfalso; omega) | (refine hQ_ _ _ ?_; clear hQ_ Q_)) | (refine dec_splitn (Q := Q_) (fun hp_ => ?_) (fun hp_ => ?_) <;> first | (exfalso; omega) | (refine hQ_ _ _ ?_; clear hQ_ Q_)) | (refine hQ_ _ _ ?_; clear hQ_ Q_)))
  | (refine WC_cond fun K_ hK_ => ?_; simp (disch := omega) only [evT_tmp, upd_apply, WB_some, ↓reduceIte, reduceCtorEq, Nat.reduceEqDiff, Nat.reduceLT]; refine hK_ _ ?_; clear hK_ K_)))
                    refine WC_drawnB [.no, .no, .no, .no, .no, .no, .no, .no, .no, .no, .no, .no, .no, .no, .no, .no, .no, .no, .no, .no, .full] (by kernel_rfl) ?_
                    (repeat' (first
  | (with_reducible first | refine WC_seq ?_ | refine WC_skip ?_ | refine WC_label ?_ | refine WC_scope ?_ | refine WC_block ?_ | refine WC_ret ?_ | refine WC_exit ?_ | refine seqQ_norm ?_ | refine seqQ_ret ?_ | refine seqQ_exit ?_ | refine blkQ_norm ?_ | refine blkQ_ret ?_ | refine blkQ_here ?_ | refine gateK_yes ?_ | refine gateK_none ?_ | refine condK_tt ?_ | refine condK_ff ?_ | refine roundQ_exit ?_ | refine roundQ_ret ?_)
  | refine WC_region ?_ | refine blkQ_out rfl ?_ | refine WO_nil ?_ | refine WD_nil ?_
  | ((first | refine WD_gate rfl rfl rfl rfl rfl fun K_ hK_ => ?_ | refine WO_gate rfl rfl rfl rfl rfl fun K_ hK_ => ?_); simp only [upd_apply, asB_bool, asB_tup, ↓reduceIte, reduceCtorEq, Nat.reduceEqDiff, Bool.not_true, Bool.not_false]; refine hK_ _ ?_; clear hK_ K_)
  | refine gateK_no (by decide) ?_
  | ((try first | refine WO_op rfl rfl rfl ?_ | refine WO_op0 rfl rfl ?_ | refine WD_op rfl rfl rfl ?_ | refine WD_op0 rfl rfl ?_); (refine WV_gen fun Q_ hQ_ => ?_; simp (disch := first | omega | (simp only [List.length_cons, List.length_nil, List.length_append]; omega)) only [bb, bp, argF, ↓reduceIte, reduceCtorEq, Nat.reduceEqDiff, Nat.reduceLT, Nat.reduceLeDiff, Nat.reduceAdd, Nat.reduceMul, Nat.reduceSub, Nat.reduceBEq, Int.reduceToNat, cond_true, cond_false, eq_self, beq_self_eq_true, g1, g3, g4, g6, g9, g10, g11, g12, g13, g14, g15, hx0, hy0, hlen, hix, hld, hlenv, hix2, hrow0, hrow1, newPtr_X wf, load1_X wf, loadAgg_X wf, store1_X wf, writeCells_X wf, makeFunc_def, tEvK4, hw1', hkm']; first | (refine dec_split (Q := Q_) (fun hp_ => ?_) (fun hp_ => ?_) <;> first | (exfalso; omega) | (refine hQ_ _ _ ?_; clear hQ_ Q_)) | (refine dec_splitn (Q := Q_) (fun hp_ => ?_) (fun hp_ => ?_) <;> first | (exfalso; omega) | (refine hQ_ _ _ ?_; clear hQ_ Q_)) | (refine hQ_ _ _ ?_; clear hQ_ Q_)))
  | (refine WC_cond fun K_ hK_ => ?_; simp (disch := omega) only [evT_tmp, upd_apply, WB_some, ↓reduceIte, reduceCtorEq, Nat.reduceEqDiff, Nat.reduceLT]; refine hK_ _ ?_; clear hK_ K_)))
                    all_goals
                      first
                        | (refine roundQ_again (j + 1) (by omega) ⟨by omega, by simp only [upd_apply, ↓reduceIte, reduceCtorEq, Nat.reduceEqDiff]; exact g1, by simp only [upd_apply, ↓reduceIte, reduceCtorEq, Nat.reduceEqDiff]; exact g3, by simp only [upd_apply, ↓reduceIte, reduceCtorEq, Nat.reduceEqDiff]; exact g4, by simp only [upd_apply, ↓reduceIte, reduceCtorEq, Nat.reduceEqDiff]; exact g6, by simp only [upd_apply, ↓reduceIte, reduceCtorEq, Nat.reduceEqDiff]; exact g9, by simp only [upd_apply, ↓reduceIte, reduceCtorEq, Nat.reduceEqDiff]; exact g10, by simp only [upd_apply, ↓reduceIte, reduceCtorEq, Nat.reduceEqDiff]; exact g11, by simp only [upd_apply, ↓reduceIte, reduceCtorEq, Nat.reduceEqDiff]; exact g12, by simp only [upd_apply, ↓reduceIte, reduceCtorEq, Nat.reduceEqDiff]; exact g13, by simp only [upd_apply, ↓reduceIte, reduceCtorEq, Nat.reduceEqDiff]; exact congrArg ii (mx_taken (by rw [hyy]; exact hFy) hbst (by first | exact .inl (by omega) | exact .inr (.inl ⟨rfl, by omega⟩) | exact .inr (.inr ⟨rfl, by omega⟩))), by simp only [upd_apply, ↓reduceIte, reduceCtorEq, Nat.reduceEqDiff]; exact congrArg ii (by omega), rfl, rfl⟩)
                        | (refine roundQ_again (j + 1) (by omega) ⟨by omega, by simp only [upd_apply, ↓reduceIte, reduceCtorEq, Nat.reduceEqDiff]; exact g1, by simp only [upd_apply, ↓reduceIte, reduceCtorEq, Nat.reduceEqDiff]; exact g3, by simp only [upd_apply, ↓reduceIte, reduceCtorEq, Nat.reduceEqDiff]; exact g4, by simp only [upd_apply, ↓reduceIte, reduceCtorEq, Nat.reduceEqDiff]; exact g6, by simp only [upd_apply, ↓reduceIte, reduceCtorEq, Nat.reduceEqDiff]; exact g9, by simp only [upd_apply, ↓reduceIte, reduceCtorEq, Nat.reduceEqDiff]; exact g10, by simp only [upd_apply, ↓reduceIte, reduceCtorEq, Nat.reduceEqDiff]; exact g11, by simp only [upd_apply, ↓reduceIte, reduceCtorEq, Nat.reduceEqDiff]; exact g12, by simp only [upd_apply, ↓reduceIte, reduceCtorEq, Nat.reduceEqDiff]; exact g13, by simp only [upd_apply, ↓reduceIte, reduceCtorEq, Nat.reduceEqDiff]; rw [g14]; exact congrArg ii (mx_left (by rw [hyy]; exact hFy) hbst (by omega) (by first | (intro _; omega) | (intro hh; cases hh)) (by first | (intro _; omega) | (intro hh; cases hh))), by simp only [upd_apply, ↓reduceIte, reduceCtorEq, Nat.reduceEqDiff]; exact congrArg ii (by omega), rfl, rfl⟩)
                  · (repeat' (first
  | (with_reducible first | refine WC_seq ?_ | refine WC_skip ?_ | refine WC_label ?_ | refine WC_scope ?_ | refine WC_block ?_ | refine WC_ret ?_ | refine WC_exit ?_ | refine seqQ_norm ?_ | refine seqQ_ret ?_ | refine seqQ_exit ?_ | refine blkQ_norm ?_ | refine blkQ_ret ?_ | refine blkQ_here ?_ | refine gateK_yes ?_ | refine gateK_none ?_ | refine condK_tt ?_ | refine condK_ff ?_ | refine roundQ_exit ?_ | refine roundQ_ret ?_)
  | refine WC_region ?_ | refine blkQ_out rfl ?_ | refine WO_nil ?_ | refine WD_nil ?_
  | ((first | refine WD_gate rfl rfl rfl rfl rfl fun K_ hK_ => ?_ | refine WO_gate rfl rfl rfl rfl rfl fun K_ hK_ => ?_); simp only [upd_apply, asB_bool, asB_tup, ↓reduceIte, reduceCtorEq, Nat.reduceEqDiff, Bool.not_true, Bool.not_false]; refine hK_ _ ?_; clear hK_ K_)
  | refine gateK_no (by decide) ?_
  | ((try first | refine WO_op rfl rfl rfl ?_ | refine WO_op0 rfl rfl ?_ | refine WD_op rfl rfl rfl ?_ | refine WD_op0 rfl rfl ?_); (refine WV_gen fun Q_ hQ_ => ?_; simp (disch := first | omega | (simp only [List.length_cons, List.length_nil, List.length_append]; omega)) only [bb, bp, argF, ↓reduceIte, reduceCtorEq, Nat.reduceEqDiff, Nat.reduceLT, Nat.reduceLeDiff, Nat.reduceAdd, Nat.reduceMul, Nat.reduceSub, Nat.reduceBEq, Int.reduceToNat, cond_true, cond_false, eq_self, beq_self_eq_true, g1, g3, g4, g6, g9, g10, g11, g12, g13, g14, g15, hx0, hy0, hlen, hix, hld, hlenv, hix2, hrow0, hrow1, newPtr_X wf, load1_X wf, loadAgg_X wf, store1_X wf, writeCells_X wf, makeFunc_def, tEvK4, hw1', hkm']; first | (refine dec_split (Q := Q_) (fun hp_ => ?_) (fun hp_ => ?_) <;> first | (exfalso; omega) | (refine hQ_ _ _ ?_; clear hQ_ Q_)) | (refine dec_splitn (Q := Q_) (fun hp_ => ?_) (fun hp_ => ?_) <;> first | (exfalso; omega) | (refine hQ_ _ _ ?_; clear hQ_ Q_)) | (refine hQ_ _ _ ?_; clear hQ_ Q_)))
  | (refine WC_cond fun K_ hK_ => ?_; simp (disch := omega) only [evT_tmp, upd_apply, WB_some, ↓reduceIte, reduceCtorEq, Nat.reduceEqDiff, Nat.reduceLT]; refine hK_ _ ?_; clear hK_ K_)))
                    refine WC_drawnB [.no, .no, .no, .no, .no, .no, .no, .no, .no, .no, .no, .no, .no, .no, .no, .no, .no, .no, .no, .no, .full] (by kernel_rfl) ?_
                    (repeat' (first
  | (with_reducible first | refine WC_seq ?_ | refine WC_skip ?_ | refine WC_label ?_ | refine WC_scope ?_ | refine WC_block ?_ | refine WC_ret ?_ | refine WC_exit ?_ | refine seqQ_norm ?_ | refine seqQ_ret ?_ | refine seqQ_exit ?_ | refine blkQ_norm ?_ | refine blkQ_ret ?_ | refine blkQ_here ?_ | refine gateK_yes ?_ | refine gateK_none ?_ | refine condK_tt ?_ | refine condK_ff ?_ | refine roundQ_exit ?_ | refine roundQ_ret ?_)
  | refine WC_region ?_ | refine blkQ_out rfl ?_ | refine WO_nil ?_ | refine WD_nil ?_
  | ((first | refine WD_gate rfl rfl rfl rfl rfl fun K_ hK_ => ?_ | refine WO_gate rfl rfl rfl rfl rfl fun K_ hK_ => ?_); simp only [upd_apply, asB_bool, asB_tup, ↓reduceIte, reduceCtorEq, Nat.reduceEqDiff, Bool.not_true, Bool.not_false]; refine hK_ _ ?_; clear hK_ K_)
  | refine gateK_no (by decide) ?_
  | ((try first | refine WO_op rfl rfl rfl ?_ | refine WO_op0 rfl rfl ?_ | refine WD_op rfl rfl rfl ?_ | refine WD_op0 rfl rfl ?_); (refine WV_gen fun Q_ hQ_ => ?_; simp (disch := first | omega | (simp only [List.length_cons, List.length_nil, List.length_append]; omega)) only [bb, bp, argF, ↓reduceIte, reduceCtorEq, Nat.reduceEqDiff, Nat.reduceLT, Nat.reduceLeDiff, Nat.reduceAdd, Nat.reduceMul, Nat.reduceSub, Nat.reduceBEq, Int.reduceToNat, cond_true, cond_false, eq_self, beq_self_eq_true, g1, g3, g4, g6, g9, g10, g11, g12, g13, g14, g15, hx0, hy0, hlen, hix, hld, hlenv, hix2, hrow0, hrow1, newPtr_X wf, load1_X wf, loadAgg_X wf, store1_X wf, writeCells_X wf, makeFunc_def, tEvK4, hw1', hkm']; first | (refine dec_split (Q := Q_) (fun hp_ => ?_) (fun hp_ => ?_) <;> first | (exfalso; omega) | (refine hQ_ _ _ ?_; clear hQ_ Q_)) | (refine dec_splitn (Q := Q_) (fun hp_ => ?_) (fun hp_ => ?_) <;> first | (exfalso; omega) | (refine hQ_ _ _ ?_; clear hQ_ Q_)) | (refine hQ_ _ _ ?_; clear hQ_ Q_)))
  | (refine WC_cond fun K_ hK_ => ?_; simp (disch := omega) only [evT_tmp, upd_apply, WB_some, ↓reduceIte, reduceCtorEq, Nat.reduceEqDiff, Nat.reduceLT]; refine hK_ _ ?_; clear hK_ K_)))
                    all_goals
                      first
                        | (refine roundQ_again (j + 1) (by omega) ⟨by omega, by simp only [upd_apply, ↓reduceIte, reduceCtorEq, Nat.reduceEqDiff]; exact g1, by simp only [upd_apply, ↓reduceIte, reduceCtorEq, Nat.reduceEqDiff]; exact g3, by simp only [upd_apply, ↓reduceIte, reduceCtorEq, Nat.reduceEqDiff]; exact g4, by simp only [upd_apply, ↓reduceIte, reduceCtorEq, Nat.reduceEqDiff]; exact g6, by simp only [upd_apply, ↓reduceIte, reduceCtorEq, Nat.reduceEqDiff]; exact g9, by simp only [upd_apply, ↓reduceIte, reduceCtorEq, Nat.reduceEqDiff]; exact g10, by simp only [upd_apply, ↓reduceIte, reduceCtorEq, Nat.reduceEqDiff]; exact g11, by simp only [upd_apply, ↓reduceIte, reduceCtorEq, Nat.reduceEqDiff]; exact g12, by simp only [upd_apply, ↓reduceIte, reduceCtorEq, Nat.reduceEqDiff]; exact g13, by simp only [upd_apply, ↓reduceIte, reduceCtorEq, Nat.reduceEqDiff]; exact congrArg ii (mx_taken (by rw [hyy]; exact hFy) hbst (by first | exact .inl (by omega) | exact .inr (.inl ⟨rfl, by omega⟩) | exact .inr (.inr ⟨rfl, by omega⟩))), by simp only [upd_apply, ↓reduceIte, reduceCtorEq, Nat.reduceEqDiff]; exact congrArg ii (by omega), rfl, rfl⟩)
                        | (refine roundQ_again (j + 1) (by omega) ⟨by omega, by simp only [upd_apply, ↓reduceIte, reduceCtorEq, Nat.reduceEqDiff]; exact g1, by simp only [upd_apply, ↓reduceIte, reduceCtorEq, Nat.reduceEqDiff]; exact g3, by simp only [upd_apply, ↓reduceIte, reduceCtorEq, Nat.reduceEqDiff]; exact g4, by simp only [upd_apply, ↓reduceIte, reduceCtorEq, Nat.reduceEqDiff]; exact g6, by simp only [upd_apply, ↓reduceIte, reduceCtorEq, Nat.reduceEqDiff]; exact g9, by simp only [upd_apply, ↓reduceIte, reduceCtorEq, Nat.reduceEqDiff]; exact g10, by simp only [upd_apply, ↓reduceIte, reduceCtorEq, Nat.reduceEqDiff]; exact g11, by simp only [upd_apply, ↓reduceIte, reduceCtorEq, Nat.reduceEqDiff]; exact g12, by simp only [upd_apply, ↓reduceIte, reduceCtorEq, Nat.reduceEqDiff]; exact g13, by simp only [upd_apply, ↓reduceIte, reduceCtorEq, Nat.reduceEqDiff]; rw [g14]; exact congrArg ii (mx_left (by rw [hyy]; exact hFy) hbst (by omega) (by first | (intro _; omega) | (intro hh; cases hh)) (by first | (intro _; omega) | (intro hh; cases hh))), by simp only [upd_apply, ↓reduceIte, reduceCtorEq, Nat.reduceEqDiff]; exact congrArg ii (by omega), rfl, rfl⟩)
                · have hkm' : ¬ (k : Int) = (m : Int) - 1 := by omega
                  have hx0 : D * (3 * st * st * (k : Int) * w * y) - N * (3 * st * w * y) = gapOf (gOf 2) sp st m i k w N D y := by
                    simp only [gapOf, gOf, numOf, denOf, ↓reduceIte, Nat.reduceEqDiff, reduceCtorEq, Int.reduceEq, hkm]; grind
                  cases high
                  · (repeat' (first
  | (with_reducible first | refine WC_seq ?_ | refine WC_skip ?_ | refine WC_label ?_ | refine WC_scope ?_ | refine WC_block ?_ | refine WC_ret ?_ | refine WC_exit ?_ | refine seqQ_norm ?_ | refine seqQ_ret ?_ | refine seqQ_exit ?_ | refine blkQ_norm ?_ | refine blkQ_ret ?_ | refine blkQ_here ?_ | refine gateK_yes ?_ | refine gateK_none ?_ | refine condK_tt ?_ | refine condK_ff ?_ | refine roundQ_exit ?_ | refine roundQ_ret ?_)
  | refine WC_region ?_ | refine blkQ_out rfl ?_ | refine WO_nil ?_ | refine WD_nil ?_
  | ((first | refine WD_gate rfl rfl rfl rfl rfl fun K_ hK_ => ?_ | refine WO_gate rfl rfl rfl rfl rfl fun K_ hK_ => ?_); simp only [upd_apply, asB_bool, asB_tup, ↓reduceIte, reduceCtorEq, Nat.reduceEqDiff, Bool.not_true, Bool.not_false]; refine hK_ _ ?_; clear hK_ K_)
  | refine gateK_no (by decide) ?_
  | ((try first | refine WO_op rfl rfl rfl ?_ | refine WO_op0 rfl rfl ?_ | refine WD_op rfl rfl rfl ?_ | refine WD_op0 rfl rfl ?_); (refine WV_gen fun Q_ hQ_ => ?_; simp (disch := first | omega | (simp only [List.length_cons, List.length_nil, List.length_append]; omega)) only [bb, bp, argF, ↓reduceIte, reduceCtorEq, Nat.reduceEqDiff, Nat.reduceLT, Nat.reduceLeDiff, Nat.reduceAdd, Nat.reduceMul, Nat.reduceSub, Nat.reduceBEq, Int.reduceToNat, cond_true, cond_false, eq_self, beq_self_eq_true, g1, g3, g4, g6, g9, g10, g11, g12, g13, g14, g15, hx0, hy0, hlen, hix, hld, hlenv, hix2, hrow0, hrow1, newPtr_X wf, load1_X wf, loadAgg_X wf, store1_X wf, writeCells_X wf, makeFunc_def, tEvK4]; first | (refine dec_split (Q := Q_) (fun hp_ => ?_) (fun hp_ => ?_) <;> first | (exfalso; omega) | (refine hQ_ _ _ ?_; clear hQ_ Q_)) | (refine dec_splitn (Q := Q_) (fun hp_ => ?_) (fun hp_ => ?_) <;> first | (exfalso; omega) | (refine hQ_ _ _ ?_; clear hQ_ Q_)) | (refine hQ_ _ _ ?_; clear hQ_ Q_)))
  | (refine WC_cond fun K_ hK_ => ?_; simp (disch := omega) only [evT_tmp, upd_apply, WB_some, ↓reduceIte, reduceCtorEq, Nat.reduceEqDiff, Nat.reduceLT]; refine hK_ _ ?_; clear hK_ K_)))
                    refine WC_drawnB [.no, .no, .no, .no, .no, .no, .no, .no, .no, .no, .no, .no, .no, .no, .no, .no, .no, .no, .no, .no, .full] (by kernel_rfl) ?_
                    (repeat' (first
  | (with_reducible first | refine WC_seq ?_ | refine WC_skip ?_ | refine WC_label ?_ | refine WC_scope ?_ | refine WC_block ?_ | refine WC_ret ?_ | refine WC_exit ?_ | refine seqQ_norm ?_ | refine seqQ_ret ?_ | refine seqQ_exit ?_ | refine blkQ_norm ?_ | refine blkQ_ret ?_ | refine blkQ_here ?_ | refine gateK_yes ?_ | refine gateK_none ?_ | refine condK_tt ?_ | refine condK_ff ?_ | refine roundQ_exit ?_ | refine roundQ_ret ?_)
  | refine WC_region ?_ | refine blkQ_out rfl ?_ | refine WO_nil ?_ | refine WD_nil ?_
  | ((first | refine WD_gate rfl rfl rfl rfl rfl fun K_ hK_ => ?_ | refine WO_gate rfl rfl rfl rfl rfl fun K_ hK_ => ?_); simp only [upd_apply, asB_bool, asB_tup, ↓reduceIte, reduceCtorEq, Nat.reduceEqDiff, Bool.not_true, Bool.not_false]; refine hK_ _ ?_; clear hK_ K_)
  | refine gateK_no (by decide) ?_
  | ((try first | refine WO_op rfl rfl rfl ?_ | refine WO_op0 rfl rfl ?_ | refine WD_op rfl rfl rfl ?_ | refine WD_op0 rfl rfl ?_); (refine WV_gen fun Q_ hQ_ => ?_; simp (disch := first | omega | (simp only [List.length_cons, List.length_nil, List.length_append]; omega)) only [bb, bp, argF, ↓reduceIte, reduceCtorEq, Nat.reduceEqDiff, Nat.reduceLT, Nat.reduceLeDiff, Nat.reduceAdd, Nat.reduceMul, Nat.reduceSub, Nat.reduceBEq, Int.reduceToNat, cond_true, cond_false, eq_self, beq_self_eq_true, g1, g3, g4, g6, g9, g10, g11, g12, g13, g14, g15, hx0, hy0, hlen, hix, hld, hlenv, hix2, hrow0, hrow1, newPtr_X wf, load1_X wf, loadAgg_X wf, store1_X wf, writeCells_X wf, makeFunc_def, tEvK4]; first | (refine dec_split (Q := Q_) (fun hp_ => ?_) (fun hp_ => ?_) <;> first | (exfalso; omega) | (refine hQ_ _ _ ?_; clear hQ_ Q_)) | (refine dec_splitn (Q := Q_) (fun hp_ => ?_) (fun hp_ => ?_) <;> first | (exfalso; omega) | (refine hQ_ _ _ ?_; clear hQ_ Q_)) | (refine hQ_ _ _ ?_; clear hQ_ Q_)))
  | (refine WC_cond fun K_ hK_ => ?_; simp (disch := omega) only [evT_tmp, upd_apply, WB_some, ↓reduceIte, reduceCtorEq, Nat.reduceEqDiff, Nat.reduceLT]; refine hK_ _ ?_; clear hK_ K_)))
                    all_goals
                      first
                        | (refine roundQ_again (j + 1) (by omega) ⟨by omega, by simp only [upd_apply, ↓reduceIte, reduceCtorEq, Nat.reduceEqDiff]; exact g1, by simp only [upd_apply, ↓reduceIte, reduceCtorEq, Nat.reduceEqDiff]; exact g3, by simp only [upd_apply, ↓reduceIte, reduceCtorEq, Nat.reduceEqDiff]; exact g4, by simp only [upd_apply, ↓reduceIte, reduceCtorEq, Nat.reduceEqDiff]; exact g6, by simp only [upd_apply, ↓reduceIte, reduceCtorEq, Nat.reduceEqDiff]; exact g9, by simp only [upd_apply, ↓reduceIte, reduceCtorEq, Nat.reduceEqDiff]; exact g10, by simp only [upd_apply, ↓reduceIte, reduceCtorEq, Nat.reduceEqDiff]; exact g11, by simp only [upd_apply, ↓reduceIte, reduceCtorEq, Nat.reduceEqDiff]; exact g12, by simp only [upd_apply, ↓reduceIte, reduceCtorEq, Nat.reduceEqDiff]; exact g13, by simp only [upd_apply, ↓reduceIte, reduceCtorEq, Nat.reduceEqDiff]; exact congrArg ii (mx_taken (by rw [hyy]; exact hFy) hbst (by first | exact .inl (by omega) | exact .inr (.inl ⟨rfl, by omega⟩) | exact .inr (.inr ⟨rfl, by omega⟩))), by simp only [upd_apply, ↓reduceIte, reduceCtorEq, Nat.reduceEqDiff]; exact congrArg ii (by omega), rfl, rfl⟩)
                        | (refine roundQ_again (j + 1) (by omega) ⟨by omega, by simp only [upd_apply, ↓reduceIte, reduceCtorEq, Nat.reduceEqDiff]; exact g1, by simp only [upd_apply, ↓reduceIte, reduceCtorEq, Nat.reduceEqDiff]; exact g3, by simp only [upd_apply, ↓reduceIte, reduceCtorEq, Nat.reduceEqDiff]; exact g4, by simp only [upd_apply, ↓reduceIte, reduceCtorEq, Nat.reduceEqDiff]; exact g6, by simp only [upd_apply, ↓reduceIte, reduceCtorEq, Nat.reduceEqDiff]; exact g9, by simp only [upd_apply, ↓reduceIte, reduceCtorEq, Nat.reduceEqDiff]; exact g10, by simp only [upd_apply, ↓reduceIte, reduceCtorEq, Nat.reduceEqDiff]; exact g11, by simp only [upd_apply, ↓reduceIte, reduceCtorEq, Nat.reduceEqDiff]; exact g12, by simp only [upd_apply, ↓reduceIte, reduceCtorEq, Nat.reduceEqDiff]; exact g13, by simp only [upd_apply, ↓reduceIte, reduceCtorEq, Nat.reduceEqDiff]; rw [g14]; exact congrArg ii (mx_left (by rw [hyy]; exact hFy) hbst (by omega) (by first | (intro _; omega) | (intro hh; cases hh)) (by first | (intro _; omega) | (intro hh; cases hh))), by simp only [upd_apply, ↓reduceIte, reduceCtorEq, Nat.reduceEqDiff]; exact congrArg ii (by omega), rfl, rfl⟩)
                  · (repeat' (first
  | (with_reducible first | refine WC_seq ?_ | refine WC_skip ?_ | refine WC_label ?_ | refine WC_scope ?_ | refine WC_block ?_ | refine WC_ret ?_ | refine WC_exit ?_ | refine seqQ_norm ?_ | refine seqQ_ret ?_ | refine seqQ_exit ?_ | refine blkQ_norm ?_ | refine blkQ_ret ?_ | refine blkQ_here ?_ | refine gateK_yes ?_ | refine gateK_none ?_ | refine condK_tt ?_ | refine condK_ff ?_ | refine roundQ_exit ?_ | refine roundQ_ret ?_)
  | refine WC_region ?_ | refine blkQ_out rfl ?_ | refine WO_nil ?_ | refine WD_nil ?_
  | ((first | refine WD_gate rfl rfl rfl rfl rfl fun K_ hK_ => ?_ | refine WO_gate rfl rfl rfl rfl rfl fun K_ hK_ => ?_); simp only [upd_apply, asB_bool, asB_tup, ↓reduceIte, reduceCtorEq, Nat.reduceEqDiff, Bool.not_true, Bool.not_false]; refine hK_ _ ?_; clear hK_ K_)
  | refine gateK_no (by decide) ?_
  | ((try first | refine WO_op rfl rfl rfl ?_ | refine WO_op0 rfl rfl ?_ | refine WD_op rfl rfl rfl ?_ | refine WD_op0 rfl rfl ?_); (refine WV_gen fun Q_ hQ_ => ?_; simp (disch := first | omega | (simp only [List.length_cons, List.length_nil, List.length_append]; omega)) only [bb, bp, argF, ↓reduceIte, reduceCtorEq, Nat.reduceEqDiff, Nat.reduceLT, Nat.reduceLeDiff, Nat.reduceAdd, Nat.reduceMul, Nat.reduceSub, Nat.reduceBEq, Int.reduceToNat, cond_true, cond_false, eq_self, beq_self_eq_true, g1, g3, g4, g6, g9, g10, g11, g12, g13, g14, g15, hx0, hy0, hlen, hix, hld, hlenv, hix2, hrow0, hrow1, newPtr_X wf, load1_X wf, loadAgg_X wf, store1_X wf, writeCells_X wf, makeFunc_def, tEvK4]; first | (refine dec_split (Q := Q_) (fun hp_ => ?_) (fun hp_ => ?_) <;> first | (exfalso; omega) | (refine hQ_ _ _ ?_; clear hQ_ Q_)) | (refine dec_splitn (Q := Q_) (fun hp_ => ?_) (fun hp_ => ?_) <;> first | (exfalso; omega) | (refine hQ_ _ _ ?_; clear hQ_ Q_)) | (refine hQ_ _ _ ?_; clear hQ_ Q_)))
  | (refine WC_cond fun K_ hK_ => ?_; simp (disch := omega) only [evT_tmp, upd_apply, WB_some, ↓reduceIte, reduceCtorEq, Nat.reduceEqDiff, Nat.reduceLT]; refine hK_ _ ?_; clear hK_ K_)))
                    refine WC_drawnB [.no, .no, .no, .no, .no, .no, .no, .no, .no, .no, .no, .no, .no, .no, .no, .no, .no, .no, .no, .no, .full] (by kernel_rfl) ?_
                    (repeat' (first
  | (with_reducible first | refine WC_seq ?_ | refine WC_skip ?_ | refine WC_label ?_ | refine WC_scope ?_ | refine WC_block ?_ | refine WC_ret ?_ | refine WC_exit ?_ | refine seqQ_norm ?_ | refine seqQ_ret ?_ | refine seqQ_exit ?_ | refine blkQ_norm ?_ | refine blkQ_ret ?_ | refine blkQ_here ?_ | refine gateK_yes ?_ | refine gateK_none ?_ | refine condK_tt ?_ | refine condK_ff ?_ | refine roundQ_exit ?_ | refine roundQ_ret ?_)
  | refine WC_region ?_ | refine blkQ_out rfl ?_ | refine WO_nil ?_ | refine WD_nil ?_
  | ((first | refine WD_gate rfl rfl rfl rfl rfl fun K_ hK_ => ?_ | refine WO_gate rfl rfl rfl rfl rfl fun K_ hK_ => ?_); simp only [upd_apply, asB_bool, asB_tup, ↓reduceIte, reduceCtorEq, Nat.reduceEqDiff, Bool.not_true, Bool.not_false]; refine hK_ _ ?_; clear hK_ K_)
  | refine gateK_no (by decide) ?_
  | ((try first | refine WO_op rfl rfl rfl ?_ | refine WO_op0 rfl rfl ?_ | refine WD_op rfl rfl rfl ?_ | refine WD_op0 rfl rfl ?_); (refine WV_gen fun Q_ hQ_ => ?_; simp (disch := first | omega | (simp only [List.length_cons, List.length_nil, List.length_append]; omega)) only [bb, bp, argF, ↓reduceIte, reduceCtorEq, Nat.reduceEqDiff, Nat.reduceLT, Nat.reduceLeDiff, Nat.reduceAdd, Nat.reduceMul, Nat.reduceSub, Nat.reduceBEq, Int.reduceToNat, cond_true, cond_false, eq_self, beq_self_eq_true, g1, g3, g4, g6, g9, g10, g11, g12, g13, g14, g15, hx0, hy0, hlen, hix, hld, hlenv, hix2, hrow0, hrow1, newPtr_X wf, load1_X wf, loadAgg_X wf, store1_X wf, writeCells_X wf, makeFunc_def, tEvK4]; first | (refine dec_split (Q := Q_) (fun hp_ => ?_) (fun hp_ => ?_) <;> first | (exfalso; omega) | (refine hQ_ _ _ ?_; clear hQ_ Q_)) | (refine dec_splitn (Q := Q_) (fun hp_ => ?_) (fun hp_ => ?_) <;> first | (exfalso; omega) | (refine hQ_ _ _ ?_; clear hQ_ Q_)) | (refine hQ_ _ _ ?_; clear hQ_ Q_)))
  | (refine WC_cond fun K_ hK_ => ?_; simp (disch := omega) only [evT_tmp, upd_apply, WB_some, ↓reduceIte, reduceCtorEq, Nat.reduceEqDiff, Nat.reduceLT]; refine hK_ _ ?_; clear hK_ K_)))
                    all_goals
                      first
                        | (refine roundQ_again (j + 1) (by omega) ⟨by omega, by simp only [upd_apply, ↓reduceIte, reduceCtorEq, Nat.reduceEqDiff]; exact g1, by simp only [upd_apply, ↓reduceIte, reduceCtorEq, Nat.reduceEqDiff]; exact g3, by simp only [upd_apply, ↓reduceIte, reduceCtorEq, Nat.reduceEqDiff]; exact g4, by simp only [upd_apply, ↓reduceIte, reduceCtorEq, Nat.reduceEqDiff]; exact g6, by simp only [upd_apply, ↓reduceIte, reduceCtorEq, Nat.reduceEqDiff]; exact g9, by simp only [upd_apply, ↓reduceIte, reduceCtorEq, Nat.reduceEqDiff]; exact g10, by simp only [upd_apply, ↓reduceIte, reduceCtorEq, Nat.reduceEqDiff]; exact g11, by simp only [upd_apply, ↓reduceIte, reduceCtorEq, Nat.reduceEqDiff]; exact g12, by simp only [upd_apply, ↓reduceIte, reduceCtorEq, Nat.reduceEqDiff]; exact g13, by simp only [upd_apply, ↓reduceIte, reduceCtorEq, Nat.reduceEqDiff]; exact congrArg ii (mx_taken (by rw [hyy]; exact hFy) hbst (by first | exact .inl (by omega) | exact .inr (.inl ⟨rfl, by omega⟩) | exact .inr (.inr ⟨rfl, by omega⟩))), by simp only [upd_apply, ↓reduceIte, reduceCtorEq, Nat.reduceEqDiff]; exact congrArg ii (by omega), rfl, rfl⟩)
                        | (refine roundQ_again (j + 1) (by omega) ⟨by omega, by simp only [upd_apply, ↓reduceIte, reduceCtorEq, Nat.reduceEqDiff]; exact g1, by simp only [upd_apply, ↓reduceIte, reduceCtorEq, Nat.reduceEqDiff]; exact g3, by simp only [upd_apply, ↓reduceIte, reduceCtorEq, Nat.reduceEqDiff]; exact g4, by simp only [upd_apply, ↓reduceIte, reduceCtorEq, Nat.reduceEqDiff]; exact g6, by simp only [upd_apply, ↓reduceIte, reduceCtorEq, Nat.reduceEqDiff]; exact g9, by simp only [upd_apply, ↓reduceIte, reduceCtorEq, Nat.reduceEqDiff]; exact g10, by simp only [upd_apply, ↓reduceIte, reduceCtorEq, Nat.reduceEqDiff]; exact g11, by simp only [upd_apply, ↓reduceIte, reduceCtorEq, Nat.reduceEqDiff]; exact g12, by simp only [upd_apply, ↓reduceIte, reduceCtorEq, Nat.reduceEqDiff]; exact g13, by simp only [upd_apply, ↓reduceIte, reduceCtorEq, Nat.reduceEqDiff]; rw [g14]; exact congrArg ii (mx_left (by rw [hyy]; exact hFy) hbst (by omega) (by first | (intro _; omega) | (intro hh; cases hh)) (by first | (intro _; omega) | (intro hh; cases hh))), by simp only [upd_apply, ↓reduceIte, reduceCtorEq, Nat.reduceEqDiff]; exact congrArg ii (by omega), rfl, rfl⟩)
            · have hje : j = nw + 1 := by omega
              have hyg : ¬ (r.1 + (j : Int) ≤ r.2) := by omega
              rw [if_neg (by omega), hje, Nat.add_sub_cancel] at g14
              have hfin : sgn high (mxf (fAt (gOf what) sp st rows.length m N D high (i * m + k)) r.1 nw) = refG (gOf what) sp st rows m N D high (i * m + k) := by unfold refG bestG; rw [hrr, hnw]
              rw [hfin] at g14
              (repeat' (first
  | (with_reducible first | refine WC_seq ?_ | refine WC_skip ?_ | refine WC_label ?_ | refine WC_scope ?_ | refine WC_block ?_ | refine WC_ret ?_ | refine WC_exit ?_ | refine seqQ_norm ?_ | refine seqQ_ret ?_ | refine seqQ_exit ?_ | refine blkQ_norm ?_ | refine blkQ_ret ?_ | refine blkQ_here ?_ | refine gateK_yes ?_ | refine gateK_none ?_ | refine condK_tt ?_ | refine condK_ff ?_ | refine roundQ_exit ?_ | refine roundQ_ret ?_)
  | refine WC_region ?_ | refine blkQ_out rfl ?_ | refine WO_nil ?_ | refine WD_nil ?_
  | ((first | refine WD_gate rfl rfl rfl rfl rfl fun K_ hK_ => ?_ | refine WO_gate rfl rfl rfl rfl rfl fun K_ hK_ => ?_); simp only [upd_apply, asB_bool, asB_tup, ↓reduceIte, reduceCtorEq, Nat.reduceEqDiff, Bool.not_true, Bool.not_false]; refine hK_ _ ?_; clear hK_ K_)
  | refine gateK_no (by decide) ?_
  | ((try first | refine WO_op rfl rfl rfl ?_ | refine WO_op0 rfl rfl ?_ | refine WD_op rfl rfl rfl ?_ | refine WD_op0 rfl rfl ?_); (refine WV_gen fun Q_ hQ_ => ?_; simp (disch := first | omega | (simp only [List.length_cons, List.length_nil, List.length_append]; omega)) only [bb, bp, argF, ↓reduceIte, reduceCtorEq, Nat.reduceEqDiff, Nat.reduceLT, Nat.reduceLeDiff, Nat.reduceAdd, Nat.reduceMul, Nat.reduceSub, Nat.reduceBEq, Int.reduceToNat, cond_true, cond_false, eq_self, beq_self_eq_true, g1, g3, g4, g6, g9, g10, g11, g12, g13, g14, g15, hyg, hlen, hix, hld, hlenv, hix2, hrow0, hrow1, newPtr_X wf, load1_X wf, loadAgg_X wf, store1_X wf, writeCells_X wf, makeFunc_def, tEvK4]; first | (refine dec_split (Q := Q_) (fun hp_ => ?_) (fun hp_ => ?_) <;> first | (exfalso; omega) | (refine hQ_ _ _ ?_; clear hQ_ Q_)) | (refine dec_splitn (Q := Q_) (fun hp_ => ?_) (fun hp_ => ?_) <;> first | (exfalso; omega) | (refine hQ_ _ _ ?_; clear hQ_ Q_)) | (refine hQ_ _ _ ?_; clear hQ_ Q_)))
  | (refine WC_cond fun K_ hK_ => ?_; simp (disch := omega) only [evT_tmp, upd_apply, WB_some, ↓reduceIte, reduceCtorEq, Nat.reduceEqDiff, Nat.reduceLT]; refine hK_ _ ?_; clear hK_ K_)))
              refine roundQ_again (k + 1) (by omega) ⟨hkl, by simp only [upd_apply, ↓reduceIte, reduceCtorEq, Nat.reduceEqDiff]; exact g1, by simp only [upd_apply, ↓reduceIte, reduceCtorEq, Nat.reduceEqDiff]; exact g3, by simp only [upd_apply, ↓reduceIte, reduceCtorEq, Nat.reduceEqDiff]; exact g4, by simp only [upd_apply, ↓reduceIte, reduceCtorEq, Nat.reduceEqDiff]; exact g6, by simp only [upd_apply, ↓reduceIte, reduceCtorEq, Nat.reduceEqDiff]; rfl, by simp only [upd_apply, ↓reduceIte, reduceCtorEq, Nat.reduceEqDiff]; exact g10, by simp only [upd_apply, ↓reduceIte, reduceCtorEq, Nat.reduceEqDiff]; exact g11, by simp only [upd_apply, ↓reduceIte, reduceCtorEq, Nat.reduceEqDiff]; rfl, rfl, rfl⟩
          · exact ⟨Nat.zero_le _, by simp only [upd_apply, ↓reduceIte, reduceCtorEq, Nat.reduceEqDiff]; exact g1, by simp only [upd_apply, ↓reduceIte, reduceCtorEq, Nat.reduceEqDiff]; exact g3, by simp only [upd_apply, ↓reduceIte, reduceCtorEq, Nat.reduceEqDiff]; exact g4, by simp only [upd_apply, ↓reduceIte, reduceCtorEq, Nat.reduceEqDiff]; exact g6, by simp only [upd_apply, ↓reduceIte, reduceCtorEq, Nat.reduceEqDiff]; exact g9, by simp only [upd_apply, ↓reduceIte, reduceCtorEq, Nat.reduceEqDiff]; exact g10, by simp only [upd_apply, ↓reduceIte, reduceCtorEq, Nat.reduceEqDiff]; exact g11, by simp only [upd_apply, ↓reduceIte, reduceCtorEq, Nat.reduceEqDiff]; exact g12, by simp only [upd_apply, ↓reduceIte, reduceCtorEq, Nat.reduceEqDiff], by simp only [upd_apply, ↓reduceIte, reduceCtorEq, Nat.reduceEqDiff]; (try rfl), by simp only [upd_apply, ↓reduceIte, reduceCtorEq, Nat.reduceEqDiff]; exact congrArg ii (by omega), rfl, rfl⟩
        · have hke : k = m := by omega
          rw [hke] at g9 g12
          (repeat' (first
  | (with_reducible first | refine WC_seq ?_ | refine WC_skip ?_ | refine WC_label ?_ | refine WC_scope ?_ | refine WC_block ?_ | refine WC_ret ?_ | refine WC_exit ?_ | refine seqQ_norm ?_ | refine seqQ_ret ?_ | refine seqQ_exit ?_ | refine blkQ_norm ?_ | refine blkQ_ret ?_ | refine blkQ_here ?_ | refine gateK_yes ?_ | refine gateK_none ?_ | refine condK_tt ?_ | refine condK_ff ?_ | refine roundQ_exit ?_ | refine roundQ_ret ?_)
  | refine WC_region ?_ | refine blkQ_out rfl ?_ | refine WO_nil ?_ | refine WD_nil ?_
  | ((first | refine WD_gate rfl rfl rfl rfl rfl fun K_ hK_ => ?_ | refine WO_gate rfl rfl rfl rfl rfl fun K_ hK_ => ?_); simp only [upd_apply, asB_bool, asB_tup, ↓reduceIte, reduceCtorEq, Nat.reduceEqDiff, Bool.not_true, Bool.not_false]; refine hK_ _ ?_; clear hK_ K_)
  | refine gateK_no (by decide) ?_
  | ((try first | refine WO_op rfl rfl rfl ?_ | refine WO_op0 rfl rfl ?_ | refine WD_op rfl rfl rfl ?_ | refine WD_op0 rfl rfl ?_); (refine WV_gen fun Q_ hQ_ => ?_; simp (disch := first | omega | (simp only [List.length_cons, List.length_nil, List.length_append]; omega)) only [bb, bp, argF, ↓reduceIte, reduceCtorEq, Nat.reduceEqDiff, Nat.reduceLT, Nat.reduceLeDiff, Nat.reduceAdd, Nat.reduceMul, Nat.reduceSub, Nat.reduceBEq, Int.reduceToNat, cond_true, cond_false, eq_self, beq_self_eq_true, g1, g3, g4, g6, g9, g10, g11, g12, newPtr_X wf, load1_X wf, loadAgg_X wf, store1_X wf, writeCells_X wf, makeFunc_def, tEvK4]; first | (refine dec_split (Q := Q_) (fun hp_ => ?_) (fun hp_ => ?_) <;> first | (exfalso; omega) | (refine hQ_ _ _ ?_; clear hQ_ Q_)) | (refine dec_splitn (Q := Q_) (fun hp_ => ?_) (fun hp_ => ?_) <;> first | (exfalso; omega) | (refine hQ_ _ _ ?_; clear hQ_ Q_)) | (refine hQ_ _ _ ?_; clear hQ_ Q_)))
  | (refine WC_cond fun K_ hK_ => ?_; simp (disch := omega) only [evT_tmp, upd_apply, WB_some, ↓reduceIte, reduceCtorEq, Nat.reduceEqDiff, Nat.reduceLT]; refine hK_ _ ?_; clear hK_ K_)))
          refine roundQ_again (i + 1) (by omega) ⟨hlt, by simp only [upd_apply, ↓reduceIte, reduceCtorEq, Nat.reduceEqDiff]; exact g1, by simp only [upd_apply, ↓reduceIte, reduceCtorEq, Nat.reduceEqDiff]; exact g3, by simp only [upd_apply, ↓reduceIte, reduceCtorEq, Nat.reduceEqDiff]; exact g4, by simp only [upd_apply, ↓reduceIte, reduceCtorEq, Nat.reduceEqDiff]; exact g6, by simp only [upd_apply, ↓reduceIte, reduceCtorEq, Nat.reduceEqDiff]; rw [Nat.succ_mul]; exact g9, by simp only [upd_apply, ↓reduceIte, reduceCtorEq, Nat.reduceEqDiff]; rfl, rfl, rfl⟩
      · exact ⟨Nat.zero_le _, by simp only [upd_apply, ↓reduceIte, reduceCtorEq, Nat.reduceEqDiff]; exact g1, by simp only [upd_apply, ↓reduceIte, reduceCtorEq, Nat.reduceEqDiff]; exact g3, by simp only [upd_apply, ↓reduceIte, reduceCtorEq, Nat.reduceEqDiff]; exact g4, by simp only [upd_apply, ↓reduceIte, reduceCtorEq, Nat.reduceEqDiff]; exact g6, by simp only [upd_apply, ↓reduceIte, reduceCtorEq, Nat.reduceEqDiff]; exact g9, by simp only [upd_apply, ↓reduceIte, reduceCtorEq, Nat.reduceEqDiff]; exact g10, by simp only [upd_apply, ↓reduceIte, reduceCtorEq, Nat.reduceEqDiff], by simp only [upd_apply, ↓reduceIte, reduceCtorEq, Nat.reduceEqDiff]; (try rfl), rfl, rfl⟩
    · have hie : i = rows.length := by omega
      subst hie
      (repeat' (first
  | (with_reducible first | refine WC_seq ?_ | refine WC_skip ?_ | refine WC_label ?_ | refine WC_scope ?_ | refine WC_block ?_ | refine WC_ret ?_ | refine WC_exit ?_ | refine seqQ_norm ?_ | refine seqQ_ret ?_ | refine seqQ_exit ?_ | refine blkQ_norm ?_ | refine blkQ_ret ?_ | refine blkQ_here ?_ | refine gateK_yes ?_ | refine gateK_none ?_ | refine condK_tt ?_ | refine condK_ff ?_ | refine roundQ_exit ?_ | refine roundQ_ret ?_)
  | refine WC_region ?_ | refine blkQ_out rfl ?_ | refine WO_nil ?_ | refine WD_nil ?_
  | ((first | refine WD_gate rfl rfl rfl rfl rfl fun K_ hK_ => ?_ | refine WO_gate rfl rfl rfl rfl rfl fun K_ hK_ => ?_); simp only [upd_apply, asB_bool, asB_tup, ↓reduceIte, reduceCtorEq, Nat.reduceEqDiff, Bool.not_true, Bool.not_false]; refine hK_ _ ?_; clear hK_ K_)
  | refine gateK_no (by decide) ?_
  | ((try first | refine WO_op rfl rfl rfl ?_ | refine WO_op0 rfl rfl ?_ | refine WD_op rfl rfl rfl ?_ | refine WD_op0 rfl rfl ?_); (refine WV_gen fun Q_ hQ_ => ?_; simp (disch := first | omega | (simp only [List.length_cons, List.length_nil, List.length_append]; omega)) only [bb, bp, argF, ↓reduceIte, reduceCtorEq, Nat.reduceEqDiff, Nat.reduceLT, Nat.reduceLeDiff, Nat.reduceAdd, Nat.reduceMul, Nat.reduceSub, Nat.reduceBEq, Int.reduceToNat, cond_true, cond_false, eq_self, beq_self_eq_true, g1, g3, g4, g6, g9, g10, hlen, newPtr_X wf, load1_X wf, loadAgg_X wf, store1_X wf, writeCells_X wf, makeFunc_def, tEvK4]; first | (refine dec_split (Q := Q_) (fun hp_ => ?_) (fun hp_ => ?_) <;> first | (exfalso; omega) | (refine hQ_ _ _ ?_; clear hQ_ Q_)) | (refine dec_splitn (Q := Q_) (fun hp_ => ?_) (fun hp_ => ?_) <;> first | (exfalso; omega) | (refine hQ_ _ _ ?_; clear hQ_ Q_)) | (refine hQ_ _ _ ?_; clear hQ_ Q_)))
  | (refine WC_cond fun K_ hK_ => ?_; simp (disch := omega) only [evT_tmp, upd_apply, WB_some, ↓reduceIte, reduceCtorEq, Nat.reduceEqDiff, Nat.reduceLT]; refine hK_ _ ?_; clear hK_ K_)))
      (refine endQ_ret _ _ rfl (ret1 (by decide)) ?_; simp only [upd_apply, ↓reduceIte, reduceCtorEq, Nat.reduceEqDiff]; refine WV_flat rfl (by omega) ?_)
      exact ⟨rfl, rfl⟩
  · exact ⟨Nat.zero_le _, by simp only [upd_apply, ↓reduceIte, reduceCtorEq, Nat.reduceEqDiff], by simp only [upd_apply, ↓reduceIte, reduceCtorEq, Nat.reduceEqDiff], by simp only [upd_apply, ↓reduceIte, reduceCtorEq, Nat.reduceEqDiff], by simp only [upd_apply, ↓reduceIte, reduceCtorEq, Nat.reduceEqDiff], by simp only [upd_apply, ↓reduceIte, reduceCtorEq, Nat.reduceEqDiff]; rw [Nat.zero_mul]; rfl, by simp only [upd_apply, ↓reduceIte, reduceCtorEq, Nat.reduceEqDiff]; (try rfl), rfl, rfl⟩
end Go.Proofs.Ytghondkiondeaac
end

/- EvK5 -/
section
/-
  LAYER 2: the statement BoxBounds, walked.
-/
namespace Go.Proofs.Ytghondkiondeaac
open Go.Ev
set_option maxRecDepth 100000
set_option linter.unusedSimpArgs false
set_option linter.unusedVariables false
set_option maxHeartbeats 4000000

end Go.Proofs.Ytghondkiondeaac
end

/- EvM7 -/
section
/-
  LAYER 2: what the ends are.
-/
namespace Go.Proofs.Ytghondkiondeaac
open Go.Ev
set_option maxRecDepth 100000
set_option linter.unusedSimpArgs false
set_option linter.unusedVariables false
set_option maxHeartbeats 2000000

section
variable {g : Nat} {sp st : Int} {rows : List (List (Int × Int))} {m : Nat}
theorem isBnd_of {N D : Int} (hb : bndIn N D) (hg : Int.gcd N D = 1) : isBnd N D = true := by
  unfold isBnd
  rw [decide_eq_true hb, hg]
  simp
theorem rat_bnd (k : HOK g sp st rows m) {gs : List Int} (hi : InG rows m gs) : bndIn (ratN g sp st rows m gs) (ratD g sp st rows m gs) ∧ isBnd (ratN g sp st rows m gs) (ratD g sp st rows m gs) = true := by
  obtain ⟨r1, r2⟩ := rat_in k hi
  have hb : bndIn (ratN g sp st rows m gs) (ratD g sp st rows m gs) := ⟨⟨r1.1, by omega⟩, r2.1, by omega⟩
  refine ⟨hb, isBnd_of hb ?_⟩
  unfold ratN ratD gcdG
  have h0 : 0 < Int.gcd (numG g sp st rows m gs) (denG g st rows m gs) := Int.gcd_pos_of_ne_zero_right _ (by have := denG_pos k hi; omega)
  exact Int.gcd_ediv_gcd_ediv_gcd h0

/-- In terms of the fraction. -/
theorem far_rat (k : HOK g sp st rows m) {gs : List Int} (hi : InG rows m gs) (N D : Int) (high : Bool) : farG g sp st rows m N D high gs ≤ 0 ↔ sgn high (ratN g sp st rows m gs * D - ratD g sp st rows m gs * N) ≤ 0 := by
  obtain ⟨g1, g2, g3⟩ := rat_num k hi
  rw [farG_eq, g2, g3]
  have e : sgn high (ratN g sp st rows m gs * gcdG g sp st rows m gs * D - ratD g sp st rows m gs * gcdG g sp st rows m gs * N) = sgn high (ratN g sp st rows m gs * D - ratD g sp st rows m gs * N) * gcdG g sp st rows m gs := by
    cases high
    · simp only [sgn_ff]; grind
    · simp only [sgn_tt]; grind
  rw [e]
  constructor
  · intro h
    rcases Int.lt_or_le 0 (sgn high (ratN g sp st rows m gs * D - ratD g sp st rows m gs * N)) with h1 | h1
    · have := Int.mul_pos h1 g1; omega
    · exact h1
  · intro h
    exact Int.mul_nonpos_of_nonpos_of_nonneg h (by omega)

/-- The hull that is farthest beyond any number. -/
def farHull (g : Nat) (sp st : Int) (rows : List (List (Int × Int))) (m : Nat) (N D : Int) (high : Bool) : List Int := gB (bestY g sp st rows m N D high) m (rows.length * m)
/-- No hull is beyond the end. -/
theorem theEnd_ok (k : HOK g sp st rows m) (high : Bool) : InG rows m (theEnd g sp st rows m high) ∧ sumG g sp st rows m high (theEnd g sp st rows m high) ≤ 0 := endG_ok k high _ (grid0_in k) (Nat.le_refl _)
theorem beyond (k : HOK g sp st rows m) (high : Bool) {gs : List Int} (hi : InG rows m gs) :
    sgn high (ratN g sp st rows m gs * ratD g sp st rows m (theEnd g sp st rows m high) - ratD g sp st rows m gs * ratN g sp st rows m (theEnd g sp st rows m high)) ≤ 0 := by
  obtain ⟨h1, h2⟩ := theEnd_ok k high
  refine (far_rat k hi _ _ high).1 ?_
  have := farG_le k (ratN g sp st rows m (theEnd g sp st rows m high)) (ratD g sp st rows m (theEnd g sp st rows m high)) high hi
  unfold sumG at h2
  omega
end

/-- A grid's offsets as lists are those of a true hull. -/
def listOf (gs : List Int) (n m : Nat) : List (List Int) := (List.range n).map (gRow gs m)
theorem listOf_at {gs : List Int} {n m q : Nat} (hl : gs.length = 60) (hn : n ≤ 10) (hm : m ≤ 6) (hq : q < n * m) : yAt (listOf gs n m) m q = yat gs m q := by
  obtain ⟨i1, i2, i3⟩ := place_idx hm hn hq
  have e : ((List.range n).map (gRow gs m)).getD (q / m) [] = gRow gs m (q / m) := by
    rw [List.getD_eq_getElem?_getD, List.getElem?_map, List.getElem?_range i1]
    rfl
  unfold yAt yat listOf
  rw [e]
  unfold gRow
  rw [List.getD_eq_getElem?_getD, List.getElem?_take_of_lt i2, List.getElem?_drop, List.getD_eq_getElem?_getD]
theorem true_listOf {sp st : Int} {rows : List (List (Int × Int))} (he : hullErr sp st rows = 0) {gs : List Int} (hi : InG rows (m0 rows) gs) : trueErr sp st rows (listOf gs rows.length (m0 rows)) = 0 := by
  obtain ⟨hn, hm, hall, hsp, hst, hof⟩ := hullErr_ok he
  unfold trueErr
  rw [if_neg (not_not_intro he), if_neg (not_not_intro (by unfold listOf; simp)), if_neg (not_not_intro (fun y hy => ?_)), if_neg (not_not_intro (fun q hq => ?_))]
  · unfold inR
    rw [listOf_at hi.1 hn.2 hm.2 hq]
    exact hi.2 q hq
  · unfold listOf at hy
    obtain ⟨i, hi', rfl⟩ := List.mem_map.1 hy
    rw [List.mem_range] at hi'
    exact gRow_length hi.1 (by omega) hm.2
theorem val_listOf {sp st : Int} {rows : List (List (Int × Int))} (he : hullErr sp st rows = 0) {gs : List Int} (hi : InG rows (m0 rows) gs) {what : Int} (hwh : 0 ≤ what ∧ what ≤ 2) :
    valOut sp st rows (listOf gs rows.length (m0 rows)) what = .tup [.agg [ii (ratN (gOf what) sp st rows (m0 rows) gs), ii (ratD (gOf what) sp st rows (m0 rows) gs)], ii 0] := by
  obtain ⟨hn, hm, hall, hsp, hst, hof⟩ := hullErr_ok he
  unfold valOut
  rw [if_pos (true_listOf he hi), if_pos hwh]
  have e1 : numS (gOf what) sp st rows.length (m0 rows) (listOf gs rows.length (m0 rows)) = numG (gOf what) sp st rows (m0 rows) gs := psum_congr fun q hq => by
    unfold nuAt W
    rw [listOf_at hi.1 hn.2 hm.2 hq]
  have e2 : denS (gOf what) st rows.length (m0 rows) (listOf gs rows.length (m0 rows)) = denG (gOf what) st rows (m0 rows) gs := psum_congr fun q hq => by
    unfold deAt W
    rw [listOf_at hi.1 hn.2 hm.2 hq]
  rw [e1, e2]
  rfl
end Go.Proofs.Ytghondkiondeaac
end

/- EvM8 -/
section
/-
  LAYER 2: the statement BoxAttained, walked.
-/
namespace Go.Proofs.Ytghondkiondeaac
open Go.Ev
set_option maxRecDepth 100000
set_option linter.unusedSimpArgs false
set_option linter.unusedVariables false
set_option maxHeartbeats 4000000

theorem tEvM8 : type_of% (And.intro (And.intro (And.intro (And.intro (And.intro (@ia_2) (@sz_2)) (And.intro (@ze_2) (@ia_3))) (And.intro (And.intro (@sz_3) (@ia_4)) (And.intro (@sz_4) (@ia_5)))) (And.intro (And.intro (And.intro (@sz_5) (@ia_24)) (And.intro (@sz_24) (@ia_22))) (And.intro (And.intro (@sz_22) (@ia_34)) (And.intro (@sz_34) (@ia_26))))) (And.intro (And.intro (And.intro (And.intro (@sz_26) (@ze_26)) (And.intro (@ia_39) (@sz_39))) (And.intro (And.intro (@ze_39) (@fo_39_0)) (And.intro (@fo_39_1) (@pb_9)))) (And.intro (And.intro (And.intro (@pb_10) (@pb_11)) (And.intro (@pb_13) (@pb_18))) (And.intro (And.intro (@pb_20) (@pb_21)) (And.intro (@pb_22) (And.intro (@pb_23) (@pb_31))))))) := And.intro (And.intro (And.intro (And.intro (And.intro (@ia_2) (@sz_2)) (And.intro (@ze_2) (@ia_3))) (And.intro (And.intro (@sz_3) (@ia_4)) (And.intro (@sz_4) (@ia_5)))) (And.intro (And.intro (And.intro (@sz_5) (@ia_24)) (And.intro (@sz_24) (@ia_22))) (And.intro (And.intro (@sz_22) (@ia_34)) (And.intro (@sz_34) (@ia_26))))) (And.intro (And.intro (And.intro (And.intro (@sz_26) (@ze_26)) (And.intro (@ia_39) (@sz_39))) (And.intro (And.intro (@ze_39) (@fo_39_0)) (And.intro (@fo_39_1) (@pb_9)))) (And.intro (And.intro (And.intro (@pb_10) (@pb_11)) (And.intro (@pb_13) (@pb_18))) (And.intro (And.intro (@pb_20) (@pb_21)) (And.intro (@pb_22) (And.intro (@pb_23) (@pb_31))))))
/-- Few parts, and valid. -/
def Fine (sp st : Int) (rows : List (List (Int × Int))) : Prop := ¬ Great rows [] ∧ hullErr sp st rows = 0
theorem ysNil (h : H) (wf : Wf h) : YsR h .nils [] [] := ⟨wf, Sl.nil _ _, fun i hi => absurd hi (Nat.not_lt_zero i)⟩
theorem fineC (sp st : Int) (a : AV) (rvs : List AV) (rows : List (List (Int × Int))) (h : H) (x : HullR h a rvs rows) :
    (om Try.prog KK).call (.fn 13 [.agg [ii sp, ii st, a]]) h = .ok (.bool (!decide (Great rows []) && decide (hullErr sp st rows = 0))) h := by
  have wf := x.wf
  have hgr : ∀ l w, w ≤ h.clock + l.length → (om Try.prog KK).call (.fn 9 [.agg [ii sp, ii st, a], .nils]) (X h l w) = .ok (.bool (decide (Great rows []))) (X h l w) := fun l w hw => great sp st a .nils rvs [] rows [] _ (x.up l w hw) (ysNil _ (wf.X hw))
  have h31 : ∀ l w, w ≤ h.clock + l.length → (om Try.prog KK).call (.fn 31 [.agg [ii sp, ii st, a]]) (X h l w) = .ok (ii (hullErr sp st rows)) (X h l w) := fun l w hw => checkHullR sp st a rvs rows _ (x.up l w hw)
  refine WV_to (WV_call (fn := Try.f13) Try.func13 rfl rfl rfl rfl rfl ?_)
  simp only [argF]
  by_cases hG : Great rows []
  · rw [decide_eq_true hG] at hgr ⊢
    (repeat' (first
  | (with_reducible first | refine WC_seq ?_ | refine WC_skip ?_ | refine WC_label ?_ | refine WC_scope ?_ | refine WC_block ?_ | refine WC_ret ?_ | refine WC_exit ?_ | refine seqQ_norm ?_ | refine seqQ_ret ?_ | refine seqQ_exit ?_ | refine blkQ_norm ?_ | refine blkQ_ret ?_ | refine blkQ_here ?_ | refine gateK_yes ?_ | refine gateK_none ?_ | refine condK_tt ?_ | refine condK_ff ?_ | refine roundQ_exit ?_ | refine roundQ_ret ?_)
  | refine WC_region ?_ | refine blkQ_out rfl ?_ | refine WO_nil ?_ | refine WD_nil ?_
  | ((first | refine WD_gate rfl rfl rfl rfl rfl fun K_ hK_ => ?_ | refine WO_gate rfl rfl rfl rfl rfl fun K_ hK_ => ?_); simp only [upd_apply, asB_bool, asB_tup, ↓reduceIte, reduceCtorEq, Nat.reduceEqDiff, Bool.not_true, Bool.not_false]; refine hK_ _ ?_; clear hK_ K_)
  | refine gateK_no (by decide) ?_
  | ((try first | refine WO_op rfl rfl rfl ?_ | refine WO_op0 rfl rfl ?_ | refine WD_op rfl rfl rfl ?_ | refine WD_op0 rfl rfl ?_); (refine WV_gen fun Q_ hQ_ => ?_; simp (disch := first | omega | (simp only [List.length_cons, List.length_nil, List.length_append]; omega)) only [bb, bp, argF, ↓reduceIte, reduceCtorEq, Nat.reduceEqDiff, Nat.reduceLT, Nat.reduceLeDiff, Nat.reduceAdd, Nat.reduceMul, Nat.reduceSub, Nat.reduceBEq, Int.reduceToNat, cond_true, cond_false, eq_self, beq_self_eq_true, hgr, h31, newPtr_X wf, load1_X wf, loadAgg_X wf, store1_X wf, writeCells_X wf, makeFunc_def, tEvM8]; first | (refine dec_split (Q := Q_) (fun hp_ => ?_) (fun hp_ => ?_) <;> first | (exfalso; omega) | (refine hQ_ _ _ ?_; clear hQ_ Q_)) | (refine dec_splitn (Q := Q_) (fun hp_ => ?_) (fun hp_ => ?_) <;> first | (exfalso; omega) | (refine hQ_ _ _ ?_; clear hQ_ Q_)) | (refine hQ_ _ _ ?_; clear hQ_ Q_)))
  | (refine WC_cond fun K_ hK_ => ?_; simp (disch := omega) only [evT_tmp, upd_apply, WB_some, ↓reduceIte, reduceCtorEq, Nat.reduceEqDiff, Nat.reduceLT]; refine hK_ _ ?_; clear hK_ K_)))
    all_goals (refine endQ_ret _ _ rfl (ret1 (by decide)) ?_; simp only [upd_apply, ↓reduceIte, reduceCtorEq, Nat.reduceEqDiff]; refine WV_flat rfl (by omega) ?_)
    all_goals exact ⟨by simp [*], rfl⟩
  · rw [decide_eq_false hG] at hgr ⊢
    (repeat' (first
  | (with_reducible first | refine WC_seq ?_ | refine WC_skip ?_ | refine WC_label ?_ | refine WC_scope ?_ | refine WC_block ?_ | refine WC_ret ?_ | refine WC_exit ?_ | refine seqQ_norm ?_ | refine seqQ_ret ?_ | refine seqQ_exit ?_ | refine blkQ_norm ?_ | refine blkQ_ret ?_ | refine blkQ_here ?_ | refine gateK_yes ?_ | refine gateK_none ?_ | refine condK_tt ?_ | refine condK_ff ?_ | refine roundQ_exit ?_ | refine roundQ_ret ?_)
  | refine WC_region ?_ | refine blkQ_out rfl ?_ | refine WO_nil ?_ | refine WD_nil ?_
  | ((first | refine WD_gate rfl rfl rfl rfl rfl fun K_ hK_ => ?_ | refine WO_gate rfl rfl rfl rfl rfl fun K_ hK_ => ?_); simp only [upd_apply, asB_bool, asB_tup, ↓reduceIte, reduceCtorEq, Nat.reduceEqDiff, Bool.not_true, Bool.not_false]; refine hK_ _ ?_; clear hK_ K_)
  | refine gateK_no (by decide) ?_
  | ((try first | refine WO_op rfl rfl rfl ?_ | refine WO_op0 rfl rfl ?_ | refine WD_op rfl rfl rfl ?_ | refine WD_op0 rfl rfl ?_); (refine WV_gen fun Q_ hQ_ => ?_; simp (disch := first | omega | (simp only [List.length_cons, List.length_nil, List.length_append]; omega)) only [bb, bp, argF, ↓reduceIte, reduceCtorEq, Nat.reduceEqDiff, Nat.reduceLT, Nat.reduceLeDiff, Nat.reduceAdd, Nat.reduceMul, Nat.reduceSub, Nat.reduceBEq, Int.reduceToNat, cond_true, cond_false, eq_self, beq_self_eq_true, hgr, h31, newPtr_X wf, load1_X wf, loadAgg_X wf, store1_X wf, writeCells_X wf, makeFunc_def, tEvM8]; first | (refine dec_split (Q := Q_) (fun hp_ => ?_) (fun hp_ => ?_) <;> first | (exfalso; omega) | (refine hQ_ _ _ ?_; clear hQ_ Q_)) | (refine dec_splitn (Q := Q_) (fun hp_ => ?_) (fun hp_ => ?_) <;> first | (exfalso; omega) | (refine hQ_ _ _ ?_; clear hQ_ Q_)) | (refine hQ_ _ _ ?_; clear hQ_ Q_)))
  | (refine WC_cond fun K_ hK_ => ?_; simp (disch := omega) only [evT_tmp, upd_apply, WB_some, ↓reduceIte, reduceCtorEq, Nat.reduceEqDiff, Nat.reduceLT]; refine hK_ _ ?_; clear hK_ K_)))
    all_goals (refine endQ_ret _ _ rfl (ret1 (by decide)) ?_; simp only [upd_apply, ↓reduceIte, reduceCtorEq, Nat.reduceEqDiff]; refine WV_flat rfl (by omega) ?_)
    all_goals exact ⟨by simp [*], rfl⟩

theorem conv5 {n : Int} : convE Try.prog 5 3 (.int .u8 n) = some (ii (IntKind.i64.wrap n)) := c_int un_5 un_3

theorem isBnd_in {N D : Int} (hb : isBnd N D = true) : bndIn N D := by
  unfold isBnd at hb
  rw [Bool.and_eq_true] at hb
  exact of_decide_eq_true hb.1
end Go.Proofs.Ytghondkiondeaac
end

/- EvL17 -/
section
/-
  WHAT IS APPENDED IN A REGION OF FIXED ORDER.
-/
namespace Go.Ev
section
variable {P : Program}
/-- A new object is appended, in a region of fixed order. -/
theorem Grow.appendN {h : H} (wf : Wf h) {L0 G : List AO} {v : AV} {sz e len bytes : Nat} {z : AV} {cs : List AV} (g : Grow h L0 G v sz e len cs) {t : TypeId} (hu : P.underlying t = some (.slice e)) (hz : sizeE P e = some sz) (E : El P e sz bytes z)
    {n : Nat} {new : List AV} (hn : len + n ≤ 10000000) (hn0 : n ≠ 0) (hb : bytes ≤ 100000) (hc : new.length = n * sz) (ho : allOne new = true) :
    ∃ v' G', Grow h L0 G' v' sz e (len + n) (cs ++ new) ∧ (∀ (j : Nat) m' e', e' ≠ e → G[j]? = some (AO.cells m' e') → G'[j]? = some (AO.cells m' e')) ∧
      appendE P t v (.sl (nx h (L0.length + G.length)) 0 n (some n) sz) (X h (L0 ++ (G ++ [.cells (mkCells new) e])) h.clock) = .ok v' (X h (L0 ++ G') h.clock) := by
  obtain ⟨v', G', hg', hk, happ⟩ := (g.more [.cells (mkCells new) e]).appendK (P := P) wf hu hz E (x := .sl (nx h (L0.length + G.length)) 0 n (some n) sz) hn hn0 hb hc ho (fun w => src_new (e := e) wf (by rw [← List.append_assoc]; rw [show L0.length + G.length = (L0 ++ G).length from by simp]; simp) hc)
  refine ⟨v', G', hg', fun j m' e' he hj => hk j m' e' he (by rw [List.getElem?_append_left (List.getElem?_eq_some_iff.1 hj).1]; exact hj), ?_⟩
  obtain ⟨w', h1, h2, h3⟩ := happ h.clock (Nat.le_refl _)
  rw [h3, show w' = h.clock from by omega]
end
end Go.Ev
end

/- EvN2 -/
section
/-
  LAYER 2: a true hull by numbers.
-/
namespace Go.Proofs.Ytghondkiondeaac
open Go.Ev
set_option maxRecDepth 100000
set_option linter.unusedSimpArgs false
set_option linter.unusedVariables false
set_option maxHeartbeats 4000000

theorem tEvN2 : type_of% (And.intro (And.intro (And.intro (And.intro (@ia_2) (And.intro (@sz_2) (@ze_2))) (And.intro (And.intro (@ia_3) (@sz_3)) (And.intro (@ia_5) (@sz_5)))) (And.intro (And.intro (And.intro (@ia_22) (@sz_22)) (And.intro (@ia_24) (@sz_24))) (And.intro (And.intro (@ia_32) (@sz_32)) (And.intro (@ia_34) (@sz_34))))) (And.intro (And.intro (And.intro (@ia_52) (And.intro (@sz_52) (@ia_53))) (And.intro (And.intro (@sz_53) (@ia_55)) (And.intro (@sz_55) (@ze_55)))) (And.intro (And.intro (And.intro (@fo_55_0) (@fo_55_1)) (And.intro (@fo_24_2) (@ik_22))) (And.intro (And.intro (@ik_32) (@ik_52)) (And.intro (@ni_53) (@ni_34)))))) := And.intro (And.intro (And.intro (And.intro (@ia_2) (And.intro (@sz_2) (@ze_2))) (And.intro (And.intro (@ia_3) (@sz_3)) (And.intro (@ia_5) (@sz_5)))) (And.intro (And.intro (And.intro (@ia_22) (@sz_22)) (And.intro (@ia_24) (@sz_24))) (And.intro (And.intro (@ia_32) (@sz_32)) (And.intro (@ia_34) (@sz_34))))) (And.intro (And.intro (And.intro (@ia_52) (And.intro (@sz_52) (@ia_53))) (And.intro (And.intro (@sz_53) (@ia_55)) (And.intro (@sz_55) (@ze_55)))) (And.intro (And.intro (And.intro (@fo_55_0) (@fo_55_1)) (And.intro (@fo_24_2) (@ik_22))) (And.intro (And.intro (@ik_32) (@ik_52)) (And.intro (@ni_53) (@ni_34)))))
theorem conv52 {n : Int} : convE Try.prog 5 2 (.int .u8 n) = some (ii (IntKind.i64.wrap n)) := c_int un_5 un_2
/-- A number given as a byte. -/
def uu (n : Int) : AV := .int .u8 n
/-- The offset at a place, by numbers. -/
def tY (bys : List Int) (r : Int × Int) (q : Nat) : Int := if bys.length = 0 then r.1 else r.1 + bys.getD (q % bys.length) 0 % (r.2 - r.1 + 1)
theorem tY_in {bys : List Int} {r : Int × Int} (hr : isOff r) (q : Nat) : r.1 ≤ tY bys r q ∧ tY bys r q ≤ r.2 := by
  unfold isOff at hr
  unfold tY
  split
  · omega
  · have h1 := Int.emod_nonneg (bys.getD (q % bys.length) 0) (show r.2 - r.1 + 1 ≠ 0 by omega)
    have h2 := Int.emod_lt_of_pos (bys.getD (q % bys.length) 0) (show 0 < r.2 - r.1 + 1 by omega)
    omega
def tG (bys : List Int) (rows : List (List (Int × Int))) (m : Nat) : List Int := gB (fun q => tY bys (rAt rows m q) q) m (rows.length * m)
def tRow (bys : List Int) (rows : List (List (Int × Int))) (m i k : Nat) : List Int := (List.range k).map fun j => tY bys (rAt rows m (i * m + j)) (i * m + j)
theorem tRow_snoc (bys : List Int) (rows : List (List (Int × Int))) (m i k : Nat) : tRow bys rows m i (k + 1) = tRow bys rows m i k ++ [tY bys (rAt rows m (i * m + k)) (i * m + k)] := by
  unfold tRow; rw [List.range_succ, List.map_append]; rfl
theorem gRow_tG {bys : List Int} {rows : List (List (Int × Int))} {m i : Nat} (hn : rows.length ≤ 10) (hm : m ≤ 6) (hi : i < rows.length) : gRow (tG bys rows m) m i = tRow bys rows m i m := by
  have hl : (tG bys rows m).length = 60 := gB_length _ _ _
  refine List.ext_getElem? fun k => ?_
  by_cases hk : k < m
  · have hq : i * m + k < rows.length * m := by
      have := Nat.mul_le_mul_right m (show i + 1 ≤ rows.length from hi)
      rw [Nat.succ_mul] at this; omega
    have e1 : (i * m + k) / m = i := by rw [Nat.mul_comm, Nat.mul_add_div (by omega), Nat.div_eq_of_lt hk]; omega
    have e2 : (i * m + k) % m = k := by rw [Nat.mul_comm, Nat.mul_add_mod]; exact Nat.mod_eq_of_lt hk
    have h1 := gB_at (fun q => tY bys (rAt rows m q) q) hn hm (rows.length * m) (Nat.le_refl _) (i * m + k) hq
    unfold yat at h1
    rw [e1, e2] at h1
    have hl2 : i * 6 + k < (tG bys rows m).length := by omega
    unfold gRow tRow
    rw [List.getElem?_take_of_lt hk, List.getElem?_drop, List.getElem?_map, List.getElem?_range hk]
    unfold tG at *
    rw [List.getD_eq_getElem?_getD, List.getElem?_eq_getElem hl2] at h1
    rw [List.getElem?_eq_getElem hl2]
    simp only [Option.getD_some] at h1
    rw [h1]; rfl
  · have hl2 := gRow_length hl (i := i) (by omega) hm
    rw [List.getElem?_eq_none (by omega), List.getElem?_eq_none (by unfold tRow; simp; omega)]
theorem tG_in {g : Nat} {sp st : Int} {bys : List Int} {rows : List (List (Int × Int))} {m : Nat} (k : HOK g sp st rows m) : InG rows m (tG bys rows m) := by
  refine ⟨gB_length _ _ _, fun q hq => ?_⟩
  unfold tG
  rw [gB_at _ k.hn.2 k.hm.2 _ (Nat.le_refl _) q hq]
  exact tY_in (k.hoff q hq) q

/-- The rows that are made. -/
def Rows2 (h : H) (G : List AO) (cells : List AV) (R : Nat → List Int) (m i : Nat) : Prop :=
  ∀ j, j < i → ∃ idx, cells[j]? = some (.sl (nx h (1 + idx)) 0 m none 1) ∧ G[idx]? = some (.cells (mkCells ((R j).map ii)) 2)
theorem Rows2.snoc {h : H} {G G2 G' : List AO} {cells : List AV} {R : Nat → List Int} {m i idx : Nat} (r : Rows2 h G cells R m i) (hc : cells.length = i) (hk : ∀ (j : Nat) m' e', e' ≠ 53 → (G ++ G2)[j]? = some (AO.cells m' e') → G'[j]? = some (AO.cells m' e')) (hG2 : G2[idx]? = some (.cells (mkCells ((R i).map ii)) 2)) :
    Rows2 h G' (cells ++ [.sl (nx h (1 + G.length + idx)) 0 m none 1]) R m (i + 1) := by
  intro j hj
  by_cases hji : j < i
  · obtain ⟨x, h1, h2⟩ := r j hji
    refine ⟨x, by rw [List.getElem?_append_left (by omega)]; exact h1, hk x _ _ (by decide) ?_⟩
    rw [List.getElem?_append_left (List.getElem?_eq_some_iff.1 h2).1]; exact h2
  · have : j = i := by omega
    subst this
    refine ⟨G.length + idx, by rw [List.getElem?_append_right (by omega), hc, Nat.sub_self, ← Nat.add_assoc]; rfl, hk _ _ _ (by decide) ?_⟩
    rw [List.getElem?_append_right (by omega), Nat.add_sub_cancel_left]; exact hG2

theorem trueC (sp st : Int) (a b : AV) (rvs : List AV) (rows : List (List (Int × Int))) (bys : List Int) (he : hullErr sp st rows = 0) (hby : ∀ n ∈ bys, 0 ≤ n ∧ n ≤ 255) (hbl : bys.length ≤ 80) (h : H) (x : HullR h a rvs rows) (sb : Sl h b 1 bys.length (bys.map uu)) :
    WV ((om Try.prog KK).call (.fn 14 [.agg [ii sp, ii st, a], b]) h) fun v h' => ∃ M yvs, h' = X h M h.w ∧ YsR (X h M h.w) v yvs (listOf (tG bys rows (m0 rows)) rows.length (m0 rows)) := by
  have wf := x.wf
  obtain ⟨hn, hm, hall, hsp, hst, hof⟩ := hullErr_ok he
  have xat := x.at (m := m0 rows) (by omega) (fun i hi => hall _ (List.getElem_mem hi))
  generalize hmm : m0 rows = m at *
  have k0 := hok he (g := 53) (.inl rfl)
  rw [hmm] at k0
  have hlen : ∀ h', lenE Try.prog 22 a h' = some (ii (rows.length : Int)) := fun h' => x.sl.len un_22
  have hlenb : ∀ h', lenE Try.prog 32 b h' = some (ii (bys.length : Int)) := fun h' => sb.len un_32
  refine WV_call (fn := Try.f14) Try.func14 rfl rfl rfl rfl rfl ?_
  simp only [argF]
  (repeat' (first
  | (with_reducible first | refine WC_seq ?_ | refine WC_skip ?_ | refine WC_label ?_ | refine WC_scope ?_ | refine WC_block ?_ | refine WC_ret ?_ | refine WC_exit ?_ | refine seqQ_norm ?_ | refine seqQ_ret ?_ | refine seqQ_exit ?_ | refine blkQ_norm ?_ | refine blkQ_ret ?_ | refine blkQ_here ?_ | refine gateK_yes ?_ | refine gateK_none ?_ | refine condK_tt ?_ | refine condK_ff ?_ | refine roundQ_exit ?_ | refine roundQ_ret ?_)
  | refine WC_region ?_ | refine blkQ_out rfl ?_ | refine WO_nil ?_ | refine WD_nil ?_
  | ((first | refine WD_gate rfl rfl rfl rfl rfl fun K_ hK_ => ?_ | refine WO_gate rfl rfl rfl rfl rfl fun K_ hK_ => ?_); simp only [upd_apply, asB_bool, asB_tup, ↓reduceIte, reduceCtorEq, Nat.reduceEqDiff, Bool.not_true, Bool.not_false]; refine hK_ _ ?_; clear hK_ K_)
  | refine gateK_no (by decide) ?_
  | ((try first | refine WO_op rfl rfl rfl ?_ | refine WO_op0 rfl rfl ?_ | refine WD_op rfl rfl rfl ?_ | refine WD_op0 rfl rfl ?_); (refine WV_gen fun Q_ hQ_ => ?_; simp (disch := first | omega | (simp only [List.length_cons, List.length_nil, List.length_append]; omega)) only [bb, bp, argF, ↓reduceIte, reduceCtorEq, Nat.reduceEqDiff, Nat.reduceLT, Nat.reduceLeDiff, Nat.reduceAdd, Nat.reduceMul, Nat.reduceSub, Nat.reduceBEq, Int.reduceToNat, cond_true, cond_false, eq_self, beq_self_eq_true, hlen, hlenb, newPtr_X wf, newSlice_X wf, load1_X wf, loadAgg_X wf, store1_X wf, writeCells_X wf, makeFunc_def, tEvN2, bsl_53, bsl_34]; first | (refine dec_split (Q := Q_) (fun hp_ => ?_) (fun hp_ => ?_) <;> first | (exfalso; omega) | (refine hQ_ _ _ ?_; clear hQ_ Q_)) | (refine dec_splitn (Q := Q_) (fun hp_ => ?_) (fun hp_ => ?_) <;> first | (exfalso; omega) | (refine hQ_ _ _ ?_; clear hQ_ Q_)) | (refine hQ_ _ _ ?_; clear hQ_ Q_)))
  | (refine WC_cond fun K_ hK_ => ?_; simp (disch := omega) only [evT_tmp, upd_apply, WB_some, ↓reduceIte, reduceCtorEq, Nat.reduceEqDiff, Nat.reduceLT]; refine hK_ _ ?_; clear hK_ K_)))
  refine WC_loop (fun (i : Nat) f d h' => i ≤ rows.length ∧ f 1 = b ∧ f 2 = .ptr (nx h 0) 0 ∧ f 6 = ii ((i * m : Nat) : Int) ∧ f 7 = ii (i : Int) ∧ d = [] ∧ ∃ G cells, h' = X h (.cells (mkCells [ii sp, ii st, a]) 24 :: G) h.clock ∧
    Grow h [.cells (mkCells [ii sp, ii st, a]) 24] G (f 5) 1 53 i cells ∧ Rows2 h G cells (fun j => tRow bys rows m j m) m i) (fun i => rows.length - i) ?_ (rows.length + 1) 0 (by omega) ?_
  · rintro i f d h' ⟨hi, g1, g2, g6, g7, rfl, G, cells, rfl, hgr, hrw⟩
    by_cases hlt : i < rows.length
    · obtain ⟨v, hv, hsv, hrl⟩ := xat.row i hlt
      obtain ⟨id, off, hix, hld⟩ := x.sl.at1 wf hlt ik_22
      rw [hv] at hld
      have hlenv : ∀ h', lenE Try.prog 52 v h' = some (ii (m : Int)) := fun h' => hsv.len un_52
      obtain ⟨ov, hov⟩ : ∃ ov, ov = f 5 := ⟨_, rfl⟩
      rw [← hov] at hgr
      (repeat' (first
  | (with_reducible first | refine WC_seq ?_ | refine WC_skip ?_ | refine WC_label ?_ | refine WC_scope ?_ | refine WC_block ?_ | refine WC_ret ?_ | refine WC_exit ?_ | refine seqQ_norm ?_ | refine seqQ_ret ?_ | refine seqQ_exit ?_ | refine blkQ_norm ?_ | refine blkQ_ret ?_ | refine blkQ_here ?_ | refine gateK_yes ?_ | refine gateK_none ?_ | refine condK_tt ?_ | refine condK_ff ?_ | refine roundQ_exit ?_ | refine roundQ_ret ?_)
  | refine WC_region ?_ | refine blkQ_out rfl ?_ | refine WO_nil ?_ | refine WD_nil ?_
  | ((first | refine WD_gate rfl rfl rfl rfl rfl fun K_ hK_ => ?_ | refine WO_gate rfl rfl rfl rfl rfl fun K_ hK_ => ?_); simp only [upd_apply, asB_bool, asB_tup, ↓reduceIte, reduceCtorEq, Nat.reduceEqDiff, Bool.not_true, Bool.not_false]; refine hK_ _ ?_; clear hK_ K_)
  | refine gateK_no (by decide) ?_
  | ((try first | refine WO_op rfl rfl rfl ?_ | refine WO_op0 rfl rfl ?_ | refine WD_op rfl rfl rfl ?_ | refine WD_op0 rfl rfl ?_); (refine WV_gen fun Q_ hQ_ => ?_; simp (disch := first | omega | (simp only [List.length_cons, List.length_nil, List.length_append]; omega)) only [bb, bp, argF, ↓reduceIte, reduceCtorEq, Nat.reduceEqDiff, Nat.reduceLT, Nat.reduceLeDiff, Nat.reduceAdd, Nat.reduceMul, Nat.reduceSub, Nat.reduceBEq, Int.reduceToNat, cond_true, cond_false, eq_self, beq_self_eq_true, g1, g2, g6, g7, hlen, newPtr_X wf, newSlice_X wf, load1_X wf, loadAgg_X wf, store1_X wf, writeCells_X wf, makeFunc_def, tEvN2, bsl_53, bsl_34]; first | (refine dec_split (Q := Q_) (fun hp_ => ?_) (fun hp_ => ?_) <;> first | (exfalso; omega) | (refine hQ_ _ _ ?_; clear hQ_ Q_)) | (refine dec_splitn (Q := Q_) (fun hp_ => ?_) (fun hp_ => ?_) <;> first | (exfalso; omega) | (refine hQ_ _ _ ?_; clear hQ_ Q_)) | (refine hQ_ _ _ ?_; clear hQ_ Q_)))
  | (refine WC_cond fun K_ hK_ => ?_; simp (disch := omega) only [evT_tmp, upd_apply, WB_some, ↓reduceIte, reduceCtorEq, Nat.reduceEqDiff, Nat.reduceLT]; refine hK_ _ ?_; clear hK_ K_)))
      refine WC_loop (fun (k : Nat) f d h' => k ≤ m ∧ f 1 = b ∧ f 2 = .ptr (nx h 0) 0 ∧ f 5 = ov ∧ f 6 = ii ((i * m + k : Nat) : Int) ∧ f 7 = ii (i : Int) ∧ f 9 = ii (k : Int) ∧ d = [] ∧ ∃ G2, h' = X h (.cells (mkCells [ii sp, ii st, a]) 24 :: (G ++ G2)) h.clock ∧
        Grow h (.cells (mkCells [ii sp, ii st, a]) 24 :: G) G2 (f 8) 1 2 k ((tRow bys rows m i k).map ii)) (fun k => m - k) ?_ (m + 1) 0 (by omega) ?_
      · clear g1 g2 g6 g7
        rintro k f d h' ⟨hk, g1, g2, g5, g6, g7, g9, rfl, G2, rfl, hg2⟩
        by_cases hkl : k < m
        · obtain ⟨id3, off3, hix3, hld3⟩ := hsv.at wf hkl ik_52
          have hkr : k < rows[i].length := by omega
          have hq : i * m + k < rows.length * m := by
            have := Nat.mul_le_mul_right m (show i + 1 ≤ rows.length from hlt)
            rw [Nat.succ_mul] at this; omega
          have hq60 : i * m + k < 60 := by have := nm_le hn.2 hm.2; omega
          have hr := rAt_ik hlt hkl hrl
          have hoff := k0.hoff _ hq
          have hsn := tRow_snoc bys rows m i k
          have hrow : ∀ l w, loadAgg id3 off3 (some 2) (X h l w) = some (.agg [ii rows[i][k].1, ii rows[i][k].2]) := fun l w => by rw [(hld3 l w).2, pairCells_at hkr]
          rw [← hr] at hrow
          generalize rAt rows m (i * m + k) = r at *
          have hyr := tY_in (bys := bys) hoff (i * m + k)
          unfold isOff at hoff
          obtain ⟨q, hqd⟩ : ∃ q, q = i * m + k := ⟨_, rfl⟩
          rw [← hqd] at g6 hq60 hsn hyr
          have hr8 := hg2.resz (P := Try.prog) 53
          obtain ⟨rv', G2', hg2', -, happ0⟩ := (hg2.more [.cells (mkCells [ii r.1, ii r.2]) 55]).appendN (P := Try.prog) wf un_53 sz_2 el_2 (n := 1) (new := [ii (tY bys r q)]) (by omega) (by omega) (by omega) rfl rfl
          have happ : ∀ n, n = G.length + G2.length + 2 → appendE Try.prog 53 (f 8) (.sl (nx h n) 0 1 (some 1) 1) (X h (.cells (mkCells [ii sp, ii st, a]) 24 :: (G ++ (G2 ++ [.cells (mkCells [ii r.1, ii r.2]) 55, .cells (mkCells [ii (tY bys r q)]) 2]))) h.clock) = .ok rv' (X h (.cells (mkCells [ii sp, ii st, a]) 24 :: (G ++ G2')) h.clock) := fun n hnn => by
            have e : n = (AO.cells (mkCells [ii sp, ii st, a]) 24 :: G).length + (G2 ++ [AO.cells (mkCells [ii r.1, ii r.2]) 55]).length := by simp; omega
            rw [e]
            simpa using happ0
          by_cases hb0 : bys.length = 0
          · have hye : tY bys r q = r.1 := by unfold tY; rw [if_pos hb0]
            rw [hye] at happ
            rw [hb0] at hlenb
            (repeat' (first
  | (with_reducible first | refine WC_seq ?_ | refine WC_skip ?_ | refine WC_label ?_ | refine WC_scope ?_ | refine WC_block ?_ | refine WC_ret ?_ | refine WC_exit ?_ | refine seqQ_norm ?_ | refine seqQ_ret ?_ | refine seqQ_exit ?_ | refine blkQ_norm ?_ | refine blkQ_ret ?_ | refine blkQ_here ?_ | refine gateK_yes ?_ | refine gateK_none ?_ | refine condK_tt ?_ | refine condK_ff ?_ | refine roundQ_exit ?_ | refine roundQ_ret ?_)
  | refine WC_region ?_ | refine blkQ_out rfl ?_ | refine WO_nil ?_ | refine WD_nil ?_
  | ((first | refine WD_gate rfl rfl rfl rfl rfl fun K_ hK_ => ?_ | refine WO_gate rfl rfl rfl rfl rfl fun K_ hK_ => ?_); simp only [upd_apply, asB_bool, asB_tup, ↓reduceIte, reduceCtorEq, Nat.reduceEqDiff, Bool.not_true, Bool.not_false]; refine hK_ _ ?_; clear hK_ K_)
  | refine gateK_no (by decide) ?_
  | ((try first | refine WO_op rfl rfl rfl ?_ | refine WO_op0 rfl rfl ?_ | refine WD_op rfl rfl rfl ?_ | refine WD_op0 rfl rfl ?_); (refine WV_gen fun Q_ hQ_ => ?_; simp (disch := first | omega | (simp only [List.length_cons, List.length_nil, List.length_append]; omega)) only [bb, bp, argF, ↓reduceIte, reduceCtorEq, Nat.reduceEqDiff, Nat.reduceLT, Nat.reduceLeDiff, Nat.reduceAdd, Nat.reduceMul, Nat.reduceSub, Nat.reduceBEq, Int.reduceToNat, cond_true, cond_false, eq_self, beq_self_eq_true, g1, g2, g5, g6, g7, g9, hlen, hlenb, hix, hld, hlenv, hix3, hrow, hr8, happ, reszT_some un_53 sz_2, newPtr_X wf, newSlice_X wf, load1_X wf, loadAgg_X wf, store1_X wf, writeCells_X wf, makeFunc_def, tEvN2, bsl_53, bsl_34]; first | (refine dec_split (Q := Q_) (fun hp_ => ?_) (fun hp_ => ?_) <;> first | (exfalso; omega) | (refine hQ_ _ _ ?_; clear hQ_ Q_)) | (refine dec_splitn (Q := Q_) (fun hp_ => ?_) (fun hp_ => ?_) <;> first | (exfalso; omega) | (refine hQ_ _ _ ?_; clear hQ_ Q_)) | (refine hQ_ _ _ ?_; clear hQ_ Q_)))
  | (refine WC_cond fun K_ hK_ => ?_; simp (disch := omega) only [evT_tmp, upd_apply, WB_some, ↓reduceIte, reduceCtorEq, Nat.reduceEqDiff, Nat.reduceLT]; refine hK_ _ ?_; clear hK_ K_)))
            refine roundQ_again (k + 1) (by omega) ⟨hkl, by simp only [upd_apply, ↓reduceIte, reduceCtorEq, Nat.reduceEqDiff]; exact g1, by simp only [upd_apply, ↓reduceIte, reduceCtorEq, Nat.reduceEqDiff]; exact g2, by simp only [upd_apply, ↓reduceIte, reduceCtorEq, Nat.reduceEqDiff]; exact g5, by simp only [upd_apply, ↓reduceIte, reduceCtorEq, Nat.reduceEqDiff]; rw [hqd]; rfl, by simp only [upd_apply, ↓reduceIte, reduceCtorEq, Nat.reduceEqDiff]; exact g7, by simp only [upd_apply, ↓reduceIte, reduceCtorEq, Nat.reduceEqDiff]; rfl, rfl, G2', rfl, ?_⟩
            simp only [upd_apply, ↓reduceIte, reduceCtorEq, Nat.reduceEqDiff]
            rw [hsn, List.map_append]
            exact hg2'
          · have hb0' : 0 < bys.length := by omega
            obtain ⟨ib, ob, hxb, hlb⟩ := sb.at1 wf (i := q % bys.length) (Nat.mod_lt _ hb0') ik_32
            have hbv : (bys.map uu)[q % bys.length]? = some (uu (bys.getD (q % bys.length) 0)) := by
              have := Nat.mod_lt q hb0'
              simp [List.getD, this]
            rw [hbv] at hlb
            unfold uu at hlb
            have hbb : 0 ≤ bys.getD (q % bys.length) 0 ∧ bys.getD (q % bys.length) 0 ≤ 255 := by
              have := Nat.mod_lt q hb0'
              rw [List.getD_eq_getElem?_getD, List.getElem?_eq_getElem this]
              exact hby _ (List.getElem_mem _)
            have hye : tY bys r q = r.1 + bys.getD (q % bys.length) 0 % (r.2 - r.1 + 1) := by unfold tY; rw [if_neg hb0]
            generalize bys.getD (q % bys.length) 0 = bv at *
            have htm : bv.tmod (r.2 - r.1 + 1) = bv % (r.2 - r.1 + 1) := Int.tmod_eq_emod_of_nonneg hbb.1
            have htq : ((q : Nat) : Int).tmod ((bys.length : Nat) : Int) = ((q % bys.length : Nat) : Int) := (Int.ofNat_tmod q bys.length).symm
            have hz1 : ((bys.length : Nat) : Int) ≠ 0 := by omega
            have hz2 : r.2 - r.1 + 1 ≠ 0 := by omega
            have hwb : IntKind.i64.wrap bv = bv := wrap_in _ (by omega) (by omega)
            rw [hye] at happ hyr
            (repeat' (first
  | (with_reducible first | refine WC_seq ?_ | refine WC_skip ?_ | refine WC_label ?_ | refine WC_scope ?_ | refine WC_block ?_ | refine WC_ret ?_ | refine WC_exit ?_ | refine seqQ_norm ?_ | refine seqQ_ret ?_ | refine seqQ_exit ?_ | refine blkQ_norm ?_ | refine blkQ_ret ?_ | refine blkQ_here ?_ | refine gateK_yes ?_ | refine gateK_none ?_ | refine condK_tt ?_ | refine condK_ff ?_ | refine roundQ_exit ?_ | refine roundQ_ret ?_)
  | refine WC_region ?_ | refine blkQ_out rfl ?_ | refine WO_nil ?_ | refine WD_nil ?_
  | ((first | refine WD_gate rfl rfl rfl rfl rfl fun K_ hK_ => ?_ | refine WO_gate rfl rfl rfl rfl rfl fun K_ hK_ => ?_); simp only [upd_apply, asB_bool, asB_tup, ↓reduceIte, reduceCtorEq, Nat.reduceEqDiff, Bool.not_true, Bool.not_false]; refine hK_ _ ?_; clear hK_ K_)
  | refine gateK_no (by decide) ?_
  | ((try first | refine WO_op rfl rfl rfl ?_ | refine WO_op0 rfl rfl ?_ | refine WD_op rfl rfl rfl ?_ | refine WD_op0 rfl rfl ?_); (refine WV_gen fun Q_ hQ_ => ?_; simp (disch := first | omega | (simp only [List.length_cons, List.length_nil, List.length_append]; omega)) only [bb, bp, argF, ↓reduceIte, reduceCtorEq, Nat.reduceEqDiff, Nat.reduceLT, Nat.reduceLeDiff, Nat.reduceAdd, Nat.reduceMul, Nat.reduceSub, Nat.reduceBEq, Int.reduceToNat, cond_true, cond_false, eq_self, beq_self_eq_true, g1, g2, g5, g6, g7, g9, hlen, hlenb, hix, hld, hlenv, hix3, hrow, newPtr_X wf, newSlice_X wf, load1_X wf, loadAgg_X wf, store1_X wf, writeCells_X wf, makeFunc_def, tEvN2, bsl_53, bsl_34]; first | (refine dec_split (Q := Q_) (fun hp_ => ?_) (fun hp_ => ?_) <;> first | (exfalso; omega) | (refine hQ_ _ _ ?_; clear hQ_ Q_)) | (refine dec_splitn (Q := Q_) (fun hp_ => ?_) (fun hp_ => ?_) <;> first | (exfalso; omega) | (refine hQ_ _ _ ?_; clear hQ_ Q_)) | (refine hQ_ _ _ ?_; clear hQ_ Q_)))
  | (refine WC_cond fun K_ hK_ => ?_; simp (disch := omega) only [evT_tmp, upd_apply, WB_some, ↓reduceIte, reduceCtorEq, Nat.reduceEqDiff, Nat.reduceLT]; refine hK_ _ ?_; clear hK_ K_)))
            refine WC_drawnB [.no, .no, .no, .no, .no, .no, .no, .no, .no, .no, .no, .no, .no, .no, .no, .full, .full, .full] (by kernel_rfl) ?_
            (repeat' (first
  | (with_reducible first | refine WC_seq ?_ | refine WC_skip ?_ | refine WC_label ?_ | refine WC_scope ?_ | refine WC_block ?_ | refine WC_ret ?_ | refine WC_exit ?_ | refine seqQ_norm ?_ | refine seqQ_ret ?_ | refine seqQ_exit ?_ | refine blkQ_norm ?_ | refine blkQ_ret ?_ | refine blkQ_here ?_ | refine gateK_yes ?_ | refine gateK_none ?_ | refine condK_tt ?_ | refine condK_ff ?_ | refine roundQ_exit ?_ | refine roundQ_ret ?_)
  | refine WC_region ?_ | refine blkQ_out rfl ?_ | refine WO_nil ?_ | refine WD_nil ?_
  | ((first | refine WD_gate rfl rfl rfl rfl rfl fun K_ hK_ => ?_ | refine WO_gate rfl rfl rfl rfl rfl fun K_ hK_ => ?_); simp only [upd_apply, asB_bool, asB_tup, ↓reduceIte, reduceCtorEq, Nat.reduceEqDiff, Bool.not_true, Bool.not_false]; refine hK_ _ ?_; clear hK_ K_)
  | refine gateK_no (by decide) ?_
  | ((try first | refine WO_op rfl rfl rfl ?_ | refine WO_op0 rfl rfl ?_ | refine WD_op rfl rfl rfl ?_ | refine WD_op0 rfl rfl ?_); (refine WV_gen fun Q_ hQ_ => ?_; simp (disch := first | omega | (simp only [List.length_cons, List.length_nil, List.length_append]; omega)) only [bb, bp, argF, ↓reduceIte, reduceCtorEq, Nat.reduceEqDiff, Nat.reduceLT, Nat.reduceLeDiff, Nat.reduceAdd, Nat.reduceMul, Nat.reduceSub, Nat.reduceBEq, Int.reduceToNat, cond_true, cond_false, eq_self, beq_self_eq_true, g1, g2, g5, g6, g7, g9, hlen, hlenb, hix, hld, hlenv, hix3, hrow, hxb, hlb, conv52, hwb, b_rem hz1, b_rem hz2, htm, htq, hr8, happ, reszT_some un_53 sz_2, newPtr_X wf, newSlice_X wf, load1_X wf, loadAgg_X wf, store1_X wf, writeCells_X wf, makeFunc_def, tEvN2, bsl_53, bsl_34]; first | (refine dec_split (Q := Q_) (fun hp_ => ?_) (fun hp_ => ?_) <;> first | (exfalso; omega) | (refine hQ_ _ _ ?_; clear hQ_ Q_)) | (refine dec_splitn (Q := Q_) (fun hp_ => ?_) (fun hp_ => ?_) <;> first | (exfalso; omega) | (refine hQ_ _ _ ?_; clear hQ_ Q_)) | (refine hQ_ _ _ ?_; clear hQ_ Q_)))
  | (refine WC_cond fun K_ hK_ => ?_; simp (disch := omega) only [evT_tmp, upd_apply, WB_some, ↓reduceIte, reduceCtorEq, Nat.reduceEqDiff, Nat.reduceLT]; refine hK_ _ ?_; clear hK_ K_)))
            refine roundQ_again (k + 1) (by omega) ⟨hkl, by simp only [upd_apply, ↓reduceIte, reduceCtorEq, Nat.reduceEqDiff]; exact g1, by simp only [upd_apply, ↓reduceIte, reduceCtorEq, Nat.reduceEqDiff]; exact g2, by simp only [upd_apply, ↓reduceIte, reduceCtorEq, Nat.reduceEqDiff]; exact g5, by simp only [upd_apply, ↓reduceIte, reduceCtorEq, Nat.reduceEqDiff]; rw [hqd]; rfl, by simp only [upd_apply, ↓reduceIte, reduceCtorEq, Nat.reduceEqDiff]; exact g7, by simp only [upd_apply, ↓reduceIte, reduceCtorEq, Nat.reduceEqDiff]; rfl, rfl, G2', rfl, ?_⟩
            simp only [upd_apply, ↓reduceIte, reduceCtorEq, Nat.reduceEqDiff]
            rw [hsn, List.map_append]
            exact hg2'
        · have hkm : k = m := by omega
          subst hkm
          obtain ⟨idx, hv8, hG2⟩ : ∃ idx, f 8 = .sl (nx h ((AO.cells (mkCells [ii sp, ii st, a]) 24 :: G).length + idx)) 0 k none 1 ∧ G2[idx]? = some (.cells (mkCells ((tRow bys rows k i k).map ii)) 2) := by
            obtain ⟨_, ⟨h0, _⟩ | ⟨idx, h1, h2⟩⟩ := hg2
            · omega
            · exact ⟨idx, h1, h2⟩
          have e8 : (AO.cells (mkCells [ii sp, ii st, a]) 24 :: G).length + idx = 1 + G.length + idx := by simp; omega
          rw [e8] at hv8
          have hr8 : reszT Try.prog 53 (f 8) = f 8 := by rw [hv8]; exact reszT_none
          have hr5 := hgr.resz (P := Try.prog) 34
          have hcl : cells.length = i := by have := hgr.1; omega
          obtain ⟨ov', G', hgr', hkeep, happ0⟩ := (hgr.more G2).appendN (P := Try.prog) wf un_34 sz_53 el_53 (n := 1) (new := [f 8]) (by omega) (by omega) (by omega) rfl (by rw [hv8]; rfl)
          have happ : ∀ n, n = G.length + G2.length + 1 → appendE Try.prog 34 ov (.sl (nx h n) 0 1 (some 1) 1) (X h (.cells (mkCells [ii sp, ii st, a]) 24 :: (G ++ (G2 ++ [.cells (mkCells [f 8]) 53]))) h.clock) = .ok ov' (X h (.cells (mkCells [ii sp, ii st, a]) 24 :: G') h.clock) := fun n hnn => by
            have e : n = [AO.cells (mkCells [ii sp, ii st, a]) 24].length + (G ++ G2).length := by simp; omega
            rw [e]
            simpa using happ0
          rw [hv8] at happ hgr'
          (repeat' (first
  | (with_reducible first | refine WC_seq ?_ | refine WC_skip ?_ | refine WC_label ?_ | refine WC_scope ?_ | refine WC_block ?_ | refine WC_ret ?_ | refine WC_exit ?_ | refine seqQ_norm ?_ | refine seqQ_ret ?_ | refine seqQ_exit ?_ | refine blkQ_norm ?_ | refine blkQ_ret ?_ | refine blkQ_here ?_ | refine gateK_yes ?_ | refine gateK_none ?_ | refine condK_tt ?_ | refine condK_ff ?_ | refine roundQ_exit ?_ | refine roundQ_ret ?_)
  | refine WC_region ?_ | refine blkQ_out rfl ?_ | refine WO_nil ?_ | refine WD_nil ?_
  | ((first | refine WD_gate rfl rfl rfl rfl rfl fun K_ hK_ => ?_ | refine WO_gate rfl rfl rfl rfl rfl fun K_ hK_ => ?_); simp only [upd_apply, asB_bool, asB_tup, ↓reduceIte, reduceCtorEq, Nat.reduceEqDiff, Bool.not_true, Bool.not_false]; refine hK_ _ ?_; clear hK_ K_)
  | refine gateK_no (by decide) ?_
  | ((try first | refine WO_op rfl rfl rfl ?_ | refine WO_op0 rfl rfl ?_ | refine WD_op rfl rfl rfl ?_ | refine WD_op0 rfl rfl ?_); (refine WV_gen fun Q_ hQ_ => ?_; simp (disch := first | omega | (simp only [List.length_cons, List.length_nil, List.length_append]; omega)) only [bb, bp, argF, ↓reduceIte, reduceCtorEq, Nat.reduceEqDiff, Nat.reduceLT, Nat.reduceLeDiff, Nat.reduceAdd, Nat.reduceMul, Nat.reduceSub, Nat.reduceBEq, Int.reduceToNat, cond_true, cond_false, eq_self, beq_self_eq_true, g1, g2, g5, g6, g7, g9, hv8, hlen, hix, hld, hlenv, hr5, happ, reszT_some un_34 sz_53, reszT_none, newPtr_X wf, newSlice_X wf, load1_X wf, loadAgg_X wf, store1_X wf, writeCells_X wf, makeFunc_def, tEvN2, bsl_53, bsl_34]; first | (refine dec_split (Q := Q_) (fun hp_ => ?_) (fun hp_ => ?_) <;> first | (exfalso; omega) | (refine hQ_ _ _ ?_; clear hQ_ Q_)) | (refine dec_splitn (Q := Q_) (fun hp_ => ?_) (fun hp_ => ?_) <;> first | (exfalso; omega) | (refine hQ_ _ _ ?_; clear hQ_ Q_)) | (refine hQ_ _ _ ?_; clear hQ_ Q_)))
  | (refine WC_cond fun K_ hK_ => ?_; simp (disch := omega) only [evT_tmp, upd_apply, WB_some, ↓reduceIte, reduceCtorEq, Nat.reduceEqDiff, Nat.reduceLT]; refine hK_ _ ?_; clear hK_ K_)))
          refine roundQ_again (i + 1) (by omega) ⟨hlt, by simp only [upd_apply, ↓reduceIte, reduceCtorEq, Nat.reduceEqDiff]; exact g1, by simp only [upd_apply, ↓reduceIte, reduceCtorEq, Nat.reduceEqDiff]; exact g2, by simp only [upd_apply, ↓reduceIte, reduceCtorEq, Nat.reduceEqDiff]; rw [Nat.succ_mul]; exact g6, by simp only [upd_apply, ↓reduceIte, reduceCtorEq, Nat.reduceEqDiff]; rfl, rfl, G', _, rfl, by simp only [upd_apply, ↓reduceIte, reduceCtorEq, Nat.reduceEqDiff]; exact hgr', ?_⟩
          exact hrw.snoc hcl hkeep hG2
      · refine ⟨Nat.zero_le _, by simp only [upd_apply, ↓reduceIte, reduceCtorEq, Nat.reduceEqDiff]; exact g1, by simp only [upd_apply, ↓reduceIte, reduceCtorEq, Nat.reduceEqDiff]; exact g2, by simp only [upd_apply, ↓reduceIte, reduceCtorEq, Nat.reduceEqDiff]; exact hov.symm, by simp only [upd_apply, ↓reduceIte, reduceCtorEq, Nat.reduceEqDiff]; exact g6, by simp only [upd_apply, ↓reduceIte, reduceCtorEq, Nat.reduceEqDiff]; exact g7, by simp only [upd_apply, ↓reduceIte, reduceCtorEq, Nat.reduceEqDiff]; rfl, rfl, [], by rw [List.append_nil], ?_⟩
        simp only [upd_apply, ↓reduceIte, reduceCtorEq, Nat.reduceEqDiff]
        exact Grow.nil h _ [] 1 2
    · have hie : i = rows.length := by omega
      subst hie
      obtain ⟨idx, hv5, -⟩ : ∃ idx, f 5 = .sl (nx h ([AO.cells (mkCells [ii sp, ii st, a]) 24].length + idx)) 0 rows.length none 1 ∧ True := by
        obtain ⟨_, ⟨h0, _⟩ | ⟨idx, h1, h2⟩⟩ := hgr
        · omega
        · exact ⟨idx, h1, trivial⟩
      have hsl := hgr.sl wf h.w
      (repeat' (first
  | (with_reducible first | refine WC_seq ?_ | refine WC_skip ?_ | refine WC_label ?_ | refine WC_scope ?_ | refine WC_block ?_ | refine WC_ret ?_ | refine WC_exit ?_ | refine seqQ_norm ?_ | refine seqQ_ret ?_ | refine seqQ_exit ?_ | refine blkQ_norm ?_ | refine blkQ_ret ?_ | refine blkQ_here ?_ | refine gateK_yes ?_ | refine gateK_none ?_ | refine condK_tt ?_ | refine condK_ff ?_ | refine roundQ_exit ?_ | refine roundQ_ret ?_)
  | refine WC_region ?_ | refine blkQ_out rfl ?_ | refine WO_nil ?_ | refine WD_nil ?_
  | ((first | refine WD_gate rfl rfl rfl rfl rfl fun K_ hK_ => ?_ | refine WO_gate rfl rfl rfl rfl rfl fun K_ hK_ => ?_); simp only [upd_apply, asB_bool, asB_tup, ↓reduceIte, reduceCtorEq, Nat.reduceEqDiff, Bool.not_true, Bool.not_false]; refine hK_ _ ?_; clear hK_ K_)
  | refine gateK_no (by decide) ?_
  | ((try first | refine WO_op rfl rfl rfl ?_ | refine WO_op0 rfl rfl ?_ | refine WD_op rfl rfl rfl ?_ | refine WD_op0 rfl rfl ?_); (refine WV_gen fun Q_ hQ_ => ?_; simp (disch := first | omega | (simp only [List.length_cons, List.length_nil, List.length_append]; omega)) only [bb, bp, argF, ↓reduceIte, reduceCtorEq, Nat.reduceEqDiff, Nat.reduceLT, Nat.reduceLeDiff, Nat.reduceAdd, Nat.reduceMul, Nat.reduceSub, Nat.reduceBEq, Int.reduceToNat, cond_true, cond_false, eq_self, beq_self_eq_true, g1, g2, g6, g7, hlen, newPtr_X wf, newSlice_X wf, load1_X wf, loadAgg_X wf, store1_X wf, writeCells_X wf, makeFunc_def, tEvN2, bsl_53, bsl_34]; first | (refine dec_split (Q := Q_) (fun hp_ => ?_) (fun hp_ => ?_) <;> first | (exfalso; omega) | (refine hQ_ _ _ ?_; clear hQ_ Q_)) | (refine dec_splitn (Q := Q_) (fun hp_ => ?_) (fun hp_ => ?_) <;> first | (exfalso; omega) | (refine hQ_ _ _ ?_; clear hQ_ Q_)) | (refine hQ_ _ _ ?_; clear hQ_ Q_)))
  | (refine WC_cond fun K_ hK_ => ?_; simp (disch := omega) only [evT_tmp, upd_apply, WB_some, ↓reduceIte, reduceCtorEq, Nat.reduceEqDiff, Nat.reduceLT]; refine hK_ _ ?_; clear hK_ K_)))
      refine endQ_ret _ _ rfl (ret1 (by decide)) ?_
      simp only [upd_apply, ↓reduceIte, reduceCtorEq, Nat.reduceEqDiff]
      refine WV_keep wf (Nat.le_refl _) (fun hf => by rw [hv5] at hf; cases hf) (fun _ => ⟨_, cells, rfl, ?_⟩)
      have hwf : h.w ≤ h.clock := wf.wle
      have hll : (listOf (tG bys rows m) rows.length m).length = rows.length := by unfold listOf; simp
      refine ⟨wf.X (by omega), by rw [hll]; exact hsl, fun j hj => ?_⟩
      rw [hll] at hj
      obtain ⟨idx, c1, c2⟩ := hrw j hj
      have hyj : (listOf (tG bys rows m) rows.length m)[j] = tRow bys rows m j m := by
        rw [← gRow_tG hn.2 hm.2 hj]
        exact (List.getElem_map _).trans (by rw [List.getElem_range])
      have hlj : (tRow bys rows m j m).length = m := by unfold tRow; simp
      refine ⟨_, c1, ?_, fun id off l esz e => by cases e; rfl⟩
      rw [hyj, hlj]
      refine .inl (Sl.new wf (by rw [List.length_map, hlj]; omega) (e := 2) ?_)
      rw [Nat.add_comm, List.getElem?_cons_succ]
      exact c2
  · refine ⟨Nat.zero_le _, by simp only [upd_apply, ↓reduceIte, reduceCtorEq, Nat.reduceEqDiff], by simp only [upd_apply, ↓reduceIte, reduceCtorEq, Nat.reduceEqDiff], by simp only [upd_apply, ↓reduceIte, reduceCtorEq, Nat.reduceEqDiff]; simp, by simp only [upd_apply, ↓reduceIte, reduceCtorEq, Nat.reduceEqDiff]; rfl, rfl, [], [], rfl, by simp only [upd_apply, ↓reduceIte, reduceCtorEq, Nat.reduceEqDiff]; exact Grow.nil h _ [] 1 53, fun j hj => absurd hj (Nat.not_lt_zero j)⟩
end Go.Proofs.Ytghondkiondeaac
end

/- EvN3 -/
section
/-
  LAYER 2: numbers of true hulls held against the ends.
-/
namespace Go.Proofs.Ytghondkiondeaac
open Go.Ev
set_option maxRecDepth 100000
set_option linter.unusedSimpArgs false
set_option linter.unusedVariables false
set_option maxHeartbeats 4000000

theorem tEvN3 : type_of% (And.intro (And.intro (And.intro (And.intro (@ia_2) (@sz_2)) (And.intro (@ze_2) (@ia_3))) (And.intro (And.intro (@sz_3) (@ia_4)) (And.intro (@sz_4) (@ia_26)))) (And.intro (And.intro (And.intro (@sz_26) (@ze_26)) (And.intro (@ia_39) (@sz_39))) (And.intro (And.intro (@ze_39) (@fo_39_0)) (And.intro (@fo_39_1) (And.intro (@pb_20) (@pb_21)))))) := And.intro (And.intro (And.intro (And.intro (@ia_2) (@sz_2)) (And.intro (@ze_2) (@ia_3))) (And.intro (And.intro (@sz_3) (@ia_4)) (And.intro (@sz_4) (@ia_26)))) (And.intro (And.intro (And.intro (@sz_26) (@ze_26)) (And.intro (@ia_39) (@sz_39))) (And.intro (And.intro (@ze_39) (@fo_39_0)) (And.intro (@fo_39_1) (And.intro (@pb_20) (@pb_21)))))
section
variable {sp st : Int} {rows : List (List (Int × Int))} {m : Nat}
end
section
variable {g : Nat} {sp st : Int} {rows : List (List (Int × Int))} {m : Nat}
theorem low_le (k : HOK g sp st rows m) {gs : List Int} (hi : InG rows m gs) :
    ratN g sp st rows m (theEnd g sp st rows m false) * ratD g sp st rows m gs ≤ ratN g sp st rows m gs * ratD g sp st rows m (theEnd g sp st rows m false) := by
  have := beyond k false hi
  rw [sgn_ff] at this
  have e := Int.mul_comm (ratN g sp st rows m (theEnd g sp st rows m false)) (ratD g sp st rows m gs)
  omega
theorem le_high (k : HOK g sp st rows m) {gs : List Int} (hi : InG rows m gs) :
    ratN g sp st rows m gs * ratD g sp st rows m (theEnd g sp st rows m true) ≤ ratN g sp st rows m (theEnd g sp st rows m true) * ratD g sp st rows m gs := by
  have := beyond k true hi
  rw [sgn_tt] at this
  have e := Int.mul_comm (ratN g sp st rows m (theEnd g sp st rows m true)) (ratD g sp st rows m gs)
  omega
end

theorem insideC {vN vD lN lD hN hD : Int} (b : isBnd vN vD = true) (bl : isBnd lN lD = true) (bh : isBnd hN hD = true) (h1 : lN * vD ≤ vN * lD) (h2 : vN * hD ≤ hN * vD) (h : H) (wf : Wf h) :
    (om Try.prog KK).call (.fn 19 [.agg [ii vN, ii vD], .agg [ii lN, ii lD, ii hN, ii hD]]) h = .ok (.bool true) h := by
  have h20 : ∀ l w N D, w ≤ h.clock + l.length → (om Try.prog KK).call (.fn 20 [.agg [ii N, ii D]]) (X h l w) = .ok (.bool (isBnd N D)) (X h l w) := fun l w N D hw => isBoundR N D _ (wf.X hw)
  have hl1 : ∀ l w, w ≤ h.clock + l.length → (om Try.prog KK).call (.fn 21 [.agg [ii vN, ii vD], .agg [ii lN, ii lD]]) (X h l w) = .ok (.bool false) (X h l w) := fun l w hw => by
    rw [lessR vN vD lN lD (isBnd_in b) (isBnd_in bl) _ (wf.X hw), decide_eq_false (by omega)]
  have hl2 : ∀ l w, w ≤ h.clock + l.length → (om Try.prog KK).call (.fn 21 [.agg [ii hN, ii hD], .agg [ii vN, ii vD]]) (X h l w) = .ok (.bool false) (X h l w) := fun l w hw => by
    rw [lessR hN hD vN vD (isBnd_in bh) (isBnd_in b) _ (wf.X hw), decide_eq_false (by omega)]
  refine WV_to (WV_call (fn := Try.f19) Try.func19 rfl rfl rfl rfl rfl ?_)
  simp only [argF]
  (repeat' (first
  | (with_reducible first | refine WC_seq ?_ | refine WC_skip ?_ | refine WC_label ?_ | refine WC_scope ?_ | refine WC_block ?_ | refine WC_ret ?_ | refine WC_exit ?_ | refine seqQ_norm ?_ | refine seqQ_ret ?_ | refine seqQ_exit ?_ | refine blkQ_norm ?_ | refine blkQ_ret ?_ | refine blkQ_here ?_ | refine gateK_yes ?_ | refine gateK_none ?_ | refine condK_tt ?_ | refine condK_ff ?_ | refine roundQ_exit ?_ | refine roundQ_ret ?_)
  | refine WC_region ?_ | refine blkQ_out rfl ?_ | refine WO_nil ?_ | refine WD_nil ?_
  | ((first | refine WD_gate rfl rfl rfl rfl rfl fun K_ hK_ => ?_ | refine WO_gate rfl rfl rfl rfl rfl fun K_ hK_ => ?_); simp only [upd_apply, asB_bool, asB_tup, ↓reduceIte, reduceCtorEq, Nat.reduceEqDiff, Bool.not_true, Bool.not_false]; refine hK_ _ ?_; clear hK_ K_)
  | refine gateK_no (by decide) ?_
  | ((try first | refine WO_op rfl rfl rfl ?_ | refine WO_op0 rfl rfl ?_ | refine WD_op rfl rfl rfl ?_ | refine WD_op0 rfl rfl ?_); (refine WV_gen fun Q_ hQ_ => ?_; simp (disch := first | omega | (simp only [List.length_cons, List.length_nil, List.length_append]; omega)) only [bb, bp, argF, ↓reduceIte, reduceCtorEq, Nat.reduceEqDiff, Nat.reduceLT, Nat.reduceLeDiff, Nat.reduceAdd, Nat.reduceMul, Nat.reduceSub, Nat.reduceBEq, Int.reduceToNat, cond_true, cond_false, eq_self, beq_self_eq_true, h20, b, bl, bh, hl1, hl2, newPtr_X wf, load1_X wf, loadAgg_X wf, store1_X wf, writeCells_X wf, makeFunc_def, tEvN3]; first | (refine dec_split (Q := Q_) (fun hp_ => ?_) (fun hp_ => ?_) <;> first | (exfalso; omega) | (refine hQ_ _ _ ?_; clear hQ_ Q_)) | (refine dec_splitn (Q := Q_) (fun hp_ => ?_) (fun hp_ => ?_) <;> first | (exfalso; omega) | (refine hQ_ _ _ ?_; clear hQ_ Q_)) | (refine hQ_ _ _ ?_; clear hQ_ Q_)))
  | (refine WC_cond fun K_ hK_ => ?_; simp (disch := omega) only [evT_tmp, upd_apply, WB_some, ↓reduceIte, reduceCtorEq, Nat.reduceEqDiff, Nat.reduceLT]; refine hK_ _ ?_; clear hK_ K_)))
  (refine endQ_ret _ _ rfl (ret1 (by decide)) ?_; simp only [upd_apply, ↓reduceIte, reduceCtorEq, Nat.reduceEqDiff]; refine WV_flat rfl (by omega) ?_)
  exact ⟨rfl, rfl⟩
end Go.Proofs.Ytghondkiondeaac
end
