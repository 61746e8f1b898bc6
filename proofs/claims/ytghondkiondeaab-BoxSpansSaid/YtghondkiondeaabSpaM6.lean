import Derived.Test.YtghondkiondeaabSpaM5
set_option linter.all false
/- EvM1 -/
section
/-
  LAYER 2: a hull that is built place by place.
-/
namespace Go.Proofs.Ytghondkiondeaab
open Go.Ev
set_option maxRecDepth 100000
set_option linter.unusedSimpArgs false
set_option linter.unusedVariables false
set_option maxHeartbeats 2000000

theorem tEvM1 : type_of% (And.intro (And.intro (And.intro (And.intro (And.intro (@ia_2) (@sz_2)) (And.intro (@ze_2) (@ia_3))) (And.intro (And.intro (@sz_3) (@ia_4)) (And.intro (@sz_4) (@ia_70)))) (And.intro (And.intro (And.intro (@sz_70) (@fo_70_0)) (And.intro (@fo_70_1) (@ia_52))) (And.intro (And.intro (@sz_52) (@ia_62)) (And.intro (@sz_62) (And.intro (@ia_77) (@sz_77)))))) (And.intro (And.intro (And.intro (And.intro (@ia_29) (@sz_29)) (And.intro (@ia_56) (@sz_56))) (And.intro (And.intro (@ze_56) (@ia_75)) (And.intro (@sz_75) (And.intro (@ze_75) (@fo_75_0))))) (And.intro (And.intro (And.intro (@fo_75_1) (@fo_75_2)) (And.intro (@fo_75_3) (@ik_56))) (And.intro (And.intro (@ik_54) (@pb_33)) (And.intro (@pb_54) (And.intro (@pb_35) (@pb_36))))))) := And.intro (And.intro (And.intro (And.intro (And.intro (@ia_2) (@sz_2)) (And.intro (@ze_2) (@ia_3))) (And.intro (And.intro (@sz_3) (@ia_4)) (And.intro (@sz_4) (@ia_70)))) (And.intro (And.intro (And.intro (@sz_70) (@fo_70_0)) (And.intro (@fo_70_1) (@ia_52))) (And.intro (And.intro (@sz_52) (@ia_62)) (And.intro (@sz_62) (And.intro (@ia_77) (@sz_77)))))) (And.intro (And.intro (And.intro (And.intro (@ia_29) (@sz_29)) (And.intro (@ia_56) (@sz_56))) (And.intro (And.intro (@ze_56) (@ia_75)) (And.intro (@sz_75) (And.intro (@ze_75) (@fo_75_0))))) (And.intro (And.intro (And.intro (@fo_75_1) (@fo_75_2)) (And.intro (@fo_75_3) (@ik_56))) (And.intro (And.intro (@ik_54) (@pb_33)) (And.intro (@pb_54) (And.intro (@pb_35) (@pb_36))))))
/-- Which offset a function picks. -/
def pickOf (c : Nat) (r : Int × Int) : Int := if c = 36 then r.2 else r.1
theorem pick {c : Nat} (hc : c = 54 ∨ c = 35 ∨ c = 36) (r : Int × Int) (i k w : AV) (h : H) (wf : Wf h) :
    (om Try.prog KK).call (.fn c [.agg [ii r.1, ii r.2, i, k, w]]) h = .ok (ii (pickOf c r)) h := by
  rcases hc with rfl | rfl | rfl
  · refine WV_to (WV_call (fn := Try.f54) Try.func54 rfl rfl rfl rfl rfl ?_)
    simp only [argF]
    (repeat' (first
  | (with_reducible first | refine WC_seq ?_ | refine WC_skip ?_ | refine WC_label ?_ | refine WC_scope ?_ | refine WC_block ?_ | refine WC_ret ?_ | refine WC_exit ?_ | refine seqQ_norm ?_ | refine seqQ_ret ?_ | refine seqQ_exit ?_ | refine blkQ_norm ?_ | refine blkQ_ret ?_ | refine blkQ_here ?_ | refine gateK_yes ?_ | refine gateK_none ?_ | refine condK_tt ?_ | refine condK_ff ?_ | refine roundQ_exit ?_ | refine roundQ_ret ?_)
  | refine WC_region ?_ | refine blkQ_out rfl ?_ | refine WO_nil ?_ | refine WD_nil ?_
  | ((first | refine WD_gate rfl rfl rfl rfl rfl fun K_ hK_ => ?_ | refine WO_gate rfl rfl rfl rfl rfl fun K_ hK_ => ?_); simp only [upd_apply, asB_bool, asB_tup, ↓reduceIte, reduceCtorEq, Nat.reduceEqDiff, Bool.not_true, Bool.not_false]; refine hK_ _ ?_; clear hK_ K_)
  | refine gateK_no (by decide) ?_
  | ((try first | refine WO_op rfl rfl rfl ?_ | refine WO_op0 rfl rfl ?_ | refine WD_op rfl rfl rfl ?_ | refine WD_op0 rfl rfl ?_); (refine WV_gen fun Q_ hQ_ => ?_; simp (disch := first | omega | (simp only [List.length_cons, List.length_nil, List.length_append]; omega)) only [bb, bp, argF, ↓reduceIte, reduceCtorEq, Nat.reduceEqDiff, Nat.reduceLT, Nat.reduceLeDiff, Nat.reduceAdd, Nat.reduceMul, Nat.reduceSub, Nat.reduceBEq, Int.reduceToNat, cond_true, cond_false, eq_self, beq_self_eq_true, newPtr_X wf, load1_X wf, loadAgg_X wf, store1_X wf, writeCells_X wf, makeFunc_def, tEvM1, indexAddrE_def (P := Try.prog) (t := 56), indexAddrE_def (P := Try.prog) (t := 54)]; first | (refine dec_split (Q := Q_) (fun hp_ => ?_) (fun hp_ => ?_) <;> first | (exfalso; omega) | (refine hQ_ _ _ ?_; clear hQ_ Q_)) | (refine dec_splitn (Q := Q_) (fun hp_ => ?_) (fun hp_ => ?_) <;> first | (exfalso; omega) | (refine hQ_ _ _ ?_; clear hQ_ Q_)) | (refine hQ_ _ _ ?_; clear hQ_ Q_)))
  | (refine WC_cond fun K_ hK_ => ?_; simp (disch := omega) only [evT_tmp, upd_apply, WB_some, ↓reduceIte, reduceCtorEq, Nat.reduceEqDiff, Nat.reduceLT]; refine hK_ _ ?_; clear hK_ K_)))
    (refine endQ_ret _ _ rfl (ret1 (by decide)) ?_; simp only [upd_apply, ↓reduceIte, reduceCtorEq, Nat.reduceEqDiff]; refine WV_flat rfl (by omega) ?_)
    exact ⟨rfl, rfl⟩
  · refine WV_to (WV_call (fn := Try.f35) Try.func35 rfl rfl rfl rfl rfl ?_)
    simp only [argF]
    (repeat' (first
  | (with_reducible first | refine WC_seq ?_ | refine WC_skip ?_ | refine WC_label ?_ | refine WC_scope ?_ | refine WC_block ?_ | refine WC_ret ?_ | refine WC_exit ?_ | refine seqQ_norm ?_ | refine seqQ_ret ?_ | refine seqQ_exit ?_ | refine blkQ_norm ?_ | refine blkQ_ret ?_ | refine blkQ_here ?_ | refine gateK_yes ?_ | refine gateK_none ?_ | refine condK_tt ?_ | refine condK_ff ?_ | refine roundQ_exit ?_ | refine roundQ_ret ?_)
  | refine WC_region ?_ | refine blkQ_out rfl ?_ | refine WO_nil ?_ | refine WD_nil ?_
  | ((first | refine WD_gate rfl rfl rfl rfl rfl fun K_ hK_ => ?_ | refine WO_gate rfl rfl rfl rfl rfl fun K_ hK_ => ?_); simp only [upd_apply, asB_bool, asB_tup, ↓reduceIte, reduceCtorEq, Nat.reduceEqDiff, Bool.not_true, Bool.not_false]; refine hK_ _ ?_; clear hK_ K_)
  | refine gateK_no (by decide) ?_
  | ((try first | refine WO_op rfl rfl rfl ?_ | refine WO_op0 rfl rfl ?_ | refine WD_op rfl rfl rfl ?_ | refine WD_op0 rfl rfl ?_); (refine WV_gen fun Q_ hQ_ => ?_; simp (disch := first | omega | (simp only [List.length_cons, List.length_nil, List.length_append]; omega)) only [bb, bp, argF, ↓reduceIte, reduceCtorEq, Nat.reduceEqDiff, Nat.reduceLT, Nat.reduceLeDiff, Nat.reduceAdd, Nat.reduceMul, Nat.reduceSub, Nat.reduceBEq, Int.reduceToNat, cond_true, cond_false, eq_self, beq_self_eq_true, newPtr_X wf, load1_X wf, loadAgg_X wf, store1_X wf, writeCells_X wf, makeFunc_def, tEvM1, indexAddrE_def (P := Try.prog) (t := 56), indexAddrE_def (P := Try.prog) (t := 54)]; first | (refine dec_split (Q := Q_) (fun hp_ => ?_) (fun hp_ => ?_) <;> first | (exfalso; omega) | (refine hQ_ _ _ ?_; clear hQ_ Q_)) | (refine dec_splitn (Q := Q_) (fun hp_ => ?_) (fun hp_ => ?_) <;> first | (exfalso; omega) | (refine hQ_ _ _ ?_; clear hQ_ Q_)) | (refine hQ_ _ _ ?_; clear hQ_ Q_)))
  | (refine WC_cond fun K_ hK_ => ?_; simp (disch := omega) only [evT_tmp, upd_apply, WB_some, ↓reduceIte, reduceCtorEq, Nat.reduceEqDiff, Nat.reduceLT]; refine hK_ _ ?_; clear hK_ K_)))
    (refine endQ_ret _ _ rfl (ret1 (by decide)) ?_; simp only [upd_apply, ↓reduceIte, reduceCtorEq, Nat.reduceEqDiff]; refine WV_flat rfl (by omega) ?_)
    exact ⟨rfl, rfl⟩
  · refine WV_to (WV_call (fn := Try.f36) Try.func36 rfl rfl rfl rfl rfl ?_)
    simp only [argF]
    (repeat' (first
  | (with_reducible first | refine WC_seq ?_ | refine WC_skip ?_ | refine WC_label ?_ | refine WC_scope ?_ | refine WC_block ?_ | refine WC_ret ?_ | refine WC_exit ?_ | refine seqQ_norm ?_ | refine seqQ_ret ?_ | refine seqQ_exit ?_ | refine blkQ_norm ?_ | refine blkQ_ret ?_ | refine blkQ_here ?_ | refine gateK_yes ?_ | refine gateK_none ?_ | refine condK_tt ?_ | refine condK_ff ?_ | refine roundQ_exit ?_ | refine roundQ_ret ?_)
  | refine WC_region ?_ | refine blkQ_out rfl ?_ | refine WO_nil ?_ | refine WD_nil ?_
  | ((first | refine WD_gate rfl rfl rfl rfl rfl fun K_ hK_ => ?_ | refine WO_gate rfl rfl rfl rfl rfl fun K_ hK_ => ?_); simp only [upd_apply, asB_bool, asB_tup, ↓reduceIte, reduceCtorEq, Nat.reduceEqDiff, Bool.not_true, Bool.not_false]; refine hK_ _ ?_; clear hK_ K_)
  | refine gateK_no (by decide) ?_
  | ((try first | refine WO_op rfl rfl rfl ?_ | refine WO_op0 rfl rfl ?_ | refine WD_op rfl rfl rfl ?_ | refine WD_op0 rfl rfl ?_); (refine WV_gen fun Q_ hQ_ => ?_; simp (disch := first | omega | (simp only [List.length_cons, List.length_nil, List.length_append]; omega)) only [bb, bp, argF, ↓reduceIte, reduceCtorEq, Nat.reduceEqDiff, Nat.reduceLT, Nat.reduceLeDiff, Nat.reduceAdd, Nat.reduceMul, Nat.reduceSub, Nat.reduceBEq, Int.reduceToNat, cond_true, cond_false, eq_self, beq_self_eq_true, newPtr_X wf, load1_X wf, loadAgg_X wf, store1_X wf, writeCells_X wf, makeFunc_def, tEvM1, indexAddrE_def (P := Try.prog) (t := 56), indexAddrE_def (P := Try.prog) (t := 54)]; first | (refine dec_split (Q := Q_) (fun hp_ => ?_) (fun hp_ => ?_) <;> first | (exfalso; omega) | (refine hQ_ _ _ ?_; clear hQ_ Q_)) | (refine dec_splitn (Q := Q_) (fun hp_ => ?_) (fun hp_ => ?_) <;> first | (exfalso; omega) | (refine hQ_ _ _ ?_; clear hQ_ Q_)) | (refine hQ_ _ _ ?_; clear hQ_ Q_)))
  | (refine WC_cond fun K_ hK_ => ?_; simp (disch := omega) only [evT_tmp, upd_apply, WB_some, ↓reduceIte, reduceCtorEq, Nat.reduceEqDiff, Nat.reduceLT]; refine hK_ _ ?_; clear hK_ K_)))
    (refine endQ_ret _ _ rfl (ret1 (by decide)) ?_; simp only [upd_apply, ↓reduceIte, reduceCtorEq, Nat.reduceEqDiff]; refine WV_flat rfl (by omega) ?_)
    exact ⟨rfl, rfl⟩

def pickY (c : Nat) (rows : List (List (Int × Int))) (m q : Nat) : Int := pickOf c (rAt rows m q)

theorem built {c : Nat} (hc : c = 54 ∨ c = 35 ∨ c = 36) (sp st : Int) (a : AV) (rvs : List AV) (rows : List (List (Int × Int))) (m : Nat) (hn : 2 ≤ rows.length ∧ rows.length ≤ 10) (hm : 2 ≤ m ∧ m ≤ 6) (h : H) (x : HullAt h a rvs rows m) :
    (om Try.prog KK).call (.fn 34 [.agg [ii sp, ii st, a], .fn c [] []]) h = .ok (.agg ((gB (pickY c rows m) m (rows.length * m)).map ii)) h := by
  have wf := x.wf
  have hpb : plainB Try.prog c = true := by rcases hc with rfl | rfl | rfl <;> first | exact pb_54 | exact pb_35 | exact pb_36
  refine WV_to (WV_call (fn := Try.f34) Try.func34 rfl rfl rfl rfl rfl ?_)
  simp only [argF]
  (repeat' (first
  | (with_reducible first | refine WC_seq ?_ | refine WC_skip ?_ | refine WC_label ?_ | refine WC_scope ?_ | refine WC_block ?_ | refine WC_ret ?_ | refine WC_exit ?_ | refine seqQ_norm ?_ | refine seqQ_ret ?_ | refine seqQ_exit ?_ | refine blkQ_norm ?_ | refine blkQ_ret ?_ | refine blkQ_here ?_ | refine gateK_yes ?_ | refine gateK_none ?_ | refine condK_tt ?_ | refine condK_ff ?_ | refine roundQ_exit ?_ | refine roundQ_ret ?_)
  | refine WC_region ?_ | refine blkQ_out rfl ?_ | refine WO_nil ?_ | refine WD_nil ?_
  | ((first | refine WD_gate rfl rfl rfl rfl rfl fun K_ hK_ => ?_ | refine WO_gate rfl rfl rfl rfl rfl fun K_ hK_ => ?_); simp only [upd_apply, asB_bool, asB_tup, ↓reduceIte, reduceCtorEq, Nat.reduceEqDiff, Bool.not_true, Bool.not_false]; refine hK_ _ ?_; clear hK_ K_)
  | refine gateK_no (by decide) ?_
  | ((try first | refine WO_op rfl rfl rfl ?_ | refine WO_op0 rfl rfl ?_ | refine WD_op rfl rfl rfl ?_ | refine WD_op0 rfl rfl ?_); (refine WV_gen fun Q_ hQ_ => ?_; simp (disch := first | omega | (simp only [List.length_cons, List.length_nil, List.length_append]; omega)) only [bb, bp, argF, ↓reduceIte, reduceCtorEq, Nat.reduceEqDiff, Nat.reduceLT, Nat.reduceLeDiff, Nat.reduceAdd, Nat.reduceMul, Nat.reduceSub, Nat.reduceBEq, Int.reduceToNat, cond_true, cond_false, eq_self, beq_self_eq_true, newPtr_X wf, load1_X wf, loadAgg_X wf, store1_X wf, writeCells_X wf, makeFunc_def, tEvM1, indexAddrE_def (P := Try.prog) (t := 56), indexAddrE_def (P := Try.prog) (t := 54)]; first | (refine dec_split (Q := Q_) (fun hp_ => ?_) (fun hp_ => ?_) <;> first | (exfalso; omega) | (refine hQ_ _ _ ?_; clear hQ_ Q_)) | (refine dec_splitn (Q := Q_) (fun hp_ => ?_) (fun hp_ => ?_) <;> first | (exfalso; omega) | (refine hQ_ _ _ ?_; clear hQ_ Q_)) | (refine hQ_ _ _ ?_; clear hQ_ Q_) | (refine WV_eq (places sp st a h wf _ _ (by simp only [List.length_append, List.length_cons, List.length_nil]; omega)) ?_; refine hQ_ _ _ ?_; clear hQ_ Q_)))
  | (refine WC_cond fun K_ hK_ => ?_; simp (disch := omega) only [evT_tmp, upd_apply, WB_some, ↓reduceIte, reduceCtorEq, Nat.reduceEqDiff, Nat.reduceLT]; refine hK_ _ ?_; clear hK_ K_)))
  simp only [List.length_cons, List.length_nil, List.cons_append, List.nil_append]
  refine WC_rangeX wf rfl (evT_tmp (by decide)) fun o ho => ?_
  simp only [upd_apply, ↓reduceIte, reduceCtorEq, Nat.reduceEqDiff, List.length_cons, List.length_nil, List.cons_append, List.nil_append, Nat.reduceAdd]
  refine WV.mono (placesH x hn hm sp st 4 (nx h 6) _ (fun q hb => ∃ w, hb = X h [.cells (mkCells [ii sp, ii st, a]) 52, .cells (mkCells [.fn c [] []]) 77, .cells (mkCells ((gB (pickY c rows m) m 0).map ii)) 56, .cells (mkCells ((gB (pickY c rows m) m q).map ii)) 56, .cells (mkCells [ii sp, ii st, a]) 52, .dfr, o] w ∧ w ≤ h.clock + 7)
    (fun _ => False) h.clock (Nat.le_refl _) (Nat.le_add_right _ _) ?_ ?_ ⟨h.clock, rfl, by omega⟩) ?_
  · rintro q hb ⟨w, rfl, hw⟩
    exact ⟨⟨_, w, rfl, hw, rfl⟩, Same.X rfl⟩
  · rintro q xx hx hb J w ⟨w0, rfl, hw0⟩ hlo hw
    obtain ⟨hq, rfl⟩ := placesOf_at hx
    obtain ⟨i1, i2, i3⟩ := place_idx hm.2 hn.2 hq
    have hw' : w ≤ h.clock + 7 + J.length := hw
    rw [X_X]
    have hr : (rows.getD (q / m) []).getD (q % m) (0, 0) = rAt rows m q := rfl
    simp only [List.cons_append, List.nil_append, placeOf, hr]
    refine WV_yldX wf (k := 6) rfl ho (setParams1 rfl) ?_
    (repeat' (first
  | (with_reducible first | refine WC_seq ?_ | refine WC_skip ?_ | refine WC_label ?_ | refine WC_scope ?_ | refine WC_block ?_ | refine WC_ret ?_ | refine WC_exit ?_ | refine seqQ_norm ?_ | refine seqQ_ret ?_ | refine seqQ_exit ?_ | refine blkQ_norm ?_ | refine blkQ_ret ?_ | refine blkQ_here ?_ | refine gateK_yes ?_ | refine gateK_none ?_ | refine condK_tt ?_ | refine condK_ff ?_ | refine roundQ_exit ?_ | refine roundQ_ret ?_)
  | refine WC_region ?_ | refine blkQ_out rfl ?_ | refine WO_nil ?_ | refine WD_nil ?_
  | ((first | refine WD_gate rfl rfl rfl rfl rfl fun K_ hK_ => ?_ | refine WO_gate rfl rfl rfl rfl rfl fun K_ hK_ => ?_); simp only [upd_apply, asB_bool, asB_tup, ↓reduceIte, reduceCtorEq, Nat.reduceEqDiff, Bool.not_true, Bool.not_false]; refine hK_ _ ?_; clear hK_ K_)
  | refine gateK_no (by decide) ?_
  | ((try first | refine WO_op rfl rfl rfl ?_ | refine WO_op0 rfl rfl ?_ | refine WD_op rfl rfl rfl ?_ | refine WD_op0 rfl rfl ?_); (refine WV_gen fun Q_ hQ_ => ?_; simp (disch := first | omega | (simp only [List.length_cons, List.length_nil, List.length_append]; omega)) only [bb, bp, argF, ↓reduceIte, reduceCtorEq, Nat.reduceEqDiff, Nat.reduceLT, Nat.reduceLeDiff, Nat.reduceAdd, Nat.reduceMul, Nat.reduceSub, Nat.reduceBEq, Int.reduceToNat, cond_true, cond_false, eq_self, beq_self_eq_true, newPtr_X wf, load1_X wf, loadAgg_X wf, store1_X wf, writeCells_X wf, makeFunc_def, tEvM1, indexAddrE_def (P := Try.prog) (t := 56), indexAddrE_def (P := Try.prog) (t := 54)]; first | (refine dec_split (Q := Q_) (fun hp_ => ?_) (fun hp_ => ?_) <;> first | (exfalso; omega) | (refine hQ_ _ _ ?_; clear hQ_ Q_)) | (refine dec_splitn (Q := Q_) (fun hp_ => ?_) (fun hp_ => ?_) <;> first | (exfalso; omega) | (refine hQ_ _ _ ?_; clear hQ_ Q_)) | (refine hQ_ _ _ ?_; clear hQ_ Q_)))
  | (refine WC_cond fun K_ hK_ => ?_; simp (disch := omega) only [evT_tmp, upd_apply, WB_some, ↓reduceIte, reduceCtorEq, Nat.reduceEqDiff, Nat.reduceLT]; refine hK_ _ ?_; clear hK_ K_)))
    refine yldA_X wf (k := 6) rfl ho fun o' ho' => ?_
    simp only [List.set_cons_succ, List.set_cons_zero]
    have hlm : ((gB (pickY c rows m) m q).map ii).length = 60 := by rw [List.length_map, gB_length]
    have hpk : ∀ l w, w ≤ h.clock + l.length → (om Try.prog KK).call (.fn c [.agg [ii (rAt rows m q).1, ii (rAt rows m q).2, ii ((q / m : Nat) : Int), ii ((q % m : Nat) : Int), ii (wt rows.length (q / m) * wt m (q % m))]]) (X h l w) = .ok (ii (pickY c rows m q)) (X h l w) := fun l w hw => pick hc (rAt rows m q) _ _ _ _ (wf.X hw)
    refine WC_block ?_
    refine WC_drawnB [.no, .no, .no, .no, .no, .no, .no, .no, .full, .full] (by kernel_rfl) ?_
    (repeat' (first
  | (with_reducible first | refine WC_seq ?_ | refine WC_skip ?_ | refine WC_label ?_ | refine WC_scope ?_ | refine WC_block ?_ | refine WC_ret ?_ | refine WC_exit ?_ | refine seqQ_norm ?_ | refine seqQ_ret ?_ | refine seqQ_exit ?_ | refine blkQ_norm ?_ | refine blkQ_ret ?_ | refine blkQ_here ?_ | refine gateK_yes ?_ | refine gateK_none ?_ | refine condK_tt ?_ | refine condK_ff ?_ | refine roundQ_exit ?_ | refine roundQ_ret ?_)
  | refine WC_region ?_ | refine blkQ_out rfl ?_ | refine WO_nil ?_ | refine WD_nil ?_
  | ((first | refine WD_gate rfl rfl rfl rfl rfl fun K_ hK_ => ?_ | refine WO_gate rfl rfl rfl rfl rfl fun K_ hK_ => ?_); simp only [upd_apply, asB_bool, asB_tup, ↓reduceIte, reduceCtorEq, Nat.reduceEqDiff, Bool.not_true, Bool.not_false]; refine hK_ _ ?_; clear hK_ K_)
  | refine gateK_no (by decide) ?_
  | ((try first | refine WO_op rfl rfl rfl ?_ | refine WO_op0 rfl rfl ?_ | refine WD_op rfl rfl rfl ?_ | refine WD_op0 rfl rfl ?_); (refine WV_gen fun Q_ hQ_ => ?_; simp (disch := first | omega | (simp only [List.length_cons, List.length_nil, List.length_append]; omega)) only [bb, bp, argF, ↓reduceIte, reduceCtorEq, Nat.reduceEqDiff, Nat.reduceLT, Nat.reduceLeDiff, Nat.reduceAdd, Nat.reduceMul, Nat.reduceSub, Nat.reduceBEq, Int.reduceToNat, cond_true, cond_false, eq_self, beq_self_eq_true, hlm, i3, hpk, hpb, callV_fn, newPtr_X wf, load1_X wf, loadAgg_X wf, store1_X wf, writeCells_X wf, makeFunc_def, tEvM1, indexAddrE_def (P := Try.prog) (t := 56), indexAddrE_def (P := Try.prog) (t := 54)]; first | (refine dec_split (Q := Q_) (fun hp_ => ?_) (fun hp_ => ?_) <;> first | (exfalso; omega) | (refine hQ_ _ _ ?_; clear hQ_ Q_)) | (refine dec_splitn (Q := Q_) (fun hp_ => ?_) (fun hp_ => ?_) <;> first | (exfalso; omega) | (refine hQ_ _ _ ?_; clear hQ_ Q_)) | (refine hQ_ _ _ ?_; clear hQ_ Q_)))
  | (refine WC_cond fun K_ hK_ => ?_; simp (disch := omega) only [evT_tmp, upd_apply, WB_some, ↓reduceIte, reduceCtorEq, Nat.reduceEqDiff, Nat.reduceLT]; refine hK_ _ ?_; clear hK_ K_)))
    refine yldB_X wf (k := 6) rfl ho' ?_
    simp only [List.set_cons_succ, List.set_cons_zero]
    rw [← ho]
    refine ⟨X h [.cells (mkCells [ii sp, ii st, a]) 52, .cells (mkCells [.fn c [] []]) 77, .cells (mkCells ((gB (pickY c rows m) m 0).map ii)) 56, .cells (mkCells ((gB (pickY c rows m) m (q + 1)).map ii)) 56, .cells (mkCells [ii sp, ii st, a]) 52, .dfr, o] w0, _, _, by rw [X_X]; simp only [gB, List.map_set]; rfl, Same.X rfl, by omega, ?_, .inl ⟨rfl, w0, rfl, hw0⟩⟩
    show _ < h.clock + 7
    omega
  · rintro v h' ⟨hb, J, w, rfl, hs, hlo, hw, ⟨w0, rfl, hw0⟩ | hD'⟩
    · rw [X_X, placesOf_length]
      refine rangeQ_X wf (k := 6) rfl ho (by decide) fun o' ho' => ?_
      simp only [List.cons_append, List.nil_append, List.set_cons_succ, List.set_cons_zero]
      have hL : ((gB (pickY c rows m) m (rows.length * m)).map ii).length = 60 := by rw [List.length_map, gB_length]
      have hL0 : ((gB (pickY c rows m) m 0).map ii).length = 60 := by rw [List.length_map, gB_length]
      have hld : ∀ u, loadE Try.prog 56 (.ptr (nx h 3) 0) (X h (.cells (mkCells [ii sp, ii st, a]) 52 :: .cells (mkCells [.fn c [] []]) 77 :: .cells (mkCells ((gB (pickY c rows m) m 0).map ii)) 56 :: .cells (mkCells ((gB (pickY c rows m) m (rows.length * m)).map ii)) 56 :: .cells (mkCells [ii sp, ii st, a]) 52 :: .dfr :: o' :: J) u) = some (.agg ((gB (pickY c rows m) m (rows.length * m)).map ii)) := fun u => loadE_whole wf ia_56 sz_56 (by decide) hL rfl
      have hsto : ∀ u, storeE Try.prog 56 (.ptr (nx h 2) 0) (.agg ((gB (pickY c rows m) m (rows.length * m)).map ii)) (X h (.cells (mkCells [ii sp, ii st, a]) 52 :: .cells (mkCells [.fn c [] []]) 77 :: .cells (mkCells ((gB (pickY c rows m) m 0).map ii)) 56 :: .cells (mkCells ((gB (pickY c rows m) m (rows.length * m)).map ii)) 56 :: .cells (mkCells [ii sp, ii st, a]) 52 :: .dfr :: o' :: J) u)
        = some (X h (.cells (mkCells [ii sp, ii st, a]) 52 :: .cells (mkCells [.fn c [] []]) 77 :: .cells (mkCells ((gB (pickY c rows m) m (rows.length * m)).map ii)) 56 :: .cells (mkCells ((gB (pickY c rows m) m (rows.length * m)).map ii)) 56 :: .cells (mkCells [ii sp, ii st, a]) 52 :: .dfr :: o' :: J) (min (h.clock + 2) u)) := fun u => storeE_whole wf sz_56 (by decide) hL hL0 rfl (allOne_map (fun _ => rfl) _)
      (repeat' (first
  | (with_reducible first | refine WC_seq ?_ | refine WC_skip ?_ | refine WC_label ?_ | refine WC_scope ?_ | refine WC_block ?_ | refine WC_ret ?_ | refine WC_exit ?_ | refine seqQ_norm ?_ | refine seqQ_ret ?_ | refine seqQ_exit ?_ | refine blkQ_norm ?_ | refine blkQ_ret ?_ | refine blkQ_here ?_ | refine gateK_yes ?_ | refine gateK_none ?_ | refine condK_tt ?_ | refine condK_ff ?_ | refine roundQ_exit ?_ | refine roundQ_ret ?_)
  | refine WC_region ?_ | refine blkQ_out rfl ?_ | refine WO_nil ?_ | refine WD_nil ?_
  | ((first | refine WD_gate rfl rfl rfl rfl rfl fun K_ hK_ => ?_ | refine WO_gate rfl rfl rfl rfl rfl fun K_ hK_ => ?_); simp only [upd_apply, asB_bool, asB_tup, ↓reduceIte, reduceCtorEq, Nat.reduceEqDiff, Bool.not_true, Bool.not_false]; refine hK_ _ ?_; clear hK_ K_)
  | refine gateK_no (by decide) ?_
  | ((try first | refine WO_op rfl rfl rfl ?_ | refine WO_op0 rfl rfl ?_ | refine WD_op rfl rfl rfl ?_ | refine WD_op0 rfl rfl ?_); (refine WV_gen fun Q_ hQ_ => ?_; simp (disch := first | omega | (simp only [List.length_cons, List.length_nil, List.length_append]; omega)) only [bb, bp, argF, ↓reduceIte, reduceCtorEq, Nat.reduceEqDiff, Nat.reduceLT, Nat.reduceLeDiff, Nat.reduceAdd, Nat.reduceMul, Nat.reduceSub, Nat.reduceBEq, Int.reduceToNat, cond_true, cond_false, eq_self, beq_self_eq_true, hld, hsto]; first | (refine dec_split (Q := Q_) (fun hp_ => ?_) (fun hp_ => ?_) <;> first | (exfalso; omega) | (refine hQ_ _ _ ?_; clear hQ_ Q_)) | (refine dec_splitn (Q := Q_) (fun hp_ => ?_) (fun hp_ => ?_) <;> first | (exfalso; omega) | (refine hQ_ _ _ ?_; clear hQ_ Q_)) | (refine hQ_ _ _ ?_; clear hQ_ Q_)))
  | (refine WC_cond fun K_ hK_ => ?_; simp (disch := omega) only [evT_tmp, upd_apply, WB_some, ↓reduceIte, reduceCtorEq, Nat.reduceEqDiff, Nat.reduceLT]; refine hK_ _ ?_; clear hK_ K_)))
      refine endQ_ret _ _ (takeAll_X wf (k := 5) rfl) (retc0 (by decide) (by simp only [upd_apply, ↓reduceIte, reduceCtorEq, Nat.reduceEqDiff]; exact loadE_whole wf ia_56 sz_56 (by decide) hL rfl)) ?_
      refine WV_flat (flatL_ii _) (by omega) ?_
      exact ⟨rfl, rfl⟩
    · exact hD'.elim
end Go.Proofs.Ytghondkiondeaab
end

/- EvM2 -/
section
/-
  LAYER 2: from hull to hull, until none is beyond the number.
-/
namespace Go.Proofs.Ytghondkiondeaab
open Go.Ev
set_option maxRecDepth 100000
set_option linter.unusedSimpArgs false
set_option linter.unusedVariables false
set_option maxHeartbeats 2000000

/-- A hull that is valid, and a share. -/
structure HOK (g : Nat) (sp st : Int) (rows : List (List (Int × Int))) (m : Nat) : Prop where
  hg : g = 47 ∨ g = 48 ∨ g = 49
  hsp : 1 ≤ sp ∧ sp ≤ 1000
  hst : 1 ≤ st ∧ st ≤ 100
  hn : 2 ≤ rows.length ∧ rows.length ≤ 10
  hm : 2 ≤ m ∧ m ≤ 6
  hoff : ∀ q, q < rows.length * m → isOff (rAt rows m q)
  hpos : ∃ q, q < rows.length * m ∧ 0 < (rAt rows m q).1

theorem nm_le {n m : Nat} (hn : n ≤ 10) (hm : m ≤ 6) : n * m ≤ 60 := by
  have := Nat.mul_le_mul hn hm; omega
theorem idx_inj {n m p q : Nat} (hm : m ≤ 6) (hp : p < n * m) (hq : q < n * m) (h : p / m * 6 + p % m = q / m * 6 + q % m) : p = q := by
  have hm0 : 0 < m := by rcases Nat.eq_zero_or_pos m with rfl | h; · simp at hp
                         · exact h
  have h1 := Nat.mod_lt p hm0
  have h2 := Nat.mod_lt q hm0
  have e1 : p / m = q / m := by omega
  have e2 : p % m = q % m := by omega
  rw [← Nat.div_add_mod p m, ← Nat.div_add_mod q m, e1, e2]
theorem gB_at (Y : Nat → Int) {n m : Nat} (hn : n ≤ 10) (hm : m ≤ 6) : ∀ Q, Q ≤ n * m → ∀ q, q < Q → yat (gB Y m Q) m q = Y q
  | 0, _, q, h => absurd h (Nat.not_lt_zero q)
  | Q + 1, hQ, q, h => by
    obtain ⟨_, _, i3⟩ := place_idx hm hn (show Q < n * m by omega)
    obtain ⟨_, _, j3⟩ := place_idx hm hn (show q < n * m by omega)
    have hlen := gB_length Y m Q
    unfold yat
    simp only [gB]
    by_cases hq : q = Q
    · subst hq
      simp [List.getD, hlen, i3]
    · have hne : q / m * 6 + q % m ≠ Q / m * 6 + Q % m := fun e => hq (idx_inj (n := n) hm (by omega) (by omega) e)
      have := gB_at Y hn hm Q (by omega) q (by omega)
      unfold yat at this
      rw [← this]
      simp [List.getD, List.getElem?_set_ne (Ne.symm hne)]

theorem amx_in {f : Int → Int} {lo : Int} : ∀ {n : Nat}, lo ≤ amx f lo n ∧ amx f lo n ≤ lo + (n : Int) ∧ f (amx f lo n) = mxf f lo n
  | 0 => ⟨Int.le_refl _, by simp [amx], rfl⟩
  | j + 1 => by
    obtain ⟨h1, h2, h3⟩ := amx_in (f := f) (lo := lo) (n := j)
    simp only [amx, mxf]
    split
    · refine ⟨by omega, by omega, ?_⟩
      rw [Int.max_eq_right (by omega)]
    · refine ⟨h1, by omega, ?_⟩
      rw [Int.max_eq_left (by omega), h3]
theorem mxf_ge {f : Int → Int} {lo : Int} : ∀ {n : Nat} {y : Int}, lo ≤ y → y ≤ lo + (n : Int) → f y ≤ mxf f lo n
  | 0, y, h1, h2 => by
    have : y = lo := by omega
    subst this; exact Int.le_refl _
  | j + 1, y, h1, h2 => by
    simp only [mxf]
    by_cases h : y = lo + ((j + 1 : Nat) : Int)
    · subst h; omega
    · have := mxf_ge (f := f) (lo := lo) (n := j) (y := y) h1 (by omega)
      omega

section
variable {g : Nat} {sp st : Int} {rows : List (List (Int × Int))} {m : Nat}

/-- A grid within the ranges. -/
def InG (rows : List (List (Int × Int))) (m : Nat) (gs : List Int) : Prop := gs.length = 60 ∧ ∀ q, q < rows.length * m → (rAt rows m q).1 ≤ yat gs m q ∧ yat gs m q ≤ (rAt rows m q).2
/-- What is divided, and by what. -/
def numG (g : Nat) (sp st : Int) (rows : List (List (Int × Int))) (m : Nat) (gs : List Int) : Int := psum (nuAt g sp st rows.length m gs) (rows.length * m)
def denG (g : Nat) (st : Int) (rows : List (List (Int × Int))) (m : Nat) (gs : List Int) : Int := psum (deAt g st rows.length m gs) (rows.length * m)
def gcdG (g : Nat) (sp st : Int) (rows : List (List (Int × Int))) (m : Nat) (gs : List Int) : Int := (Int.gcd (numG g sp st rows m gs) (denG g st rows m gs) : Int)
def ratN (g : Nat) (sp st : Int) (rows : List (List (Int × Int))) (m : Nat) (gs : List Int) : Int := numG g sp st rows m gs / gcdG g sp st rows m gs
def ratD (g : Nat) (sp st : Int) (rows : List (List (Int × Int))) (m : Nat) (gs : List Int) : Int := denG g st rows m gs / gcdG g sp st rows m gs

theorem InG.y (k : HOK g sp st rows m) {gs : List Int} (hi : InG rows m gs) : ∀ q, q < rows.length * m → 0 ≤ yat gs m q ∧ yat gs m q ≤ 500 := fun q hq => by
  have h1 := hi.2 q hq
  have h2 := k.hoff q hq
  unfold isOff at h2
  omega
theorem terms_in (k : HOK g sp st rows m) {gs : List Int} (hi : InG rows m gs) : ∀ q, q < rows.length * m → (0 ≤ nuAt g sp st rows.length m gs q ∧ nuAt g sp st rows.length m gs q ≤ 1300000000) ∧ 0 ≤ deAt g st rows.length m gs q ∧ deAt g st rows.length m gs q ≤ 600000 := fun q hq => by
  obtain ⟨i1, i2, i3⟩ := place_idx k.hm.2 k.hn.2 hq
  exact numOf_in2 k.hg k.hsp k.hst k.hm.2 (by have := k.hn; omega) i2 (wt2 _ _ _ _) (hi.y k q hq)
theorem numG_in (k : HOK g sp st rows m) {gs : List Int} (hi : InG rows m gs) : 0 ≤ numG g sp st rows m gs ∧ numG g sp st rows m gs ≤ 78000000000 := by
  have := psum_in (b := 1300000000) (fun q hq => (terms_in k hi q hq).1)
  have h2 := nm_le k.hn.2 k.hm.2
  unfold numG; omega
theorem denG_pos (k : HOK g sp st rows m) {gs : List Int} (hi : InG rows m gs) : 0 < denG g st rows m gs ∧ denG g st rows m gs ≤ 36000000 := by
  have h1 := psum_in (b := 600000) (fun q hq => (terms_in k hi q hq).2)
  have h2 := nm_le k.hn.2 k.hm.2
  obtain ⟨q, hq, hp⟩ := k.hpos
  have h3 := hi.2 q hq
  have hw : 1 ≤ W rows.length m q := W_pos (by have := k.hm; omega) hq
  have h4 : 0 < W rows.length m q * yat gs m q := Int.mul_pos (by omega) (by omega)
  refine ⟨psum_pos (q0 := q) (fun q hq => (terms_in k hi q hq).2.1) hq ?_, by unfold denG; omega⟩
  unfold deAt denOf
  have hst := k.hst
  split
  · exact Int.mul_pos (by omega) h4
  · exact h4
theorem gcd_facts {a b : Int} (ha : 0 ≤ a) (hb : 0 < b) : 0 < (Int.gcd a b : Int) ∧ a = a / (Int.gcd a b : Int) * (Int.gcd a b : Int) ∧ b = b / (Int.gcd a b : Int) * (Int.gcd a b : Int) ∧ 0 ≤ a / (Int.gcd a b : Int) ∧ a / (Int.gcd a b : Int) ≤ a ∧ 1 ≤ b / (Int.gcd a b : Int) ∧ b / (Int.gcd a b : Int) ≤ b := by
  have h0 : 0 < (Int.gcd a b : Int) := by
    have : 0 < Int.gcd a b := Int.gcd_pos_of_ne_zero_right _ (by omega)
    omega
  have h1 : a / (Int.gcd a b : Int) * (Int.gcd a b : Int) = a := Int.ediv_mul_cancel (Int.gcd_dvd_left ..)
  have h2 : b / (Int.gcd a b : Int) * (Int.gcd a b : Int) = b := Int.ediv_mul_cancel (Int.gcd_dvd_right ..)
  have h3 : 0 ≤ a / (Int.gcd a b : Int) := Int.ediv_nonneg ha (by omega)
  have h4 : a / (Int.gcd a b : Int) ≤ a := Int.ediv_le_self _ ha
  have h5 : b / (Int.gcd a b : Int) ≤ b := Int.ediv_le_self _ (by omega)
  have h6 : 1 ≤ b / (Int.gcd a b : Int) := by
    rcases Int.lt_or_le 0 (b / (Int.gcd a b : Int)) with h | h
    · omega
    · have : b / (Int.gcd a b : Int) * (Int.gcd a b : Int) ≤ 0 := Int.mul_nonpos_of_nonpos_of_nonneg h (by omega)
      omega
  exact ⟨h0, h1.symm, h2.symm, h3, h4, h6, h5⟩
theorem rat_in (k : HOK g sp st rows m) {gs : List Int} (hi : InG rows m gs) : (0 ≤ ratN g sp st rows m gs ∧ ratN g sp st rows m gs ≤ 78000000000) ∧ 1 ≤ ratD g sp st rows m gs ∧ ratD g sp st rows m gs ≤ 36000000 := by
  have h1 := numG_in k hi
  have h2 := denG_pos k hi
  obtain ⟨a1, a2, a3, a4, a5, a6, a7⟩ := gcd_facts h1.1 h2.1
  unfold ratN ratD gcdG
  omega
theorem rat_num (k : HOK g sp st rows m) {gs : List Int} (hi : InG rows m gs) : 0 < gcdG g sp st rows m gs ∧ numG g sp st rows m gs = ratN g sp st rows m gs * gcdG g sp st rows m gs ∧ denG g st rows m gs = ratD g sp st rows m gs * gcdG g sp st rows m gs := by
  obtain ⟨a1, a2, a3, _⟩ := gcd_facts (numG_in k hi).1 (denG_pos k hi).1
  exact ⟨a1, a2, a3⟩

/-- How far a grid is beyond a number. -/
def farG (g : Nat) (sp st : Int) (rows : List (List (Int × Int))) (m : Nat) (N D : Int) (high : Bool) (gs : List Int) : Int := psum (fun q => fAt g sp st rows.length m N D high q (yat gs m q)) (rows.length * m)
theorem farG_eq (N D : Int) (high : Bool) (gs : List Int) : farG g sp st rows m N D high gs = sgn high (numG g sp st rows m gs * D - denG g st rows m gs * N) := by
  unfold farG numG denG
  have e : ∀ q, fAt g sp st rows.length m N D high q (yat gs m q) = sgn high (D * nuAt g sp st rows.length m gs q + (-N) * deAt g st rows.length m gs q) := fun q => by
    unfold fAt gapOf nuAt deAt W
    congr 1
    grind
  have h : psum (fun q => fAt g sp st rows.length m N D high q (yat gs m q)) (rows.length * m) = psum (fun q => sgn high (D * nuAt g sp st rows.length m gs q + (-N) * deAt g st rows.length m gs q)) (rows.length * m) := psum_congr fun q _ => e q
  rw [h]
  have h2 : ∀ n, psum (fun q => sgn high (D * nuAt g sp st rows.length m gs q + (-N) * deAt g st rows.length m gs q)) n = sgn high (psum (fun q => D * nuAt g sp st rows.length m gs q + (-N) * deAt g st rows.length m gs q) n) := by
    intro n
    induction n with
    | zero => cases high <;> rfl
    | succ n ih =>
      simp only [psum]
      rw [ih]
      cases high
      · simp only [sgn, if_neg (show ¬ (false = true) by decide)]; omega
      · rfl
  rw [h2, psum_add, psum_mul, psum_mul]
  congr 1
  grind
theorem farG_le (k : HOK g sp st rows m) (N D : Int) (high : Bool) {gs : List Int} (hi : InG rows m gs) : farG g sp st rows m N D high gs ≤ psum (bestG g sp st rows m N D high) (rows.length * m) := by
  have key : ∀ n, n ≤ rows.length * m → psum (fun q => fAt g sp st rows.length m N D high q (yat gs m q)) n ≤ psum (bestG g sp st rows m N D high) n := by
    intro n
    induction n with
    | zero => intro _; exact Int.le_refl _
    | succ n ih =>
      intro hn
      have h1 := ih (by omega)
      have h2 := hi.2 n (by omega)
      have h3 : fAt g sp st rows.length m N D high n (yat gs m n) ≤ bestG g sp st rows m N D high n := mxf_ge h2.1 (by unfold wide; omega)
      simp only [psum]
      omega
  exact key _ (Nat.le_refl _)

/-- The next hull. -/
def stepG (g : Nat) (sp st : Int) (rows : List (List (Int × Int))) (m : Nat) (high : Bool) (gs : List Int) : List Int := gB (bestY g sp st rows m (ratN g sp st rows m gs) (ratD g sp st rows m gs) high) m (rows.length * m)
def sumG (g : Nat) (sp st : Int) (rows : List (List (Int × Int))) (m : Nat) (high : Bool) (gs : List Int) : Int := psum (bestG g sp st rows m (ratN g sp st rows m gs) (ratD g sp st rows m gs) high) (rows.length * m)
theorem stepG_in (k : HOK g sp st rows m) (high : Bool) (gs : List Int) : InG rows m (stepG g sp st rows m high gs) := by
  refine ⟨gB_length _ _ _, fun q hq => ?_⟩
  unfold stepG
  rw [gB_at _ k.hn.2 k.hm.2 _ (Nat.le_refl _) q hq]
  obtain ⟨h1, h2, _⟩ := amx_in (f := fAt g sp st rows.length m (ratN g sp st rows m gs) (ratD g sp st rows m gs) high q) (lo := (rAt rows m q).1) (n := wide (rAt rows m q))
  have h3 := k.hoff q hq
  unfold isOff at h3
  unfold bestY
  refine ⟨h1, ?_⟩
  have : ((wide (rAt rows m q) : Nat) : Int) = (rAt rows m q).2 - (rAt rows m q).1 := by unfold wide; omega
  omega
theorem stepG_far (k : HOK g sp st rows m) (high : Bool) (gs : List Int) : farG g sp st rows m (ratN g sp st rows m gs) (ratD g sp st rows m gs) high (stepG g sp st rows m high gs) = sumG g sp st rows m high gs := by
  unfold farG sumG
  refine psum_congr fun q hq => ?_
  unfold stepG
  rw [gB_at _ k.hn.2 k.hm.2 _ (Nat.le_refl _) q hq]
  exact (amx_in (f := fAt g sp st rows.length m (ratN g sp st rows m gs) (ratD g sp st rows m gs) high q)).2.2

/-- A number's height, in steps that are fine enough. -/
def MM : Int := 1296000000000000
theorem MM_eq : MM = 36000000 * 36000000 := by decide
def hgt (g : Nat) (sp st : Int) (rows : List (List (Int × Int))) (m : Nat) (gs : List Int) : Int := ratN g sp st rows m gs * MM / ratD g sp st rows m gs
theorem hgt_lt {N D N' D' : Int} (hN : 0 ≤ N) (hD : 1 ≤ D ∧ D ≤ 36000000) (hD' : 1 ≤ D' ∧ D' ≤ 36000000) (h : N * D' < N' * D) : N * MM / D < N' * MM / D' := by
  have hdd : D * D' ≤ MM := by rw [MM_eq]; exact Int.mul_le_mul hD.2 hD'.2 (by omega) (by omega)
  have hMp : 0 < MM := by decide
  generalize hf : N * MM / D = f
  have h1 : f * D ≤ N * MM := by rw [← hf]; exact Int.ediv_mul_le _ (by omega)
  have h2 : (f + 1) * D' ≤ N' * MM := by
    have h3 : (f + 1) * D' * D ≤ N' * MM * D := by
      have h4 : f * D * D' ≤ N * MM * D' := Int.mul_le_mul_of_nonneg_right h1 (by omega)
      have h5 : N * D' * MM + MM ≤ N' * D * MM := by
        have : (N * D' + 1) * MM ≤ N' * D * MM := Int.mul_le_mul_of_nonneg_right (by omega) (by omega)
        grind
      grind
    exact Int.le_of_mul_le_mul_right h3 (by omega)
  have h3 : f + 1 ≤ N' * MM / D' := Int.le_ediv_of_mul_le (by omega) h2
  omega
def muG (g : Nat) (sp st : Int) (rows : List (List (Int × Int))) (m : Nat) (high : Bool) (gs : List Int) : Nat := if high then (78000000000 * MM - hgt g sp st rows m gs).toNat else (hgt g sp st rows m gs).toNat
theorem hgt_in (k : HOK g sp st rows m) {gs : List Int} (hi : InG rows m gs) : 0 ≤ hgt g sp st rows m gs ∧ hgt g sp st rows m gs ≤ 78000000000 * MM := by
  obtain ⟨h1, h2⟩ := rat_in k hi
  have hMp : 0 < MM := by decide
  have h3 : 0 ≤ ratN g sp st rows m gs * MM := Int.mul_nonneg h1.1 (by omega)
  have h4 : ratN g sp st rows m gs * MM ≤ 78000000000 * MM := Int.mul_le_mul_of_nonneg_right h1.2 (by omega)
  unfold hgt
  refine ⟨Int.ediv_nonneg h3 (by omega), Int.le_trans (Int.ediv_le_self _ h3) h4⟩
theorem muG_lt (k : HOK g sp st rows m) (high : Bool) {gs : List Int} (hi : InG rows m gs) (hs : 0 < sumG g sp st rows m high gs) : muG g sp st rows m high (stepG g sp st rows m high gs) < muG g sp st rows m high gs := by
  have hi' := stepG_in k high gs
  rw [← stepG_far k high gs, farG_eq] at hs
  obtain ⟨g1, g2, g3⟩ := rat_num k hi'
  obtain ⟨r1, r2⟩ := rat_in k hi
  obtain ⟨r3, r4⟩ := rat_in k hi'
  have b1 := hgt_in k hi
  have b2 := hgt_in k hi'
  generalize hgs : stepG g sp st rows m high gs = gs' at *
  rw [g2, g3] at hs
  cases high with
  | true =>
    have h1 : 0 < (ratN g sp st rows m gs' * ratD g sp st rows m gs - ratD g sp st rows m gs' * ratN g sp st rows m gs) * gcdG g sp st rows m gs' := by
      have : sgn true (ratN g sp st rows m gs' * gcdG g sp st rows m gs' * ratD g sp st rows m gs - ratD g sp st rows m gs' * gcdG g sp st rows m gs' * ratN g sp st rows m gs) = (ratN g sp st rows m gs' * ratD g sp st rows m gs - ratD g sp st rows m gs' * ratN g sp st rows m gs) * gcdG g sp st rows m gs' := by
        simp only [sgn, ↓reduceIte]; grind
      rw [← this]; exact hs
    have h2 : 0 < ratN g sp st rows m gs' * ratD g sp st rows m gs - ratD g sp st rows m gs' * ratN g sp st rows m gs := Int.pos_of_mul_pos_left h1 (by omega)
    have h3 : ratN g sp st rows m gs * ratD g sp st rows m gs' < ratN g sp st rows m gs' * ratD g sp st rows m gs := by
      have e := Int.mul_comm (ratD g sp st rows m gs') (ratN g sp st rows m gs)
      omega
    have h4 := hgt_lt r1.1 r2 r4 h3
    unfold muG
    simp only [↓reduceIte]
    unfold hgt at *
    omega
  | false =>
    have h1 : 0 < (ratD g sp st rows m gs' * ratN g sp st rows m gs - ratN g sp st rows m gs' * ratD g sp st rows m gs) * gcdG g sp st rows m gs' := by
      have : sgn false (ratN g sp st rows m gs' * gcdG g sp st rows m gs' * ratD g sp st rows m gs - ratD g sp st rows m gs' * gcdG g sp st rows m gs' * ratN g sp st rows m gs) = (ratD g sp st rows m gs' * ratN g sp st rows m gs - ratN g sp st rows m gs' * ratD g sp st rows m gs) * gcdG g sp st rows m gs' := by
        simp only [sgn, Bool.false_eq_true, ↓reduceIte]; grind
      rw [← this]; exact hs
    have h2 : 0 < ratD g sp st rows m gs' * ratN g sp st rows m gs - ratN g sp st rows m gs' * ratD g sp st rows m gs := Int.pos_of_mul_pos_left h1 (by omega)
    have h3 : ratN g sp st rows m gs' * ratD g sp st rows m gs < ratN g sp st rows m gs * ratD g sp st rows m gs' := by
      have e := Int.mul_comm (ratD g sp st rows m gs') (ratN g sp st rows m gs)
      omega
    have h4 := hgt_lt r3.1 r4 r2 h3
    unfold muG
    simp only [Bool.false_eq_true, ↓reduceIte]
    unfold hgt at *
    omega

def endF (g : Nat) (sp st : Int) (rows : List (List (Int × Int))) (m : Nat) (high : Bool) : Nat → List Int → List Int
  | 0, gs => gs
  | k + 1, gs => if 0 < sumG g sp st rows m high gs then endF g sp st rows m high k (stepG g sp st rows m high gs) else gs
theorem endF_more (k : HOK g sp st rows m) (high : Bool) : ∀ (M : Nat) {gs : List Int}, InG rows m gs → muG g sp st rows m high gs ≤ M → ∀ d, endF g sp st rows m high (M + d) gs = endF g sp st rows m high M gs
  | 0, gs, hi, hM, d => by
    cases d with
    | zero => rfl
    | succ d =>
      show (if 0 < sumG g sp st rows m high gs then _ else gs) = gs
      rw [if_neg (fun hs => by have := muG_lt k high hi hs; omega)]
  | M + 1, gs, hi, hM, d => by
    rw [Nat.succ_add]
    show (if 0 < sumG g sp st rows m high gs then _ else gs) = (if 0 < sumG g sp st rows m high gs then _ else gs)
    by_cases hs : 0 < sumG g sp st rows m high gs
    · rw [if_pos hs, if_pos hs]
      exact endF_more k high M (stepG_in k high gs) (by have := muG_lt k high hi hs; omega) d
    · rw [if_neg hs, if_neg hs]
/-- The hull at the end. -/
def endG (g : Nat) (sp st : Int) (rows : List (List (Int × Int))) (m : Nat) (high : Bool) (gs : List Int) : List Int := endF g sp st rows m high (muG g sp st rows m high gs) gs
theorem endG_stop (high : Bool) {gs : List Int} (hs : ¬ 0 < sumG g sp st rows m high gs) : endG g sp st rows m high gs = gs := by
  unfold endG
  cases muG g sp st rows m high gs with
  | zero => rfl
  | succ n => show (if 0 < sumG g sp st rows m high gs then _ else gs) = gs; rw [if_neg hs]
theorem endG_step (k : HOK g sp st rows m) (high : Bool) {gs : List Int} (hi : InG rows m gs) (hs : 0 < sumG g sp st rows m high gs) : endG g sp st rows m high gs = endG g sp st rows m high (stepG g sp st rows m high gs) := by
  have h1 := muG_lt k high hi hs
  unfold endG
  obtain ⟨d, hd⟩ : ∃ d, muG g sp st rows m high gs = muG g sp st rows m high (stepG g sp st rows m high gs) + d + 1 := ⟨muG g sp st rows m high gs - muG g sp st rows m high (stepG g sp st rows m high gs) - 1, by omega⟩
  rw [hd]
  show (if 0 < sumG g sp st rows m high gs then _ else gs) = _
  rw [if_pos hs]
  exact endF_more k high _ (stepG_in k high gs) (Nat.le_refl _) d
theorem endG_ok (k : HOK g sp st rows m) (high : Bool) : ∀ (M : Nat) {gs : List Int}, InG rows m gs → muG g sp st rows m high gs ≤ M → InG rows m (endG g sp st rows m high gs) ∧ sumG g sp st rows m high (endG g sp st rows m high gs) ≤ 0
  | M, gs, hi, hM => by
    by_cases hs : 0 < sumG g sp st rows m high gs
    · rw [endG_step k high hi hs]
      have := muG_lt k high hi hs
      cases M with
      | zero => omega
      | succ M => exact endG_ok k high M (stepG_in k high gs) (by omega)
    · rw [endG_stop high hs]
      exact ⟨hi, by omega⟩
end
end Go.Proofs.Ytghondkiondeaab
end

/- EvM3 -/
section
/-
  LAYER 2: the end, and the span, as the package answers them.
-/
namespace Go.Proofs.Ytghondkiondeaab
open Go.Ev
set_option maxRecDepth 100000
set_option linter.unusedSimpArgs false
set_option linter.unusedVariables false
set_option maxHeartbeats 2000000

theorem tEvM3 : type_of% (And.intro (And.intro (And.intro (And.intro (@bs_39) (And.intro (@bs_52) (@ia_2))) (And.intro (And.intro (@sz_2) (@ze_2)) (And.intro (@ia_3) (@sz_3)))) (And.intro (And.intro (And.intro (@ia_4) (@sz_4)) (And.intro (@ia_24) (@sz_24))) (And.intro (And.intro (@ia_52) (@sz_52)) (And.intro (@ze_52) (@ia_62))))) (And.intro (And.intro (And.intro (@sz_62) (And.intro (@ia_29) (@sz_29))) (And.intro (And.intro (@ze_29) (@ia_39)) (And.intro (@sz_39) (@ze_39)))) (And.intro (And.intro (And.intro (@ia_56) (@sz_56)) (And.intro (@ze_56) (@pb_38))) (And.intro (And.intro (@pb_44) (@pb_34)) (And.intro (@pb_29) (@pb_39)))))) := And.intro (And.intro (And.intro (And.intro (@bs_39) (And.intro (@bs_52) (@ia_2))) (And.intro (And.intro (@sz_2) (@ze_2)) (And.intro (@ia_3) (@sz_3)))) (And.intro (And.intro (And.intro (@ia_4) (@sz_4)) (And.intro (@ia_24) (@sz_24))) (And.intro (And.intro (@ia_52) (@sz_52)) (And.intro (@ze_52) (@ia_62))))) (And.intro (And.intro (And.intro (@sz_62) (And.intro (@ia_29) (@sz_29))) (And.intro (And.intro (@ze_29) (@ia_39)) (And.intro (@sz_39) (@ze_39)))) (And.intro (And.intro (And.intro (@ia_56) (@sz_56)) (And.intro (@ze_56) (@pb_38))) (And.intro (And.intro (@pb_44) (@pb_34)) (And.intro (@pb_29) (@pb_39)))))
/-- A grid's cells. -/
structure Big (G : List Int) : Prop where
  len : (G.map ii).length = 60
  take : (G.map ii).take 60 = G.map ii
  all : ∀ id off (h : H), storeAll id off (G.map ii) h = writeCells id off (G.map ii) h
  over : ∀ (old : List AV) e, old.length = 60 → writeAt (some (.cells (mkCells old) e)) 0 (G.map ii) = some (.cells (mkCells (G.map ii)) e)
theorem big {G : List Int} (hG : G.length = 60) : Big G := by
  have hl : (G.map ii).length = 60 := by rw [List.length_map, hG]
  refine ⟨hl, List.take_of_length_le (by omega), fun id off h => storeAll_many (by omega), fun old e ho => ?_⟩
  have h1 : allOne (G.map ii) = true := allOne_map (fun _ => rfl) _
  generalize G.map ii = cs at *
  cases cs with
  | nil => simp at hl
  | cons v vs =>
    rw [writeAt_cells, h1]
    show (if 0 + (v :: vs).length ≤ old.length then some _ else none) = _
    rw [if_pos (by omega), splice_all (by omega)]
theorem Big.zero {G : List Int} (b : Big G) (e : TypeId) : writeAt (some (.cells (mkCells [ii 0, ii 0, ii 0, ii 0, ii 0, ii 0, ii 0, ii 0, ii 0, ii 0, ii 0, ii 0, ii 0, ii 0, ii 0, ii 0, ii 0, ii 0, ii 0, ii 0, ii 0, ii 0, ii 0, ii 0, ii 0, ii 0, ii 0, ii 0, ii 0, ii 0, ii 0, ii 0, ii 0, ii 0, ii 0, ii 0, ii 0, ii 0, ii 0, ii 0, ii 0, ii 0, ii 0, ii 0, ii 0, ii 0, ii 0, ii 0, ii 0, ii 0, ii 0, ii 0, ii 0, ii 0, ii 0, ii 0, ii 0, ii 0, ii 0, ii 0]) e)) 0 (G.map ii) = some (.cells (mkCells (G.map ii)) e) := b.over _ e rfl
theorem Big.over' {G G' : List Int} (b : Big G) (b' : Big G') (e : TypeId) : writeAt (some (.cells (mkCells (G'.map ii)) e)) 0 (G.map ii) = some (.cells (mkCells (G.map ii)) e) := b.over _ e b'.len

theorem retcc {h : H} {P : Program} {a t b u : Nat} {f : TF} {v x : AV} (ha : a < 384) (hb : b < 384) (hl : loadE P t (f a) h = some v) (hu : loadE P u (f b) h = some x) : retE P [.cell a t, .cell b u] (mkM f) h = .ok (.tup [v, x]) h := by
  simp only [retE, resultsE, resultE, get_mkM _ _ ha, get_mkM _ _ hb, hl, hu]

def grid0 (rows : List (List (Int × Int))) (m : Nat) : List Int := gB (pickY 54 rows m) m (rows.length * m)
theorem grid0_in {g : Nat} {sp st : Int} {rows : List (List (Int × Int))} {m : Nat} (k : HOK g sp st rows m) : InG rows m (grid0 rows m) := by
  refine ⟨gB_length _ _ _, fun q hq => ?_⟩
  unfold grid0
  rw [gB_at _ k.hn.2 k.hm.2 _ (Nat.le_refl _) q hq]
  have := k.hoff q hq
  unfold isOff at this
  unfold pickY pickOf
  rw [if_neg (by decide)]
  omega
/-- The hull at the end, from the lowest one on. -/
def theEnd (g : Nat) (sp st : Int) (rows : List (List (Int × Int))) (m : Nat) (high : Bool) : List Int := endG g sp st rows m high (grid0 rows m)
def ratio (g : Nat) (sp st : Int) (rows : List (List (Int × Int))) (m : Nat) (gs : List Int) : AV := .agg [ii (ratN g sp st rows m gs), ii (ratD g sp st rows m gs)]

theorem endC {g : Nat} {sp st : Int} {rows : List (List (Int × Int))} {m : Nat} (k : HOK g sp st rows m) (high : Bool) (a : AV) (rvs : List AV) (h : H) (x : HullAt h a rvs rows m) :
    (om Try.prog KK).call (.fn 39 [.agg [ii sp, ii st, a], .fn g [.agg [ii sp, ii st, a]] [], .bool high]) h = .ok (.tup [.agg ((theEnd g sp st rows m high).map ii), ratio g sp st rows m (theEnd g sp st rows m high)]) h := by
  have wf := x.wf
  have hnu : ∀ gs, InG rows m gs → ∀ l w, w ≤ h.clock + l.length → (om Try.prog KK).call (.fn 29 [.agg [ii sp, ii st, a], .fn g [.agg [ii sp, ii st, a]] [], .agg (gs.map ii)]) (X h l w) = .ok (.agg [ii (ratN g sp st rows m gs), ii (ratD g sp st rows m gs)]) (X h l w) := fun gs hi l w hw => by
    rw [number k.hg sp st k.hsp k.hst a rvs rows m k.hn k.hm gs hi.1 (hi.y k) _ (x.up l w hw) (denG_pos k hi).1]; rfl
  have hfa : ∀ gs, InG rows m gs → ∀ l w, w ≤ h.clock + l.length → (om Try.prog KK).call (.fn 44 [.agg [ii sp, ii st, a], .fn g [.agg [ii sp, ii st, a]] [], .agg [ii (ratN g sp st rows m gs), ii (ratD g sp st rows m gs)], .bool high]) (X h l w) = .ok (.tup [.agg ((stepG g sp st rows m high gs).map ii), ii (sumG g sp st rows m high gs)]) (X h l w) := fun gs hi l w hw => by
    obtain ⟨r1, r2⟩ := rat_in k hi
    rw [farthest k.hg sp st k.hsp k.hst a rvs rows m k.hn k.hm _ _ ⟨r1.1, by omega⟩ ⟨r2.1, by omega⟩ high k.hoff _ (x.up l w hw)]; rfl
  have hbu : ∀ l w, w ≤ h.clock + l.length → (om Try.prog KK).call (.fn 34 [.agg [ii sp, ii st, a], .fn 54 [] []]) (X h l w) = .ok (.agg ((grid0 rows m).map ii)) (X h l w) := fun l w hw => built (.inl rfl) sp st a rvs rows m k.hn k.hm _ (x.up l w hw)
  have hi0 := grid0_in k
  have b0 := big hi0.1
  have hnu0 := hnu _ hi0
  refine WV_to (WV_call (fn := Try.f39) Try.func39 rfl rfl rfl rfl rfl ?_)
  simp only [argF]
  (repeat' (first
  | (with_reducible first | refine WC_seq ?_ | refine WC_skip ?_ | refine WC_label ?_ | refine WC_scope ?_ | refine WC_block ?_ | refine WC_ret ?_ | refine WC_exit ?_ | refine seqQ_norm ?_ | refine seqQ_ret ?_ | refine seqQ_exit ?_ | refine blkQ_norm ?_ | refine blkQ_ret ?_ | refine blkQ_here ?_ | refine gateK_yes ?_ | refine gateK_none ?_ | refine condK_tt ?_ | refine condK_ff ?_ | refine roundQ_exit ?_ | refine roundQ_ret ?_)
  | refine WC_region ?_ | refine blkQ_out rfl ?_ | refine WO_nil ?_ | refine WD_nil ?_
  | ((first | refine WD_gate rfl rfl rfl rfl rfl fun K_ hK_ => ?_ | refine WO_gate rfl rfl rfl rfl rfl fun K_ hK_ => ?_); simp only [upd_apply, asB_bool, asB_tup, ↓reduceIte, reduceCtorEq, Nat.reduceEqDiff, Bool.not_true, Bool.not_false]; refine hK_ _ ?_; clear hK_ K_)
  | refine gateK_no (by decide) ?_
  | ((try first | refine WO_op rfl rfl rfl ?_ | refine WO_op0 rfl rfl ?_ | refine WD_op rfl rfl rfl ?_ | refine WD_op0 rfl rfl ?_); (refine WV_gen fun Q_ hQ_ => ?_; simp (disch := first | omega | (simp only [List.length_cons, List.length_nil, List.length_append]; omega)) only [bb, bp, argF, ↓reduceIte, reduceCtorEq, Nat.reduceEqDiff, Nat.reduceLT, Nat.reduceLeDiff, Nat.reduceAdd, Nat.reduceMul, Nat.reduceSub, Nat.reduceBEq, Int.reduceToNat, cond_true, cond_false, eq_self, beq_self_eq_true, hbu, hnu0, b0.len, b0.take, b0.all, b0.zero, newPtr_X wf, load1_X wf, loadAgg_X wf, store1_X wf, writeCells_X wf, makeFunc_def, tEvM3]; first | (refine dec_split (Q := Q_) (fun hp_ => ?_) (fun hp_ => ?_) <;> first | (exfalso; omega) | (refine hQ_ _ _ ?_; clear hQ_ Q_)) | (refine dec_splitn (Q := Q_) (fun hp_ => ?_) (fun hp_ => ?_) <;> first | (exfalso; omega) | (refine hQ_ _ _ ?_; clear hQ_ Q_)) | (refine hQ_ _ _ ?_; clear hQ_ Q_)))
  | (refine WC_cond fun K_ hK_ => ?_; simp (disch := omega) only [evT_tmp, upd_apply, WB_some, ↓reduceIte, reduceCtorEq, Nat.reduceEqDiff, Nat.reduceLT]; refine hK_ _ ?_; clear hK_ K_)))
  refine WC_loop (fun (gs : List Int) f d h' => InG rows m gs ∧ endG g sp st rows m high gs = theEnd g sp st rows m high ∧ f 1 = .fn g [.agg [ii sp, ii st, a]] [] ∧ f 2 = .bool high ∧ f 3 = .ptr (nx h 0) 0 ∧ f 6 = .ptr (nx h 1) 0 ∧ f 7 = .ptr (nx h 2) 0 ∧ f 8 = .ptr (nx h 3) 0 ∧ f 9 = .ptr (nx h 4) 0 ∧ d = [] ∧
    ∃ J, h' = X h (.cells (mkCells [ii sp, ii st, a]) 52 :: .cells (mkCells ((List.replicate 60 (0 : Int)).map ii)) 56 :: .cells (mkCells [ii 0, ii 0]) 29 :: .cells (mkCells (gs.map ii)) 56 :: .cells (mkCells [ii (ratN g sp st rows m gs), ii (ratD g sp st rows m gs)]) 29 :: J) h.clock)
    (fun gs => muG g sp st rows m high gs) ?_ (muG g sp st rows m high (grid0 rows m) + 1) (grid0 rows m) (Nat.lt_succ_self _) ?_
  · rintro gs f d h' ⟨hi, hend, g1, g2, g3, g6, g7, g8, g9, rfl, J, rfl⟩
    have hfg := hfa gs hi
    have hi' := stepG_in k high gs
    have hng := hnu _ hi'
    have bg := big hi.1
    have bs := big hi'.1
    have bz : Big (List.replicate 60 (0 : Int)) := big (by simp)
    by_cases hs : 0 < sumG g sp st rows m high gs
    · (repeat' (first
  | (with_reducible first | refine WC_seq ?_ | refine WC_skip ?_ | refine WC_label ?_ | refine WC_scope ?_ | refine WC_block ?_ | refine WC_ret ?_ | refine WC_exit ?_ | refine seqQ_norm ?_ | refine seqQ_ret ?_ | refine seqQ_exit ?_ | refine blkQ_norm ?_ | refine blkQ_ret ?_ | refine blkQ_here ?_ | refine gateK_yes ?_ | refine gateK_none ?_ | refine condK_tt ?_ | refine condK_ff ?_ | refine roundQ_exit ?_ | refine roundQ_ret ?_)
  | refine WC_region ?_ | refine blkQ_out rfl ?_ | refine WO_nil ?_ | refine WD_nil ?_
  | ((first | refine WD_gate rfl rfl rfl rfl rfl fun K_ hK_ => ?_ | refine WO_gate rfl rfl rfl rfl rfl fun K_ hK_ => ?_); simp only [upd_apply, asB_bool, asB_tup, ↓reduceIte, reduceCtorEq, Nat.reduceEqDiff, Bool.not_true, Bool.not_false]; refine hK_ _ ?_; clear hK_ K_)
  | refine gateK_no (by decide) ?_
  | ((try first | refine WO_op rfl rfl rfl ?_ | refine WO_op0 rfl rfl ?_ | refine WD_op rfl rfl rfl ?_ | refine WD_op0 rfl rfl ?_); (refine WV_gen fun Q_ hQ_ => ?_; simp (disch := first | omega | (simp only [List.length_cons, List.length_nil, List.length_append]; omega)) only [bb, bp, argF, ↓reduceIte, reduceCtorEq, Nat.reduceEqDiff, Nat.reduceLT, Nat.reduceLeDiff, Nat.reduceAdd, Nat.reduceMul, Nat.reduceSub, Nat.reduceBEq, Int.reduceToNat, cond_true, cond_false, eq_self, beq_self_eq_true, g1, g2, g3, g6, g7, g8, g9, hfg, hng, bg.len, bg.take, bs.len, bs.take, bs.all, bs.zero, bs.over' bg, newPtr_X wf, load1_X wf, loadAgg_X wf, store1_X wf, writeCells_X wf, makeFunc_def, tEvM3]; first | (refine dec_split (Q := Q_) (fun hp_ => ?_) (fun hp_ => ?_) <;> first | (exfalso; omega) | (refine hQ_ _ _ ?_; clear hQ_ Q_)) | (refine dec_splitn (Q := Q_) (fun hp_ => ?_) (fun hp_ => ?_) <;> first | (exfalso; omega) | (refine hQ_ _ _ ?_; clear hQ_ Q_)) | (refine hQ_ _ _ ?_; clear hQ_ Q_)))
  | (refine WC_cond fun K_ hK_ => ?_; simp (disch := omega) only [evT_tmp, upd_apply, WB_some, ↓reduceIte, reduceCtorEq, Nat.reduceEqDiff, Nat.reduceLT]; refine hK_ _ ?_; clear hK_ K_)))
      refine roundQ_again (stepG g sp st rows m high gs) (muG_lt k high hi hs) ⟨hi', by rw [← endG_step k high hi hs]; exact hend, by simp only [upd_apply, ↓reduceIte, reduceCtorEq, Nat.reduceEqDiff]; exact g1, by simp only [upd_apply, ↓reduceIte, reduceCtorEq, Nat.reduceEqDiff]; exact g2, by simp only [upd_apply, ↓reduceIte, reduceCtorEq, Nat.reduceEqDiff]; exact g3, by simp only [upd_apply, ↓reduceIte, reduceCtorEq, Nat.reduceEqDiff]; exact g6, by simp only [upd_apply, ↓reduceIte, reduceCtorEq, Nat.reduceEqDiff]; exact g7, by simp only [upd_apply, ↓reduceIte, reduceCtorEq, Nat.reduceEqDiff]; exact g8, by simp only [upd_apply, ↓reduceIte, reduceCtorEq, Nat.reduceEqDiff]; exact g9, rfl, J ++ [.cells (mkCells ((stepG g sp st rows m high gs).map ii)) 56], ?_⟩
      have hmk : ∀ (L : List AO) (w w' : Nat), w = w' → X h L w = X h L w' := fun L w w' e => by rw [e]
      exact hmk _ _ _ (by omega)
    · have he : gs = theEnd g sp st rows m high := by rw [← hend, endG_stop high hs]
      subst he
      (repeat' (first
  | (with_reducible first | refine WC_seq ?_ | refine WC_skip ?_ | refine WC_label ?_ | refine WC_scope ?_ | refine WC_block ?_ | refine WC_ret ?_ | refine WC_exit ?_ | refine seqQ_norm ?_ | refine seqQ_ret ?_ | refine seqQ_exit ?_ | refine blkQ_norm ?_ | refine blkQ_ret ?_ | refine blkQ_here ?_ | refine gateK_yes ?_ | refine gateK_none ?_ | refine condK_tt ?_ | refine condK_ff ?_ | refine roundQ_exit ?_ | refine roundQ_ret ?_)
  | refine WC_region ?_ | refine blkQ_out rfl ?_ | refine WO_nil ?_ | refine WD_nil ?_
  | ((first | refine WD_gate rfl rfl rfl rfl rfl fun K_ hK_ => ?_ | refine WO_gate rfl rfl rfl rfl rfl fun K_ hK_ => ?_); simp only [upd_apply, asB_bool, asB_tup, ↓reduceIte, reduceCtorEq, Nat.reduceEqDiff, Bool.not_true, Bool.not_false]; refine hK_ _ ?_; clear hK_ K_)
  | refine gateK_no (by decide) ?_
  | ((try first | refine WO_op rfl rfl rfl ?_ | refine WO_op0 rfl rfl ?_ | refine WD_op rfl rfl rfl ?_ | refine WD_op0 rfl rfl ?_); (refine WV_gen fun Q_ hQ_ => ?_; simp (disch := first | omega | (simp only [List.length_cons, List.length_nil, List.length_append]; omega)) only [bb, bp, argF, ↓reduceIte, reduceCtorEq, Nat.reduceEqDiff, Nat.reduceLT, Nat.reduceLeDiff, Nat.reduceAdd, Nat.reduceMul, Nat.reduceSub, Nat.reduceBEq, Int.reduceToNat, cond_true, cond_false, eq_self, beq_self_eq_true, g1, g2, g3, g6, g7, g8, g9, hfg, bg.len, bg.take, bs.len, bs.take, bs.all, bs.zero, newPtr_X wf, load1_X wf, loadAgg_X wf, store1_X wf, writeCells_X wf, makeFunc_def, tEvM3]; first | (refine dec_split (Q := Q_) (fun hp_ => ?_) (fun hp_ => ?_) <;> first | (exfalso; omega) | (refine hQ_ _ _ ?_; clear hQ_ Q_)) | (refine dec_splitn (Q := Q_) (fun hp_ => ?_) (fun hp_ => ?_) <;> first | (exfalso; omega) | (refine hQ_ _ _ ?_; clear hQ_ Q_)) | (refine hQ_ _ _ ?_; clear hQ_ Q_)))
  | (refine WC_cond fun K_ hK_ => ?_; simp (disch := omega) only [evT_tmp, upd_apply, WB_some, ↓reduceIte, reduceCtorEq, Nat.reduceEqDiff, Nat.reduceLT]; refine hK_ _ ?_; clear hK_ K_)))
      generalize theEnd g sp st rows m high = gs at *
      refine WC_drawnB [.no, .no, .soft [9], .full] (by kernel_rfl) ?_
      (repeat' (first
  | (with_reducible first | refine WC_seq ?_ | refine WC_skip ?_ | refine WC_label ?_ | refine WC_scope ?_ | refine WC_block ?_ | refine WC_ret ?_ | refine WC_exit ?_ | refine seqQ_norm ?_ | refine seqQ_ret ?_ | refine seqQ_exit ?_ | refine blkQ_norm ?_ | refine blkQ_ret ?_ | refine blkQ_here ?_ | refine gateK_yes ?_ | refine gateK_none ?_ | refine condK_tt ?_ | refine condK_ff ?_ | refine roundQ_exit ?_ | refine roundQ_ret ?_)
  | refine WC_region ?_ | refine blkQ_out rfl ?_ | refine WO_nil ?_ | refine WD_nil ?_
  | ((first | refine WD_gate rfl rfl rfl rfl rfl fun K_ hK_ => ?_ | refine WO_gate rfl rfl rfl rfl rfl fun K_ hK_ => ?_); simp only [upd_apply, asB_bool, asB_tup, ↓reduceIte, reduceCtorEq, Nat.reduceEqDiff, Bool.not_true, Bool.not_false]; refine hK_ _ ?_; clear hK_ K_)
  | refine gateK_no (by decide) ?_
  | ((try first | refine WO_op rfl rfl rfl ?_ | refine WO_op0 rfl rfl ?_ | refine WD_op rfl rfl rfl ?_ | refine WD_op0 rfl rfl ?_); (refine WV_gen fun Q_ hQ_ => ?_; simp (disch := first | omega | (simp only [List.length_cons, List.length_nil, List.length_append]; omega)) only [bb, bp, argF, ↓reduceIte, reduceCtorEq, Nat.reduceEqDiff, Nat.reduceLT, Nat.reduceLeDiff, Nat.reduceAdd, Nat.reduceMul, Nat.reduceSub, Nat.reduceBEq, Int.reduceToNat, cond_true, cond_false, eq_self, beq_self_eq_true, g1, g2, g3, g6, g7, g8, g9, bg.len, bg.take, newPtr_X wf, load1_X wf, loadAgg_X wf, store1_X wf, writeCells_X wf, makeFunc_def, tEvM3]; first | (refine dec_split (Q := Q_) (fun hp_ => ?_) (fun hp_ => ?_) <;> first | (exfalso; omega) | (refine hQ_ _ _ ?_; clear hQ_ Q_)) | (refine dec_splitn (Q := Q_) (fun hp_ => ?_) (fun hp_ => ?_) <;> first | (exfalso; omega) | (refine hQ_ _ _ ?_; clear hQ_ Q_)) | (refine hQ_ _ _ ?_; clear hQ_ Q_)))
  | (refine WC_cond fun K_ hK_ => ?_; simp (disch := omega) only [evT_tmp, upd_apply, WB_some, ↓reduceIte, reduceCtorEq, Nat.reduceEqDiff, Nat.reduceLT]; refine hK_ _ ?_; clear hK_ K_)))
      refine WD_op0 rfl rfl (WV_soft (v := .tup []) (by
        rw [x_store, evT_tmp (by decide), on1_ok, evT_tmp (by decide), on1_ok]
        simp only [upd_apply, ↓reduceIte, reduceCtorEq, Nat.reduceEqDiff, g6]
        rw [marked_X, storeE_whole wf sz_56 (by decide) bg.len bz.len rfl (allOne_map (fun _ => rfl) _)]
        rfl) (barOk_store1 (by simp only [upd_apply, ↓reduceIte, reduceCtorEq, Nat.reduceEqDiff]; exact g6) (by simp only [upd_apply, ↓reduceIte, reduceCtorEq, Nat.reduceEqDiff]; exact g9) (nx_ne (by decide)) (by decide) (by decide)) ?_)
      (repeat' (first
  | (with_reducible first | refine WC_seq ?_ | refine WC_skip ?_ | refine WC_label ?_ | refine WC_scope ?_ | refine WC_block ?_ | refine WC_ret ?_ | refine WC_exit ?_ | refine seqQ_norm ?_ | refine seqQ_ret ?_ | refine seqQ_exit ?_ | refine blkQ_norm ?_ | refine blkQ_ret ?_ | refine blkQ_here ?_ | refine gateK_yes ?_ | refine gateK_none ?_ | refine condK_tt ?_ | refine condK_ff ?_ | refine roundQ_exit ?_ | refine roundQ_ret ?_)
  | refine WC_region ?_ | refine blkQ_out rfl ?_ | refine WO_nil ?_ | refine WD_nil ?_
  | ((first | refine WD_gate rfl rfl rfl rfl rfl fun K_ hK_ => ?_ | refine WO_gate rfl rfl rfl rfl rfl fun K_ hK_ => ?_); simp only [upd_apply, asB_bool, asB_tup, ↓reduceIte, reduceCtorEq, Nat.reduceEqDiff, Bool.not_true, Bool.not_false]; refine hK_ _ ?_; clear hK_ K_)
  | refine gateK_no (by decide) ?_
  | ((try first | refine WO_op rfl rfl rfl ?_ | refine WO_op0 rfl rfl ?_ | refine WD_op rfl rfl rfl ?_ | refine WD_op0 rfl rfl ?_); (refine WV_gen fun Q_ hQ_ => ?_; simp (disch := first | omega | (simp only [List.length_cons, List.length_nil, List.length_append]; omega)) only [bb, bp, argF, ↓reduceIte, reduceCtorEq, Nat.reduceEqDiff, Nat.reduceLT, Nat.reduceLeDiff, Nat.reduceAdd, Nat.reduceMul, Nat.reduceSub, Nat.reduceBEq, Int.reduceToNat, cond_true, cond_false, eq_self, beq_self_eq_true, g1, g2, g3, g6, g7, g8, g9, newPtr_X wf, load1_X wf, loadAgg_X wf, store1_X wf, writeCells_X wf, makeFunc_def, tEvM3]; first | (refine dec_split (Q := Q_) (fun hp_ => ?_) (fun hp_ => ?_) <;> first | (exfalso; omega) | (refine hQ_ _ _ ?_; clear hQ_ Q_)) | (refine dec_splitn (Q := Q_) (fun hp_ => ?_) (fun hp_ => ?_) <;> first | (exfalso; omega) | (refine hQ_ _ _ ?_; clear hQ_ Q_)) | (refine hQ_ _ _ ?_; clear hQ_ Q_)))
  | (refine WC_cond fun K_ hK_ => ?_; simp (disch := omega) only [evT_tmp, upd_apply, WB_some, ↓reduceIte, reduceCtorEq, Nat.reduceEqDiff, Nat.reduceLT]; refine hK_ _ ?_; clear hK_ K_)))
      refine endQ_ret _ _ rfl (retcc (by decide) (by decide) (by simp only [upd_apply, ↓reduceIte, reduceCtorEq, Nat.reduceEqDiff]; rw [g6]; exact loadE_whole wf ia_56 sz_56 (by decide) bg.len rfl) (by simp (disch := first | omega | (simp only [List.length_cons, List.length_nil, List.length_append]; omega)) only [bb, bp, argF, ↓reduceIte, reduceCtorEq, Nat.reduceEqDiff, Nat.reduceLT, Nat.reduceLeDiff, Nat.reduceAdd, Nat.reduceMul, Nat.reduceSub, Nat.reduceBEq, Int.reduceToNat, cond_true, cond_false, eq_self, beq_self_eq_true, g7, loadAgg_X wf, tEvM3]; rfl)) ?_
      refine WV_flat ?_ (by omega) ?_
      · show (bif flatL (gs.map ii) then _ else false) = true
        rw [flatL_ii]; rfl
      · exact ⟨rfl, rfl⟩
  · refine ⟨hi0, rfl, by simp only [upd_apply, ↓reduceIte, reduceCtorEq, Nat.reduceEqDiff], by simp only [upd_apply, ↓reduceIte, reduceCtorEq, Nat.reduceEqDiff], by simp only [upd_apply, ↓reduceIte, reduceCtorEq, Nat.reduceEqDiff], by simp only [upd_apply, ↓reduceIte, reduceCtorEq, Nat.reduceEqDiff], by simp only [upd_apply, ↓reduceIte, reduceCtorEq, Nat.reduceEqDiff], by simp only [upd_apply, ↓reduceIte, reduceCtorEq, Nat.reduceEqDiff], by simp only [upd_apply, ↓reduceIte, reduceCtorEq, Nat.reduceEqDiff], rfl, [], ?_⟩
    congr 1
end Go.Proofs.Ytghondkiondeaab
end

/- EvM4 -/
section
/-
  LAYER 2: spans, as the package answers them.
-/
namespace Go.Proofs.Ytghondkiondeaab
open Go.Ev
set_option maxRecDepth 100000
set_option linter.unusedSimpArgs false
set_option linter.unusedVariables false
set_option maxHeartbeats 2000000

theorem tEvM4 : type_of% (And.intro (And.intro (And.intro (And.intro (And.intro (@bs_39) (@bs_52)) (And.intro (@ia_2) (@sz_2))) (And.intro (And.intro (@ze_2) (@ia_3)) (And.intro (@sz_3) (@ia_4)))) (And.intro (And.intro (And.intro (@sz_4) (@ia_24)) (And.intro (@sz_24) (@ia_52))) (And.intro (And.intro (@sz_52) (@ze_52)) (And.intro (@ia_62) (And.intro (@sz_62) (@ia_29)))))) (And.intro (And.intro (And.intro (And.intro (@sz_29) (@ze_29)) (And.intro (@ia_39) (@sz_39))) (And.intro (And.intro (@ze_39) (@ia_56)) (And.intro (@sz_56) (@ze_56)))) (And.intro (And.intro (And.intro (@pb_38) (@pb_44)) (And.intro (@pb_11) (@pb_34))) (And.intro (And.intro (@pb_35) (@pb_36)) (And.intro (@pb_29) (And.intro (@pb_39) (@pb_24))))))) := And.intro (And.intro (And.intro (And.intro (And.intro (@bs_39) (@bs_52)) (And.intro (@ia_2) (@sz_2))) (And.intro (And.intro (@ze_2) (@ia_3)) (And.intro (@sz_3) (@ia_4)))) (And.intro (And.intro (And.intro (@sz_4) (@ia_24)) (And.intro (@sz_24) (@ia_52))) (And.intro (And.intro (@sz_52) (@ze_52)) (And.intro (@ia_62) (And.intro (@sz_62) (@ia_29)))))) (And.intro (And.intro (And.intro (And.intro (@sz_29) (@ze_29)) (And.intro (@ia_39) (@sz_39))) (And.intro (And.intro (@ze_39) (@ia_56)) (And.intro (@sz_56) (@ze_56)))) (And.intro (And.intro (And.intro (@pb_38) (@pb_44)) (And.intro (@pb_11) (@pb_34))) (And.intro (And.intro (@pb_35) (@pb_36)) (And.intro (@pb_29) (And.intro (@pb_39) (@pb_24))))))
theorem hok {sp st : Int} {rows : List (List (Int × Int))} (he : hullErr sp st rows = 0) {g : Nat} (hg : g = 47 ∨ g = 48 ∨ g = 49) : HOK g sp st rows (m0 rows) := by
  obtain ⟨hn, hm, hall, hsp, hst, hof⟩ := hullErr_ok he
  refine ⟨hg, hsp, hst, hn, hm, fun q hq => hof.1 _ (rAt_mem hall (by omega) hq), ?_⟩
  obtain ⟨r, hr, hp⟩ := mx_pos hof.2
  obtain ⟨row, h5, h6⟩ := List.mem_flatten.1 hr
  obtain ⟨i, hi, rfl⟩ := List.getElem_of_mem h5
  obtain ⟨k, hk, rfl⟩ := List.getElem_of_mem h6
  have hkm : k < m0 rows := by rw [← hall _ h5]; exact hk
  refine ⟨i * m0 rows + k, ik_lt hi hkm, ?_⟩
  rw [rAt_ik hi hkm (hall _ h5)]
  exact hp

/-- What a span's question answers. -/
def lowG (sp st : Int) (rows : List (List (Int × Int))) (what : Int) (high : Bool) : List Int := theEnd (gOf what) sp st rows (m0 rows) high
def spanOut (sp st : Int) (rows : List (List (Int × Int))) (what : Int) : AV :=
  if hullErr sp st rows ≠ 0 then .tup [.agg [ii 0, ii 0, ii 0, ii 0], ii (hullErr sp st rows)] else if ¬ (0 ≤ what ∧ what ≤ 2) then .tup [.agg [ii 0, ii 0, ii 0, ii 0], ii 3]
  else .tup [.agg [ii (ratN (gOf what) sp st rows (m0 rows) (lowG sp st rows what false)), ii (ratD (gOf what) sp st rows (m0 rows) (lowG sp st rows what false)), ii (ratN (gOf what) sp st rows (m0 rows) (lowG sp st rows what true)), ii (ratD (gOf what) sp st rows (m0 rows) (lowG sp st rows what true))], ii 0]

theorem spanC (sp st : Int) (a : AV) (rvs : List AV) (rows : List (List (Int × Int))) (what : Int) (h : H) (x : HullR h a rvs rows) :
    (om Try.prog KK).call (.fn 18 [.agg [ii sp, ii st, a], ii what]) h = .ok (spanOut sp st rows what) h := by
  have wf := x.wf
  obtain ⟨hac, hao⟩ := Sl.one x.sl
  refine WV_to (WV_call (fn := Try.f18) Try.func18 rfl rfl rfl rfl rfl ?_)
  simp only [argF]
  unfold spanOut
  by_cases he : hullErr sp st rows = 0
  · rw [if_neg (not_not_intro he)]
    by_cases hwh : 0 ≤ what ∧ what ≤ 2
    · rw [if_neg (not_not_intro hwh)]
      have k := hok he (gOf_or what)
      obtain ⟨hn, hm, hall, hsp, hst, hof⟩ := hullErr_ok he
      have xat := x.at (m := m0 rows) (by omega) (fun i hi => hall _ (List.getElem_mem hi))
      have hen : ∀ high l w, w ≤ h.clock + l.length → (om Try.prog KK).call (.fn 39 [.agg [ii sp, ii st, a], .fn (gOf what) [.agg [ii sp, ii st, a]] [], .bool high]) (X h l w) = .ok (.tup [.agg ((lowG sp st rows what high).map ii), .agg [ii (ratN (gOf what) sp st rows (m0 rows) (lowG sp st rows what high)), ii (ratD (gOf what) sp st rows (m0 rows) (lowG sp st rows what high))]]) (X h l w) := fun high l w hw => endC k high a rvs _ (xat.up l w hw)
      have i1 : ∀ high, InG rows (m0 rows) (lowG sp st rows what high) := fun high => (endG_ok k high _ (grid0_in k) (Nat.le_refl _)).1
      have b1 := big (i1 false).1
      have b2 := big (i1 true).1
      (repeat' (first
  | (with_reducible first | refine WC_seq ?_ | refine WC_skip ?_ | refine WC_label ?_ | refine WC_scope ?_ | refine WC_block ?_ | refine WC_ret ?_ | refine WC_exit ?_ | refine seqQ_norm ?_ | refine seqQ_ret ?_ | refine seqQ_exit ?_ | refine blkQ_norm ?_ | refine blkQ_ret ?_ | refine blkQ_here ?_ | refine gateK_yes ?_ | refine gateK_none ?_ | refine condK_tt ?_ | refine condK_ff ?_ | refine roundQ_exit ?_ | refine roundQ_ret ?_)
  | refine WC_region ?_ | refine blkQ_out rfl ?_ | refine WO_nil ?_ | refine WD_nil ?_
  | ((first | refine WD_gate rfl rfl rfl rfl rfl fun K_ hK_ => ?_ | refine WO_gate rfl rfl rfl rfl rfl fun K_ hK_ => ?_); simp only [upd_apply, asB_bool, asB_tup, ↓reduceIte, reduceCtorEq, Nat.reduceEqDiff, Bool.not_true, Bool.not_false]; refine hK_ _ ?_; clear hK_ K_)
  | refine gateK_no (by decide) ?_
  | ((try first | refine WO_op rfl rfl rfl ?_ | refine WO_op0 rfl rfl ?_ | refine WD_op rfl rfl rfl ?_ | refine WD_op0 rfl rfl ?_); (refine WV_gen fun Q_ hQ_ => ?_; simp (disch := first | omega | (simp only [List.length_cons, List.length_nil, List.length_append]; omega)) only [bb, bp, argF, ↓reduceIte, reduceCtorEq, Nat.reduceEqDiff, Nat.reduceLT, Nat.reduceLeDiff, Nat.reduceAdd, Nat.reduceMul, Nat.reduceSub, Nat.reduceBEq, Int.reduceToNat, cond_true, cond_false, eq_self, beq_self_eq_true, hao, hen, b1.len, b1.take, b1.all, b1.zero, b2.len, b2.take, b2.all, b2.zero, newPtr_X wf, load1_X wf, loadAgg_X wf, store1_X wf, writeCells_X wf, makeFunc_def, tEvM4]; first | (refine dec_split (Q := Q_) (fun hp_ => ?_) (fun hp_ => ?_) <;> first | (exfalso; omega) | (refine hQ_ _ _ ?_; clear hQ_ Q_)) | (refine dec_splitn (Q := Q_) (fun hp_ => ?_) (fun hp_ => ?_) <;> first | (exfalso; omega) | (refine hQ_ _ _ ?_; clear hQ_ Q_)) | (refine hQ_ _ _ ?_; clear hQ_ Q_) | (refine WV_eq (question sp st a rvs rows what he hwh x (by simp only [List.length_append, List.length_cons, List.length_nil]; omega)) ?_; refine hQ_ _ _ ?_; clear hQ_ Q_)))
  | (refine WC_cond fun K_ hK_ => ?_; simp (disch := omega) only [evT_tmp, upd_apply, WB_some, ↓reduceIte, reduceCtorEq, Nat.reduceEqDiff, Nat.reduceLT]; refine hK_ _ ?_; clear hK_ K_)))
      refine endQ_ret _ _ rfl (retc1 (by decide) (by decide) (by simp (disch := first | omega | (simp only [List.length_cons, List.length_nil, List.length_append]; omega)) only [bb, bp, argF, ↓reduceIte, reduceCtorEq, Nat.reduceEqDiff, Nat.reduceLT, Nat.reduceLeDiff, Nat.reduceAdd, Nat.reduceMul, Nat.reduceSub, Nat.reduceBEq, Int.reduceToNat, cond_true, cond_false, eq_self, beq_self_eq_true, loadAgg_X wf, tEvM4]; rfl)) ?_
      simp only [upd_apply, ↓reduceIte, reduceCtorEq, Nat.reduceEqDiff]
      refine WV_flat rfl (by omega) ?_
      exact ⟨rfl, rfl⟩
    · rw [if_pos hwh]
      (repeat' (first
  | (with_reducible first | refine WC_seq ?_ | refine WC_skip ?_ | refine WC_label ?_ | refine WC_scope ?_ | refine WC_block ?_ | refine WC_ret ?_ | refine WC_exit ?_ | refine seqQ_norm ?_ | refine seqQ_ret ?_ | refine seqQ_exit ?_ | refine blkQ_norm ?_ | refine blkQ_ret ?_ | refine blkQ_here ?_ | refine gateK_yes ?_ | refine gateK_none ?_ | refine condK_tt ?_ | refine condK_ff ?_ | refine roundQ_exit ?_ | refine roundQ_ret ?_)
  | refine WC_region ?_ | refine blkQ_out rfl ?_ | refine WO_nil ?_ | refine WD_nil ?_
  | ((first | refine WD_gate rfl rfl rfl rfl rfl fun K_ hK_ => ?_ | refine WO_gate rfl rfl rfl rfl rfl fun K_ hK_ => ?_); simp only [upd_apply, asB_bool, asB_tup, ↓reduceIte, reduceCtorEq, Nat.reduceEqDiff, Bool.not_true, Bool.not_false]; refine hK_ _ ?_; clear hK_ K_)
  | refine gateK_no (by decide) ?_
  | ((try first | refine WO_op rfl rfl rfl ?_ | refine WO_op0 rfl rfl ?_ | refine WD_op rfl rfl rfl ?_ | refine WD_op0 rfl rfl ?_); (refine WV_gen fun Q_ hQ_ => ?_; simp (disch := first | omega | (simp only [List.length_cons, List.length_nil, List.length_append]; omega)) only [bb, bp, argF, ↓reduceIte, reduceCtorEq, Nat.reduceEqDiff, Nat.reduceLT, Nat.reduceLeDiff, Nat.reduceAdd, Nat.reduceMul, Nat.reduceSub, Nat.reduceBEq, Int.reduceToNat, cond_true, cond_false, eq_self, beq_self_eq_true, hao, newPtr_X wf, load1_X wf, loadAgg_X wf, store1_X wf, writeCells_X wf, makeFunc_def, tEvM4]; first | (refine dec_split (Q := Q_) (fun hp_ => ?_) (fun hp_ => ?_) <;> first | (exfalso; omega) | (refine hQ_ _ _ ?_; clear hQ_ Q_)) | (refine dec_splitn (Q := Q_) (fun hp_ => ?_) (fun hp_ => ?_) <;> first | (exfalso; omega) | (refine hQ_ _ _ ?_; clear hQ_ Q_)) | (refine hQ_ _ _ ?_; clear hQ_ Q_) | (refine WV_eq (questionNot sp st a rvs rows what he hwh x (by simp only [List.length_append, List.length_cons, List.length_nil]; omega)) ?_; refine hQ_ _ _ ?_; clear hQ_ Q_)))
  | (refine WC_cond fun K_ hK_ => ?_; simp (disch := omega) only [evT_tmp, upd_apply, WB_some, ↓reduceIte, reduceCtorEq, Nat.reduceEqDiff, Nat.reduceLT]; refine hK_ _ ?_; clear hK_ K_)))
      refine endQ_ret _ _ rfl (retc1 (by decide) (by decide) (by simp (disch := first | omega | (simp only [List.length_cons, List.length_nil, List.length_append]; omega)) only [bb, bp, argF, ↓reduceIte, reduceCtorEq, Nat.reduceEqDiff, Nat.reduceLT, Nat.reduceLeDiff, Nat.reduceAdd, Nat.reduceMul, Nat.reduceSub, Nat.reduceBEq, Int.reduceToNat, cond_true, cond_false, eq_self, beq_self_eq_true, loadAgg_X wf, tEvM4]; rfl)) ?_
      simp only [upd_apply, ↓reduceIte, reduceCtorEq, Nat.reduceEqDiff]
      refine WV_flat rfl (by omega) ?_
      exact ⟨rfl, rfl⟩
  · rw [if_pos he]
    have hqb : ∀ l w, w ≤ h.clock + l.length → (om Try.prog KK).call (.fn 38 [.agg [ii sp, ii st, a], ii what]) (X h l w) = .ok (.tup [.agg [ii 0, ii 0, .nils], .nilf, ii (hullErr sp st rows)]) (X h l w) := fun l w hw => questionBad sp st a rvs rows what he _ (x.up l w hw)
    (repeat' (first
  | (with_reducible first | refine WC_seq ?_ | refine WC_skip ?_ | refine WC_label ?_ | refine WC_scope ?_ | refine WC_block ?_ | refine WC_ret ?_ | refine WC_exit ?_ | refine seqQ_norm ?_ | refine seqQ_ret ?_ | refine seqQ_exit ?_ | refine blkQ_norm ?_ | refine blkQ_ret ?_ | refine blkQ_here ?_ | refine gateK_yes ?_ | refine gateK_none ?_ | refine condK_tt ?_ | refine condK_ff ?_ | refine roundQ_exit ?_ | refine roundQ_ret ?_)
  | refine WC_region ?_ | refine blkQ_out rfl ?_ | refine WO_nil ?_ | refine WD_nil ?_
  | ((first | refine WD_gate rfl rfl rfl rfl rfl fun K_ hK_ => ?_ | refine WO_gate rfl rfl rfl rfl rfl fun K_ hK_ => ?_); simp only [upd_apply, asB_bool, asB_tup, ↓reduceIte, reduceCtorEq, Nat.reduceEqDiff, Bool.not_true, Bool.not_false]; refine hK_ _ ?_; clear hK_ K_)
  | refine gateK_no (by decide) ?_
  | ((try first | refine WO_op rfl rfl rfl ?_ | refine WO_op0 rfl rfl ?_ | refine WD_op rfl rfl rfl ?_ | refine WD_op0 rfl rfl ?_); (refine WV_gen fun Q_ hQ_ => ?_; simp (disch := first | omega | (simp only [List.length_cons, List.length_nil, List.length_append]; omega)) only [bb, bp, argF, ↓reduceIte, reduceCtorEq, Nat.reduceEqDiff, Nat.reduceLT, Nat.reduceLeDiff, Nat.reduceAdd, Nat.reduceMul, Nat.reduceSub, Nat.reduceBEq, Int.reduceToNat, cond_true, cond_false, eq_self, beq_self_eq_true, hqb, hao, newPtr_X wf, load1_X wf, loadAgg_X wf, store1_X wf, writeCells_X wf, makeFunc_def, tEvM4]; first | (refine dec_split (Q := Q_) (fun hp_ => ?_) (fun hp_ => ?_) <;> first | (exfalso; omega) | (refine hQ_ _ _ ?_; clear hQ_ Q_)) | (refine dec_splitn (Q := Q_) (fun hp_ => ?_) (fun hp_ => ?_) <;> first | (exfalso; omega) | (refine hQ_ _ _ ?_; clear hQ_ Q_)) | (refine hQ_ _ _ ?_; clear hQ_ Q_)))
  | (refine WC_cond fun K_ hK_ => ?_; simp (disch := omega) only [evT_tmp, upd_apply, WB_some, ↓reduceIte, reduceCtorEq, Nat.reduceEqDiff, Nat.reduceLT]; refine hK_ _ ?_; clear hK_ K_)))
    refine endQ_ret _ _ rfl (retc1 (by decide) (by decide) (by simp (disch := first | omega | (simp only [List.length_cons, List.length_nil, List.length_append]; omega)) only [bb, bp, argF, ↓reduceIte, reduceCtorEq, Nat.reduceEqDiff, Nat.reduceLT, Nat.reduceLeDiff, Nat.reduceAdd, Nat.reduceMul, Nat.reduceSub, Nat.reduceBEq, Int.reduceToNat, cond_true, cond_false, eq_self, beq_self_eq_true, loadAgg_X wf, tEvM4]; rfl)) ?_
    simp only [upd_apply, ↓reduceIte, reduceCtorEq, Nat.reduceEqDiff]
    refine WV_flat rfl (by omega) ?_
    exact ⟨rfl, rfl⟩

def lowV (c : Nat) (rows : List (List (Int × Int))) : List Int := gB (pickY c rows (m0 rows)) (m0 rows) (rows.length * m0 rows)
def volS (sp st : Int) (rows : List (List (Int × Int))) (gs : List Int) : Int := sp * st * psum (vterm rows.length (m0 rows) gs) (rows.length * m0 rows)
noncomputable def volsOut (sp st : Int) (rows : List (List (Int × Int))) : AV :=
  if hullErr sp st rows ≠ 0 then .tup [.agg [ii 0, ii 0, ii 0, ii 0], ii (hullErr sp st rows)]
  else .tup [.agg (AV.cells (frac (volS sp st rows (lowV 35 rows)) 2) ++ AV.cells (frac (volS sp st rows (lowV 36 rows)) 2)), ii 0]

theorem volumesC (sp st : Int) (a : AV) (rvs : List AV) (rows : List (List (Int × Int))) (h : H) (x : HullR h a rvs rows) :
    (om Try.prog KK).call (.fn 16 [.agg [ii sp, ii st, a]]) h = .ok (volsOut sp st rows) h := by
  have wf := x.wf
  obtain ⟨hac, hao⟩ := Sl.one x.sl
  have hch : ∀ l w, w ≤ h.clock + l.length → (om Try.prog KK).call (.fn 11 [.agg [ii sp, ii st, a]]) (X h l w) = .ok (ii (hullErr sp st rows)) (X h l w) := fun l w hw => checkHull sp st a rvs rows _ (x.up l w hw)
  refine WV_to (WV_call (fn := Try.f16) Try.func16 rfl rfl rfl rfl rfl ?_)
  simp only [argF]
  unfold volsOut
  by_cases he : hullErr sp st rows = 0
  · rw [if_neg (not_not_intro he)]
    have k := hok he (.inl rfl)
    obtain ⟨hn, hm, hall, hsp, hst, hof⟩ := hullErr_ok he
    have xat := x.at (m := m0 rows) (by omega) (fun i hi => hall _ (List.getElem_mem hi))
    have hbu : ∀ c, c = 54 ∨ c = 35 ∨ c = 36 → ∀ l w, w ≤ h.clock + l.length → (om Try.prog KK).call (.fn 34 [.agg [ii sp, ii st, a], .fn c [] []]) (X h l w) = .ok (.agg ((lowV c rows).map ii)) (X h l w) := fun c hc l w hw => built hc sp st a rvs rows (m0 rows) hn hm _ (xat.up l w hw)
    have hb1 := hbu 35 (.inr (.inl rfl))
    have hb2 := hbu 36 (.inr (.inr rfl))
    have iy : ∀ c, ∀ q, q < rows.length * m0 rows → 0 ≤ yat (lowV c rows) (m0 rows) q ∧ yat (lowV c rows) (m0 rows) q ≤ 500 := fun c q hq => by
      unfold lowV
      rw [gB_at _ hn.2 hm.2 _ (Nat.le_refl _) q hq]
      have := k.hoff q hq
      unfold isOff at this
      unfold pickY pickOf
      split <;> omega
    have hvo : ∀ c l w, w ≤ h.clock + l.length → (om Try.prog KK).call (.fn 24 [.agg [ii sp, ii st, a], .agg ((lowV c rows).map ii)]) (X h l w) = .ok (frac (volS sp st rows (lowV c rows)) 2) (X h l w) := fun c l w hw => volume sp st hsp hst a rvs rows (m0 rows) hn hm _ (gB_length _ _ _) (iy c) _ (xat.up l w hw)
    have b1 : Big (lowV 35 rows) := big (gB_length _ _ _)
    have b2 : Big (lowV 36 rows) := big (gB_length _ _ _)
    (repeat' (first
  | (with_reducible first | refine WC_seq ?_ | refine WC_skip ?_ | refine WC_label ?_ | refine WC_scope ?_ | refine WC_block ?_ | refine WC_ret ?_ | refine WC_exit ?_ | refine seqQ_norm ?_ | refine seqQ_ret ?_ | refine seqQ_exit ?_ | refine blkQ_norm ?_ | refine blkQ_ret ?_ | refine blkQ_here ?_ | refine gateK_yes ?_ | refine gateK_none ?_ | refine condK_tt ?_ | refine condK_ff ?_ | refine roundQ_exit ?_ | refine roundQ_ret ?_)
  | refine WC_region ?_ | refine blkQ_out rfl ?_ | refine WO_nil ?_ | refine WD_nil ?_
  | ((first | refine WD_gate rfl rfl rfl rfl rfl fun K_ hK_ => ?_ | refine WO_gate rfl rfl rfl rfl rfl fun K_ hK_ => ?_); simp only [upd_apply, asB_bool, asB_tup, ↓reduceIte, reduceCtorEq, Nat.reduceEqDiff, Bool.not_true, Bool.not_false]; refine hK_ _ ?_; clear hK_ K_)
  | refine gateK_no (by decide) ?_
  | ((try first | refine WO_op rfl rfl rfl ?_ | refine WO_op0 rfl rfl ?_ | refine WD_op rfl rfl rfl ?_ | refine WD_op0 rfl rfl ?_); (refine WV_gen fun Q_ hQ_ => ?_; simp (disch := first | omega | (simp only [List.length_cons, List.length_nil, List.length_append]; omega)) only [bb, bp, argF, ↓reduceIte, reduceCtorEq, Nat.reduceEqDiff, Nat.reduceLT, Nat.reduceLeDiff, Nat.reduceAdd, Nat.reduceMul, Nat.reduceSub, Nat.reduceBEq, Int.reduceToNat, cond_true, cond_false, eq_self, beq_self_eq_true, hch, he, hb1, hb2, hao, b1.len, b1.take, b1.all, b1.zero, b2.len, b2.take, b2.all, b2.zero, newPtr_X wf, load1_X wf, loadAgg_X wf, store1_X wf, writeCells_X wf, makeFunc_def, tEvM4]; first | (refine dec_split (Q := Q_) (fun hp_ => ?_) (fun hp_ => ?_) <;> first | (exfalso; omega) | (refine hQ_ _ _ ?_; clear hQ_ Q_)) | (refine dec_splitn (Q := Q_) (fun hp_ => ?_) (fun hp_ => ?_) <;> first | (exfalso; omega) | (refine hQ_ _ _ ?_; clear hQ_ Q_)) | (refine hQ_ _ _ ?_; clear hQ_ Q_)))
  | (refine WC_cond fun K_ hK_ => ?_; simp (disch := omega) only [evT_tmp, upd_apply, WB_some, ↓reduceIte, reduceCtorEq, Nat.reduceEqDiff, Nat.reduceLT]; refine hK_ _ ?_; clear hK_ K_)))
    refine WC_drawnB [.no, .no, .no, .no, .no, .full, .full, .full, .full] (by kernel_rfl) ?_
    (repeat' (first
  | (with_reducible first | refine WC_seq ?_ | refine WC_skip ?_ | refine WC_label ?_ | refine WC_scope ?_ | refine WC_block ?_ | refine WC_ret ?_ | refine WC_exit ?_ | refine seqQ_norm ?_ | refine seqQ_ret ?_ | refine seqQ_exit ?_ | refine blkQ_norm ?_ | refine blkQ_ret ?_ | refine blkQ_here ?_ | refine gateK_yes ?_ | refine gateK_none ?_ | refine condK_tt ?_ | refine condK_ff ?_ | refine roundQ_exit ?_ | refine roundQ_ret ?_)
  | refine WC_region ?_ | refine blkQ_out rfl ?_ | refine WO_nil ?_ | refine WD_nil ?_
  | ((first | refine WD_gate rfl rfl rfl rfl rfl fun K_ hK_ => ?_ | refine WO_gate rfl rfl rfl rfl rfl fun K_ hK_ => ?_); simp only [upd_apply, asB_bool, asB_tup, ↓reduceIte, reduceCtorEq, Nat.reduceEqDiff, Bool.not_true, Bool.not_false]; refine hK_ _ ?_; clear hK_ K_)
  | refine gateK_no (by decide) ?_
  | ((try first | refine WO_op rfl rfl rfl ?_ | refine WO_op0 rfl rfl ?_ | refine WD_op rfl rfl rfl ?_ | refine WD_op0 rfl rfl ?_); (refine WV_gen fun Q_ hQ_ => ?_; simp (disch := first | omega | (simp only [List.length_cons, List.length_nil, List.length_append]; omega)) only [bb, bp, argF, ↓reduceIte, reduceCtorEq, Nat.reduceEqDiff, Nat.reduceLT, Nat.reduceLeDiff, Nat.reduceAdd, Nat.reduceMul, Nat.reduceSub, Nat.reduceBEq, Int.reduceToNat, cond_true, cond_false, eq_self, beq_self_eq_true, hvo, frac, b1.len, b1.take, b2.len, b2.take, newPtr_X wf, load1_X wf, loadAgg_X wf, store1_X wf, writeCells_X wf, makeFunc_def, tEvM4]; first | (refine dec_split (Q := Q_) (fun hp_ => ?_) (fun hp_ => ?_) <;> first | (exfalso; omega) | (refine hQ_ _ _ ?_; clear hQ_ Q_)) | (refine dec_splitn (Q := Q_) (fun hp_ => ?_) (fun hp_ => ?_) <;> first | (exfalso; omega) | (refine hQ_ _ _ ?_; clear hQ_ Q_)) | (refine hQ_ _ _ ?_; clear hQ_ Q_)))
  | (refine WC_cond fun K_ hK_ => ?_; simp (disch := omega) only [evT_tmp, upd_apply, WB_some, ↓reduceIte, reduceCtorEq, Nat.reduceEqDiff, Nat.reduceLT]; refine hK_ _ ?_; clear hK_ K_)))
    refine endQ_ret _ _ rfl (retc1 (by decide) (by decide) (by simp (disch := first | omega | (simp only [List.length_cons, List.length_nil, List.length_append]; omega)) only [bb, bp, argF, ↓reduceIte, reduceCtorEq, Nat.reduceEqDiff, Nat.reduceLT, Nat.reduceLeDiff, Nat.reduceAdd, Nat.reduceMul, Nat.reduceSub, Nat.reduceBEq, Int.reduceToNat, cond_true, cond_false, eq_self, beq_self_eq_true, loadAgg_X wf, tEvM4]; rfl)) ?_
    simp only [upd_apply, ↓reduceIte, reduceCtorEq, Nat.reduceEqDiff]
    refine WV_flat rfl (by omega) ?_
    exact ⟨rfl, rfl⟩
  · rw [if_pos he]
    (repeat' (first
  | (with_reducible first | refine WC_seq ?_ | refine WC_skip ?_ | refine WC_label ?_ | refine WC_scope ?_ | refine WC_block ?_ | refine WC_ret ?_ | refine WC_exit ?_ | refine seqQ_norm ?_ | refine seqQ_ret ?_ | refine seqQ_exit ?_ | refine blkQ_norm ?_ | refine blkQ_ret ?_ | refine blkQ_here ?_ | refine gateK_yes ?_ | refine gateK_none ?_ | refine condK_tt ?_ | refine condK_ff ?_ | refine roundQ_exit ?_ | refine roundQ_ret ?_)
  | refine WC_region ?_ | refine blkQ_out rfl ?_ | refine WO_nil ?_ | refine WD_nil ?_
  | ((first | refine WD_gate rfl rfl rfl rfl rfl fun K_ hK_ => ?_ | refine WO_gate rfl rfl rfl rfl rfl fun K_ hK_ => ?_); simp only [upd_apply, asB_bool, asB_tup, ↓reduceIte, reduceCtorEq, Nat.reduceEqDiff, Bool.not_true, Bool.not_false]; refine hK_ _ ?_; clear hK_ K_)
  | refine gateK_no (by decide) ?_
  | ((try first | refine WO_op rfl rfl rfl ?_ | refine WO_op0 rfl rfl ?_ | refine WD_op rfl rfl rfl ?_ | refine WD_op0 rfl rfl ?_); (refine WV_gen fun Q_ hQ_ => ?_; simp (disch := first | omega | (simp only [List.length_cons, List.length_nil, List.length_append]; omega)) only [bb, bp, argF, ↓reduceIte, reduceCtorEq, Nat.reduceEqDiff, Nat.reduceLT, Nat.reduceLeDiff, Nat.reduceAdd, Nat.reduceMul, Nat.reduceSub, Nat.reduceBEq, Int.reduceToNat, cond_true, cond_false, eq_self, beq_self_eq_true, hch, hao, newPtr_X wf, load1_X wf, loadAgg_X wf, store1_X wf, writeCells_X wf, makeFunc_def, tEvM4]; first | (refine dec_split (Q := Q_) (fun hp_ => ?_) (fun hp_ => ?_) <;> first | (exfalso; omega) | (refine hQ_ _ _ ?_; clear hQ_ Q_)) | (refine dec_splitn (Q := Q_) (fun hp_ => ?_) (fun hp_ => ?_) <;> first | (exfalso; omega) | (refine hQ_ _ _ ?_; clear hQ_ Q_)) | (refine hQ_ _ _ ?_; clear hQ_ Q_)))
  | (refine WC_cond fun K_ hK_ => ?_; simp (disch := omega) only [evT_tmp, upd_apply, WB_some, ↓reduceIte, reduceCtorEq, Nat.reduceEqDiff, Nat.reduceLT]; refine hK_ _ ?_; clear hK_ K_)))
    refine endQ_ret _ _ rfl (retc1 (by decide) (by decide) (by simp (disch := first | omega | (simp only [List.length_cons, List.length_nil, List.length_append]; omega)) only [bb, bp, argF, ↓reduceIte, reduceCtorEq, Nat.reduceEqDiff, Nat.reduceLT, Nat.reduceLeDiff, Nat.reduceAdd, Nat.reduceMul, Nat.reduceSub, Nat.reduceBEq, Int.reduceToNat, cond_true, cond_false, eq_self, beq_self_eq_true, loadAgg_X wf, tEvM4]; rfl)) ?_
    simp only [upd_apply, ↓reduceIte, reduceCtorEq, Nat.reduceEqDiff]
    refine WV_flat rfl (by omega) ?_
    exact ⟨rfl, rfl⟩
end Go.Proofs.Ytghondkiondeaab
end

/- EvM5 -/
section
/-
  LAYER 2: the offsets of a grid, as lists.
-/
namespace Go.Proofs.Ytghondkiondeaab
open Go.Ev
set_option maxRecDepth 100000
set_option linter.unusedSimpArgs false
set_option linter.unusedVariables false
set_option maxHeartbeats 2000000

theorem tEvM5 : type_of% (And.intro (And.intro (And.intro (And.intro (@ia_2) (And.intro (@sz_2) (@ze_2))) (And.intro (@ia_3) (And.intro (@sz_3) (@ia_24)))) (And.intro (And.intro (@sz_24) (And.intro (@ia_22) (@sz_22))) (And.intro (@ia_52) (And.intro (@sz_52) (@ze_52))))) (And.intro (And.intro (And.intro (@ia_56) (And.intro (@sz_56) (@ia_25))) (And.intro (@sz_25) (And.intro (@ia_47) (@sz_47)))) (And.intro (And.intro (@ik_25) (And.intro (@ik_47) (@ik_56))) (And.intro (And.intro (@fo_52_0) (@fo_24_2)) (And.intro (@pb_53) (@pb_42)))))) := And.intro (And.intro (And.intro (And.intro (@ia_2) (And.intro (@sz_2) (@ze_2))) (And.intro (@ia_3) (And.intro (@sz_3) (@ia_24)))) (And.intro (And.intro (@sz_24) (And.intro (@ia_22) (@sz_22))) (And.intro (@ia_52) (And.intro (@sz_52) (@ze_52))))) (And.intro (And.intro (And.intro (@ia_56) (And.intro (@sz_56) (@ia_25))) (And.intro (@sz_25) (And.intro (@ia_47) (@sz_47)))) (And.intro (And.intro (@ik_25) (And.intro (@ik_47) (@ik_56))) (And.intro (And.intro (@fo_52_0) (@fo_24_2)) (And.intro (@pb_53) (@pb_42)))))
/-- A station's offsets in a grid. -/
def gRow (gs : List Int) (m i : Nat) : List Int := (gs.drop (i * 6)).take m
noncomputable def rowO (gs : List Int) (m : Nat) (j : Nat) : AO := .cells (mkCells ((gRow gs m j).map ii)) 2
noncomputable def rowV (h : H) (m j : Nat) : AV := .sl (nx h (j + 3)) 0 m (some m) 1
noncomputable def outer (h : H) (n m i : Nat) : List AV := (List.range n).map fun j => if j < i then rowV h m j else .nils
theorem outer_length (h : H) (n m i : Nat) : (outer h n m i).length = n := by unfold outer; simp
theorem outer_zero (h : H) (n m : Nat) : outer h n m 0 = List.replicate n .nils := by
  unfold outer
  simp only [Nat.not_lt_zero, if_false]
  exact List.map_const' .. |>.trans (by simp)
theorem outer_set (h : H) {n m i : Nat} (hi : i < n) : (outer h n m i).set i (rowV h m i) = outer h n m (i + 1) := by
  unfold outer
  apply List.ext_getElem?
  intro q
  by_cases hq : q < n
  · by_cases he : q = i
    · subst he
      rw [List.getElem?_set_self (by simp; omega), List.getElem?_map, List.getElem?_range hq]
      simp
    · rw [List.getElem?_set_ne (Ne.symm he), List.getElem?_map, List.getElem?_map, List.getElem?_range hq]
      simp only [Option.map_some]
      by_cases h1 : q < i
      · rw [if_pos h1, if_pos (by omega)]
      · rw [if_neg h1, if_neg (by omega)]
  · rw [List.getElem?_eq_none (by simp; omega), List.getElem?_eq_none (by simp; omega)]
theorem gRow_length {gs : List Int} (hl : gs.length = 60) {m i : Nat} (hi : i < 10) (hm : m ≤ 6) : (gRow gs m i).length = m := by
  unfold gRow; simp [hl]; omega

theorem rowsC (sp st : Int) (a : AV) (rvs : List AV) (rows : List (List (Int × Int))) (m : Nat) (hn : 2 ≤ rows.length ∧ rows.length ≤ 10) (hm : 2 ≤ m ∧ m ≤ 6) (gs : List Int) (hl : gs.length = 60) (h : H) (x : HullAt h a rvs rows m) :
    (om Try.prog KK).call (.fn 42 [.agg [ii sp, ii st, a], .agg (gs.map ii)]) h = .ok (.sl (nx h 2) 0 rows.length (some rows.length) 1) (X h (.cells (mkCells [ii sp, ii st, a]) 52 :: .cells (mkCells (gs.map ii)) 56 :: .cells (mkCells (outer h rows.length m rows.length)) 47 :: (List.range rows.length).map (rowO gs m)) h.w) := by
  have wf := x.wf
  refine WV_to (WV_call (fn := Try.f42) Try.func42 rfl rfl rfl rfl rfl ?_)
  simp only [argF]
  have hlen : ∀ h', lenE Try.prog 22 a h' = some (ii (rows.length : Int)) := fun h' => x.sl.len un_22
  have hli := linesAt x (by omega) sp st
  have hmk : ∀ l w, makeSliceE Try.prog 25 (ii (rows.length : Int)) (ii (rows.length : Int)) (X h l w) = _ := fun l w => makeSlice_X wf un_25 sz_47 el_47 (by omega) (by decide) rfl
  have hmr : ∀ l w, makeSliceE Try.prog 47 (ii (m : Int)) (ii (m : Int)) (X h l w) = _ := fun l w => makeSlice_X wf un_47 sz_2 el_2 (by omega) (by decide) rfl
  have hlo : ∀ h' id off cap esz, lenE Try.prog 25 (.sl id off rows.length cap esz) h' = some (ii (rows.length : Int)) := fun h' id off cap esz => by unfold lenE; rw [un_25]; rfl
  (repeat' (first
  | (with_reducible first | refine WC_seq ?_ | refine WC_skip ?_ | refine WC_label ?_ | refine WC_scope ?_ | refine WC_block ?_ | refine WC_ret ?_ | refine WC_exit ?_ | refine seqQ_norm ?_ | refine seqQ_ret ?_ | refine seqQ_exit ?_ | refine blkQ_norm ?_ | refine blkQ_ret ?_ | refine blkQ_here ?_ | refine gateK_yes ?_ | refine gateK_none ?_ | refine condK_tt ?_ | refine condK_ff ?_ | refine roundQ_exit ?_ | refine roundQ_ret ?_)
  | refine WC_region ?_ | refine blkQ_out rfl ?_ | refine WO_nil ?_ | refine WD_nil ?_
  | ((first | refine WD_gate rfl rfl rfl rfl rfl fun K_ hK_ => ?_ | refine WO_gate rfl rfl rfl rfl rfl fun K_ hK_ => ?_); simp only [upd_apply, asB_bool, asB_tup, ↓reduceIte, reduceCtorEq, Nat.reduceEqDiff, Bool.not_true, Bool.not_false]; refine hK_ _ ?_; clear hK_ K_)
  | refine gateK_no (by decide) ?_
  | ((try first | refine WO_op rfl rfl rfl ?_ | refine WO_op0 rfl rfl ?_ | refine WD_op rfl rfl rfl ?_ | refine WD_op0 rfl rfl ?_); (refine WV_gen fun Q_ hQ_ => ?_; simp (disch := first | omega | (simp only [List.length_cons, List.length_nil, List.length_append]; omega)) only [bb, bp, argF, ↓reduceIte, reduceCtorEq, Nat.reduceEqDiff, Nat.reduceLT, Nat.reduceLeDiff, Nat.reduceAdd, Nat.reduceMul, Nat.reduceSub, Nat.reduceBEq, Int.reduceToNat, cond_true, cond_false, eq_self, beq_self_eq_true, hlen, hmk, hlo, newPtr_X wf, load1_X wf, loadAgg_X wf, store1_X wf, writeCells_X wf, makeFunc_def, tEvM5, sliceE_arr un_54 sz_2, reszT_ptr, indexAddrE_def (P := Try.prog) (t := 56), indexAddrE_def (P := Try.prog) (t := 25)]; first | (refine dec_split (Q := Q_) (fun hp_ => ?_) (fun hp_ => ?_) <;> first | (exfalso; omega) | (refine hQ_ _ _ ?_; clear hQ_ Q_)) | (refine dec_splitn (Q := Q_) (fun hp_ => ?_) (fun hp_ => ?_) <;> first | (exfalso; omega) | (refine hQ_ _ _ ?_; clear hQ_ Q_)) | (refine hQ_ _ _ ?_; clear hQ_ Q_)))
  | (refine WC_cond fun K_ hK_ => ?_; simp (disch := omega) only [evT_tmp, upd_apply, WB_some, ↓reduceIte, reduceCtorEq, Nat.reduceEqDiff, Nat.reduceLT]; refine hK_ _ ?_; clear hK_ K_)))
  refine WC_loop (fun (i : Nat) f d h' => i ≤ rows.length ∧ f 2 = .ptr (nx h 0) 0 ∧ f 3 = .ptr (nx h 1) 0 ∧ f 5 = .sl (nx h 2) 0 rows.length (some rows.length) 1 ∧ f 13 = ii (rows.length : Int) ∧ f 14 = ii (i : Int) ∧ d = [] ∧
    h' = X h (.cells (mkCells [ii sp, ii st, a]) 52 :: .cells (mkCells (gs.map ii)) 56 :: .cells (mkCells (outer h rows.length m i)) 47 :: (List.range i).map (rowO gs m)) h.clock) (fun i => rows.length - i) ?_ (rows.length + 1) 0 (by omega) ?_
  · rintro i f d h' ⟨hi, g2, g3, g5, g13, g14, rfl, rfl⟩
    by_cases hlt : i < rows.length
    · have hol := outer_length h rows.length m i
      have hrl : ((List.range i).map (rowO gs m)).length = i := by simp
      have hset : (outer h rows.length m i).set i (.sl (nx h (i + 1 + 1 + 1)) 0 m (some m) 1) = outer h rows.length m (i + 1) := outer_set h hlt
      have hget : (outer h rows.length m (i + 1))[i]? = some (.sl (nx h (i + 1 + 1 + 1)) 0 m (some m) 1) := by
        rw [← hset, List.getElem?_set_self (by rw [hol]; exact hlt)]
      have i10 : i < 10 := by omega
      have hcp : ∀ w, copyE Try.prog 47 (.sl (nx h (i + 1 + 1 + 1)) 0 m (some m) 1) (reszT Try.prog 47 (.sl (nx h 1) (i * 6) 6 (some 6) 1)) (X h (.cells (mkCells [ii sp, ii st, a]) 52 :: .cells (mkCells (gs.map ii)) 56 :: .cells (mkCells (outer h rows.length m (i + 1))) 47 :: ((List.range i).map (rowO gs m) ++ [.cells (mkCells (List.replicate m (ii 0))) 2])) w)
          = .ok (ii (m : Int)) (X h (.cells (mkCells [ii sp, ii st, a]) 52 :: .cells (mkCells (gs.map ii)) 56 :: .cells (mkCells (outer h rows.length m (i + 1))) 47 :: ((List.range i).map (rowO gs m) ++ [rowO gs m i])) (min (h.clock + (i + 3)) w)) := fun w => by
        rw [reszT_some un_47 sz_2]
        have hsrc : srcCells (X h (.cells (mkCells [ii sp, ii st, a]) 52 :: .cells (mkCells (gs.map ii)) 56 :: .cells (mkCells (outer h rows.length m (i + 1))) 47 :: ((List.range i).map (rowO gs m) ++ [.cells (mkCells (List.replicate m (ii 0))) 2])) w) 1 (.sl (nx h 1) (i * 6) 6 (some 6) 1) = some (6, ((gs.map ii).drop (i * 6)).take 6) :=
          src_sl (by rw [getObj_new wf]; rfl) rfl (readM_cells _ _ _ (by rw [List.length_map, hl]; omega)) rfl
        have hcl : (((gs.map ii).drop (i * 6)).take 6).length = 6 * 1 := by simp [hl]; omega
        have hk : (.cells (mkCells [ii sp, ii st, a]) 52 :: .cells (mkCells (gs.map ii)) 56 :: .cells (mkCells (outer h rows.length m (i + 1))) 47 :: ((List.range i).map (rowO gs m) ++ [.cells (mkCells (List.replicate m (ii 0))) 2]) : List AO)[i + 3]? = some (.cells (mkCells (List.replicate m (ii 0))) 2) := by
          simp only [List.getElem?_cons_succ]
          rw [List.getElem?_append_right (by rw [hrl]; exact Nat.le_refl _), hrl, Nat.sub_self]
          rfl
        have hset2 : ∀ o : AO, (.cells (mkCells [ii sp, ii st, a]) 52 :: .cells (mkCells (gs.map ii)) 56 :: .cells (mkCells (outer h rows.length m (i + 1))) 47 :: ((List.range i).map (rowO gs m) ++ [.cells (mkCells (List.replicate m (ii 0))) 2]) : List AO).set (i + 3) o = .cells (mkCells [ii sp, ii st, a]) 52 :: .cells (mkCells (gs.map ii)) 56 :: .cells (mkCells (outer h rows.length m (i + 1))) 47 :: ((List.range i).map (rowO gs m) ++ [o]) := fun o => by
          simp only [List.set_cons_succ]
          rw [List.set_append_right _ _ (by rw [hrl]; exact Nat.le_refl _), hrl, Nat.sub_self]
          rfl
        have hrow : (((gs.map ii).drop (i * 6)).take 6).take (m * 1) = (gRow gs m i).map ii := by
          unfold gRow
          rw [Nat.mul_one, List.take_take, Nat.min_eq_left hm.2, List.map_take, List.map_drop]
        have h1 : allOne ((gRow gs m i).map ii) = true := allOne_map (fun _ => rfl) _
        have hrr : ((gRow gs m i).map ii).length = m := by rw [List.length_map, gRow_length hl i10 hm.2]
        rcases Nat.lt_or_ge m 6 with h6 | h6
        · have := copyE_min (P := Try.prog) wf (t := 47) (e := 2) (ee := 2) (size := 1) (n := 6) (len := m) (off := 0) (esz := 1) (k := i + 3) (w := w) (cap := some m) (old := List.replicate m (ii 0)) un_47 sz_2 hsrc (by omega) h6 hcl hk (by simp) (by rw [hrow]; exact h1)
          rw [hrow, hset2, splice_all (by rw [hrr]; simp)] at this
          exact this
        · have e6 : m = 6 := by omega
          have hrow' : ((gs.map ii).drop (i * 6)).take 6 = (gRow gs m i).map ii := by
            rw [← hrow, Nat.mul_one, e6, List.take_take]; rfl
          rw [hrow'] at hsrc
          have := copyE_X (P := Try.prog) wf (t := 47) (e := 2) (ee := 2) (size := 1) (n := 6) (len := m) (off := 0) (esz := 1) (k := i + 3) (w := w) (cap := some m) (old := List.replicate m (ii 0)) un_47 sz_2 hsrc (by omega) (by omega) (by rw [hrr, e6]) hk (by rw [hrr]; simp) h1
          rw [hset2, splice_all (by rw [hrr]; simp)] at this
          rw [show ((6 : Nat) : Int) = (m : Int) by omega] at this
          exact this
      (repeat' (first
  | (with_reducible first | refine WC_seq ?_ | refine WC_skip ?_ | refine WC_label ?_ | refine WC_scope ?_ | refine WC_block ?_ | refine WC_ret ?_ | refine WC_exit ?_ | refine seqQ_norm ?_ | refine seqQ_ret ?_ | refine seqQ_exit ?_ | refine blkQ_norm ?_ | refine blkQ_ret ?_ | refine blkQ_here ?_ | refine gateK_yes ?_ | refine gateK_none ?_ | refine condK_tt ?_ | refine condK_ff ?_ | refine roundQ_exit ?_ | refine roundQ_ret ?_)
  | refine WC_region ?_ | refine blkQ_out rfl ?_ | refine WO_nil ?_ | refine WD_nil ?_
  | ((first | refine WD_gate rfl rfl rfl rfl rfl fun K_ hK_ => ?_ | refine WO_gate rfl rfl rfl rfl rfl fun K_ hK_ => ?_); simp only [upd_apply, asB_bool, asB_tup, ↓reduceIte, reduceCtorEq, Nat.reduceEqDiff, Bool.not_true, Bool.not_false]; refine hK_ _ ?_; clear hK_ K_)
  | refine gateK_no (by decide) ?_
  | ((try first | refine WO_op rfl rfl rfl ?_ | refine WO_op0 rfl rfl ?_ | refine WD_op rfl rfl rfl ?_ | refine WD_op0 rfl rfl ?_); (refine WV_gen fun Q_ hQ_ => ?_; simp (disch := first | omega | (simp only [List.length_cons, List.length_nil, List.length_append]; omega)) only [bb, bp, argF, ↓reduceIte, reduceCtorEq, Nat.reduceEqDiff, Nat.reduceLT, Nat.reduceLeDiff, Nat.reduceAdd, Nat.reduceMul, Nat.reduceSub, Nat.reduceBEq, Int.reduceToNat, cond_true, cond_false, eq_self, beq_self_eq_true, g2, g3, g5, g13, g14, hli, hmr, hol, hlt, hrl, hset, List.length_map, List.length_range, newPtr_X wf, load1_X wf, loadAgg_X wf, store1_X wf, writeCells_X wf, makeFunc_def, tEvM5, sliceE_arr un_54 sz_2, reszT_ptr, indexAddrE_def (P := Try.prog) (t := 56), indexAddrE_def (P := Try.prog) (t := 25)]; first | (refine dec_split (Q := Q_) (fun hp_ => ?_) (fun hp_ => ?_) <;> first | (exfalso; omega) | (refine hQ_ _ _ ?_; clear hQ_ Q_)) | (refine dec_splitn (Q := Q_) (fun hp_ => ?_) (fun hp_ => ?_) <;> first | (exfalso; omega) | (refine hQ_ _ _ ?_; clear hQ_ Q_)) | (refine hQ_ _ _ ?_; clear hQ_ Q_)))
  | (refine WC_cond fun K_ hK_ => ?_; simp (disch := omega) only [evT_tmp, upd_apply, WB_some, ↓reduceIte, reduceCtorEq, Nat.reduceEqDiff, Nat.reduceLT]; refine hK_ _ ?_; clear hK_ K_)))
      refine WC_drawnB [.full, .full, .full, .full, .no, .no, .no, .full] (by kernel_rfl) ?_
      (repeat' (first
  | (with_reducible first | refine WC_seq ?_ | refine WC_skip ?_ | refine WC_label ?_ | refine WC_scope ?_ | refine WC_block ?_ | refine WC_ret ?_ | refine WC_exit ?_ | refine seqQ_norm ?_ | refine seqQ_ret ?_ | refine seqQ_exit ?_ | refine blkQ_norm ?_ | refine blkQ_ret ?_ | refine blkQ_here ?_ | refine gateK_yes ?_ | refine gateK_none ?_ | refine condK_tt ?_ | refine condK_ff ?_ | refine roundQ_exit ?_ | refine roundQ_ret ?_)
  | refine WC_region ?_ | refine blkQ_out rfl ?_ | refine WO_nil ?_ | refine WD_nil ?_
  | ((first | refine WD_gate rfl rfl rfl rfl rfl fun K_ hK_ => ?_ | refine WO_gate rfl rfl rfl rfl rfl fun K_ hK_ => ?_); simp only [upd_apply, asB_bool, asB_tup, ↓reduceIte, reduceCtorEq, Nat.reduceEqDiff, Bool.not_true, Bool.not_false]; refine hK_ _ ?_; clear hK_ K_)
  | refine gateK_no (by decide) ?_
  | ((try first | refine WO_op rfl rfl rfl ?_ | refine WO_op0 rfl rfl ?_ | refine WD_op rfl rfl rfl ?_ | refine WD_op0 rfl rfl ?_); (refine WV_gen fun Q_ hQ_ => ?_; simp (disch := first | omega | (simp only [List.length_cons, List.length_nil, List.length_append]; omega)) only [bb, bp, argF, ↓reduceIte, reduceCtorEq, Nat.reduceEqDiff, Nat.reduceLT, Nat.reduceLeDiff, Nat.reduceAdd, Nat.reduceMul, Nat.reduceSub, Nat.reduceBEq, Int.reduceToNat, cond_true, cond_false, eq_self, beq_self_eq_true, g2, g3, g5, g13, g14, hget, i10, hcp, newPtr_X wf, load1_X wf, loadAgg_X wf, store1_X wf, writeCells_X wf, makeFunc_def, tEvM5, sliceE_arr un_54 sz_2, reszT_ptr, indexAddrE_def (P := Try.prog) (t := 56), indexAddrE_def (P := Try.prog) (t := 25)]; first | (refine dec_split (Q := Q_) (fun hp_ => ?_) (fun hp_ => ?_) <;> first | (exfalso; omega) | (refine hQ_ _ _ ?_; clear hQ_ Q_)) | (refine dec_splitn (Q := Q_) (fun hp_ => ?_) (fun hp_ => ?_) <;> first | (exfalso; omega) | (refine hQ_ _ _ ?_; clear hQ_ Q_)) | (refine hQ_ _ _ ?_; clear hQ_ Q_)))
  | (refine WC_cond fun K_ hK_ => ?_; simp (disch := omega) only [evT_tmp, upd_apply, WB_some, ↓reduceIte, reduceCtorEq, Nat.reduceEqDiff, Nat.reduceLT]; refine hK_ _ ?_; clear hK_ K_)))
      refine roundQ_again (i + 1) (by omega) ⟨hlt, by simp only [upd_apply, ↓reduceIte, reduceCtorEq, Nat.reduceEqDiff]; exact g2, by simp only [upd_apply, ↓reduceIte, reduceCtorEq, Nat.reduceEqDiff]; exact g3, by simp only [upd_apply, ↓reduceIte, reduceCtorEq, Nat.reduceEqDiff]; exact g5, by simp only [upd_apply, ↓reduceIte, reduceCtorEq, Nat.reduceEqDiff]; exact g13, by simp only [upd_apply, ↓reduceIte, reduceCtorEq, Nat.reduceEqDiff]; rfl, rfl, ?_⟩
      have hmk2 : ∀ (L L' : List AO) (w w' : Nat), L = L' → w = w' → X h L w = X h L' w' := fun L L' w w' e e' => by rw [e, e']
      refine hmk2 _ _ _ _ ?_ (by omega)
      rw [List.range_succ, List.map_append]
      rfl
    · have hie : i = rows.length := by omega
      subst hie
      (repeat' (first
  | (with_reducible first | refine WC_seq ?_ | refine WC_skip ?_ | refine WC_label ?_ | refine WC_scope ?_ | refine WC_block ?_ | refine WC_ret ?_ | refine WC_exit ?_ | refine seqQ_norm ?_ | refine seqQ_ret ?_ | refine seqQ_exit ?_ | refine blkQ_norm ?_ | refine blkQ_ret ?_ | refine blkQ_here ?_ | refine gateK_yes ?_ | refine gateK_none ?_ | refine condK_tt ?_ | refine condK_ff ?_ | refine roundQ_exit ?_ | refine roundQ_ret ?_)
  | refine WC_region ?_ | refine blkQ_out rfl ?_ | refine WO_nil ?_ | refine WD_nil ?_
  | ((first | refine WD_gate rfl rfl rfl rfl rfl fun K_ hK_ => ?_ | refine WO_gate rfl rfl rfl rfl rfl fun K_ hK_ => ?_); simp only [upd_apply, asB_bool, asB_tup, ↓reduceIte, reduceCtorEq, Nat.reduceEqDiff, Bool.not_true, Bool.not_false]; refine hK_ _ ?_; clear hK_ K_)
  | refine gateK_no (by decide) ?_
  | ((try first | refine WO_op rfl rfl rfl ?_ | refine WO_op0 rfl rfl ?_ | refine WD_op rfl rfl rfl ?_ | refine WD_op0 rfl rfl ?_); (refine WV_gen fun Q_ hQ_ => ?_; simp (disch := first | omega | (simp only [List.length_cons, List.length_nil, List.length_append]; omega)) only [bb, bp, argF, ↓reduceIte, reduceCtorEq, Nat.reduceEqDiff, Nat.reduceLT, Nat.reduceLeDiff, Nat.reduceAdd, Nat.reduceMul, Nat.reduceSub, Nat.reduceBEq, Int.reduceToNat, cond_true, cond_false, eq_self, beq_self_eq_true, g2, g3, g5, g13, g14, newPtr_X wf, load1_X wf, loadAgg_X wf, store1_X wf, writeCells_X wf, makeFunc_def, tEvM5, sliceE_arr un_54 sz_2, reszT_ptr, indexAddrE_def (P := Try.prog) (t := 56), indexAddrE_def (P := Try.prog) (t := 25)]; first | (refine dec_split (Q := Q_) (fun hp_ => ?_) (fun hp_ => ?_) <;> first | (exfalso; omega) | (refine hQ_ _ _ ?_; clear hQ_ Q_)) | (refine dec_splitn (Q := Q_) (fun hp_ => ?_) (fun hp_ => ?_) <;> first | (exfalso; omega) | (refine hQ_ _ _ ?_; clear hQ_ Q_)) | (refine hQ_ _ _ ?_; clear hQ_ Q_)))
  | (refine WC_cond fun K_ hK_ => ?_; simp (disch := omega) only [evT_tmp, upd_apply, WB_some, ↓reduceIte, reduceCtorEq, Nat.reduceEqDiff, Nat.reduceLT]; refine hK_ _ ?_; clear hK_ K_)))
      refine endQ_ret _ _ rfl (ret1 (by decide)) ?_
      simp only [upd_apply, ↓reduceIte, reduceCtorEq, Nat.reduceEqDiff]
      refine WV_ext (by
        show (_ && flat (.sl _ _ _ _ _)) = false
        exact Bool.and_false _) ?_
      refine ⟨rfl, ?_⟩
      rw [Nat.min_eq_left wf.wle]
  · refine ⟨Nat.zero_le _, by simp only [upd_apply, ↓reduceIte, reduceCtorEq, Nat.reduceEqDiff], by simp only [upd_apply, ↓reduceIte, reduceCtorEq, Nat.reduceEqDiff], by simp only [upd_apply, ↓reduceIte, reduceCtorEq, Nat.reduceEqDiff]; (try rfl), by simp only [upd_apply, ↓reduceIte, reduceCtorEq, Nat.reduceEqDiff], by simp only [upd_apply, ↓reduceIte, reduceCtorEq, Nat.reduceEqDiff]; (try rfl), rfl, ?_⟩
    rw [outer_zero]; rfl
end Go.Proofs.Ytghondkiondeaab
end

/- EvM6 -/
section
/-
  LAYER 2: the end as lists; fractions held against one another.
-/
namespace Go.Proofs.Ytghondkiondeaab
open Go.Ev
set_option maxRecDepth 100000
set_option linter.unusedSimpArgs false
set_option linter.unusedVariables false
set_option maxHeartbeats 2000000

theorem tEvM6 : type_of% (And.intro (And.intro (And.intro (And.intro (@bs_52) (And.intro (@ia_2) (@sz_2))) (And.intro (And.intro (@ze_2) (@ia_3)) (And.intro (@sz_3) (@ia_4)))) (And.intro (And.intro (@sz_4) (And.intro (@ia_24) (@sz_24))) (And.intro (And.intro (@ia_52) (@sz_52)) (And.intro (@ze_52) (@ia_62))))) (And.intro (And.intro (And.intro (@sz_62) (And.intro (@ia_29) (@sz_29))) (And.intro (And.intro (@ze_29) (@fo_29_0)) (And.intro (@fo_29_1) (@ia_56)))) (And.intro (And.intro (@sz_56) (And.intro (@ze_56) (@pb_38))) (And.intro (And.intro (@pb_39) (@pb_42)) (And.intro (@pb_20) (@pb_41)))))) := And.intro (And.intro (And.intro (And.intro (@bs_52) (And.intro (@ia_2) (@sz_2))) (And.intro (And.intro (@ze_2) (@ia_3)) (And.intro (@sz_3) (@ia_4)))) (And.intro (And.intro (@sz_4) (And.intro (@ia_24) (@sz_24))) (And.intro (And.intro (@ia_52) (@sz_52)) (And.intro (@ze_52) (@ia_62))))) (And.intro (And.intro (And.intro (@sz_62) (And.intro (@ia_29) (@sz_29))) (And.intro (And.intro (@ze_29) (@fo_29_0)) (And.intro (@fo_29_1) (@ia_56)))) (And.intro (And.intro (@sz_56) (And.intro (@ze_56) (@pb_38))) (And.intro (And.intro (@pb_39) (@pb_42)) (And.intro (@pb_20) (@pb_41)))))
theorem tdivmod {a b : Int} (ha : 0 ≤ a) (hb : 1 ≤ b) : a.tdiv b = a / b ∧ a.tmod b = a % b ∧ a = b * (a / b) + a % b ∧ 0 ≤ a % b ∧ a % b < b ∧ 0 ≤ a / b ∧ a / b ≤ a := by
  refine ⟨Int.tdiv_eq_ediv_of_nonneg ha, Int.tmod_eq_emod_of_nonneg ha, (Int.mul_ediv_add_emod a b).symm, Int.emod_nonneg _ (by omega), Int.emod_lt_of_pos _ (by omega), Int.ediv_nonneg ha (by omega), Int.ediv_le_self _ ha⟩
theorem less_q {a b c d : Int} (ha : 0 ≤ a) (hb : 1 ≤ b) (hc : 0 ≤ c) (hd : 1 ≤ d) (h : a / b < c / d) : a * d < c * b := by
  obtain ⟨_, _, e1, r1, r2, q1, _⟩ := tdivmod ha hb
  obtain ⟨_, _, e2, s1, s2, q2, _⟩ := tdivmod hc hd
  have h1 : a + 1 ≤ b * (c / d) := by
    have : b * (a / b + 1) ≤ b * (c / d) := Int.mul_le_mul_of_nonneg_left (by omega) (by omega)
    rw [Int.mul_add] at this; omega
  have h2 : (a + 1) * d ≤ b * (c / d) * d := Int.mul_le_mul_of_nonneg_right h1 (by omega)
  have h3 : d * (c / d) ≤ c := by omega
  have h4 : b * (d * (c / d)) ≤ b * c := Int.mul_le_mul_of_nonneg_left h3 (by omega)
  have e : b * (c / d) * d = b * (d * (c / d)) := by grind
  rw [Int.add_mul] at h2
  have e' : c * b = b * c := Int.mul_comm _ _
  omega
theorem less_r {a b c d : Int} (ha : 0 ≤ a) (hb : 1 ≤ b) (hc : 0 ≤ c) (hd : 1 ≤ d) (h : a / b = c / d) : a * d < c * b ↔ a % b * d < c % d * b := by
  obtain ⟨_, _, e1, r1, r2, q1, _⟩ := tdivmod ha hb
  obtain ⟨_, _, e2, s1, s2, q2, _⟩ := tdivmod hc hd
  have h1 : a * d = b * (a / b) * d + a % b * d := by rw [← Int.add_mul, ← e1]
  have h2 : c * b = d * (c / d) * b + c % d * b := by rw [← Int.add_mul, ← e2]
  have h3 : b * (a / b) * d = d * (c / d) * b := by rw [h]; grind
  omega

theorem lessR (N D N' D' : Int) (h1 : bndIn N D) (h2 : bndIn N' D') (h : H) (wf : Wf h) : (om Try.prog KK).call (.fn 41 [.agg [ii N, ii D], .agg [ii N', ii D']]) h = .ok (.bool (decide (N * D' < N' * D))) h := by
  unfold bndIn at h1 h2
  obtain ⟨a1, a2, a3, a4, a5, a6, a7⟩ := tdivmod (a := N) (b := D) h1.1.1 h1.2.1
  obtain ⟨c1, c2, c3, c4, c5, c6, c7⟩ := tdivmod (a := N') (b := D') h2.1.1 h2.2.1
  have hz : D ≠ 0 := by omega
  have hz' : D' ≠ 0 := by omega
  have m1 := mul_bd (a := N % D) (b := D') (x := 100000000) (y := 100000000) ⟨a4, by omega⟩ ⟨by omega, by omega⟩
  have m2 := mul_bd (a := N' % D') (b := D) (x := 100000000) (y := 100000000) ⟨c4, by omega⟩ ⟨by omega, by omega⟩
  have hq := less_q (a := N) (b := D) (c := N') (d := D') h1.1.1 h1.2.1 h2.1.1 h2.2.1
  have hq' := less_q (a := N') (b := D') (c := N) (d := D) h2.1.1 h2.2.1 h1.1.1 h1.2.1
  have hr := less_r (a := N) (b := D) (c := N') (d := D') h1.1.1 h1.2.1 h2.1.1 h2.2.1
  have w1 : IntKind.i64.wrap (N / D) = N / D := wrap_in _ (by omega) (by omega)
  have w2 : IntKind.i64.wrap (N' / D') = N' / D' := wrap_in _ (by omega) (by omega)
  refine WV_to (WV_call (fn := Try.f41) Try.func41 rfl rfl rfl rfl rfl ?_)
  simp only [argF]
  (repeat' (first
  | (with_reducible first | refine WC_seq ?_ | refine WC_skip ?_ | refine WC_label ?_ | refine WC_scope ?_ | refine WC_block ?_ | refine WC_ret ?_ | refine WC_exit ?_ | refine seqQ_norm ?_ | refine seqQ_ret ?_ | refine seqQ_exit ?_ | refine blkQ_norm ?_ | refine blkQ_ret ?_ | refine blkQ_here ?_ | refine gateK_yes ?_ | refine gateK_none ?_ | refine condK_tt ?_ | refine condK_ff ?_ | refine roundQ_exit ?_ | refine roundQ_ret ?_)
  | refine WC_region ?_ | refine blkQ_out rfl ?_ | refine WO_nil ?_ | refine WD_nil ?_
  | ((first | refine WD_gate rfl rfl rfl rfl rfl fun K_ hK_ => ?_ | refine WO_gate rfl rfl rfl rfl rfl fun K_ hK_ => ?_); simp only [upd_apply, asB_bool, asB_tup, ↓reduceIte, reduceCtorEq, Nat.reduceEqDiff, Bool.not_true, Bool.not_false]; refine hK_ _ ?_; clear hK_ K_)
  | refine gateK_no (by decide) ?_
  | ((try first | refine WO_op rfl rfl rfl ?_ | refine WO_op0 rfl rfl ?_ | refine WD_op rfl rfl rfl ?_ | refine WD_op0 rfl rfl ?_); (refine WV_gen fun Q_ hQ_ => ?_; simp (disch := first | omega | (simp only [List.length_cons, List.length_nil, List.length_append]; omega)) only [bb, bp, argF, ↓reduceIte, reduceCtorEq, Nat.reduceEqDiff, Nat.reduceLT, Nat.reduceLeDiff, Nat.reduceAdd, Nat.reduceMul, Nat.reduceSub, Nat.reduceBEq, Int.reduceToNat, cond_true, cond_false, eq_self, beq_self_eq_true, newPtr_X wf, load1_X wf, loadAgg_X wf, store1_X wf, writeCells_X wf, makeFunc_def, tEvM6]; first | (refine dec_split (Q := Q_) (fun hp_ => ?_) (fun hp_ => ?_) <;> first | (exfalso; omega) | (refine hQ_ _ _ ?_; clear hQ_ Q_)) | (refine dec_splitn (Q := Q_) (fun hp_ => ?_) (fun hp_ => ?_) <;> first | (exfalso; omega) | (refine hQ_ _ _ ?_; clear hQ_ Q_)) | (refine hQ_ _ _ ?_; clear hQ_ Q_)))
  | (refine WC_cond fun K_ hK_ => ?_; simp (disch := omega) only [evT_tmp, upd_apply, WB_some, ↓reduceIte, reduceCtorEq, Nat.reduceEqDiff, Nat.reduceLT]; refine hK_ _ ?_; clear hK_ K_)))
  refine WC_drawnB [.no, .no, .no, .no, .no, .no, .no, .no, .no, .no, .full] (by kernel_rfl) ?_
  (repeat' (first
  | (with_reducible first | refine WC_seq ?_ | refine WC_skip ?_ | refine WC_label ?_ | refine WC_scope ?_ | refine WC_block ?_ | refine WC_ret ?_ | refine WC_exit ?_ | refine seqQ_norm ?_ | refine seqQ_ret ?_ | refine seqQ_exit ?_ | refine blkQ_norm ?_ | refine blkQ_ret ?_ | refine blkQ_here ?_ | refine gateK_yes ?_ | refine gateK_none ?_ | refine condK_tt ?_ | refine condK_ff ?_ | refine roundQ_exit ?_ | refine roundQ_ret ?_)
  | refine WC_region ?_ | refine blkQ_out rfl ?_ | refine WO_nil ?_ | refine WD_nil ?_
  | ((first | refine WD_gate rfl rfl rfl rfl rfl fun K_ hK_ => ?_ | refine WO_gate rfl rfl rfl rfl rfl fun K_ hK_ => ?_); simp only [upd_apply, asB_bool, asB_tup, ↓reduceIte, reduceCtorEq, Nat.reduceEqDiff, Bool.not_true, Bool.not_false]; refine hK_ _ ?_; clear hK_ K_)
  | refine gateK_no (by decide) ?_
  | ((try first | refine WO_op rfl rfl rfl ?_ | refine WO_op0 rfl rfl ?_ | refine WD_op rfl rfl rfl ?_ | refine WD_op0 rfl rfl ?_); (refine WV_gen fun Q_ hQ_ => ?_; simp (disch := first | omega | (simp only [List.length_cons, List.length_nil, List.length_append]; omega)) only [bb, bp, argF, ↓reduceIte, reduceCtorEq, Nat.reduceEqDiff, Nat.reduceLT, Nat.reduceLeDiff, Nat.reduceAdd, Nat.reduceMul, Nat.reduceSub, Nat.reduceBEq, Int.reduceToNat, cond_true, cond_false, eq_self, beq_self_eq_true, b_quo hz, b_quo hz', a1, c1, w1, w2, newPtr_X wf, load1_X wf, loadAgg_X wf, store1_X wf, writeCells_X wf, makeFunc_def, tEvM6]; first | (refine dec_split (Q := Q_) (fun hp_ => ?_) (fun hp_ => ?_) <;> first | (exfalso; omega) | (refine hQ_ _ _ ?_; clear hQ_ Q_)) | (refine dec_splitn (Q := Q_) (fun hp_ => ?_) (fun hp_ => ?_) <;> first | (exfalso; omega) | (refine hQ_ _ _ ?_; clear hQ_ Q_)) | (refine hQ_ _ _ ?_; clear hQ_ Q_)))
  | (refine WC_cond fun K_ hK_ => ?_; simp (disch := omega) only [evT_tmp, upd_apply, WB_some, ↓reduceIte, reduceCtorEq, Nat.reduceEqDiff, Nat.reduceLT]; refine hK_ _ ?_; clear hK_ K_)))
  · refine WC_drawnB [.no, .no, .no, .no, .no, .no, .no, .no, .no, .no, .no, .no, .no, .no, .no, .no, .full, .full] (by kernel_rfl) ?_
    (repeat' (first
  | (with_reducible first | refine WC_seq ?_ | refine WC_skip ?_ | refine WC_label ?_ | refine WC_scope ?_ | refine WC_block ?_ | refine WC_ret ?_ | refine WC_exit ?_ | refine seqQ_norm ?_ | refine seqQ_ret ?_ | refine seqQ_exit ?_ | refine blkQ_norm ?_ | refine blkQ_ret ?_ | refine blkQ_here ?_ | refine gateK_yes ?_ | refine gateK_none ?_ | refine condK_tt ?_ | refine condK_ff ?_ | refine roundQ_exit ?_ | refine roundQ_ret ?_)
  | refine WC_region ?_ | refine blkQ_out rfl ?_ | refine WO_nil ?_ | refine WD_nil ?_
  | ((first | refine WD_gate rfl rfl rfl rfl rfl fun K_ hK_ => ?_ | refine WO_gate rfl rfl rfl rfl rfl fun K_ hK_ => ?_); simp only [upd_apply, asB_bool, asB_tup, ↓reduceIte, reduceCtorEq, Nat.reduceEqDiff, Bool.not_true, Bool.not_false]; refine hK_ _ ?_; clear hK_ K_)
  | refine gateK_no (by decide) ?_
  | ((try first | refine WO_op rfl rfl rfl ?_ | refine WO_op0 rfl rfl ?_ | refine WD_op rfl rfl rfl ?_ | refine WD_op0 rfl rfl ?_); (refine WV_gen fun Q_ hQ_ => ?_; simp (disch := first | omega | (simp only [List.length_cons, List.length_nil, List.length_append]; omega)) only [bb, bp, argF, ↓reduceIte, reduceCtorEq, Nat.reduceEqDiff, Nat.reduceLT, Nat.reduceLeDiff, Nat.reduceAdd, Nat.reduceMul, Nat.reduceSub, Nat.reduceBEq, Int.reduceToNat, cond_true, cond_false, eq_self, beq_self_eq_true, b_rem hz, b_rem hz', a2, c2, newPtr_X wf, load1_X wf, loadAgg_X wf, store1_X wf, writeCells_X wf, makeFunc_def, tEvM6]; first | (refine dec_split (Q := Q_) (fun hp_ => ?_) (fun hp_ => ?_) <;> first | (exfalso; omega) | (refine hQ_ _ _ ?_; clear hQ_ Q_)) | (refine dec_splitn (Q := Q_) (fun hp_ => ?_) (fun hp_ => ?_) <;> first | (exfalso; omega) | (refine hQ_ _ _ ?_; clear hQ_ Q_)) | (refine hQ_ _ _ ?_; clear hQ_ Q_)))
  | (refine WC_cond fun K_ hK_ => ?_; simp (disch := omega) only [evT_tmp, upd_apply, WB_some, ↓reduceIte, reduceCtorEq, Nat.reduceEqDiff, Nat.reduceLT]; refine hK_ _ ?_; clear hK_ K_)))
    all_goals (refine endQ_ret _ _ rfl (ret1 (by decide)) ?_; simp only [upd_apply, ↓reduceIte, reduceCtorEq, Nat.reduceEqDiff]; refine WV_flat rfl (by omega) ?_)
    · exact ⟨by rw [decide_eq_true ((hr (by assumption)).2 (by assumption))], rfl⟩
    · exact ⟨by rw [decide_eq_false (fun hh => absurd ((hr (by assumption)).1 hh) (by assumption))], rfl⟩
  · refine WC_drawnB [.no, .no, .no, .no, .no, .no, .no, .no, .no, .no, .full, .full] (by kernel_rfl) ?_
    (repeat' (first
  | (with_reducible first | refine WC_seq ?_ | refine WC_skip ?_ | refine WC_label ?_ | refine WC_scope ?_ | refine WC_block ?_ | refine WC_ret ?_ | refine WC_exit ?_ | refine seqQ_norm ?_ | refine seqQ_ret ?_ | refine seqQ_exit ?_ | refine blkQ_norm ?_ | refine blkQ_ret ?_ | refine blkQ_here ?_ | refine gateK_yes ?_ | refine gateK_none ?_ | refine condK_tt ?_ | refine condK_ff ?_ | refine roundQ_exit ?_ | refine roundQ_ret ?_)
  | refine WC_region ?_ | refine blkQ_out rfl ?_ | refine WO_nil ?_ | refine WD_nil ?_
  | ((first | refine WD_gate rfl rfl rfl rfl rfl fun K_ hK_ => ?_ | refine WO_gate rfl rfl rfl rfl rfl fun K_ hK_ => ?_); simp only [upd_apply, asB_bool, asB_tup, ↓reduceIte, reduceCtorEq, Nat.reduceEqDiff, Bool.not_true, Bool.not_false]; refine hK_ _ ?_; clear hK_ K_)
  | refine gateK_no (by decide) ?_
  | ((try first | refine WO_op rfl rfl rfl ?_ | refine WO_op0 rfl rfl ?_ | refine WD_op rfl rfl rfl ?_ | refine WD_op0 rfl rfl ?_); (refine WV_gen fun Q_ hQ_ => ?_; simp (disch := first | omega | (simp only [List.length_cons, List.length_nil, List.length_append]; omega)) only [bb, bp, argF, ↓reduceIte, reduceCtorEq, Nat.reduceEqDiff, Nat.reduceLT, Nat.reduceLeDiff, Nat.reduceAdd, Nat.reduceMul, Nat.reduceSub, Nat.reduceBEq, Int.reduceToNat, cond_true, cond_false, eq_self, beq_self_eq_true, b_quo hz, b_quo hz', a1, c1, w1, w2, newPtr_X wf, load1_X wf, loadAgg_X wf, store1_X wf, writeCells_X wf, makeFunc_def, tEvM6]; first | (refine dec_split (Q := Q_) (fun hp_ => ?_) (fun hp_ => ?_) <;> first | (exfalso; omega) | (refine hQ_ _ _ ?_; clear hQ_ Q_)) | (refine dec_splitn (Q := Q_) (fun hp_ => ?_) (fun hp_ => ?_) <;> first | (exfalso; omega) | (refine hQ_ _ _ ?_; clear hQ_ Q_)) | (refine hQ_ _ _ ?_; clear hQ_ Q_)))
  | (refine WC_cond fun K_ hK_ => ?_; simp (disch := omega) only [evT_tmp, upd_apply, WB_some, ↓reduceIte, reduceCtorEq, Nat.reduceEqDiff, Nat.reduceLT]; refine hK_ _ ?_; clear hK_ K_)))
    all_goals (refine endQ_ret _ _ rfl (ret1 (by decide)) ?_; simp only [upd_apply, ↓reduceIte, reduceCtorEq, Nat.reduceEqDiff]; refine WV_flat rfl (by omega) ?_)
    · exact ⟨by rw [decide_eq_true (hq (by assumption))], rfl⟩
    · exact ⟨by rw [decide_eq_false (fun hh => by have := hq' (by omega); omega)], rfl⟩

/-- What End leaves in memory. -/
noncomputable def endL (h : H) (sp st : Int) (a : AV) (rows : List (List (Int × Int))) (what : Int) (high : Bool) : List AO :=
  [.cells (mkCells [ii sp, ii st, a]) 24, .cells (mkCells [ii sp, ii st, a]) 24, .cells (mkCells [ii sp, ii st, a]) 52, .cells (mkCells [ii sp, ii st, a]) 52, .cells (mkCells [ii sp, ii st, a]) 52, .cells (mkCells [ii sp, ii st, a]) 52,
    .cells (mkCells ((lowG sp st rows what high).map ii)) 56, .cells (mkCells [ii (ratN (gOf what) sp st rows (m0 rows) (lowG sp st rows what high)), ii (ratD (gOf what) sp st rows (m0 rows) (lowG sp st rows what high))]) 29]
noncomputable def endE (h : H) (sp st : Int) (a : AV) (rows : List (List (Int × Int))) (what : Int) (high : Bool) : List AO :=
  endL h sp st a rows what high ++ (.cells (mkCells [ii sp, ii st, a]) 52 :: .cells (mkCells ((lowG sp st rows what high).map ii)) 56 :: .cells (mkCells (outer (X h (endL h sp st a rows what high) h.clock) rows.length (m0 rows) rows.length)) 47 :: (List.range rows.length).map (rowO (lowG sp st rows what high) (m0 rows)))
theorem endE_w (h : H) (J : List AO) (w w' : Nat) (sp st : Int) (a : AV) (rows : List (List (Int × Int))) (what : Int) (high : Bool) : endE (X h J w) sp st a rows what high = endE (X h J w') sp st a rows what high := by
  unfold endE
  have e : ∀ n m i L, outer (X (X h J w) L (X h J w).clock) n m i = outer (X (X h J w') L (X h J w').clock) n m i := fun n m i L => by
    unfold outer rowV
    simp only [nx_X]
  rw [show endL (X h J w) sp st a rows what high = endL (X h J w') sp st a rows what high from rfl, e]
theorem endX (sp st : Int) (a : AV) (rvs : List AV) (rows : List (List (Int × Int))) (what : Int) (high : Bool) (he : hullErr sp st rows = 0) (hwh : 0 ≤ what ∧ what ≤ 2) (h : H) (x : HullR h a rvs rows) :
    (om Try.prog KK).call (.fn 20 [.agg [ii sp, ii st, a], ii what, .bool high]) h = .ok (.tup [.sl (nx h 10) 0 rows.length (some rows.length) 1, ii 0]) (X h (endE h sp st a rows what high) h.w) ∧
    YsR (X h (endE h sp st a rows what high) h.w) (.sl (nx h 10) 0 rows.length (some rows.length) 1) (outer (X h (endL h sp st a rows what high) h.clock) rows.length (m0 rows) rows.length) ((List.range rows.length).map (gRow (lowG sp st rows what high) (m0 rows))) := by
  have wf := x.wf
  obtain ⟨hac, hao⟩ := Sl.one x.sl
  have k := hok he (gOf_or what)
  obtain ⟨hn, hm, hall, hsp, hst, hof⟩ := hullErr_ok he
  have xat := x.at (m := m0 rows) (by omega) (fun i hi => hall _ (List.getElem_mem hi))
  have hen : ∀ l w, w ≤ h.clock + l.length → (om Try.prog KK).call (.fn 39 [.agg [ii sp, ii st, a], .fn (gOf what) [.agg [ii sp, ii st, a]] [], .bool high]) (X h l w) = .ok (.tup [.agg ((lowG sp st rows what high).map ii), .agg [ii (ratN (gOf what) sp st rows (m0 rows) (lowG sp st rows what high)), ii (ratD (gOf what) sp st rows (m0 rows) (lowG sp st rows what high))]]) (X h l w) := fun l w hw => endC k high a rvs _ (xat.up l w hw)
  have i1 : InG rows (m0 rows) (lowG sp st rows what high) := (endG_ok k high _ (grid0_in k) (Nat.le_refl _)).1
  have b1 := big i1.1
  have hro : ∀ l w, w ≤ h.clock + l.length → (om Try.prog KK).call (.fn 42 [.agg [ii sp, ii st, a], .agg ((lowG sp st rows what high).map ii)]) (X h l w) = .ok _ (X (X h l w) _ (X h l w).w) := fun l w hw => rowsC sp st a rvs rows (m0 rows) hn hm _ i1.1 _ (xat.up l w hw)
  have key : WV ((om Try.prog KK).call (.fn 20 [.agg [ii sp, ii st, a], ii what, .bool high]) h) fun v h' => v = .tup [.sl (nx h 10) 0 rows.length (some rows.length) 1, ii 0] ∧
      h' = X h (endL h sp st a rows what high ++ (.cells (mkCells [ii sp, ii st, a]) 52 :: .cells (mkCells ((lowG sp st rows what high).map ii)) 56 :: .cells (mkCells (outer (X h (endL h sp st a rows what high) h.clock) rows.length (m0 rows) rows.length)) 47 :: (List.range rows.length).map (rowO (lowG sp st rows what high) (m0 rows)))) h.w := by
    refine WV_call (fn := Try.f20) Try.func20 rfl rfl rfl rfl rfl ?_
    simp only [argF]
    (repeat' (first
  | (with_reducible first | refine WC_seq ?_ | refine WC_skip ?_ | refine WC_label ?_ | refine WC_scope ?_ | refine WC_block ?_ | refine WC_ret ?_ | refine WC_exit ?_ | refine seqQ_norm ?_ | refine seqQ_ret ?_ | refine seqQ_exit ?_ | refine blkQ_norm ?_ | refine blkQ_ret ?_ | refine blkQ_here ?_ | refine gateK_yes ?_ | refine gateK_none ?_ | refine condK_tt ?_ | refine condK_ff ?_ | refine roundQ_exit ?_ | refine roundQ_ret ?_)
  | refine WC_region ?_ | refine blkQ_out rfl ?_ | refine WO_nil ?_ | refine WD_nil ?_
  | ((first | refine WD_gate rfl rfl rfl rfl rfl fun K_ hK_ => ?_ | refine WO_gate rfl rfl rfl rfl rfl fun K_ hK_ => ?_); simp only [upd_apply, asB_bool, asB_tup, ↓reduceIte, reduceCtorEq, Nat.reduceEqDiff, Bool.not_true, Bool.not_false]; refine hK_ _ ?_; clear hK_ K_)
  | refine gateK_no (by decide) ?_
  | ((try first | refine WO_op rfl rfl rfl ?_ | refine WO_op0 rfl rfl ?_ | refine WD_op rfl rfl rfl ?_ | refine WD_op0 rfl rfl ?_); (refine WV_gen fun Q_ hQ_ => ?_; simp (disch := first | omega | (simp only [List.length_cons, List.length_nil, List.length_append]; omega)) only [bb, bp, argF, ↓reduceIte, reduceCtorEq, Nat.reduceEqDiff, Nat.reduceLT, Nat.reduceLeDiff, Nat.reduceAdd, Nat.reduceMul, Nat.reduceSub, Nat.reduceBEq, Int.reduceToNat, cond_true, cond_false, eq_self, beq_self_eq_true, hao, hen, b1.len, b1.take, b1.all, b1.zero, X_X, X_w, nx_X, newPtr_X wf, load1_X wf, loadAgg_X wf, store1_X wf, writeCells_X wf, makeFunc_def, tEvM6]; first | (refine dec_split (Q := Q_) (fun hp_ => ?_) (fun hp_ => ?_) <;> first | (exfalso; omega) | (refine hQ_ _ _ ?_; clear hQ_ Q_)) | (refine dec_splitn (Q := Q_) (fun hp_ => ?_) (fun hp_ => ?_) <;> first | (exfalso; omega) | (refine hQ_ _ _ ?_; clear hQ_ Q_)) | (refine hQ_ _ _ ?_; clear hQ_ Q_) | (refine WV_eq (question sp st a rvs rows what he hwh x (by simp only [List.length_append, List.length_cons, List.length_nil]; omega)) ?_; refine hQ_ _ _ ?_; clear hQ_ Q_) | (refine WV_eq (hro _ _ (by simp only [List.length_append, List.length_cons, List.length_nil]; omega)) ?_; refine hQ_ _ _ ?_; clear hQ_ Q_)))
  | (refine WC_cond fun K_ hK_ => ?_; simp (disch := omega) only [evT_tmp, upd_apply, WB_some, ↓reduceIte, reduceCtorEq, Nat.reduceEqDiff, Nat.reduceLT]; refine hK_ _ ?_; clear hK_ K_)))
    refine endQ_ret _ _ rfl (ret2 (by decide) (by decide)) ?_
    simp only [upd_apply, ↓reduceIte, reduceCtorEq, Nat.reduceEqDiff]
    refine WV_ext (by
      show (_ && flat (.tup [.sl _ _ _ _ _, _])) = false
      exact Bool.and_false _) ?_
    refine ⟨rfl, ?_⟩
    rw [Nat.min_eq_left (by have := wf.wle; omega)]
    rfl
  obtain ⟨v, h', e, rfl, rfl⟩ := key
  unfold endE
  generalize hE : endL h sp st a rows what high = E0 at *
  have hE0 : E0.length = 8 := by rw [← hE]; rfl
  refine ⟨e, ?_⟩
  have hwf : h.w ≤ h.clock := wf.wle
  refine ⟨wf.X (by omega), ?_, fun i hi => ?_⟩
  · rw [List.length_map, List.length_range]
    refine Sl.new wf (by rw [outer_length]; omega) (e := 47) ?_
    rw [List.getElem?_append_right (by omega), hE0]
    rfl
  · rw [List.length_map, List.length_range] at hi
    have hgl := gRow_length i1.1 (i := i) (by omega) hm.2
    refine ⟨rowV (X h E0 h.clock) (m0 rows) i, ?_, ?_, ?_⟩
    · unfold outer
      rw [List.getElem?_map, List.getElem?_range hi]
      simp [hi]
    · rw [List.getElem_map, List.getElem_range]
      refine .inl ?_
      unfold rowV
      rw [nx_X, hE0, hgl]
      refine Sl.new wf (by rw [List.length_map, hgl]; omega) (e := 2) ?_
      rw [List.getElem?_append_right (by omega), hE0, show 8 + (i + 3) - 8 = i + 3 by omega]
      simp only [List.getElem?_cons_succ]
      rw [List.getElem?_map, List.getElem?_range hi]
      rfl
    · exact (capd_sl (Nat.le_refl _)).cape 1
/-- In any heap. -/
theorem endXJ (sp st : Int) (a : AV) (rvs : List AV) (rows : List (List (Int × Int))) (what : Int) (high : Bool) (he : hullErr sp st rows = 0) (hwh : 0 ≤ what ∧ what ≤ 2) (h : H) (x : HullR h a rvs rows) (J : List AO) :
    ∃ (E : List AO) (b : AV) (yvs : List AV), (∀ w, w ≤ h.clock + J.length → (om Try.prog KK).call (.fn 20 [.agg [ii sp, ii st, a], ii what, .bool high]) (X h J w) = .ok (.tup [b, ii 0]) (X h (J ++ E) w)) ∧
      ∀ w, w ≤ h.clock + J.length → YsR (X h (J ++ E) w) b yvs ((List.range rows.length).map (gRow (lowG sp st rows what high) (m0 rows))) := by
  refine ⟨endE (X h J 0) sp st a rows what high, .sl (nx h (J.length + 10)) 0 rows.length (some rows.length) 1, outer (X (X h J 0) (endL (X h J 0) sp st a rows what high) (X h J 0).clock) rows.length (m0 rows) rows.length, fun w hw => ?_, fun w hw => ?_⟩
  · have := (endX sp st a rvs rows what high he hwh _ (x.up J w hw)).1
    rw [endE_w h J w 0, X_X, X_w, nx_X] at this
    exact this
  · have := (endX sp st a rvs rows what high he hwh _ (x.up J w hw)).2
    rw [endE_w h J w 0, X_X, X_w, nx_X] at this
    have e : outer (X (X h J w) (endL (X h J w) sp st a rows what high) (X h J w).clock) rows.length (m0 rows) rows.length = outer (X (X h J 0) (endL (X h J 0) sp st a rows what high) (X h J 0).clock) rows.length (m0 rows) rows.length := by
      unfold outer rowV
      simp only [nx_X]
      rfl
    rw [e] at this
    exact this
end Go.Proofs.Ytghondkiondeaab
end

/- EvM7 -/
section
/-
  LAYER 2: what the ends are.
-/
namespace Go.Proofs.Ytghondkiondeaab
open Go.Ev
set_option maxRecDepth 100000
set_option linter.unusedSimpArgs false
set_option linter.unusedVariables false
set_option maxHeartbeats 2000000

theorem sgn_tt (x : Int) : sgn true x = x := rfl
theorem sgn_ff (x : Int) : sgn false x = -x := rfl
section
variable {g : Nat} {sp st : Int} {rows : List (List (Int × Int))} {m : Nat}
theorem isBnd_of {N D : Int} (hb : bndIn N D) (hg : Int.gcd N D = 1) : isBnd N D = true := by
  unfold isBnd
  rw [decide_eq_true hb, hg]
  simp
theorem rat_bnd (k : HOK g sp st rows m) {gs : List Int} (hi : InG rows m gs) : bndIn (ratN g sp st rows m gs) (ratD g sp st rows m gs) ∧ isBnd (ratN g sp st rows m gs) (ratD g sp st rows m gs) = true := by
  obtain ⟨r1, r2⟩ := rat_in k hi
  have hb : bndIn (ratN g sp st rows m gs) (ratD g sp st rows m gs) := ⟨⟨r1.1, by omega⟩, r2.1, by omega⟩
  refine ⟨hb, isBnd_of hb ?_⟩
  unfold ratN ratD gcdG
  have h0 : 0 < Int.gcd (numG g sp st rows m gs) (denG g st rows m gs) := Int.gcd_pos_of_ne_zero_right _ (by have := denG_pos k hi; omega)
  exact Int.gcd_ediv_gcd_ediv_gcd h0

/-- In terms of the fraction. -/
theorem far_rat (k : HOK g sp st rows m) {gs : List Int} (hi : InG rows m gs) (N D : Int) (high : Bool) : farG g sp st rows m N D high gs ≤ 0 ↔ sgn high (ratN g sp st rows m gs * D - ratD g sp st rows m gs * N) ≤ 0 := by
  obtain ⟨g1, g2, g3⟩ := rat_num k hi
  rw [farG_eq, g2, g3]
  have e : sgn high (ratN g sp st rows m gs * gcdG g sp st rows m gs * D - ratD g sp st rows m gs * gcdG g sp st rows m gs * N) = sgn high (ratN g sp st rows m gs * D - ratD g sp st rows m gs * N) * gcdG g sp st rows m gs := by
    cases high
    · simp only [sgn_ff]; grind
    · simp only [sgn_tt]; grind
  rw [e]
  constructor
  · intro h
    rcases Int.lt_or_le 0 (sgn high (ratN g sp st rows m gs * D - ratD g sp st rows m gs * N)) with h1 | h1
    · have := Int.mul_pos h1 g1; omega
    · exact h1
  · intro h
    exact Int.mul_nonpos_of_nonpos_of_nonneg h (by omega)

/-- The hull that is farthest beyond any number. -/
def farHull (g : Nat) (sp st : Int) (rows : List (List (Int × Int))) (m : Nat) (N D : Int) (high : Bool) : List Int := gB (bestY g sp st rows m N D high) m (rows.length * m)
/-- No hull is beyond the end. -/
theorem theEnd_ok (k : HOK g sp st rows m) (high : Bool) : InG rows m (theEnd g sp st rows m high) ∧ sumG g sp st rows m high (theEnd g sp st rows m high) ≤ 0 := endG_ok k high _ (grid0_in k) (Nat.le_refl _)
theorem beyond (k : HOK g sp st rows m) (high : Bool) {gs : List Int} (hi : InG rows m gs) :
    sgn high (ratN g sp st rows m gs * ratD g sp st rows m (theEnd g sp st rows m high) - ratD g sp st rows m gs * ratN g sp st rows m (theEnd g sp st rows m high)) ≤ 0 := by
  obtain ⟨h1, h2⟩ := theEnd_ok k high
  refine (far_rat k hi _ _ high).1 ?_
  have := farG_le k (ratN g sp st rows m (theEnd g sp st rows m high)) (ratD g sp st rows m (theEnd g sp st rows m high)) high hi
  unfold sumG at h2
  omega
end

/-- A grid's offsets as lists are those of a true hull. -/
def listOf (gs : List Int) (n m : Nat) : List (List Int) := (List.range n).map (gRow gs m)
theorem listOf_at {gs : List Int} {n m q : Nat} (hl : gs.length = 60) (hn : n ≤ 10) (hm : m ≤ 6) (hq : q < n * m) : yAt (listOf gs n m) m q = yat gs m q := by
  obtain ⟨i1, i2, i3⟩ := place_idx hm hn hq
  have e : ((List.range n).map (gRow gs m)).getD (q / m) [] = gRow gs m (q / m) := by
    rw [List.getD_eq_getElem?_getD, List.getElem?_map, List.getElem?_range i1]
    rfl
  unfold yAt yat listOf
  rw [e]
  unfold gRow
  rw [List.getD_eq_getElem?_getD, List.getElem?_take_of_lt i2, List.getElem?_drop, List.getD_eq_getElem?_getD]
theorem true_listOf {sp st : Int} {rows : List (List (Int × Int))} (he : hullErr sp st rows = 0) {gs : List Int} (hi : InG rows (m0 rows) gs) : trueErr sp st rows (listOf gs rows.length (m0 rows)) = 0 := by
  obtain ⟨hn, hm, hall, hsp, hst, hof⟩ := hullErr_ok he
  unfold trueErr
  rw [if_neg (not_not_intro he), if_neg (not_not_intro (by unfold listOf; simp)), if_neg (not_not_intro (fun y hy => ?_)), if_neg (not_not_intro (fun q hq => ?_))]
  · unfold inR
    rw [listOf_at hi.1 hn.2 hm.2 hq]
    exact hi.2 q hq
  · unfold listOf at hy
    obtain ⟨i, hi', rfl⟩ := List.mem_map.1 hy
    rw [List.mem_range] at hi'
    exact gRow_length hi.1 (by omega) hm.2
theorem val_listOf {sp st : Int} {rows : List (List (Int × Int))} (he : hullErr sp st rows = 0) {gs : List Int} (hi : InG rows (m0 rows) gs) {what : Int} (hwh : 0 ≤ what ∧ what ≤ 2) :
    valOut sp st rows (listOf gs rows.length (m0 rows)) what = .tup [.agg [ii (ratN (gOf what) sp st rows (m0 rows) gs), ii (ratD (gOf what) sp st rows (m0 rows) gs)], ii 0] := by
  obtain ⟨hn, hm, hall, hsp, hst, hof⟩ := hullErr_ok he
  unfold valOut
  rw [if_pos (true_listOf he hi), if_pos hwh]
  have e1 : numS (gOf what) sp st rows.length (m0 rows) (listOf gs rows.length (m0 rows)) = numG (gOf what) sp st rows (m0 rows) gs := psum_congr fun q hq => by
    unfold nuAt W
    rw [listOf_at hi.1 hn.2 hm.2 hq]
  have e2 : denS (gOf what) st rows.length (m0 rows) (listOf gs rows.length (m0 rows)) = denG (gOf what) st rows (m0 rows) gs := psum_congr fun q hq => by
    unfold deAt W
    rw [listOf_at hi.1 hn.2 hm.2 hq]
  rw [e1, e2]
  rfl
end Go.Proofs.Ytghondkiondeaab
end

/- EvI5 -/
section
/-
  LAYER 2, THE REFERENCE: the volume as it answers it.
-/
namespace Go.Proofs.Ytghondkiondeaab
open Go.Ev
set_option maxRecDepth 100000
set_option linter.unusedSimpArgs false
set_option linter.unusedVariables false
set_option maxHeartbeats 2000000

theorem tEvI5 : type_of% (And.intro (And.intro (And.intro (And.intro (And.intro (@bs_29) (@ia_29)) (And.intro (@sz_29) (@ze_29))) (And.intro (And.intro (@ia_2) (@sz_2)) (And.intro (@ze_2) (And.intro (@ia_3) (@sz_3))))) (And.intro (And.intro (And.intro (@ia_25) (@sz_25)) (And.intro (@ia_47) (@sz_47))) (And.intro (And.intro (@ia_46) (@sz_46)) (And.intro (@ia_22) (And.intro (@sz_22) (@ik_25)))))) (And.intro (And.intro (And.intro (And.intro (@ik_47) (@ik_46)) (And.intro (@ik_22) (@ia_70))) (And.intro (And.intro (@sz_70) (@ze_70)) (And.intro (@fo_70_0) (And.intro (@fo_70_1) (@fo_24_0))))) (And.intro (And.intro (And.intro (@fo_24_1) (@fo_24_2)) (And.intro (@ia_24) (@sz_24))) (And.intro (And.intro (@pb_12) (@pb_14)) (And.intro (@pb_26) (And.intro (@pb_27) (@pb_30))))))) := And.intro (And.intro (And.intro (And.intro (And.intro (@bs_29) (@ia_29)) (And.intro (@sz_29) (@ze_29))) (And.intro (And.intro (@ia_2) (@sz_2)) (And.intro (@ze_2) (And.intro (@ia_3) (@sz_3))))) (And.intro (And.intro (And.intro (@ia_25) (@sz_25)) (And.intro (@ia_47) (@sz_47))) (And.intro (And.intro (@ia_46) (@sz_46)) (And.intro (@ia_22) (And.intro (@sz_22) (@ik_25)))))) (And.intro (And.intro (And.intro (And.intro (@ik_47) (@ik_46)) (And.intro (@ik_22) (@ia_70))) (And.intro (And.intro (@sz_70) (@ze_70)) (And.intro (@fo_70_0) (And.intro (@fo_70_1) (@fo_24_0))))) (And.intro (And.intro (And.intro (@fo_24_1) (@fo_24_2)) (And.intro (@ia_24) (@sz_24))) (And.intro (And.intro (@pb_12) (@pb_14)) (And.intro (@pb_26) (And.intro (@pb_27) (@pb_30))))))
theorem volumeR (sp st : Int) (a b : AV) (rvs yvs : List AV) (rows : List (List (Int × Int))) (ys : List (List Int)) (hyl : ys.length ≤ 1000) (h : H) (x : HullR h a rvs rows) (y : YsR h b yvs ys) :
    (om Try.prog KK).call (.fn 8 [.agg [ii sp, ii st, a], b]) h = .ok (volOut sp st rows ys) h := by
  have wf := x.wf
  refine WV_to (WV_call (fn := Try.f8) Try.func8 rfl rfl rfl rfl rfl ?_)
  simp only [argF]
  have hch : ∀ l w, w ≤ h.clock + l.length → (om Try.prog KK).call (.fn 14 [.agg [ii sp, ii st, a], b]) (X h l w) = .ok (ii (trueErr sp st rows ys)) (X h l w) := fun l w hw => checkTrueR sp st a b rvs yvs rows ys hyl _ (x.up l w hw) (y.up l w hw)
  unfold volOut
  by_cases he : trueErr sp st rows ys = 0
  · have t := trueErr_ok he
    have yat' := y.at (m := m0 rows) (by have := t.m; omega) (fun i hi => t.yall _ (List.getElem_mem hi))
    have hn := t.n
    have hyn := t.yn
    rw [← hyn] at hn
    have hy : ∀ q, q < ys.length * m0 rows → 0 ≤ yAt ys (m0 rows) q ∧ yAt ys (m0 rows) q ≤ 500 := by rw [hyn]; exact t.y
    obtain ⟨sA, sB, sC, sD⟩ := sums_in hn t.m t.yall hy
    have hsp := t.sp
    have hst := t.st
    have hsu : ∀ l w, w ≤ h.clock + l.length → (om Try.prog KK).call (.fn 26 [b]) (X h l w) = _ := fun l w hw => sumsR b yvs ys (m0 rows) hn t.m t.yall hy _ (yat'.up l w hw)
    have n1 := mul_bd (a := sp) (x := 1000) (b := st) (y := 100) ⟨by omega, by omega⟩ ⟨by omega, by omega⟩
    have n2 := mul_bd n1 sA
    have eA : allS rows.length (m0 rows) ys = psum (fA ys.length (m0 rows) ys) (ys.length * m0 rows) := by rw [hyn]; rfl
    rw [if_pos he, eA]
    (repeat' (first
  | (with_reducible first | refine WC_seq ?_ | refine WC_skip ?_ | refine WC_label ?_ | refine WC_scope ?_ | refine WC_block ?_ | refine WC_ret ?_ | refine WC_exit ?_ | refine seqQ_norm ?_ | refine seqQ_ret ?_ | refine seqQ_exit ?_ | refine blkQ_norm ?_ | refine blkQ_ret ?_ | refine blkQ_here ?_ | refine gateK_yes ?_ | refine gateK_none ?_ | refine condK_tt ?_ | refine condK_ff ?_ | refine roundQ_exit ?_ | refine roundQ_ret ?_)
  | refine WC_region ?_ | refine blkQ_out rfl ?_ | refine WO_nil ?_ | refine WD_nil ?_
  | ((first | refine WD_gate rfl rfl rfl rfl rfl fun K_ hK_ => ?_ | refine WO_gate rfl rfl rfl rfl rfl fun K_ hK_ => ?_); simp only [upd_apply, asB_bool, asB_tup, ↓reduceIte, reduceCtorEq, Nat.reduceEqDiff, Bool.not_true, Bool.not_false]; refine hK_ _ ?_; clear hK_ K_)
  | refine gateK_no (by decide) ?_
  | ((try first | refine WO_op rfl rfl rfl ?_ | refine WO_op0 rfl rfl ?_ | refine WD_op rfl rfl rfl ?_ | refine WD_op0 rfl rfl ?_); (refine WV_gen fun Q_ hQ_ => ?_; simp (disch := first | omega | (simp only [List.length_cons, List.length_nil, List.length_append]; omega)) only [bb, bp, argF, ↓reduceIte, reduceCtorEq, Nat.reduceEqDiff, Nat.reduceLT, Nat.reduceLeDiff, Nat.reduceAdd, Nat.reduceMul, Nat.reduceSub, Nat.reduceBEq, Int.reduceToNat, cond_true, cond_false, eq_self, beq_self_eq_true, hch, he, hsu, frac, newPtr_X wf, load1_X wf, loadAgg_X wf, store1_X wf, writeCells_X wf, makeFunc_def, tEvI5]; first | (refine dec_split (Q := Q_) (fun hp_ => ?_) (fun hp_ => ?_) <;> first | (exfalso; omega) | (refine hQ_ _ _ ?_; clear hQ_ Q_)) | (refine dec_splitn (Q := Q_) (fun hp_ => ?_) (fun hp_ => ?_) <;> first | (exfalso; omega) | (refine hQ_ _ _ ?_; clear hQ_ Q_)) | (refine hQ_ _ _ ?_; clear hQ_ Q_) | (refine WV_eq (fractionR _ _ ⟨n2.1, by omega⟩ ⟨by decide, by decide⟩ _ (wf.X (by simp only [List.length_append, List.length_cons, List.length_nil]; omega))) ?_; refine hQ_ _ _ ?_; clear hQ_ Q_)))
  | (refine WC_cond fun K_ hK_ => ?_; simp (disch := omega) only [evT_tmp, upd_apply, WB_some, ↓reduceIte, reduceCtorEq, Nat.reduceEqDiff, Nat.reduceLT]; refine hK_ _ ?_; clear hK_ K_)))
    refine endQ_ret _ _ rfl (retc1 (by decide) (by decide) (by simp (disch := first | omega | (simp only [List.length_cons, List.length_nil, List.length_append]; omega)) only [bb, bp, argF, ↓reduceIte, reduceCtorEq, Nat.reduceEqDiff, Nat.reduceLT, Nat.reduceLeDiff, Nat.reduceAdd, Nat.reduceMul, Nat.reduceSub, Nat.reduceBEq, Int.reduceToNat, cond_true, cond_false, eq_self, beq_self_eq_true, loadAgg_X wf, frac, tEvI5]; rfl)) ?_
    simp only [upd_apply, ↓reduceIte, reduceCtorEq, Nat.reduceEqDiff]
    refine WV_flat rfl (by omega) ?_
    exact ⟨rfl, rfl⟩
  · rw [if_neg he]
    (repeat' (first
  | (with_reducible first | refine WC_seq ?_ | refine WC_skip ?_ | refine WC_label ?_ | refine WC_scope ?_ | refine WC_block ?_ | refine WC_ret ?_ | refine WC_exit ?_ | refine seqQ_norm ?_ | refine seqQ_ret ?_ | refine seqQ_exit ?_ | refine blkQ_norm ?_ | refine blkQ_ret ?_ | refine blkQ_here ?_ | refine gateK_yes ?_ | refine gateK_none ?_ | refine condK_tt ?_ | refine condK_ff ?_ | refine roundQ_exit ?_ | refine roundQ_ret ?_)
  | refine WC_region ?_ | refine blkQ_out rfl ?_ | refine WO_nil ?_ | refine WD_nil ?_
  | ((first | refine WD_gate rfl rfl rfl rfl rfl fun K_ hK_ => ?_ | refine WO_gate rfl rfl rfl rfl rfl fun K_ hK_ => ?_); simp only [upd_apply, asB_bool, asB_tup, ↓reduceIte, reduceCtorEq, Nat.reduceEqDiff, Bool.not_true, Bool.not_false]; refine hK_ _ ?_; clear hK_ K_)
  | refine gateK_no (by decide) ?_
  | ((try first | refine WO_op rfl rfl rfl ?_ | refine WO_op0 rfl rfl ?_ | refine WD_op rfl rfl rfl ?_ | refine WD_op0 rfl rfl ?_); (refine WV_gen fun Q_ hQ_ => ?_; simp (disch := first | omega | (simp only [List.length_cons, List.length_nil, List.length_append]; omega)) only [bb, bp, argF, ↓reduceIte, reduceCtorEq, Nat.reduceEqDiff, Nat.reduceLT, Nat.reduceLeDiff, Nat.reduceAdd, Nat.reduceMul, Nat.reduceSub, Nat.reduceBEq, Int.reduceToNat, cond_true, cond_false, eq_self, beq_self_eq_true, hch, newPtr_X wf, load1_X wf, loadAgg_X wf, store1_X wf, writeCells_X wf, makeFunc_def, tEvI5]; first | (refine dec_split (Q := Q_) (fun hp_ => ?_) (fun hp_ => ?_) <;> first | (exfalso; omega) | (refine hQ_ _ _ ?_; clear hQ_ Q_)) | (refine dec_splitn (Q := Q_) (fun hp_ => ?_) (fun hp_ => ?_) <;> first | (exfalso; omega) | (refine hQ_ _ _ ?_; clear hQ_ Q_)) | (refine hQ_ _ _ ?_; clear hQ_ Q_)))
  | (refine WC_cond fun K_ hK_ => ?_; simp (disch := omega) only [evT_tmp, upd_apply, WB_some, ↓reduceIte, reduceCtorEq, Nat.reduceEqDiff, Nat.reduceLT]; refine hK_ _ ?_; clear hK_ K_)))
    refine endQ_ret _ _ rfl (retc1 (by decide) (by decide) (by simp (disch := first | omega | (simp only [List.length_cons, List.length_nil, List.length_append]; omega)) only [bb, bp, argF, ↓reduceIte, reduceCtorEq, Nat.reduceEqDiff, Nat.reduceLT, Nat.reduceLeDiff, Nat.reduceAdd, Nat.reduceMul, Nat.reduceSub, Nat.reduceBEq, Int.reduceToNat, cond_true, cond_false, eq_self, beq_self_eq_true, loadAgg_X wf, tEvI5]; rfl)) ?_
    simp only [upd_apply, ↓reduceIte, reduceCtorEq, Nat.reduceEqDiff]
    refine WV_flat rfl (by omega) ?_
    exact ⟨rfl, rfl⟩

end Go.Proofs.Ytghondkiondeaab
end

/- EvB1 -/
section
/-
  LAYER 2: how many true hulls there are; which one has a number.
-/
namespace Go.Proofs.Ytghondkiondeaab
open Go.Ev
set_option maxRecDepth 100000
set_option linter.unusedSimpArgs false
set_option linter.unusedVariables false
set_option maxHeartbeats 4000000

theorem tEvB1 : type_of% (And.intro (And.intro (And.intro (And.intro (@ia_2) (@sz_2)) (And.intro (@ze_2) (@ia_3))) (And.intro (And.intro (@sz_3) (@ia_22)) (And.intro (@sz_22) (And.intro (@ia_24) (@sz_24))))) (And.intro (And.intro (And.intro (@ia_46) (@sz_46)) (And.intro (@ia_70) (@sz_70))) (And.intro (And.intro (@fo_24_2) (@fo_70_0)) (And.intro (@fo_70_1) (And.intro (@ik_22) (@ik_46)))))) := And.intro (And.intro (And.intro (And.intro (@ia_2) (@sz_2)) (And.intro (@ze_2) (@ia_3))) (And.intro (And.intro (@sz_3) (@ia_22)) (And.intro (@sz_22) (And.intro (@ia_24) (@sz_24))))) (And.intro (And.intro (And.intro (@ia_46) (@sz_46)) (And.intro (@ia_70) (@sz_70))) (And.intro (And.intro (@fo_24_2) (@fo_70_0)) (And.intro (@fo_70_1) (And.intro (@ik_22) (@ik_46)))))
/-- How many offsets there are at a place. -/
def wd (rows : List (List (Int × Int))) (m q : Nat) : Int := (rAt rows m q).2 - (rAt rows m q).1 + 1
/-- How many hulls there are of the first places. -/
def prodW (rows : List (List (Int × Int))) (m : Nat) : Nat → Int
  | 0 => 1
  | q + 1 => prodW rows m q * wd rows m q
def mny (rows : List (List (Int × Int))) (m : Nat) : Nat → Int
  | 0 => 1
  | q + 1 => min 1000000 (mny rows m q * wd rows m q)
theorem wd_in {rows : List (List (Int × Int))} {m q : Nat} (h : isOff (rAt rows m q)) : 1 ≤ wd rows m q ∧ wd rows m q ≤ 21 := by
  unfold isOff at h; unfold wd; omega
theorem mny_in {rows : List (List (Int × Int))} {m n : Nat} (h : ∀ q, q < n → isOff (rAt rows m q)) : ∀ q, q ≤ n → 1 ≤ mny rows m q ∧ mny rows m q ≤ 1000000
  | 0, _ => by unfold mny; omega
  | q + 1, hq => by
    have h1 := mny_in h q (by omega)
    have h2 := wd_in (h q (by omega))
    have h3 : 1 * 1 ≤ mny rows m q * wd rows m q := Int.mul_le_mul h1.1 h2.1 (by omega) (by omega)
    unfold mny; omega
theorem mny_prod {rows : List (List (Int × Int))} {m n : Nat} (h : ∀ q, q < n → isOff (rAt rows m q)) : ∀ q, q ≤ n → mny rows m q = min 1000000 (prodW rows m q) ∧ 1 ≤ prodW rows m q
  | 0, _ => by unfold mny prodW; omega
  | q + 1, hq => by
    obtain ⟨h1, h4⟩ := mny_prod h q (by omega)
    have h2 := wd_in (h q (by omega))
    unfold mny prodW
    have h3 : 1 * 1 ≤ prodW rows m q * wd rows m q := Int.mul_le_mul h4 h2.1 (by omega) (by omega)
    refine ⟨?_, by omega⟩
    rw [h1]
    by_cases hp : prodW rows m q ≤ 1000000
    · rw [Int.min_eq_right (a := 1000000) (b := prodW rows m q) hp]
    · rw [Int.min_eq_left (a := 1000000) (b := prodW rows m q) (by omega)]
      have h5 : 1000000 * 1 ≤ 1000000 * wd rows m q := Int.mul_le_mul_of_nonneg_left h2.1 (by omega)
      have h6 : 1000000 * wd rows m q ≤ prodW rows m q * wd rows m q := Int.mul_le_mul_of_nonneg_right (by omega) (by omega)
      omega

/-- What is left of a number behind some places from the last one on. -/
def remD (rows : List (List (Int × Int))) (m T : Nat) (num : Int) : Nat → Int
  | 0 => num
  | d + 1 => remD rows m T num d / wd rows m (T - 1 - d)
/-- The offset at a place of the hull that has a number. -/
def numY (rows : List (List (Int × Int))) (m T : Nat) (num : Int) (q : Nat) : Int := (rAt rows m q).1 + remD rows m T num (T - 1 - q) % wd rows m q
theorem remD_in {rows : List (List (Int × Int))} {m T : Nat} (h : ∀ q, q < T → isOff (rAt rows m q)) {num : Int} (hn : 0 ≤ num ∧ num ≤ 1000000) : ∀ d, d ≤ T → 0 ≤ remD rows m T num d ∧ remD rows m T num d ≤ 1000000
  | 0, _ => hn
  | d + 1, hd => by
    have h1 := remD_in h hn d (by omega)
    have h2 := wd_in (h (T - 1 - d) (by omega))
    unfold remD
    exact ⟨Int.ediv_nonneg h1.1 (by omega), Int.le_trans (Int.ediv_le_self _ h1.1) h1.2⟩
theorem numY_in {rows : List (List (Int × Int))} {m T : Nat} (h : ∀ q, q < T → isOff (rAt rows m q)) (num : Int) {q : Nat} (hq : q < T) : (rAt rows m q).1 ≤ numY rows m T num q ∧ numY rows m T num q ≤ (rAt rows m q).2 := by
  have h2 := wd_in (h q hq)
  unfold numY
  have h3 := Int.emod_nonneg (remD rows m T num (T - 1 - q)) (show wd rows m q ≠ 0 by omega)
  have h4 := Int.emod_lt_of_pos (remD rows m T num (T - 1 - q)) (show 0 < wd rows m q by omega)
  have h5 : wd rows m q = (rAt rows m q).2 - (rAt rows m q).1 + 1 := rfl
  omega
/-- The number of a hull. -/
def valD (rows : List (List (Int × Int))) (m : Nat) (y : Nat → Int) : Nat → Int
  | 0 => 0
  | q + 1 => valD rows m y q * wd rows m q + (y q - (rAt rows m q).1)
theorem valD_in {rows : List (List (Int × Int))} {m T : Nat} {y : Nat → Int} (h : ∀ q, q < T → isOff (rAt rows m q)) (hy : ∀ q, q < T → (rAt rows m q).1 ≤ y q ∧ y q ≤ (rAt rows m q).2) : ∀ q, q ≤ T → 0 ≤ valD rows m y q ∧ valD rows m y q < prodW rows m q
  | 0, _ => by unfold valD prodW; omega
  | q + 1, hq => by
    have h1 := valD_in h hy q (by omega)
    have h2 := wd_in (h q (by omega))
    have h3 := hy q (by omega)
    have h5 : wd rows m q = (rAt rows m q).2 - (rAt rows m q).1 + 1 := rfl
    unfold valD prodW
    have h6 : 0 ≤ valD rows m y q * wd rows m q := Int.mul_nonneg h1.1 (by omega)
    have h7 : (valD rows m y q + 1) * wd rows m q ≤ prodW rows m q * wd rows m q := Int.mul_le_mul_of_nonneg_right (by omega) (by omega)
    rw [Int.add_mul] at h7
    omega
theorem valD_rem {rows : List (List (Int × Int))} {m T : Nat} {y : Nat → Int} (h : ∀ q, q < T → isOff (rAt rows m q)) (hy : ∀ q, q < T → (rAt rows m q).1 ≤ y q ∧ y q ≤ (rAt rows m q).2) : ∀ d, d ≤ T → remD rows m T (valD rows m y T) d = valD rows m y (T - d)
  | 0, _ => rfl
  | d + 1, hd => by
    unfold remD
    rw [valD_rem h hy d (by omega)]
    have e : T - d = (T - 1 - d) + 1 := by omega
    have h2 := wd_in (h (T - 1 - d) (by omega))
    have h3 := hy (T - 1 - d) (by omega)
    have h5 : wd rows m (T - 1 - d) = (rAt rows m (T - 1 - d)).2 - (rAt rows m (T - 1 - d)).1 + 1 := rfl
    rw [e]
    show (valD rows m y (T - 1 - d) * wd rows m (T - 1 - d) + (y (T - 1 - d) - (rAt rows m (T - 1 - d)).1)) / wd rows m (T - 1 - d) = valD rows m y (T - (d + 1))
    rw [show T - (d + 1) = T - 1 - d by omega, Int.add_comm, Int.add_mul_ediv_right _ _ (by omega), Int.ediv_eq_zero_of_lt (by omega) (by omega)]
    omega
theorem numY_val {rows : List (List (Int × Int))} {m T : Nat} {y : Nat → Int} (h : ∀ q, q < T → isOff (rAt rows m q)) (hy : ∀ q, q < T → (rAt rows m q).1 ≤ y q ∧ y q ≤ (rAt rows m q).2) {q : Nat} (hq : q < T) : numY rows m T (valD rows m y T) q = y q := by
  unfold numY
  rw [valD_rem h hy _ (by omega)]
  have h2 := wd_in (h q hq)
  have h3 := hy q hq
  have h5 : wd rows m q = (rAt rows m q).2 - (rAt rows m q).1 + 1 := rfl
  rw [show T - (T - 1 - q) = q + 1 by omega]
  show _ + (valD rows m y q * wd rows m q + (y q - (rAt rows m q).1)) % wd rows m q = _
  rw [Int.add_comm (valD rows m y q * wd rows m q), Int.add_mul_emod_self_right, Int.emod_eq_of_lt (by omega) (by omega)]
  omega

theorem manyR (sp st : Int) (a : AV) (rvs : List AV) (rows : List (List (Int × Int))) (he : hullErr sp st rows = 0) (h : H) (x : HullR h a rvs rows) :
    (om Try.prog KK).call (.fn 15 [.agg [ii sp, ii st, a]]) h = .ok (ii (mny rows (m0 rows) (rows.length * m0 rows))) h := by
  have wf := x.wf
  obtain ⟨hn, hm, hall, hsp, hst, hof⟩ := hullErr_ok he
  have xat := x.at (m := m0 rows) (by omega) (fun i hi => hall _ (List.getElem_mem hi))
  have k0 := hok he (gOf_or 0)
  generalize hmm : m0 rows = m at *
  have hlen : ∀ h', lenE Try.prog 22 a h' = some (ii (rows.length : Int)) := fun h' => x.sl.len un_22
  refine WV_to (WV_call (fn := Try.f15) Try.func15 rfl rfl rfl rfl rfl ?_)
  simp only [argF]
  (repeat' (first
  | (with_reducible first | refine WC_seq ?_ | refine WC_skip ?_ | refine WC_label ?_ | refine WC_scope ?_ | refine WC_block ?_ | refine WC_ret ?_ | refine WC_exit ?_ | refine seqQ_norm ?_ | refine seqQ_ret ?_ | refine seqQ_exit ?_ | refine blkQ_norm ?_ | refine blkQ_ret ?_ | refine blkQ_here ?_ | refine gateK_yes ?_ | refine gateK_none ?_ | refine condK_tt ?_ | refine condK_ff ?_ | refine roundQ_exit ?_ | refine roundQ_ret ?_)
  | refine WC_region ?_ | refine blkQ_out rfl ?_ | refine WO_nil ?_ | refine WD_nil ?_
  | ((first | refine WD_gate rfl rfl rfl rfl rfl fun K_ hK_ => ?_ | refine WO_gate rfl rfl rfl rfl rfl fun K_ hK_ => ?_); simp only [upd_apply, asB_bool, asB_tup, ↓reduceIte, reduceCtorEq, Nat.reduceEqDiff, Bool.not_true, Bool.not_false]; refine hK_ _ ?_; clear hK_ K_)
  | refine gateK_no (by decide) ?_
  | ((try first | refine WO_op rfl rfl rfl ?_ | refine WO_op0 rfl rfl ?_ | refine WD_op rfl rfl rfl ?_ | refine WD_op0 rfl rfl ?_); (refine WV_gen fun Q_ hQ_ => ?_; simp (disch := first | omega | (simp only [List.length_cons, List.length_nil, List.length_append]; omega)) only [bb, bp, argF, ↓reduceIte, reduceCtorEq, Nat.reduceEqDiff, Nat.reduceLT, Nat.reduceLeDiff, Nat.reduceAdd, Nat.reduceMul, Nat.reduceSub, Nat.reduceBEq, Int.reduceToNat, cond_true, cond_false, eq_self, beq_self_eq_true, hlen, newPtr_X wf, load1_X wf, loadAgg_X wf, store1_X wf, writeCells_X wf, makeFunc_def, tEvB1]; first | (refine dec_split (Q := Q_) (fun hp_ => ?_) (fun hp_ => ?_) <;> first | (exfalso; omega) | (refine hQ_ _ _ ?_; clear hQ_ Q_)) | (refine dec_splitn (Q := Q_) (fun hp_ => ?_) (fun hp_ => ?_) <;> first | (exfalso; omega) | (refine hQ_ _ _ ?_; clear hQ_ Q_)) | (refine hQ_ _ _ ?_; clear hQ_ Q_)))
  | (refine WC_cond fun K_ hK_ => ?_; simp (disch := omega) only [evT_tmp, upd_apply, WB_some, ↓reduceIte, reduceCtorEq, Nat.reduceEqDiff, Nat.reduceLT]; refine hK_ _ ?_; clear hK_ K_)))
  refine WC_loop (fun (i : Nat) f d h' => i ≤ rows.length ∧ f 1 = .ptr (nx h 0) 0 ∧ f 3 = ii (mny rows m (i * m)) ∧ f 4 = ii (i : Int) ∧ d = [] ∧ h' = X h [.cells (mkCells [ii sp, ii st, a]) 24] h.clock) (fun i => rows.length - i) ?_ (rows.length + 1) 0 (by omega) ?_
  · rintro i f d h' ⟨hi, g1, g3, g4, rfl, rfl⟩
    by_cases hlt : i < rows.length
    · obtain ⟨v, hv, hsv, hrl⟩ := xat.row i hlt
      obtain ⟨id, off, hix, hld⟩ := x.sl.at1 wf hlt ik_22
      rw [hv] at hld
      have hlenv : ∀ h', lenE Try.prog 46 v h' = some (ii (m : Int)) := fun h' => hsv.len un_46
      (repeat' (first
  | (with_reducible first | refine WC_seq ?_ | refine WC_skip ?_ | refine WC_label ?_ | refine WC_scope ?_ | refine WC_block ?_ | refine WC_ret ?_ | refine WC_exit ?_ | refine seqQ_norm ?_ | refine seqQ_ret ?_ | refine seqQ_exit ?_ | refine blkQ_norm ?_ | refine blkQ_ret ?_ | refine blkQ_here ?_ | refine gateK_yes ?_ | refine gateK_none ?_ | refine condK_tt ?_ | refine condK_ff ?_ | refine roundQ_exit ?_ | refine roundQ_ret ?_)
  | refine WC_region ?_ | refine blkQ_out rfl ?_ | refine WO_nil ?_ | refine WD_nil ?_
  | ((first | refine WD_gate rfl rfl rfl rfl rfl fun K_ hK_ => ?_ | refine WO_gate rfl rfl rfl rfl rfl fun K_ hK_ => ?_); simp only [upd_apply, asB_bool, asB_tup, ↓reduceIte, reduceCtorEq, Nat.reduceEqDiff, Bool.not_true, Bool.not_false]; refine hK_ _ ?_; clear hK_ K_)
  | refine gateK_no (by decide) ?_
  | ((try first | refine WO_op rfl rfl rfl ?_ | refine WO_op0 rfl rfl ?_ | refine WD_op rfl rfl rfl ?_ | refine WD_op0 rfl rfl ?_); (refine WV_gen fun Q_ hQ_ => ?_; simp (disch := first | omega | (simp only [List.length_cons, List.length_nil, List.length_append]; omega)) only [bb, bp, argF, ↓reduceIte, reduceCtorEq, Nat.reduceEqDiff, Nat.reduceLT, Nat.reduceLeDiff, Nat.reduceAdd, Nat.reduceMul, Nat.reduceSub, Nat.reduceBEq, Int.reduceToNat, cond_true, cond_false, eq_self, beq_self_eq_true, g1, g3, g4, hlen, newPtr_X wf, load1_X wf, loadAgg_X wf, store1_X wf, writeCells_X wf, makeFunc_def, tEvB1]; first | (refine dec_split (Q := Q_) (fun hp_ => ?_) (fun hp_ => ?_) <;> first | (exfalso; omega) | (refine hQ_ _ _ ?_; clear hQ_ Q_)) | (refine dec_splitn (Q := Q_) (fun hp_ => ?_) (fun hp_ => ?_) <;> first | (exfalso; omega) | (refine hQ_ _ _ ?_; clear hQ_ Q_)) | (refine hQ_ _ _ ?_; clear hQ_ Q_)))
  | (refine WC_cond fun K_ hK_ => ?_; simp (disch := omega) only [evT_tmp, upd_apply, WB_some, ↓reduceIte, reduceCtorEq, Nat.reduceEqDiff, Nat.reduceLT]; refine hK_ _ ?_; clear hK_ K_)))
      refine WC_loop (fun (k : Nat) f d h' => k ≤ m ∧ f 1 = .ptr (nx h 0) 0 ∧ f 3 = ii (mny rows m (i * m + k)) ∧ f 4 = ii (i : Int) ∧ f 5 = ii (k : Int) ∧ d = [] ∧ h' = X h [.cells (mkCells [ii sp, ii st, a]) 24] h.clock) (fun k => m - k) ?_ (m + 1) 0 (by omega) ?_
      · clear g1 g3 g4
        rintro k f d h' ⟨hk, g1, g3, g4, g5, rfl, rfl⟩
        by_cases hkl : k < m
        · obtain ⟨id3, off3, hix3, hld3⟩ := hsv.at wf hkl ik_46
          have hkr : k < rows[i].length := by omega
          have hlo : ∀ l w, load1 id3 off3 (X h l w) = some (ii rows[i][k].1) := fun l w => by
            have := (hld3 l w).1 0 (by omega)
            rw [pairCells_get hkr (by omega)] at this
            exact this
          have hhi : ∀ l w, load1 id3 (off3 + 1) (X h l w) = some (ii rows[i][k].2) := fun l w => by
            have := (hld3 l w).1 1 (by omega)
            rw [pairCells_get hkr (by omega)] at this
            exact this
          have hq : i * m + k < rows.length * m := by
            have := Nat.mul_le_mul_right m (show i + 1 ≤ rows.length from hlt)
            rw [Nat.succ_mul] at this; omega
          have hr := rAt_ik hlt hkl hrl
          have hoff := k0.hoff _ hq
          have hmi := mny_in (n := rows.length * m) (m := m) (fun q hq => k0.hoff q hq) (i * m + k) (by omega)
          have hms : mny rows m (i * m + (k + 1)) = min 1000000 (mny rows m (i * m + k) * (rows[i][k].2 - rows[i][k].1 + 1)) := by
            show min 1000000 (mny rows m (i * m + k) * wd rows m (i * m + k)) = _
            unfold wd
            rw [hr]
          have hwd := wd_in hoff
          have hwe : wd rows m (i * m + k) = rows[i][k].2 - rows[i][k].1 + 1 := by unfold wd; rw [hr]
          rw [hwe] at hwd
          rw [hr] at hoff
          unfold isOff at hoff
          have hmb := mul_bd (a := mny rows m (i * m + k)) (b := rows[i][k].2 - rows[i][k].1 + 1) (x := 1000000) (y := 21) ⟨by omega, hmi.2⟩ ⟨by omega, hwd.2⟩
          (repeat' (first
  | (with_reducible first | refine WC_seq ?_ | refine WC_skip ?_ | refine WC_label ?_ | refine WC_scope ?_ | refine WC_block ?_ | refine WC_ret ?_ | refine WC_exit ?_ | refine seqQ_norm ?_ | refine seqQ_ret ?_ | refine seqQ_exit ?_ | refine blkQ_norm ?_ | refine blkQ_ret ?_ | refine blkQ_here ?_ | refine gateK_yes ?_ | refine gateK_none ?_ | refine condK_tt ?_ | refine condK_ff ?_ | refine roundQ_exit ?_ | refine roundQ_ret ?_)
  | refine WC_region ?_ | refine blkQ_out rfl ?_ | refine WO_nil ?_ | refine WD_nil ?_
  | ((first | refine WD_gate rfl rfl rfl rfl rfl fun K_ hK_ => ?_ | refine WO_gate rfl rfl rfl rfl rfl fun K_ hK_ => ?_); simp only [upd_apply, asB_bool, asB_tup, ↓reduceIte, reduceCtorEq, Nat.reduceEqDiff, Bool.not_true, Bool.not_false]; refine hK_ _ ?_; clear hK_ K_)
  | refine gateK_no (by decide) ?_
  | ((try first | refine WO_op rfl rfl rfl ?_ | refine WO_op0 rfl rfl ?_ | refine WD_op rfl rfl rfl ?_ | refine WD_op0 rfl rfl ?_); (refine WV_gen fun Q_ hQ_ => ?_; simp (disch := first | omega | (simp only [List.length_cons, List.length_nil, List.length_append]; omega)) only [bb, bp, argF, ↓reduceIte, reduceCtorEq, Nat.reduceEqDiff, Nat.reduceLT, Nat.reduceLeDiff, Nat.reduceAdd, Nat.reduceMul, Nat.reduceSub, Nat.reduceBEq, Int.reduceToNat, cond_true, cond_false, eq_self, beq_self_eq_true, g1, g3, g4, g5, hlen, hix, hld, hlenv, newPtr_X wf, load1_X wf, loadAgg_X wf, store1_X wf, writeCells_X wf, makeFunc_def, tEvB1]; first | (refine dec_split (Q := Q_) (fun hp_ => ?_) (fun hp_ => ?_) <;> first | (exfalso; omega) | (refine hQ_ _ _ ?_; clear hQ_ Q_)) | (refine dec_splitn (Q := Q_) (fun hp_ => ?_) (fun hp_ => ?_) <;> first | (exfalso; omega) | (refine hQ_ _ _ ?_; clear hQ_ Q_)) | (refine hQ_ _ _ ?_; clear hQ_ Q_)))
  | (refine WC_cond fun K_ hK_ => ?_; simp (disch := omega) only [evT_tmp, upd_apply, WB_some, ↓reduceIte, reduceCtorEq, Nat.reduceEqDiff, Nat.reduceLT]; refine hK_ _ ?_; clear hK_ K_)))
          refine WC_drawnB [.no, .no, .no, .no, .no, .no, .no, .no, .no, .no, .no, .no, .no, .no, .no, .no, .no, .no, .no, .full, .full, .full, .full, .full] (by kernel_rfl) ?_
          (repeat' (first
  | (with_reducible first | refine WC_seq ?_ | refine WC_skip ?_ | refine WC_label ?_ | refine WC_scope ?_ | refine WC_block ?_ | refine WC_ret ?_ | refine WC_exit ?_ | refine seqQ_norm ?_ | refine seqQ_ret ?_ | refine seqQ_exit ?_ | refine blkQ_norm ?_ | refine blkQ_ret ?_ | refine blkQ_here ?_ | refine gateK_yes ?_ | refine gateK_none ?_ | refine condK_tt ?_ | refine condK_ff ?_ | refine roundQ_exit ?_ | refine roundQ_ret ?_)
  | refine WC_region ?_ | refine blkQ_out rfl ?_ | refine WO_nil ?_ | refine WD_nil ?_
  | ((first | refine WD_gate rfl rfl rfl rfl rfl fun K_ hK_ => ?_ | refine WO_gate rfl rfl rfl rfl rfl fun K_ hK_ => ?_); simp only [upd_apply, asB_bool, asB_tup, ↓reduceIte, reduceCtorEq, Nat.reduceEqDiff, Bool.not_true, Bool.not_false]; refine hK_ _ ?_; clear hK_ K_)
  | refine gateK_no (by decide) ?_
  | ((try first | refine WO_op rfl rfl rfl ?_ | refine WO_op0 rfl rfl ?_ | refine WD_op rfl rfl rfl ?_ | refine WD_op0 rfl rfl ?_); (refine WV_gen fun Q_ hQ_ => ?_; simp (disch := first | omega | (simp only [List.length_cons, List.length_nil, List.length_append]; omega)) only [bb, bp, argF, ↓reduceIte, reduceCtorEq, Nat.reduceEqDiff, Nat.reduceLT, Nat.reduceLeDiff, Nat.reduceAdd, Nat.reduceMul, Nat.reduceSub, Nat.reduceBEq, Int.reduceToNat, cond_true, cond_false, eq_self, beq_self_eq_true, g1, g3, g4, g5, hlen, hix, hld, hlenv, hix3, hlo, hhi, newPtr_X wf, load1_X wf, loadAgg_X wf, store1_X wf, writeCells_X wf, makeFunc_def, tEvB1]; first | (refine dec_split (Q := Q_) (fun hp_ => ?_) (fun hp_ => ?_) <;> first | (exfalso; omega) | (refine hQ_ _ _ ?_; clear hQ_ Q_)) | (refine dec_splitn (Q := Q_) (fun hp_ => ?_) (fun hp_ => ?_) <;> first | (exfalso; omega) | (refine hQ_ _ _ ?_; clear hQ_ Q_)) | (refine hQ_ _ _ ?_; clear hQ_ Q_)))
  | (refine WC_cond fun K_ hK_ => ?_; simp (disch := omega) only [evT_tmp, upd_apply, WB_some, ↓reduceIte, reduceCtorEq, Nat.reduceEqDiff, Nat.reduceLT]; refine hK_ _ ?_; clear hK_ K_)))
          refine roundQ_again (k + 1) (by omega) ⟨hkl, by simp only [upd_apply, ↓reduceIte, reduceCtorEq, Nat.reduceEqDiff]; exact g1, by simp only [upd_apply, ↓reduceIte, reduceCtorEq, Nat.reduceEqDiff]; rw [hms], by simp only [upd_apply, ↓reduceIte, reduceCtorEq, Nat.reduceEqDiff]; exact g4, by simp only [upd_apply, ↓reduceIte, reduceCtorEq, Nat.reduceEqDiff]; rfl, rfl, rfl⟩
        · have hkm : k = m := by omega
          subst hkm
          (repeat' (first
  | (with_reducible first | refine WC_seq ?_ | refine WC_skip ?_ | refine WC_label ?_ | refine WC_scope ?_ | refine WC_block ?_ | refine WC_ret ?_ | refine WC_exit ?_ | refine seqQ_norm ?_ | refine seqQ_ret ?_ | refine seqQ_exit ?_ | refine blkQ_norm ?_ | refine blkQ_ret ?_ | refine blkQ_here ?_ | refine gateK_yes ?_ | refine gateK_none ?_ | refine condK_tt ?_ | refine condK_ff ?_ | refine roundQ_exit ?_ | refine roundQ_ret ?_)
  | refine WC_region ?_ | refine blkQ_out rfl ?_ | refine WO_nil ?_ | refine WD_nil ?_
  | ((first | refine WD_gate rfl rfl rfl rfl rfl fun K_ hK_ => ?_ | refine WO_gate rfl rfl rfl rfl rfl fun K_ hK_ => ?_); simp only [upd_apply, asB_bool, asB_tup, ↓reduceIte, reduceCtorEq, Nat.reduceEqDiff, Bool.not_true, Bool.not_false]; refine hK_ _ ?_; clear hK_ K_)
  | refine gateK_no (by decide) ?_
  | ((try first | refine WO_op rfl rfl rfl ?_ | refine WO_op0 rfl rfl ?_ | refine WD_op rfl rfl rfl ?_ | refine WD_op0 rfl rfl ?_); (refine WV_gen fun Q_ hQ_ => ?_; simp (disch := first | omega | (simp only [List.length_cons, List.length_nil, List.length_append]; omega)) only [bb, bp, argF, ↓reduceIte, reduceCtorEq, Nat.reduceEqDiff, Nat.reduceLT, Nat.reduceLeDiff, Nat.reduceAdd, Nat.reduceMul, Nat.reduceSub, Nat.reduceBEq, Int.reduceToNat, cond_true, cond_false, eq_self, beq_self_eq_true, g1, g3, g4, g5, hlen, hix, hld, hlenv, newPtr_X wf, load1_X wf, loadAgg_X wf, store1_X wf, writeCells_X wf, makeFunc_def, tEvB1]; first | (refine dec_split (Q := Q_) (fun hp_ => ?_) (fun hp_ => ?_) <;> first | (exfalso; omega) | (refine hQ_ _ _ ?_; clear hQ_ Q_)) | (refine dec_splitn (Q := Q_) (fun hp_ => ?_) (fun hp_ => ?_) <;> first | (exfalso; omega) | (refine hQ_ _ _ ?_; clear hQ_ Q_)) | (refine hQ_ _ _ ?_; clear hQ_ Q_)))
  | (refine WC_cond fun K_ hK_ => ?_; simp (disch := omega) only [evT_tmp, upd_apply, WB_some, ↓reduceIte, reduceCtorEq, Nat.reduceEqDiff, Nat.reduceLT]; refine hK_ _ ?_; clear hK_ K_)))
          refine roundQ_again (i + 1) (by omega) ⟨hlt, by simp only [upd_apply, ↓reduceIte, reduceCtorEq, Nat.reduceEqDiff]; exact g1, by simp only [upd_apply, ↓reduceIte, reduceCtorEq, Nat.reduceEqDiff]; rw [Nat.succ_mul]; exact g3, by simp only [upd_apply, ↓reduceIte, reduceCtorEq, Nat.reduceEqDiff]; rfl, rfl, rfl⟩
      · refine ⟨Nat.zero_le _, by simp only [upd_apply, ↓reduceIte, reduceCtorEq, Nat.reduceEqDiff]; exact g1, by simp only [upd_apply, ↓reduceIte, reduceCtorEq, Nat.reduceEqDiff]; exact g3, by simp only [upd_apply, ↓reduceIte, reduceCtorEq, Nat.reduceEqDiff]; exact g4, by simp only [upd_apply, ↓reduceIte, reduceCtorEq, Nat.reduceEqDiff]; rfl, rfl, rfl⟩
    · have hie : i = rows.length := by omega
      subst hie
      (repeat' (first
  | (with_reducible first | refine WC_seq ?_ | refine WC_skip ?_ | refine WC_label ?_ | refine WC_scope ?_ | refine WC_block ?_ | refine WC_ret ?_ | refine WC_exit ?_ | refine seqQ_norm ?_ | refine seqQ_ret ?_ | refine seqQ_exit ?_ | refine blkQ_norm ?_ | refine blkQ_ret ?_ | refine blkQ_here ?_ | refine gateK_yes ?_ | refine gateK_none ?_ | refine condK_tt ?_ | refine condK_ff ?_ | refine roundQ_exit ?_ | refine roundQ_ret ?_)
  | refine WC_region ?_ | refine blkQ_out rfl ?_ | refine WO_nil ?_ | refine WD_nil ?_
  | ((first | refine WD_gate rfl rfl rfl rfl rfl fun K_ hK_ => ?_ | refine WO_gate rfl rfl rfl rfl rfl fun K_ hK_ => ?_); simp only [upd_apply, asB_bool, asB_tup, ↓reduceIte, reduceCtorEq, Nat.reduceEqDiff, Bool.not_true, Bool.not_false]; refine hK_ _ ?_; clear hK_ K_)
  | refine gateK_no (by decide) ?_
  | ((try first | refine WO_op rfl rfl rfl ?_ | refine WO_op0 rfl rfl ?_ | refine WD_op rfl rfl rfl ?_ | refine WD_op0 rfl rfl ?_); (refine WV_gen fun Q_ hQ_ => ?_; simp (disch := first | omega | (simp only [List.length_cons, List.length_nil, List.length_append]; omega)) only [bb, bp, argF, ↓reduceIte, reduceCtorEq, Nat.reduceEqDiff, Nat.reduceLT, Nat.reduceLeDiff, Nat.reduceAdd, Nat.reduceMul, Nat.reduceSub, Nat.reduceBEq, Int.reduceToNat, cond_true, cond_false, eq_self, beq_self_eq_true, g1, g3, g4, hlen, newPtr_X wf, load1_X wf, loadAgg_X wf, store1_X wf, writeCells_X wf, makeFunc_def, tEvB1]; first | (refine dec_split (Q := Q_) (fun hp_ => ?_) (fun hp_ => ?_) <;> first | (exfalso; omega) | (refine hQ_ _ _ ?_; clear hQ_ Q_)) | (refine dec_splitn (Q := Q_) (fun hp_ => ?_) (fun hp_ => ?_) <;> first | (exfalso; omega) | (refine hQ_ _ _ ?_; clear hQ_ Q_)) | (refine hQ_ _ _ ?_; clear hQ_ Q_)))
  | (refine WC_cond fun K_ hK_ => ?_; simp (disch := omega) only [evT_tmp, upd_apply, WB_some, ↓reduceIte, reduceCtorEq, Nat.reduceEqDiff, Nat.reduceLT]; refine hK_ _ ?_; clear hK_ K_)))
      (refine endQ_ret _ _ rfl (ret1 (by decide)) ?_; simp only [upd_apply, ↓reduceIte, reduceCtorEq, Nat.reduceEqDiff]; refine WV_flat rfl (by omega) ?_)
      exact ⟨rfl, rfl⟩
  · refine ⟨Nat.zero_le _, by simp only [upd_apply, ↓reduceIte, reduceCtorEq, Nat.reduceEqDiff], by simp only [upd_apply, ↓reduceIte, reduceCtorEq, Nat.reduceEqDiff]; rw [Nat.zero_mul]; rfl, by simp only [upd_apply, ↓reduceIte, reduceCtorEq, Nat.reduceEqDiff]; rfl, rfl, rfl⟩
end Go.Proofs.Ytghondkiondeaab
end

/- EvL17 -/
section
/-
  WHAT IS APPENDED IN A REGION OF FIXED ORDER.
-/
namespace Go.Ev
section
variable {P : Program}
/-- A new object is appended, in a region of fixed order. -/
theorem Grow.appendN {h : H} (wf : Wf h) {L0 G : List AO} {v : AV} {sz e len bytes : Nat} {z : AV} {cs : List AV} (g : Grow h L0 G v sz e len cs) {t : TypeId} (hu : P.underlying t = some (.slice e)) (hz : sizeE P e = some sz) (E : El P e sz bytes z)
    {n : Nat} {new : List AV} (hn : len + n ≤ 10000000) (hn0 : n ≠ 0) (hb : bytes ≤ 100000) (hc : new.length = n * sz) (ho : allOne new = true) :
    ∃ v' G', Grow h L0 G' v' sz e (len + n) (cs ++ new) ∧ (∀ (j : Nat) m' e', e' ≠ e → G[j]? = some (AO.cells m' e') → G'[j]? = some (AO.cells m' e')) ∧
      appendE P t v (.sl (nx h (L0.length + G.length)) 0 n (some n) sz) (X h (L0 ++ (G ++ [.cells (mkCells new) e])) h.clock) = .ok v' (X h (L0 ++ G') h.clock) := by
  obtain ⟨v', G', hg', hk, happ⟩ := (g.more [.cells (mkCells new) e]).appendK (P := P) wf hu hz E (x := .sl (nx h (L0.length + G.length)) 0 n (some n) sz) hn hn0 hb hc ho (fun w => src_new (e := e) wf (by rw [← List.append_assoc]; rw [show L0.length + G.length = (L0 ++ G).length from by simp]; simp) hc)
  refine ⟨v', G', hg', fun j m' e' he hj => hk j m' e' he (by rw [List.getElem?_append_left (List.getElem?_eq_some_iff.1 hj).1]; exact hj), ?_⟩
  obtain ⟨w', h1, h2, h3⟩ := happ h.clock (Nat.le_refl _)
  rw [h3, show w' = h.clock from by omega]
end
end Go.Ev
end

/- EvB2 -/
section
/-
  LAYER 2: the ends as the reference makes them.
-/
namespace Go.Proofs.Ytghondkiondeaab
open Go.Ev
set_option maxRecDepth 100000
set_option linter.unusedSimpArgs false
set_option linter.unusedVariables false
set_option maxHeartbeats 4000000

theorem tEvB2 : type_of% (And.intro (And.intro (And.intro (And.intro (@ia_2) (And.intro (@sz_2) (@ze_2))) (And.intro (@ia_3) (And.intro (@sz_3) (@ia_4)))) (And.intro (And.intro (@sz_4) (And.intro (@ia_22) (@sz_22))) (And.intro (And.intro (@ia_24) (@sz_24)) (And.intro (@ia_25) (@sz_25))))) (And.intro (And.intro (And.intro (@ia_46) (And.intro (@sz_46) (@ia_47))) (And.intro (And.intro (@sz_47) (@ia_70)) (And.intro (@sz_70) (@ze_70)))) (And.intro (And.intro (@fo_70_0) (And.intro (@fo_70_1) (@fo_24_2))) (And.intro (And.intro (@ik_22) (@ik_46)) (And.intro (@ni_47) (@ni_25)))))) := And.intro (And.intro (And.intro (And.intro (@ia_2) (And.intro (@sz_2) (@ze_2))) (And.intro (@ia_3) (And.intro (@sz_3) (@ia_4)))) (And.intro (And.intro (@sz_4) (And.intro (@ia_22) (@sz_22))) (And.intro (And.intro (@ia_24) (@sz_24)) (And.intro (@ia_25) (@sz_25))))) (And.intro (And.intro (And.intro (@ia_46) (And.intro (@sz_46) (@ia_47))) (And.intro (And.intro (@sz_47) (@ia_70)) (And.intro (@sz_70) (@ze_70)))) (And.intro (And.intro (@fo_70_0) (And.intro (@fo_70_1) (@fo_24_2))) (And.intro (And.intro (@ik_22) (@ik_46)) (And.intro (@ni_47) (@ni_25)))))
/-- One end of a range. -/
def eo (high : Bool) (r : Int × Int) : Int := if high then r.2 else r.1
def eRow (high : Bool) (row : List (Int × Int)) : List Int := row.map (eo high)
theorem eRow_take {high : Bool} {row : List (Int × Int)} {k : Nat} (hk : k < row.length) : eRow high (row.take (k + 1)) = eRow high (row.take k) ++ [eo high row[k]] := by
  unfold eRow; rw [take_one hk, List.map_append]; rfl

/-- Rows of whole numbers that a call has made. -/
structure RwI (h : H) (B : Nat) (G : List AO) (cells : List AV) (R : Nat → List Int) (r : Nat → Nat) (m i : Nat) : Prop where
  at_ : ∀ j, j < i → cells[j]? = some (.sl (nx h (B + r j)) 0 m none 1) ∧ G[r j]? = some (AO.cells (mkCells ((R j).map ii)) 2)
  mono : ∀ j j', j < j' → j' < i → r j < r j'
theorem RwI.snoc {h : H} {B : Nat} {G G2 G' : List AO} {cells : List AV} {R : Nat → List Int} {r : Nat → Nat} {m i idx : Nat} (s : RwI h B G cells R r m i) (hc : cells.length = i)
    (hk : ∀ (j : Nat) m' e', e' ≠ 47 → (G ++ G2)[j]? = some (AO.cells m' e') → G'[j]? = some (AO.cells m' e')) (hG2 : G2[idx]? = some (.cells (mkCells ((R i).map ii)) 2)) :
    RwI h B G' (cells ++ [.sl (nx h (B + (G.length + idx))) 0 m none 1]) R (fun j => if j = i then G.length + idx else r j) m (i + 1) := by
  refine ⟨fun j hj => ?_, fun j j' hj hj' => ?_⟩
  · by_cases hji : j = i
    · subst hji
      rw [if_pos rfl]
      refine ⟨by rw [List.getElem?_append_right (by omega), hc, Nat.sub_self]; rfl, hk _ _ _ (by decide) ?_⟩
      rw [List.getElem?_append_right (by omega), Nat.add_sub_cancel_left]; exact hG2
    · obtain ⟨h1, h2⟩ := s.at_ j (by omega)
      rw [if_neg hji]
      refine ⟨by rw [List.getElem?_append_left (by omega)]; exact h1, hk _ _ _ (by decide) ?_⟩
      rw [List.getElem?_append_left (List.getElem?_eq_some_iff.1 h2).1]; exact h2
  · by_cases hji : j' = i
    · subst hji
      rw [if_neg (by omega), if_pos rfl]
      have := (List.getElem?_eq_some_iff.1 (s.at_ j hj).2).1
      omega
    · rw [if_neg (by omega), if_neg hji]; exact s.mono j j' hj (by omega)

theorem endR (sp st : Int) (a : AV) (rvs : List AV) (rows : List (List (Int × Int))) (high : Bool) (he : hullErr sp st rows = 0) (h : H) (x : HullR h a rvs rows) :
    WV ((om Try.prog KK).call (.fn 37 [.agg [ii sp, ii st, a], .bool high]) h) fun v h' => ∃ M B cells r, h' = X h M h.w ∧ v = .sl (nx h B) 0 rows.length none 1 ∧ M[B]? = some (AO.cells (mkCells cells) 47) ∧ cells.length = rows.length ∧ RwI h 0 M cells (fun j => eRow high (rows.getD j [])) r (m0 rows) rows.length := by
  have wf := x.wf
  obtain ⟨hn, hm, hall, hsp, hst, hof⟩ := hullErr_ok he
  have xat := x.at (m := m0 rows) (by omega) (fun i hi => hall _ (List.getElem_mem hi))
  generalize hmm : m0 rows = m at *
  have hlen : ∀ h', lenE Try.prog 22 a h' = some (ii (rows.length : Int)) := fun h' => x.sl.len un_22
  refine WV_call (fn := Try.f37) Try.func37 rfl rfl rfl rfl rfl ?_
  simp only [argF]
  (repeat' (first
  | (with_reducible first | refine WC_seq ?_ | refine WC_skip ?_ | refine WC_label ?_ | refine WC_scope ?_ | refine WC_block ?_ | refine WC_ret ?_ | refine WC_exit ?_ | refine seqQ_norm ?_ | refine seqQ_ret ?_ | refine seqQ_exit ?_ | refine blkQ_norm ?_ | refine blkQ_ret ?_ | refine blkQ_here ?_ | refine gateK_yes ?_ | refine gateK_none ?_ | refine condK_tt ?_ | refine condK_ff ?_ | refine roundQ_exit ?_ | refine roundQ_ret ?_)
  | refine WC_region ?_ | refine blkQ_out rfl ?_ | refine WO_nil ?_ | refine WD_nil ?_
  | ((first | refine WD_gate rfl rfl rfl rfl rfl fun K_ hK_ => ?_ | refine WO_gate rfl rfl rfl rfl rfl fun K_ hK_ => ?_); simp only [upd_apply, asB_bool, asB_tup, ↓reduceIte, reduceCtorEq, Nat.reduceEqDiff, Bool.not_true, Bool.not_false]; refine hK_ _ ?_; clear hK_ K_)
  | refine gateK_no (by decide) ?_
  | ((try first | refine WO_op rfl rfl rfl ?_ | refine WO_op0 rfl rfl ?_ | refine WD_op rfl rfl rfl ?_ | refine WD_op0 rfl rfl ?_); (refine WV_gen fun Q_ hQ_ => ?_; simp (disch := first | omega | (simp only [List.length_cons, List.length_nil, List.length_append]; omega)) only [bb, bp, argF, ↓reduceIte, reduceCtorEq, Nat.reduceEqDiff, Nat.reduceLT, Nat.reduceLeDiff, Nat.reduceAdd, Nat.reduceMul, Nat.reduceSub, Nat.reduceBEq, Int.reduceToNat, cond_true, cond_false, eq_self, beq_self_eq_true, hlen, newPtr_X wf, newSlice_X wf, load1_X wf, loadAgg_X wf, store1_X wf, writeCells_X wf, makeFunc_def, tEvB2, bsl_47, bsl_25]; first | (refine dec_split (Q := Q_) (fun hp_ => ?_) (fun hp_ => ?_) <;> first | (exfalso; omega) | (refine hQ_ _ _ ?_; clear hQ_ Q_)) | (refine dec_splitn (Q := Q_) (fun hp_ => ?_) (fun hp_ => ?_) <;> first | (exfalso; omega) | (refine hQ_ _ _ ?_; clear hQ_ Q_)) | (refine hQ_ _ _ ?_; clear hQ_ Q_)))
  | (refine WC_cond fun K_ hK_ => ?_; simp (disch := omega) only [evT_tmp, upd_apply, WB_some, ↓reduceIte, reduceCtorEq, Nat.reduceEqDiff, Nat.reduceLT]; refine hK_ _ ?_; clear hK_ K_)))
  refine WC_loop (fun (i : Nat) f d h' => i ≤ rows.length ∧ f 1 = .bool high ∧ f 2 = .ptr (nx h 0) 0 ∧ f 6 = ii (i : Int) ∧ d = [] ∧ ∃ G cells r, h' = X h (.cells (mkCells [ii sp, ii st, a]) 24 :: G) h.clock ∧
    Grow h [.cells (mkCells [ii sp, ii st, a]) 24] G (f 5) 1 47 i cells ∧ RwI h 1 G cells (fun j => eRow high (rows.getD j [])) r m i) (fun i => rows.length - i) ?_ (rows.length + 1) 0 (by omega) ?_
  · rintro i f d h' ⟨hi, g1, g2, g6, rfl, G, cells, r, rfl, hgr, hrw⟩
    by_cases hlt : i < rows.length
    · obtain ⟨v, hv, hsv, hrl⟩ := xat.row i hlt
      obtain ⟨id, off, hix, hld⟩ := x.sl.at1 wf hlt ik_22
      rw [hv] at hld
      have hlenv : ∀ h', lenE Try.prog 46 v h' = some (ii (m : Int)) := fun h' => hsv.len un_46
      obtain ⟨ov, hov⟩ : ∃ ov, ov = f 5 := ⟨_, rfl⟩
      rw [← hov] at hgr
      (repeat' (first
  | (with_reducible first | refine WC_seq ?_ | refine WC_skip ?_ | refine WC_label ?_ | refine WC_scope ?_ | refine WC_block ?_ | refine WC_ret ?_ | refine WC_exit ?_ | refine seqQ_norm ?_ | refine seqQ_ret ?_ | refine seqQ_exit ?_ | refine blkQ_norm ?_ | refine blkQ_ret ?_ | refine blkQ_here ?_ | refine gateK_yes ?_ | refine gateK_none ?_ | refine condK_tt ?_ | refine condK_ff ?_ | refine roundQ_exit ?_ | refine roundQ_ret ?_)
  | refine WC_region ?_ | refine blkQ_out rfl ?_ | refine WO_nil ?_ | refine WD_nil ?_
  | ((first | refine WD_gate rfl rfl rfl rfl rfl fun K_ hK_ => ?_ | refine WO_gate rfl rfl rfl rfl rfl fun K_ hK_ => ?_); simp only [upd_apply, asB_bool, asB_tup, ↓reduceIte, reduceCtorEq, Nat.reduceEqDiff, Bool.not_true, Bool.not_false]; refine hK_ _ ?_; clear hK_ K_)
  | refine gateK_no (by decide) ?_
  | ((try first | refine WO_op rfl rfl rfl ?_ | refine WO_op0 rfl rfl ?_ | refine WD_op rfl rfl rfl ?_ | refine WD_op0 rfl rfl ?_); (refine WV_gen fun Q_ hQ_ => ?_; simp (disch := first | omega | (simp only [List.length_cons, List.length_nil, List.length_append]; omega)) only [bb, bp, argF, ↓reduceIte, reduceCtorEq, Nat.reduceEqDiff, Nat.reduceLT, Nat.reduceLeDiff, Nat.reduceAdd, Nat.reduceMul, Nat.reduceSub, Nat.reduceBEq, Int.reduceToNat, cond_true, cond_false, eq_self, beq_self_eq_true, g1, g2, g6, hlen, newPtr_X wf, newSlice_X wf, load1_X wf, loadAgg_X wf, store1_X wf, writeCells_X wf, makeFunc_def, tEvB2, bsl_47, bsl_25]; first | (refine dec_split (Q := Q_) (fun hp_ => ?_) (fun hp_ => ?_) <;> first | (exfalso; omega) | (refine hQ_ _ _ ?_; clear hQ_ Q_)) | (refine dec_splitn (Q := Q_) (fun hp_ => ?_) (fun hp_ => ?_) <;> first | (exfalso; omega) | (refine hQ_ _ _ ?_; clear hQ_ Q_)) | (refine hQ_ _ _ ?_; clear hQ_ Q_)))
  | (refine WC_cond fun K_ hK_ => ?_; simp (disch := omega) only [evT_tmp, upd_apply, WB_some, ↓reduceIte, reduceCtorEq, Nat.reduceEqDiff, Nat.reduceLT]; refine hK_ _ ?_; clear hK_ K_)))
      refine WC_loop (fun (k : Nat) f d h' => k ≤ m ∧ f 1 = .bool high ∧ f 2 = .ptr (nx h 0) 0 ∧ f 5 = ov ∧ f 6 = ii (i : Int) ∧ f 8 = ii (k : Int) ∧ d = [] ∧ ∃ G2, h' = X h (.cells (mkCells [ii sp, ii st, a]) 24 :: (G ++ G2)) h.clock ∧
        Grow h (.cells (mkCells [ii sp, ii st, a]) 24 :: G) G2 (f 7) 1 2 k ((eRow high (rows[i].take k)).map ii)) (fun k => m - k) ?_ (m + 1) 0 (by omega) ?_
      · clear g1 g2 g6
        rintro k f d h' ⟨hk, g1, g2, g5, g6, g8, rfl, G2, rfl, hg2⟩
        by_cases hkl : k < m
        · obtain ⟨id3, off3, hix3, hld3⟩ := hsv.at wf hkl ik_46
          have hkr : k < rows[i].length := by omega
          have hlo : ∀ l w, load1 id3 off3 (X h l w) = some (ii rows[i][k].1) := fun l w => by
            have := (hld3 l w).1 0 (by omega)
            rw [pairCells_get hkr (by omega)] at this
            exact this
          have hhi : ∀ l w, load1 id3 (off3 + 1) (X h l w) = some (ii rows[i][k].2) := fun l w => by
            have := (hld3 l w).1 1 (by omega)
            rw [pairCells_get hkr (by omega)] at this
            exact this
          have hsn := eRow_take (high := high) hkr
          have hr7 := hg2.resz (P := Try.prog) 47
          obtain ⟨rv', G2', hg2', -, happ0⟩ := (hg2.more []).appendN (P := Try.prog) wf un_47 sz_2 el_2 (n := 1) (new := [ii (eo high rows[i][k])]) (by omega) (by omega) (by omega) rfl rfl
          have happ : ∀ n, n = G.length + G2.length + 1 → appendE Try.prog 47 (f 7) (.sl (nx h n) 0 1 (some 1) 1) (X h (.cells (mkCells [ii sp, ii st, a]) 24 :: (G ++ (G2 ++ [.cells (mkCells [ii (eo high rows[i][k])]) 2]))) h.clock) = .ok rv' (X h (.cells (mkCells [ii sp, ii st, a]) 24 :: (G ++ G2')) h.clock) := fun n hnn => by
            have e : n = (AO.cells (mkCells [ii sp, ii st, a]) 24 :: G).length + (G2 ++ []).length := by simp; omega
            rw [e]
            simpa using happ0
          cases high
          · unfold eo at happ hsn hg2'
            simp only [Bool.false_eq_true, ↓reduceIte] at happ hsn hg2'
            (repeat' (first
  | (with_reducible first | refine WC_seq ?_ | refine WC_skip ?_ | refine WC_label ?_ | refine WC_scope ?_ | refine WC_block ?_ | refine WC_ret ?_ | refine WC_exit ?_ | refine seqQ_norm ?_ | refine seqQ_ret ?_ | refine seqQ_exit ?_ | refine blkQ_norm ?_ | refine blkQ_ret ?_ | refine blkQ_here ?_ | refine gateK_yes ?_ | refine gateK_none ?_ | refine condK_tt ?_ | refine condK_ff ?_ | refine roundQ_exit ?_ | refine roundQ_ret ?_)
  | refine WC_region ?_ | refine blkQ_out rfl ?_ | refine WO_nil ?_ | refine WD_nil ?_
  | ((first | refine WD_gate rfl rfl rfl rfl rfl fun K_ hK_ => ?_ | refine WO_gate rfl rfl rfl rfl rfl fun K_ hK_ => ?_); simp only [upd_apply, asB_bool, asB_tup, ↓reduceIte, reduceCtorEq, Nat.reduceEqDiff, Bool.not_true, Bool.not_false]; refine hK_ _ ?_; clear hK_ K_)
  | refine gateK_no (by decide) ?_
  | ((try first | refine WO_op rfl rfl rfl ?_ | refine WO_op0 rfl rfl ?_ | refine WD_op rfl rfl rfl ?_ | refine WD_op0 rfl rfl ?_); (refine WV_gen fun Q_ hQ_ => ?_; simp (disch := first | omega | (simp only [List.length_cons, List.length_nil, List.length_append]; omega)) only [bb, bp, argF, ↓reduceIte, reduceCtorEq, Nat.reduceEqDiff, Nat.reduceLT, Nat.reduceLeDiff, Nat.reduceAdd, Nat.reduceMul, Nat.reduceSub, Nat.reduceBEq, Int.reduceToNat, cond_true, cond_false, eq_self, beq_self_eq_true, g1, g2, g5, g6, g8, hlen, hix, hld, hlenv, hix3, hlo, hhi, hr7, happ, reszT_some un_47 sz_2, newPtr_X wf, newSlice_X wf, load1_X wf, loadAgg_X wf, store1_X wf, writeCells_X wf, makeFunc_def, tEvB2, bsl_47, bsl_25]; first | (refine dec_split (Q := Q_) (fun hp_ => ?_) (fun hp_ => ?_) <;> first | (exfalso; omega) | (refine hQ_ _ _ ?_; clear hQ_ Q_)) | (refine dec_splitn (Q := Q_) (fun hp_ => ?_) (fun hp_ => ?_) <;> first | (exfalso; omega) | (refine hQ_ _ _ ?_; clear hQ_ Q_)) | (refine hQ_ _ _ ?_; clear hQ_ Q_)))
  | (refine WC_cond fun K_ hK_ => ?_; simp (disch := omega) only [evT_tmp, upd_apply, WB_some, ↓reduceIte, reduceCtorEq, Nat.reduceEqDiff, Nat.reduceLT]; refine hK_ _ ?_; clear hK_ K_)))
            refine roundQ_again (k + 1) (by omega) ⟨hkl, by simp only [upd_apply, ↓reduceIte, reduceCtorEq, Nat.reduceEqDiff]; exact g1, by simp only [upd_apply, ↓reduceIte, reduceCtorEq, Nat.reduceEqDiff]; exact g2, by simp only [upd_apply, ↓reduceIte, reduceCtorEq, Nat.reduceEqDiff]; exact g5, by simp only [upd_apply, ↓reduceIte, reduceCtorEq, Nat.reduceEqDiff]; exact g6, by simp only [upd_apply, ↓reduceIte, reduceCtorEq, Nat.reduceEqDiff]; rfl, rfl, G2', rfl, ?_⟩
            simp only [upd_apply, ↓reduceIte, reduceCtorEq, Nat.reduceEqDiff]
            rw [hsn, List.map_append]
            exact hg2'
          · unfold eo at happ hsn hg2'
            simp only [↓reduceIte] at happ hsn hg2'
            (repeat' (first
  | (with_reducible first | refine WC_seq ?_ | refine WC_skip ?_ | refine WC_label ?_ | refine WC_scope ?_ | refine WC_block ?_ | refine WC_ret ?_ | refine WC_exit ?_ | refine seqQ_norm ?_ | refine seqQ_ret ?_ | refine seqQ_exit ?_ | refine blkQ_norm ?_ | refine blkQ_ret ?_ | refine blkQ_here ?_ | refine gateK_yes ?_ | refine gateK_none ?_ | refine condK_tt ?_ | refine condK_ff ?_ | refine roundQ_exit ?_ | refine roundQ_ret ?_)
  | refine WC_region ?_ | refine blkQ_out rfl ?_ | refine WO_nil ?_ | refine WD_nil ?_
  | ((first | refine WD_gate rfl rfl rfl rfl rfl fun K_ hK_ => ?_ | refine WO_gate rfl rfl rfl rfl rfl fun K_ hK_ => ?_); simp only [upd_apply, asB_bool, asB_tup, ↓reduceIte, reduceCtorEq, Nat.reduceEqDiff, Bool.not_true, Bool.not_false]; refine hK_ _ ?_; clear hK_ K_)
  | refine gateK_no (by decide) ?_
  | ((try first | refine WO_op rfl rfl rfl ?_ | refine WO_op0 rfl rfl ?_ | refine WD_op rfl rfl rfl ?_ | refine WD_op0 rfl rfl ?_); (refine WV_gen fun Q_ hQ_ => ?_; simp (disch := first | omega | (simp only [List.length_cons, List.length_nil, List.length_append]; omega)) only [bb, bp, argF, ↓reduceIte, reduceCtorEq, Nat.reduceEqDiff, Nat.reduceLT, Nat.reduceLeDiff, Nat.reduceAdd, Nat.reduceMul, Nat.reduceSub, Nat.reduceBEq, Int.reduceToNat, cond_true, cond_false, eq_self, beq_self_eq_true, g1, g2, g5, g6, g8, hlen, hix, hld, hlenv, hix3, hlo, hhi, hr7, happ, reszT_some un_47 sz_2, newPtr_X wf, newSlice_X wf, load1_X wf, loadAgg_X wf, store1_X wf, writeCells_X wf, makeFunc_def, tEvB2, bsl_47, bsl_25]; first | (refine dec_split (Q := Q_) (fun hp_ => ?_) (fun hp_ => ?_) <;> first | (exfalso; omega) | (refine hQ_ _ _ ?_; clear hQ_ Q_)) | (refine dec_splitn (Q := Q_) (fun hp_ => ?_) (fun hp_ => ?_) <;> first | (exfalso; omega) | (refine hQ_ _ _ ?_; clear hQ_ Q_)) | (refine hQ_ _ _ ?_; clear hQ_ Q_)))
  | (refine WC_cond fun K_ hK_ => ?_; simp (disch := omega) only [evT_tmp, upd_apply, WB_some, ↓reduceIte, reduceCtorEq, Nat.reduceEqDiff, Nat.reduceLT]; refine hK_ _ ?_; clear hK_ K_)))
            refine roundQ_again (k + 1) (by omega) ⟨hkl, by simp only [upd_apply, ↓reduceIte, reduceCtorEq, Nat.reduceEqDiff]; exact g1, by simp only [upd_apply, ↓reduceIte, reduceCtorEq, Nat.reduceEqDiff]; exact g2, by simp only [upd_apply, ↓reduceIte, reduceCtorEq, Nat.reduceEqDiff]; exact g5, by simp only [upd_apply, ↓reduceIte, reduceCtorEq, Nat.reduceEqDiff]; exact g6, by simp only [upd_apply, ↓reduceIte, reduceCtorEq, Nat.reduceEqDiff]; rfl, rfl, G2', rfl, ?_⟩
            simp only [upd_apply, ↓reduceIte, reduceCtorEq, Nat.reduceEqDiff]
            rw [hsn, List.map_append]
            exact hg2'
        · have hkm : k = m := by omega
          subst hkm
          have htk : rows[i].take k = rows.getD i [] := by rw [List.take_of_length_le (by omega)]; simp [List.getD, hlt]
          rw [htk] at hg2
          obtain ⟨idx, hv7, hG2⟩ : ∃ idx, f 7 = .sl (nx h ((AO.cells (mkCells [ii sp, ii st, a]) 24 :: G).length + idx)) 0 k none 1 ∧ G2[idx]? = some (.cells (mkCells ((eRow high (rows.getD i [])).map ii)) 2) := by
            obtain ⟨_, ⟨h0, _⟩ | ⟨idx, h1, h2⟩⟩ := hg2
            · omega
            · exact ⟨idx, h1, h2⟩
          have e7 : (AO.cells (mkCells [ii sp, ii st, a]) 24 :: G).length + idx = 1 + (G.length + idx) := by simp; omega
          rw [e7] at hv7
          have hr5 := hgr.resz (P := Try.prog) 25
          have hcl : cells.length = i := by have := hgr.1; omega
          obtain ⟨ov', G', hgr', hkeep, happ0⟩ := (hgr.more G2).appendN (P := Try.prog) wf un_25 sz_47 el_47 (n := 1) (new := [f 7]) (by omega) (by omega) (by omega) rfl (by rw [hv7]; rfl)
          have happ : ∀ n, n = G.length + G2.length + 1 → appendE Try.prog 25 ov (.sl (nx h n) 0 1 (some 1) 1) (X h (.cells (mkCells [ii sp, ii st, a]) 24 :: (G ++ (G2 ++ [.cells (mkCells [f 7]) 47]))) h.clock) = .ok ov' (X h (.cells (mkCells [ii sp, ii st, a]) 24 :: G') h.clock) := fun n hnn => by
            have e : n = [AO.cells (mkCells [ii sp, ii st, a]) 24].length + (G ++ G2).length := by simp; omega
            rw [e]
            simpa using happ0
          rw [hv7] at happ hgr'
          (repeat' (first
  | (with_reducible first | refine WC_seq ?_ | refine WC_skip ?_ | refine WC_label ?_ | refine WC_scope ?_ | refine WC_block ?_ | refine WC_ret ?_ | refine WC_exit ?_ | refine seqQ_norm ?_ | refine seqQ_ret ?_ | refine seqQ_exit ?_ | refine blkQ_norm ?_ | refine blkQ_ret ?_ | refine blkQ_here ?_ | refine gateK_yes ?_ | refine gateK_none ?_ | refine condK_tt ?_ | refine condK_ff ?_ | refine roundQ_exit ?_ | refine roundQ_ret ?_)
  | refine WC_region ?_ | refine blkQ_out rfl ?_ | refine WO_nil ?_ | refine WD_nil ?_
  | ((first | refine WD_gate rfl rfl rfl rfl rfl fun K_ hK_ => ?_ | refine WO_gate rfl rfl rfl rfl rfl fun K_ hK_ => ?_); simp only [upd_apply, asB_bool, asB_tup, ↓reduceIte, reduceCtorEq, Nat.reduceEqDiff, Bool.not_true, Bool.not_false]; refine hK_ _ ?_; clear hK_ K_)
  | refine gateK_no (by decide) ?_
  | ((try first | refine WO_op rfl rfl rfl ?_ | refine WO_op0 rfl rfl ?_ | refine WD_op rfl rfl rfl ?_ | refine WD_op0 rfl rfl ?_); (refine WV_gen fun Q_ hQ_ => ?_; simp (disch := first | omega | (simp only [List.length_cons, List.length_nil, List.length_append]; omega)) only [bb, bp, argF, ↓reduceIte, reduceCtorEq, Nat.reduceEqDiff, Nat.reduceLT, Nat.reduceLeDiff, Nat.reduceAdd, Nat.reduceMul, Nat.reduceSub, Nat.reduceBEq, Int.reduceToNat, cond_true, cond_false, eq_self, beq_self_eq_true, g1, g2, g5, g6, g8, hv7, hlen, hix, hld, hlenv, hr5, happ, reszT_some un_25 sz_47, reszT_none, newPtr_X wf, newSlice_X wf, load1_X wf, loadAgg_X wf, store1_X wf, writeCells_X wf, makeFunc_def, tEvB2, bsl_47, bsl_25]; first | (refine dec_split (Q := Q_) (fun hp_ => ?_) (fun hp_ => ?_) <;> first | (exfalso; omega) | (refine hQ_ _ _ ?_; clear hQ_ Q_)) | (refine dec_splitn (Q := Q_) (fun hp_ => ?_) (fun hp_ => ?_) <;> first | (exfalso; omega) | (refine hQ_ _ _ ?_; clear hQ_ Q_)) | (refine hQ_ _ _ ?_; clear hQ_ Q_)))
  | (refine WC_cond fun K_ hK_ => ?_; simp (disch := omega) only [evT_tmp, upd_apply, WB_some, ↓reduceIte, reduceCtorEq, Nat.reduceEqDiff, Nat.reduceLT]; refine hK_ _ ?_; clear hK_ K_)))
          refine roundQ_again (i + 1) (by omega) ⟨hlt, by simp only [upd_apply, ↓reduceIte, reduceCtorEq, Nat.reduceEqDiff]; exact g1, by simp only [upd_apply, ↓reduceIte, reduceCtorEq, Nat.reduceEqDiff]; exact g2, by simp only [upd_apply, ↓reduceIte, reduceCtorEq, Nat.reduceEqDiff]; rfl, rfl, G', _, (fun j => if j = i then G.length + idx else r j), rfl, by simp only [upd_apply, ↓reduceIte, reduceCtorEq, Nat.reduceEqDiff]; exact hgr', ?_⟩
          exact hrw.snoc hcl hkeep hG2
      · refine ⟨Nat.zero_le _, by simp only [upd_apply, ↓reduceIte, reduceCtorEq, Nat.reduceEqDiff]; exact g1, by simp only [upd_apply, ↓reduceIte, reduceCtorEq, Nat.reduceEqDiff]; exact g2, by simp only [upd_apply, ↓reduceIte, reduceCtorEq, Nat.reduceEqDiff]; exact hov.symm, by simp only [upd_apply, ↓reduceIte, reduceCtorEq, Nat.reduceEqDiff]; exact g6, by simp only [upd_apply, ↓reduceIte, reduceCtorEq, Nat.reduceEqDiff]; rfl, rfl, [], by rw [List.append_nil], ?_⟩
        simp only [upd_apply, ↓reduceIte, reduceCtorEq, Nat.reduceEqDiff]
        exact Grow.nil h _ [] 1 2
    · have hie : i = rows.length := by omega
      subst hie
      obtain ⟨hcl, idx, hv5, hG⟩ : cells.length = rows.length ∧ ∃ idx, f 5 = .sl (nx h ([AO.cells (mkCells [ii sp, ii st, a]) 24].length + idx)) 0 rows.length none 1 ∧ G[idx]? = some (AO.cells (mkCells cells) 47) := by
        obtain ⟨hl, ⟨h0, _⟩ | ⟨idx, h1, h2⟩⟩ := hgr
        · omega
        · exact ⟨by omega, idx, h1, h2⟩
      (repeat' (first
  | (with_reducible first | refine WC_seq ?_ | refine WC_skip ?_ | refine WC_label ?_ | refine WC_scope ?_ | refine WC_block ?_ | refine WC_ret ?_ | refine WC_exit ?_ | refine seqQ_norm ?_ | refine seqQ_ret ?_ | refine seqQ_exit ?_ | refine blkQ_norm ?_ | refine blkQ_ret ?_ | refine blkQ_here ?_ | refine gateK_yes ?_ | refine gateK_none ?_ | refine condK_tt ?_ | refine condK_ff ?_ | refine roundQ_exit ?_ | refine roundQ_ret ?_)
  | refine WC_region ?_ | refine blkQ_out rfl ?_ | refine WO_nil ?_ | refine WD_nil ?_
  | ((first | refine WD_gate rfl rfl rfl rfl rfl fun K_ hK_ => ?_ | refine WO_gate rfl rfl rfl rfl rfl fun K_ hK_ => ?_); simp only [upd_apply, asB_bool, asB_tup, ↓reduceIte, reduceCtorEq, Nat.reduceEqDiff, Bool.not_true, Bool.not_false]; refine hK_ _ ?_; clear hK_ K_)
  | refine gateK_no (by decide) ?_
  | ((try first | refine WO_op rfl rfl rfl ?_ | refine WO_op0 rfl rfl ?_ | refine WD_op rfl rfl rfl ?_ | refine WD_op0 rfl rfl ?_); (refine WV_gen fun Q_ hQ_ => ?_; simp (disch := first | omega | (simp only [List.length_cons, List.length_nil, List.length_append]; omega)) only [bb, bp, argF, ↓reduceIte, reduceCtorEq, Nat.reduceEqDiff, Nat.reduceLT, Nat.reduceLeDiff, Nat.reduceAdd, Nat.reduceMul, Nat.reduceSub, Nat.reduceBEq, Int.reduceToNat, cond_true, cond_false, eq_self, beq_self_eq_true, g1, g2, g6, hlen, newPtr_X wf, newSlice_X wf, load1_X wf, loadAgg_X wf, store1_X wf, writeCells_X wf, makeFunc_def, tEvB2, bsl_47, bsl_25]; first | (refine dec_split (Q := Q_) (fun hp_ => ?_) (fun hp_ => ?_) <;> first | (exfalso; omega) | (refine hQ_ _ _ ?_; clear hQ_ Q_)) | (refine dec_splitn (Q := Q_) (fun hp_ => ?_) (fun hp_ => ?_) <;> first | (exfalso; omega) | (refine hQ_ _ _ ?_; clear hQ_ Q_)) | (refine hQ_ _ _ ?_; clear hQ_ Q_)))
  | (refine WC_cond fun K_ hK_ => ?_; simp (disch := omega) only [evT_tmp, upd_apply, WB_some, ↓reduceIte, reduceCtorEq, Nat.reduceEqDiff, Nat.reduceLT]; refine hK_ _ ?_; clear hK_ K_)))
      refine endQ_ret _ _ rfl (ret1 (by decide)) ?_
      simp only [upd_apply, ↓reduceIte, reduceCtorEq, Nat.reduceEqDiff]
      refine WV_keep wf (Nat.le_refl _) (fun hf => by rw [hv5] at hf; cases hf) (fun _ => ⟨_, 1 + idx, cells, fun j => 1 + r j, rfl, hv5, ?_, hcl, ⟨fun j hj => ?_, fun j j' hj hj' => ?_⟩⟩)
      · rw [Nat.add_comm, List.getElem?_cons_succ]; exact hG
      · obtain ⟨c1, c2⟩ := hrw.at_ j hj
        rw [Nat.zero_add]
        exact ⟨c1, by rw [Nat.add_comm, List.getElem?_cons_succ]; exact c2⟩
      · have := hrw.mono j j' hj hj'; omega
  · refine ⟨Nat.zero_le _, by simp only [upd_apply, ↓reduceIte, reduceCtorEq, Nat.reduceEqDiff], by simp only [upd_apply, ↓reduceIte, reduceCtorEq, Nat.reduceEqDiff], by simp only [upd_apply, ↓reduceIte, reduceCtorEq, Nat.reduceEqDiff]; rfl, rfl, [], [], fun _ => 0, rfl, by simp only [upd_apply, ↓reduceIte, reduceCtorEq, Nat.reduceEqDiff]; exact Grow.nil h _ [] 1 47, ⟨fun j hj => absurd hj (Nat.not_lt_zero j), fun j j' h1 h2 => absurd h2 (Nat.not_lt_zero _)⟩⟩
end Go.Proofs.Ytghondkiondeaab
end

/- EvB3 -/
section
/-
  LAYER 2: the hull that has a number, as the reference makes it.
-/
namespace Go.Proofs.Ytghondkiondeaab
open Go.Ev
set_option maxRecDepth 100000
set_option linter.unusedSimpArgs false
set_option linter.unusedVariables false
set_option maxHeartbeats 4000000

theorem tEvB3 : type_of% (And.intro (And.intro (And.intro (And.intro (And.intro (@pb_37) (@pb_40)) (And.intro (@pb_30) (@pb_8))) (And.intro (And.intro (@pb_12) (@pb_15)) (And.intro (@ia_2) (@sz_2)))) (And.intro (And.intro (And.intro (@ze_2) (@ia_3)) (And.intro (@sz_3) (@ia_4))) (And.intro (And.intro (@sz_4) (@ia_22)) (And.intro (@sz_22) (And.intro (@ia_24) (@sz_24)))))) (And.intro (And.intro (And.intro (And.intro (@ia_25) (@sz_25)) (And.intro (@ia_46) (@sz_46))) (And.intro (And.intro (@ia_47) (@sz_47)) (And.intro (@ia_70) (And.intro (@sz_70) (@ze_70))))) (And.intro (And.intro (And.intro (@fo_70_0) (@fo_70_1)) (And.intro (@fo_24_2) (@ik_22))) (And.intro (And.intro (@ik_46) (@ik_25)) (And.intro (@ik_47) (And.intro (@ni_47) (@ni_25))))))) := And.intro (And.intro (And.intro (And.intro (And.intro (@pb_37) (@pb_40)) (And.intro (@pb_30) (@pb_8))) (And.intro (And.intro (@pb_12) (@pb_15)) (And.intro (@ia_2) (@sz_2)))) (And.intro (And.intro (And.intro (@ze_2) (@ia_3)) (And.intro (@sz_3) (@ia_4))) (And.intro (And.intro (@sz_4) (@ia_22)) (And.intro (@sz_22) (And.intro (@ia_24) (@sz_24)))))) (And.intro (And.intro (And.intro (And.intro (@ia_25) (@sz_25)) (And.intro (@ia_46) (@sz_46))) (And.intro (And.intro (@ia_47) (@sz_47)) (And.intro (@ia_70) (And.intro (@sz_70) (@ze_70))))) (And.intro (And.intro (And.intro (@fo_70_0) (@fo_70_1)) (And.intro (@fo_24_2) (@ik_22))) (And.intro (And.intro (@ik_46) (@ik_25)) (And.intro (@ik_47) (And.intro (@ni_47) (@ni_25))))))
/-- The row of a station, by its places. -/
def rowOf (Y : Nat → Int) (m j : Nat) : List Int := (List.range m).map fun k => Y (j * m + k)
theorem rowOf_length (Y : Nat → Int) (m j : Nat) : (rowOf Y m j).length = m := by unfold rowOf; simp
theorem rowOf_get (Y : Nat → Int) (m j : Nat) {k : Nat} (hk : k < m) : (rowOf Y m j)[k]? = some (Y (j * m + k)) := by
  unfold rowOf; rw [List.getElem?_map, List.getElem?_range hk]; rfl
theorem gRow_gB (Y : Nat → Int) {n m i : Nat} (hn : n ≤ 10) (hm : m ≤ 6) (hi : i < n) : gRow (gB Y m (n * m)) m i = rowOf Y m i := by
  have hl : (gB Y m (n * m)).length = 60 := gB_length _ _ _
  refine List.ext_getElem? fun k => ?_
  by_cases hk : k < m
  · have hq : i * m + k < n * m := by
      have := Nat.mul_le_mul_right m (show i + 1 ≤ n from hi)
      rw [Nat.succ_mul] at this; omega
    have e1 : (i * m + k) / m = i := by rw [Nat.mul_comm, Nat.mul_add_div (by omega), Nat.div_eq_of_lt hk]; omega
    have e2 : (i * m + k) % m = k := by rw [Nat.mul_comm, Nat.mul_add_mod]; exact Nat.mod_eq_of_lt hk
    have h1 := gB_at Y hn hm (n * m) (Nat.le_refl _) (i * m + k) hq
    unfold yat at h1
    rw [e1, e2] at h1
    have hl2 : i * 6 + k < (gB Y m (n * m)).length := by omega
    unfold gRow rowOf
    rw [List.getElem?_take_of_lt hk, List.getElem?_drop, List.getElem?_map, List.getElem?_range hk]
    rw [List.getD_eq_getElem?_getD, List.getElem?_eq_getElem hl2] at h1
    rw [List.getElem?_eq_getElem hl2]
    simp only [Option.getD_some] at h1
    rw [h1]; rfl
  · have hl2 := gRow_length hl (i := i) (by omega) hm
    rw [List.getElem?_eq_none (by omega), List.getElem?_eq_none (by rw [rowOf_length]; omega)]
theorem listOf_gB (Y : Nat → Int) {n m : Nat} (hn : n ≤ 10) (hm : m ≤ 6) : listOf (gB Y m (n * m)) n m = (List.range n).map (rowOf Y m) := by
  unfold listOf
  refine List.map_congr_left fun i hi => ?_
  exact gRow_gB Y hn hm (List.mem_range.1 hi)
theorem eRow_rowOf {high : Bool} {rows : List (List (Int × Int))} {m j : Nat} (hj : j < rows.length) (hl : rows[j].length = m) : eRow high (rows.getD j []) = rowOf (fun q => eo high (rAt rows m q)) m j := by
  have e : rows.getD j [] = rows[j] := by simp [List.getD, hj]
  rw [e]
  unfold eRow rowOf
  refine List.ext_getElem (by simp [hl]) fun k h1 h2 => ?_
  have hk : k < m := by simpa using h2
  rw [List.getElem_map, List.getElem_map, List.getElem_range]
  show _ = eo high (rAt rows m (j * m + k))
  rw [rAt_ik hj hk hl]
theorem RwI.congr {h : H} {B : Nat} {G : List AO} {cells : List AV} {R R' : Nat → List Int} {r : Nat → Nat} {m i : Nat} (s : RwI h B G cells R r m i) (e : ∀ j, j < i → R' j = R j) : RwI h B G cells R' r m i :=
  ⟨fun j hj => by rw [e j hj]; exact s.at_ j hj, s.mono⟩
theorem RwI.inj {h : H} {B : Nat} {G : List AO} {cells : List AV} {R : Nat → List Int} {r : Nat → Nat} {m n : Nat} (s : RwI h B G cells R r m n) {i j : Nat} (hi : i < n) (hj : j < n) (hne : j ≠ i) : r j ≠ r i := by
  rcases Nat.lt_or_gt_of_ne hne with h1 | h1
  · have := s.mono j i h1 hi; omega
  · have := s.mono i j h1 hj; omega
theorem RwI.put {h : H} {B : Nat} {G : List AO} {cells : List AV} {R R' : Nat → List Int} {r : Nat → Nat} {m n : Nat} (s : RwI h B G cells R r m n) {i : Nat} (hi : i < n) (e : ∀ j, j < n → j ≠ i → R' j = R j) :
    RwI h B (G.set (r i) (.cells (mkCells ((R' i).map ii)) 2)) cells R' r m n := by
  refine ⟨fun j hj => ?_, s.mono⟩
  obtain ⟨h1, h2⟩ := s.at_ j hj
  refine ⟨h1, ?_⟩
  by_cases hji : j = i
  · subst hji
    rw [List.getElem?_set_self (List.getElem?_eq_some_iff.1 h2).1]
  · rw [List.getElem?_set_ne (s.inj hj hi (fun e => hji e.symm)), e j hj hji]; exact h2
/-- Offsets that a call has made, handed over. -/
theorem RwI.ys {h : H} (wf : Wf h) {G : List AO} {w B n m : Nat} {cells : List AV} {R : Nat → List Int} {r : Nat → Nat} (s : RwI h 0 G cells R r m n) (hw : w ≤ h.clock + G.length) (hB : G[B]? = some (AO.cells (mkCells cells) 47)) (hc : cells.length = n) (hR : ∀ j, j < n → (R j).length = m) :
    YsR (X h G w) (.sl (nx h B) 0 n none 1) cells ((List.range n).map R) := by
  refine ⟨wf.X hw, ?_, fun j hj => ?_⟩
  · rw [List.length_map, List.length_range]
    exact Sl.new wf (by omega) hB
  · rw [List.length_map, List.length_range] at hj
    obtain ⟨h1, h2⟩ := s.at_ j hj
    rw [Nat.zero_add] at h1
    refine ⟨_, h1, ?_, fun id off l esz e => by cases e; rfl⟩
    rw [List.getElem_map, List.getElem_range]
    rw [hR j hj]
    exact .inl (Sl.new wf (by rw [List.length_map, hR j hj]; omega) h2)

/-- The offsets when the places from one on are done. -/
def Yd (rows : List (List (Int × Int))) (m T : Nat) (num : Int) (p q : Nat) : Int := if p ≤ q then numY rows m T num q else (rAt rows m q).1
theorem rowOf_put {rows : List (List (Int × Int))} {m T i k : Nat} {num : Int} (hk : k < m) :
    ((rowOf (Yd rows m T num (i * m + k + 1)) m i).map ii).set k (ii (numY rows m T num (i * m + k))) = (rowOf (Yd rows m T num (i * m + k)) m i).map ii := by
  refine List.ext_getElem? fun j => ?_
  by_cases hj : j < m
  · rw [List.getElem?_map, rowOf_get _ _ _ hj, List.getElem?_set, List.getElem?_map, rowOf_get _ _ _ hj, List.length_map, rowOf_length]
    by_cases hjk : k = j
    · subst hjk
      rw [if_pos rfl, if_pos hk]
      unfold Yd
      rw [if_pos (Nat.le_refl _)]; rfl
    · rw [if_neg hjk]
      unfold Yd
      by_cases h3 : k < j
      · rw [if_pos (by omega), if_pos (by omega)]
      · rw [if_neg (by omega), if_neg (by omega)]
  · rw [List.getElem?_eq_none (by simp [rowOf_length]; omega), List.getElem?_eq_none (by simp [rowOf_length]; omega)]
theorem rowOf_other {rows : List (List (Int × Int))} {m T i j k : Nat} {num : Int} (hk : k < m) (hji : j ≠ i) : rowOf (Yd rows m T num (i * m + k)) m j = rowOf (Yd rows m T num (i * m + k + 1)) m j := by
  unfold rowOf
  refine List.map_congr_left fun q hq => ?_
  have hq' := List.mem_range.1 hq
  have hne : j * m + q ≠ i * m + k := fun e => by
    rcases Nat.lt_or_gt_of_ne hji with h1 | h1
    · have := Nat.mul_le_mul_right m (show j + 1 ≤ i from h1)
      rw [Nat.succ_mul] at this; omega
    · have := Nat.mul_le_mul_right m (show i + 1 ≤ j from h1)
      rw [Nat.succ_mul] at this; omega
  unfold Yd
  by_cases h3 : i * m + k ≤ j * m + q
  · rw [if_pos h3, if_pos (by omega)]
  · rw [if_neg h3, if_neg (by omega)]
theorem index_sl {t m id off len cap esz i : _} (hk : idxKind Try.prog t = some (none, m)) (hi : i < len) : indexAddrE Try.prog t (.sl id off len cap esz) (.int .i64 ((i : Nat) : Int)) = some (.ptr id (off + i * m)) := by
  rw [indexAddrE_def, toNatE_lit]; dsimp only; rw [hk]; dsimp only; exact indexAt_sl hi

theorem nthR (sp st : Int) (a : AV) (rvs : List AV) (rows : List (List (Int × Int))) (num : Int) (hnum : 0 ≤ num ∧ num ≤ 1000000) (he : hullErr sp st rows = 0) (h : H) (x : HullR h a rvs rows) :
    WV ((om Try.prog KK).call (.fn 40 [.agg [ii sp, ii st, a], ii num]) h) fun v h' => ∃ M cells, h' = X h M h.w ∧ YsR (X h M h.w) v cells (listOf (gB (numY rows (m0 rows) (rows.length * m0 rows) num) (m0 rows) (rows.length * m0 rows)) rows.length (m0 rows)) ∧ flat v = false := by
  have wf := x.wf
  obtain ⟨hn, hm, hall, hsp, hst, hof⟩ := hullErr_ok he
  have xat := x.at (m := m0 rows) (by omega) (fun i hi => hall _ (List.getElem_mem hi))
  obtain ⟨y, h1, ey, M0, B0, cells, r0, rfl, rfl, hB0, hcl, hrw0⟩ := endR sp st a rvs rows false he _ (x.up [.cells (mkCells [ii sp, ii st, a]) 24] h.clock (by simp))
  have k0 := hok he (gOf_or 0)
  generalize hmm : m0 rows = m at *
  rw [X_X, X_w] at ey
  obtain ⟨T, hT⟩ : ∃ T, T = rows.length * m := ⟨_, rfl⟩
  rw [← hT]
  have hoffs : ∀ q, q < T → isOff (rAt rows m q) := fun q hq => k0.hoff q (by omega)
  have hrem := remD_in hoffs hnum
  obtain ⟨B, hB⟩ : ∃ B, B = 1 + B0 := ⟨_, rfl⟩
  rw [nx_X, show ([.cells (mkCells [ii sp, ii st, a]) 24] : List AO).length + B0 = B by rw [hB]; rfl] at ey
  have hlen : ∀ h', lenE Try.prog 22 a h' = some (ii (rows.length : Int)) := fun h' => x.sl.len un_22
  have len1 : ∀ (t : TypeId) e, Try.prog.underlying t = some (.slice e) → ∀ id n h', lenE Try.prog t (.sl id 0 n none 1) h' = some (ii (n : Int)) := fun t e hu id n h' => by
    unfold lenE
    rw [hu]
    rfl
  have hleny : ∀ h', lenE Try.prog 25 (.sl (nx h B) 0 rows.length none 1) h' = some (ii (rows.length : Int)) := len1 25 47 un_25 _ _
  have hlenr : ∀ id h', lenE Try.prog 47 (.sl id 0 m none 1) h' = some (ii (m : Int)) := fun id => len1 47 2 un_47 id _
  obtain ⟨L0, hL0⟩ : ∃ L0, L0 = [.cells (mkCells [ii sp, ii st, a]) 24] ++ M0 := ⟨_, rfl⟩
  rw [← hL0] at ey
  have hd0 : L0[0]? = some (.cells (mkCells [ii sp, ii st, a]) 24) := by rw [hL0]; rfl
  have hB1 : L0[B]? = some (AO.cells (mkCells cells) 47) := by rw [hL0, hB, Nat.add_comm]; exact hB0
  have hrw1 : RwI h 0 L0 cells (rowOf (Yd rows m T num T) m) (fun j => 1 + r0 j) m rows.length := by
    refine ⟨fun j hj => ?_, fun j j' h1 h2 => by have := hrw0.mono j j' h1 h2; omega⟩
    obtain ⟨c1, c2⟩ := hrw0.at_ j hj
    rw [nx_X] at c1
    refine ⟨by rw [c1, Nat.zero_add, Nat.zero_add]; rfl, ?_⟩
    rw [hL0, Nat.add_comm]
    have e : eRow false (rows.getD j []) = rowOf (Yd rows m T num T) m j := by
      rw [eRow_rowOf (m := m) hj (hall _ (List.getElem_mem hj))]
      unfold rowOf
      refine List.map_congr_left fun q hq => ?_
      have hq' := List.mem_range.1 hq
      unfold Yd eo
      have : j * m + q < T := by
        have := Nat.mul_le_mul_right m (show j + 1 ≤ rows.length from hj)
        rw [Nat.succ_mul] at this; omega
      rw [if_neg (by omega)]
      rfl
    rw [e] at c2
    exact c2
  generalize (fun j => 1 + r0 j) = r at *
  clear hrw0 hL0 hB0 hB
  refine WV_call (fn := Try.f40) Try.func40 rfl rfl rfl rfl rfl ?_
  simp only [argF]
  (repeat' (first
  | (with_reducible first | refine WC_seq ?_ | refine WC_skip ?_ | refine WC_label ?_ | refine WC_scope ?_ | refine WC_block ?_ | refine WC_ret ?_ | refine WC_exit ?_ | refine seqQ_norm ?_ | refine seqQ_ret ?_ | refine seqQ_exit ?_ | refine blkQ_norm ?_ | refine blkQ_ret ?_ | refine blkQ_here ?_ | refine gateK_yes ?_ | refine gateK_none ?_ | refine condK_tt ?_ | refine condK_ff ?_ | refine roundQ_exit ?_ | refine roundQ_ret ?_)
  | refine WC_region ?_ | refine blkQ_out rfl ?_ | refine WO_nil ?_ | refine WD_nil ?_
  | ((first | refine WD_gate rfl rfl rfl rfl rfl fun K_ hK_ => ?_ | refine WO_gate rfl rfl rfl rfl rfl fun K_ hK_ => ?_); simp only [upd_apply, asB_bool, asB_tup, ↓reduceIte, reduceCtorEq, Nat.reduceEqDiff, Bool.not_true, Bool.not_false]; refine hK_ _ ?_; clear hK_ K_)
  | refine gateK_no (by decide) ?_
  | ((try first | refine WO_op rfl rfl rfl ?_ | refine WO_op0 rfl rfl ?_ | refine WD_op rfl rfl rfl ?_ | refine WD_op0 rfl rfl ?_); (refine WV_gen fun Q_ hQ_ => ?_; simp (disch := first | omega | (simp only [List.length_cons, List.length_nil, List.length_append]; omega)) only [bb, bp, argF, ↓reduceIte, reduceCtorEq, Nat.reduceEqDiff, Nat.reduceLT, Nat.reduceLeDiff, Nat.reduceAdd, Nat.reduceMul, Nat.reduceSub, Nat.reduceBEq, Int.reduceToNat, cond_true, cond_false, eq_self, beq_self_eq_true, ey, hleny, newPtr_X wf, newSlice_X wf, load1_X wf, loadAgg_X wf, store1_X wf, writeCells_X wf, makeFunc_def, tEvB3, bsl_47, bsl_25]; first | (refine dec_split (Q := Q_) (fun hp_ => ?_) (fun hp_ => ?_) <;> first | (exfalso; omega) | (refine hQ_ _ _ ?_; clear hQ_ Q_)) | (refine dec_splitn (Q := Q_) (fun hp_ => ?_) (fun hp_ => ?_) <;> first | (exfalso; omega) | (refine hQ_ _ _ ?_; clear hQ_ Q_)) | (refine hQ_ _ _ ?_; clear hQ_ Q_)))
  | (refine WC_cond fun K_ hK_ => ?_; simp (disch := omega) only [evT_tmp, upd_apply, WB_some, ↓reduceIte, reduceCtorEq, Nat.reduceEqDiff, Nat.reduceLT]; refine hK_ _ ?_; clear hK_ K_)))
  refine WC_loop (fun (j : Nat) f d h' => j ≤ rows.length ∧ f 1 = ii (remD rows m T num (T - j * m)) ∧ f 2 = .ptr (nx h 0) 0 ∧ f 5 = .sl (nx h B) 0 rows.length none 1 ∧ f 6 = ii ((j : Int) - 1) ∧ d = [] ∧ ∃ L, h' = X h L h.clock ∧
    L[0]? = some (.cells (mkCells [ii sp, ii st, a]) 24) ∧ L[B]? = some (AO.cells (mkCells cells) 47) ∧ RwI h 0 L cells (rowOf (Yd rows m T num (j * m)) m) r m rows.length) (fun j => j) ?_ (rows.length + 1) rows.length (by omega) ?_
  · rintro j f d h' ⟨hj, g1, g2, g5, g6, rfl, L, rfl, hd, hLB, hrw⟩
    by_cases hj0 : 0 < j
    · obtain ⟨i, rfl⟩ : ∃ i, j = i + 1 := ⟨j - 1, by omega⟩
      have hlt : i < rows.length := by omega
      have e6 : ((i + 1 : Nat) : Int) - 1 = ((i : Nat) : Int) := by omega
      rw [e6] at g6
      obtain ⟨v, hv, hsv, hrl⟩ := xat.row i hlt
      obtain ⟨id, off, hix, hld⟩ := x.sl.at1 wf hlt ik_22
      rw [hv] at hld
      obtain ⟨c1, c2⟩ := hrw.at_ i hlt
      rw [Nat.zero_add] at c1
      have hix5 : indexAddrE Try.prog 25 (.sl (nx h B) 0 rows.length none 1) (.int .i64 ((i : Nat) : Int)) = some (.ptr (nx h B) i) := by
        have := index_sl (t := 25) (id := nx h B) (off := 0) (len := rows.length) (cap := none) (esz := 1) (i := i) ik_25 hlt
        rw [Nat.zero_add, Nat.mul_one] at this
        exact this
      have hld5 : ∀ w, load1 (nx h B) i (X h L w) = some (.sl (nx h (r i)) 0 m none 1) := fun w => by rw [load1_new wf hLB]; exact c1
      (repeat' (first
  | (with_reducible first | refine WC_seq ?_ | refine WC_skip ?_ | refine WC_label ?_ | refine WC_scope ?_ | refine WC_block ?_ | refine WC_ret ?_ | refine WC_exit ?_ | refine seqQ_norm ?_ | refine seqQ_ret ?_ | refine seqQ_exit ?_ | refine blkQ_norm ?_ | refine blkQ_ret ?_ | refine blkQ_here ?_ | refine gateK_yes ?_ | refine gateK_none ?_ | refine condK_tt ?_ | refine condK_ff ?_ | refine roundQ_exit ?_ | refine roundQ_ret ?_)
  | refine WC_region ?_ | refine blkQ_out rfl ?_ | refine WO_nil ?_ | refine WD_nil ?_
  | ((first | refine WD_gate rfl rfl rfl rfl rfl fun K_ hK_ => ?_ | refine WO_gate rfl rfl rfl rfl rfl fun K_ hK_ => ?_); simp only [upd_apply, asB_bool, asB_tup, ↓reduceIte, reduceCtorEq, Nat.reduceEqDiff, Bool.not_true, Bool.not_false]; refine hK_ _ ?_; clear hK_ K_)
  | refine gateK_no (by decide) ?_
  | ((try first | refine WO_op rfl rfl rfl ?_ | refine WO_op0 rfl rfl ?_ | refine WD_op rfl rfl rfl ?_ | refine WD_op0 rfl rfl ?_); (refine WV_gen fun Q_ hQ_ => ?_; simp (disch := first | omega | (simp only [List.length_cons, List.length_nil, List.length_append]; omega)) only [bb, bp, argF, ↓reduceIte, reduceCtorEq, Nat.reduceEqDiff, Nat.reduceLT, Nat.reduceLeDiff, Nat.reduceAdd, Nat.reduceMul, Nat.reduceSub, Nat.reduceBEq, Int.reduceToNat, cond_true, cond_false, eq_self, beq_self_eq_true, g1, g2, g5, g6, hleny, hix5, hld5, hlenr, tEvB3, bsl_47, bsl_25]; first | (refine dec_split (Q := Q_) (fun hp_ => ?_) (fun hp_ => ?_) <;> first | (exfalso; omega) | (refine hQ_ _ _ ?_; clear hQ_ Q_)) | (refine dec_splitn (Q := Q_) (fun hp_ => ?_) (fun hp_ => ?_) <;> first | (exfalso; omega) | (refine hQ_ _ _ ?_; clear hQ_ Q_)) | (refine hQ_ _ _ ?_; clear hQ_ Q_)))
  | (refine WC_cond fun K_ hK_ => ?_; simp (disch := omega) only [evT_tmp, upd_apply, WB_some, ↓reduceIte, reduceCtorEq, Nat.reduceEqDiff, Nat.reduceLT]; refine hK_ _ ?_; clear hK_ K_)))
      refine WC_loop (fun (k : Nat) f d h' => k ≤ m ∧ f 1 = ii (remD rows m T num (T - (i * m + k))) ∧ f 2 = .ptr (nx h 0) 0 ∧ f 5 = .sl (nx h B) 0 rows.length none 1 ∧ f 6 = ii (i : Int) ∧ f 7 = ii ((k : Int) - 1) ∧ d = [] ∧ ∃ L, h' = X h L h.clock ∧
        L[0]? = some (.cells (mkCells [ii sp, ii st, a]) 24) ∧ L[B]? = some (AO.cells (mkCells cells) 47) ∧ RwI h 0 L cells (rowOf (Yd rows m T num (i * m + k)) m) r m rows.length) (fun k => k) ?_ (m + 1) m (by omega) ?_
      · clear g1 g2 g5 g6 hd hLB hrw c1 c2 hld5
        rintro k f d h' ⟨hk, g1, g2, g5, g6, g7, rfl, L, rfl, hd, hLB, hrw⟩
        by_cases hk0 : 0 < k
        · obtain ⟨k, rfl⟩ : ∃ k', k = k' + 1 := ⟨k - 1, by omega⟩
          have hkl : k < m := by omega
          have e7 : ((k + 1 : Nat) : Int) - 1 = ((k : Nat) : Int) := by omega
          rw [e7] at g7
          obtain ⟨c1, c2⟩ := hrw.at_ i hlt
          rw [Nat.zero_add] at c1
          have hld5 : ∀ w, load1 (nx h B) i (X h L w) = some (.sl (nx h (r i)) 0 m none 1) := fun w => by rw [load1_new wf hLB]; exact c1
          have hdH : ∀ w, load1 (nx h 0) 2 (X h L w) = some a := fun w => by rw [load1_new wf hd]; rfl
          obtain ⟨id3, off3, hix3, hld3⟩ := hsv.at wf hkl ik_46
          have hkr : k < rows[i].length := by omega
          have hlo : ∀ l w, load1 id3 off3 (X h l w) = some (ii rows[i][k].1) := fun l w => by
            have := (hld3 l w).1 0 (by omega)
            rw [pairCells_get hkr (by omega)] at this
            exact this
          have hhi : ∀ l w, load1 id3 (off3 + 1) (X h l w) = some (ii rows[i][k].2) := fun l w => by
            have := (hld3 l w).1 1 (by omega)
            rw [pairCells_get hkr (by omega)] at this
            exact this
          have hq : i * m + k < T := by
            have := Nat.mul_le_mul_right m (show i + 1 ≤ rows.length from hlt)
            rw [Nat.succ_mul] at this; omega
          have hr := rAt_ik hlt hkl hrl
          have hoff := hoffs _ hq
          have hwd := wd_in hoff
          have hwe : wd rows m (i * m + k) = rows[i][k].2 - rows[i][k].1 + 1 := by unfold wd; rw [hr]
          have hre := hrem (T - (i * m + (k + 1))) (by omega)
          have hy := numY_in hoffs num hq
          have hye : numY rows m T num (i * m + k) = rows[i][k].1 + remD rows m T num (T - (i * m + (k + 1))) % (rows[i][k].2 - rows[i][k].1 + 1) := by
            unfold numY
            rw [hr, hwe, show T - 1 - (i * m + k) = T - (i * m + (k + 1)) by omega]
          have hnx : remD rows m T num (T - (i * m + k)) = remD rows m T num (T - (i * m + (k + 1))) / (rows[i][k].2 - rows[i][k].1 + 1) := by
            rw [show T - (i * m + k) = (T - (i * m + (k + 1))) + 1 by omega]
            show _ / wd rows m (T - 1 - (T - (i * m + (k + 1)))) = _
            rw [show T - 1 - (T - (i * m + (k + 1))) = i * m + k by omega, hwe]
          have hre2 := hrem (T - (i * m + k)) (by omega)
          have hcell : (rowOf (Yd rows m T num (i * m + (k + 1))) m i)[k]? = some rows[i][k].1 := by
            rw [rowOf_get _ _ _ hkl]
            unfold Yd
            rw [if_neg (by omega), hr]
          have hix7 : indexAddrE Try.prog 47 (.sl (nx h (r i)) 0 m none 1) (.int .i64 ((k : Nat) : Int)) = some (.ptr (nx h (r i)) k) := by
            have := index_sl (t := 47) (id := nx h (r i)) (off := 0) (len := m) (cap := none) (esz := 1) (i := k) ik_47 hkl
            rw [Nat.zero_add, Nat.mul_one] at this
            exact this
          have hld7 : ∀ w, load1 (nx h (r i)) k (X h L w) = some (ii rows[i][k].1) := fun w => by rw [load1_new wf c2, List.getElem?_map, hcell]; rfl
          obtain ⟨L', hL'⟩ : ∃ L', L' = L.set (r i) (.cells (mkCells ((rowOf (Yd rows m T num (i * m + k)) m i).map ii)) 2) := ⟨_, rfl⟩
          have hput : ((rowOf (Yd rows m T num (i * m + (k + 1))) m i).map ii).set k (ii (numY rows m T num (i * m + k))) = (rowOf (Yd rows m T num (i * m + k)) m i).map ii := rowOf_put hkl
          have hst7 : ∀ w, store1 (nx h (r i)) k (ii (numY rows m T num (i * m + k))) (X h L w) = some (X h L' (min (h.clock + r i) w)) := fun w => by
            rw [store1_new wf c2 (by rw [List.length_map, rowOf_length]; exact hkl) rfl, hput, ← hL']
          rw [hwe] at hwd
          rw [hr] at hoff hy
          unfold isOff at hoff
          obtain ⟨R, hR⟩ : ∃ R, R = remD rows m T num (T - (i * m + (k + 1))) := ⟨_, rfl⟩
          rw [← hR] at g1 hre hye hnx
          have hz : rows[i][k].2 - rows[i][k].1 + 1 ≠ 0 := by omega
          have hmo : R.tmod (rows[i][k].2 - rows[i][k].1 + 1) = R % (rows[i][k].2 - rows[i][k].1 + 1) := Int.tmod_eq_emod_of_nonneg hre.1
          have hdi : R.tdiv (rows[i][k].2 - rows[i][k].1 + 1) = R / (rows[i][k].2 - rows[i][k].1 + 1) := Int.tdiv_eq_ediv_of_nonneg hre.1
          rw [hye] at hst7 hy
          rw [hnx] at hre2
          have hwr : IntKind.i64.wrap (R / (rows[i][k].2 - rows[i][k].1 + 1)) = R / (rows[i][k].2 - rows[i][k].1 + 1) := wrap_in _ (by omega) (by omega)
          (repeat' (first
  | (with_reducible first | refine WC_seq ?_ | refine WC_skip ?_ | refine WC_label ?_ | refine WC_scope ?_ | refine WC_block ?_ | refine WC_ret ?_ | refine WC_exit ?_ | refine seqQ_norm ?_ | refine seqQ_ret ?_ | refine seqQ_exit ?_ | refine blkQ_norm ?_ | refine blkQ_ret ?_ | refine blkQ_here ?_ | refine gateK_yes ?_ | refine gateK_none ?_ | refine condK_tt ?_ | refine condK_ff ?_ | refine roundQ_exit ?_ | refine roundQ_ret ?_)
  | refine WC_region ?_ | refine blkQ_out rfl ?_ | refine WO_nil ?_ | refine WD_nil ?_
  | ((first | refine WD_gate rfl rfl rfl rfl rfl fun K_ hK_ => ?_ | refine WO_gate rfl rfl rfl rfl rfl fun K_ hK_ => ?_); simp only [upd_apply, asB_bool, asB_tup, ↓reduceIte, reduceCtorEq, Nat.reduceEqDiff, Bool.not_true, Bool.not_false]; refine hK_ _ ?_; clear hK_ K_)
  | refine gateK_no (by decide) ?_
  | ((try first | refine WO_op rfl rfl rfl ?_ | refine WO_op0 rfl rfl ?_ | refine WD_op rfl rfl rfl ?_ | refine WD_op0 rfl rfl ?_); (refine WV_gen fun Q_ hQ_ => ?_; simp (disch := first | omega | (simp only [List.length_cons, List.length_nil, List.length_append]; omega)) only [bb, bp, argF, ↓reduceIte, reduceCtorEq, Nat.reduceEqDiff, Nat.reduceLT, Nat.reduceLeDiff, Nat.reduceAdd, Nat.reduceMul, Nat.reduceSub, Nat.reduceBEq, Int.reduceToNat, cond_true, cond_false, eq_self, beq_self_eq_true, g1, g2, g5, g6, g7, tEvB3, bsl_47, bsl_25]; first | (refine dec_split (Q := Q_) (fun hp_ => ?_) (fun hp_ => ?_) <;> first | (exfalso; omega) | (refine hQ_ _ _ ?_; clear hQ_ Q_)) | (refine dec_splitn (Q := Q_) (fun hp_ => ?_) (fun hp_ => ?_) <;> first | (exfalso; omega) | (refine hQ_ _ _ ?_; clear hQ_ Q_)) | (refine hQ_ _ _ ?_; clear hQ_ Q_)))
  | (refine WC_cond fun K_ hK_ => ?_; simp (disch := omega) only [evT_tmp, upd_apply, WB_some, ↓reduceIte, reduceCtorEq, Nat.reduceEqDiff, Nat.reduceLT]; refine hK_ _ ?_; clear hK_ K_)))
          refine WC_drawnB [.no, .no, .no, .no, .no, .no, .no, .no, .no, .no, .no, .no, .no, .no, .no, .no, .no, .no, .full, .full, .full] (by kernel_rfl) ?_
          (repeat' (first
  | (with_reducible first | refine WC_seq ?_ | refine WC_skip ?_ | refine WC_label ?_ | refine WC_scope ?_ | refine WC_block ?_ | refine WC_ret ?_ | refine WC_exit ?_ | refine seqQ_norm ?_ | refine seqQ_ret ?_ | refine seqQ_exit ?_ | refine blkQ_norm ?_ | refine blkQ_ret ?_ | refine blkQ_here ?_ | refine gateK_yes ?_ | refine gateK_none ?_ | refine condK_tt ?_ | refine condK_ff ?_ | refine roundQ_exit ?_ | refine roundQ_ret ?_)
  | refine WC_region ?_ | refine blkQ_out rfl ?_ | refine WO_nil ?_ | refine WD_nil ?_
  | ((first | refine WD_gate rfl rfl rfl rfl rfl fun K_ hK_ => ?_ | refine WO_gate rfl rfl rfl rfl rfl fun K_ hK_ => ?_); simp only [upd_apply, asB_bool, asB_tup, ↓reduceIte, reduceCtorEq, Nat.reduceEqDiff, Bool.not_true, Bool.not_false]; refine hK_ _ ?_; clear hK_ K_)
  | refine gateK_no (by decide) ?_
  | ((try first | refine WO_op rfl rfl rfl ?_ | refine WO_op0 rfl rfl ?_ | refine WD_op rfl rfl rfl ?_ | refine WD_op0 rfl rfl ?_); (refine WV_gen fun Q_ hQ_ => ?_; simp (disch := first | omega | (simp only [List.length_cons, List.length_nil, List.length_append]; omega)) only [bb, bp, argF, ↓reduceIte, reduceCtorEq, Nat.reduceEqDiff, Nat.reduceLT, Nat.reduceLeDiff, Nat.reduceAdd, Nat.reduceMul, Nat.reduceSub, Nat.reduceBEq, Int.reduceToNat, cond_true, cond_false, eq_self, beq_self_eq_true, g1, g2, g5, g6, g7, hix, hld, hdH, hix3, hlo, hhi, tEvB3, bsl_47, bsl_25]; first | (refine dec_split (Q := Q_) (fun hp_ => ?_) (fun hp_ => ?_) <;> first | (exfalso; omega) | (refine hQ_ _ _ ?_; clear hQ_ Q_)) | (refine dec_splitn (Q := Q_) (fun hp_ => ?_) (fun hp_ => ?_) <;> first | (exfalso; omega) | (refine hQ_ _ _ ?_; clear hQ_ Q_)) | (refine hQ_ _ _ ?_; clear hQ_ Q_)))
  | (refine WC_cond fun K_ hK_ => ?_; simp (disch := omega) only [evT_tmp, upd_apply, WB_some, ↓reduceIte, reduceCtorEq, Nat.reduceEqDiff, Nat.reduceLT]; refine hK_ _ ?_; clear hK_ K_)))
          refine WC_drawnB [.full, .full, .full, .full, .no, .full, .full, .no, .no, .no, .full, .full, .full] (by kernel_rfl) ?_
          (repeat' (first
  | (with_reducible first | refine WC_seq ?_ | refine WC_skip ?_ | refine WC_label ?_ | refine WC_scope ?_ | refine WC_block ?_ | refine WC_ret ?_ | refine WC_exit ?_ | refine seqQ_norm ?_ | refine seqQ_ret ?_ | refine seqQ_exit ?_ | refine blkQ_norm ?_ | refine blkQ_ret ?_ | refine blkQ_here ?_ | refine gateK_yes ?_ | refine gateK_none ?_ | refine condK_tt ?_ | refine condK_ff ?_ | refine roundQ_exit ?_ | refine roundQ_ret ?_)
  | refine WC_region ?_ | refine blkQ_out rfl ?_ | refine WO_nil ?_ | refine WD_nil ?_
  | ((first | refine WD_gate rfl rfl rfl rfl rfl fun K_ hK_ => ?_ | refine WO_gate rfl rfl rfl rfl rfl fun K_ hK_ => ?_); simp only [upd_apply, asB_bool, asB_tup, ↓reduceIte, reduceCtorEq, Nat.reduceEqDiff, Bool.not_true, Bool.not_false]; refine hK_ _ ?_; clear hK_ K_)
  | refine gateK_no (by decide) ?_
  | ((try first | refine WO_op rfl rfl rfl ?_ | refine WO_op0 rfl rfl ?_ | refine WD_op rfl rfl rfl ?_ | refine WD_op0 rfl rfl ?_); (refine WV_gen fun Q_ hQ_ => ?_; simp (disch := first | omega | (simp only [List.length_cons, List.length_nil, List.length_append]; omega)) only [bb, bp, argF, ↓reduceIte, reduceCtorEq, Nat.reduceEqDiff, Nat.reduceLT, Nat.reduceLeDiff, Nat.reduceAdd, Nat.reduceMul, Nat.reduceSub, Nat.reduceBEq, Int.reduceToNat, cond_true, cond_false, eq_self, beq_self_eq_true, g1, g2, g5, g6, g7, hix5, hld5, hix7, hld7, hst7, b_rem hz, b_quo hz, hmo, hdi, hwr, tEvB3, bsl_47, bsl_25]; first | (refine dec_split (Q := Q_) (fun hp_ => ?_) (fun hp_ => ?_) <;> first | (exfalso; omega) | (refine hQ_ _ _ ?_; clear hQ_ Q_)) | (refine dec_splitn (Q := Q_) (fun hp_ => ?_) (fun hp_ => ?_) <;> first | (exfalso; omega) | (refine hQ_ _ _ ?_; clear hQ_ Q_)) | (refine hQ_ _ _ ?_; clear hQ_ Q_)))
  | (refine WC_cond fun K_ hK_ => ?_; simp (disch := omega) only [evT_tmp, upd_apply, WB_some, ↓reduceIte, reduceCtorEq, Nat.reduceEqDiff, Nat.reduceLT]; refine hK_ _ ?_; clear hK_ K_)))
          refine roundQ_again k (by omega) ⟨by omega, by simp only [upd_apply, ↓reduceIte, reduceCtorEq, Nat.reduceEqDiff]; rw [hnx], by simp only [upd_apply, ↓reduceIte, reduceCtorEq, Nat.reduceEqDiff]; exact g2, by simp only [upd_apply, ↓reduceIte, reduceCtorEq, Nat.reduceEqDiff]; exact g5, by simp only [upd_apply, ↓reduceIte, reduceCtorEq, Nat.reduceEqDiff]; exact g6, by simp only [upd_apply, ↓reduceIte, reduceCtorEq, Nat.reduceEqDiff], rfl, L', rfl, ?_, ?_, ?_⟩
          · rw [hL', List.getElem?_set_ne (fun e => by rw [e, hd] at c2; exact absurd (AO.cells.inj (Option.some.inj c2)).2 (by decide))]; exact hd
          · rw [hL', List.getElem?_set_ne (fun e => by rw [e, hLB] at c2; exact absurd (AO.cells.inj (Option.some.inj c2)).2 (by decide))]; exact hLB
          · rw [hL']
            exact hrw.put hlt fun j hj hji => rowOf_other hkl hji
        · have hk00 : k = 0 := by omega
          subst hk00
          (repeat' (first
  | (with_reducible first | refine WC_seq ?_ | refine WC_skip ?_ | refine WC_label ?_ | refine WC_scope ?_ | refine WC_block ?_ | refine WC_ret ?_ | refine WC_exit ?_ | refine seqQ_norm ?_ | refine seqQ_ret ?_ | refine seqQ_exit ?_ | refine blkQ_norm ?_ | refine blkQ_ret ?_ | refine blkQ_here ?_ | refine gateK_yes ?_ | refine gateK_none ?_ | refine condK_tt ?_ | refine condK_ff ?_ | refine roundQ_exit ?_ | refine roundQ_ret ?_)
  | refine WC_region ?_ | refine blkQ_out rfl ?_ | refine WO_nil ?_ | refine WD_nil ?_
  | ((first | refine WD_gate rfl rfl rfl rfl rfl fun K_ hK_ => ?_ | refine WO_gate rfl rfl rfl rfl rfl fun K_ hK_ => ?_); simp only [upd_apply, asB_bool, asB_tup, ↓reduceIte, reduceCtorEq, Nat.reduceEqDiff, Bool.not_true, Bool.not_false]; refine hK_ _ ?_; clear hK_ K_)
  | refine gateK_no (by decide) ?_
  | ((try first | refine WO_op rfl rfl rfl ?_ | refine WO_op0 rfl rfl ?_ | refine WD_op rfl rfl rfl ?_ | refine WD_op0 rfl rfl ?_); (refine WV_gen fun Q_ hQ_ => ?_; simp (disch := first | omega | (simp only [List.length_cons, List.length_nil, List.length_append]; omega)) only [bb, bp, argF, ↓reduceIte, reduceCtorEq, Nat.reduceEqDiff, Nat.reduceLT, Nat.reduceLeDiff, Nat.reduceAdd, Nat.reduceMul, Nat.reduceSub, Nat.reduceBEq, Int.reduceToNat, cond_true, cond_false, eq_self, beq_self_eq_true, g1, g2, g5, g6, g7, tEvB3, bsl_47, bsl_25]; first | (refine dec_split (Q := Q_) (fun hp_ => ?_) (fun hp_ => ?_) <;> first | (exfalso; omega) | (refine hQ_ _ _ ?_; clear hQ_ Q_)) | (refine dec_splitn (Q := Q_) (fun hp_ => ?_) (fun hp_ => ?_) <;> first | (exfalso; omega) | (refine hQ_ _ _ ?_; clear hQ_ Q_)) | (refine hQ_ _ _ ?_; clear hQ_ Q_)))
  | (refine WC_cond fun K_ hK_ => ?_; simp (disch := omega) only [evT_tmp, upd_apply, WB_some, ↓reduceIte, reduceCtorEq, Nat.reduceEqDiff, Nat.reduceLT]; refine hK_ _ ?_; clear hK_ K_)))
          refine roundQ_again i (by omega) ⟨by omega, by simp only [upd_apply, ↓reduceIte, reduceCtorEq, Nat.reduceEqDiff]; exact g1, by simp only [upd_apply, ↓reduceIte, reduceCtorEq, Nat.reduceEqDiff]; exact g2, by simp only [upd_apply, ↓reduceIte, reduceCtorEq, Nat.reduceEqDiff]; exact g5, by simp only [upd_apply, ↓reduceIte, reduceCtorEq, Nat.reduceEqDiff], rfl, L, rfl, hd, hLB, hrw⟩
      · refine ⟨Nat.le_refl _, by simp only [upd_apply, ↓reduceIte, reduceCtorEq, Nat.reduceEqDiff]; rw [g1, Nat.succ_mul], by simp only [upd_apply, ↓reduceIte, reduceCtorEq, Nat.reduceEqDiff]; exact g2, by simp only [upd_apply, ↓reduceIte, reduceCtorEq, Nat.reduceEqDiff]; exact g5, by simp only [upd_apply, ↓reduceIte, reduceCtorEq, Nat.reduceEqDiff]; exact g6, by simp only [upd_apply, ↓reduceIte, reduceCtorEq, Nat.reduceEqDiff], rfl, L, rfl, hd, hLB, by rw [← Nat.succ_mul]; exact hrw⟩
    · have hj00 : j = 0 := by omega
      subst hj00
      (repeat' (first
  | (with_reducible first | refine WC_seq ?_ | refine WC_skip ?_ | refine WC_label ?_ | refine WC_scope ?_ | refine WC_block ?_ | refine WC_ret ?_ | refine WC_exit ?_ | refine seqQ_norm ?_ | refine seqQ_ret ?_ | refine seqQ_exit ?_ | refine blkQ_norm ?_ | refine blkQ_ret ?_ | refine blkQ_here ?_ | refine gateK_yes ?_ | refine gateK_none ?_ | refine condK_tt ?_ | refine condK_ff ?_ | refine roundQ_exit ?_ | refine roundQ_ret ?_)
  | refine WC_region ?_ | refine blkQ_out rfl ?_ | refine WO_nil ?_ | refine WD_nil ?_
  | ((first | refine WD_gate rfl rfl rfl rfl rfl fun K_ hK_ => ?_ | refine WO_gate rfl rfl rfl rfl rfl fun K_ hK_ => ?_); simp only [upd_apply, asB_bool, asB_tup, ↓reduceIte, reduceCtorEq, Nat.reduceEqDiff, Bool.not_true, Bool.not_false]; refine hK_ _ ?_; clear hK_ K_)
  | refine gateK_no (by decide) ?_
  | ((try first | refine WO_op rfl rfl rfl ?_ | refine WO_op0 rfl rfl ?_ | refine WD_op rfl rfl rfl ?_ | refine WD_op0 rfl rfl ?_); (refine WV_gen fun Q_ hQ_ => ?_; simp (disch := first | omega | (simp only [List.length_cons, List.length_nil, List.length_append]; omega)) only [bb, bp, argF, ↓reduceIte, reduceCtorEq, Nat.reduceEqDiff, Nat.reduceLT, Nat.reduceLeDiff, Nat.reduceAdd, Nat.reduceMul, Nat.reduceSub, Nat.reduceBEq, Int.reduceToNat, cond_true, cond_false, eq_self, beq_self_eq_true, g1, g2, g5, g6, tEvB3, bsl_47, bsl_25]; first | (refine dec_split (Q := Q_) (fun hp_ => ?_) (fun hp_ => ?_) <;> first | (exfalso; omega) | (refine hQ_ _ _ ?_; clear hQ_ Q_)) | (refine dec_splitn (Q := Q_) (fun hp_ => ?_) (fun hp_ => ?_) <;> first | (exfalso; omega) | (refine hQ_ _ _ ?_; clear hQ_ Q_)) | (refine hQ_ _ _ ?_; clear hQ_ Q_)))
  | (refine WC_cond fun K_ hK_ => ?_; simp (disch := omega) only [evT_tmp, upd_apply, WB_some, ↓reduceIte, reduceCtorEq, Nat.reduceEqDiff, Nat.reduceLT]; refine hK_ _ ?_; clear hK_ K_)))
      refine endQ_ret _ _ rfl (ret1 (by decide)) ?_
      simp only [upd_apply, ↓reduceIte, reduceCtorEq, Nat.reduceEqDiff]
      have hwf : h.w ≤ h.clock := wf.wle
      have e0 : (fun j => rowOf (Yd rows m T num (0 * m)) m j) = rowOf (numY rows m T num) m := by
        funext j
        unfold rowOf Yd
        refine List.map_congr_left fun q hq => ?_
        rw [if_pos (by omega)]
      have hys := RwI.ys wf hrw (w := h.w) (by omega) hLB hcl (fun j hj => rowOf_length _ _ _)
      rw [show (rowOf (Yd rows m T num (0 * m)) m) = rowOf (numY rows m T num) m from e0, ← listOf_gB _ hn.2 hm.2, ← hT] at hys
      refine WV_keep wf (Nat.le_refl _) (fun hf => by cases hf) (fun _ => ⟨L, cells, rfl, hys, rfl⟩)
  · refine ⟨Nat.le_refl _, by simp only [upd_apply, ↓reduceIte, reduceCtorEq, Nat.reduceEqDiff]; rw [← hT, Nat.sub_self]; rfl, by simp only [upd_apply, ↓reduceIte, reduceCtorEq, Nat.reduceEqDiff], by simp only [upd_apply, ↓reduceIte, reduceCtorEq, Nat.reduceEqDiff], by simp only [upd_apply, ↓reduceIte, reduceCtorEq, Nat.reduceEqDiff], rfl, L0, rfl, hd0, hB1, by rw [← hT]; exact hrw1⟩
end Go.Proofs.Ytghondkiondeaab
end
