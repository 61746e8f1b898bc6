/- The statement BoxSpans of layer 2: the least and the greatest volume, and those of what is asked, are what the definitions say, or the error, and a hull that is returned has the end, for all hulls, kinds and both ends; no condition. -/
import Derived.Test.YtghondkiondeaabSpaM6
set_option linter.all false
/- EvB4 -/
section
/-
  LAYER 2: the volumes' span as the reference answers it.
-/
namespace Go.Proofs.Ytghondkiondeaab
open Go.Ev
set_option maxRecDepth 100000
set_option linter.unusedSimpArgs false
set_option linter.unusedVariables false
set_option maxHeartbeats 4000000

theorem tEvB4 : type_of% (And.intro (And.intro (And.intro (And.intro (And.intro (@pb_37) (@pb_40)) (And.intro (@pb_30) (@pb_8))) (And.intro (And.intro (@pb_12) (@pb_15)) (And.intro (@ia_2) (@sz_2)))) (And.intro (And.intro (And.intro (@ze_2) (@ia_3)) (And.intro (@sz_3) (@ia_4))) (And.intro (And.intro (@sz_4) (@ia_22)) (And.intro (@sz_22) (@ia_24))))) (And.intro (And.intro (And.intro (And.intro (@sz_24) (@ia_25)) (And.intro (@sz_25) (@ia_29))) (And.intro (And.intro (@sz_29) (@ze_29)) (And.intro (@ia_39) (@sz_39)))) (And.intro (And.intro (And.intro (@ze_39) (@bs_39)) (And.intro (@fo_39_0) (@fo_39_1))) (And.intro (And.intro (@ia_46) (@sz_46)) (And.intro (@ia_47) (@sz_47)))))) := And.intro (And.intro (And.intro (And.intro (And.intro (@pb_37) (@pb_40)) (And.intro (@pb_30) (@pb_8))) (And.intro (And.intro (@pb_12) (@pb_15)) (And.intro (@ia_2) (@sz_2)))) (And.intro (And.intro (And.intro (@ze_2) (@ia_3)) (And.intro (@sz_3) (@ia_4))) (And.intro (And.intro (@sz_4) (@ia_22)) (And.intro (@sz_22) (@ia_24))))) (And.intro (And.intro (And.intro (And.intro (@sz_24) (@ia_25)) (And.intro (@sz_25) (@ia_29))) (And.intro (And.intro (@sz_29) (@ze_29)) (And.intro (@ia_39) (@sz_39)))) (And.intro (And.intro (And.intro (@ze_39) (@bs_39)) (And.intro (@fo_39_0) (@fo_39_1))) (And.intro (And.intro (@ia_46) (@sz_46)) (And.intro (@ia_47) (@sz_47)))))
theorem vol_listOf {sp st : Int} {rows : List (List (Int × Int))} (he : hullErr sp st rows = 0) {gs : List Int} (hi : InG rows (m0 rows) gs) :
    volOut sp st rows (listOf gs rows.length (m0 rows)) = .tup [frac (volS sp st rows gs) 2, ii 0] := by
  obtain ⟨hn, hm, hall, hsp, hst, hof⟩ := hullErr_ok he
  unfold volOut
  rw [if_pos (true_listOf he hi)]
  have e : allS rows.length (m0 rows) (listOf gs rows.length (m0 rows)) = psum (vterm rows.length (m0 rows) gs) (rows.length * m0 rows) := psum_congr fun q hq => by
    unfold vterm W
    rw [listOf_at hi.1 hn.2 hm.2 hq]
  rw [e]
  rfl
theorem lowV_at {sp st : Int} {rows : List (List (Int × Int))} (he : hullErr sp st rows = 0) (c : Nat) : InG rows (m0 rows) (lowV c rows) ∧ ∀ q, q < rows.length * m0 rows → yat (lowV c rows) (m0 rows) q = pickOf c (rAt rows (m0 rows) q) := by
  obtain ⟨hn, hm, hall, hsp, hst, hof⟩ := hullErr_ok he
  have k := hok he (gOf_or 0)
  have key : ∀ q, q < rows.length * m0 rows → yat (lowV c rows) (m0 rows) q = pickOf c (rAt rows (m0 rows) q) := fun q hq => by
    unfold lowV
    rw [gB_at _ hn.2 hm.2 _ (Nat.le_refl _) q hq]
    rfl
  refine ⟨⟨gB_length _ _ _, fun q hq => ?_⟩, key⟩
  have := k.hoff q hq
  unfold isOff at this
  rw [key q hq]
  unfold pickOf
  split <;> omega

theorem endRJ (sp st : Int) (a : AV) (rvs : List AV) (rows : List (List (Int × Int))) (high : Bool) (he : hullErr sp st rows = 0) (h : H) (x : HullR h a rvs rows) (J : List AO) (w : Nat) (hw : w ≤ h.clock + J.length) :
    ∃ M id yvs, (om Try.prog KK).call (.fn 37 [.agg [ii sp, ii st, a], .bool high]) (X h J w) = .ok (.sl id 0 rows.length none 1) (X h (J ++ M) w) ∧
      ∀ w', w' ≤ h.clock + (J ++ M).length → YsR (X h (J ++ M) w') (.sl id 0 rows.length none 1) yvs (listOf (lowV (if high then 36 else 35) rows) rows.length (m0 rows)) := by
  obtain ⟨hn, hm, hall, hsp, hst, hof⟩ := hullErr_ok he
  have wf := x.wf
  obtain ⟨y, h1, ey, M0, B0, cells, r0, rfl, rfl, hB0, hcl, hrw0⟩ := endR sp st a rvs rows high he _ (x.up J w hw)
  rw [X_X, X_w] at ey
  refine ⟨M0, _, cells, ey, fun w' hw' => ?_⟩
  have hys := RwI.ys (h := X h J w) (wf.X hw) (hrw0.congr (R' := rowOf (pickY (if high then 36 else 35) rows (m0 rows)) (m0 rows)) fun j hj => by
    rw [eRow_rowOf (m := m0 rows) hj (hall _ (List.getElem_mem hj))]
    unfold rowOf
    refine List.map_congr_left fun q hq => ?_
    unfold pickY pickOf eo
    cases high <;> rfl) (w := w') (by rw [X_clock]; rw [List.length_append] at hw'; omega) hB0 hcl (fun j hj => rowOf_length _ _ _)
  rw [X_X, ← listOf_gB _ hn.2 hm.2] at hys
  exact hys

theorem volumesR (sp st : Int) (a : AV) (rvs : List AV) (rows : List (List (Int × Int))) (h : H) (x : HullR h a rvs rows) :
    (om Try.prog KK).call (.fn 17 [.agg [ii sp, ii st, a]]) h = .ok (volsOut sp st rows) h := by
  have wf := x.wf
  obtain ⟨hac, hao⟩ := Sl.one x.sl
  have hch : ∀ l w, w ≤ h.clock + l.length → (om Try.prog KK).call (.fn 12 [.agg [ii sp, ii st, a]]) (X h l w) = .ok (ii (hullErr sp st rows)) (X h l w) := fun l w hw => checkHullR sp st a rvs rows _ (x.up l w hw)
  refine WV_to (WV_call (fn := Try.f17) Try.func17 rfl rfl rfl rfl rfl ?_)
  simp only [argF]
  unfold volsOut
  by_cases he : hullErr sp st rows = 0
  · rw [if_neg (not_not_intro he)]
    obtain ⟨hn, hm, hall, hsp, hst, hof⟩ := hullErr_ok he
    have hv : ∀ (c : Nat) (J : List AO) b yvs, (∀ w', w' ≤ h.clock + J.length → YsR (X h J w') b yvs (listOf (lowV c rows) rows.length (m0 rows))) → ∀ w, w ≤ h.clock + J.length → (om Try.prog KK).call (.fn 8 [.agg [ii sp, ii st, a], b]) (X h J w) = .ok (.tup [frac (volS sp st rows (lowV c rows)) 2, ii 0]) (X h J w) := fun c J b yvs hy w hw => by
      rw [volumeR sp st a b rvs yvs rows _ (by unfold listOf; simp; omega) _ (x.up J w hw) (hy w hw), vol_listOf he (lowV_at he c).1]
    obtain ⟨Z, hZ⟩ : ∃ Z, Z = AO.cells (mkCells [ii 0, ii 0, ii 0, ii 0]) 39 := ⟨_, rfl⟩
    obtain ⟨M1, id1, yv1, e1, y1⟩ := endRJ sp st a rvs rows false he h x [.cells (mkCells [ii sp, ii st, a]) 24, .cells (mkCells [ii 0, ii 0, ii 0, ii 0]) 39] (h.clock + 2) (by simp)
    have v1 := hv _ _ _ _ y1
    obtain ⟨M2, id2, yv2, e2, y2⟩ := endRJ sp st a rvs rows true he h x (.cells (mkCells [ii sp, ii st, a]) 24 :: .cells (mkCells [ii 0, ii 0, ii 0, ii 0]) 39 :: (M1 ++ [.cells (mkCells (frac (volS sp st rows (lowV 35 rows)) 2).cells) 29])) (h.clock + (M1.length + 1 + 1 + 1)) (by simp)
    have v2 := hv _ _ _ _ y2
    simp only [↓reduceIte, Bool.false_eq_true, List.cons_append, List.nil_append, List.append_assoc, frac, cells_agg] at v1 v2 e1 e2
    (repeat' (first
  | (with_reducible first | refine WC_seq ?_ | refine WC_skip ?_ | refine WC_label ?_ | refine WC_scope ?_ | refine WC_block ?_ | refine WC_ret ?_ | refine WC_exit ?_ | refine seqQ_norm ?_ | refine seqQ_ret ?_ | refine seqQ_exit ?_ | refine blkQ_norm ?_ | refine blkQ_ret ?_ | refine blkQ_here ?_ | refine gateK_yes ?_ | refine gateK_none ?_ | refine condK_tt ?_ | refine condK_ff ?_ | refine roundQ_exit ?_ | refine roundQ_ret ?_)
  | refine WC_region ?_ | refine blkQ_out rfl ?_ | refine WO_nil ?_ | refine WD_nil ?_
  | ((first | refine WD_gate rfl rfl rfl rfl rfl fun K_ hK_ => ?_ | refine WO_gate rfl rfl rfl rfl rfl fun K_ hK_ => ?_); simp only [upd_apply, asB_bool, asB_tup, ↓reduceIte, reduceCtorEq, Nat.reduceEqDiff, Bool.not_true, Bool.not_false]; refine hK_ _ ?_; clear hK_ K_)
  | refine gateK_no (by decide) ?_
  | ((try first | refine WO_op rfl rfl rfl ?_ | refine WO_op0 rfl rfl ?_ | refine WD_op rfl rfl rfl ?_ | refine WD_op0 rfl rfl ?_); (refine WV_gen fun Q_ hQ_ => ?_; simp (disch := first | omega | (simp only [List.length_cons, List.length_nil, List.length_append]; omega)) only [bb, bp, argF, ↓reduceIte, reduceCtorEq, Nat.reduceEqDiff, Nat.reduceLT, Nat.reduceLeDiff, Nat.reduceAdd, Nat.reduceMul, Nat.reduceSub, Nat.reduceBEq, Int.reduceToNat, cond_true, cond_false, eq_self, beq_self_eq_true, hch, he, hao, newPtr_X wf, newSlice_X wf, load1_X wf, loadAgg_X wf, store1_X wf, writeCells_X wf, makeFunc_def, tEvB4]; first | (refine dec_split (Q := Q_) (fun hp_ => ?_) (fun hp_ => ?_) <;> first | (exfalso; omega) | (refine hQ_ _ _ ?_; clear hQ_ Q_)) | (refine dec_splitn (Q := Q_) (fun hp_ => ?_) (fun hp_ => ?_) <;> first | (exfalso; omega) | (refine hQ_ _ _ ?_; clear hQ_ Q_)) | (refine hQ_ _ _ ?_; clear hQ_ Q_)))
  | (refine WC_cond fun K_ hK_ => ?_; simp (disch := omega) only [evT_tmp, upd_apply, WB_some, ↓reduceIte, reduceCtorEq, Nat.reduceEqDiff, Nat.reduceLT]; refine hK_ _ ?_; clear hK_ K_)))
    refine WC_drawnB [.no, .no, .no, .no, .no, .no, .no, .no, .full, .full] (by kernel_rfl) ?_
    (repeat' (first
  | (with_reducible first | refine WC_seq ?_ | refine WC_skip ?_ | refine WC_label ?_ | refine WC_scope ?_ | refine WC_block ?_ | refine WC_ret ?_ | refine WC_exit ?_ | refine seqQ_norm ?_ | refine seqQ_ret ?_ | refine seqQ_exit ?_ | refine blkQ_norm ?_ | refine blkQ_ret ?_ | refine blkQ_here ?_ | refine gateK_yes ?_ | refine gateK_none ?_ | refine condK_tt ?_ | refine condK_ff ?_ | refine roundQ_exit ?_ | refine roundQ_ret ?_)
  | refine WC_region ?_ | refine blkQ_out rfl ?_ | refine WO_nil ?_ | refine WD_nil ?_
  | ((first | refine WD_gate rfl rfl rfl rfl rfl fun K_ hK_ => ?_ | refine WO_gate rfl rfl rfl rfl rfl fun K_ hK_ => ?_); simp only [upd_apply, asB_bool, asB_tup, ↓reduceIte, reduceCtorEq, Nat.reduceEqDiff, Bool.not_true, Bool.not_false]; refine hK_ _ ?_; clear hK_ K_)
  | refine gateK_no (by decide) ?_
  | ((try first | refine WO_op rfl rfl rfl ?_ | refine WO_op0 rfl rfl ?_ | refine WD_op rfl rfl rfl ?_ | refine WD_op0 rfl rfl ?_); (refine WV_gen fun Q_ hQ_ => ?_; simp (disch := first | omega | (simp only [List.length_cons, List.length_nil, List.length_append]; omega)) only [bb, bp, argF, ↓reduceIte, reduceCtorEq, Nat.reduceEqDiff, Nat.reduceLT, Nat.reduceLeDiff, Nat.reduceAdd, Nat.reduceMul, Nat.reduceSub, Nat.reduceBEq, Int.reduceToNat, cond_true, cond_false, eq_self, beq_self_eq_true, e1, v1, hao, frac, newPtr_X wf, newSlice_X wf, load1_X wf, loadAgg_X wf, store1_X wf, writeCells_X wf, makeFunc_def, tEvB4]; first | (refine dec_split (Q := Q_) (fun hp_ => ?_) (fun hp_ => ?_) <;> first | (exfalso; omega) | (refine hQ_ _ _ ?_; clear hQ_ Q_)) | (refine dec_splitn (Q := Q_) (fun hp_ => ?_) (fun hp_ => ?_) <;> first | (exfalso; omega) | (refine hQ_ _ _ ?_; clear hQ_ Q_)) | (refine hQ_ _ _ ?_; clear hQ_ Q_)))
  | (refine WC_cond fun K_ hK_ => ?_; simp (disch := omega) only [evT_tmp, upd_apply, WB_some, ↓reduceIte, reduceCtorEq, Nat.reduceEqDiff, Nat.reduceLT]; refine hK_ _ ?_; clear hK_ K_)))
    refine WC_drawnB [.no, .no, .no, .no, .no, .no, .no, .no, .full, .full] (by kernel_rfl) ?_
    (repeat' (first
  | (with_reducible first | refine WC_seq ?_ | refine WC_skip ?_ | refine WC_label ?_ | refine WC_scope ?_ | refine WC_block ?_ | refine WC_ret ?_ | refine WC_exit ?_ | refine seqQ_norm ?_ | refine seqQ_ret ?_ | refine seqQ_exit ?_ | refine blkQ_norm ?_ | refine blkQ_ret ?_ | refine blkQ_here ?_ | refine gateK_yes ?_ | refine gateK_none ?_ | refine condK_tt ?_ | refine condK_ff ?_ | refine roundQ_exit ?_ | refine roundQ_ret ?_)
  | refine WC_region ?_ | refine blkQ_out rfl ?_ | refine WO_nil ?_ | refine WD_nil ?_
  | ((first | refine WD_gate rfl rfl rfl rfl rfl fun K_ hK_ => ?_ | refine WO_gate rfl rfl rfl rfl rfl fun K_ hK_ => ?_); simp only [upd_apply, asB_bool, asB_tup, ↓reduceIte, reduceCtorEq, Nat.reduceEqDiff, Bool.not_true, Bool.not_false]; refine hK_ _ ?_; clear hK_ K_)
  | refine gateK_no (by decide) ?_
  | ((try first | refine WO_op rfl rfl rfl ?_ | refine WO_op0 rfl rfl ?_ | refine WD_op rfl rfl rfl ?_ | refine WD_op0 rfl rfl ?_); (refine WV_gen fun Q_ hQ_ => ?_; simp (disch := first | omega | (simp only [List.length_cons, List.length_nil, List.length_append]; omega)) only [bb, bp, argF, ↓reduceIte, reduceCtorEq, Nat.reduceEqDiff, Nat.reduceLT, Nat.reduceLeDiff, Nat.reduceAdd, Nat.reduceMul, Nat.reduceSub, Nat.reduceBEq, Int.reduceToNat, cond_true, cond_false, eq_self, beq_self_eq_true, e2, v2, hao, frac, newPtr_X wf, newSlice_X wf, load1_X wf, loadAgg_X wf, store1_X wf, writeCells_X wf, makeFunc_def, tEvB4]; first | (refine dec_split (Q := Q_) (fun hp_ => ?_) (fun hp_ => ?_) <;> first | (exfalso; omega) | (refine hQ_ _ _ ?_; clear hQ_ Q_)) | (refine dec_splitn (Q := Q_) (fun hp_ => ?_) (fun hp_ => ?_) <;> first | (exfalso; omega) | (refine hQ_ _ _ ?_; clear hQ_ Q_)) | (refine hQ_ _ _ ?_; clear hQ_ Q_)))
  | (refine WC_cond fun K_ hK_ => ?_; simp (disch := omega) only [evT_tmp, upd_apply, WB_some, ↓reduceIte, reduceCtorEq, Nat.reduceEqDiff, Nat.reduceLT]; refine hK_ _ ?_; clear hK_ K_)))
    refine endQ_ret _ _ rfl (retc1 (by decide) (by decide) (by simp (disch := first | omega | (simp only [List.length_cons, List.length_nil, List.length_append]; omega)) only [bb, bp, argF, ↓reduceIte, reduceCtorEq, Nat.reduceEqDiff, Nat.reduceLT, Nat.reduceLeDiff, Nat.reduceAdd, Nat.reduceMul, Nat.reduceSub, Nat.reduceBEq, Int.reduceToNat, cond_true, cond_false, eq_self, beq_self_eq_true, loadAgg_X wf, tEvB4]; rfl)) ?_
    simp only [upd_apply, ↓reduceIte, reduceCtorEq, Nat.reduceEqDiff]
    refine WV_flat rfl (by omega) ?_
    exact ⟨rfl, rfl⟩
  · rw [if_pos he]
    (repeat' (first
  | (with_reducible first | refine WC_seq ?_ | refine WC_skip ?_ | refine WC_label ?_ | refine WC_scope ?_ | refine WC_block ?_ | refine WC_ret ?_ | refine WC_exit ?_ | refine seqQ_norm ?_ | refine seqQ_ret ?_ | refine seqQ_exit ?_ | refine blkQ_norm ?_ | refine blkQ_ret ?_ | refine blkQ_here ?_ | refine gateK_yes ?_ | refine gateK_none ?_ | refine condK_tt ?_ | refine condK_ff ?_ | refine roundQ_exit ?_ | refine roundQ_ret ?_)
  | refine WC_region ?_ | refine blkQ_out rfl ?_ | refine WO_nil ?_ | refine WD_nil ?_
  | ((first | refine WD_gate rfl rfl rfl rfl rfl fun K_ hK_ => ?_ | refine WO_gate rfl rfl rfl rfl rfl fun K_ hK_ => ?_); simp only [upd_apply, asB_bool, asB_tup, ↓reduceIte, reduceCtorEq, Nat.reduceEqDiff, Bool.not_true, Bool.not_false]; refine hK_ _ ?_; clear hK_ K_)
  | refine gateK_no (by decide) ?_
  | ((try first | refine WO_op rfl rfl rfl ?_ | refine WO_op0 rfl rfl ?_ | refine WD_op rfl rfl rfl ?_ | refine WD_op0 rfl rfl ?_); (refine WV_gen fun Q_ hQ_ => ?_; simp (disch := first | omega | (simp only [List.length_cons, List.length_nil, List.length_append]; omega)) only [bb, bp, argF, ↓reduceIte, reduceCtorEq, Nat.reduceEqDiff, Nat.reduceLT, Nat.reduceLeDiff, Nat.reduceAdd, Nat.reduceMul, Nat.reduceSub, Nat.reduceBEq, Int.reduceToNat, cond_true, cond_false, eq_self, beq_self_eq_true, hch, hao, newPtr_X wf, newSlice_X wf, load1_X wf, loadAgg_X wf, store1_X wf, writeCells_X wf, makeFunc_def, tEvB4]; first | (refine dec_split (Q := Q_) (fun hp_ => ?_) (fun hp_ => ?_) <;> first | (exfalso; omega) | (refine hQ_ _ _ ?_; clear hQ_ Q_)) | (refine dec_splitn (Q := Q_) (fun hp_ => ?_) (fun hp_ => ?_) <;> first | (exfalso; omega) | (refine hQ_ _ _ ?_; clear hQ_ Q_)) | (refine hQ_ _ _ ?_; clear hQ_ Q_)))
  | (refine WC_cond fun K_ hK_ => ?_; simp (disch := omega) only [evT_tmp, upd_apply, WB_some, ↓reduceIte, reduceCtorEq, Nat.reduceEqDiff, Nat.reduceLT]; refine hK_ _ ?_; clear hK_ K_)))
    refine endQ_ret _ _ rfl (retc1 (by decide) (by decide) (by simp (disch := first | omega | (simp only [List.length_cons, List.length_nil, List.length_append]; omega)) only [bb, bp, argF, ↓reduceIte, reduceCtorEq, Nat.reduceEqDiff, Nat.reduceLT, Nat.reduceLeDiff, Nat.reduceAdd, Nat.reduceMul, Nat.reduceSub, Nat.reduceBEq, Int.reduceToNat, cond_true, cond_false, eq_self, beq_self_eq_true, loadAgg_X wf, tEvB4]; rfl)) ?_
    simp only [upd_apply, ↓reduceIte, reduceCtorEq, Nat.reduceEqDiff]
    refine WV_flat rfl (by omega) ?_
    exact ⟨rfl, rfl⟩
end Go.Proofs.Ytghondkiondeaab
end

/- EvB5 -/
section
/-
  LAYER 2: the span as the reference answers it, by trying all hulls.
-/
namespace Go.Proofs.Ytghondkiondeaab
open Go.Ev
set_option maxRecDepth 100000
set_option linter.unusedSimpArgs false
set_option linter.unusedVariables false
set_option maxHeartbeats 4000000

/-- The hull that has a number. -/
def gN (rows : List (List (Int × Int))) (num : Nat) : List Int := gB (numY rows (m0 rows) (rows.length * m0 rows) (num : Int)) (m0 rows) (rows.length * m0 rows)
def rN (sp st : Int) (rows : List (List (Int × Int))) (what : Int) (gs : List Int) : Int := ratN (gOf what) sp st rows (m0 rows) gs
def rD (sp st : Int) (rows : List (List (Int × Int))) (what : Int) (gs : List Int) : Int := ratD (gOf what) sp st rows (m0 rows) gs
section
variable {sp st : Int} {rows : List (List (Int × Int))} {what : Int}
theorem gN_in (he : hullErr sp st rows = 0) (num : Nat) : InG rows (m0 rows) (gN rows num) := by
  obtain ⟨hn, hm, hall, hsp, hst, hof⟩ := hullErr_ok he
  have k := hok he (gOf_or 0)
  refine ⟨gB_length _ _ _, fun q hq => ?_⟩
  unfold gN
  rw [gB_at _ hn.2 hm.2 _ (Nat.le_refl _) q hq]
  exact numY_in (fun q hq => k.hoff q hq) _ hq
theorem rat_eq (he : hullErr sp st rows = 0) {gs gs' : List Int} (e : ∀ q, q < rows.length * m0 rows → yat gs (m0 rows) q = yat gs' (m0 rows) q) : rN sp st rows what gs = rN sp st rows what gs' ∧ rD sp st rows what gs = rD sp st rows what gs' := by
  have n1 : numG (gOf what) sp st rows (m0 rows) gs = numG (gOf what) sp st rows (m0 rows) gs' := by
    unfold numG
    refine psum_congr fun q hq => ?_
    unfold nuAt
    rw [e q hq]
  have d1 : denG (gOf what) st rows (m0 rows) gs = denG (gOf what) st rows (m0 rows) gs' := by
    unfold denG
    refine psum_congr fun q hq => ?_
    unfold deAt
    rw [e q hq]
  unfold rN rD ratN ratD gcdG
  rw [n1, d1]
  exact ⟨rfl, rfl⟩
/-- Each hull has a number. -/
theorem num_of (he : hullErr sp st rows = 0) {gs : List Int} (hi : InG rows (m0 rows) gs) : ∃ num : Nat, (num : Int) < prodW rows (m0 rows) (rows.length * m0 rows) ∧ rN sp st rows what (gN rows num) = rN sp st rows what gs ∧ rD sp st rows what (gN rows num) = rD sp st rows what gs := by
  obtain ⟨hn, hm, hall, hsp, hst, hof⟩ := hullErr_ok he
  have k := hok he (gOf_or 0)
  have hv := valD_in (fun q hq => k.hoff q hq) hi.2 (rows.length * m0 rows) (Nat.le_refl _)
  obtain ⟨num, hnum⟩ := Int.eq_ofNat_of_zero_le hv.1
  refine ⟨num, by omega, rat_eq he fun q hq => ?_⟩
  unfold gN
  rw [gB_at _ hn.2 hm.2 _ (Nat.le_refl _) q hq, ← hnum]
  exact numY_val (fun q hq => k.hoff q hq) hi.2 hq
theorem isBnd_gcd {N D : Int} (hb : isBnd N D = true) (hbi : bndIn N D) : Int.gcd N D = 1 := by
  unfold isBnd at hb
  rw [Bool.and_eq_true, Bool.and_eq_true] at hb
  have h2 : D = D / (Int.gcd N D : Int) := by simpa using hb.2.2
  have hD := hbi.2.1
  have hg : 0 < (Int.gcd N D : Int) := by have := Int.gcd_pos_of_ne_zero_right N (show D ≠ 0 by omega); omega
  generalize hgd : Int.gcd N D = γ at *
  have h3 := Int.mul_ediv_add_emod D (γ : Int)
  have h4 := Int.emod_nonneg D (show (γ : Int) ≠ 0 by omega)
  rw [← h2] at h3
  by_cases h5 : γ = 1
  · exact h5
  · exfalso
    have h6 : 2 * D ≤ (γ : Int) * D := Int.mul_le_mul_of_nonneg_right (by omega) (by omega)
    omega
theorem least_unique {N D N' D' : Int} (hN : 0 ≤ N) (hN' : 0 ≤ N') (hD : 1 ≤ D) (hD' : 1 ≤ D') (hg : Int.gcd N D = 1) (hg' : Int.gcd N' D' = 1) (h : N * D' = N' * D) : N = N' ∧ D = D' := by
  obtain ⟨n, rfl⟩ := Int.eq_ofNat_of_zero_le hN
  obtain ⟨n', rfl⟩ := Int.eq_ofNat_of_zero_le hN'
  obtain ⟨d, rfl⟩ := Int.eq_ofNat_of_zero_le (show 0 ≤ D by omega)
  obtain ⟨d', rfl⟩ := Int.eq_ofNat_of_zero_le (show 0 ≤ D' by omega)
  have c1 : Nat.Coprime d n := by rw [Nat.coprime_comm]; exact hg
  have c2 : Nat.Coprime d' n' := by rw [Nat.coprime_comm]; exact hg'
  have h' : n * d' = n' * d := by exact_mod_cast h
  have d1 : d ∣ d' := c1.dvd_of_dvd_mul_left (by rw [h']; exact Nat.dvd_mul_left ..)
  have d2 : d' ∣ d := c2.dvd_of_dvd_mul_left (by rw [← h']; exact Nat.dvd_mul_left ..)
  have e := Nat.dvd_antisymm d1 d2
  subst e
  have hd : 0 < d := by omega
  have := Nat.eq_of_mul_eq_mul_right hd h'
  subst this
  exact ⟨rfl, rfl⟩

theorem frac_trans {a b c d e f : Int} (hb : 1 ≤ b) (hd : 1 ≤ d) (hf : 1 ≤ f) (h1 : a * d ≤ c * b) (h2 : c * f ≤ e * d) : a * f ≤ e * b := by
  have h3 : a * d * f ≤ c * b * f := Int.mul_le_mul_of_nonneg_right h1 (by omega)
  have h4 : c * f * b ≤ e * d * b := Int.mul_le_mul_of_nonneg_right h2 (by omega)
  have h5 : a * f * d ≤ e * b * d := by grind
  exact Int.le_of_mul_le_mul_right h5 (by omega)

/-- What is true of the ends when so many hulls were tried. -/
structure Tried (sp st : Int) (rows : List (List (Int × Int))) (what : Int) (k : Nat) (lN lD hN hD : Int) : Prop where
  lo : ∃ i, i < k ∧ lN = rN sp st rows what (gN rows i) ∧ lD = rD sp st rows what (gN rows i)
  hi : ∃ i, i < k ∧ hN = rN sp st rows what (gN rows i) ∧ hD = rD sp st rows what (gN rows i)
  los : ∀ i, i < k → lN * rD sp st rows what (gN rows i) ≤ rN sp st rows what (gN rows i) * lD
  his : ∀ i, i < k → rN sp st rows what (gN rows i) * hD ≤ hN * rD sp st rows what (gN rows i)
theorem r_bnd (he : hullErr sp st rows = 0) (num : Nat) : bndIn (rN sp st rows what (gN rows num)) (rD sp st rows what (gN rows num)) := (rat_bnd (hok he (gOf_or what)) (gN_in he num)).1
theorem Tried.first (he : hullErr sp st rows = 0) : Tried sp st rows what 1 (rN sp st rows what (gN rows 0)) (rD sp st rows what (gN rows 0)) (rN sp st rows what (gN rows 0)) (rD sp st rows what (gN rows 0)) :=
  ⟨⟨0, by omega, rfl, rfl⟩, ⟨0, by omega, rfl, rfl⟩, fun i hi => by rw [show i = 0 by omega]; exact Int.le_refl _, fun i hi => by rw [show i = 0 by omega]; exact Int.le_refl _⟩
theorem Tried.bnd (he : hullErr sp st rows = 0) {k : Nat} {lN lD hN hD : Int} (t : Tried sp st rows what k lN lD hN hD) : bndIn lN lD ∧ bndIn hN hD := by
  obtain ⟨i, _, rfl, rfl⟩ := t.lo
  obtain ⟨j, _, rfl, rfl⟩ := t.hi
  exact ⟨r_bnd he i, r_bnd he j⟩
theorem Tried.next (he : hullErr sp st rows = 0) {k : Nat} {lN lD hN hD vN vD : Int} (t : Tried sp st rows what k lN lD hN hD) (ev : vN = rN sp st rows what (gN rows k) ∧ vD = rD sp st rows what (gN rows k)) :
    Tried sp st rows what (k + 1) (if vN * lD < lN * vD then vN else lN) (if vN * lD < lN * vD then vD else lD) (if hN * vD < vN * hD then vN else hN) (if hN * vD < vN * hD then vD else hD) := by
  obtain ⟨rfl, rfl⟩ := ev
  obtain ⟨b1, b2⟩ := t.bnd he
  have b3 := r_bnd (what := what) he k
  unfold bndIn at b1 b2 b3
  refine ⟨?_, ?_, fun i hi => ?_, fun i hi => ?_⟩
  · obtain ⟨i, hi, h1, h2⟩ := t.lo
    split
    · exact ⟨k, by omega, rfl, rfl⟩
    · exact ⟨i, by omega, h1, h2⟩
  · obtain ⟨i, hi, h1, h2⟩ := t.hi
    split
    · exact ⟨k, by omega, rfl, rfl⟩
    · exact ⟨i, by omega, h1, h2⟩
  · have b4 := r_bnd (what := what) he i
    unfold bndIn at b4
    split
    · rename_i hlt
      by_cases hik : i = k
      · rw [hik]; exact Int.le_refl _
      · exact frac_trans b3.2.1 b1.2.1 b4.2.1 (by omega) (t.los i (by omega))
    · rename_i hlt
      by_cases hik : i = k
      · rw [hik]; omega
      · exact t.los i (by omega)
  · have b4 := r_bnd (what := what) he i
    unfold bndIn at b4
    split
    · rename_i hlt
      by_cases hik : i = k
      · rw [hik]; exact Int.le_refl _
      · exact frac_trans b4.2.1 b2.2.1 b3.2.1 (t.his i (by omega)) (by omega)
    · rename_i hlt
      by_cases hik : i = k
      · rw [hik]; omega
      · exact t.his i (by omega)
/-- When all hulls were tried, the ends are the ends. -/
theorem Tried.all (he : hullErr sp st rows = 0) {k : Nat} {lN lD hN hD : Int} (t : Tried sp st rows what k lN lD hN hD) (hk : (k : Int) = prodW rows (m0 rows) (rows.length * m0 rows)) :
    (lN = rN sp st rows what (lowG sp st rows what false) ∧ lD = rD sp st rows what (lowG sp st rows what false)) ∧ hN = rN sp st rows what (lowG sp st rows what true) ∧ hD = rD sp st rows what (lowG sp st rows what true) := by
  have ko := hok he (gOf_or what)
  have key : ∀ high, ∃ num, num < k ∧ rN sp st rows what (gN rows num) = rN sp st rows what (lowG sp st rows what high) ∧ rD sp st rows what (gN rows num) = rD sp st rows what (lowG sp st rows what high) := fun high => by
    obtain ⟨num, h1, h2, h3⟩ := num_of (what := what) he (theEnd_ok ko high).1
    exact ⟨num, by omega, h2, h3⟩
  have bl := fun high => rat_bnd ko (theEnd_ok ko high).1
  have bg := fun num => rat_bnd ko (gN_in he num)
  have bey := fun high num => beyond ko high (gN_in he num)
  constructor
  · obtain ⟨num, h1, h2, h3⟩ := key false
    obtain ⟨i, h4, h5, h6⟩ := t.lo
    have h7 := t.los num h1
    have h8 := bey false i
    rw [sgn_ff] at h8
    rw [h2, h3] at h7
    have b1 := (bg i).1
    have b2 := (bl false).1
    have g1 := isBnd_gcd (bg i).2 b1
    have g2 := isBnd_gcd (bl false).2 b2
    unfold bndIn at b1 b2
    rw [h5, h6] at h7 ⊢
    refine least_unique b1.1.1 b2.1.1 b1.2.1 b2.2.1 g1 g2 ?_
    have e := Int.mul_comm (rD sp st rows what (gN rows i)) (rN sp st rows what (lowG sp st rows what false))
    unfold rN rD lowG at *
    omega
  · obtain ⟨num, h1, h2, h3⟩ := key true
    obtain ⟨i, h4, h5, h6⟩ := t.hi
    have h7 := t.his num h1
    have h8 := bey true i
    rw [sgn_tt] at h8
    rw [h2, h3] at h7
    have b1 := (bg i).1
    have b2 := (bl true).1
    have g1 := isBnd_gcd (bg i).2 b1
    have g2 := isBnd_gcd (bl true).2 b2
    unfold bndIn at b1 b2
    rw [h5, h6] at h7 ⊢
    refine least_unique b1.1.1 b2.1.1 b1.2.1 b2.2.1 g1 g2 ?_
    have e := Int.mul_comm (rD sp st rows what (gN rows i)) (rN sp st rows what (lowG sp st rows what true))
    unfold rN rD lowG at *
    omega
end
end Go.Proofs.Ytghondkiondeaab
end

/- EvB6 -/
section
/-
  LAYER 2: the span as the reference answers it, walked.
-/
namespace Go.Proofs.Ytghondkiondeaab
open Go.Ev
set_option maxRecDepth 100000
set_option linter.unusedSimpArgs false
set_option linter.unusedVariables false
set_option maxHeartbeats 4000000

theorem tEvB6 : type_of% (And.intro (And.intro (And.intro (And.intro (And.intro (@pb_37) (@pb_40)) (And.intro (@pb_30) (@pb_41))) (And.intro (And.intro (@pb_8) (@pb_12)) (And.intro (@pb_15) (@ia_2)))) (And.intro (And.intro (And.intro (@sz_2) (@ze_2)) (And.intro (@ia_3) (@sz_3))) (And.intro (And.intro (@ia_4) (@sz_4)) (And.intro (@ia_22) (@sz_22))))) (And.intro (And.intro (And.intro (And.intro (@ia_24) (@sz_24)) (And.intro (@ia_25) (@sz_25))) (And.intro (And.intro (@ia_29) (@sz_29)) (And.intro (@ze_29) (@ia_39)))) (And.intro (And.intro (And.intro (@sz_39) (@ze_39)) (And.intro (@bs_39) (@fo_39_0))) (And.intro (And.intro (@fo_39_1) (@ia_46)) (And.intro (@sz_46) (And.intro (@ia_47) (@sz_47))))))) := And.intro (And.intro (And.intro (And.intro (And.intro (@pb_37) (@pb_40)) (And.intro (@pb_30) (@pb_41))) (And.intro (And.intro (@pb_8) (@pb_12)) (And.intro (@pb_15) (@ia_2)))) (And.intro (And.intro (And.intro (@sz_2) (@ze_2)) (And.intro (@ia_3) (@sz_3))) (And.intro (And.intro (@ia_4) (@sz_4)) (And.intro (@ia_22) (@sz_22))))) (And.intro (And.intro (And.intro (And.intro (@ia_24) (@sz_24)) (And.intro (@ia_25) (@sz_25))) (And.intro (And.intro (@ia_29) (@sz_29)) (And.intro (@ze_29) (@ia_39)))) (And.intro (And.intro (And.intro (@sz_39) (@ze_39)) (And.intro (@bs_39) (@fo_39_0))) (And.intro (And.intro (@fo_39_1) (@ia_46)) (And.intro (@sz_46) (And.intro (@ia_47) (@sz_47))))))
theorem YsR.any {h : H} {L : List AO} {w : Nat} {b : AV} {yvs : List AV} {ys : List (List Int)} (y : YsR (X h L w) b yvs ys) {w' : Nat} (hw : w' ≤ h.clock + L.length) : YsR (X h L w') b yvs ys := by
  have := y.up [] w' (by rw [X_clock]; simpa using hw)
  rw [X_X, List.append_nil] at this
  exact this
theorem nthJ (sp st : Int) (a : AV) (rvs : List AV) (rows : List (List (Int × Int))) (num : Nat) (hnum : num ≤ 1000000) (he : hullErr sp st rows = 0) (h : H) (x : HullR h a rvs rows) (J : List AO) (w : Nat) (hw : w ≤ h.clock + J.length) :
    ∃ M v yvs, (om Try.prog KK).call (.fn 40 [.agg [ii sp, ii st, a], ii (num : Int)]) (X h J w) = .ok v (X h (J ++ M) w) ∧
      ∀ w', w' ≤ h.clock + (J ++ M).length → YsR (X h (J ++ M) w') v yvs (listOf (gN rows num) rows.length (m0 rows)) := by
  obtain ⟨v, h1, ey, M, yvs, rfl, hy, -⟩ := nthR sp st a rvs rows (num : Int) ⟨by omega, by omega⟩ he _ (x.up J w hw)
  rw [X_X, X_w] at ey hy
  exact ⟨M, v, yvs, ey, fun w' hw' => YsR.any hy hw'⟩
/-- The number of a hull that lies in a heap. -/
theorem valJ (sp st : Int) (a b : AV) (yvs : List AV) (rows : List (List (Int × Int))) (what : Int) (hwh : 0 ≤ what ∧ what ≤ 2) (he : hullErr sp st rows = 0) {gs : List Int} (hi : InG rows (m0 rows) gs) (h : H) (y : YsR h b yvs (listOf gs rows.length (m0 rows))) :
    (om Try.prog KK).call (.fn 30 [.agg [ii sp, ii st, a], b, ii what]) h = .ok (.agg [ii (rN sp st rows what gs), ii (rD sp st rows what gs)]) h := by
  obtain ⟨hn, hm, hall, hsp, hst, hof⟩ := hullErr_ok he
  have t := trueErr_ok (true_listOf he hi)
  rw [valueR sp st a b yvs rows _ t what hwh h (y.at (m := m0 rows) (by omega) (fun i hi => t.yall _ (List.getElem_mem hi)))]
  have e1 : numS (gOf what) sp st rows.length (m0 rows) (listOf gs rows.length (m0 rows)) = numG (gOf what) sp st rows (m0 rows) gs := psum_congr fun q hq => by
    unfold nuAt W
    rw [listOf_at hi.1 hn.2 hm.2 hq]
  have e2 : denS (gOf what) st rows.length (m0 rows) (listOf gs rows.length (m0 rows)) = denG (gOf what) st rows (m0 rows) gs := psum_congr fun q hq => by
    unfold deAt W
    rw [listOf_at hi.1 hn.2 hm.2 hq]
  rw [e1, e2]
  rfl

theorem spanR (sp st : Int) (a : AV) (rvs : List AV) (rows : List (List (Int × Int))) (what : Int) (hmany : hullErr sp st rows = 0 → mny rows (m0 rows) (rows.length * m0 rows) ≤ 400) (h : H) (x : HullR h a rvs rows) :
    (om Try.prog KK).call (.fn 19 [.agg [ii sp, ii st, a], ii what]) h = .ok (spanOut sp st rows what) h := by
  have wf := x.wf
  obtain ⟨hac, hao⟩ := Sl.one x.sl
  have hch : ∀ l w, w ≤ h.clock + l.length → (om Try.prog KK).call (.fn 12 [.agg [ii sp, ii st, a]]) (X h l w) = .ok (ii (hullErr sp st rows)) (X h l w) := fun l w hw => checkHullR sp st a rvs rows _ (x.up l w hw)
  refine WV_to (WV_call (fn := Try.f19) Try.func19 rfl rfl rfl rfl rfl ?_)
  simp only [argF]
  unfold spanOut
  by_cases he : hullErr sp st rows = 0
  · rw [if_neg (not_not_intro he)]
    by_cases hwh : 0 ≤ what ∧ what ≤ 2
    · rw [if_neg (not_not_intro hwh)]
      obtain ⟨hn, hm, hall, hsp, hst, hof⟩ := hullErr_ok he
      have k0 := hok he (gOf_or 0)
      have hmy : ∀ l w, w ≤ h.clock + l.length → (om Try.prog KK).call (.fn 15 [.agg [ii sp, ii st, a]]) (X h l w) = .ok (ii (mny rows (m0 rows) (rows.length * m0 rows))) (X h l w) := fun l w hw => manyR sp st a rvs rows he _ (x.up l w hw)
      obtain ⟨hmp, hp1⟩ := mny_prod (rows := rows) (m := m0 rows) (n := rows.length * m0 rows) (fun q hq => k0.hoff q hq) _ (Nat.le_refl _)
      have hm4 := hmany he
      obtain ⟨mn, hmn⟩ := Int.eq_ofNat_of_zero_le (show 0 ≤ mny rows (m0 rows) (rows.length * m0 rows) by omega)
      have hpr : (mn : Int) = prodW rows (m0 rows) (rows.length * m0 rows) := by omega
      rw [hmn] at hmy hm4
      have hval : ∀ (num : Nat) (J : List AO) b yvs, (∀ w', w' ≤ h.clock + J.length → YsR (X h J w') b yvs (listOf (gN rows num) rows.length (m0 rows))) → ∀ w, w ≤ h.clock + J.length → (om Try.prog KK).call (.fn 30 [.agg [ii sp, ii st, a], b, ii what]) (X h J w) = .ok (.agg [ii (rN sp st rows what (gN rows num)), ii (rD sp st rows what (gN rows num))]) (X h J w) := fun num J b yvs hy w hw => valJ sp st a b yvs rows what hwh he (gN_in he num) _ (hy w hw)
      obtain ⟨M1, b1, yv1, e1, y1⟩ := nthJ sp st a rvs rows 0 (by omega) he h x [.cells (mkCells [ii sp, ii st, a]) 24, .cells (mkCells [ii 0, ii 0, ii 0, ii 0]) 39] (h.clock + 2) (by simp)
      have v1 := hval 0 _ _ _ y1
      obtain ⟨M2, b2, yv2, e2, y2⟩ := nthJ sp st a rvs rows 0 (by omega) he h x (.cells (mkCells [ii sp, ii st, a]) 24 :: .cells (mkCells [ii 0, ii 0, ii 0, ii 0]) 39 :: M1) (h.clock + (M1.length + 1 + 1)) (by simp)
      have v2 := hval 0 _ _ _ y2
      simp only [List.cons_append, List.nil_append, List.append_assoc] at v1 v2 e1 e2
      have hfirst := Tried.first (what := what) he
      have hb1 : 1 ≤ mn := by omega
      have e00 : ((0 : Nat) : Int) = 0 := rfl
      rw [e00] at e1 e2
      (repeat' (first
  | (with_reducible first | refine WC_seq ?_ | refine WC_skip ?_ | refine WC_label ?_ | refine WC_scope ?_ | refine WC_block ?_ | refine WC_ret ?_ | refine WC_exit ?_ | refine seqQ_norm ?_ | refine seqQ_ret ?_ | refine seqQ_exit ?_ | refine blkQ_norm ?_ | refine blkQ_ret ?_ | refine blkQ_here ?_ | refine gateK_yes ?_ | refine gateK_none ?_ | refine condK_tt ?_ | refine condK_ff ?_ | refine roundQ_exit ?_ | refine roundQ_ret ?_)
  | refine WC_region ?_ | refine blkQ_out rfl ?_ | refine WO_nil ?_ | refine WD_nil ?_
  | ((first | refine WD_gate rfl rfl rfl rfl rfl fun K_ hK_ => ?_ | refine WO_gate rfl rfl rfl rfl rfl fun K_ hK_ => ?_); simp only [upd_apply, asB_bool, asB_tup, ↓reduceIte, reduceCtorEq, Nat.reduceEqDiff, Bool.not_true, Bool.not_false]; refine hK_ _ ?_; clear hK_ K_)
  | refine gateK_no (by decide) ?_
  | ((try first | refine WO_op rfl rfl rfl ?_ | refine WO_op0 rfl rfl ?_ | refine WD_op rfl rfl rfl ?_ | refine WD_op0 rfl rfl ?_); (refine WV_gen fun Q_ hQ_ => ?_; simp (disch := first | omega | (simp only [List.length_cons, List.length_nil, List.length_append]; omega)) only [bb, bp, argF, ↓reduceIte, reduceCtorEq, Nat.reduceEqDiff, Nat.reduceLT, Nat.reduceLeDiff, Nat.reduceAdd, Nat.reduceMul, Nat.reduceSub, Nat.reduceBEq, Int.reduceToNat, cond_true, cond_false, eq_self, beq_self_eq_true, hch, he, hao, newPtr_X wf, newSlice_X wf, load1_X wf, loadAgg_X wf, store1_X wf, writeCells_X wf, makeFunc_def, tEvB6]; first | (refine dec_split (Q := Q_) (fun hp_ => ?_) (fun hp_ => ?_) <;> first | (exfalso; omega) | (refine hQ_ _ _ ?_; clear hQ_ Q_)) | (refine dec_splitn (Q := Q_) (fun hp_ => ?_) (fun hp_ => ?_) <;> first | (exfalso; omega) | (refine hQ_ _ _ ?_; clear hQ_ Q_)) | (refine hQ_ _ _ ?_; clear hQ_ Q_)))
  | (refine WC_cond fun K_ hK_ => ?_; simp (disch := omega) only [evT_tmp, upd_apply, WB_some, ↓reduceIte, reduceCtorEq, Nat.reduceEqDiff, Nat.reduceLT]; refine hK_ _ ?_; clear hK_ K_)))
      refine WC_drawnB [.no, .no, .no, .no, .no, .no, .no, .no, .no, .no, .no, .no, .full] (by kernel_rfl) ?_
      (repeat' (first
  | (with_reducible first | refine WC_seq ?_ | refine WC_skip ?_ | refine WC_label ?_ | refine WC_scope ?_ | refine WC_block ?_ | refine WC_ret ?_ | refine WC_exit ?_ | refine seqQ_norm ?_ | refine seqQ_ret ?_ | refine seqQ_exit ?_ | refine blkQ_norm ?_ | refine blkQ_ret ?_ | refine blkQ_here ?_ | refine gateK_yes ?_ | refine gateK_none ?_ | refine condK_tt ?_ | refine condK_ff ?_ | refine roundQ_exit ?_ | refine roundQ_ret ?_)
  | refine WC_region ?_ | refine blkQ_out rfl ?_ | refine WO_nil ?_ | refine WD_nil ?_
  | ((first | refine WD_gate rfl rfl rfl rfl rfl fun K_ hK_ => ?_ | refine WO_gate rfl rfl rfl rfl rfl fun K_ hK_ => ?_); simp only [upd_apply, asB_bool, asB_tup, ↓reduceIte, reduceCtorEq, Nat.reduceEqDiff, Bool.not_true, Bool.not_false]; refine hK_ _ ?_; clear hK_ K_)
  | refine gateK_no (by decide) ?_
  | ((try first | refine WO_op rfl rfl rfl ?_ | refine WO_op0 rfl rfl ?_ | refine WD_op rfl rfl rfl ?_ | refine WD_op0 rfl rfl ?_); (refine WV_gen fun Q_ hQ_ => ?_; simp (disch := first | omega | (simp only [List.length_cons, List.length_nil, List.length_append]; omega)) only [bb, bp, argF, ↓reduceIte, reduceCtorEq, Nat.reduceEqDiff, Nat.reduceLT, Nat.reduceLeDiff, Nat.reduceAdd, Nat.reduceMul, Nat.reduceSub, Nat.reduceBEq, Int.reduceToNat, cond_true, cond_false, eq_self, beq_self_eq_true, e1, v1, e2, v2, hao, newPtr_X wf, newSlice_X wf, load1_X wf, loadAgg_X wf, store1_X wf, writeCells_X wf, makeFunc_def, tEvB6]; first | (refine dec_split (Q := Q_) (fun hp_ => ?_) (fun hp_ => ?_) <;> first | (exfalso; omega) | (refine hQ_ _ _ ?_; clear hQ_ Q_)) | (refine dec_splitn (Q := Q_) (fun hp_ => ?_) (fun hp_ => ?_) <;> first | (exfalso; omega) | (refine hQ_ _ _ ?_; clear hQ_ Q_)) | (refine hQ_ _ _ ?_; clear hQ_ Q_)))
  | (refine WC_cond fun K_ hK_ => ?_; simp (disch := omega) only [evT_tmp, upd_apply, WB_some, ↓reduceIte, reduceCtorEq, Nat.reduceEqDiff, Nat.reduceLT]; refine hK_ _ ?_; clear hK_ K_)))
      obtain ⟨B6, hB6⟩ : ∃ B6, B6 = M1.length + M2.length + 1 + 1 := ⟨_, rfl⟩
      rw [← hB6]
      refine WC_loop (fun (k : Nat) f d h' => (1 ≤ k ∧ k ≤ mn) ∧ f 1 = ii what ∧ f 2 = .ptr (nx h 0) 0 ∧ f 4 = .ptr (nx h 1) 0 ∧ f 6 = .ptr (nx h B6) 0 ∧ f 7 = ii (k : Int) ∧ d = [] ∧ ∃ (L : List AO) (lN lD hN hD : Int), h' = X h L h.clock ∧
        L[0]? = some (.cells (mkCells [ii sp, ii st, a]) 24) ∧ L[1]? = some (.cells (mkCells [ii 0, ii 0, ii 0, ii 0]) 39) ∧ L[B6]? = some (.cells (mkCells [ii lN, ii lD, ii hN, ii hD]) 39) ∧ Tried sp st rows what k lN lD hN hD) (fun k => mn - k) ?_ (mn + 1) 1 (by omega) ?_
      · clear e1 e2 v1 v2 y1 y2
        rintro k f d h' ⟨hk, g1, g2, g4, g6, g7, rfl, L, lN, lD, hN, hD, rfl, l0, l1, l6, ht⟩
        have h6 : 2 ≤ B6 := by omega
        have l6l : B6 < L.length := (List.getElem?_eq_some_iff.1 l6).1
        obtain ⟨LL, hLL⟩ : ∃ LL : Int → Int → Int → Int → List AO, LL = fun p q r s => L.set B6 (.cells (mkCells [ii p, ii q, ii r, ii s]) 39) := ⟨_, rfl⟩
        have hLe : L = LL lN lD hN hD := by
          rw [hLL]
          refine List.ext_getElem? fun j => ?_
          dsimp only
          by_cases hj : B6 = j
          · subst hj; rw [List.getElem?_set_self l6l, l6]
          · rw [List.getElem?_set_ne hj]
        have hlen : ∀ p q r s, (LL p q r s).length = L.length := fun p q r s => by rw [hLL]; exact List.length_set
        have q0 : ∀ p q r s, (LL p q r s)[0]? = some (.cells (mkCells [ii sp, ii st, a]) 24) := fun p q r s => by rw [hLL]; dsimp only; rw [List.getElem?_set_ne (by omega)]; exact l0
        have q1 : ∀ p q r s, (LL p q r s)[1]? = some (.cells (mkCells [ii 0, ii 0, ii 0, ii 0]) 39) := fun p q r s => by rw [hLL]; dsimp only; rw [List.getElem?_set_ne (by omega)]; exact l1
        have q6 : ∀ p q r s, (LL p q r s)[B6]? = some (.cells (mkCells [ii p, ii q, ii r, ii s]) 39) := fun p q r s => by rw [hLL]; dsimp only; rw [List.getElem?_set_self l6l]
        have qs : ∀ p q r s p' q' r' s', (LL p q r s).set B6 (.cells (mkCells [ii p', ii q', ii r', ii s']) 39) = LL p' q' r' s' := fun p q r s p' q' r' s' => by rw [hLL]; exact List.set_set _
        have left : ∀ {l R : List AO} {j : Nat} {o : AO}, l[j]? = some o → (l ++ R)[j]? = some o := fun hh => by rw [List.getElem?_append_left (List.getElem?_eq_some_iff.1 hh).1]; exact hh
        have ld0 : ∀ p q r s R w, loadAgg (nx h 0) 0 (some 3) (X h (LL p q r s ++ R) w) = some (.agg [ii sp, ii st, a]) := fun p q r s R w => by rw [loadAgg_X wf, left (q0 p q r s)]; simp (disch := first | omega | (simp only [List.length_cons, List.length_nil, List.length_append]; omega)) only [bb, bp, argF, ↓reduceIte, reduceCtorEq, Nat.reduceEqDiff, Nat.reduceLT, Nat.reduceLeDiff, Nat.reduceAdd, Nat.reduceMul, Nat.reduceSub, Nat.reduceBEq, Int.reduceToNat, cond_true, cond_false, eq_self, beq_self_eq_true, tEvB6]
        have ld0' : ∀ p q r s w, loadAgg (nx h 0) 0 (some 3) (X h (LL p q r s) w) = some (.agg [ii sp, ii st, a]) := fun p q r s w => by have := ld0 p q r s [] w; rwa [List.append_nil] at this
        have ldl : ∀ p q r s R w, loadAgg (nx h B6) 0 (some 2) (X h (LL p q r s ++ R) w) = some (.agg [ii p, ii q]) := fun p q r s R w => by rw [loadAgg_X wf, left (q6 p q r s)]; simp (disch := first | omega | (simp only [List.length_cons, List.length_nil, List.length_append]; omega)) only [bb, bp, argF, ↓reduceIte, reduceCtorEq, Nat.reduceEqDiff, Nat.reduceLT, Nat.reduceLeDiff, Nat.reduceAdd, Nat.reduceMul, Nat.reduceSub, Nat.reduceBEq, Int.reduceToNat, cond_true, cond_false, eq_self, beq_self_eq_true, tEvB6]
        have ldh : ∀ p q r s R w, loadAgg (nx h B6) 2 (some 2) (X h (LL p q r s ++ R) w) = some (.agg [ii r, ii s]) := fun p q r s R w => by rw [loadAgg_X wf, left (q6 p q r s)]; simp (disch := first | omega | (simp only [List.length_cons, List.length_nil, List.length_append]; omega)) only [bb, bp, argF, ↓reduceIte, reduceCtorEq, Nat.reduceEqDiff, Nat.reduceLT, Nat.reduceLeDiff, Nat.reduceAdd, Nat.reduceMul, Nat.reduceSub, Nat.reduceBEq, Int.reduceToNat, cond_true, cond_false, eq_self, beq_self_eq_true, tEvB6]
        have ld6 : ∀ p q r s w, loadAgg (nx h B6) 0 (some 4) (X h (LL p q r s) w) = some (.agg [ii p, ii q, ii r, ii s]) := fun p q r s w => by rw [loadAgg_X wf, q6 p q r s]; simp (disch := first | omega | (simp only [List.length_cons, List.length_nil, List.length_append]; omega)) only [bb, bp, argF, ↓reduceIte, reduceCtorEq, Nat.reduceEqDiff, Nat.reduceLT, Nat.reduceLeDiff, Nat.reduceAdd, Nat.reduceMul, Nat.reduceSub, Nat.reduceBEq, Int.reduceToNat, cond_true, cond_false, eq_self, beq_self_eq_true, tEvB6]
        have stl : ∀ p q r s R w p' q', writeCells (nx h B6) 0 [ii p', ii q'] (X h (LL p q r s ++ R) w) = some (X h (LL p' q' r s ++ R) (min (h.clock + B6) w)) := fun p q r s R w p' q' => by
          rw [writeCells_new wf (left (q6 p q r s)) (by simp) rfl, List.set_append_left _ _ (by rw [hlen]; exact l6l)]
          show some (X h ((LL p q r s).set B6 (.cells (mkCells [ii p', ii q', ii r, ii s]) 39) ++ R) _) = _
          rw [qs]
        have sth : ∀ p q r s R w r' s', writeCells (nx h B6) 2 [ii r', ii s'] (X h (LL p q r s ++ R) w) = some (X h (LL p q r' s' ++ R) (min (h.clock + B6) w)) := fun p q r s R w r' s' => by
          rw [writeCells_new wf (left (q6 p q r s)) (by simp) rfl, List.set_append_left _ _ (by rw [hlen]; exact l6l)]
          show some (X h ((LL p q r s).set B6 (.cells (mkCells [ii p, ii q, ii r', ii s']) 39) ++ R) _) = _
          rw [qs]
        have hget : ∀ p q r s p' q' r' s' (M : List AO) o, (LL p q r s ++ (M ++ [o]))[(LL p' q' r' s').length + M.length]? = some o := fun p q r s p' q' r' s' M o => by
          rw [hlen, ← hlen p q r s, app_len, app_len0]; rfl
        have hmL : ∀ p q r s, (om Try.prog KK).call (.fn 15 [.agg [ii sp, ii st, a]]) (X h (LL p q r s) h.clock) = .ok (ii (mn : Int)) (X h (LL p q r s) h.clock) := fun p q r s => hmy _ _ (by omega)
        rw [hLe]
        clear hmy hLe
        by_cases hlt : k < mn
        · obtain ⟨M, b, yv, e1, y1⟩ := nthJ sp st a rvs rows k (by omega) he h x (LL lN lD hN hD) (h.clock + (LL lN lD hN hD).length) (by omega)
          have v1 := hval k _ _ _ y1
          have hnx := ht.next he (vN := rN sp st rows what (gN rows k)) (vD := rD sp st rows what (gN rows k)) ⟨rfl, rfl⟩
          obtain ⟨bl, bh⟩ := ht.bnd he
          have bv := r_bnd (what := what) he k
          generalize rN sp st rows what (gN rows k) = vN at *
          generalize rD sp st rows what (gN rows k) = vD at *
          have s1 : ∀ l w, w ≤ h.clock + l.length → (om Try.prog KK).call (.fn 41 [.agg [ii vN, ii vD], .agg [ii lN, ii lD]]) (X h l w) = .ok (.bool (decide (vN * lD < lN * vD))) (X h l w) := fun l w hw => lessR vN vD lN lD bv bl _ (wf.X hw)
          have s2 : ∀ l w, w ≤ h.clock + l.length → (om Try.prog KK).call (.fn 41 [.agg [ii hN, ii hD], .agg [ii vN, ii vD]]) (X h l w) = .ok (.bool (decide (hN * vD < vN * hD))) (X h l w) := fun l w hw => lessR hN hD vN vD bh bv _ (wf.X hw)
          (repeat' (first
  | (with_reducible first | refine WC_seq ?_ | refine WC_skip ?_ | refine WC_label ?_ | refine WC_scope ?_ | refine WC_block ?_ | refine WC_ret ?_ | refine WC_exit ?_ | refine seqQ_norm ?_ | refine seqQ_ret ?_ | refine seqQ_exit ?_ | refine blkQ_norm ?_ | refine blkQ_ret ?_ | refine blkQ_here ?_ | refine gateK_yes ?_ | refine gateK_none ?_ | refine condK_tt ?_ | refine condK_ff ?_ | refine roundQ_exit ?_ | refine roundQ_ret ?_)
  | refine WC_region ?_ | refine blkQ_out rfl ?_ | refine WO_nil ?_ | refine WD_nil ?_
  | ((first | refine WD_gate rfl rfl rfl rfl rfl fun K_ hK_ => ?_ | refine WO_gate rfl rfl rfl rfl rfl fun K_ hK_ => ?_); simp only [upd_apply, asB_bool, asB_tup, ↓reduceIte, reduceCtorEq, Nat.reduceEqDiff, Bool.not_true, Bool.not_false]; refine hK_ _ ?_; clear hK_ K_)
  | refine gateK_no (by decide) ?_
  | ((try first | refine WO_op rfl rfl rfl ?_ | refine WO_op0 rfl rfl ?_ | refine WD_op rfl rfl rfl ?_ | refine WD_op0 rfl rfl ?_); (refine WV_gen fun Q_ hQ_ => ?_; simp (disch := first | omega | (simp only [List.length_cons, List.length_nil, List.length_append]; omega)) only [bb, bp, argF, ↓reduceIte, reduceCtorEq, Nat.reduceEqDiff, Nat.reduceLT, Nat.reduceLeDiff, Nat.reduceAdd, Nat.reduceMul, Nat.reduceSub, Nat.reduceBEq, Int.reduceToNat, cond_true, cond_false, eq_self, beq_self_eq_true, g1, g2, g4, g6, g7, ld0', hmL, tEvB6]; first | (refine dec_split (Q := Q_) (fun hp_ => ?_) (fun hp_ => ?_) <;> first | (exfalso; omega) | (refine hQ_ _ _ ?_; clear hQ_ Q_)) | (refine dec_splitn (Q := Q_) (fun hp_ => ?_) (fun hp_ => ?_) <;> first | (exfalso; omega) | (refine hQ_ _ _ ?_; clear hQ_ Q_)) | (refine hQ_ _ _ ?_; clear hQ_ Q_)))
  | (refine WC_cond fun K_ hK_ => ?_; simp (disch := omega) only [evT_tmp, upd_apply, WB_some, ↓reduceIte, reduceCtorEq, Nat.reduceEqDiff, Nat.reduceLT]; refine hK_ _ ?_; clear hK_ K_)))
          refine WC_drawnB [.no, .no, .no, .no, .no, .no, .no, .full] (by kernel_rfl) ?_
          by_cases hc1 : vN * lD < lN * vD
          · rw [decide_eq_true hc1] at s1
            rw [if_pos hc1, if_pos hc1] at hnx
            by_cases hc2 : hN * vD < vN * hD
            · rw [decide_eq_true hc2] at s2
              rw [if_pos hc2, if_pos hc2] at hnx
              (repeat' (first
  | (with_reducible first | refine WC_seq ?_ | refine WC_skip ?_ | refine WC_label ?_ | refine WC_scope ?_ | refine WC_block ?_ | refine WC_ret ?_ | refine WC_exit ?_ | refine seqQ_norm ?_ | refine seqQ_ret ?_ | refine seqQ_exit ?_ | refine blkQ_norm ?_ | refine blkQ_ret ?_ | refine blkQ_here ?_ | refine gateK_yes ?_ | refine gateK_none ?_ | refine condK_tt ?_ | refine condK_ff ?_ | refine roundQ_exit ?_ | refine roundQ_ret ?_)
  | refine WC_region ?_ | refine blkQ_out rfl ?_ | refine WO_nil ?_ | refine WD_nil ?_
  | ((first | refine WD_gate rfl rfl rfl rfl rfl fun K_ hK_ => ?_ | refine WO_gate rfl rfl rfl rfl rfl fun K_ hK_ => ?_); simp only [upd_apply, asB_bool, asB_tup, ↓reduceIte, reduceCtorEq, Nat.reduceEqDiff, Bool.not_true, Bool.not_false]; refine hK_ _ ?_; clear hK_ K_)
  | refine gateK_no (by decide) ?_
  | ((try first | refine WO_op rfl rfl rfl ?_ | refine WO_op0 rfl rfl ?_ | refine WD_op rfl rfl rfl ?_ | refine WD_op0 rfl rfl ?_); (refine WV_gen fun Q_ hQ_ => ?_; simp (disch := first | omega | (simp only [List.length_cons, List.length_nil, List.length_append]; omega)) only [bb, bp, argF, ↓reduceIte, reduceCtorEq, Nat.reduceEqDiff, Nat.reduceLT, Nat.reduceLeDiff, Nat.reduceAdd, Nat.reduceMul, Nat.reduceSub, Nat.reduceBEq, Int.reduceToNat, cond_true, cond_false, eq_self, beq_self_eq_true, g1, g2, g4, g6, g7, ld0, ld0', e1, v1, s1, s2, ldl, ldh, stl, sth, hget, newPtr_X wf, newSlice_X wf, load1_X wf, loadAgg_X wf, store1_X wf, writeCells_X wf, makeFunc_def, tEvB6]; first | (refine dec_split (Q := Q_) (fun hp_ => ?_) (fun hp_ => ?_) <;> first | (exfalso; omega) | (refine hQ_ _ _ ?_; clear hQ_ Q_)) | (refine dec_splitn (Q := Q_) (fun hp_ => ?_) (fun hp_ => ?_) <;> first | (exfalso; omega) | (refine hQ_ _ _ ?_; clear hQ_ Q_)) | (refine hQ_ _ _ ?_; clear hQ_ Q_)))
  | (refine WC_cond fun K_ hK_ => ?_; simp (disch := omega) only [evT_tmp, upd_apply, WB_some, ↓reduceIte, reduceCtorEq, Nat.reduceEqDiff, Nat.reduceLT]; refine hK_ _ ?_; clear hK_ K_)))
              refine roundQ_again (k + 1) (by omega) ⟨by omega, by simp only [upd_apply, ↓reduceIte, reduceCtorEq, Nat.reduceEqDiff]; exact g1, by simp only [upd_apply, ↓reduceIte, reduceCtorEq, Nat.reduceEqDiff]; exact g2, by simp only [upd_apply, ↓reduceIte, reduceCtorEq, Nat.reduceEqDiff]; exact g4, by simp only [upd_apply, ↓reduceIte, reduceCtorEq, Nat.reduceEqDiff]; exact g6, by simp only [upd_apply, ↓reduceIte, reduceCtorEq, Nat.reduceEqDiff]; rfl, rfl, _, vN, vD, vN, vD, rfl, left (q0 ..), left (q1 ..), left (q6 ..), hnx⟩
            · rw [decide_eq_false hc2] at s2
              rw [if_neg hc2, if_neg hc2] at hnx
              (repeat' (first
  | (with_reducible first | refine WC_seq ?_ | refine WC_skip ?_ | refine WC_label ?_ | refine WC_scope ?_ | refine WC_block ?_ | refine WC_ret ?_ | refine WC_exit ?_ | refine seqQ_norm ?_ | refine seqQ_ret ?_ | refine seqQ_exit ?_ | refine blkQ_norm ?_ | refine blkQ_ret ?_ | refine blkQ_here ?_ | refine gateK_yes ?_ | refine gateK_none ?_ | refine condK_tt ?_ | refine condK_ff ?_ | refine roundQ_exit ?_ | refine roundQ_ret ?_)
  | refine WC_region ?_ | refine blkQ_out rfl ?_ | refine WO_nil ?_ | refine WD_nil ?_
  | ((first | refine WD_gate rfl rfl rfl rfl rfl fun K_ hK_ => ?_ | refine WO_gate rfl rfl rfl rfl rfl fun K_ hK_ => ?_); simp only [upd_apply, asB_bool, asB_tup, ↓reduceIte, reduceCtorEq, Nat.reduceEqDiff, Bool.not_true, Bool.not_false]; refine hK_ _ ?_; clear hK_ K_)
  | refine gateK_no (by decide) ?_
  | ((try first | refine WO_op rfl rfl rfl ?_ | refine WO_op0 rfl rfl ?_ | refine WD_op rfl rfl rfl ?_ | refine WD_op0 rfl rfl ?_); (refine WV_gen fun Q_ hQ_ => ?_; simp (disch := first | omega | (simp only [List.length_cons, List.length_nil, List.length_append]; omega)) only [bb, bp, argF, ↓reduceIte, reduceCtorEq, Nat.reduceEqDiff, Nat.reduceLT, Nat.reduceLeDiff, Nat.reduceAdd, Nat.reduceMul, Nat.reduceSub, Nat.reduceBEq, Int.reduceToNat, cond_true, cond_false, eq_self, beq_self_eq_true, g1, g2, g4, g6, g7, ld0, ld0', e1, v1, s1, s2, ldl, ldh, stl, sth, hget, newPtr_X wf, newSlice_X wf, load1_X wf, loadAgg_X wf, store1_X wf, writeCells_X wf, makeFunc_def, tEvB6]; first | (refine dec_split (Q := Q_) (fun hp_ => ?_) (fun hp_ => ?_) <;> first | (exfalso; omega) | (refine hQ_ _ _ ?_; clear hQ_ Q_)) | (refine dec_splitn (Q := Q_) (fun hp_ => ?_) (fun hp_ => ?_) <;> first | (exfalso; omega) | (refine hQ_ _ _ ?_; clear hQ_ Q_)) | (refine hQ_ _ _ ?_; clear hQ_ Q_)))
  | (refine WC_cond fun K_ hK_ => ?_; simp (disch := omega) only [evT_tmp, upd_apply, WB_some, ↓reduceIte, reduceCtorEq, Nat.reduceEqDiff, Nat.reduceLT]; refine hK_ _ ?_; clear hK_ K_)))
              refine roundQ_again (k + 1) (by omega) ⟨by omega, by simp only [upd_apply, ↓reduceIte, reduceCtorEq, Nat.reduceEqDiff]; exact g1, by simp only [upd_apply, ↓reduceIte, reduceCtorEq, Nat.reduceEqDiff]; exact g2, by simp only [upd_apply, ↓reduceIte, reduceCtorEq, Nat.reduceEqDiff]; exact g4, by simp only [upd_apply, ↓reduceIte, reduceCtorEq, Nat.reduceEqDiff]; exact g6, by simp only [upd_apply, ↓reduceIte, reduceCtorEq, Nat.reduceEqDiff]; rfl, rfl, _, vN, vD, hN, hD, rfl, left (q0 ..), left (q1 ..), left (q6 ..), hnx⟩
          · rw [decide_eq_false hc1] at s1
            rw [if_neg hc1, if_neg hc1] at hnx
            by_cases hc2 : hN * vD < vN * hD
            · rw [decide_eq_true hc2] at s2
              rw [if_pos hc2, if_pos hc2] at hnx
              (repeat' (first
  | (with_reducible first | refine WC_seq ?_ | refine WC_skip ?_ | refine WC_label ?_ | refine WC_scope ?_ | refine WC_block ?_ | refine WC_ret ?_ | refine WC_exit ?_ | refine seqQ_norm ?_ | refine seqQ_ret ?_ | refine seqQ_exit ?_ | refine blkQ_norm ?_ | refine blkQ_ret ?_ | refine blkQ_here ?_ | refine gateK_yes ?_ | refine gateK_none ?_ | refine condK_tt ?_ | refine condK_ff ?_ | refine roundQ_exit ?_ | refine roundQ_ret ?_)
  | refine WC_region ?_ | refine blkQ_out rfl ?_ | refine WO_nil ?_ | refine WD_nil ?_
  | ((first | refine WD_gate rfl rfl rfl rfl rfl fun K_ hK_ => ?_ | refine WO_gate rfl rfl rfl rfl rfl fun K_ hK_ => ?_); simp only [upd_apply, asB_bool, asB_tup, ↓reduceIte, reduceCtorEq, Nat.reduceEqDiff, Bool.not_true, Bool.not_false]; refine hK_ _ ?_; clear hK_ K_)
  | refine gateK_no (by decide) ?_
  | ((try first | refine WO_op rfl rfl rfl ?_ | refine WO_op0 rfl rfl ?_ | refine WD_op rfl rfl rfl ?_ | refine WD_op0 rfl rfl ?_); (refine WV_gen fun Q_ hQ_ => ?_; simp (disch := first | omega | (simp only [List.length_cons, List.length_nil, List.length_append]; omega)) only [bb, bp, argF, ↓reduceIte, reduceCtorEq, Nat.reduceEqDiff, Nat.reduceLT, Nat.reduceLeDiff, Nat.reduceAdd, Nat.reduceMul, Nat.reduceSub, Nat.reduceBEq, Int.reduceToNat, cond_true, cond_false, eq_self, beq_self_eq_true, g1, g2, g4, g6, g7, ld0, ld0', e1, v1, s1, s2, ldl, ldh, stl, sth, hget, newPtr_X wf, newSlice_X wf, load1_X wf, loadAgg_X wf, store1_X wf, writeCells_X wf, makeFunc_def, tEvB6]; first | (refine dec_split (Q := Q_) (fun hp_ => ?_) (fun hp_ => ?_) <;> first | (exfalso; omega) | (refine hQ_ _ _ ?_; clear hQ_ Q_)) | (refine dec_splitn (Q := Q_) (fun hp_ => ?_) (fun hp_ => ?_) <;> first | (exfalso; omega) | (refine hQ_ _ _ ?_; clear hQ_ Q_)) | (refine hQ_ _ _ ?_; clear hQ_ Q_)))
  | (refine WC_cond fun K_ hK_ => ?_; simp (disch := omega) only [evT_tmp, upd_apply, WB_some, ↓reduceIte, reduceCtorEq, Nat.reduceEqDiff, Nat.reduceLT]; refine hK_ _ ?_; clear hK_ K_)))
              refine roundQ_again (k + 1) (by omega) ⟨by omega, by simp only [upd_apply, ↓reduceIte, reduceCtorEq, Nat.reduceEqDiff]; exact g1, by simp only [upd_apply, ↓reduceIte, reduceCtorEq, Nat.reduceEqDiff]; exact g2, by simp only [upd_apply, ↓reduceIte, reduceCtorEq, Nat.reduceEqDiff]; exact g4, by simp only [upd_apply, ↓reduceIte, reduceCtorEq, Nat.reduceEqDiff]; exact g6, by simp only [upd_apply, ↓reduceIte, reduceCtorEq, Nat.reduceEqDiff]; rfl, rfl, _, lN, lD, vN, vD, rfl, left (q0 ..), left (q1 ..), left (q6 ..), hnx⟩
            · rw [decide_eq_false hc2] at s2
              rw [if_neg hc2, if_neg hc2] at hnx
              (repeat' (first
  | (with_reducible first | refine WC_seq ?_ | refine WC_skip ?_ | refine WC_label ?_ | refine WC_scope ?_ | refine WC_block ?_ | refine WC_ret ?_ | refine WC_exit ?_ | refine seqQ_norm ?_ | refine seqQ_ret ?_ | refine seqQ_exit ?_ | refine blkQ_norm ?_ | refine blkQ_ret ?_ | refine blkQ_here ?_ | refine gateK_yes ?_ | refine gateK_none ?_ | refine condK_tt ?_ | refine condK_ff ?_ | refine roundQ_exit ?_ | refine roundQ_ret ?_)
  | refine WC_region ?_ | refine blkQ_out rfl ?_ | refine WO_nil ?_ | refine WD_nil ?_
  | ((first | refine WD_gate rfl rfl rfl rfl rfl fun K_ hK_ => ?_ | refine WO_gate rfl rfl rfl rfl rfl fun K_ hK_ => ?_); simp only [upd_apply, asB_bool, asB_tup, ↓reduceIte, reduceCtorEq, Nat.reduceEqDiff, Bool.not_true, Bool.not_false]; refine hK_ _ ?_; clear hK_ K_)
  | refine gateK_no (by decide) ?_
  | ((try first | refine WO_op rfl rfl rfl ?_ | refine WO_op0 rfl rfl ?_ | refine WD_op rfl rfl rfl ?_ | refine WD_op0 rfl rfl ?_); (refine WV_gen fun Q_ hQ_ => ?_; simp (disch := first | omega | (simp only [List.length_cons, List.length_nil, List.length_append]; omega)) only [bb, bp, argF, ↓reduceIte, reduceCtorEq, Nat.reduceEqDiff, Nat.reduceLT, Nat.reduceLeDiff, Nat.reduceAdd, Nat.reduceMul, Nat.reduceSub, Nat.reduceBEq, Int.reduceToNat, cond_true, cond_false, eq_self, beq_self_eq_true, g1, g2, g4, g6, g7, ld0, ld0', e1, v1, s1, s2, ldl, ldh, stl, sth, hget, newPtr_X wf, newSlice_X wf, load1_X wf, loadAgg_X wf, store1_X wf, writeCells_X wf, makeFunc_def, tEvB6]; first | (refine dec_split (Q := Q_) (fun hp_ => ?_) (fun hp_ => ?_) <;> first | (exfalso; omega) | (refine hQ_ _ _ ?_; clear hQ_ Q_)) | (refine dec_splitn (Q := Q_) (fun hp_ => ?_) (fun hp_ => ?_) <;> first | (exfalso; omega) | (refine hQ_ _ _ ?_; clear hQ_ Q_)) | (refine hQ_ _ _ ?_; clear hQ_ Q_)))
  | (refine WC_cond fun K_ hK_ => ?_; simp (disch := omega) only [evT_tmp, upd_apply, WB_some, ↓reduceIte, reduceCtorEq, Nat.reduceEqDiff, Nat.reduceLT]; refine hK_ _ ?_; clear hK_ K_)))
              refine roundQ_again (k + 1) (by omega) ⟨by omega, by simp only [upd_apply, ↓reduceIte, reduceCtorEq, Nat.reduceEqDiff]; exact g1, by simp only [upd_apply, ↓reduceIte, reduceCtorEq, Nat.reduceEqDiff]; exact g2, by simp only [upd_apply, ↓reduceIte, reduceCtorEq, Nat.reduceEqDiff]; exact g4, by simp only [upd_apply, ↓reduceIte, reduceCtorEq, Nat.reduceEqDiff]; exact g6, by simp only [upd_apply, ↓reduceIte, reduceCtorEq, Nat.reduceEqDiff]; rfl, rfl, _, lN, lD, hN, hD, rfl, left (q0 ..), left (q1 ..), left (q6 ..), hnx⟩
        · have hke : k = mn := by omega
          subst hke
          obtain ⟨⟨e1, e2⟩, e3, e4⟩ := ht.all he hpr
          obtain ⟨L9, hL9⟩ : ∃ L9, L9 = (LL lN lD hN hD).set 1 (.cells (mkCells [ii lN, ii lD, ii hN, ii hD]) 39) := ⟨_, rfl⟩
          have st9 : ∀ w, writeCells (nx h 1) 0 [ii lN, ii lD, ii hN, ii hD] (X h (LL lN lD hN hD) w) = some (X h L9 (min (h.clock + 1) w)) := fun w => by
            rw [writeCells_new wf (q1 ..) (by simp) rfl, hL9]; rfl
          have ld9 : ∀ w, loadAgg (nx h 1) 0 (some 4) (X h L9 w) = some (.agg [ii lN, ii lD, ii hN, ii hD]) := fun w => by
            rw [loadAgg_X wf, hL9, List.getElem?_set_self (by rw [hlen]; omega)]; simp (disch := first | omega | (simp only [List.length_cons, List.length_nil, List.length_append]; omega)) only [bb, bp, argF, ↓reduceIte, reduceCtorEq, Nat.reduceEqDiff, Nat.reduceLT, Nat.reduceLeDiff, Nat.reduceAdd, Nat.reduceMul, Nat.reduceSub, Nat.reduceBEq, Int.reduceToNat, cond_true, cond_false, eq_self, beq_self_eq_true, tEvB6]
          have h9 : L9.length = L.length := by rw [hL9, List.length_set, hlen]
          (repeat' (first
  | (with_reducible first | refine WC_seq ?_ | refine WC_skip ?_ | refine WC_label ?_ | refine WC_scope ?_ | refine WC_block ?_ | refine WC_ret ?_ | refine WC_exit ?_ | refine seqQ_norm ?_ | refine seqQ_ret ?_ | refine seqQ_exit ?_ | refine blkQ_norm ?_ | refine blkQ_ret ?_ | refine blkQ_here ?_ | refine gateK_yes ?_ | refine gateK_none ?_ | refine condK_tt ?_ | refine condK_ff ?_ | refine roundQ_exit ?_ | refine roundQ_ret ?_)
  | refine WC_region ?_ | refine blkQ_out rfl ?_ | refine WO_nil ?_ | refine WD_nil ?_
  | ((first | refine WD_gate rfl rfl rfl rfl rfl fun K_ hK_ => ?_ | refine WO_gate rfl rfl rfl rfl rfl fun K_ hK_ => ?_); simp only [upd_apply, asB_bool, asB_tup, ↓reduceIte, reduceCtorEq, Nat.reduceEqDiff, Bool.not_true, Bool.not_false]; refine hK_ _ ?_; clear hK_ K_)
  | refine gateK_no (by decide) ?_
  | ((try first | refine WO_op rfl rfl rfl ?_ | refine WO_op0 rfl rfl ?_ | refine WD_op rfl rfl rfl ?_ | refine WD_op0 rfl rfl ?_); (refine WV_gen fun Q_ hQ_ => ?_; simp (disch := first | omega | (simp only [List.length_cons, List.length_nil, List.length_append]; omega)) only [bb, bp, argF, ↓reduceIte, reduceCtorEq, Nat.reduceEqDiff, Nat.reduceLT, Nat.reduceLeDiff, Nat.reduceAdd, Nat.reduceMul, Nat.reduceSub, Nat.reduceBEq, Int.reduceToNat, cond_true, cond_false, eq_self, beq_self_eq_true, g1, g2, g4, g6, g7, ld0', hmL, ld6, st9, tEvB6]; first | (refine dec_split (Q := Q_) (fun hp_ => ?_) (fun hp_ => ?_) <;> first | (exfalso; omega) | (refine hQ_ _ _ ?_; clear hQ_ Q_)) | (refine dec_splitn (Q := Q_) (fun hp_ => ?_) (fun hp_ => ?_) <;> first | (exfalso; omega) | (refine hQ_ _ _ ?_; clear hQ_ Q_)) | (refine hQ_ _ _ ?_; clear hQ_ Q_)))
  | (refine WC_cond fun K_ hK_ => ?_; simp (disch := omega) only [evT_tmp, upd_apply, WB_some, ↓reduceIte, reduceCtorEq, Nat.reduceEqDiff, Nat.reduceLT]; refine hK_ _ ?_; clear hK_ K_)))
          refine endQ_ret _ _ rfl (retc1 (by decide) (by decide) (by simp (disch := first | omega | (simp only [List.length_cons, List.length_nil, List.length_append]; omega)) only [bb, bp, argF, ↓reduceIte, reduceCtorEq, Nat.reduceEqDiff, Nat.reduceLT, Nat.reduceLeDiff, Nat.reduceAdd, Nat.reduceMul, Nat.reduceSub, Nat.reduceBEq, Int.reduceToNat, cond_true, cond_false, eq_self, beq_self_eq_true, ld9, g4, tEvB6]; rfl)) ?_
          simp only [upd_apply, ↓reduceIte, reduceCtorEq, Nat.reduceEqDiff]
          refine WV_flat rfl (by omega) ?_
          refine ⟨?_, rfl⟩
          rw [e1, e2, e3, e4]
          rfl
      · refine ⟨⟨by omega, hb1⟩, by simp only [upd_apply, ↓reduceIte, reduceCtorEq, Nat.reduceEqDiff], by simp only [upd_apply, ↓reduceIte, reduceCtorEq, Nat.reduceEqDiff], by simp only [upd_apply, ↓reduceIte, reduceCtorEq, Nat.reduceEqDiff], by simp only [upd_apply, ↓reduceIte, reduceCtorEq, Nat.reduceEqDiff], by simp only [upd_apply, ↓reduceIte, reduceCtorEq, Nat.reduceEqDiff]; rfl, rfl, _, _, _, _, _, rfl, rfl, rfl, ?_, hfirst⟩
        rw [hB6]
        show (M1 ++ (M2 ++ _))[M1.length + M2.length]? = _
        rw [app_len, app_len0]; rfl
    · rw [if_pos hwh]
      (repeat' (first
  | (with_reducible first | refine WC_seq ?_ | refine WC_skip ?_ | refine WC_label ?_ | refine WC_scope ?_ | refine WC_block ?_ | refine WC_ret ?_ | refine WC_exit ?_ | refine seqQ_norm ?_ | refine seqQ_ret ?_ | refine seqQ_exit ?_ | refine blkQ_norm ?_ | refine blkQ_ret ?_ | refine blkQ_here ?_ | refine gateK_yes ?_ | refine gateK_none ?_ | refine condK_tt ?_ | refine condK_ff ?_ | refine roundQ_exit ?_ | refine roundQ_ret ?_)
  | refine WC_region ?_ | refine blkQ_out rfl ?_ | refine WO_nil ?_ | refine WD_nil ?_
  | ((first | refine WD_gate rfl rfl rfl rfl rfl fun K_ hK_ => ?_ | refine WO_gate rfl rfl rfl rfl rfl fun K_ hK_ => ?_); simp only [upd_apply, asB_bool, asB_tup, ↓reduceIte, reduceCtorEq, Nat.reduceEqDiff, Bool.not_true, Bool.not_false]; refine hK_ _ ?_; clear hK_ K_)
  | refine gateK_no (by decide) ?_
  | ((try first | refine WO_op rfl rfl rfl ?_ | refine WO_op0 rfl rfl ?_ | refine WD_op rfl rfl rfl ?_ | refine WD_op0 rfl rfl ?_); (refine WV_gen fun Q_ hQ_ => ?_; simp (disch := first | omega | (simp only [List.length_cons, List.length_nil, List.length_append]; omega)) only [bb, bp, argF, ↓reduceIte, reduceCtorEq, Nat.reduceEqDiff, Nat.reduceLT, Nat.reduceLeDiff, Nat.reduceAdd, Nat.reduceMul, Nat.reduceSub, Nat.reduceBEq, Int.reduceToNat, cond_true, cond_false, eq_self, beq_self_eq_true, hch, he, hao, newPtr_X wf, newSlice_X wf, load1_X wf, loadAgg_X wf, store1_X wf, writeCells_X wf, makeFunc_def, tEvB6]; first | (refine dec_split (Q := Q_) (fun hp_ => ?_) (fun hp_ => ?_) <;> first | (exfalso; omega) | (refine hQ_ _ _ ?_; clear hQ_ Q_)) | (refine dec_splitn (Q := Q_) (fun hp_ => ?_) (fun hp_ => ?_) <;> first | (exfalso; omega) | (refine hQ_ _ _ ?_; clear hQ_ Q_)) | (refine hQ_ _ _ ?_; clear hQ_ Q_)))
  | (refine WC_cond fun K_ hK_ => ?_; simp (disch := omega) only [evT_tmp, upd_apply, WB_some, ↓reduceIte, reduceCtorEq, Nat.reduceEqDiff, Nat.reduceLT]; refine hK_ _ ?_; clear hK_ K_)))
      all_goals
        refine endQ_ret _ _ rfl (retc1 (by decide) (by decide) (by simp (disch := first | omega | (simp only [List.length_cons, List.length_nil, List.length_append]; omega)) only [bb, bp, argF, ↓reduceIte, reduceCtorEq, Nat.reduceEqDiff, Nat.reduceLT, Nat.reduceLeDiff, Nat.reduceAdd, Nat.reduceMul, Nat.reduceSub, Nat.reduceBEq, Int.reduceToNat, cond_true, cond_false, eq_self, beq_self_eq_true, loadAgg_X wf, tEvB6]; rfl)) ?_
        simp only [upd_apply, ↓reduceIte, reduceCtorEq, Nat.reduceEqDiff]
        refine WV_flat rfl (by omega) ?_
        exact ⟨rfl, rfl⟩
  · rw [if_pos he]
    (repeat' (first
  | (with_reducible first | refine WC_seq ?_ | refine WC_skip ?_ | refine WC_label ?_ | refine WC_scope ?_ | refine WC_block ?_ | refine WC_ret ?_ | refine WC_exit ?_ | refine seqQ_norm ?_ | refine seqQ_ret ?_ | refine seqQ_exit ?_ | refine blkQ_norm ?_ | refine blkQ_ret ?_ | refine blkQ_here ?_ | refine gateK_yes ?_ | refine gateK_none ?_ | refine condK_tt ?_ | refine condK_ff ?_ | refine roundQ_exit ?_ | refine roundQ_ret ?_)
  | refine WC_region ?_ | refine blkQ_out rfl ?_ | refine WO_nil ?_ | refine WD_nil ?_
  | ((first | refine WD_gate rfl rfl rfl rfl rfl fun K_ hK_ => ?_ | refine WO_gate rfl rfl rfl rfl rfl fun K_ hK_ => ?_); simp only [upd_apply, asB_bool, asB_tup, ↓reduceIte, reduceCtorEq, Nat.reduceEqDiff, Bool.not_true, Bool.not_false]; refine hK_ _ ?_; clear hK_ K_)
  | refine gateK_no (by decide) ?_
  | ((try first | refine WO_op rfl rfl rfl ?_ | refine WO_op0 rfl rfl ?_ | refine WD_op rfl rfl rfl ?_ | refine WD_op0 rfl rfl ?_); (refine WV_gen fun Q_ hQ_ => ?_; simp (disch := first | omega | (simp only [List.length_cons, List.length_nil, List.length_append]; omega)) only [bb, bp, argF, ↓reduceIte, reduceCtorEq, Nat.reduceEqDiff, Nat.reduceLT, Nat.reduceLeDiff, Nat.reduceAdd, Nat.reduceMul, Nat.reduceSub, Nat.reduceBEq, Int.reduceToNat, cond_true, cond_false, eq_self, beq_self_eq_true, hch, hao, newPtr_X wf, newSlice_X wf, load1_X wf, loadAgg_X wf, store1_X wf, writeCells_X wf, makeFunc_def, tEvB6]; first | (refine dec_split (Q := Q_) (fun hp_ => ?_) (fun hp_ => ?_) <;> first | (exfalso; omega) | (refine hQ_ _ _ ?_; clear hQ_ Q_)) | (refine dec_splitn (Q := Q_) (fun hp_ => ?_) (fun hp_ => ?_) <;> first | (exfalso; omega) | (refine hQ_ _ _ ?_; clear hQ_ Q_)) | (refine hQ_ _ _ ?_; clear hQ_ Q_)))
  | (refine WC_cond fun K_ hK_ => ?_; simp (disch := omega) only [evT_tmp, upd_apply, WB_some, ↓reduceIte, reduceCtorEq, Nat.reduceEqDiff, Nat.reduceLT]; refine hK_ _ ?_; clear hK_ K_)))
    refine endQ_ret _ _ rfl (retc1 (by decide) (by decide) (by simp (disch := first | omega | (simp only [List.length_cons, List.length_nil, List.length_append]; omega)) only [bb, bp, argF, ↓reduceIte, reduceCtorEq, Nat.reduceEqDiff, Nat.reduceLT, Nat.reduceLeDiff, Nat.reduceAdd, Nat.reduceMul, Nat.reduceSub, Nat.reduceBEq, Int.reduceToNat, cond_true, cond_false, eq_self, beq_self_eq_true, loadAgg_X wf, tEvB6]; rfl)) ?_
    simp only [upd_apply, ↓reduceIte, reduceCtorEq, Nat.reduceEqDiff]
    refine WV_flat rfl (by omega) ?_
    exact ⟨rfl, rfl⟩
end Go.Proofs.Ytghondkiondeaab
end

/- EvL19 -/
section
/-
  STRUCTS OF TWO STRUCTS OF TWO NUMBERS, HELD AGAINST ONE ANOTHER.
-/
namespace Go.Ev
section
variable {P : Program}
theorem pureRun_isAggS {t : TypeId} {fs : Array Field} (hu : P.underlying t = some (.struct fs)) : pureRun P (isAgg t) = some true := by
  unfold isAgg
  rw [pureRun_seq, pureRun_underlying hu]
  rfl
theorem pureRun_partAgg {e : TypeId} {fs : Array Field} {cs : Array Value} {off n : Nat} (hu : P.underlying e = some (.struct fs)) (hz : pureRun P (sizeOf e) = some n) : pureRun P (part e cs off) = some (.agg (cs.extract off (off + n))) := by
  unfold part
  rw [pureRun_seq, pureRun_isAggS hu]
  simp only [Option.bind_some, ↓reduceIte]
  rw [pureRun_seq, hz]
  rfl
theorem pureRun_eqFour {t e : TypeId} {f0 f1 g0 g1 : Field} {k0 k1 : IntKind} {d : Nat} {a b c a' b' : Int} {c' x y : Int} (hu : P.underlying t = some (.struct #[f0, f1])) (t0 : f0.type = e) (t1 : f1.type = e) (o0 : f0.offset = 0) (o1 : f1.offset = 2)
    (n0 : f0.name ≠ "_") (n1 : f1.name ≠ "_") (hs : P.stoodInHeld t = false) (he : P.underlying e = some (.struct #[g0, g1])) (hz : pureRun P (sizeOf e) = some 2) (h0 : P.underlying g0.type = some (.int k0)) (h1 : P.underlying g1.type = some (.int k1)) (p0 : g0.offset = 0) (p1 : g1.offset = 1)
    (m0 : g0.name ≠ "_") (m1 : g1.name ≠ "_") (hse : P.stoodInHeld e = false) :
    pureRun P (Op.equalIn (d + 3) t (.agg #[.int .i64 a, .int .i64 b, .int .i64 c, .int .i64 x]) (.agg #[.int .i64 a', .int .i64 b', .int .i64 c', .int .i64 y])) = some ((a == a' && b == b') && (c == c' && x == y)) := by
  have q1 : pureRun P (part f0.type #[.int .i64 a, .int .i64 b, .int .i64 c, .int .i64 x] f0.offset) = some (.agg #[.int .i64 a, .int .i64 b]) := by rw [t0, o0, pureRun_partAgg he hz]; rfl
  have q2 : pureRun P (part f0.type #[.int .i64 a', .int .i64 b', .int .i64 c', .int .i64 y] f0.offset) = some (.agg #[.int .i64 a', .int .i64 b']) := by rw [t0, o0, pureRun_partAgg he hz]; rfl
  have q3 : pureRun P (part f1.type #[.int .i64 a, .int .i64 b, .int .i64 c, .int .i64 x] f1.offset) = some (.agg #[.int .i64 c, .int .i64 x]) := by rw [t1, o1, pureRun_partAgg he hz]; rfl
  have q4 : pureRun P (part f1.type #[.int .i64 a', .int .i64 b', .int .i64 c', .int .i64 y] f1.offset) = some (.agg #[.int .i64 c', .int .i64 y]) := by rw [t1, o1, pureRun_partAgg he hz]; rfl
  have e1 : pureRun P (Op.equalIn (d + 2) f0.type (.agg #[.int .i64 a, .int .i64 b]) (.agg #[.int .i64 a', .int .i64 b'])) = some (a == a' && b == b') := by rw [t0]; exact pureRun_eqTwo he h0 h1 p0 p1 m0 m1 hse
  have e2 : pureRun P (Op.equalIn (d + 2) f1.type (.agg #[.int .i64 c, .int .i64 x]) (.agg #[.int .i64 c', .int .i64 y])) = some (c == c' && x == y) := by rw [t1]; exact pureRun_eqTwo he h0 h1 p0 p1 m0 m1 hse
  rw [show d + 3 = (d + 2) + 1 from rfl, Op.equalIn, pureRun_seq, pureRun_underlying hu]
  simp only [Option.bind_some]
  rw [pureRun_seq, pureRun_program]
  simp only [Option.bind_some, hs]
  simp [pureRun_seq, n0, n1, q1, q2, q3, q4, e1]
  by_cases hh : a = a' ∧ b = b'
  · rw [if_neg (fun h => h hh.1 hh.2)]
    obtain ⟨rfl, rfl⟩ := hh
    simp [pureRun_pure, pureRun_seq, q3, q4, e2]
    by_cases hk : c = c' ∧ x = y
    · rw [if_neg (fun h => h hk.1 hk.2)]
      simp [hk, pureRun_pure]
    · rw [if_pos (fun h1 h2 => hk ⟨h1, h2⟩)]
      have : (c == c' && x == y) = false := by simpa using hk
      rw [this]
      simp [pureRun_pure]
  · rw [if_pos (fun h1 h2 => hh ⟨h1, h2⟩)]
    have : (a == a' && b == b') = false := by simpa using hh
    rw [this]
    simp [pureRun_pure]
/-- Both ways of holding them against one another. -/
theorem b_eq4 {t e : TypeId} {X Y : Operand} {f0 f1 g0 g1 : Field} {k0 k1 : IntKind} {a b c a' b' : Int} {c' x y : Int} (hu : P.underlying t = some (.struct #[f0, f1])) (t0 : f0.type = e) (t1 : f1.type = e) (o0 : f0.offset = 0) (o1 : f1.offset = 2)
    (n0 : f0.name ≠ "_") (n1 : f1.name ≠ "_") (hs : P.stoodInHeld t = false) (he : P.underlying e = some (.struct #[g0, g1])) (hz : pureRun P (sizeOf e) = some 2) (h0 : P.underlying g0.type = some (.int k0)) (h1 : P.underlying g1.type = some (.int k1)) (p0 : g0.offset = 0) (p1 : g1.offset = 1)
    (m0 : g0.name ≠ "_") (m1 : g1.name ≠ "_") (hse : P.stoodInHeld e = false) (hg : P.eqGuardType P.depth t = false) :
    binE P .eql t X Y (.agg [.int .i64 a, .int .i64 b, .int .i64 c, .int .i64 x]) (.agg [.int .i64 a', .int .i64 b', .int .i64 c', .int .i64 y]) = some (.bool ((a == a' && b == b') && (c == c' && x == y))) ∧
    binE P .neq t X Y (.agg [.int .i64 a, .int .i64 b, .int .i64 c, .int .i64 x]) (.agg [.int .i64 a', .int .i64 b', .int .i64 c', .int .i64 y]) = some (.bool (!((a == a' && b == b') && (c == c' && x == y)))) := by
  have key := pureRun_eqFour (d := 9997) (a := a) (b := b) (c := c) (x := x) (a' := a') (b' := b') (c' := c') (y := y) hu t0 t1 o0 o1 n0 n1 hs he hz h0 h1 p0 p1 m0 m1 hse
  have es : ∀ op, binSlow P op t X Y (.agg [.int .i64 a, .int .i64 b, .int .i64 c, .int .i64 x]) (.agg [.int .i64 a', .int .i64 b', .int .i64 c', .int .i64 y]) = pureVal P (do eqGuard op t X Y (.agg #[.int .i64 a, .int .i64 b, .int .i64 c, .int .i64 x]) (.agg #[.int .i64 a', .int .i64 b', .int .i64 c', .int .i64 y]); binOp op t (.agg #[.int .i64 a, .int .i64 b, .int .i64 c, .int .i64 x]) (.agg #[.int .i64 a', .int .i64 b', .int .i64 c', .int .i64 y])) := fun op => rfl
  have eb : ∀ op, binE P op t X Y (.agg [.int .i64 a, .int .i64 b, .int .i64 c, .int .i64 x]) (.agg [.int .i64 a', .int .i64 b', .int .i64 c', .int .i64 y]) = binSlow P op t X Y (.agg [.int .i64 a, .int .i64 b, .int .i64 c, .int .i64 x]) (.agg [.int .i64 a', .int .i64 b', .int .i64 c', .int .i64 y]) := fun op => rfl
  constructor
  · rw [eb, es]
    have e1 : pureRun P (eqGuard .eql t X Y (.agg #[.int .i64 a, .int .i64 b, .int .i64 c, .int .i64 x]) (.agg #[.int .i64 a', .int .i64 b', .int .i64 c', .int .i64 y])) = some () := by
      unfold eqGuard
      simp [pureRun_seq, pureRun_program, hg, pureRun_pure]
    have e2 : pureRun P (binOp .eql t (.agg #[.int .i64 a, .int .i64 b, .int .i64 c, .int .i64 x]) (.agg #[.int .i64 a', .int .i64 b', .int .i64 c', .int .i64 y])) = some (.bool ((a == a' && b == b') && (c == c' && x == y))) := by
      show pureRun P (do pure (Value.bool (← Op.equalIn (9997 + 3) t _ _))) = _
      rw [pureRun_seq, key]
      rfl
    unfold pureVal
    rw [pureRun_seq, e1]
    simp only [Option.bind_some]
    rw [e2]
    rfl
  · rw [eb, es]
    have e1 : pureRun P (eqGuard .neq t X Y (.agg #[.int .i64 a, .int .i64 b, .int .i64 c, .int .i64 x]) (.agg #[.int .i64 a', .int .i64 b', .int .i64 c', .int .i64 y])) = some () := by
      unfold eqGuard
      simp [pureRun_seq, pureRun_program, hg, pureRun_pure]
    have e2 : pureRun P (binOp .neq t (.agg #[.int .i64 a, .int .i64 b, .int .i64 c, .int .i64 x]) (.agg #[.int .i64 a', .int .i64 b', .int .i64 c', .int .i64 y])) = some (.bool (!((a == a' && b == b') && (c == c' && x == y)))) := by
      show pureRun P (do pure (Value.bool (!(← Op.equalIn (9997 + 3) t _ _)))) = _
      rw [pureRun_seq, key]
      rfl
    unfold pureVal
    rw [pureRun_seq, e1]
    simp only [Option.bind_some]
    rw [e2]
    rfl
end
end Go.Ev
end

/- EvB7 -/
section
/-
  LAYER 2: the statement BoxSpans, walked.
-/
namespace Go.Proofs.Ytghondkiondeaab
open Go.Ev
set_option maxRecDepth 100000
set_option linter.unusedSimpArgs false
set_option linter.unusedVariables false
set_option maxHeartbeats 4000000

theorem tEvB7 : type_of% (And.intro (And.intro (And.intro (And.intro (And.intro (@ia_52) (@sz_52)) (And.intro (@ze_52) (And.intro (@bs_52) (@ia_62)))) (And.intro (And.intro (@sz_62) (@ia_56)) (And.intro (@sz_56) (And.intro (@ze_56) (@pb_5))))) (And.intro (And.intro (And.intro (@pb_6) (@pb_10)) (And.intro (@pb_12) (And.intro (@pb_15) (@pb_16)))) (And.intro (And.intro (@pb_17) (And.intro (@pb_18) (@pb_19))) (And.intro (@pb_20) (And.intro (@pb_38) (@ia_2)))))) (And.intro (And.intro (And.intro (And.intro (@sz_2) (@ze_2)) (And.intro (@ia_3) (And.intro (@sz_3) (@ia_4)))) (And.intro (And.intro (@sz_4) (And.intro (@ia_24) (@sz_24))) (And.intro (@ze_24) (And.intro (@ia_25) (@sz_25))))) (And.intro (And.intro (And.intro (@ia_29) (@sz_29)) (And.intro (@ze_29) (And.intro (@ia_39) (@sz_39)))) (And.intro (And.intro (@ze_39) (And.intro (@bs_39) (@fo_39_0))) (And.intro (@fo_39_1) (And.intro (@ia_30) (@sz_30))))))) := And.intro (And.intro (And.intro (And.intro (And.intro (@ia_52) (@sz_52)) (And.intro (@ze_52) (And.intro (@bs_52) (@ia_62)))) (And.intro (And.intro (@sz_62) (@ia_56)) (And.intro (@sz_56) (And.intro (@ze_56) (@pb_5))))) (And.intro (And.intro (And.intro (@pb_6) (@pb_10)) (And.intro (@pb_12) (And.intro (@pb_15) (@pb_16)))) (And.intro (And.intro (@pb_17) (And.intro (@pb_18) (@pb_19))) (And.intro (@pb_20) (And.intro (@pb_38) (@ia_2)))))) (And.intro (And.intro (And.intro (And.intro (@sz_2) (@ze_2)) (And.intro (@ia_3) (And.intro (@sz_3) (@ia_4)))) (And.intro (And.intro (@sz_4) (And.intro (@ia_24) (@sz_24))) (And.intro (@ze_24) (And.intro (@ia_25) (@sz_25))))) (And.intro (And.intro (And.intro (@ia_29) (@sz_29)) (And.intro (@ze_29) (And.intro (@ia_39) (@sz_39)))) (And.intro (And.intro (@ze_39) (And.intro (@bs_39) (@fo_39_0))) (And.intro (@fo_39_1) (And.intro (@ia_30) (@sz_30))))))
theorem eq39 {x y : Operand} {a b c d a' b' c' d' : Int} : binE Try.prog .eql 39 x y (.agg [ii a, ii b, ii c, ii d]) (.agg [ii a', ii b', ii c', ii d']) = some (.bool ((a == a' && b == b') && (c == c' && d == d'))) ∧
    binE Try.prog .neq 39 x y (.agg [ii a, ii b, ii c, ii d]) (.agg [ii a', ii b', ii c', ii d']) = some (.bool (!((a == a' && b == b') && (c == c' && d == d')))) := by
  obtain ⟨f0, f1, hu, o0, o1, t0, t1, n0, n1⟩ : ∃ f0 f1 : Field, Try.prog.underlying 39 = some (.struct #[f0, f1]) ∧ f0.offset = 0 ∧ f1.offset = 2 ∧ f0.type = 29 ∧ f1.type = 29 ∧ f0.name ≠ "_" ∧ f1.name ≠ "_" := ⟨_, _, Try.underlying39, rfl, rfl, rfl, rfl, by decide, by decide⟩
  obtain ⟨g0, g1, hv, p0, p1, s0, s1, m0, m1⟩ := under29
  exact b_eq4 hu t0 t1 o0 o1 n0 n1 (by kernel_rfl) hv (by kernel_rfl) (by rw [s0]; exact Try.underlying2) (by rw [s1]; exact Try.underlying2) p0 p1 m0 m1 (by kernel_rfl) (by kernel_rfl)
theorem neq39 {x y : Operand} {a b c d : Int} : binE Try.prog .neq 39 x y (.agg [ii a, ii b, ii c, ii d]) (.agg [ii a, ii b, ii c, ii d]) = some (.bool false) := by
  rw [(eq39 (x := x) (y := y) (a := a) (b := b) (c := c) (d := d) (a' := a) (b' := b) (c' := c) (d' := d)).2]; simp

def spanErr (sp st : Int) (rows : List (List (Int × Int))) (what : Int) : Int := if hullErr sp st rows ≠ 0 then hullErr sp st rows else if ¬ (0 ≤ what ∧ what ≤ 2) then 3 else 0
theorem endBad (sp st : Int) (a : AV) (rvs : List AV) (rows : List (List (Int × Int))) (what : Int) (high : Bool) (hbad : spanErr sp st rows what ≠ 0) (h : H) (x : HullR h a rvs rows) :
    (om Try.prog KK).call (.fn 20 [.agg [ii sp, ii st, a], ii what, .bool high]) h = .ok (.tup [.nils, ii (spanErr sp st rows what)]) h := by
  have wf := x.wf
  obtain ⟨hac, hao⟩ := Sl.one x.sl
  refine WV_to (WV_call (fn := Try.f20) Try.func20 rfl rfl rfl rfl rfl ?_)
  simp only [argF]
  by_cases he : hullErr sp st rows = 0
  · by_cases hwh : 0 ≤ what ∧ what ≤ 2
    · exact absurd (by unfold spanErr; rw [if_neg (not_not_intro he), if_neg (not_not_intro hwh)]) hbad
    · have e : spanErr sp st rows what = 3 := by unfold spanErr; rw [if_neg (not_not_intro he), if_pos hwh]
      rw [e]
      (repeat' (first
  | (with_reducible first | refine WC_seq ?_ | refine WC_skip ?_ | refine WC_label ?_ | refine WC_scope ?_ | refine WC_block ?_ | refine WC_ret ?_ | refine WC_exit ?_ | refine seqQ_norm ?_ | refine seqQ_ret ?_ | refine seqQ_exit ?_ | refine blkQ_norm ?_ | refine blkQ_ret ?_ | refine blkQ_here ?_ | refine gateK_yes ?_ | refine gateK_none ?_ | refine condK_tt ?_ | refine condK_ff ?_ | refine roundQ_exit ?_ | refine roundQ_ret ?_)
  | refine WC_region ?_ | refine blkQ_out rfl ?_ | refine WO_nil ?_ | refine WD_nil ?_
  | ((first | refine WD_gate rfl rfl rfl rfl rfl fun K_ hK_ => ?_ | refine WO_gate rfl rfl rfl rfl rfl fun K_ hK_ => ?_); simp only [upd_apply, asB_bool, asB_tup, ↓reduceIte, reduceCtorEq, Nat.reduceEqDiff, Bool.not_true, Bool.not_false]; refine hK_ _ ?_; clear hK_ K_)
  | refine gateK_no (by decide) ?_
  | ((try first | refine WO_op rfl rfl rfl ?_ | refine WO_op0 rfl rfl ?_ | refine WD_op rfl rfl rfl ?_ | refine WD_op0 rfl rfl ?_); (refine WV_gen fun Q_ hQ_ => ?_; simp (disch := first | omega | (simp only [List.length_cons, List.length_nil, List.length_append]; omega)) only [bb, bp, argF, ↓reduceIte, reduceCtorEq, Nat.reduceEqDiff, Nat.reduceLT, Nat.reduceLeDiff, Nat.reduceAdd, Nat.reduceMul, Nat.reduceSub, Nat.reduceBEq, Int.reduceToNat, cond_true, cond_false, eq_self, beq_self_eq_true, hao, newPtr_X wf, newSlice_X wf, load1_X wf, loadAgg_X wf, store1_X wf, writeCells_X wf, makeFunc_def, tEvB7]; first | (refine dec_split (Q := Q_) (fun hp_ => ?_) (fun hp_ => ?_) <;> first | (exfalso; omega) | (refine hQ_ _ _ ?_; clear hQ_ Q_)) | (refine dec_splitn (Q := Q_) (fun hp_ => ?_) (fun hp_ => ?_) <;> first | (exfalso; omega) | (refine hQ_ _ _ ?_; clear hQ_ Q_)) | (refine hQ_ _ _ ?_; clear hQ_ Q_) | (refine WV_eq (questionNot sp st a rvs rows what he hwh x (by simp only [List.length_append, List.length_cons, List.length_nil]; omega)) ?_; refine hQ_ _ _ ?_; clear hQ_ Q_)))
  | (refine WC_cond fun K_ hK_ => ?_; simp (disch := omega) only [evT_tmp, upd_apply, WB_some, ↓reduceIte, reduceCtorEq, Nat.reduceEqDiff, Nat.reduceLT]; refine hK_ _ ?_; clear hK_ K_)))
      (refine endQ_ret _ _ rfl (ret2 (by decide) (by decide)) ?_; simp only [upd_apply, ↓reduceIte, reduceCtorEq, Nat.reduceEqDiff]; refine WV_flat rfl (by omega) ?_)
      exact ⟨rfl, rfl⟩
  · have e : spanErr sp st rows what = hullErr sp st rows := by unfold spanErr; rw [if_pos he]
    rw [e]
    have hqb : ∀ l w, w ≤ h.clock + l.length → (om Try.prog KK).call (.fn 38 [.agg [ii sp, ii st, a], ii what]) (X h l w) = .ok (.tup [.agg [ii 0, ii 0, .nils], .nilf, ii (hullErr sp st rows)]) (X h l w) := fun l w hw => questionBad sp st a rvs rows what he _ (x.up l w hw)
    (repeat' (first
  | (with_reducible first | refine WC_seq ?_ | refine WC_skip ?_ | refine WC_label ?_ | refine WC_scope ?_ | refine WC_block ?_ | refine WC_ret ?_ | refine WC_exit ?_ | refine seqQ_norm ?_ | refine seqQ_ret ?_ | refine seqQ_exit ?_ | refine blkQ_norm ?_ | refine blkQ_ret ?_ | refine blkQ_here ?_ | refine gateK_yes ?_ | refine gateK_none ?_ | refine condK_tt ?_ | refine condK_ff ?_ | refine roundQ_exit ?_ | refine roundQ_ret ?_)
  | refine WC_region ?_ | refine blkQ_out rfl ?_ | refine WO_nil ?_ | refine WD_nil ?_
  | ((first | refine WD_gate rfl rfl rfl rfl rfl fun K_ hK_ => ?_ | refine WO_gate rfl rfl rfl rfl rfl fun K_ hK_ => ?_); simp only [upd_apply, asB_bool, asB_tup, ↓reduceIte, reduceCtorEq, Nat.reduceEqDiff, Bool.not_true, Bool.not_false]; refine hK_ _ ?_; clear hK_ K_)
  | refine gateK_no (by decide) ?_
  | ((try first | refine WO_op rfl rfl rfl ?_ | refine WO_op0 rfl rfl ?_ | refine WD_op rfl rfl rfl ?_ | refine WD_op0 rfl rfl ?_); (refine WV_gen fun Q_ hQ_ => ?_; simp (disch := first | omega | (simp only [List.length_cons, List.length_nil, List.length_append]; omega)) only [bb, bp, argF, ↓reduceIte, reduceCtorEq, Nat.reduceEqDiff, Nat.reduceLT, Nat.reduceLeDiff, Nat.reduceAdd, Nat.reduceMul, Nat.reduceSub, Nat.reduceBEq, Int.reduceToNat, cond_true, cond_false, eq_self, beq_self_eq_true, hqb, hao, newPtr_X wf, newSlice_X wf, load1_X wf, loadAgg_X wf, store1_X wf, writeCells_X wf, makeFunc_def, tEvB7]; first | (refine dec_split (Q := Q_) (fun hp_ => ?_) (fun hp_ => ?_) <;> first | (exfalso; omega) | (refine hQ_ _ _ ?_; clear hQ_ Q_)) | (refine dec_splitn (Q := Q_) (fun hp_ => ?_) (fun hp_ => ?_) <;> first | (exfalso; omega) | (refine hQ_ _ _ ?_; clear hQ_ Q_)) | (refine hQ_ _ _ ?_; clear hQ_ Q_)))
  | (refine WC_cond fun K_ hK_ => ?_; simp (disch := omega) only [evT_tmp, upd_apply, WB_some, ↓reduceIte, reduceCtorEq, Nat.reduceEqDiff, Nat.reduceLT]; refine hK_ _ ?_; clear hK_ K_)))
    (refine endQ_ret _ _ rfl (ret2 (by decide) (by decide)) ?_; simp only [upd_apply, ↓reduceIte, reduceCtorEq, Nat.reduceEqDiff]; refine WV_flat rfl (by omega) ?_)
    exact ⟨rfl, rfl⟩

theorem lawSpans (sp st what : Int) (high : Bool) (a : AV) (rvs : List AV) (rows : List (List (Int × Int))) (h : H) (x : HullR h a rvs rows) :
    (om Try.prog KK).call (.fn 4 [.agg [ii sp, ii st, a], ii what, .bool high]) h = .ok (.bool true) h := by
  have wf := x.wf
  obtain ⟨hac, hao⟩ := Sl.one x.sl
  have y0 : ∀ h', Wf h' → YsR h' .nils [] [] := fun h' wf' => ⟨wf', Sl.nil _ _, fun i hi => absurd hi (Nat.not_lt_zero i)⟩
  have hgr : ∀ l w, w ≤ h.clock + l.length → (om Try.prog KK).call (.fn 5 [.agg [ii sp, ii st, a], .nils]) (X h l w) = .ok (.bool (decide (Great rows []))) (X h l w) := fun l w hw => great sp st a .nils rvs [] rows [] _ (x.up l w hw) (y0 _ (wf.X hw))
  have hwk : ∀ l w, (om Try.prog KK).call (.fn 6 []) (X h l w) = .ok (.bool true) (X h l w) := fun l w => works _
  have hch : ∀ l w, w ≤ h.clock + l.length → (om Try.prog KK).call (.fn 12 [.agg [ii sp, ii st, a]]) (X h l w) = .ok (ii (hullErr sp st rows)) (X h l w) := fun l w hw => checkHullR sp st a rvs rows _ (x.up l w hw)
  have h16 : ∀ l w, w ≤ h.clock + l.length → (om Try.prog KK).call (.fn 16 [.agg [ii sp, ii st, a]]) (X h l w) = .ok (volsOut sp st rows) (X h l w) := fun l w hw => volumesC sp st a rvs rows _ (x.up l w hw)
  have h17 : ∀ l w, w ≤ h.clock + l.length → (om Try.prog KK).call (.fn 17 [.agg [ii sp, ii st, a]]) (X h l w) = .ok (volsOut sp st rows) (X h l w) := fun l w hw => volumesR sp st a rvs rows _ (x.up l w hw)
  have h18 : ∀ l w, w ≤ h.clock + l.length → (om Try.prog KK).call (.fn 18 [.agg [ii sp, ii st, a], ii what]) (X h l w) = .ok (spanOut sp st rows what) (X h l w) := fun l w hw => spanC sp st a rvs rows what _ (x.up l w hw)
  have h19 : (hullErr sp st rows = 0 → mny rows (m0 rows) (rows.length * m0 rows) ≤ 400) → ∀ l w, w ≤ h.clock + l.length → (om Try.prog KK).call (.fn 19 [.agg [ii sp, ii st, a], ii what]) (X h l w) = .ok (spanOut sp st rows what) (X h l w) := fun hm l w hw => spanR sp st a rvs rows what hm _ (x.up l w hw)
  obtain ⟨vp, vq, vr, vs, ve, hvo⟩ : ∃ vp vq vr vs ve, volsOut sp st rows = .tup [.agg [ii vp, ii vq, ii vr, ii vs], ii ve] := by
    unfold volsOut
    split
    · exact ⟨_, _, _, _, _, rfl⟩
    · exact ⟨_, _, _, _, _, rfl⟩
  obtain ⟨xp, xq, xr, xs, hso⟩ : ∃ xp xq xr xs, spanOut sp st rows what = .tup [.agg [ii xp, ii xq, ii xr, ii xs], ii (spanErr sp st rows what)] := by
    unfold spanOut spanErr
    split
    · exact ⟨_, _, _, _, rfl⟩
    · split
      · exact ⟨_, _, _, _, rfl⟩
      · exact ⟨_, _, _, _, rfl⟩
  have hln : ∀ h', lenE Try.prog 25 .nils h' = some (ii 0) := fun h' => (Sl.nil h' 1).len un_25
  rw [hvo] at h16 h17
  have h18o := h18
  have h19o := h19
  rw [hso] at h18 h19
  refine WV_to (WV_call (fn := Try.f4) Try.func4 rfl rfl rfl rfl rfl ?_)
  simp only [argF]
  by_cases hG : Great rows []
  · rw [decide_eq_true hG] at hgr
    (repeat' (first
  | (with_reducible first | refine WC_seq ?_ | refine WC_skip ?_ | refine WC_label ?_ | refine WC_scope ?_ | refine WC_block ?_ | refine WC_ret ?_ | refine WC_exit ?_ | refine seqQ_norm ?_ | refine seqQ_ret ?_ | refine seqQ_exit ?_ | refine blkQ_norm ?_ | refine blkQ_ret ?_ | refine blkQ_here ?_ | refine gateK_yes ?_ | refine gateK_none ?_ | refine condK_tt ?_ | refine condK_ff ?_ | refine roundQ_exit ?_ | refine roundQ_ret ?_)
  | refine WC_region ?_ | refine blkQ_out rfl ?_ | refine WO_nil ?_ | refine WD_nil ?_
  | ((first | refine WD_gate rfl rfl rfl rfl rfl fun K_ hK_ => ?_ | refine WO_gate rfl rfl rfl rfl rfl fun K_ hK_ => ?_); simp only [upd_apply, asB_bool, asB_tup, ↓reduceIte, reduceCtorEq, Nat.reduceEqDiff, Bool.not_true, Bool.not_false]; refine hK_ _ ?_; clear hK_ K_)
  | refine gateK_no (by decide) ?_
  | ((try first | refine WO_op rfl rfl rfl ?_ | refine WO_op0 rfl rfl ?_ | refine WD_op rfl rfl rfl ?_ | refine WD_op0 rfl rfl ?_); (refine WV_gen fun Q_ hQ_ => ?_; simp (disch := first | omega | (simp only [List.length_cons, List.length_nil, List.length_append]; omega)) only [bb, bp, argF, ↓reduceIte, reduceCtorEq, Nat.reduceEqDiff, Nat.reduceLT, Nat.reduceLeDiff, Nat.reduceAdd, Nat.reduceMul, Nat.reduceSub, Nat.reduceBEq, Int.reduceToNat, cond_true, cond_false, eq_self, beq_self_eq_true, hgr, hwk, hao, newPtr_X wf, newSlice_X wf, load1_X wf, loadAgg_X wf, store1_X wf, writeCells_X wf, makeFunc_def, tEvB7]; first | (refine dec_split (Q := Q_) (fun hp_ => ?_) (fun hp_ => ?_) <;> first | (exfalso; omega) | (refine hQ_ _ _ ?_; clear hQ_ Q_)) | (refine dec_splitn (Q := Q_) (fun hp_ => ?_) (fun hp_ => ?_) <;> first | (exfalso; omega) | (refine hQ_ _ _ ?_; clear hQ_ Q_)) | (refine hQ_ _ _ ?_; clear hQ_ Q_)))
  | (refine WC_cond fun K_ hK_ => ?_; simp (disch := omega) only [evT_tmp, upd_apply, WB_some, ↓reduceIte, reduceCtorEq, Nat.reduceEqDiff, Nat.reduceLT]; refine hK_ _ ?_; clear hK_ K_)))
    (refine endQ_ret _ _ rfl (ret1 (by decide)) ?_; simp only [upd_apply, ↓reduceIte, reduceCtorEq, Nat.reduceEqDiff]; refine WV_flat rfl (by omega) ?_)
    exact ⟨rfl, rfl⟩
  · rw [decide_eq_false hG] at hgr
    by_cases he : hullErr sp st rows = 0
    · have hmy : ∀ l w, w ≤ h.clock + l.length → (om Try.prog KK).call (.fn 15 [.agg [ii sp, ii st, a]]) (X h l w) = .ok (ii (mny rows (m0 rows) (rows.length * m0 rows))) (X h l w) := fun l w hw => manyR sp st a rvs rows he _ (x.up l w hw)
      by_cases hm4 : mny rows (m0 rows) (rows.length * m0 rows) ≤ 400
      · have h19' := h19 fun _ => hm4
        by_cases hwh : 0 ≤ what ∧ what ≤ 2
        · have ese : spanErr sp st rows what = 0 := by unfold spanErr; rw [if_neg (not_not_intro he), if_neg (not_not_intro hwh)]
          have hs2 : spanOut sp st rows what = .tup [.agg [ii (ratN (gOf what) sp st rows (m0 rows) (lowG sp st rows what false)), ii (ratD (gOf what) sp st rows (m0 rows) (lowG sp st rows what false)), ii (ratN (gOf what) sp st rows (m0 rows) (lowG sp st rows what true)), ii (ratD (gOf what) sp st rows (m0 rows) (lowG sp st rows what true))], ii 0] := by
            unfold spanOut; rw [if_neg (not_not_intro he), if_neg (not_not_intro hwh)]
          have h19q := h19o fun _ => hm4
          clear h19o h19 h19' h18 hso
          rw [hs2] at h18o h19q
          obtain ⟨hn, hm, hall, hsp, hst, hof⟩ := hullErr_ok he
          obtain ⟨E, b, yvs, e1, y1⟩ := endXJ sp st a rvs rows what high he hwh h x [.cells (mkCells [ii sp, ii st, a]) 24, .cells (mkCells [ii vp, ii vq, ii vr, ii vs]) 39, .cells (mkCells [ii vp, ii vq, ii vr, ii vs]) 39,
            .cells (mkCells [ii (ratN (gOf what) sp st rows (m0 rows) (lowG sp st rows what false)), ii (ratD (gOf what) sp st rows (m0 rows) (lowG sp st rows what false)), ii (ratN (gOf what) sp st rows (m0 rows) (lowG sp st rows what true)), ii (ratD (gOf what) sp st rows (m0 rows) (lowG sp st rows what true))]) 39,
            .cells (mkCells [ii (ratN (gOf what) sp st rows (m0 rows) (lowG sp st rows what false)), ii (ratD (gOf what) sp st rows (m0 rows) (lowG sp st rows what false)), ii (ratN (gOf what) sp st rows (m0 rows) (lowG sp st rows what true)), ii (ratD (gOf what) sp st rows (m0 rows) (lowG sp st rows what true))]) 39]
          have hi := (theEnd_ok (hok he (gOf_or what)) high).1
          have hv := val_listOf he hi hwh
          have h10 : ∀ J w, w ≤ h.clock + J.length → YsR (X h J w) b yvs (listOf (lowG sp st rows what high) rows.length (m0 rows)) → (om Try.prog KK).call (.fn 10 [.agg [ii sp, ii st, a], b, ii what]) (X h J w) = .ok (valOut sp st rows (listOf (lowG sp st rows what high) rows.length (m0 rows)) what) (X h J w) := fun J w hw hy => valueRX sp st a b rvs yvs rows _ (by unfold listOf; simp; omega) what _ (x.up J w hw) hy
          have e1' := e1 h.clock (by omega)
          have v1 := h10 _ h.clock (by omega) (y1 h.clock (by omega))
          unfold lowG at v1
          rw [hv] at v1
          simp only [List.cons_append, List.nil_append] at e1' v1
          unfold lowG at e1' h18o h19q
          cases high
          · (repeat' (first
  | (with_reducible first | refine WC_seq ?_ | refine WC_skip ?_ | refine WC_label ?_ | refine WC_scope ?_ | refine WC_block ?_ | refine WC_ret ?_ | refine WC_exit ?_ | refine seqQ_norm ?_ | refine seqQ_ret ?_ | refine seqQ_exit ?_ | refine blkQ_norm ?_ | refine blkQ_ret ?_ | refine blkQ_here ?_ | refine gateK_yes ?_ | refine gateK_none ?_ | refine condK_tt ?_ | refine condK_ff ?_ | refine roundQ_exit ?_ | refine roundQ_ret ?_)
  | refine WC_region ?_ | refine blkQ_out rfl ?_ | refine WO_nil ?_ | refine WD_nil ?_
  | ((first | refine WD_gate rfl rfl rfl rfl rfl fun K_ hK_ => ?_ | refine WO_gate rfl rfl rfl rfl rfl fun K_ hK_ => ?_); simp only [upd_apply, asB_bool, asB_tup, ↓reduceIte, reduceCtorEq, Nat.reduceEqDiff, Bool.not_true, Bool.not_false]; refine hK_ _ ?_; clear hK_ K_)
  | refine gateK_no (by decide) ?_
  | ((try first | refine WO_op rfl rfl rfl ?_ | refine WO_op0 rfl rfl ?_ | refine WD_op rfl rfl rfl ?_ | refine WD_op0 rfl rfl ?_); (refine WV_gen fun Q_ hQ_ => ?_; simp (disch := first | omega | (simp only [List.length_cons, List.length_nil, List.length_append]; omega)) only [bb, bp, argF, ↓reduceIte, reduceCtorEq, Nat.reduceEqDiff, Nat.reduceLT, Nat.reduceLeDiff, Nat.reduceAdd, Nat.reduceMul, Nat.reduceSub, Nat.reduceBEq, Int.reduceToNat, cond_true, cond_false, eq_self, beq_self_eq_true, hgr, hwk, hch, he, hmy, h16, h17, h18o, h19q, e1', v1, neq39, eqR, hao, newPtr_X wf, newSlice_X wf, load1_X wf, loadAgg_X wf, store1_X wf, writeCells_X wf, makeFunc_def, tEvB7]; first | (refine dec_split (Q := Q_) (fun hp_ => ?_) (fun hp_ => ?_) <;> first | (exfalso; omega) | (refine hQ_ _ _ ?_; clear hQ_ Q_)) | (refine dec_splitn (Q := Q_) (fun hp_ => ?_) (fun hp_ => ?_) <;> first | (exfalso; omega) | (refine hQ_ _ _ ?_; clear hQ_ Q_)) | (refine hQ_ _ _ ?_; clear hQ_ Q_)))
  | (refine WC_cond fun K_ hK_ => ?_; simp (disch := omega) only [evT_tmp, upd_apply, WB_some, ↓reduceIte, reduceCtorEq, Nat.reduceEqDiff, Nat.reduceLT]; refine hK_ _ ?_; clear hK_ K_)))
            (refine endQ_ret _ _ rfl (ret1 (by decide)) ?_; simp only [upd_apply, ↓reduceIte, reduceCtorEq, Nat.reduceEqDiff]; refine WV_flat rfl (by omega) ?_)
            exact ⟨rfl, rfl⟩
          · (repeat' (first
  | (with_reducible first | refine WC_seq ?_ | refine WC_skip ?_ | refine WC_label ?_ | refine WC_scope ?_ | refine WC_block ?_ | refine WC_ret ?_ | refine WC_exit ?_ | refine seqQ_norm ?_ | refine seqQ_ret ?_ | refine seqQ_exit ?_ | refine blkQ_norm ?_ | refine blkQ_ret ?_ | refine blkQ_here ?_ | refine gateK_yes ?_ | refine gateK_none ?_ | refine condK_tt ?_ | refine condK_ff ?_ | refine roundQ_exit ?_ | refine roundQ_ret ?_)
  | refine WC_region ?_ | refine blkQ_out rfl ?_ | refine WO_nil ?_ | refine WD_nil ?_
  | ((first | refine WD_gate rfl rfl rfl rfl rfl fun K_ hK_ => ?_ | refine WO_gate rfl rfl rfl rfl rfl fun K_ hK_ => ?_); simp only [upd_apply, asB_bool, asB_tup, ↓reduceIte, reduceCtorEq, Nat.reduceEqDiff, Bool.not_true, Bool.not_false]; refine hK_ _ ?_; clear hK_ K_)
  | refine gateK_no (by decide) ?_
  | ((try first | refine WO_op rfl rfl rfl ?_ | refine WO_op0 rfl rfl ?_ | refine WD_op rfl rfl rfl ?_ | refine WD_op0 rfl rfl ?_); (refine WV_gen fun Q_ hQ_ => ?_; simp (disch := first | omega | (simp only [List.length_cons, List.length_nil, List.length_append]; omega)) only [bb, bp, argF, ↓reduceIte, reduceCtorEq, Nat.reduceEqDiff, Nat.reduceLT, Nat.reduceLeDiff, Nat.reduceAdd, Nat.reduceMul, Nat.reduceSub, Nat.reduceBEq, Int.reduceToNat, cond_true, cond_false, eq_self, beq_self_eq_true, hgr, hwk, hch, he, hmy, h16, h17, h18o, h19q, e1', v1, neq39, eqR, hao, newPtr_X wf, newSlice_X wf, load1_X wf, loadAgg_X wf, store1_X wf, writeCells_X wf, makeFunc_def, tEvB7]; first | (refine dec_split (Q := Q_) (fun hp_ => ?_) (fun hp_ => ?_) <;> first | (exfalso; omega) | (refine hQ_ _ _ ?_; clear hQ_ Q_)) | (refine dec_splitn (Q := Q_) (fun hp_ => ?_) (fun hp_ => ?_) <;> first | (exfalso; omega) | (refine hQ_ _ _ ?_; clear hQ_ Q_)) | (refine hQ_ _ _ ?_; clear hQ_ Q_)))
  | (refine WC_cond fun K_ hK_ => ?_; simp (disch := omega) only [evT_tmp, upd_apply, WB_some, ↓reduceIte, reduceCtorEq, Nat.reduceEqDiff, Nat.reduceLT]; refine hK_ _ ?_; clear hK_ K_)))
            (refine endQ_ret _ _ rfl (ret1 (by decide)) ?_; simp only [upd_apply, ↓reduceIte, reduceCtorEq, Nat.reduceEqDiff]; refine WV_flat rfl (by omega) ?_)
            exact ⟨rfl, rfl⟩
        · have ese : spanErr sp st rows what = 3 := by unfold spanErr; rw [if_neg (not_not_intro he), if_pos hwh]
          have h20 : ∀ l w, w ≤ h.clock + l.length → (om Try.prog KK).call (.fn 20 [.agg [ii sp, ii st, a], ii what, .bool high]) (X h l w) = .ok (.tup [.nils, ii (spanErr sp st rows what)]) (X h l w) := fun l w hw => endBad sp st a rvs rows what high (by rw [ese]; decide) _ (x.up l w hw)
          rw [ese] at h18 h19' h20
          (repeat' (first
  | (with_reducible first | refine WC_seq ?_ | refine WC_skip ?_ | refine WC_label ?_ | refine WC_scope ?_ | refine WC_block ?_ | refine WC_ret ?_ | refine WC_exit ?_ | refine seqQ_norm ?_ | refine seqQ_ret ?_ | refine seqQ_exit ?_ | refine blkQ_norm ?_ | refine blkQ_ret ?_ | refine blkQ_here ?_ | refine gateK_yes ?_ | refine gateK_none ?_ | refine condK_tt ?_ | refine condK_ff ?_ | refine roundQ_exit ?_ | refine roundQ_ret ?_)
  | refine WC_region ?_ | refine blkQ_out rfl ?_ | refine WO_nil ?_ | refine WD_nil ?_
  | ((first | refine WD_gate rfl rfl rfl rfl rfl fun K_ hK_ => ?_ | refine WO_gate rfl rfl rfl rfl rfl fun K_ hK_ => ?_); simp only [upd_apply, asB_bool, asB_tup, ↓reduceIte, reduceCtorEq, Nat.reduceEqDiff, Bool.not_true, Bool.not_false]; refine hK_ _ ?_; clear hK_ K_)
  | refine gateK_no (by decide) ?_
  | ((try first | refine WO_op rfl rfl rfl ?_ | refine WO_op0 rfl rfl ?_ | refine WD_op rfl rfl rfl ?_ | refine WD_op0 rfl rfl ?_); (refine WV_gen fun Q_ hQ_ => ?_; simp (disch := first | omega | (simp only [List.length_cons, List.length_nil, List.length_append]; omega)) only [bb, bp, argF, ↓reduceIte, reduceCtorEq, Nat.reduceEqDiff, Nat.reduceLT, Nat.reduceLeDiff, Nat.reduceAdd, Nat.reduceMul, Nat.reduceSub, Nat.reduceBEq, Int.reduceToNat, cond_true, cond_false, eq_self, beq_self_eq_true, hgr, hwk, hch, he, hmy, h16, h17, h18, h19', h20, neq39, hln, hao, newPtr_X wf, newSlice_X wf, load1_X wf, loadAgg_X wf, store1_X wf, writeCells_X wf, makeFunc_def, tEvB7]; first | (refine dec_split (Q := Q_) (fun hp_ => ?_) (fun hp_ => ?_) <;> first | (exfalso; omega) | (refine hQ_ _ _ ?_; clear hQ_ Q_)) | (refine dec_splitn (Q := Q_) (fun hp_ => ?_) (fun hp_ => ?_) <;> first | (exfalso; omega) | (refine hQ_ _ _ ?_; clear hQ_ Q_)) | (refine hQ_ _ _ ?_; clear hQ_ Q_)))
  | (refine WC_cond fun K_ hK_ => ?_; simp (disch := omega) only [evT_tmp, upd_apply, WB_some, ↓reduceIte, reduceCtorEq, Nat.reduceEqDiff, Nat.reduceLT]; refine hK_ _ ?_; clear hK_ K_)))
          (refine endQ_ret _ _ rfl (ret1 (by decide)) ?_; simp only [upd_apply, ↓reduceIte, reduceCtorEq, Nat.reduceEqDiff]; refine WV_flat rfl (by omega) ?_)
          exact ⟨rfl, rfl⟩
      · (repeat' (first
  | (with_reducible first | refine WC_seq ?_ | refine WC_skip ?_ | refine WC_label ?_ | refine WC_scope ?_ | refine WC_block ?_ | refine WC_ret ?_ | refine WC_exit ?_ | refine seqQ_norm ?_ | refine seqQ_ret ?_ | refine seqQ_exit ?_ | refine blkQ_norm ?_ | refine blkQ_ret ?_ | refine blkQ_here ?_ | refine gateK_yes ?_ | refine gateK_none ?_ | refine condK_tt ?_ | refine condK_ff ?_ | refine roundQ_exit ?_ | refine roundQ_ret ?_)
  | refine WC_region ?_ | refine blkQ_out rfl ?_ | refine WO_nil ?_ | refine WD_nil ?_
  | ((first | refine WD_gate rfl rfl rfl rfl rfl fun K_ hK_ => ?_ | refine WO_gate rfl rfl rfl rfl rfl fun K_ hK_ => ?_); simp only [upd_apply, asB_bool, asB_tup, ↓reduceIte, reduceCtorEq, Nat.reduceEqDiff, Bool.not_true, Bool.not_false]; refine hK_ _ ?_; clear hK_ K_)
  | refine gateK_no (by decide) ?_
  | ((try first | refine WO_op rfl rfl rfl ?_ | refine WO_op0 rfl rfl ?_ | refine WD_op rfl rfl rfl ?_ | refine WD_op0 rfl rfl ?_); (refine WV_gen fun Q_ hQ_ => ?_; simp (disch := first | omega | (simp only [List.length_cons, List.length_nil, List.length_append]; omega)) only [bb, bp, argF, ↓reduceIte, reduceCtorEq, Nat.reduceEqDiff, Nat.reduceLT, Nat.reduceLeDiff, Nat.reduceAdd, Nat.reduceMul, Nat.reduceSub, Nat.reduceBEq, Int.reduceToNat, cond_true, cond_false, eq_self, beq_self_eq_true, hgr, hwk, hch, he, hmy, hao, newPtr_X wf, newSlice_X wf, load1_X wf, loadAgg_X wf, store1_X wf, writeCells_X wf, makeFunc_def, tEvB7]; first | (refine dec_split (Q := Q_) (fun hp_ => ?_) (fun hp_ => ?_) <;> first | (exfalso; omega) | (refine hQ_ _ _ ?_; clear hQ_ Q_)) | (refine dec_splitn (Q := Q_) (fun hp_ => ?_) (fun hp_ => ?_) <;> first | (exfalso; omega) | (refine hQ_ _ _ ?_; clear hQ_ Q_)) | (refine hQ_ _ _ ?_; clear hQ_ Q_)))
  | (refine WC_cond fun K_ hK_ => ?_; simp (disch := omega) only [evT_tmp, upd_apply, WB_some, ↓reduceIte, reduceCtorEq, Nat.reduceEqDiff, Nat.reduceLT]; refine hK_ _ ?_; clear hK_ K_)))
        (refine endQ_ret _ _ rfl (ret1 (by decide)) ?_; simp only [upd_apply, ↓reduceIte, reduceCtorEq, Nat.reduceEqDiff]; refine WV_flat rfl (by omega) ?_)
        exact ⟨rfl, rfl⟩
    · have ese : spanErr sp st rows what = hullErr sp st rows := by unfold spanErr; rw [if_pos he]
      have h20 : ∀ l w, w ≤ h.clock + l.length → (om Try.prog KK).call (.fn 20 [.agg [ii sp, ii st, a], ii what, .bool high]) (X h l w) = .ok (.tup [.nils, ii (spanErr sp st rows what)]) (X h l w) := fun l w hw => endBad sp st a rvs rows what high (by rw [ese]; exact he) _ (x.up l w hw)
      have h19' := h19 fun hh => absurd hh he
      rw [ese] at h18 h19' h20
      (repeat' (first
  | (with_reducible first | refine WC_seq ?_ | refine WC_skip ?_ | refine WC_label ?_ | refine WC_scope ?_ | refine WC_block ?_ | refine WC_ret ?_ | refine WC_exit ?_ | refine seqQ_norm ?_ | refine seqQ_ret ?_ | refine seqQ_exit ?_ | refine blkQ_norm ?_ | refine blkQ_ret ?_ | refine blkQ_here ?_ | refine gateK_yes ?_ | refine gateK_none ?_ | refine condK_tt ?_ | refine condK_ff ?_ | refine roundQ_exit ?_ | refine roundQ_ret ?_)
  | refine WC_region ?_ | refine blkQ_out rfl ?_ | refine WO_nil ?_ | refine WD_nil ?_
  | ((first | refine WD_gate rfl rfl rfl rfl rfl fun K_ hK_ => ?_ | refine WO_gate rfl rfl rfl rfl rfl fun K_ hK_ => ?_); simp only [upd_apply, asB_bool, asB_tup, ↓reduceIte, reduceCtorEq, Nat.reduceEqDiff, Bool.not_true, Bool.not_false]; refine hK_ _ ?_; clear hK_ K_)
  | refine gateK_no (by decide) ?_
  | ((try first | refine WO_op rfl rfl rfl ?_ | refine WO_op0 rfl rfl ?_ | refine WD_op rfl rfl rfl ?_ | refine WD_op0 rfl rfl ?_); (refine WV_gen fun Q_ hQ_ => ?_; simp (disch := first | omega | (simp only [List.length_cons, List.length_nil, List.length_append]; omega)) only [bb, bp, argF, ↓reduceIte, reduceCtorEq, Nat.reduceEqDiff, Nat.reduceLT, Nat.reduceLeDiff, Nat.reduceAdd, Nat.reduceMul, Nat.reduceSub, Nat.reduceBEq, Int.reduceToNat, cond_true, cond_false, eq_self, beq_self_eq_true, hgr, hwk, hch, h16, h17, h18, h19', h20, neq39, hln, hao, newPtr_X wf, newSlice_X wf, load1_X wf, loadAgg_X wf, store1_X wf, writeCells_X wf, makeFunc_def, tEvB7]; first | (refine dec_split (Q := Q_) (fun hp_ => ?_) (fun hp_ => ?_) <;> first | (exfalso; omega) | (refine hQ_ _ _ ?_; clear hQ_ Q_)) | (refine dec_splitn (Q := Q_) (fun hp_ => ?_) (fun hp_ => ?_) <;> first | (exfalso; omega) | (refine hQ_ _ _ ?_; clear hQ_ Q_)) | (refine hQ_ _ _ ?_; clear hQ_ Q_)))
  | (refine WC_cond fun K_ hK_ => ?_; simp (disch := omega) only [evT_tmp, upd_apply, WB_some, ↓reduceIte, reduceCtorEq, Nat.reduceEqDiff, Nat.reduceLT]; refine hK_ _ ?_; clear hK_ K_)))
      (refine endQ_ret _ _ rfl (ret1 (by decide)) ?_; simp only [upd_apply, ↓reduceIte, reduceCtorEq, Nat.reduceEqDiff]; refine WV_flat rfl (by omega) ?_)
      exact ⟨rfl, rfl⟩
end Go.Proofs.Ytghondkiondeaab
end

/- EvB8 -/
section
/- The statement BoxSpans of layer 2: the least and the greatest volume, and those of what is asked, are what the definitions say, or the error, and a hull that is returned has the end, for all hulls, kinds and both ends; no condition. -/
namespace Go.Proofs.Ytghondkiondeaab.boxSpans
open Go.ChangeShapes Go.WideShapes Go.ChangeAt Go.RowKit Go.Ev
set_option maxRecDepth 100000
set_option maxHeartbeats 0

theorem contract (H : Type) (enc : TypeId × Value → H) (W : World) (base : Nat) (args : Array Value) (ds gs : List (DataW H)) (before : List MemPlace) (hval : ∀ (j : Nat) t v, Try.f4.params[j]? = some t → args[j]? = some v → Value.okWide Try.prog W .any base t v)
    (hW : DataW.Whole enc Try.prog Try.f4.params.toList Rows.boxSpansSpec.vars false W args.toList ds gs before) :
    Calls Try.prog 4 args W fun e W' => ∃ v, e = .returned v ∧ Rows.boxSpansSpec.post enc Try.prog Try.f4 false true false false W args v W' := by
  have hW' := hW
  obtain ⟨p, q, hA0, hV, rfl, hfz, hnd⟩ := hW
  have hA : DataW.TrodAll enc Try.prog W 0 (fun _ => true) true Try.f4.params.toList args.toList ds p := hA0
  rw [Try.params4] at hA hval
  obtain ⟨v0, v1, v2, d0, d1, d2, p0, p1, p2, rfl, rfl, rfl, ⟨n0, h0⟩, ⟨n1, h1⟩, ⟨n2, h2⟩⟩ := trodAll_three hA
  obtain ⟨sp, st, a, rvs, rows, va, xh⟩ := hull_in (hval 0 24 v0 rfl rfl) h0
  obtain ⟨what, hz⟩ := okWideInt Try.underlying3 (okWide_cell (P := Try.prog) Try.underlying3 (fun _ e => by cases e) (fun _ _ e => by cases e) (hval 1 3 v1 rfl rfl))
  subst hz
  obtain ⟨high, hh⟩ := okWideBool Try.underlying4 (okWide_cell (P := Try.prog) Try.underlying4 (fun _ e => by cases e) (fun _ _ e => by cases e) (hval 2 4 v2 rfl rfl))
  subst hh
  have walk := lawSpans sp st what high a rvs rows (startW W) xh
  have hargs : VL (startWR W) [.agg [ii sp, ii st, a], ii what, .bool high] (#[v0, .int .i64 what, .bool high] : Array Value).toList :=
    .cons _ _ _ _ va (.cons _ _ _ _ (.int _ _) (.cons _ _ _ _ (.bool _) .nil))
  refine (startW_true (P := Try.prog) mixed (K := KK) (fun c hc => by
    have : c = cW := List.mem_singleton.1 hc
    rw [this]; exact cW_ok) walk hargs).mono fun e W' ⟨he, hgr, hs⟩ => ?_
  subst he
  refine ⟨_, rfl, law_post laidOut (by
    rw [Try.params4]
    intro t ht
    rcases List.mem_cons.1 ht with rfl | ht
    · exact ⟨by kernel_rfl, of_decide_eq_true (by kernel_rfl)⟩
    rcases List.mem_cons.1 ht with rfl | ht
    · exact ⟨by kernel_rfl, of_decide_eq_true (by kernel_rfl)⟩
    rcases List.mem_cons.1 ht with rfl | ht
    · exact ⟨by kernel_rfl, of_decide_eq_true (by kernel_rfl)⟩
    cases ht) rfl (by kernel_rfl) Try.underlying4 (fun gs' ⟨q', hq⟩ => ?_) hW' hgr hs⟩
  obtain ⟨rfl, _⟩ := trodVars_none hq
  exact ⟨rfl, rfl, rfl⟩

theorem lifted (os : Os) (started : os.Started) (H : Type) (enc : TypeId × Value → H) :
    ReturnsInHanded {} Try.checked os 4 .any (Rows.boxSpansSpec.pre6 enc Try.prog Try.f4 Rows.boxSpansRow.domain false) (Rows.boxSpansSpec.post enc Try.prog Try.f4 false true false false) := by
  refine returnsInHanded_of_change (C := Try.checked) own started (by kernel_rfl) Try.func4
    (ChangeSpec.witness6 (enc := enc) (C := Try.checked) false ⟨#[], #[.agg #[.int .i64 0, .int .i64 0, .slice none 0 0], .int .i64 0, .bool false], []⟩ 8 (by kernel_rfl) (by kernel_rfl) (by kernel_rfl) (by kernel_rfl)) ?_
  intro W base args ds gs before hval hW _ _
  exact contract H enc W base args ds gs before hval hW

theorem holds : Rows.BoxSpansSaid :=
  OpenClaim.holds_of_wide 4 Try.f4 rfl rfl rfl rfl rfl rfl rfl ⟨rfl, rfl, rfl, rfl, rfl⟩ rfl rfl rfl rfl rfl (by kernel_rfl) Try.func4 (by kernel_rfl)
    (of_decide_eq_true (by kernel_rfl)) (by unfold Func.isWrapper; first | (rw [if_pos (by decide +kernel)]; kernel_rfl) | (rw [if_neg (by decide +kernel)]; exact ⟨rfl, rfl⟩))
    (fun os started H enc _ => lifted os started H enc)
end Go.Proofs.Ytghondkiondeaab.boxSpans
end
