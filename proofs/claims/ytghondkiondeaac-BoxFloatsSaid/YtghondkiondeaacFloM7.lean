/- The statement BoxFloats of layer 2: the metacentre is not below the centre of the volume, in each true hull and at both ends, and the centre is not beyond the hull, for all hulls and numbers; no condition. -/
import Derived.Test.YtghondkiondeaacFloM6
set_option linter.all false
/- EvN4 -/
section
/-
  LAYER 2: the statement BoxFloats, walked.
-/
namespace Go.Proofs.Ytghondkiondeaac
open Go.Ev
set_option maxRecDepth 100000
set_option linter.unusedSimpArgs false
set_option linter.unusedVariables false
set_option maxHeartbeats 4000000

theorem tEvN4 : type_of% (And.intro (And.intro (And.intro (And.intro (And.intro (@ia_2) (@sz_2)) (And.intro (@ze_2) (@ia_3))) (And.intro (And.intro (@sz_3) (@ia_4)) (And.intro (@sz_4) (And.intro (@ia_5) (@sz_5))))) (And.intro (And.intro (And.intro (@ia_24) (@sz_24)) (And.intro (@ia_22) (And.intro (@sz_22) (@ia_52)))) (And.intro (And.intro (@sz_52) (@ia_34)) (And.intro (@sz_34) (And.intro (@ia_26) (@sz_26)))))) (And.intro (And.intro (And.intro (And.intro (@ze_26) (@ia_39)) (And.intro (@sz_39) (@ze_39))) (And.intro (And.intro (@fo_24_1) (@fo_24_2)) (And.intro (@fo_26_0) (And.intro (@fo_26_1) (@fo_39_0))))) (And.intro (And.intro (And.intro (@fo_39_1) (@pb_9)) (And.intro (@pb_10) (And.intro (@pb_13) (@pb_14)))) (And.intro (And.intro (@pb_17) (@pb_18)) (And.intro (@pb_19) (And.intro (@pb_20) (@pb_21))))))) := And.intro (And.intro (And.intro (And.intro (And.intro (@ia_2) (@sz_2)) (And.intro (@ze_2) (@ia_3))) (And.intro (And.intro (@sz_3) (@ia_4)) (And.intro (@sz_4) (And.intro (@ia_5) (@sz_5))))) (And.intro (And.intro (And.intro (@ia_24) (@sz_24)) (And.intro (@ia_22) (And.intro (@sz_22) (@ia_52)))) (And.intro (And.intro (@sz_52) (@ia_34)) (And.intro (@sz_34) (And.intro (@ia_26) (@sz_26)))))) (And.intro (And.intro (And.intro (And.intro (@ze_26) (@ia_39)) (And.intro (@sz_39) (@ze_39))) (And.intro (And.intro (@fo_24_1) (@fo_24_2)) (And.intro (@fo_26_0) (And.intro (@fo_26_1) (@fo_39_0))))) (And.intro (And.intro (And.intro (@fo_39_1) (@pb_9)) (And.intro (@pb_10) (And.intro (@pb_13) (@pb_14)))) (And.intro (And.intro (@pb_17) (@pb_18)) (And.intro (@pb_19) (And.intro (@pb_20) (@pb_21))))))
/-- A true hull, in any heap. -/
theorem trueXJ (sp st : Int) (a b : AV) (rvs : List AV) (rows : List (List (Int × Int))) (bys : List Int) (he : hullErr sp st rows = 0) (hby : ∀ n ∈ bys, 0 ≤ n ∧ n ≤ 255) (hbl : bys.length ≤ 80) (h : H) (x : HullR h a rvs rows) (sb : Sl h b 1 bys.length (bys.map uu)) (J : List AO) :
    ∃ (M : List AO) (v : AV) (yvs : List AV), (om Try.prog KK).call (.fn 14 [.agg [ii sp, ii st, a], b]) (X h J h.clock) = .ok v (X h (J ++ M) h.clock) ∧
      YsR (X h (J ++ M) h.clock) v yvs (listOf (tG bys rows (m0 rows)) rows.length (m0 rows)) := by
  have wf := x.wf
  obtain ⟨v, h', e, M, yvs, rfl, hy⟩ := trueC sp st a b rvs rows bys he hby hbl _ (x.up J h.clock (by omega)) (sb.up wf J h.clock)
  rw [X_X, X_w] at e hy
  exact ⟨M, v, yvs, e, hy⟩

theorem lawFloats (sp st : Int) (a b : AV) (rvs : List AV) (rows : List (List (Int × Int))) (bys : List Int) (hby : ∀ n ∈ bys, 0 ≤ n ∧ n ≤ 255) (h : H) (x : HullR h a rvs rows) (sb : Sl h b 1 bys.length (bys.map uu)) :
    (om Try.prog KK).call (.fn 8 [.agg [ii sp, ii st, a], b]) h = .ok (.bool true) h := by
  have wf := x.wf
  have hfi : ∀ l w, w ≤ h.clock + l.length → (om Try.prog KK).call (.fn 13 [.agg [ii sp, ii st, a]]) (X h l w) = .ok (.bool (!decide (Great rows []) && decide (hullErr sp st rows = 0))) (X h l w) := fun l w hw => fineC sp st a rvs rows _ (x.up l w hw)
  have hwk : ∀ l w, (om Try.prog KK).call (.fn 10 []) (X h l w) = .ok (.bool true) (X h l w) := fun l w => works _
  have hlenb : ∀ h', lenE Try.prog 32 b h' = some (ii (bys.length : Int)) := fun h' => sb.len un_32
  refine WV_to (WV_call (fn := Try.f8) Try.func8 rfl rfl rfl rfl rfl ?_)
  simp only [argF]
  cases hF : (!decide (Great rows []) && decide (hullErr sp st rows = 0)) with
  | false =>
    rw [hF] at hfi
    (repeat' (first
  | (with_reducible first | refine WC_seq ?_ | refine WC_skip ?_ | refine WC_label ?_ | refine WC_scope ?_ | refine WC_block ?_ | refine WC_ret ?_ | refine WC_exit ?_ | refine seqQ_norm ?_ | refine seqQ_ret ?_ | refine seqQ_exit ?_ | refine blkQ_norm ?_ | refine blkQ_ret ?_ | refine blkQ_here ?_ | refine gateK_yes ?_ | refine gateK_none ?_ | refine condK_tt ?_ | refine condK_ff ?_ | refine roundQ_exit ?_ | refine roundQ_ret ?_)
  | refine WC_region ?_ | refine blkQ_out rfl ?_ | refine WO_nil ?_ | refine WD_nil ?_
  | ((first | refine WD_gate rfl rfl rfl rfl rfl fun K_ hK_ => ?_ | refine WO_gate rfl rfl rfl rfl rfl fun K_ hK_ => ?_); simp only [upd_apply, asB_bool, asB_tup, ↓reduceIte, reduceCtorEq, Nat.reduceEqDiff, Bool.not_true, Bool.not_false]; refine hK_ _ ?_; clear hK_ K_)
  | refine gateK_no (by decide) ?_
  | ((try first | refine WO_op rfl rfl rfl ?_ | refine WO_op0 rfl rfl ?_ | refine WD_op rfl rfl rfl ?_ | refine WD_op0 rfl rfl ?_); (refine WV_gen fun Q_ hQ_ => ?_; simp (disch := first | omega | (simp only [List.length_cons, List.length_nil, List.length_append]; omega)) only [bb, bp, argF, ↓reduceIte, reduceCtorEq, Nat.reduceEqDiff, Nat.reduceLT, Nat.reduceLeDiff, Nat.reduceAdd, Nat.reduceMul, Nat.reduceSub, Nat.reduceBEq, Int.reduceToNat, cond_true, cond_false, eq_self, beq_self_eq_true, hfi, hwk, newPtr_X wf, load1_X wf, loadAgg_X wf, store1_X wf, writeCells_X wf, makeFunc_def, tEvN4]; first | (refine dec_split (Q := Q_) (fun hp_ => ?_) (fun hp_ => ?_) <;> first | (exfalso; omega) | (refine hQ_ _ _ ?_; clear hQ_ Q_)) | (refine dec_splitn (Q := Q_) (fun hp_ => ?_) (fun hp_ => ?_) <;> first | (exfalso; omega) | (refine hQ_ _ _ ?_; clear hQ_ Q_)) | (refine hQ_ _ _ ?_; clear hQ_ Q_)))
  | (refine WC_cond fun K_ hK_ => ?_; simp (disch := omega) only [evT_tmp, upd_apply, WB_some, ↓reduceIte, reduceCtorEq, Nat.reduceEqDiff, Nat.reduceLT]; refine hK_ _ ?_; clear hK_ K_)))
    (refine endQ_ret _ _ rfl (ret1 (by decide)) ?_; simp only [upd_apply, ↓reduceIte, reduceCtorEq, Nat.reduceEqDiff]; refine WV_flat rfl (by omega) ?_)
    exact ⟨rfl, rfl⟩
  | true =>
    rw [hF] at hfi
    rw [Bool.and_eq_true] at hF
    have he : hullErr sp st rows = 0 := of_decide_eq_true hF.2
    by_cases hbl : bys.length ≤ 80
    · obtain ⟨hn, hm, hall, hsp, hst, hof⟩ := hullErr_ok he
      have k4 := hok he (g := 54) (.inr (.inl rfl))
      have k5 := hok he (g := 55) (.inr (.inr rfl))
      have iy : InG rows (m0 rows) (tG bys rows (m0 rows)) := tG_in k4
      have i4 := fun high => (theEnd_ok k4 high).1
      have i5 := fun high => (theEnd_ok k5 high).1
      obtain ⟨-, na⟩ := rat_bnd k4 iy
      obtain ⟨-, nb⟩ := rat_bnd k5 iy
      obtain ⟨-, nsl⟩ := rat_bnd k4 (i4 false)
      obtain ⟨dsh, nsh⟩ := rat_bnd k4 (i4 true)
      obtain ⟨-, ntl⟩ := rat_bnd k5 (i5 false)
      obtain ⟨-, nth⟩ := rat_bnd k5 (i5 true)
      have qa1 := low_le k4 iy
      have qa2 := le_high k4 iy
      have qb1 := low_le k5 iy
      have qb2 := le_high k5 iy
      have qab := above_meta k4 k5 iy
      have qlo := frac_trans (isBnd_in nsl).2.1 (rat_in k4 (i5 false)).2.1 (isBnd_in ntl).2.1 (low_le k4 (i5 false)) (above_meta k4 k5 (i5 false))
      have qhi := frac_trans (isBnd_in nsh).2.1 (rat_in k5 (i4 true)).2.1 (isBnd_in nth).2.1 (above_meta k4 k5 (i4 true)) (le_high k5 (i4 true))
      have qtop := num_top k4 (i4 true)
      have v4 := val_listOf he iy (what := 1) ⟨by decide, by decide⟩
      have v5 := val_listOf he iy (what := 2) ⟨by decide, by decide⟩
      rw [show gOf 1 = 54 from rfl] at v4
      rw [show gOf 2 = 55 from rfl] at v5
      have h18 : ∀ l w what, w ≤ h.clock + l.length → (om Try.prog KK).call (.fn 18 [.agg [ii sp, ii st, a], ii what]) (X h l w) = .ok (spanOut sp st rows what) (X h l w) := fun l w what hw => spanC sp st a rvs rows what _ (x.up l w hw)
      have h181 := fun l w => h18 l w 1
      have h182 := fun l w => h18 l w 2
      clear h18
      unfold spanOut lowG at h181 h182
      simp only [if_neg (not_not_intro he)] at h181 h182
      rw [if_neg (not_not_intro ⟨by decide, by decide⟩), show gOf 1 = 54 from rfl] at h181
      rw [if_neg (not_not_intro ⟨by decide, by decide⟩), show gOf 2 = 55 from rfl] at h182
      obtain ⟨G, p, ys, hG, hY⟩ := trueXJ sp st a b rvs rows bys he hby hbl h x sb [.cells (mkCells [ii sp, ii st, a]) 24]
      have hlen : (listOf (tG bys rows (m0 rows)) rows.length (m0 rows)).length ≤ 1000 := by unfold listOf; simp; omega
      have h17 : ∀ l w what, w ≤ h.clock + l.length + (G.length + 1) → (om Try.prog KK).call (.fn 17 [.agg [ii sp, ii st, a], p, ii what]) (X h (.cells (mkCells [ii sp, ii st, a]) 24 :: (G ++ l)) w) = .ok (valOut sp st rows (listOf (tG bys rows (m0 rows)) rows.length (m0 rows)) what) (X h (.cells (mkCells [ii sp, ii st, a]) 24 :: (G ++ l)) w) := fun l w what hw => by
        have y := hY.up l w (by rw [X_clock]; simp only [List.length_cons, List.length_append, List.length_nil]; omega)
        rw [X_X] at y
        exact valueX sp st a p rvs ys rows _ hlen what _ (x.up _ w (by simp only [List.length_cons, List.length_append]; omega)) y
      have h17a : ∀ w, w ≤ h.clock + (G.length + 1) → (om Try.prog KK).call (.fn 17 [.agg [ii sp, ii st, a], p, ii 1]) (X h (.cells (mkCells [ii sp, ii st, a]) 24 :: G) w) = .ok (valOut sp st rows (listOf (tG bys rows (m0 rows)) rows.length (m0 rows)) 1) (X h (.cells (mkCells [ii sp, ii st, a]) 24 :: G) w) := fun w hw => by
        have := h17 [] w 1 (by simp only [List.length_nil]; omega)
        rw [List.append_nil] at this
        exact this
      have h17b := fun l w => h17 l w 2
      clear h17
      rw [v4] at h17a
      simp only [v5] at h17b
      simp only [List.cons_append, List.nil_append] at hG
      obtain ⟨v0, hv0, hsv0⟩ := x.row 0 (by omega)
      obtain ⟨id, off, hix, hld⟩ := x.sl.at1 wf (show 0 < rows.length by omega) ik_22
      rw [hv0] at hld
      have hix' : indexAddrE Try.prog 22 a (.int .i64 0) = some (.ptr id off) := hix
      have em : m0 rows = (rows[0]'(by omega)).length := by unfold m0; simp [List.getD, show 0 < rows.length by omega]
      have hlen0 : ∀ h', lenE Try.prog 52 v0 h' = some (ii (m0 rows : Int)) := fun h' => by rw [em]; exact hsv0.len un_52
      generalize ratN 54 sp st rows (m0 rows) (tG bys rows (m0 rows)) = aN at *
      generalize ratD 54 sp st rows (m0 rows) (tG bys rows (m0 rows)) = aD at *
      generalize ratN 55 sp st rows (m0 rows) (tG bys rows (m0 rows)) = bN at *
      generalize ratD 55 sp st rows (m0 rows) (tG bys rows (m0 rows)) = bD at *
      generalize ratN 54 sp st rows (m0 rows) (theEnd 54 sp st rows (m0 rows) false) = slN at *
      generalize ratD 54 sp st rows (m0 rows) (theEnd 54 sp st rows (m0 rows) false) = slD at *
      generalize ratN 54 sp st rows (m0 rows) (theEnd 54 sp st rows (m0 rows) true) = shN at *
      generalize ratD 54 sp st rows (m0 rows) (theEnd 54 sp st rows (m0 rows) true) = shD at *
      generalize ratN 55 sp st rows (m0 rows) (theEnd 55 sp st rows (m0 rows) false) = tlN at *
      generalize ratD 55 sp st rows (m0 rows) (theEnd 55 sp st rows (m0 rows) false) = tlD at *
      generalize ratN 55 sp st rows (m0 rows) (theEnd 55 sp st rows (m0 rows) true) = thN at *
      generalize ratD 55 sp st rows (m0 rows) (theEnd 55 sp st rows (m0 rows) true) = thD at *
      have hin1 : ∀ l w, w ≤ h.clock + l.length → (om Try.prog KK).call (.fn 19 [.agg [ii aN, ii aD], .agg [ii slN, ii slD, ii shN, ii shD]]) (X h l w) = .ok (.bool true) (X h l w) := fun l w hw => insideC na nsl nsh qa1 qa2 _ (wf.X hw)
      have hin2 : ∀ l w, w ≤ h.clock + l.length → (om Try.prog KK).call (.fn 19 [.agg [ii bN, ii bD], .agg [ii tlN, ii tlD, ii thN, ii thD]]) (X h l w) = .ok (.bool true) (X h l w) := fun l w hw => insideC nb ntl nth qb1 qb2 _ (wf.X hw)
      have hl1 : ∀ l w, w ≤ h.clock + l.length → (om Try.prog KK).call (.fn 21 [.agg [ii bN, ii bD], .agg [ii aN, ii aD]]) (X h l w) = .ok (.bool false) (X h l w) := fun l w hw => by
        rw [lessR bN bD aN aD (isBnd_in nb) (isBnd_in na) _ (wf.X hw), decide_eq_false (by omega)]
      have hl2 : ∀ l w, w ≤ h.clock + l.length → (om Try.prog KK).call (.fn 21 [.agg [ii tlN, ii tlD], .agg [ii slN, ii slD]]) (X h l w) = .ok (.bool false) (X h l w) := fun l w hw => by
        rw [lessR tlN tlD slN slD (isBnd_in ntl) (isBnd_in nsl) _ (wf.X hw), decide_eq_false (by omega)]
      have hl3 : ∀ l w, w ≤ h.clock + l.length → (om Try.prog KK).call (.fn 21 [.agg [ii thN, ii thD], .agg [ii shN, ii shD]]) (X h l w) = .ok (.bool false) (X h l w) := fun l w hw => by
        rw [lessR thN thD shN shD (isBnd_in nth) (isBnd_in nsh) _ (wf.X hw), decide_eq_false (by omega)]
      have m1 := mul_bd (a := st) (b := (m0 rows : Int) - 1) (x := 100) (y := 5) ⟨by omega, by omega⟩ ⟨by omega, by omega⟩
      have m2 := mul_bd m1 (b := shD) (y := 100000000) ⟨by have := (isBnd_in nsh).2.1; omega, by have := (isBnd_in nsh).2.2; omega⟩
      (repeat' (first
  | (with_reducible first | refine WC_seq ?_ | refine WC_skip ?_ | refine WC_label ?_ | refine WC_scope ?_ | refine WC_block ?_ | refine WC_ret ?_ | refine WC_exit ?_ | refine seqQ_norm ?_ | refine seqQ_ret ?_ | refine seqQ_exit ?_ | refine blkQ_norm ?_ | refine blkQ_ret ?_ | refine blkQ_here ?_ | refine gateK_yes ?_ | refine gateK_none ?_ | refine condK_tt ?_ | refine condK_ff ?_ | refine roundQ_exit ?_ | refine roundQ_ret ?_)
  | refine WC_region ?_ | refine blkQ_out rfl ?_ | refine WO_nil ?_ | refine WD_nil ?_
  | ((first | refine WD_gate rfl rfl rfl rfl rfl fun K_ hK_ => ?_ | refine WO_gate rfl rfl rfl rfl rfl fun K_ hK_ => ?_); simp only [upd_apply, asB_bool, asB_tup, ↓reduceIte, reduceCtorEq, Nat.reduceEqDiff, Bool.not_true, Bool.not_false]; refine hK_ _ ?_; clear hK_ K_)
  | refine gateK_no (by decide) ?_
  | ((try first | refine WO_op rfl rfl rfl ?_ | refine WO_op0 rfl rfl ?_ | refine WD_op rfl rfl rfl ?_ | refine WD_op0 rfl rfl ?_); (refine WV_gen fun Q_ hQ_ => ?_; simp (disch := first | omega | (simp only [List.length_cons, List.length_nil, List.length_append]; omega)) only [bb, bp, argF, ↓reduceIte, reduceCtorEq, Nat.reduceEqDiff, Nat.reduceLT, Nat.reduceLeDiff, Nat.reduceAdd, Nat.reduceMul, Nat.reduceSub, Nat.reduceBEq, Int.reduceToNat, cond_true, cond_false, eq_self, beq_self_eq_true, hfi, hwk, hlenb, hG, h17a, h17b, h181, h182, newPtr_X wf, load1_X wf, loadAgg_X wf, store1_X wf, writeCells_X wf, makeFunc_def, tEvN4]; first | (refine dec_split (Q := Q_) (fun hp_ => ?_) (fun hp_ => ?_) <;> first | (exfalso; omega) | (refine hQ_ _ _ ?_; clear hQ_ Q_)) | (refine dec_splitn (Q := Q_) (fun hp_ => ?_) (fun hp_ => ?_) <;> first | (exfalso; omega) | (refine hQ_ _ _ ?_; clear hQ_ Q_)) | (refine hQ_ _ _ ?_; clear hQ_ Q_)))
  | (refine WC_cond fun K_ hK_ => ?_; simp (disch := omega) only [evT_tmp, upd_apply, WB_some, ↓reduceIte, reduceCtorEq, Nat.reduceEqDiff, Nat.reduceLT]; refine hK_ _ ?_; clear hK_ K_)))
      refine WC_drawnB [.no, .no, .no, .no, .no, .no, .no, .no, .full, .full] (by kernel_rfl) ?_
      (repeat' (first
  | (with_reducible first | refine WC_seq ?_ | refine WC_skip ?_ | refine WC_label ?_ | refine WC_scope ?_ | refine WC_block ?_ | refine WC_ret ?_ | refine WC_exit ?_ | refine seqQ_norm ?_ | refine seqQ_ret ?_ | refine seqQ_exit ?_ | refine blkQ_norm ?_ | refine blkQ_ret ?_ | refine blkQ_here ?_ | refine gateK_yes ?_ | refine gateK_none ?_ | refine condK_tt ?_ | refine condK_ff ?_ | refine roundQ_exit ?_ | refine roundQ_ret ?_)
  | refine WC_region ?_ | refine blkQ_out rfl ?_ | refine WO_nil ?_ | refine WD_nil ?_
  | ((first | refine WD_gate rfl rfl rfl rfl rfl fun K_ hK_ => ?_ | refine WO_gate rfl rfl rfl rfl rfl fun K_ hK_ => ?_); simp only [upd_apply, asB_bool, asB_tup, ↓reduceIte, reduceCtorEq, Nat.reduceEqDiff, Bool.not_true, Bool.not_false]; refine hK_ _ ?_; clear hK_ K_)
  | refine gateK_no (by decide) ?_
  | ((try first | refine WO_op rfl rfl rfl ?_ | refine WO_op0 rfl rfl ?_ | refine WD_op rfl rfl rfl ?_ | refine WD_op0 rfl rfl ?_); (refine WV_gen fun Q_ hQ_ => ?_; simp (disch := first | omega | (simp only [List.length_cons, List.length_nil, List.length_append]; omega)) only [bb, bp, argF, ↓reduceIte, reduceCtorEq, Nat.reduceEqDiff, Nat.reduceLT, Nat.reduceLeDiff, Nat.reduceAdd, Nat.reduceMul, Nat.reduceSub, Nat.reduceBEq, Int.reduceToNat, cond_true, cond_false, eq_self, beq_self_eq_true, hix', hld, hlen0, hin1, hin2, hl1, hl2, hl3, hwk, qtop, newPtr_X wf, load1_X wf, loadAgg_X wf, store1_X wf, writeCells_X wf, makeFunc_def, tEvN4]; first | (refine dec_split (Q := Q_) (fun hp_ => ?_) (fun hp_ => ?_) <;> first | (exfalso; omega) | (refine hQ_ _ _ ?_; clear hQ_ Q_)) | (refine dec_splitn (Q := Q_) (fun hp_ => ?_) (fun hp_ => ?_) <;> first | (exfalso; omega) | (refine hQ_ _ _ ?_; clear hQ_ Q_)) | (refine hQ_ _ _ ?_; clear hQ_ Q_)))
  | (refine WC_cond fun K_ hK_ => ?_; simp (disch := omega) only [evT_tmp, upd_apply, WB_some, ↓reduceIte, reduceCtorEq, Nat.reduceEqDiff, Nat.reduceLT]; refine hK_ _ ?_; clear hK_ K_)))
      all_goals (refine endQ_ret _ _ rfl (ret1 (by decide)) ?_; simp only [upd_apply, ↓reduceIte, reduceCtorEq, Nat.reduceEqDiff]; refine WV_flat rfl (by omega) ?_)
      all_goals exact ⟨rfl, rfl⟩
    · (repeat' (first
  | (with_reducible first | refine WC_seq ?_ | refine WC_skip ?_ | refine WC_label ?_ | refine WC_scope ?_ | refine WC_block ?_ | refine WC_ret ?_ | refine WC_exit ?_ | refine seqQ_norm ?_ | refine seqQ_ret ?_ | refine seqQ_exit ?_ | refine blkQ_norm ?_ | refine blkQ_ret ?_ | refine blkQ_here ?_ | refine gateK_yes ?_ | refine gateK_none ?_ | refine condK_tt ?_ | refine condK_ff ?_ | refine roundQ_exit ?_ | refine roundQ_ret ?_)
  | refine WC_region ?_ | refine blkQ_out rfl ?_ | refine WO_nil ?_ | refine WD_nil ?_
  | ((first | refine WD_gate rfl rfl rfl rfl rfl fun K_ hK_ => ?_ | refine WO_gate rfl rfl rfl rfl rfl fun K_ hK_ => ?_); simp only [upd_apply, asB_bool, asB_tup, ↓reduceIte, reduceCtorEq, Nat.reduceEqDiff, Bool.not_true, Bool.not_false]; refine hK_ _ ?_; clear hK_ K_)
  | refine gateK_no (by decide) ?_
  | ((try first | refine WO_op rfl rfl rfl ?_ | refine WO_op0 rfl rfl ?_ | refine WD_op rfl rfl rfl ?_ | refine WD_op0 rfl rfl ?_); (refine WV_gen fun Q_ hQ_ => ?_; simp (disch := first | omega | (simp only [List.length_cons, List.length_nil, List.length_append]; omega)) only [bb, bp, argF, ↓reduceIte, reduceCtorEq, Nat.reduceEqDiff, Nat.reduceLT, Nat.reduceLeDiff, Nat.reduceAdd, Nat.reduceMul, Nat.reduceSub, Nat.reduceBEq, Int.reduceToNat, cond_true, cond_false, eq_self, beq_self_eq_true, hfi, hwk, hlenb, newPtr_X wf, load1_X wf, loadAgg_X wf, store1_X wf, writeCells_X wf, makeFunc_def, tEvN4]; first | (refine dec_split (Q := Q_) (fun hp_ => ?_) (fun hp_ => ?_) <;> first | (exfalso; omega) | (refine hQ_ _ _ ?_; clear hQ_ Q_)) | (refine dec_splitn (Q := Q_) (fun hp_ => ?_) (fun hp_ => ?_) <;> first | (exfalso; omega) | (refine hQ_ _ _ ?_; clear hQ_ Q_)) | (refine hQ_ _ _ ?_; clear hQ_ Q_)))
  | (refine WC_cond fun K_ hK_ => ?_; simp (disch := omega) only [evT_tmp, upd_apply, WB_some, ↓reduceIte, reduceCtorEq, Nat.reduceEqDiff, Nat.reduceLT]; refine hK_ _ ?_; clear hK_ K_)))
      (refine endQ_ret _ _ rfl (ret1 (by decide)) ?_; simp only [upd_apply, ↓reduceIte, reduceCtorEq, Nat.reduceEqDiff]; refine WV_flat rfl (by omega) ?_)
      exact ⟨rfl, rfl⟩
end Go.Proofs.Ytghondkiondeaac
end

/- EvL18 -/
section
/-
  BYTES THAT COME IN.
-/
namespace Go.Ev
open Go.ChangeShapes Go.WideShapes Go.ChangeAt Go.RowKit
section
variable {H : Type} {enc : TypeId × Value → H} {P : Program} {r : Reach} {bs : Nat}
theorem open_u8s {W : World} {t e : TypeId} {v : Value} {fuel : Nat} {x : DataW H × List MemPlace} (hu : P.underlying t = some (.slice e)) (he : P.underlying e = some (.int .u8)) (hc : P.cellsOf e = 1)
    (hval : Cell.okWide P W r bs t v) (h : DataW.trod enc P W 0 (fun _ => true) true fuel t [v] = some x) :
    ∃ (xs : List Int) (b : AV), VR (startWR W) b v ∧ Sl (startW W) b 1 xs.length (xs.map fun n => .int .u8 n) ∧ ∀ n ∈ xs, 0 ≤ n ∧ n ≤ 255 := by
  rcases slice_form hu hval with rfl | ⟨b, off, len, cap, rfl, hlc, hex⟩
  · exact ⟨[], .nils, .nils, Sl.nil _ _, fun n hn => by cases hn⟩
  · rcases open_ints hu he hc h with ⟨h0, _⟩ | ⟨a, len', cap', zs, h0, _, _, _, hz, _, hcell, hwf⟩
    · cases h0
    · cases h0
      simp only [if_true] at hz
      have hlen : (zs.take len).length = len := by rw [List.length_take]; omega
      refine ⟨zs.take len, .sl (posN b) off len (some cap) 0, startW_arg (lt_of_block hex) hlc, ?_, fun n hn => ?_⟩
      · rw [hlen]
        refine startW_sl hex (by rw [List.length_map, hlen]; omega) (fun k hk => ⟨.int .u8 (zs.getD k 0), ?_, ?_⟩)
        · rw [← add_at]; exact hcell k (by omega)
        · rw [show absV (NW W) (.int .u8 (zs.getD k 0)) = some (.int .u8 (zs.getD k 0)) from rfl, List.getElem?_map, List.getElem?_take_of_lt (by omega), List.getElem?_eq_getElem (by omega)]
          simp [show k < zs.length by omega]
      · have := hwf n (List.mem_of_mem_take hn)
        unfold Lit.wf at this
        rw [Bool.and_eq_true] at this
        exact ⟨of_decide_eq_true this.1, of_decide_eq_true this.2⟩
end
end Go.Ev
end

/- EvP1 -/
section
/- The statement BoxFloats of layer 2: the metacentre is not below the centre of the volume, in each true hull and at both ends, and the centre is not beyond the hull, for all hulls and numbers; no condition. -/
namespace Go.Proofs.Ytghondkiondeaac.boxFloats
open Go.ChangeShapes Go.WideShapes Go.ChangeAt Go.RowKit Go.Ev
set_option maxRecDepth 100000
set_option maxHeartbeats 0
theorem cells5 : Try.prog.cellsOf 5 = 1 := by kernel_rfl
theorem contract (H : Type) (enc : TypeId × Value → H) (W : World) (base : Nat) (args : Array Value) (ds gs : List (DataW H)) (before : List MemPlace) (hval : ∀ (j : Nat) t v, Try.f8.params[j]? = some t → args[j]? = some v → Value.okWide Try.prog W .any base t v)
    (hW : DataW.Whole enc Try.prog Try.f8.params.toList Rows.boxFloatsSpec.vars false W args.toList ds gs before) :
    Calls Try.prog 8 args W fun e W' => ∃ v, e = .returned v ∧ Rows.boxFloatsSpec.post enc Try.prog Try.f8 false true false false W args v W' := by
  have hW' := hW
  obtain ⟨p, q, hA0, hV, rfl, hfz, hnd⟩ := hW
  have hA : DataW.TrodAll enc Try.prog W 0 (fun _ => true) true Try.f8.params.toList args.toList ds p := hA0
  rw [Try.params8] at hA hval
  obtain ⟨v0, v1, d0, d1, p0, p1, rfl, rfl, rfl, ⟨n0, h0⟩, ⟨n1, h1⟩⟩ := trodAll_two hA
  obtain ⟨sp, st, a, rvs, rows, va, xh⟩ := hull_in (hval 0 24 v0 rfl rfl) h0
  have kb := okWide_cell (P := Try.prog) Try.underlying32 (fun _ e => by cases e) (fun _ _ e => by cases e) (hval 1 32 v1 rfl rfl)
  rw [slice_cells Try.underlying32 kb] at h1
  obtain ⟨bys, b, vb, sb, hby⟩ := open_u8s Try.underlying32 Try.underlying5 cells5 kb h1
  have walk := lawFloats sp st a b rvs rows bys hby (startW W) xh sb
  have hargs : VL (startWR W) [.agg [ii sp, ii st, a], b] (#[v0, v1] : Array Value).toList :=
    .cons _ _ _ _ va (.cons _ _ _ _ vb .nil)
  refine (startW_true (P := Try.prog) mixed (K := KK) (fun c hc => by
    have : c = cW := List.mem_singleton.1 hc
    rw [this]; exact cW_ok) walk hargs).mono fun e W' ⟨he, hgr, hs⟩ => ?_
  subst he
  refine ⟨_, rfl, law_post laidOut (by
    rw [Try.params8]
    intro t ht
    rcases List.mem_cons.1 ht with rfl | ht
    · exact ⟨by kernel_rfl, of_decide_eq_true (by kernel_rfl)⟩
    rcases List.mem_cons.1 ht with rfl | ht
    · exact ⟨by kernel_rfl, of_decide_eq_true (by kernel_rfl)⟩
    cases ht) rfl (by kernel_rfl) Try.underlying4 (fun gs' ⟨q', hq⟩ => ?_) hW' hgr hs⟩
  obtain ⟨rfl, _⟩ := trodVars_none hq
  exact ⟨rfl, rfl, rfl⟩

theorem lifted (os : Os) (started : os.Started) (H : Type) (enc : TypeId × Value → H) :
    ReturnsInHanded {} Try.checked os 8 .any (Rows.boxFloatsSpec.pre6 enc Try.prog Try.f8 Rows.boxFloatsRow.domain false) (Rows.boxFloatsSpec.post enc Try.prog Try.f8 false true false false) := by
  refine returnsInHanded_of_change (C := Try.checked) own started (by kernel_rfl) Try.func8
    (ChangeSpec.witness6 (enc := enc) (C := Try.checked) false ⟨#[], #[.agg #[.int .i64 0, .int .i64 0, .slice none 0 0], .slice none 0 0], []⟩ 8 (by kernel_rfl) (by kernel_rfl) (by kernel_rfl) (by kernel_rfl)) ?_
  intro W base args ds gs before hval hW _ _
  exact contract H enc W base args ds gs before hval hW

theorem holds : Rows.BoxFloatsSaid :=
  OpenClaim.holds_of_wide 8 Try.f8 rfl rfl rfl rfl rfl rfl rfl ⟨rfl, rfl, rfl, rfl, rfl⟩ rfl rfl rfl rfl rfl (by kernel_rfl) Try.func8 (by kernel_rfl)
    (of_decide_eq_true (by kernel_rfl)) (by unfold Func.isWrapper; first | (rw [if_pos (by decide +kernel)]; kernel_rfl) | (rw [if_neg (by decide +kernel)]; exact ⟨rfl, rfl⟩))
    (fun os started H enc _ => lifted os started H enc)
end Go.Proofs.Ytghondkiondeaac.boxFloats
end
