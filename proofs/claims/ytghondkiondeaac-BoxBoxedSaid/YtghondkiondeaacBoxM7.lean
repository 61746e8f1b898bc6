/- The statement BoxBoxed of layer 2, the stage's theorem: whatever the true hull is, its volume and its numbers are in the spans, and no bound that is accepted is passed, for all hulls, kinds, numbers and bounds; no condition. -/
import Derived.Test.YtghondkiondeaacBoxM6
set_option linter.all false
/- EvM7 -/
section
/-
  LAYER 2: what the ends are.
-/
namespace Go.Proofs.Ytghondkiondeaac
open Go.Ev
set_option maxRecDepth 100000
set_option linter.unusedSimpArgs false
set_option linter.unusedVariables false
set_option maxHeartbeats 2000000

section
variable {g : Nat} {sp st : Int} {rows : List (List (Int × Int))} {m : Nat}
theorem isBnd_of {N D : Int} (hb : bndIn N D) (hg : Int.gcd N D = 1) : isBnd N D = true := by
  unfold isBnd
  rw [decide_eq_true hb, hg]
  simp
theorem rat_bnd (k : HOK g sp st rows m) {gs : List Int} (hi : InG rows m gs) : bndIn (ratN g sp st rows m gs) (ratD g sp st rows m gs) ∧ isBnd (ratN g sp st rows m gs) (ratD g sp st rows m gs) = true := by
  obtain ⟨r1, r2⟩ := rat_in k hi
  have hb : bndIn (ratN g sp st rows m gs) (ratD g sp st rows m gs) := ⟨⟨r1.1, by omega⟩, r2.1, by omega⟩
  refine ⟨hb, isBnd_of hb ?_⟩
  unfold ratN ratD gcdG
  have h0 : 0 < Int.gcd (numG g sp st rows m gs) (denG g st rows m gs) := Int.gcd_pos_of_ne_zero_right _ (by have := denG_pos k hi; omega)
  exact Int.gcd_ediv_gcd_ediv_gcd h0

/-- In terms of the fraction. -/
theorem far_rat (k : HOK g sp st rows m) {gs : List Int} (hi : InG rows m gs) (N D : Int) (high : Bool) : farG g sp st rows m N D high gs ≤ 0 ↔ sgn high (ratN g sp st rows m gs * D - ratD g sp st rows m gs * N) ≤ 0 := by
  obtain ⟨g1, g2, g3⟩ := rat_num k hi
  rw [farG_eq, g2, g3]
  have e : sgn high (ratN g sp st rows m gs * gcdG g sp st rows m gs * D - ratD g sp st rows m gs * gcdG g sp st rows m gs * N) = sgn high (ratN g sp st rows m gs * D - ratD g sp st rows m gs * N) * gcdG g sp st rows m gs := by
    cases high
    · simp only [sgn_ff]; grind
    · simp only [sgn_tt]; grind
  rw [e]
  constructor
  · intro h
    rcases Int.lt_or_le 0 (sgn high (ratN g sp st rows m gs * D - ratD g sp st rows m gs * N)) with h1 | h1
    · have := Int.mul_pos h1 g1; omega
    · exact h1
  · intro h
    exact Int.mul_nonpos_of_nonpos_of_nonneg h (by omega)

/-- The hull that is farthest beyond any number. -/
def farHull (g : Nat) (sp st : Int) (rows : List (List (Int × Int))) (m : Nat) (N D : Int) (high : Bool) : List Int := gB (bestY g sp st rows m N D high) m (rows.length * m)
theorem farHull_in (k : HOK g sp st rows m) (N D : Int) (high : Bool) : InG rows m (farHull g sp st rows m N D high) ∧ farG g sp st rows m N D high (farHull g sp st rows m N D high) = psum (bestG g sp st rows m N D high) (rows.length * m) := by
  refine ⟨⟨gB_length _ _ _, fun q hq => ?_⟩, ?_⟩
  · unfold farHull
    rw [gB_at _ k.hn.2 k.hm.2 _ (Nat.le_refl _) q hq]
    obtain ⟨h1, h2, _⟩ := amx_in (f := fAt g sp st rows.length m N D high q) (lo := (rAt rows m q).1) (n := wide (rAt rows m q))
    have h3 := k.hoff q hq
    unfold isOff at h3
    unfold bestY
    refine ⟨h1, ?_⟩
    have : ((wide (rAt rows m q) : Nat) : Int) = (rAt rows m q).2 - (rAt rows m q).1 := by unfold wide; omega
    omega
  · unfold farG
    refine psum_congr fun q hq => ?_
    unfold farHull
    rw [gB_at _ k.hn.2 k.hm.2 _ (Nat.le_refl _) q hq]
    exact (amx_in (f := fAt g sp st rows.length m N D high q)).2.2

/-- No hull is beyond the end. -/
theorem theEnd_ok (k : HOK g sp st rows m) (high : Bool) : InG rows m (theEnd g sp st rows m high) ∧ sumG g sp st rows m high (theEnd g sp st rows m high) ≤ 0 := endG_ok k high _ (grid0_in k) (Nat.le_refl _)
theorem beyond (k : HOK g sp st rows m) (high : Bool) {gs : List Int} (hi : InG rows m gs) :
    sgn high (ratN g sp st rows m gs * ratD g sp st rows m (theEnd g sp st rows m high) - ratD g sp st rows m gs * ratN g sp st rows m (theEnd g sp st rows m high)) ≤ 0 := by
  obtain ⟨h1, h2⟩ := theEnd_ok k high
  refine (far_rat k hi _ _ high).1 ?_
  have := farG_le k (ratN g sp st rows m (theEnd g sp st rows m high)) (ratD g sp st rows m (theEnd g sp st rows m high)) high hi
  unfold sumG at h2
  omega
/-- A bound is kept just if the end keeps it. -/
theorem bound_iff (k : HOK g sp st rows m) (high : Bool) {N D : Int} (hD : 1 ≤ D) :
    psum (bestG g sp st rows m N D high) (rows.length * m) ≤ 0 ↔ sgn high (ratN g sp st rows m (theEnd g sp st rows m high) * D - ratD g sp st rows m (theEnd g sp st rows m high) * N) ≤ 0 := by
  obtain ⟨h1, h2⟩ := theEnd_ok k high
  constructor
  · intro h
    refine (far_rat k h1 N D high).1 ?_
    have := farG_le k N D high h1
    omega
  · intro h
    obtain ⟨f1, f2⟩ := farHull_in k N D high
    rw [← f2]
    refine (far_rat k f1 N D high).2 ?_
    have b := beyond k high f1
    obtain ⟨r1, r2⟩ := rat_in k h1
    obtain ⟨r3, r4⟩ := rat_in k f1
    generalize ratN g sp st rows m (farHull g sp st rows m N D high) = n at *
    generalize ratD g sp st rows m (farHull g sp st rows m N D high) = d at *
    generalize ratN g sp st rows m (theEnd g sp st rows m high) = en at *
    generalize ratD g sp st rows m (theEnd g sp st rows m high) = ed at *
    cases high
    · rw [sgn_ff] at *
      have h3 : d * en * D ≤ n * ed * D := Int.mul_le_mul_of_nonneg_right (by omega) (by omega)
      have h4 : d * (ed * N) ≤ d * (en * D) := Int.mul_le_mul_of_nonneg_left (by omega) (by omega)
      have h5 : d * N * ed ≤ n * D * ed := by grind
      have := Int.le_of_mul_le_mul_right h5 (by omega)
      omega
    · rw [sgn_tt] at *
      have h3 : n * ed * D ≤ d * en * D := Int.mul_le_mul_of_nonneg_right (by omega) (by omega)
      have h4 : d * (en * D) ≤ d * (ed * N) := Int.mul_le_mul_of_nonneg_left (by omega) (by omega)
      have h5 : n * D * ed ≤ d * N * ed := by grind
      have := Int.le_of_mul_le_mul_right h5 (by omega)
      omega
end

/-- A grid's offsets as lists are those of a true hull. -/
def listOf (gs : List Int) (n m : Nat) : List (List Int) := (List.range n).map (gRow gs m)
theorem listOf_at {gs : List Int} {n m q : Nat} (hl : gs.length = 60) (hn : n ≤ 10) (hm : m ≤ 6) (hq : q < n * m) : yAt (listOf gs n m) m q = yat gs m q := by
  obtain ⟨i1, i2, i3⟩ := place_idx hm hn hq
  have e : ((List.range n).map (gRow gs m)).getD (q / m) [] = gRow gs m (q / m) := by
    rw [List.getD_eq_getElem?_getD, List.getElem?_map, List.getElem?_range i1]
    rfl
  unfold yAt yat listOf
  rw [e]
  unfold gRow
  rw [List.getD_eq_getElem?_getD, List.getElem?_take_of_lt i2, List.getElem?_drop, List.getD_eq_getElem?_getD]
theorem true_listOf {sp st : Int} {rows : List (List (Int × Int))} (he : hullErr sp st rows = 0) {gs : List Int} (hi : InG rows (m0 rows) gs) : trueErr sp st rows (listOf gs rows.length (m0 rows)) = 0 := by
  obtain ⟨hn, hm, hall, hsp, hst, hof⟩ := hullErr_ok he
  unfold trueErr
  rw [if_neg (not_not_intro he), if_neg (not_not_intro (by unfold listOf; simp)), if_neg (not_not_intro (fun y hy => ?_)), if_neg (not_not_intro (fun q hq => ?_))]
  · unfold inR
    rw [listOf_at hi.1 hn.2 hm.2 hq]
    exact hi.2 q hq
  · unfold listOf at hy
    obtain ⟨i, hi', rfl⟩ := List.mem_map.1 hy
    rw [List.mem_range] at hi'
    exact gRow_length hi.1 (by omega) hm.2
theorem val_listOf {sp st : Int} {rows : List (List (Int × Int))} (he : hullErr sp st rows = 0) {gs : List Int} (hi : InG rows (m0 rows) gs) {what : Int} (hwh : 0 ≤ what ∧ what ≤ 2) :
    valOut sp st rows (listOf gs rows.length (m0 rows)) what = .tup [.agg [ii (ratN (gOf what) sp st rows (m0 rows) gs), ii (ratD (gOf what) sp st rows (m0 rows) gs)], ii 0] := by
  obtain ⟨hn, hm, hall, hsp, hst, hof⟩ := hullErr_ok he
  unfold valOut
  rw [if_pos (true_listOf he hi), if_pos hwh]
  have e1 : numS (gOf what) sp st rows.length (m0 rows) (listOf gs rows.length (m0 rows)) = numG (gOf what) sp st rows (m0 rows) gs := psum_congr fun q hq => by
    unfold nuAt W
    rw [listOf_at hi.1 hn.2 hm.2 hq]
  have e2 : denS (gOf what) st rows.length (m0 rows) (listOf gs rows.length (m0 rows)) = denG (gOf what) st rows (m0 rows) gs := psum_congr fun q hq => by
    unfold deAt W
    rw [listOf_at hi.1 hn.2 hm.2 hq]
  rw [e1, e2]
  rfl
end Go.Proofs.Ytghondkiondeaac
end

/- EvM8 -/
section
/-
  LAYER 2: the statement BoxAttained, walked.
-/
namespace Go.Proofs.Ytghondkiondeaac
open Go.Ev
set_option maxRecDepth 100000
set_option linter.unusedSimpArgs false
set_option linter.unusedVariables false
set_option maxHeartbeats 4000000

theorem tEvM8 : type_of% (And.intro (And.intro (And.intro (And.intro (And.intro (@ia_2) (@sz_2)) (And.intro (@ze_2) (@ia_3))) (And.intro (And.intro (@sz_3) (@ia_4)) (And.intro (@sz_4) (@ia_5)))) (And.intro (And.intro (And.intro (@sz_5) (@ia_24)) (And.intro (@sz_24) (@ia_22))) (And.intro (And.intro (@sz_22) (@ia_34)) (And.intro (@sz_34) (@ia_26))))) (And.intro (And.intro (And.intro (And.intro (@sz_26) (@ze_26)) (And.intro (@ia_39) (@sz_39))) (And.intro (And.intro (@ze_39) (@fo_39_0)) (And.intro (@fo_39_1) (@pb_9)))) (And.intro (And.intro (And.intro (@pb_10) (@pb_11)) (And.intro (@pb_13) (@pb_18))) (And.intro (And.intro (@pb_20) (@pb_21)) (And.intro (@pb_22) (And.intro (@pb_23) (@pb_31))))))) := And.intro (And.intro (And.intro (And.intro (And.intro (@ia_2) (@sz_2)) (And.intro (@ze_2) (@ia_3))) (And.intro (And.intro (@sz_3) (@ia_4)) (And.intro (@sz_4) (@ia_5)))) (And.intro (And.intro (And.intro (@sz_5) (@ia_24)) (And.intro (@sz_24) (@ia_22))) (And.intro (And.intro (@sz_22) (@ia_34)) (And.intro (@sz_34) (@ia_26))))) (And.intro (And.intro (And.intro (And.intro (@sz_26) (@ze_26)) (And.intro (@ia_39) (@sz_39))) (And.intro (And.intro (@ze_39) (@fo_39_0)) (And.intro (@fo_39_1) (@pb_9)))) (And.intro (And.intro (And.intro (@pb_10) (@pb_11)) (And.intro (@pb_13) (@pb_18))) (And.intro (And.intro (@pb_20) (@pb_21)) (And.intro (@pb_22) (And.intro (@pb_23) (@pb_31))))))
/-- Few parts, and valid. -/
def Fine (sp st : Int) (rows : List (List (Int × Int))) : Prop := ¬ Great rows [] ∧ hullErr sp st rows = 0
theorem ysNil (h : H) (wf : Wf h) : YsR h .nils [] [] := ⟨wf, Sl.nil _ _, fun i hi => absurd hi (Nat.not_lt_zero i)⟩
theorem fineC (sp st : Int) (a : AV) (rvs : List AV) (rows : List (List (Int × Int))) (h : H) (x : HullR h a rvs rows) :
    (om Try.prog KK).call (.fn 13 [.agg [ii sp, ii st, a]]) h = .ok (.bool (!decide (Great rows []) && decide (hullErr sp st rows = 0))) h := by
  have wf := x.wf
  have hgr : ∀ l w, w ≤ h.clock + l.length → (om Try.prog KK).call (.fn 9 [.agg [ii sp, ii st, a], .nils]) (X h l w) = .ok (.bool (decide (Great rows []))) (X h l w) := fun l w hw => great sp st a .nils rvs [] rows [] _ (x.up l w hw) (ysNil _ (wf.X hw))
  have h31 : ∀ l w, w ≤ h.clock + l.length → (om Try.prog KK).call (.fn 31 [.agg [ii sp, ii st, a]]) (X h l w) = .ok (ii (hullErr sp st rows)) (X h l w) := fun l w hw => checkHullR sp st a rvs rows _ (x.up l w hw)
  refine WV_to (WV_call (fn := Try.f13) Try.func13 rfl rfl rfl rfl rfl ?_)
  simp only [argF]
  by_cases hG : Great rows []
  · rw [decide_eq_true hG] at hgr ⊢
    (repeat' (first
  | (with_reducible first | refine WC_seq ?_ | refine WC_skip ?_ | refine WC_label ?_ | refine WC_scope ?_ | refine WC_block ?_ | refine WC_ret ?_ | refine WC_exit ?_ | refine seqQ_norm ?_ | refine seqQ_ret ?_ | refine seqQ_exit ?_ | refine blkQ_norm ?_ | refine blkQ_ret ?_ | refine blkQ_here ?_ | refine gateK_yes ?_ | refine gateK_none ?_ | refine condK_tt ?_ | refine condK_ff ?_ | refine roundQ_exit ?_ | refine roundQ_ret ?_)
  | refine WC_region ?_ | refine blkQ_out rfl ?_ | refine WO_nil ?_ | refine WD_nil ?_
  | ((first | refine WD_gate rfl rfl rfl rfl rfl fun K_ hK_ => ?_ | refine WO_gate rfl rfl rfl rfl rfl fun K_ hK_ => ?_); simp only [upd_apply, asB_bool, asB_tup, ↓reduceIte, reduceCtorEq, Nat.reduceEqDiff, Bool.not_true, Bool.not_false]; refine hK_ _ ?_; clear hK_ K_)
  | refine gateK_no (by decide) ?_
  | ((try first | refine WO_op rfl rfl rfl ?_ | refine WO_op0 rfl rfl ?_ | refine WD_op rfl rfl rfl ?_ | refine WD_op0 rfl rfl ?_); (refine WV_gen fun Q_ hQ_ => ?_; simp (disch := first | omega | (simp only [List.length_cons, List.length_nil, List.length_append]; omega)) only [bb, bp, argF, ↓reduceIte, reduceCtorEq, Nat.reduceEqDiff, Nat.reduceLT, Nat.reduceLeDiff, Nat.reduceAdd, Nat.reduceMul, Nat.reduceSub, Nat.reduceBEq, Int.reduceToNat, cond_true, cond_false, eq_self, beq_self_eq_true, hgr, h31, newPtr_X wf, load1_X wf, loadAgg_X wf, store1_X wf, writeCells_X wf, makeFunc_def, tEvM8]; first | (refine dec_split (Q := Q_) (fun hp_ => ?_) (fun hp_ => ?_) <;> first | (exfalso; omega) | (refine hQ_ _ _ ?_; clear hQ_ Q_)) | (refine dec_splitn (Q := Q_) (fun hp_ => ?_) (fun hp_ => ?_) <;> first | (exfalso; omega) | (refine hQ_ _ _ ?_; clear hQ_ Q_)) | (refine hQ_ _ _ ?_; clear hQ_ Q_)))
  | (refine WC_cond fun K_ hK_ => ?_; simp (disch := omega) only [evT_tmp, upd_apply, WB_some, ↓reduceIte, reduceCtorEq, Nat.reduceEqDiff, Nat.reduceLT]; refine hK_ _ ?_; clear hK_ K_)))
    all_goals (refine endQ_ret _ _ rfl (ret1 (by decide)) ?_; simp only [upd_apply, ↓reduceIte, reduceCtorEq, Nat.reduceEqDiff]; refine WV_flat rfl (by omega) ?_)
    all_goals exact ⟨by simp [*], rfl⟩
  · rw [decide_eq_false hG] at hgr ⊢
    (repeat' (first
  | (with_reducible first | refine WC_seq ?_ | refine WC_skip ?_ | refine WC_label ?_ | refine WC_scope ?_ | refine WC_block ?_ | refine WC_ret ?_ | refine WC_exit ?_ | refine seqQ_norm ?_ | refine seqQ_ret ?_ | refine seqQ_exit ?_ | refine blkQ_norm ?_ | refine blkQ_ret ?_ | refine blkQ_here ?_ | refine gateK_yes ?_ | refine gateK_none ?_ | refine condK_tt ?_ | refine condK_ff ?_ | refine roundQ_exit ?_ | refine roundQ_ret ?_)
  | refine WC_region ?_ | refine blkQ_out rfl ?_ | refine WO_nil ?_ | refine WD_nil ?_
  | ((first | refine WD_gate rfl rfl rfl rfl rfl fun K_ hK_ => ?_ | refine WO_gate rfl rfl rfl rfl rfl fun K_ hK_ => ?_); simp only [upd_apply, asB_bool, asB_tup, ↓reduceIte, reduceCtorEq, Nat.reduceEqDiff, Bool.not_true, Bool.not_false]; refine hK_ _ ?_; clear hK_ K_)
  | refine gateK_no (by decide) ?_
  | ((try first | refine WO_op rfl rfl rfl ?_ | refine WO_op0 rfl rfl ?_ | refine WD_op rfl rfl rfl ?_ | refine WD_op0 rfl rfl ?_); (refine WV_gen fun Q_ hQ_ => ?_; simp (disch := first | omega | (simp only [List.length_cons, List.length_nil, List.length_append]; omega)) only [bb, bp, argF, ↓reduceIte, reduceCtorEq, Nat.reduceEqDiff, Nat.reduceLT, Nat.reduceLeDiff, Nat.reduceAdd, Nat.reduceMul, Nat.reduceSub, Nat.reduceBEq, Int.reduceToNat, cond_true, cond_false, eq_self, beq_self_eq_true, hgr, h31, newPtr_X wf, load1_X wf, loadAgg_X wf, store1_X wf, writeCells_X wf, makeFunc_def, tEvM8]; first | (refine dec_split (Q := Q_) (fun hp_ => ?_) (fun hp_ => ?_) <;> first | (exfalso; omega) | (refine hQ_ _ _ ?_; clear hQ_ Q_)) | (refine dec_splitn (Q := Q_) (fun hp_ => ?_) (fun hp_ => ?_) <;> first | (exfalso; omega) | (refine hQ_ _ _ ?_; clear hQ_ Q_)) | (refine hQ_ _ _ ?_; clear hQ_ Q_)))
  | (refine WC_cond fun K_ hK_ => ?_; simp (disch := omega) only [evT_tmp, upd_apply, WB_some, ↓reduceIte, reduceCtorEq, Nat.reduceEqDiff, Nat.reduceLT]; refine hK_ _ ?_; clear hK_ K_)))
    all_goals (refine endQ_ret _ _ rfl (ret1 (by decide)) ?_; simp only [upd_apply, ↓reduceIte, reduceCtorEq, Nat.reduceEqDiff]; refine WV_flat rfl (by omega) ?_)
    all_goals exact ⟨by simp [*], rfl⟩

theorem conv5 {n : Int} : convE Try.prog 5 3 (.int .u8 n) = some (ii (IntKind.i64.wrap n)) := c_int un_5 un_3

theorem isBnd_in {N D : Int} (hb : isBnd N D = true) : bndIn N D := by
  unfold isBnd at hb
  rw [Bool.and_eq_true] at hb
  exact of_decide_eq_true hb.1
/-- A bound is kept just if the end keeps it. -/
theorem bnd_top {sp st : Int} {rows : List (List (Int × Int))} (he : hullErr sp st rows = 0) {what : Int} (hwh : 0 ≤ what ∧ what ≤ 2) {N D : Int} (hb : isBnd N D = true) :
    bndErr sp st rows what N D true = 0 ↔ ¬ N * ratD (gOf what) sp st rows (m0 rows) (lowG sp st rows what true) < ratN (gOf what) sp st rows (m0 rows) (lowG sp st rows what true) * D := by
  have k := hok he (gOf_or what)
  have hi := bound_iff k true (N := N) (D := D) (isBnd_in hb).2.1
  rw [sgn_tt] at hi
  have e1 := Int.mul_comm N (ratD (gOf what) sp st rows (m0 rows) (lowG sp st rows what true))
  unfold lowG at *
  unfold bndErr
  rw [if_neg (not_not_intro he), if_neg (not_not_intro hwh), hb, if_neg (by decide)]
  constructor
  · intro h
    by_cases h2 : 0 < psum (bestG (gOf what) sp st rows (m0 rows) N D true) (rows.length * m0 rows)
    · rw [if_pos h2] at h; omega
    · have := hi.1 (by omega); omega
  · intro h
    rw [if_neg]
    have := hi.2 (by omega); omega
theorem bnd_low {sp st : Int} {rows : List (List (Int × Int))} (he : hullErr sp st rows = 0) {what : Int} (hwh : 0 ≤ what ∧ what ≤ 2) {N D : Int} (hb : isBnd N D = true) :
    bndErr sp st rows what N D false = 0 ↔ ¬ ratN (gOf what) sp st rows (m0 rows) (lowG sp st rows what false) * D < N * ratD (gOf what) sp st rows (m0 rows) (lowG sp st rows what false) := by
  have k := hok he (gOf_or what)
  have hi := bound_iff k false (N := N) (D := D) (isBnd_in hb).2.1
  rw [sgn_ff] at hi
  have e1 := Int.mul_comm N (ratD (gOf what) sp st rows (m0 rows) (lowG sp st rows what false))
  unfold lowG at *
  unfold bndErr
  rw [if_neg (not_not_intro he), if_neg (not_not_intro hwh), hb, if_neg (by decide)]
  constructor
  · intro h
    by_cases h2 : 0 < psum (bestG (gOf what) sp st rows (m0 rows) N D false) (rows.length * m0 rows)
    · rw [if_pos h2] at h; omega
    · have := hi.1 (by omega); omega
  · intro h
    rw [if_neg]
    have := hi.2 (by omega); omega

end Go.Proofs.Ytghondkiondeaac
end

/- EvL17 -/
section
/-
  WHAT IS APPENDED IN A REGION OF FIXED ORDER.
-/
namespace Go.Ev
section
variable {P : Program}
/-- A new object is appended, in a region of fixed order. -/
theorem Grow.appendN {h : H} (wf : Wf h) {L0 G : List AO} {v : AV} {sz e len bytes : Nat} {z : AV} {cs : List AV} (g : Grow h L0 G v sz e len cs) {t : TypeId} (hu : P.underlying t = some (.slice e)) (hz : sizeE P e = some sz) (E : El P e sz bytes z)
    {n : Nat} {new : List AV} (hn : len + n ≤ 10000000) (hn0 : n ≠ 0) (hb : bytes ≤ 100000) (hc : new.length = n * sz) (ho : allOne new = true) :
    ∃ v' G', Grow h L0 G' v' sz e (len + n) (cs ++ new) ∧ (∀ (j : Nat) m' e', e' ≠ e → G[j]? = some (AO.cells m' e') → G'[j]? = some (AO.cells m' e')) ∧
      appendE P t v (.sl (nx h (L0.length + G.length)) 0 n (some n) sz) (X h (L0 ++ (G ++ [.cells (mkCells new) e])) h.clock) = .ok v' (X h (L0 ++ G') h.clock) := by
  obtain ⟨v', G', hg', hk, happ⟩ := (g.more [.cells (mkCells new) e]).appendK (P := P) wf hu hz E (x := .sl (nx h (L0.length + G.length)) 0 n (some n) sz) hn hn0 hb hc ho (fun w => src_new (e := e) wf (by rw [← List.append_assoc]; rw [show L0.length + G.length = (L0 ++ G).length from by simp]; simp) hc)
  refine ⟨v', G', hg', fun j m' e' he hj => hk j m' e' he (by rw [List.getElem?_append_left (List.getElem?_eq_some_iff.1 hj).1]; exact hj), ?_⟩
  obtain ⟨w', h1, h2, h3⟩ := happ h.clock (Nat.le_refl _)
  rw [h3, show w' = h.clock from by omega]
end
end Go.Ev
end

/- EvN2 -/
section
/-
  LAYER 2: a true hull by numbers.
-/
namespace Go.Proofs.Ytghondkiondeaac
open Go.Ev
set_option maxRecDepth 100000
set_option linter.unusedSimpArgs false
set_option linter.unusedVariables false
set_option maxHeartbeats 4000000

theorem tEvN2 : type_of% (And.intro (And.intro (And.intro (And.intro (@ia_2) (And.intro (@sz_2) (@ze_2))) (And.intro (And.intro (@ia_3) (@sz_3)) (And.intro (@ia_5) (@sz_5)))) (And.intro (And.intro (And.intro (@ia_22) (@sz_22)) (And.intro (@ia_24) (@sz_24))) (And.intro (And.intro (@ia_32) (@sz_32)) (And.intro (@ia_34) (@sz_34))))) (And.intro (And.intro (And.intro (@ia_52) (And.intro (@sz_52) (@ia_53))) (And.intro (And.intro (@sz_53) (@ia_55)) (And.intro (@sz_55) (@ze_55)))) (And.intro (And.intro (And.intro (@fo_55_0) (@fo_55_1)) (And.intro (@fo_24_2) (@ik_22))) (And.intro (And.intro (@ik_32) (@ik_52)) (And.intro (@ni_53) (@ni_34)))))) := And.intro (And.intro (And.intro (And.intro (@ia_2) (And.intro (@sz_2) (@ze_2))) (And.intro (And.intro (@ia_3) (@sz_3)) (And.intro (@ia_5) (@sz_5)))) (And.intro (And.intro (And.intro (@ia_22) (@sz_22)) (And.intro (@ia_24) (@sz_24))) (And.intro (And.intro (@ia_32) (@sz_32)) (And.intro (@ia_34) (@sz_34))))) (And.intro (And.intro (And.intro (@ia_52) (And.intro (@sz_52) (@ia_53))) (And.intro (And.intro (@sz_53) (@ia_55)) (And.intro (@sz_55) (@ze_55)))) (And.intro (And.intro (And.intro (@fo_55_0) (@fo_55_1)) (And.intro (@fo_24_2) (@ik_22))) (And.intro (And.intro (@ik_32) (@ik_52)) (And.intro (@ni_53) (@ni_34)))))
theorem conv52 {n : Int} : convE Try.prog 5 2 (.int .u8 n) = some (ii (IntKind.i64.wrap n)) := c_int un_5 un_2
/-- A number given as a byte. -/
def uu (n : Int) : AV := .int .u8 n
/-- The offset at a place, by numbers. -/
def tY (bys : List Int) (r : Int × Int) (q : Nat) : Int := if bys.length = 0 then r.1 else r.1 + bys.getD (q % bys.length) 0 % (r.2 - r.1 + 1)
theorem tY_in {bys : List Int} {r : Int × Int} (hr : isOff r) (q : Nat) : r.1 ≤ tY bys r q ∧ tY bys r q ≤ r.2 := by
  unfold isOff at hr
  unfold tY
  split
  · omega
  · have h1 := Int.emod_nonneg (bys.getD (q % bys.length) 0) (show r.2 - r.1 + 1 ≠ 0 by omega)
    have h2 := Int.emod_lt_of_pos (bys.getD (q % bys.length) 0) (show 0 < r.2 - r.1 + 1 by omega)
    omega
def tG (bys : List Int) (rows : List (List (Int × Int))) (m : Nat) : List Int := gB (fun q => tY bys (rAt rows m q) q) m (rows.length * m)
def tRow (bys : List Int) (rows : List (List (Int × Int))) (m i k : Nat) : List Int := (List.range k).map fun j => tY bys (rAt rows m (i * m + j)) (i * m + j)
theorem tRow_snoc (bys : List Int) (rows : List (List (Int × Int))) (m i k : Nat) : tRow bys rows m i (k + 1) = tRow bys rows m i k ++ [tY bys (rAt rows m (i * m + k)) (i * m + k)] := by
  unfold tRow; rw [List.range_succ, List.map_append]; rfl
theorem gRow_tG {bys : List Int} {rows : List (List (Int × Int))} {m i : Nat} (hn : rows.length ≤ 10) (hm : m ≤ 6) (hi : i < rows.length) : gRow (tG bys rows m) m i = tRow bys rows m i m := by
  have hl : (tG bys rows m).length = 60 := gB_length _ _ _
  refine List.ext_getElem? fun k => ?_
  by_cases hk : k < m
  · have hq : i * m + k < rows.length * m := by
      have := Nat.mul_le_mul_right m (show i + 1 ≤ rows.length from hi)
      rw [Nat.succ_mul] at this; omega
    have e1 : (i * m + k) / m = i := by rw [Nat.mul_comm, Nat.mul_add_div (by omega), Nat.div_eq_of_lt hk]; omega
    have e2 : (i * m + k) % m = k := by rw [Nat.mul_comm, Nat.mul_add_mod]; exact Nat.mod_eq_of_lt hk
    have h1 := gB_at (fun q => tY bys (rAt rows m q) q) hn hm (rows.length * m) (Nat.le_refl _) (i * m + k) hq
    unfold yat at h1
    rw [e1, e2] at h1
    have hl2 : i * 6 + k < (tG bys rows m).length := by omega
    unfold gRow tRow
    rw [List.getElem?_take_of_lt hk, List.getElem?_drop, List.getElem?_map, List.getElem?_range hk]
    unfold tG at *
    rw [List.getD_eq_getElem?_getD, List.getElem?_eq_getElem hl2] at h1
    rw [List.getElem?_eq_getElem hl2]
    simp only [Option.getD_some] at h1
    rw [h1]; rfl
  · have hl2 := gRow_length hl (i := i) (by omega) hm
    rw [List.getElem?_eq_none (by omega), List.getElem?_eq_none (by unfold tRow; simp; omega)]
theorem tG_in {g : Nat} {sp st : Int} {bys : List Int} {rows : List (List (Int × Int))} {m : Nat} (k : HOK g sp st rows m) : InG rows m (tG bys rows m) := by
  refine ⟨gB_length _ _ _, fun q hq => ?_⟩
  unfold tG
  rw [gB_at _ k.hn.2 k.hm.2 _ (Nat.le_refl _) q hq]
  exact tY_in (k.hoff q hq) q

/-- The rows that are made. -/
def Rows2 (h : H) (G : List AO) (cells : List AV) (R : Nat → List Int) (m i : Nat) : Prop :=
  ∀ j, j < i → ∃ idx, cells[j]? = some (.sl (nx h (1 + idx)) 0 m none 1) ∧ G[idx]? = some (.cells (mkCells ((R j).map ii)) 2)
theorem Rows2.snoc {h : H} {G G2 G' : List AO} {cells : List AV} {R : Nat → List Int} {m i idx : Nat} (r : Rows2 h G cells R m i) (hc : cells.length = i) (hk : ∀ (j : Nat) m' e', e' ≠ 53 → (G ++ G2)[j]? = some (AO.cells m' e') → G'[j]? = some (AO.cells m' e')) (hG2 : G2[idx]? = some (.cells (mkCells ((R i).map ii)) 2)) :
    Rows2 h G' (cells ++ [.sl (nx h (1 + G.length + idx)) 0 m none 1]) R m (i + 1) := by
  intro j hj
  by_cases hji : j < i
  · obtain ⟨x, h1, h2⟩ := r j hji
    refine ⟨x, by rw [List.getElem?_append_left (by omega)]; exact h1, hk x _ _ (by decide) ?_⟩
    rw [List.getElem?_append_left (List.getElem?_eq_some_iff.1 h2).1]; exact h2
  · have : j = i := by omega
    subst this
    refine ⟨G.length + idx, by rw [List.getElem?_append_right (by omega), hc, Nat.sub_self, ← Nat.add_assoc]; rfl, hk _ _ _ (by decide) ?_⟩
    rw [List.getElem?_append_right (by omega), Nat.add_sub_cancel_left]; exact hG2

theorem trueC (sp st : Int) (a b : AV) (rvs : List AV) (rows : List (List (Int × Int))) (bys : List Int) (he : hullErr sp st rows = 0) (hby : ∀ n ∈ bys, 0 ≤ n ∧ n ≤ 255) (hbl : bys.length ≤ 80) (h : H) (x : HullR h a rvs rows) (sb : Sl h b 1 bys.length (bys.map uu)) :
    WV ((om Try.prog KK).call (.fn 14 [.agg [ii sp, ii st, a], b]) h) fun v h' => ∃ M yvs, h' = X h M h.w ∧ YsR (X h M h.w) v yvs (listOf (tG bys rows (m0 rows)) rows.length (m0 rows)) := by
  have wf := x.wf
  obtain ⟨hn, hm, hall, hsp, hst, hof⟩ := hullErr_ok he
  have xat := x.at (m := m0 rows) (by omega) (fun i hi => hall _ (List.getElem_mem hi))
  generalize hmm : m0 rows = m at *
  have k0 := hok he (g := 53) (.inl rfl)
  rw [hmm] at k0
  have hlen : ∀ h', lenE Try.prog 22 a h' = some (ii (rows.length : Int)) := fun h' => x.sl.len un_22
  have hlenb : ∀ h', lenE Try.prog 32 b h' = some (ii (bys.length : Int)) := fun h' => sb.len un_32
  refine WV_call (fn := Try.f14) Try.func14 rfl rfl rfl rfl rfl ?_
  simp only [argF]
  (repeat' (first
  | (with_reducible first | refine WC_seq ?_ | refine WC_skip ?_ | refine WC_label ?_ | refine WC_scope ?_ | refine WC_block ?_ | refine WC_ret ?_ | refine WC_exit ?_ | refine seqQ_norm ?_ | refine seqQ_ret ?_ | refine seqQ_exit ?_ | refine blkQ_norm ?_ | refine blkQ_ret ?_ | refine blkQ_here ?_ | refine gateK_yes ?_ | refine gateK_none ?_ | refine condK_tt ?_ | refine condK_ff ?_ | refine roundQ_exit ?_ | refine roundQ_ret ?_)
  | refine WC_region ?_ | refine blkQ_out rfl ?_ | refine WO_nil ?_ | refine WD_nil ?_
  | ((first | refine WD_gate rfl rfl rfl rfl rfl fun K_ hK_ => ?_ | refine WO_gate rfl rfl rfl rfl rfl fun K_ hK_ => ?_); simp only [upd_apply, asB_bool, asB_tup, ↓reduceIte, reduceCtorEq, Nat.reduceEqDiff, Bool.not_true, Bool.not_false]; refine hK_ _ ?_; clear hK_ K_)
  | refine gateK_no (by decide) ?_
  | ((try first | refine WO_op rfl rfl rfl ?_ | refine WO_op0 rfl rfl ?_ | refine WD_op rfl rfl rfl ?_ | refine WD_op0 rfl rfl ?_); (refine WV_gen fun Q_ hQ_ => ?_; simp (disch := first | omega | (simp only [List.length_cons, List.length_nil, List.length_append]; omega)) only [bb, bp, argF, ↓reduceIte, reduceCtorEq, Nat.reduceEqDiff, Nat.reduceLT, Nat.reduceLeDiff, Nat.reduceAdd, Nat.reduceMul, Nat.reduceSub, Nat.reduceBEq, Int.reduceToNat, cond_true, cond_false, eq_self, beq_self_eq_true, hlen, hlenb, newPtr_X wf, newSlice_X wf, load1_X wf, loadAgg_X wf, store1_X wf, writeCells_X wf, makeFunc_def, tEvN2, bsl_53, bsl_34]; first | (refine dec_split (Q := Q_) (fun hp_ => ?_) (fun hp_ => ?_) <;> first | (exfalso; omega) | (refine hQ_ _ _ ?_; clear hQ_ Q_)) | (refine dec_splitn (Q := Q_) (fun hp_ => ?_) (fun hp_ => ?_) <;> first | (exfalso; omega) | (refine hQ_ _ _ ?_; clear hQ_ Q_)) | (refine hQ_ _ _ ?_; clear hQ_ Q_)))
  | (refine WC_cond fun K_ hK_ => ?_; simp (disch := omega) only [evT_tmp, upd_apply, WB_some, ↓reduceIte, reduceCtorEq, Nat.reduceEqDiff, Nat.reduceLT]; refine hK_ _ ?_; clear hK_ K_)))
  refine WC_loop (fun (i : Nat) f d h' => i ≤ rows.length ∧ f 1 = b ∧ f 2 = .ptr (nx h 0) 0 ∧ f 6 = ii ((i * m : Nat) : Int) ∧ f 7 = ii (i : Int) ∧ d = [] ∧ ∃ G cells, h' = X h (.cells (mkCells [ii sp, ii st, a]) 24 :: G) h.clock ∧
    Grow h [.cells (mkCells [ii sp, ii st, a]) 24] G (f 5) 1 53 i cells ∧ Rows2 h G cells (fun j => tRow bys rows m j m) m i) (fun i => rows.length - i) ?_ (rows.length + 1) 0 (by omega) ?_
  · rintro i f d h' ⟨hi, g1, g2, g6, g7, rfl, G, cells, rfl, hgr, hrw⟩
    by_cases hlt : i < rows.length
    · obtain ⟨v, hv, hsv, hrl⟩ := xat.row i hlt
      obtain ⟨id, off, hix, hld⟩ := x.sl.at1 wf hlt ik_22
      rw [hv] at hld
      have hlenv : ∀ h', lenE Try.prog 52 v h' = some (ii (m : Int)) := fun h' => hsv.len un_52
      obtain ⟨ov, hov⟩ : ∃ ov, ov = f 5 := ⟨_, rfl⟩
      rw [← hov] at hgr
      (repeat' (first
  | (with_reducible first | refine WC_seq ?_ | refine WC_skip ?_ | refine WC_label ?_ | refine WC_scope ?_ | refine WC_block ?_ | refine WC_ret ?_ | refine WC_exit ?_ | refine seqQ_norm ?_ | refine seqQ_ret ?_ | refine seqQ_exit ?_ | refine blkQ_norm ?_ | refine blkQ_ret ?_ | refine blkQ_here ?_ | refine gateK_yes ?_ | refine gateK_none ?_ | refine condK_tt ?_ | refine condK_ff ?_ | refine roundQ_exit ?_ | refine roundQ_ret ?_)
  | refine WC_region ?_ | refine blkQ_out rfl ?_ | refine WO_nil ?_ | refine WD_nil ?_
  | ((first | refine WD_gate rfl rfl rfl rfl rfl fun K_ hK_ => ?_ | refine WO_gate rfl rfl rfl rfl rfl fun K_ hK_ => ?_); simp only [upd_apply, asB_bool, asB_tup, ↓reduceIte, reduceCtorEq, Nat.reduceEqDiff, Bool.not_true, Bool.not_false]; refine hK_ _ ?_; clear hK_ K_)
  | refine gateK_no (by decide) ?_
  | ((try first | refine WO_op rfl rfl rfl ?_ | refine WO_op0 rfl rfl ?_ | refine WD_op rfl rfl rfl ?_ | refine WD_op0 rfl rfl ?_); (refine WV_gen fun Q_ hQ_ => ?_; simp (disch := first | omega | (simp only [List.length_cons, List.length_nil, List.length_append]; omega)) only [bb, bp, argF, ↓reduceIte, reduceCtorEq, Nat.reduceEqDiff, Nat.reduceLT, Nat.reduceLeDiff, Nat.reduceAdd, Nat.reduceMul, Nat.reduceSub, Nat.reduceBEq, Int.reduceToNat, cond_true, cond_false, eq_self, beq_self_eq_true, g1, g2, g6, g7, hlen, newPtr_X wf, newSlice_X wf, load1_X wf, loadAgg_X wf, store1_X wf, writeCells_X wf, makeFunc_def, tEvN2, bsl_53, bsl_34]; first | (refine dec_split (Q := Q_) (fun hp_ => ?_) (fun hp_ => ?_) <;> first | (exfalso; omega) | (refine hQ_ _ _ ?_; clear hQ_ Q_)) | (refine dec_splitn (Q := Q_) (fun hp_ => ?_) (fun hp_ => ?_) <;> first | (exfalso; omega) | (refine hQ_ _ _ ?_; clear hQ_ Q_)) | (refine hQ_ _ _ ?_; clear hQ_ Q_)))
  | (refine WC_cond fun K_ hK_ => ?_; simp (disch := omega) only [evT_tmp, upd_apply, WB_some, ↓reduceIte, reduceCtorEq, Nat.reduceEqDiff, Nat.reduceLT]; refine hK_ _ ?_; clear hK_ K_)))
      refine WC_loop (fun (k : Nat) f d h' => k ≤ m ∧ f 1 = b ∧ f 2 = .ptr (nx h 0) 0 ∧ f 5 = ov ∧ f 6 = ii ((i * m + k : Nat) : Int) ∧ f 7 = ii (i : Int) ∧ f 9 = ii (k : Int) ∧ d = [] ∧ ∃ G2, h' = X h (.cells (mkCells [ii sp, ii st, a]) 24 :: (G ++ G2)) h.clock ∧
        Grow h (.cells (mkCells [ii sp, ii st, a]) 24 :: G) G2 (f 8) 1 2 k ((tRow bys rows m i k).map ii)) (fun k => m - k) ?_ (m + 1) 0 (by omega) ?_
      · clear g1 g2 g6 g7
        rintro k f d h' ⟨hk, g1, g2, g5, g6, g7, g9, rfl, G2, rfl, hg2⟩
        by_cases hkl : k < m
        · obtain ⟨id3, off3, hix3, hld3⟩ := hsv.at wf hkl ik_52
          have hkr : k < rows[i].length := by omega
          have hq : i * m + k < rows.length * m := by
            have := Nat.mul_le_mul_right m (show i + 1 ≤ rows.length from hlt)
            rw [Nat.succ_mul] at this; omega
          have hq60 : i * m + k < 60 := by have := nm_le hn.2 hm.2; omega
          have hr := rAt_ik hlt hkl hrl
          have hoff := k0.hoff _ hq
          have hsn := tRow_snoc bys rows m i k
          have hrow : ∀ l w, loadAgg id3 off3 (some 2) (X h l w) = some (.agg [ii rows[i][k].1, ii rows[i][k].2]) := fun l w => by rw [(hld3 l w).2, pairCells_at hkr]
          rw [← hr] at hrow
          generalize rAt rows m (i * m + k) = r at *
          have hyr := tY_in (bys := bys) hoff (i * m + k)
          unfold isOff at hoff
          obtain ⟨q, hqd⟩ : ∃ q, q = i * m + k := ⟨_, rfl⟩
          rw [← hqd] at g6 hq60 hsn hyr
          have hr8 := hg2.resz (P := Try.prog) 53
          obtain ⟨rv', G2', hg2', -, happ0⟩ := (hg2.more [.cells (mkCells [ii r.1, ii r.2]) 55]).appendN (P := Try.prog) wf un_53 sz_2 el_2 (n := 1) (new := [ii (tY bys r q)]) (by omega) (by omega) (by omega) rfl rfl
          have happ : ∀ n, n = G.length + G2.length + 2 → appendE Try.prog 53 (f 8) (.sl (nx h n) 0 1 (some 1) 1) (X h (.cells (mkCells [ii sp, ii st, a]) 24 :: (G ++ (G2 ++ [.cells (mkCells [ii r.1, ii r.2]) 55, .cells (mkCells [ii (tY bys r q)]) 2]))) h.clock) = .ok rv' (X h (.cells (mkCells [ii sp, ii st, a]) 24 :: (G ++ G2')) h.clock) := fun n hnn => by
            have e : n = (AO.cells (mkCells [ii sp, ii st, a]) 24 :: G).length + (G2 ++ [AO.cells (mkCells [ii r.1, ii r.2]) 55]).length := by simp; omega
            rw [e]
            simpa using happ0
          by_cases hb0 : bys.length = 0
          · have hye : tY bys r q = r.1 := by unfold tY; rw [if_pos hb0]
            rw [hye] at happ
            rw [hb0] at hlenb
            (repeat' (first
  | (with_reducible first | refine WC_seq ?_ | refine WC_skip ?_ | refine WC_label ?_ | refine WC_scope ?_ | refine WC_block ?_ | refine WC_ret ?_ | refine WC_exit ?_ | refine seqQ_norm ?_ | refine seqQ_ret ?_ | refine seqQ_exit ?_ | refine blkQ_norm ?_ | refine blkQ_ret ?_ | refine blkQ_here ?_ | refine gateK_yes ?_ | refine gateK_none ?_ | refine condK_tt ?_ | refine condK_ff ?_ | refine roundQ_exit ?_ | refine roundQ_ret ?_)
  | refine WC_region ?_ | refine blkQ_out rfl ?_ | refine WO_nil ?_ | refine WD_nil ?_
  | ((first | refine WD_gate rfl rfl rfl rfl rfl fun K_ hK_ => ?_ | refine WO_gate rfl rfl rfl rfl rfl fun K_ hK_ => ?_); simp only [upd_apply, asB_bool, asB_tup, ↓reduceIte, reduceCtorEq, Nat.reduceEqDiff, Bool.not_true, Bool.not_false]; refine hK_ _ ?_; clear hK_ K_)
  | refine gateK_no (by decide) ?_
  | ((try first | refine WO_op rfl rfl rfl ?_ | refine WO_op0 rfl rfl ?_ | refine WD_op rfl rfl rfl ?_ | refine WD_op0 rfl rfl ?_); (refine WV_gen fun Q_ hQ_ => ?_; simp (disch := first | omega | (simp only [List.length_cons, List.length_nil, List.length_append]; omega)) only [bb, bp, argF, ↓reduceIte, reduceCtorEq, Nat.reduceEqDiff, Nat.reduceLT, Nat.reduceLeDiff, Nat.reduceAdd, Nat.reduceMul, Nat.reduceSub, Nat.reduceBEq, Int.reduceToNat, cond_true, cond_false, eq_self, beq_self_eq_true, g1, g2, g5, g6, g7, g9, hlen, hlenb, hix, hld, hlenv, hix3, hrow, hr8, happ, reszT_some un_53 sz_2, newPtr_X wf, newSlice_X wf, load1_X wf, loadAgg_X wf, store1_X wf, writeCells_X wf, makeFunc_def, tEvN2, bsl_53, bsl_34]; first | (refine dec_split (Q := Q_) (fun hp_ => ?_) (fun hp_ => ?_) <;> first | (exfalso; omega) | (refine hQ_ _ _ ?_; clear hQ_ Q_)) | (refine dec_splitn (Q := Q_) (fun hp_ => ?_) (fun hp_ => ?_) <;> first | (exfalso; omega) | (refine hQ_ _ _ ?_; clear hQ_ Q_)) | (refine hQ_ _ _ ?_; clear hQ_ Q_)))
  | (refine WC_cond fun K_ hK_ => ?_; simp (disch := omega) only [evT_tmp, upd_apply, WB_some, ↓reduceIte, reduceCtorEq, Nat.reduceEqDiff, Nat.reduceLT]; refine hK_ _ ?_; clear hK_ K_)))
            refine roundQ_again (k + 1) (by omega) ⟨hkl, by simp only [upd_apply, ↓reduceIte, reduceCtorEq, Nat.reduceEqDiff]; exact g1, by simp only [upd_apply, ↓reduceIte, reduceCtorEq, Nat.reduceEqDiff]; exact g2, by simp only [upd_apply, ↓reduceIte, reduceCtorEq, Nat.reduceEqDiff]; exact g5, by simp only [upd_apply, ↓reduceIte, reduceCtorEq, Nat.reduceEqDiff]; rw [hqd]; rfl, by simp only [upd_apply, ↓reduceIte, reduceCtorEq, Nat.reduceEqDiff]; exact g7, by simp only [upd_apply, ↓reduceIte, reduceCtorEq, Nat.reduceEqDiff]; rfl, rfl, G2', rfl, ?_⟩
            simp only [upd_apply, ↓reduceIte, reduceCtorEq, Nat.reduceEqDiff]
            rw [hsn, List.map_append]
            exact hg2'
          · have hb0' : 0 < bys.length := by omega
            obtain ⟨ib, ob, hxb, hlb⟩ := sb.at1 wf (i := q % bys.length) (Nat.mod_lt _ hb0') ik_32
            have hbv : (bys.map uu)[q % bys.length]? = some (uu (bys.getD (q % bys.length) 0)) := by
              have := Nat.mod_lt q hb0'
              simp [List.getD, this]
            rw [hbv] at hlb
            unfold uu at hlb
            have hbb : 0 ≤ bys.getD (q % bys.length) 0 ∧ bys.getD (q % bys.length) 0 ≤ 255 := by
              have := Nat.mod_lt q hb0'
              rw [List.getD_eq_getElem?_getD, List.getElem?_eq_getElem this]
              exact hby _ (List.getElem_mem _)
            have hye : tY bys r q = r.1 + bys.getD (q % bys.length) 0 % (r.2 - r.1 + 1) := by unfold tY; rw [if_neg hb0]
            generalize bys.getD (q % bys.length) 0 = bv at *
            have htm : bv.tmod (r.2 - r.1 + 1) = bv % (r.2 - r.1 + 1) := Int.tmod_eq_emod_of_nonneg hbb.1
            have htq : ((q : Nat) : Int).tmod ((bys.length : Nat) : Int) = ((q % bys.length : Nat) : Int) := (Int.ofNat_tmod q bys.length).symm
            have hz1 : ((bys.length : Nat) : Int) ≠ 0 := by omega
            have hz2 : r.2 - r.1 + 1 ≠ 0 := by omega
            have hwb : IntKind.i64.wrap bv = bv := wrap_in _ (by omega) (by omega)
            rw [hye] at happ hyr
            (repeat' (first
  | (with_reducible first | refine WC_seq ?_ | refine WC_skip ?_ | refine WC_label ?_ | refine WC_scope ?_ | refine WC_block ?_ | refine WC_ret ?_ | refine WC_exit ?_ | refine seqQ_norm ?_ | refine seqQ_ret ?_ | refine seqQ_exit ?_ | refine blkQ_norm ?_ | refine blkQ_ret ?_ | refine blkQ_here ?_ | refine gateK_yes ?_ | refine gateK_none ?_ | refine condK_tt ?_ | refine condK_ff ?_ | refine roundQ_exit ?_ | refine roundQ_ret ?_)
  | refine WC_region ?_ | refine blkQ_out rfl ?_ | refine WO_nil ?_ | refine WD_nil ?_
  | ((first | refine WD_gate rfl rfl rfl rfl rfl fun K_ hK_ => ?_ | refine WO_gate rfl rfl rfl rfl rfl fun K_ hK_ => ?_); simp only [upd_apply, asB_bool, asB_tup, ↓reduceIte, reduceCtorEq, Nat.reduceEqDiff, Bool.not_true, Bool.not_false]; refine hK_ _ ?_; clear hK_ K_)
  | refine gateK_no (by decide) ?_
  | ((try first | refine WO_op rfl rfl rfl ?_ | refine WO_op0 rfl rfl ?_ | refine WD_op rfl rfl rfl ?_ | refine WD_op0 rfl rfl ?_); (refine WV_gen fun Q_ hQ_ => ?_; simp (disch := first | omega | (simp only [List.length_cons, List.length_nil, List.length_append]; omega)) only [bb, bp, argF, ↓reduceIte, reduceCtorEq, Nat.reduceEqDiff, Nat.reduceLT, Nat.reduceLeDiff, Nat.reduceAdd, Nat.reduceMul, Nat.reduceSub, Nat.reduceBEq, Int.reduceToNat, cond_true, cond_false, eq_self, beq_self_eq_true, g1, g2, g5, g6, g7, g9, hlen, hlenb, hix, hld, hlenv, hix3, hrow, newPtr_X wf, newSlice_X wf, load1_X wf, loadAgg_X wf, store1_X wf, writeCells_X wf, makeFunc_def, tEvN2, bsl_53, bsl_34]; first | (refine dec_split (Q := Q_) (fun hp_ => ?_) (fun hp_ => ?_) <;> first | (exfalso; omega) | (refine hQ_ _ _ ?_; clear hQ_ Q_)) | (refine dec_splitn (Q := Q_) (fun hp_ => ?_) (fun hp_ => ?_) <;> first | (exfalso; omega) | (refine hQ_ _ _ ?_; clear hQ_ Q_)) | (refine hQ_ _ _ ?_; clear hQ_ Q_)))
  | (refine WC_cond fun K_ hK_ => ?_; simp (disch := omega) only [evT_tmp, upd_apply, WB_some, ↓reduceIte, reduceCtorEq, Nat.reduceEqDiff, Nat.reduceLT]; refine hK_ _ ?_; clear hK_ K_)))
            refine WC_drawnB [.no, .no, .no, .no, .no, .no, .no, .no, .no, .no, .no, .no, .no, .no, .no, .full, .full, .full] (by kernel_rfl) ?_
            (repeat' (first
  | (with_reducible first | refine WC_seq ?_ | refine WC_skip ?_ | refine WC_label ?_ | refine WC_scope ?_ | refine WC_block ?_ | refine WC_ret ?_ | refine WC_exit ?_ | refine seqQ_norm ?_ | refine seqQ_ret ?_ | refine seqQ_exit ?_ | refine blkQ_norm ?_ | refine blkQ_ret ?_ | refine blkQ_here ?_ | refine gateK_yes ?_ | refine gateK_none ?_ | refine condK_tt ?_ | refine condK_ff ?_ | refine roundQ_exit ?_ | refine roundQ_ret ?_)
  | refine WC_region ?_ | refine blkQ_out rfl ?_ | refine WO_nil ?_ | refine WD_nil ?_
  | ((first | refine WD_gate rfl rfl rfl rfl rfl fun K_ hK_ => ?_ | refine WO_gate rfl rfl rfl rfl rfl fun K_ hK_ => ?_); simp only [upd_apply, asB_bool, asB_tup, ↓reduceIte, reduceCtorEq, Nat.reduceEqDiff, Bool.not_true, Bool.not_false]; refine hK_ _ ?_; clear hK_ K_)
  | refine gateK_no (by decide) ?_
  | ((try first | refine WO_op rfl rfl rfl ?_ | refine WO_op0 rfl rfl ?_ | refine WD_op rfl rfl rfl ?_ | refine WD_op0 rfl rfl ?_); (refine WV_gen fun Q_ hQ_ => ?_; simp (disch := first | omega | (simp only [List.length_cons, List.length_nil, List.length_append]; omega)) only [bb, bp, argF, ↓reduceIte, reduceCtorEq, Nat.reduceEqDiff, Nat.reduceLT, Nat.reduceLeDiff, Nat.reduceAdd, Nat.reduceMul, Nat.reduceSub, Nat.reduceBEq, Int.reduceToNat, cond_true, cond_false, eq_self, beq_self_eq_true, g1, g2, g5, g6, g7, g9, hlen, hlenb, hix, hld, hlenv, hix3, hrow, hxb, hlb, conv52, hwb, b_rem hz1, b_rem hz2, htm, htq, hr8, happ, reszT_some un_53 sz_2, newPtr_X wf, newSlice_X wf, load1_X wf, loadAgg_X wf, store1_X wf, writeCells_X wf, makeFunc_def, tEvN2, bsl_53, bsl_34]; first | (refine dec_split (Q := Q_) (fun hp_ => ?_) (fun hp_ => ?_) <;> first | (exfalso; omega) | (refine hQ_ _ _ ?_; clear hQ_ Q_)) | (refine dec_splitn (Q := Q_) (fun hp_ => ?_) (fun hp_ => ?_) <;> first | (exfalso; omega) | (refine hQ_ _ _ ?_; clear hQ_ Q_)) | (refine hQ_ _ _ ?_; clear hQ_ Q_)))
  | (refine WC_cond fun K_ hK_ => ?_; simp (disch := omega) only [evT_tmp, upd_apply, WB_some, ↓reduceIte, reduceCtorEq, Nat.reduceEqDiff, Nat.reduceLT]; refine hK_ _ ?_; clear hK_ K_)))
            refine roundQ_again (k + 1) (by omega) ⟨hkl, by simp only [upd_apply, ↓reduceIte, reduceCtorEq, Nat.reduceEqDiff]; exact g1, by simp only [upd_apply, ↓reduceIte, reduceCtorEq, Nat.reduceEqDiff]; exact g2, by simp only [upd_apply, ↓reduceIte, reduceCtorEq, Nat.reduceEqDiff]; exact g5, by simp only [upd_apply, ↓reduceIte, reduceCtorEq, Nat.reduceEqDiff]; rw [hqd]; rfl, by simp only [upd_apply, ↓reduceIte, reduceCtorEq, Nat.reduceEqDiff]; exact g7, by simp only [upd_apply, ↓reduceIte, reduceCtorEq, Nat.reduceEqDiff]; rfl, rfl, G2', rfl, ?_⟩
            simp only [upd_apply, ↓reduceIte, reduceCtorEq, Nat.reduceEqDiff]
            rw [hsn, List.map_append]
            exact hg2'
        · have hkm : k = m := by omega
          subst hkm
          obtain ⟨idx, hv8, hG2⟩ : ∃ idx, f 8 = .sl (nx h ((AO.cells (mkCells [ii sp, ii st, a]) 24 :: G).length + idx)) 0 k none 1 ∧ G2[idx]? = some (.cells (mkCells ((tRow bys rows k i k).map ii)) 2) := by
            obtain ⟨_, ⟨h0, _⟩ | ⟨idx, h1, h2⟩⟩ := hg2
            · omega
            · exact ⟨idx, h1, h2⟩
          have e8 : (AO.cells (mkCells [ii sp, ii st, a]) 24 :: G).length + idx = 1 + G.length + idx := by simp; omega
          rw [e8] at hv8
          have hr8 : reszT Try.prog 53 (f 8) = f 8 := by rw [hv8]; exact reszT_none
          have hr5 := hgr.resz (P := Try.prog) 34
          have hcl : cells.length = i := by have := hgr.1; omega
          obtain ⟨ov', G', hgr', hkeep, happ0⟩ := (hgr.more G2).appendN (P := Try.prog) wf un_34 sz_53 el_53 (n := 1) (new := [f 8]) (by omega) (by omega) (by omega) rfl (by rw [hv8]; rfl)
          have happ : ∀ n, n = G.length + G2.length + 1 → appendE Try.prog 34 ov (.sl (nx h n) 0 1 (some 1) 1) (X h (.cells (mkCells [ii sp, ii st, a]) 24 :: (G ++ (G2 ++ [.cells (mkCells [f 8]) 53]))) h.clock) = .ok ov' (X h (.cells (mkCells [ii sp, ii st, a]) 24 :: G') h.clock) := fun n hnn => by
            have e : n = [AO.cells (mkCells [ii sp, ii st, a]) 24].length + (G ++ G2).length := by simp; omega
            rw [e]
            simpa using happ0
          rw [hv8] at happ hgr'
          (repeat' (first
  | (with_reducible first | refine WC_seq ?_ | refine WC_skip ?_ | refine WC_label ?_ | refine WC_scope ?_ | refine WC_block ?_ | refine WC_ret ?_ | refine WC_exit ?_ | refine seqQ_norm ?_ | refine seqQ_ret ?_ | refine seqQ_exit ?_ | refine blkQ_norm ?_ | refine blkQ_ret ?_ | refine blkQ_here ?_ | refine gateK_yes ?_ | refine gateK_none ?_ | refine condK_tt ?_ | refine condK_ff ?_ | refine roundQ_exit ?_ | refine roundQ_ret ?_)
  | refine WC_region ?_ | refine blkQ_out rfl ?_ | refine WO_nil ?_ | refine WD_nil ?_
  | ((first | refine WD_gate rfl rfl rfl rfl rfl fun K_ hK_ => ?_ | refine WO_gate rfl rfl rfl rfl rfl fun K_ hK_ => ?_); simp only [upd_apply, asB_bool, asB_tup, ↓reduceIte, reduceCtorEq, Nat.reduceEqDiff, Bool.not_true, Bool.not_false]; refine hK_ _ ?_; clear hK_ K_)
  | refine gateK_no (by decide) ?_
  | ((try first | refine WO_op rfl rfl rfl ?_ | refine WO_op0 rfl rfl ?_ | refine WD_op rfl rfl rfl ?_ | refine WD_op0 rfl rfl ?_); (refine WV_gen fun Q_ hQ_ => ?_; simp (disch := first | omega | (simp only [List.length_cons, List.length_nil, List.length_append]; omega)) only [bb, bp, argF, ↓reduceIte, reduceCtorEq, Nat.reduceEqDiff, Nat.reduceLT, Nat.reduceLeDiff, Nat.reduceAdd, Nat.reduceMul, Nat.reduceSub, Nat.reduceBEq, Int.reduceToNat, cond_true, cond_false, eq_self, beq_self_eq_true, g1, g2, g5, g6, g7, g9, hv8, hlen, hix, hld, hlenv, hr5, happ, reszT_some un_34 sz_53, reszT_none, newPtr_X wf, newSlice_X wf, load1_X wf, loadAgg_X wf, store1_X wf, writeCells_X wf, makeFunc_def, tEvN2, bsl_53, bsl_34]; first | (refine dec_split (Q := Q_) (fun hp_ => ?_) (fun hp_ => ?_) <;> first | (exfalso; omega) | (refine hQ_ _ _ ?_; clear hQ_ Q_)) | (refine dec_splitn (Q := Q_) (fun hp_ => ?_) (fun hp_ => ?_) <;> first | (exfalso; omega) | (refine hQ_ _ _ ?_; clear hQ_ Q_)) | (refine hQ_ _ _ ?_; clear hQ_ Q_)))
  | (refine WC_cond fun K_ hK_ => ?_; simp (disch := omega) only [evT_tmp, upd_apply, WB_some, ↓reduceIte, reduceCtorEq, Nat.reduceEqDiff, Nat.reduceLT]; refine hK_ _ ?_; clear hK_ K_)))
          refine roundQ_again (i + 1) (by omega) ⟨hlt, by simp only [upd_apply, ↓reduceIte, reduceCtorEq, Nat.reduceEqDiff]; exact g1, by simp only [upd_apply, ↓reduceIte, reduceCtorEq, Nat.reduceEqDiff]; exact g2, by simp only [upd_apply, ↓reduceIte, reduceCtorEq, Nat.reduceEqDiff]; rw [Nat.succ_mul]; exact g6, by simp only [upd_apply, ↓reduceIte, reduceCtorEq, Nat.reduceEqDiff]; rfl, rfl, G', _, rfl, by simp only [upd_apply, ↓reduceIte, reduceCtorEq, Nat.reduceEqDiff]; exact hgr', ?_⟩
          exact hrw.snoc hcl hkeep hG2
      · refine ⟨Nat.zero_le _, by simp only [upd_apply, ↓reduceIte, reduceCtorEq, Nat.reduceEqDiff]; exact g1, by simp only [upd_apply, ↓reduceIte, reduceCtorEq, Nat.reduceEqDiff]; exact g2, by simp only [upd_apply, ↓reduceIte, reduceCtorEq, Nat.reduceEqDiff]; exact hov.symm, by simp only [upd_apply, ↓reduceIte, reduceCtorEq, Nat.reduceEqDiff]; exact g6, by simp only [upd_apply, ↓reduceIte, reduceCtorEq, Nat.reduceEqDiff]; exact g7, by simp only [upd_apply, ↓reduceIte, reduceCtorEq, Nat.reduceEqDiff]; rfl, rfl, [], by rw [List.append_nil], ?_⟩
        simp only [upd_apply, ↓reduceIte, reduceCtorEq, Nat.reduceEqDiff]
        exact Grow.nil h _ [] 1 2
    · have hie : i = rows.length := by omega
      subst hie
      obtain ⟨idx, hv5, -⟩ : ∃ idx, f 5 = .sl (nx h ([AO.cells (mkCells [ii sp, ii st, a]) 24].length + idx)) 0 rows.length none 1 ∧ True := by
        obtain ⟨_, ⟨h0, _⟩ | ⟨idx, h1, h2⟩⟩ := hgr
        · omega
        · exact ⟨idx, h1, trivial⟩
      have hsl := hgr.sl wf h.w
      (repeat' (first
  | (with_reducible first | refine WC_seq ?_ | refine WC_skip ?_ | refine WC_label ?_ | refine WC_scope ?_ | refine WC_block ?_ | refine WC_ret ?_ | refine WC_exit ?_ | refine seqQ_norm ?_ | refine seqQ_ret ?_ | refine seqQ_exit ?_ | refine blkQ_norm ?_ | refine blkQ_ret ?_ | refine blkQ_here ?_ | refine gateK_yes ?_ | refine gateK_none ?_ | refine condK_tt ?_ | refine condK_ff ?_ | refine roundQ_exit ?_ | refine roundQ_ret ?_)
  | refine WC_region ?_ | refine blkQ_out rfl ?_ | refine WO_nil ?_ | refine WD_nil ?_
  | ((first | refine WD_gate rfl rfl rfl rfl rfl fun K_ hK_ => ?_ | refine WO_gate rfl rfl rfl rfl rfl fun K_ hK_ => ?_); simp only [upd_apply, asB_bool, asB_tup, ↓reduceIte, reduceCtorEq, Nat.reduceEqDiff, Bool.not_true, Bool.not_false]; refine hK_ _ ?_; clear hK_ K_)
  | refine gateK_no (by decide) ?_
  | ((try first | refine WO_op rfl rfl rfl ?_ | refine WO_op0 rfl rfl ?_ | refine WD_op rfl rfl rfl ?_ | refine WD_op0 rfl rfl ?_); (refine WV_gen fun Q_ hQ_ => ?_; simp (disch := first | omega | (simp only [List.length_cons, List.length_nil, List.length_append]; omega)) only [bb, bp, argF, ↓reduceIte, reduceCtorEq, Nat.reduceEqDiff, Nat.reduceLT, Nat.reduceLeDiff, Nat.reduceAdd, Nat.reduceMul, Nat.reduceSub, Nat.reduceBEq, Int.reduceToNat, cond_true, cond_false, eq_self, beq_self_eq_true, g1, g2, g6, g7, hlen, newPtr_X wf, newSlice_X wf, load1_X wf, loadAgg_X wf, store1_X wf, writeCells_X wf, makeFunc_def, tEvN2, bsl_53, bsl_34]; first | (refine dec_split (Q := Q_) (fun hp_ => ?_) (fun hp_ => ?_) <;> first | (exfalso; omega) | (refine hQ_ _ _ ?_; clear hQ_ Q_)) | (refine dec_splitn (Q := Q_) (fun hp_ => ?_) (fun hp_ => ?_) <;> first | (exfalso; omega) | (refine hQ_ _ _ ?_; clear hQ_ Q_)) | (refine hQ_ _ _ ?_; clear hQ_ Q_)))
  | (refine WC_cond fun K_ hK_ => ?_; simp (disch := omega) only [evT_tmp, upd_apply, WB_some, ↓reduceIte, reduceCtorEq, Nat.reduceEqDiff, Nat.reduceLT]; refine hK_ _ ?_; clear hK_ K_)))
      refine endQ_ret _ _ rfl (ret1 (by decide)) ?_
      simp only [upd_apply, ↓reduceIte, reduceCtorEq, Nat.reduceEqDiff]
      refine WV_keep wf (Nat.le_refl _) (fun hf => by rw [hv5] at hf; cases hf) (fun _ => ⟨_, cells, rfl, ?_⟩)
      have hwf : h.w ≤ h.clock := wf.wle
      have hll : (listOf (tG bys rows m) rows.length m).length = rows.length := by unfold listOf; simp
      refine ⟨wf.X (by omega), by rw [hll]; exact hsl, fun j hj => ?_⟩
      rw [hll] at hj
      obtain ⟨idx, c1, c2⟩ := hrw j hj
      have hyj : (listOf (tG bys rows m) rows.length m)[j] = tRow bys rows m j m := by
        rw [← gRow_tG hn.2 hm.2 hj]
        exact (List.getElem_map _).trans (by rw [List.getElem_range])
      have hlj : (tRow bys rows m j m).length = m := by unfold tRow; simp
      refine ⟨_, c1, ?_, fun id off l esz e => by cases e; rfl⟩
      rw [hyj, hlj]
      refine .inl (Sl.new wf (by rw [List.length_map, hlj]; omega) (e := 2) ?_)
      rw [Nat.add_comm, List.getElem?_cons_succ]
      exact c2
  · refine ⟨Nat.zero_le _, by simp only [upd_apply, ↓reduceIte, reduceCtorEq, Nat.reduceEqDiff], by simp only [upd_apply, ↓reduceIte, reduceCtorEq, Nat.reduceEqDiff], by simp only [upd_apply, ↓reduceIte, reduceCtorEq, Nat.reduceEqDiff]; simp, by simp only [upd_apply, ↓reduceIte, reduceCtorEq, Nat.reduceEqDiff]; rfl, rfl, [], [], rfl, by simp only [upd_apply, ↓reduceIte, reduceCtorEq, Nat.reduceEqDiff]; exact Grow.nil h _ [] 1 53, fun j hj => absurd hj (Nat.not_lt_zero j)⟩
end Go.Proofs.Ytghondkiondeaac
end

/- EvN3 -/
section
/-
  LAYER 2: numbers of true hulls held against the ends.
-/
namespace Go.Proofs.Ytghondkiondeaac
open Go.Ev
set_option maxRecDepth 100000
set_option linter.unusedSimpArgs false
set_option linter.unusedVariables false
set_option maxHeartbeats 4000000

theorem tEvN3 : type_of% (And.intro (And.intro (And.intro (And.intro (@ia_2) (@sz_2)) (And.intro (@ze_2) (@ia_3))) (And.intro (And.intro (@sz_3) (@ia_4)) (And.intro (@sz_4) (@ia_26)))) (And.intro (And.intro (And.intro (@sz_26) (@ze_26)) (And.intro (@ia_39) (@sz_39))) (And.intro (And.intro (@ze_39) (@fo_39_0)) (And.intro (@fo_39_1) (And.intro (@pb_20) (@pb_21)))))) := And.intro (And.intro (And.intro (And.intro (@ia_2) (@sz_2)) (And.intro (@ze_2) (@ia_3))) (And.intro (And.intro (@sz_3) (@ia_4)) (And.intro (@sz_4) (@ia_26)))) (And.intro (And.intro (And.intro (@sz_26) (@ze_26)) (And.intro (@ia_39) (@sz_39))) (And.intro (And.intro (@ze_39) (@fo_39_0)) (And.intro (@fo_39_1) (And.intro (@pb_20) (@pb_21)))))
theorem psum_mono {f g : Nat → Int} : ∀ {n : Nat}, (∀ q, q < n → f q ≤ g q) → psum f n ≤ psum g n
  | 0, _ => Int.le_refl _
  | n + 1, h => by
    have h1 := psum_mono (n := n) fun q hq => h q (by omega)
    have h2 := h n (by omega)
    simp only [psum]; omega
/-- Fractions, one after the other. -/
theorem frac_trans {a b c d e f : Int} (hb : 1 ≤ b) (hd : 1 ≤ d) (hf : 1 ≤ f) (h1 : a * d ≤ c * b) (h2 : c * f ≤ e * d) : a * f ≤ e * b := by
  have h3 : a * d * f ≤ c * b * f := Int.mul_le_mul_of_nonneg_right h1 (by omega)
  have h4 : c * f * b ≤ e * d * b := Int.mul_le_mul_of_nonneg_right h2 (by omega)
  have h5 : a * f * d ≤ e * b * d := by grind
  exact Int.le_of_mul_le_mul_right h5 (by omega)
section
variable {sp st : Int} {rows : List (List (Int × Int))} {m : Nat}
end
section
variable {g : Nat} {sp st : Int} {rows : List (List (Int × Int))} {m : Nat}
theorem low_le (k : HOK g sp st rows m) {gs : List Int} (hi : InG rows m gs) :
    ratN g sp st rows m (theEnd g sp st rows m false) * ratD g sp st rows m gs ≤ ratN g sp st rows m gs * ratD g sp st rows m (theEnd g sp st rows m false) := by
  have := beyond k false hi
  rw [sgn_ff] at this
  have e := Int.mul_comm (ratN g sp st rows m (theEnd g sp st rows m false)) (ratD g sp st rows m gs)
  omega
theorem le_high (k : HOK g sp st rows m) {gs : List Int} (hi : InG rows m gs) :
    ratN g sp st rows m gs * ratD g sp st rows m (theEnd g sp st rows m true) ≤ ratN g sp st rows m (theEnd g sp st rows m true) * ratD g sp st rows m gs := by
  have := beyond k true hi
  rw [sgn_tt] at this
  have e := Int.mul_comm (ratN g sp st rows m (theEnd g sp st rows m true)) (ratD g sp st rows m gs)
  omega
end

theorem insideC {vN vD lN lD hN hD : Int} (b : isBnd vN vD = true) (bl : isBnd lN lD = true) (bh : isBnd hN hD = true) (h1 : lN * vD ≤ vN * lD) (h2 : vN * hD ≤ hN * vD) (h : H) (wf : Wf h) :
    (om Try.prog KK).call (.fn 19 [.agg [ii vN, ii vD], .agg [ii lN, ii lD, ii hN, ii hD]]) h = .ok (.bool true) h := by
  have h20 : ∀ l w N D, w ≤ h.clock + l.length → (om Try.prog KK).call (.fn 20 [.agg [ii N, ii D]]) (X h l w) = .ok (.bool (isBnd N D)) (X h l w) := fun l w N D hw => isBoundR N D _ (wf.X hw)
  have hl1 : ∀ l w, w ≤ h.clock + l.length → (om Try.prog KK).call (.fn 21 [.agg [ii vN, ii vD], .agg [ii lN, ii lD]]) (X h l w) = .ok (.bool false) (X h l w) := fun l w hw => by
    rw [lessR vN vD lN lD (isBnd_in b) (isBnd_in bl) _ (wf.X hw), decide_eq_false (by omega)]
  have hl2 : ∀ l w, w ≤ h.clock + l.length → (om Try.prog KK).call (.fn 21 [.agg [ii hN, ii hD], .agg [ii vN, ii vD]]) (X h l w) = .ok (.bool false) (X h l w) := fun l w hw => by
    rw [lessR hN hD vN vD (isBnd_in bh) (isBnd_in b) _ (wf.X hw), decide_eq_false (by omega)]
  refine WV_to (WV_call (fn := Try.f19) Try.func19 rfl rfl rfl rfl rfl ?_)
  simp only [argF]
  (repeat' (first
  | (with_reducible first | refine WC_seq ?_ | refine WC_skip ?_ | refine WC_label ?_ | refine WC_scope ?_ | refine WC_block ?_ | refine WC_ret ?_ | refine WC_exit ?_ | refine seqQ_norm ?_ | refine seqQ_ret ?_ | refine seqQ_exit ?_ | refine blkQ_norm ?_ | refine blkQ_ret ?_ | refine blkQ_here ?_ | refine gateK_yes ?_ | refine gateK_none ?_ | refine condK_tt ?_ | refine condK_ff ?_ | refine roundQ_exit ?_ | refine roundQ_ret ?_)
  | refine WC_region ?_ | refine blkQ_out rfl ?_ | refine WO_nil ?_ | refine WD_nil ?_
  | ((first | refine WD_gate rfl rfl rfl rfl rfl fun K_ hK_ => ?_ | refine WO_gate rfl rfl rfl rfl rfl fun K_ hK_ => ?_); simp only [upd_apply, asB_bool, asB_tup, ↓reduceIte, reduceCtorEq, Nat.reduceEqDiff, Bool.not_true, Bool.not_false]; refine hK_ _ ?_; clear hK_ K_)
  | refine gateK_no (by decide) ?_
  | ((try first | refine WO_op rfl rfl rfl ?_ | refine WO_op0 rfl rfl ?_ | refine WD_op rfl rfl rfl ?_ | refine WD_op0 rfl rfl ?_); (refine WV_gen fun Q_ hQ_ => ?_; simp (disch := first | omega | (simp only [List.length_cons, List.length_nil, List.length_append]; omega)) only [bb, bp, argF, ↓reduceIte, reduceCtorEq, Nat.reduceEqDiff, Nat.reduceLT, Nat.reduceLeDiff, Nat.reduceAdd, Nat.reduceMul, Nat.reduceSub, Nat.reduceBEq, Int.reduceToNat, cond_true, cond_false, eq_self, beq_self_eq_true, h20, b, bl, bh, hl1, hl2, newPtr_X wf, load1_X wf, loadAgg_X wf, store1_X wf, writeCells_X wf, makeFunc_def, tEvN3]; first | (refine dec_split (Q := Q_) (fun hp_ => ?_) (fun hp_ => ?_) <;> first | (exfalso; omega) | (refine hQ_ _ _ ?_; clear hQ_ Q_)) | (refine dec_splitn (Q := Q_) (fun hp_ => ?_) (fun hp_ => ?_) <;> first | (exfalso; omega) | (refine hQ_ _ _ ?_; clear hQ_ Q_)) | (refine hQ_ _ _ ?_; clear hQ_ Q_)))
  | (refine WC_cond fun K_ hK_ => ?_; simp (disch := omega) only [evT_tmp, upd_apply, WB_some, ↓reduceIte, reduceCtorEq, Nat.reduceEqDiff, Nat.reduceLT]; refine hK_ _ ?_; clear hK_ K_)))
  (refine endQ_ret _ _ rfl (ret1 (by decide)) ?_; simp only [upd_apply, ↓reduceIte, reduceCtorEq, Nat.reduceEqDiff]; refine WV_flat rfl (by omega) ?_)
  exact ⟨rfl, rfl⟩
end Go.Proofs.Ytghondkiondeaac
end

/- EvN4 -/
section
/-
  LAYER 2: the statement BoxFloats, walked.
-/
namespace Go.Proofs.Ytghondkiondeaac
open Go.Ev
set_option maxRecDepth 100000
set_option linter.unusedSimpArgs false
set_option linter.unusedVariables false
set_option maxHeartbeats 4000000

/-- A true hull, in any heap. -/
theorem trueXJ (sp st : Int) (a b : AV) (rvs : List AV) (rows : List (List (Int × Int))) (bys : List Int) (he : hullErr sp st rows = 0) (hby : ∀ n ∈ bys, 0 ≤ n ∧ n ≤ 255) (hbl : bys.length ≤ 80) (h : H) (x : HullR h a rvs rows) (sb : Sl h b 1 bys.length (bys.map uu)) (J : List AO) :
    ∃ (M : List AO) (v : AV) (yvs : List AV), (om Try.prog KK).call (.fn 14 [.agg [ii sp, ii st, a], b]) (X h J h.clock) = .ok v (X h (J ++ M) h.clock) ∧
      YsR (X h (J ++ M) h.clock) v yvs (listOf (tG bys rows (m0 rows)) rows.length (m0 rows)) := by
  have wf := x.wf
  obtain ⟨v, h', e, M, yvs, rfl, hy⟩ := trueC sp st a b rvs rows bys he hby hbl _ (x.up J h.clock (by omega)) (sb.up wf J h.clock)
  rw [X_X, X_w] at e hy
  exact ⟨M, v, yvs, e, hy⟩

end Go.Proofs.Ytghondkiondeaac
end

/- EvN5 -/
section
/-
  LAYER 2: the statement BoxBoxed, walked.
-/
namespace Go.Proofs.Ytghondkiondeaac
open Go.Ev
set_option maxRecDepth 100000
set_option linter.unusedSimpArgs false
set_option linter.unusedVariables false
set_option maxHeartbeats 4000000

theorem tEvN5 : type_of% (And.intro (And.intro (And.intro (And.intro (And.intro (@ia_2) (@sz_2)) (And.intro (@ze_2) (And.intro (@ia_3) (@sz_3)))) (And.intro (And.intro (@ia_4) (@sz_4)) (And.intro (@ia_5) (And.intro (@sz_5) (@ia_24))))) (And.intro (And.intro (And.intro (@sz_24) (@ia_22)) (And.intro (@sz_22) (And.intro (@ia_52) (@sz_52)))) (And.intro (And.intro (@ia_34) (@sz_34)) (And.intro (@ia_26) (And.intro (@sz_26) (@ze_26)))))) (And.intro (And.intro (And.intro (And.intro (@ia_39) (@sz_39)) (And.intro (@ze_39) (And.intro (@fo_24_1) (@fo_24_2)))) (And.intro (And.intro (@fo_26_0) (@fo_26_1)) (And.intro (@fo_39_0) (And.intro (@fo_39_1) (@pb_9))))) (And.intro (And.intro (And.intro (@pb_10) (@pb_11)) (And.intro (@pb_13) (And.intro (@pb_14) (@pb_15)))) (And.intro (And.intro (@pb_16) (And.intro (@pb_17) (@pb_18))) (And.intro (@pb_19) (And.intro (@pb_20) (@pb_21))))))) := And.intro (And.intro (And.intro (And.intro (And.intro (@ia_2) (@sz_2)) (And.intro (@ze_2) (And.intro (@ia_3) (@sz_3)))) (And.intro (And.intro (@ia_4) (@sz_4)) (And.intro (@ia_5) (And.intro (@sz_5) (@ia_24))))) (And.intro (And.intro (And.intro (@sz_24) (@ia_22)) (And.intro (@sz_22) (And.intro (@ia_52) (@sz_52)))) (And.intro (And.intro (@ia_34) (@sz_34)) (And.intro (@ia_26) (And.intro (@sz_26) (@ze_26)))))) (And.intro (And.intro (And.intro (And.intro (@ia_39) (@sz_39)) (And.intro (@ze_39) (And.intro (@fo_24_1) (@fo_24_2)))) (And.intro (And.intro (@fo_26_0) (@fo_26_1)) (And.intro (@fo_39_0) (And.intro (@fo_39_1) (@pb_9))))) (And.intro (And.intro (And.intro (@pb_10) (@pb_11)) (And.intro (@pb_13) (And.intro (@pb_14) (@pb_15)))) (And.intro (And.intro (@pb_16) (And.intro (@pb_17) (@pb_18))) (And.intro (@pb_19) (And.intro (@pb_20) (@pb_21))))))
/-- Halves in least terms. -/
theorem half_frac {n : Int} (hn : 0 ≤ n) : (2 / (Int.gcd n 2 : Int) = 1 ∨ 2 / (Int.gcd n 2 : Int) = 2) ∧ (2 * (n / (Int.gcd n 2 : Int))).tdiv (2 / (Int.gcd n 2 : Int)) = n ∧ 0 ≤ n / (Int.gcd n 2 : Int) ∧ n / (Int.gcd n 2 : Int) ≤ n := by
  have h1 : Int.gcd n 2 ∣ 2 := by
    have : ((Int.gcd n 2 : Nat) : Int) ∣ 2 := Int.gcd_dvd_right ..
    exact Int.natCast_dvd_natCast.1 this
  have h2 : ((Int.gcd n 2 : Nat) : Int) ∣ n := Int.gcd_dvd_left ..
  have h3 : Int.gcd n 2 = 1 ∨ Int.gcd n 2 = 2 := by
    have h4 := Nat.le_of_dvd (by decide) h1
    have h5 : Int.gcd n 2 ≠ 0 := fun e => by rw [e] at h1; exact absurd h1 (by decide)
    omega
  rcases h3 with h3 | h3
  · rw [h3]
    refine ⟨.inr (by decide), ?_, by simpa using hn, by simp⟩
    rw [Int.tdiv_eq_ediv_of_nonneg (by simp; omega)]
    simp
  · rw [h3] at h2 ⊢
    obtain ⟨c, hc⟩ := h2
    refine ⟨.inl (by decide), ?_, by omega, by omega⟩
    rw [show (2 : Int) / ((2 : Nat) : Int) = 1 from by decide, Int.tdiv_one]
    omega
theorem vol_listOf {sp st : Int} {rows : List (List (Int × Int))} (he : hullErr sp st rows = 0) {gs : List Int} (hi : InG rows (m0 rows) gs) :
    volOut sp st rows (listOf gs rows.length (m0 rows)) = .tup [frac (volS sp st rows gs) 2, ii 0] := by
  obtain ⟨hn, hm, hall, hsp, hst, hof⟩ := hullErr_ok he
  unfold volOut
  rw [if_pos (true_listOf he hi)]
  have e : allS rows.length (m0 rows) (listOf gs rows.length (m0 rows)) = psum (vterm rows.length (m0 rows) gs) (rows.length * m0 rows) := psum_congr fun q hq => by
    unfold vterm W
    rw [listOf_at hi.1 hn.2 hm.2 hq]
  rw [e]
  rfl
theorem volS_mono {sp st : Int} {rows : List (List (Int × Int))} (hsp : 1 ≤ sp) (hst : 1 ≤ st) {gs gs' : List Int} (h : ∀ q, q < rows.length * m0 rows → yat gs (m0 rows) q ≤ yat gs' (m0 rows) q) : volS sp st rows gs ≤ volS sp st rows gs' := by
  unfold volS
  refine Int.mul_le_mul_of_nonneg_left (psum_mono fun q hq => ?_) (Int.mul_nonneg (by omega) (by omega))
  unfold vterm
  exact Int.mul_le_mul_of_nonneg_left (h q hq) (Int.mul_nonneg (wt_in _ _).1 (wt_in _ _).1)
theorem volS_in {sp st : Int} {rows : List (List (Int × Int))} (he : hullErr sp st rows = 0) {gs : List Int} (hi : InG rows (m0 rows) gs) : 0 ≤ volS sp st rows gs ∧ volS sp st rows gs ≤ 12000000000 := by
  obtain ⟨hn, hm, hall, hsp, hst, hof⟩ := hullErr_ok he
  have k := hok he (g := 53) (.inl rfl)
  have h1 := psum_in (f := vterm rows.length (m0 rows) gs) (b := 2000) (q := rows.length * m0 rows) fun q hq => vterm_in (hi.y k q hq)
  have h2 := nm_le hn.2 hm.2
  have h3 := mul_bd (a := sp) (b := st) (x := 1000) (y := 100) ⟨by omega, by omega⟩ ⟨by omega, by omega⟩
  have h4 := mul_bd h3 (b := psum (vterm rows.length (m0 rows) gs) (rows.length * m0 rows)) (y := 120000) ⟨h1.1, by omega⟩
  unfold volS
  exact ⟨h4.1, by omega⟩
theorem lowV_at {sp st : Int} {rows : List (List (Int × Int))} (he : hullErr sp st rows = 0) (c : Nat) : InG rows (m0 rows) (lowV c rows) ∧ ∀ q, q < rows.length * m0 rows → yat (lowV c rows) (m0 rows) q = pickOf c (rAt rows (m0 rows) q) := by
  obtain ⟨hn, hm, hall, hsp, hst, hof⟩ := hullErr_ok he
  have k := hok he (g := 53) (.inl rfl)
  have key : ∀ q, q < rows.length * m0 rows → yat (lowV c rows) (m0 rows) q = pickOf c (rAt rows (m0 rows) q) := fun q hq => by
    unfold lowV
    rw [gB_at _ hn.2 hm.2 _ (Nat.le_refl _) q hq]
    rfl
  refine ⟨⟨gB_length _ _ _, fun q hq => ?_⟩, key⟩
  have := k.hoff q hq
  unfold isOff at this
  rw [key q hq]
  unfold pickOf
  split <;> omega

theorem lawBoxed (sp st wv N D : Int) (hwv : 0 ≤ wv ∧ wv ≤ 255) (a b : AV) (rvs : List AV) (rows : List (List (Int × Int))) (bys : List Int) (hby : ∀ n ∈ bys, 0 ≤ n ∧ n ≤ 255) (h : H) (x : HullR h a rvs rows) (sb : Sl h b 1 bys.length (bys.map uu)) :
    (om Try.prog KK).call (.fn 4 [.agg [ii sp, ii st, a], .int .u8 wv, b, .agg [ii N, ii D]]) h = .ok (.bool true) h := by
  have wf := x.wf
  have hfi : ∀ l w, w ≤ h.clock + l.length → (om Try.prog KK).call (.fn 13 [.agg [ii sp, ii st, a]]) (X h l w) = .ok (.bool (!decide (Great rows []) && decide (hullErr sp st rows = 0))) (X h l w) := fun l w hw => fineC sp st a rvs rows _ (x.up l w hw)
  have hwk : ∀ l w, (om Try.prog KK).call (.fn 10 []) (X h l w) = .ok (.bool true) (X h l w) := fun l w => works _
  have hlenb : ∀ h', lenE Try.prog 32 b h' = some (ii (bys.length : Int)) := fun h' => sb.len un_32
  refine WV_to (WV_call (fn := Try.f4) Try.func4 rfl rfl rfl rfl rfl ?_)
  simp only [argF]
  cases hF : (!decide (Great rows []) && decide (hullErr sp st rows = 0)) with
  | false =>
    rw [hF] at hfi
    (repeat' (first
  | (with_reducible first | refine WC_seq ?_ | refine WC_skip ?_ | refine WC_label ?_ | refine WC_scope ?_ | refine WC_block ?_ | refine WC_ret ?_ | refine WC_exit ?_ | refine seqQ_norm ?_ | refine seqQ_ret ?_ | refine seqQ_exit ?_ | refine blkQ_norm ?_ | refine blkQ_ret ?_ | refine blkQ_here ?_ | refine gateK_yes ?_ | refine gateK_none ?_ | refine condK_tt ?_ | refine condK_ff ?_ | refine roundQ_exit ?_ | refine roundQ_ret ?_)
  | refine WC_region ?_ | refine blkQ_out rfl ?_ | refine WO_nil ?_ | refine WD_nil ?_
  | ((first | refine WD_gate rfl rfl rfl rfl rfl fun K_ hK_ => ?_ | refine WO_gate rfl rfl rfl rfl rfl fun K_ hK_ => ?_); simp only [upd_apply, asB_bool, asB_tup, ↓reduceIte, reduceCtorEq, Nat.reduceEqDiff, Bool.not_true, Bool.not_false]; refine hK_ _ ?_; clear hK_ K_)
  | refine gateK_no (by decide) ?_
  | ((try first | refine WO_op rfl rfl rfl ?_ | refine WO_op0 rfl rfl ?_ | refine WD_op rfl rfl rfl ?_ | refine WD_op0 rfl rfl ?_); (refine WV_gen fun Q_ hQ_ => ?_; simp (disch := first | omega | (simp only [List.length_cons, List.length_nil, List.length_append]; omega)) only [bb, bp, argF, ↓reduceIte, reduceCtorEq, Nat.reduceEqDiff, Nat.reduceLT, Nat.reduceLeDiff, Nat.reduceAdd, Nat.reduceMul, Nat.reduceSub, Nat.reduceBEq, Int.reduceToNat, cond_true, cond_false, eq_self, beq_self_eq_true, hfi, hwk, newPtr_X wf, load1_X wf, loadAgg_X wf, store1_X wf, writeCells_X wf, makeFunc_def, tEvN5]; first | (refine dec_split (Q := Q_) (fun hp_ => ?_) (fun hp_ => ?_) <;> first | (exfalso; omega) | (refine hQ_ _ _ ?_; clear hQ_ Q_)) | (refine dec_splitn (Q := Q_) (fun hp_ => ?_) (fun hp_ => ?_) <;> first | (exfalso; omega) | (refine hQ_ _ _ ?_; clear hQ_ Q_)) | (refine hQ_ _ _ ?_; clear hQ_ Q_)))
  | (refine WC_cond fun K_ hK_ => ?_; simp (disch := omega) only [evT_tmp, upd_apply, WB_some, ↓reduceIte, reduceCtorEq, Nat.reduceEqDiff, Nat.reduceLT]; refine hK_ _ ?_; clear hK_ K_)))
    (refine endQ_ret _ _ rfl (ret1 (by decide)) ?_; simp only [upd_apply, ↓reduceIte, reduceCtorEq, Nat.reduceEqDiff]; refine WV_flat rfl (by omega) ?_)
    exact ⟨rfl, rfl⟩
  | true =>
    rw [hF] at hfi
    rw [Bool.and_eq_true] at hF
    have he : hullErr sp st rows = 0 := of_decide_eq_true hF.2
    by_cases hbl : bys.length ≤ 80
    · obtain ⟨hn, hm, hall, hsp, hst, hof⟩ := hullErr_ok he
      have hwr : IntKind.i64.wrap wv = wv := wrap_in _ (by omega) (by omega)
      obtain ⟨what, hwm⟩ : ∃ what, what = wv.tmod 3 := ⟨_, rfl⟩
      have hwh : 0 ≤ what ∧ what ≤ 2 := by
        rw [hwm, Int.tmod_eq_emod_of_nonneg hwv.1]; omega
      have k := hok he (gOf_or what)
      have iy : InG rows (m0 rows) (tG bys rows (m0 rows)) := tG_in k
      have ie := fun high => (theEnd_ok k high).1
      obtain ⟨-, nx0⟩ := rat_bnd k iy
      obtain ⟨-, nl⟩ := rat_bnd k (ie false)
      obtain ⟨-, nh⟩ := rat_bnd k (ie true)
      have q1 := low_le k iy
      have q2 := le_high k iy
      have vx := val_listOf he iy hwh
      have vv := vol_listOf he iy
      have topI : isBnd N D = true → (bndErr sp st rows what N D true = 0 → ¬ N * ratD (gOf what) sp st rows (m0 rows) (tG bys rows (m0 rows)) < ratN (gOf what) sp st rows (m0 rows) (tG bys rows (m0 rows)) * D) := fun hb h0 => by
        have e1 := (bnd_top he hwh hb).1 h0
        unfold lowG at e1
        have e2 := frac_trans (isBnd_in nx0).2.1 (isBnd_in nh).2.1 (isBnd_in hb).2.1 q2 (show ratN (gOf what) sp st rows (m0 rows) (theEnd (gOf what) sp st rows (m0 rows) true) * D ≤ N * ratD (gOf what) sp st rows (m0 rows) (theEnd (gOf what) sp st rows (m0 rows) true) by omega)
        omega
      have lowI : isBnd N D = true → (bndErr sp st rows what N D false = 0 → ¬ ratN (gOf what) sp st rows (m0 rows) (tG bys rows (m0 rows)) * D < N * ratD (gOf what) sp st rows (m0 rows) (tG bys rows (m0 rows))) := fun hb h0 => by
        have e1 := (bnd_low he hwh hb).1 h0
        unfold lowG at e1
        have e2 := frac_trans (isBnd_in hb).2.1 (isBnd_in nl).2.1 (isBnd_in nx0).2.1 (show N * ratD (gOf what) sp st rows (m0 rows) (theEnd (gOf what) sp st rows (m0 rows) false) ≤ ratN (gOf what) sp st rows (m0 rows) (theEnd (gOf what) sp st rows (m0 rows) false) * D by omega) q1
        omega
      obtain ⟨il, al⟩ := lowV_at (sp := sp) (st := st) he 38
      obtain ⟨ih, ah⟩ := lowV_at (sp := sp) (st := st) he 39
      have s1 : volS sp st rows (lowV 38 rows) ≤ volS sp st rows (tG bys rows (m0 rows)) := volS_mono hsp.1 hst.1 fun q hq => by rw [al q hq]; exact (iy.2 q hq).1
      have s2 : volS sp st rows (tG bys rows (m0 rows)) ≤ volS sp st rows (lowV 39 rows) := volS_mono hsp.1 hst.1 fun q hq => by rw [ah q hq]; exact (iy.2 q hq).2
      have b1 := volS_in he il
      have b2 := volS_in he iy
      have b3 := volS_in he ih
      have h18 : ∀ l w, w ≤ h.clock + l.length → (om Try.prog KK).call (.fn 18 [.agg [ii sp, ii st, a], ii what]) (X h l w) = .ok (spanOut sp st rows what) (X h l w) := fun l w hw => spanC sp st a rvs rows what _ (x.up l w hw)
      unfold spanOut lowG at h18
      rw [if_neg (not_not_intro he), if_neg (not_not_intro hwh)] at h18
      have h16 : ∀ l w, w ≤ h.clock + l.length → (om Try.prog KK).call (.fn 16 [.agg [ii sp, ii st, a]]) (X h l w) = .ok (volsOut sp st rows) (X h l w) := fun l w hw => volumesC sp st a rvs rows _ (x.up l w hw)
      unfold volsOut at h16
      rw [if_neg (not_not_intro he)] at h16
      obtain ⟨G, p, ys, hG, hY⟩ := trueXJ sp st a b rvs rows bys he hby hbl h x sb [.cells (mkCells [ii sp, ii st, a]) 24, .cells (mkCells [ii N, ii D]) 26]
      have hlen : (listOf (tG bys rows (m0 rows)) rows.length (m0 rows)).length ≤ 1000 := by unfold listOf; simp; omega
      have yU : ∀ l w, w ≤ h.clock + l.length + (G.length + 2) → YsR (X h (.cells (mkCells [ii sp, ii st, a]) 24 :: .cells (mkCells [ii N, ii D]) 26 :: (G ++ l)) w) p ys (listOf (tG bys rows (m0 rows)) rows.length (m0 rows)) := fun l w hw => by
        have y := hY.up l w (by rw [X_clock]; simp only [List.length_cons, List.length_append, List.length_nil]; omega)
        rw [X_X] at y
        exact y
      have h15 : ∀ w, w ≤ h.clock + (G.length + 2) → (om Try.prog KK).call (.fn 15 [.agg [ii sp, ii st, a], p]) (X h (.cells (mkCells [ii sp, ii st, a]) 24 :: .cells (mkCells [ii N, ii D]) 26 :: G) w) = .ok (volOut sp st rows (listOf (tG bys rows (m0 rows)) rows.length (m0 rows))) (X h (.cells (mkCells [ii sp, ii st, a]) 24 :: .cells (mkCells [ii N, ii D]) 26 :: G) w) := fun w hw => by
        have y := yU [] w (by simp only [List.length_nil]; omega)
        rw [List.append_nil] at y
        exact volumeX sp st a p rvs ys rows _ hlen _ (x.up _ w (by simp only [List.length_cons, List.length_append]; omega)) y
      have h17 : ∀ l w, w ≤ h.clock + l.length + (G.length + 2) → (om Try.prog KK).call (.fn 17 [.agg [ii sp, ii st, a], p, ii what]) (X h (.cells (mkCells [ii sp, ii st, a]) 24 :: .cells (mkCells [ii N, ii D]) 26 :: (G ++ l)) w) = .ok (valOut sp st rows (listOf (tG bys rows (m0 rows)) rows.length (m0 rows)) what) (X h (.cells (mkCells [ii sp, ii st, a]) 24 :: .cells (mkCells [ii N, ii D]) 26 :: (G ++ l)) w) := fun l w hw =>
        valueX sp st a p rvs ys rows _ hlen what _ (x.up _ w (by simp only [List.length_cons, List.length_append]; omega)) (yU l w hw)
      rw [vv] at h15
      rw [vx] at h17
      simp only [List.cons_append, List.nil_append] at hG
      unfold frac at h15 h16
      obtain ⟨o1, t1, r1, r1'⟩ := half_frac b1.1
      obtain ⟨o2, t2, r2, r2'⟩ := half_frac b2.1
      obtain ⟨o3, t3, r3, r3'⟩ := half_frac b3.1
      generalize volS sp st rows (lowV 38 rows) = V1 at *
      generalize volS sp st rows (lowV 39 rows) = V3 at *
      generalize volS sp st rows (tG bys rows (m0 rows)) = V2 at *
      generalize V1 / (Int.gcd V1 2 : Int) = F1 at *
      generalize 2 / (Int.gcd V1 2 : Int) = E1 at *
      generalize V2 / (Int.gcd V2 2 : Int) = F2 at *
      generalize 2 / (Int.gcd V2 2 : Int) = E2 at *
      generalize V3 / (Int.gcd V3 2 : Int) = F3 at *
      generalize 2 / (Int.gcd V3 2 : Int) = E3 at *
      have z1 : E1 ≠ 0 := by omega
      have z2 : E2 ≠ 0 := by omega
      have z3 : E3 ≠ 0 := by omega
      simp only [cells_agg, List.flatMap_cons, List.flatMap_nil, cells_int, List.cons_append, List.nil_append] at h16
      generalize ratN (gOf what) sp st rows (m0 rows) (tG bys rows (m0 rows)) = xN at *
      generalize ratD (gOf what) sp st rows (m0 rows) (tG bys rows (m0 rows)) = xD at *
      generalize ratN (gOf what) sp st rows (m0 rows) (theEnd (gOf what) sp st rows (m0 rows) false) = slN at *
      generalize ratD (gOf what) sp st rows (m0 rows) (theEnd (gOf what) sp st rows (m0 rows) false) = slD at *
      generalize ratN (gOf what) sp st rows (m0 rows) (theEnd (gOf what) sp st rows (m0 rows) true) = shN at *
      generalize ratD (gOf what) sp st rows (m0 rows) (theEnd (gOf what) sp st rows (m0 rows) true) = shD at *
      have hin : ∀ l w, w ≤ h.clock + l.length → (om Try.prog KK).call (.fn 19 [.agg [ii xN, ii xD], .agg [ii slN, ii slD, ii shN, ii shD]]) (X h l w) = .ok (.bool true) (X h l w) := fun l w hw => insideC nx0 nl nh q1 q2 _ (wf.X hw)
      have h11 : ∀ l w high, w ≤ h.clock + l.length → (om Try.prog KK).call (.fn 11 [.agg [ii sp, ii st, a], ii what, .agg [ii N, ii D], .bool high]) (X h l w) = .ok (ii (bndErr sp st rows what N D high)) (X h l w) := fun l w high hw => checkBound sp st a rvs rows what N D high _ (x.up l w hw)
      have h20 : ∀ l w, w ≤ h.clock + l.length → (om Try.prog KK).call (.fn 20 [.agg [ii N, ii D]]) (X h l w) = .ok (.bool (isBnd N D)) (X h l w) := fun l w hw => isBoundR N D _ (wf.X hw)
      cases hb : isBnd N D with
      | false =>
        (repeat' (first
  | (with_reducible first | refine WC_seq ?_ | refine WC_skip ?_ | refine WC_label ?_ | refine WC_scope ?_ | refine WC_block ?_ | refine WC_ret ?_ | refine WC_exit ?_ | refine seqQ_norm ?_ | refine seqQ_ret ?_ | refine seqQ_exit ?_ | refine blkQ_norm ?_ | refine blkQ_ret ?_ | refine blkQ_here ?_ | refine gateK_yes ?_ | refine gateK_none ?_ | refine condK_tt ?_ | refine condK_ff ?_ | refine roundQ_exit ?_ | refine roundQ_ret ?_)
  | refine WC_region ?_ | refine blkQ_out rfl ?_ | refine WO_nil ?_ | refine WD_nil ?_
  | ((first | refine WD_gate rfl rfl rfl rfl rfl fun K_ hK_ => ?_ | refine WO_gate rfl rfl rfl rfl rfl fun K_ hK_ => ?_); simp only [upd_apply, asB_bool, asB_tup, ↓reduceIte, reduceCtorEq, Nat.reduceEqDiff, Bool.not_true, Bool.not_false]; refine hK_ _ ?_; clear hK_ K_)
  | refine gateK_no (by decide) ?_
  | ((try first | refine WO_op rfl rfl rfl ?_ | refine WO_op0 rfl rfl ?_ | refine WD_op rfl rfl rfl ?_ | refine WD_op0 rfl rfl ?_); (refine WV_gen fun Q_ hQ_ => ?_; simp (disch := first | omega | (simp only [List.length_cons, List.length_nil, List.length_append]; omega)) only [bb, bp, argF, ↓reduceIte, reduceCtorEq, Nat.reduceEqDiff, Nat.reduceLT, Nat.reduceLeDiff, Nat.reduceAdd, Nat.reduceMul, Nat.reduceSub, Nat.reduceBEq, Int.reduceToNat, cond_true, cond_false, eq_self, beq_self_eq_true, hfi, hwk, hlenb, conv5, hwr, b_rem (show (3 : Int) ≠ 0 by decide), ← hwm, hG, h15, h16, h17, h18, newPtr_X wf, load1_X wf, loadAgg_X wf, store1_X wf, writeCells_X wf, makeFunc_def, tEvN5]; first | (refine dec_split (Q := Q_) (fun hp_ => ?_) (fun hp_ => ?_) <;> first | (exfalso; omega) | (refine hQ_ _ _ ?_; clear hQ_ Q_)) | (refine dec_splitn (Q := Q_) (fun hp_ => ?_) (fun hp_ => ?_) <;> first | (exfalso; omega) | (refine hQ_ _ _ ?_; clear hQ_ Q_)) | (refine hQ_ _ _ ?_; clear hQ_ Q_)))
  | (refine WC_cond fun K_ hK_ => ?_; simp (disch := omega) only [evT_tmp, upd_apply, WB_some, ↓reduceIte, reduceCtorEq, Nat.reduceEqDiff, Nat.reduceLT]; refine hK_ _ ?_; clear hK_ K_)))
        refine WC_drawnB [.full, .full, .full, .full, .full, .full, .full, .full, .full, .full, .full, .full, .full, .full, .full, .full, .full, .full, .full, .full, .full, .full, .full, .full, .full, .full, .full, .full, .full, .full, .full, .full, .full, .full, .full, .full, .full, .no, .no, .no, .no, .no, .no, .no, .no, .no, .no, .no, .no, .no, .no, .full, .full, .full, .no, .no, .no, .no, .no, .no, .no, .no, .no, .no, .no, .no, .no, .no, .full, .full, .full, .no, .no, .full, .full, .full] (by kernel_rfl) ?_
        (repeat' (first
  | (with_reducible first | refine WC_seq ?_ | refine WC_skip ?_ | refine WC_label ?_ | refine WC_scope ?_ | refine WC_block ?_ | refine WC_ret ?_ | refine WC_exit ?_ | refine seqQ_norm ?_ | refine seqQ_ret ?_ | refine seqQ_exit ?_ | refine blkQ_norm ?_ | refine blkQ_ret ?_ | refine blkQ_here ?_ | refine gateK_yes ?_ | refine gateK_none ?_ | refine condK_tt ?_ | refine condK_ff ?_ | refine roundQ_exit ?_ | refine roundQ_ret ?_)
  | refine WC_region ?_ | refine blkQ_out rfl ?_ | refine WO_nil ?_ | refine WD_nil ?_
  | ((first | refine WD_gate rfl rfl rfl rfl rfl fun K_ hK_ => ?_ | refine WO_gate rfl rfl rfl rfl rfl fun K_ hK_ => ?_); simp only [upd_apply, asB_bool, asB_tup, ↓reduceIte, reduceCtorEq, Nat.reduceEqDiff, Bool.not_true, Bool.not_false]; refine hK_ _ ?_; clear hK_ K_)
  | refine gateK_no (by decide) ?_
  | ((try first | refine WO_op rfl rfl rfl ?_ | refine WO_op0 rfl rfl ?_ | refine WD_op rfl rfl rfl ?_ | refine WD_op0 rfl rfl ?_); (refine WV_gen fun Q_ hQ_ => ?_; simp (disch := first | omega | (simp only [List.length_cons, List.length_nil, List.length_append]; omega)) only [bb, bp, argF, ↓reduceIte, reduceCtorEq, Nat.reduceEqDiff, Nat.reduceLT, Nat.reduceLeDiff, Nat.reduceAdd, Nat.reduceMul, Nat.reduceSub, Nat.reduceBEq, Int.reduceToNat, cond_true, cond_false, eq_self, beq_self_eq_true, hwk, b_quo z1, b_quo z2, b_quo z3, t1, t2, t3, hin, h20, hb, newPtr_X wf, load1_X wf, loadAgg_X wf, store1_X wf, writeCells_X wf, makeFunc_def, tEvN5]; first | (refine dec_split (Q := Q_) (fun hp_ => ?_) (fun hp_ => ?_) <;> first | (exfalso; omega) | (refine hQ_ _ _ ?_; clear hQ_ Q_)) | (refine dec_splitn (Q := Q_) (fun hp_ => ?_) (fun hp_ => ?_) <;> first | (exfalso; omega) | (refine hQ_ _ _ ?_; clear hQ_ Q_)) | (refine hQ_ _ _ ?_; clear hQ_ Q_)))
  | (refine WC_cond fun K_ hK_ => ?_; simp (disch := omega) only [evT_tmp, upd_apply, WB_some, ↓reduceIte, reduceCtorEq, Nat.reduceEqDiff, Nat.reduceLT]; refine hK_ _ ?_; clear hK_ K_)))
        all_goals (refine endQ_ret _ _ rfl (ret1 (by decide)) ?_; simp only [upd_apply, ↓reduceIte, reduceCtorEq, Nat.reduceEqDiff]; refine WV_flat rfl (by omega) ?_)
        all_goals exact ⟨rfl, rfl⟩
      | true =>
        have topX := topI hb
        have lowX := lowI hb
        clear topI lowI
        have hbi := isBnd_in hb
        have hlt : ∀ l w, w ≤ h.clock + l.length → (om Try.prog KK).call (.fn 21 [.agg [ii N, ii D], .agg [ii xN, ii xD]]) (X h l w) = .ok (.bool (decide (N * xD < xN * D))) (X h l w) := fun l w hw => lessR N D xN xD hbi (isBnd_in nx0) _ (wf.X hw)
        have hlu : ∀ l w, w ≤ h.clock + l.length → (om Try.prog KK).call (.fn 21 [.agg [ii xN, ii xD], .agg [ii N, ii D]]) (X h l w) = .ok (.bool (decide (xN * D < N * xD))) (X h l w) := fun l w hw => lessR xN xD N D (isBnd_in nx0) hbi _ (wf.X hw)
        obtain ⟨ov, hov⟩ : ∃ ov, bndErr sp st rows what N D true = ov := ⟨_, rfl⟩
        obtain ⟨un, hun⟩ : ∃ un, bndErr sp st rows what N D false = un := ⟨_, rfl⟩
        rw [hov] at topX
        rw [hun] at lowX
        (repeat' (first
  | (with_reducible first | refine WC_seq ?_ | refine WC_skip ?_ | refine WC_label ?_ | refine WC_scope ?_ | refine WC_block ?_ | refine WC_ret ?_ | refine WC_exit ?_ | refine seqQ_norm ?_ | refine seqQ_ret ?_ | refine seqQ_exit ?_ | refine blkQ_norm ?_ | refine blkQ_ret ?_ | refine blkQ_here ?_ | refine gateK_yes ?_ | refine gateK_none ?_ | refine condK_tt ?_ | refine condK_ff ?_ | refine roundQ_exit ?_ | refine roundQ_ret ?_)
  | refine WC_region ?_ | refine blkQ_out rfl ?_ | refine WO_nil ?_ | refine WD_nil ?_
  | ((first | refine WD_gate rfl rfl rfl rfl rfl fun K_ hK_ => ?_ | refine WO_gate rfl rfl rfl rfl rfl fun K_ hK_ => ?_); simp only [upd_apply, asB_bool, asB_tup, ↓reduceIte, reduceCtorEq, Nat.reduceEqDiff, Bool.not_true, Bool.not_false]; refine hK_ _ ?_; clear hK_ K_)
  | refine gateK_no (by decide) ?_
  | ((try first | refine WO_op rfl rfl rfl ?_ | refine WO_op0 rfl rfl ?_ | refine WD_op rfl rfl rfl ?_ | refine WD_op0 rfl rfl ?_); (refine WV_gen fun Q_ hQ_ => ?_; simp (disch := first | omega | (simp only [List.length_cons, List.length_nil, List.length_append]; omega)) only [bb, bp, argF, ↓reduceIte, reduceCtorEq, Nat.reduceEqDiff, Nat.reduceLT, Nat.reduceLeDiff, Nat.reduceAdd, Nat.reduceMul, Nat.reduceSub, Nat.reduceBEq, Int.reduceToNat, cond_true, cond_false, eq_self, beq_self_eq_true, hfi, hwk, hlenb, conv5, hwr, b_rem (show (3 : Int) ≠ 0 by decide), ← hwm, hG, h15, h16, h17, h18, newPtr_X wf, load1_X wf, loadAgg_X wf, store1_X wf, writeCells_X wf, makeFunc_def, tEvN5]; first | (refine dec_split (Q := Q_) (fun hp_ => ?_) (fun hp_ => ?_) <;> first | (exfalso; omega) | (refine hQ_ _ _ ?_; clear hQ_ Q_)) | (refine dec_splitn (Q := Q_) (fun hp_ => ?_) (fun hp_ => ?_) <;> first | (exfalso; omega) | (refine hQ_ _ _ ?_; clear hQ_ Q_)) | (refine hQ_ _ _ ?_; clear hQ_ Q_)))
  | (refine WC_cond fun K_ hK_ => ?_; simp (disch := omega) only [evT_tmp, upd_apply, WB_some, ↓reduceIte, reduceCtorEq, Nat.reduceEqDiff, Nat.reduceLT]; refine hK_ _ ?_; clear hK_ K_)))
        refine WC_drawnB [.full, .full, .full, .full, .full, .full, .full, .full, .full, .full, .full, .full, .full, .full, .full, .full, .full, .full, .full, .full, .full, .full, .full, .full, .full, .full, .full, .full, .full, .full, .full, .full, .full, .full, .full, .full, .full, .no, .no, .no, .no, .no, .no, .no, .no, .no, .no, .no, .no, .no, .no, .full, .full, .full, .no, .no, .no, .no, .no, .no, .no, .no, .no, .no, .no, .no, .no, .no, .full, .full, .full, .no, .no, .full, .full, .full] (by kernel_rfl) ?_
        (repeat' (first
  | (with_reducible first | refine WC_seq ?_ | refine WC_skip ?_ | refine WC_label ?_ | refine WC_scope ?_ | refine WC_block ?_ | refine WC_ret ?_ | refine WC_exit ?_ | refine seqQ_norm ?_ | refine seqQ_ret ?_ | refine seqQ_exit ?_ | refine blkQ_norm ?_ | refine blkQ_ret ?_ | refine blkQ_here ?_ | refine gateK_yes ?_ | refine gateK_none ?_ | refine condK_tt ?_ | refine condK_ff ?_ | refine roundQ_exit ?_ | refine roundQ_ret ?_)
  | refine WC_region ?_ | refine blkQ_out rfl ?_ | refine WO_nil ?_ | refine WD_nil ?_
  | ((first | refine WD_gate rfl rfl rfl rfl rfl fun K_ hK_ => ?_ | refine WO_gate rfl rfl rfl rfl rfl fun K_ hK_ => ?_); simp only [upd_apply, asB_bool, asB_tup, ↓reduceIte, reduceCtorEq, Nat.reduceEqDiff, Bool.not_true, Bool.not_false]; refine hK_ _ ?_; clear hK_ K_)
  | refine gateK_no (by decide) ?_
  | ((try first | refine WO_op rfl rfl rfl ?_ | refine WO_op0 rfl rfl ?_ | refine WD_op rfl rfl rfl ?_ | refine WD_op0 rfl rfl ?_); (refine WV_gen fun Q_ hQ_ => ?_; simp (disch := first | omega | (simp only [List.length_cons, List.length_nil, List.length_append]; omega)) only [bb, bp, argF, ↓reduceIte, reduceCtorEq, Nat.reduceEqDiff, Nat.reduceLT, Nat.reduceLeDiff, Nat.reduceAdd, Nat.reduceMul, Nat.reduceSub, Nat.reduceBEq, Int.reduceToNat, cond_true, cond_false, eq_self, beq_self_eq_true, hwk, b_quo z1, b_quo z2, b_quo z3, t1, t2, t3, hin, h20, hb, newPtr_X wf, load1_X wf, loadAgg_X wf, store1_X wf, writeCells_X wf, makeFunc_def, tEvN5]; first | (refine dec_split (Q := Q_) (fun hp_ => ?_) (fun hp_ => ?_) <;> first | (exfalso; omega) | (refine hQ_ _ _ ?_; clear hQ_ Q_)) | (refine dec_splitn (Q := Q_) (fun hp_ => ?_) (fun hp_ => ?_) <;> first | (exfalso; omega) | (refine hQ_ _ _ ?_; clear hQ_ Q_)) | (refine hQ_ _ _ ?_; clear hQ_ Q_)))
  | (refine WC_cond fun K_ hK_ => ?_; simp (disch := omega) only [evT_tmp, upd_apply, WB_some, ↓reduceIte, reduceCtorEq, Nat.reduceEqDiff, Nat.reduceLT]; refine hK_ _ ?_; clear hK_ K_)))
        refine WC_drawnB [.no, .no, .no, .no, .no, .no, .no, .full, .full, .full] (by kernel_rfl) ?_
        (repeat' (first
  | (with_reducible first | refine WC_seq ?_ | refine WC_skip ?_ | refine WC_label ?_ | refine WC_scope ?_ | refine WC_block ?_ | refine WC_ret ?_ | refine WC_exit ?_ | refine seqQ_norm ?_ | refine seqQ_ret ?_ | refine seqQ_exit ?_ | refine blkQ_norm ?_ | refine blkQ_ret ?_ | refine blkQ_here ?_ | refine gateK_yes ?_ | refine gateK_none ?_ | refine condK_tt ?_ | refine condK_ff ?_ | refine roundQ_exit ?_ | refine roundQ_ret ?_)
  | refine WC_region ?_ | refine blkQ_out rfl ?_ | refine WO_nil ?_ | refine WD_nil ?_
  | ((first | refine WD_gate rfl rfl rfl rfl rfl fun K_ hK_ => ?_ | refine WO_gate rfl rfl rfl rfl rfl fun K_ hK_ => ?_); simp only [upd_apply, asB_bool, asB_tup, ↓reduceIte, reduceCtorEq, Nat.reduceEqDiff, Bool.not_true, Bool.not_false]; refine hK_ _ ?_; clear hK_ K_)
  | refine gateK_no (by decide) ?_
  | ((try first | refine WO_op rfl rfl rfl ?_ | refine WO_op0 rfl rfl ?_ | refine WD_op rfl rfl rfl ?_ | refine WD_op0 rfl rfl ?_); (refine WV_gen fun Q_ hQ_ => ?_; simp (disch := first | omega | (simp only [List.length_cons, List.length_nil, List.length_append]; omega)) only [bb, bp, argF, ↓reduceIte, reduceCtorEq, Nat.reduceEqDiff, Nat.reduceLT, Nat.reduceLeDiff, Nat.reduceAdd, Nat.reduceMul, Nat.reduceSub, Nat.reduceBEq, Int.reduceToNat, cond_true, cond_false, eq_self, beq_self_eq_true, h11, hov, hun, hlt, hlu, hwk, newPtr_X wf, load1_X wf, loadAgg_X wf, store1_X wf, writeCells_X wf, makeFunc_def, tEvN5]; first | (refine dec_split (Q := Q_) (fun hp_ => ?_) (fun hp_ => ?_) <;> first | (exfalso; omega) | (refine hQ_ _ _ ?_; clear hQ_ Q_)) | (refine dec_splitn (Q := Q_) (fun hp_ => ?_) (fun hp_ => ?_) <;> first | (exfalso; omega) | (refine hQ_ _ _ ?_; clear hQ_ Q_)) | (refine hQ_ _ _ ?_; clear hQ_ Q_)))
  | (refine WC_cond fun K_ hK_ => ?_; simp (disch := omega) only [evT_tmp, upd_apply, WB_some, ↓reduceIte, reduceCtorEq, Nat.reduceEqDiff, Nat.reduceLT]; refine hK_ _ ?_; clear hK_ K_)))
        all_goals (refine endQ_ret _ _ rfl (ret1 (by decide)) ?_; simp only [upd_apply, ↓reduceIte, reduceCtorEq, Nat.reduceEqDiff]; refine WV_flat rfl (by omega) ?_)
        all_goals exact ⟨rfl, rfl⟩
    · (repeat' (first
  | (with_reducible first | refine WC_seq ?_ | refine WC_skip ?_ | refine WC_label ?_ | refine WC_scope ?_ | refine WC_block ?_ | refine WC_ret ?_ | refine WC_exit ?_ | refine seqQ_norm ?_ | refine seqQ_ret ?_ | refine seqQ_exit ?_ | refine blkQ_norm ?_ | refine blkQ_ret ?_ | refine blkQ_here ?_ | refine gateK_yes ?_ | refine gateK_none ?_ | refine condK_tt ?_ | refine condK_ff ?_ | refine roundQ_exit ?_ | refine roundQ_ret ?_)
  | refine WC_region ?_ | refine blkQ_out rfl ?_ | refine WO_nil ?_ | refine WD_nil ?_
  | ((first | refine WD_gate rfl rfl rfl rfl rfl fun K_ hK_ => ?_ | refine WO_gate rfl rfl rfl rfl rfl fun K_ hK_ => ?_); simp only [upd_apply, asB_bool, asB_tup, ↓reduceIte, reduceCtorEq, Nat.reduceEqDiff, Bool.not_true, Bool.not_false]; refine hK_ _ ?_; clear hK_ K_)
  | refine gateK_no (by decide) ?_
  | ((try first | refine WO_op rfl rfl rfl ?_ | refine WO_op0 rfl rfl ?_ | refine WD_op rfl rfl rfl ?_ | refine WD_op0 rfl rfl ?_); (refine WV_gen fun Q_ hQ_ => ?_; simp (disch := first | omega | (simp only [List.length_cons, List.length_nil, List.length_append]; omega)) only [bb, bp, argF, ↓reduceIte, reduceCtorEq, Nat.reduceEqDiff, Nat.reduceLT, Nat.reduceLeDiff, Nat.reduceAdd, Nat.reduceMul, Nat.reduceSub, Nat.reduceBEq, Int.reduceToNat, cond_true, cond_false, eq_self, beq_self_eq_true, hfi, hwk, hlenb, newPtr_X wf, load1_X wf, loadAgg_X wf, store1_X wf, writeCells_X wf, makeFunc_def, tEvN5]; first | (refine dec_split (Q := Q_) (fun hp_ => ?_) (fun hp_ => ?_) <;> first | (exfalso; omega) | (refine hQ_ _ _ ?_; clear hQ_ Q_)) | (refine dec_splitn (Q := Q_) (fun hp_ => ?_) (fun hp_ => ?_) <;> first | (exfalso; omega) | (refine hQ_ _ _ ?_; clear hQ_ Q_)) | (refine hQ_ _ _ ?_; clear hQ_ Q_)))
  | (refine WC_cond fun K_ hK_ => ?_; simp (disch := omega) only [evT_tmp, upd_apply, WB_some, ↓reduceIte, reduceCtorEq, Nat.reduceEqDiff, Nat.reduceLT]; refine hK_ _ ?_; clear hK_ K_)))
      (refine endQ_ret _ _ rfl (ret1 (by decide)) ?_; simp only [upd_apply, ↓reduceIte, reduceCtorEq, Nat.reduceEqDiff]; refine WV_flat rfl (by omega) ?_)
      exact ⟨rfl, rfl⟩
end Go.Proofs.Ytghondkiondeaac
end

/- EvL18 -/
section
/-
  BYTES THAT COME IN.
-/
namespace Go.Ev
open Go.ChangeShapes Go.WideShapes Go.ChangeAt Go.RowKit
section
variable {H : Type} {enc : TypeId × Value → H} {P : Program} {r : Reach} {bs : Nat}
theorem open_u8s {W : World} {t e : TypeId} {v : Value} {fuel : Nat} {x : DataW H × List MemPlace} (hu : P.underlying t = some (.slice e)) (he : P.underlying e = some (.int .u8)) (hc : P.cellsOf e = 1)
    (hval : Cell.okWide P W r bs t v) (h : DataW.trod enc P W 0 (fun _ => true) true fuel t [v] = some x) :
    ∃ (xs : List Int) (b : AV), VR (startWR W) b v ∧ Sl (startW W) b 1 xs.length (xs.map fun n => .int .u8 n) ∧ ∀ n ∈ xs, 0 ≤ n ∧ n ≤ 255 := by
  rcases slice_form hu hval with rfl | ⟨b, off, len, cap, rfl, hlc, hex⟩
  · exact ⟨[], .nils, .nils, Sl.nil _ _, fun n hn => by cases hn⟩
  · rcases open_ints hu he hc h with ⟨h0, _⟩ | ⟨a, len', cap', zs, h0, _, _, _, hz, _, hcell, hwf⟩
    · cases h0
    · cases h0
      simp only [if_true] at hz
      have hlen : (zs.take len).length = len := by rw [List.length_take]; omega
      refine ⟨zs.take len, .sl (posN b) off len (some cap) 0, startW_arg (lt_of_block hex) hlc, ?_, fun n hn => ?_⟩
      · rw [hlen]
        refine startW_sl hex (by rw [List.length_map, hlen]; omega) (fun k hk => ⟨.int .u8 (zs.getD k 0), ?_, ?_⟩)
        · rw [← add_at]; exact hcell k (by omega)
        · rw [show absV (NW W) (.int .u8 (zs.getD k 0)) = some (.int .u8 (zs.getD k 0)) from rfl, List.getElem?_map, List.getElem?_take_of_lt (by omega), List.getElem?_eq_getElem (by omega)]
          simp [show k < zs.length by omega]
      · have := hwf n (List.mem_of_mem_take hn)
        unfold Lit.wf at this
        rw [Bool.and_eq_true] at this
        exact ⟨of_decide_eq_true this.1, of_decide_eq_true this.2⟩
end
end Go.Ev
end

/- EvP2 -/
section
/- The statement BoxBoxed of layer 2, the stage's theorem: whatever the true hull is, its volume and its numbers are in the spans, and no bound that is accepted is passed, for all hulls, kinds, numbers and bounds; no condition. -/
namespace Go.Proofs.Ytghondkiondeaac.boxBoxed
open Go.ChangeShapes Go.WideShapes Go.ChangeAt Go.RowKit Go.Ev
set_option maxRecDepth 100000
set_option maxHeartbeats 0
theorem cells5 : Try.prog.cellsOf 5 = 1 := by kernel_rfl
theorem cells26 : Try.prog.cellsOf 26 = 2 := by kernel_rfl
theorem types26 : Try.prog.cellTypes Try.prog.depth 26 = some [2, 2] := by kernel_rfl

theorem okWideU8 {W : World} {t : TypeId} {v : Value} {r : Reach} {bs : Nat} (hu : Try.prog.underlying t = some (.int .u8)) (h : Cell.okWide Try.prog W r bs t v) : ∃ n, v = .int .u8 n ∧ 0 ≤ n ∧ n ≤ 255 := by
  unfold Cell.okWide at h
  rw [hu] at h
  have h' : Cell.ok Try.prog W r bs t v := by cases v <;> exact h
  unfold Cell.ok at h'
  rw [hu] at h'
  cases v with
  | int k' n =>
    obtain ⟨rfl, h1, h2⟩ := h'
    exact ⟨n, rfl, h1, h2⟩
  | _ => exact h'.elim

theorem contract (H : Type) (enc : TypeId × Value → H) (W : World) (base : Nat) (args : Array Value) (ds gs : List (DataW H)) (before : List MemPlace) (hval : ∀ (j : Nat) t v, Try.f4.params[j]? = some t → args[j]? = some v → Value.okWide Try.prog W .any base t v)
    (hW : DataW.Whole enc Try.prog Try.f4.params.toList Rows.boxBoxedSpec.vars false W args.toList ds gs before) :
    Calls Try.prog 4 args W fun e W' => ∃ v, e = .returned v ∧ Rows.boxBoxedSpec.post enc Try.prog Try.f4 false true false false W args v W' := by
  have hW' := hW
  obtain ⟨p, q, hA0, hV, rfl, hfz, hnd⟩ := hW
  have hA : DataW.TrodAll enc Try.prog W 0 (fun _ => true) true Try.f4.params.toList args.toList ds p := hA0
  rw [Try.params4] at hA hval
  obtain ⟨v0, v1, v2, v3, d0, d1, d2, d3, p0, p1, p2, p3, rfl, rfl, rfl, ⟨n0, h0⟩, ⟨n1, h1⟩, ⟨n2, h2⟩, ⟨n3, h3⟩⟩ := trodAll_four hA
  obtain ⟨sp, st, a, rvs, rows, va, xh⟩ := hull_in (hval 0 24 v0 rfl rfl) h0
  obtain ⟨what, hz, hw0⟩ := okWideU8 Try.underlying5 (okWide_cell (P := Try.prog) Try.underlying5 (fun _ e => by cases e) (fun _ _ e => by cases e) (hval 1 5 v1 rfl rfl))
  subst hz
  have kb := okWide_cell (P := Try.prog) Try.underlying32 (fun _ e => by cases e) (fun _ _ e => by cases e) (hval 2 32 v2 rfl rfl)
  rw [slice_cells Try.underlying32 kb] at h2
  obtain ⟨bys, b, vb, sb, hby⟩ := open_u8s Try.underlying32 Try.underlying5 cells5 kb h2
  obtain ⟨f0, f1, hu, o0, o1, t0, t1, _, _⟩ := under29
  obtain ⟨u, w, n, y1, y2, rfl, k0, k1, r0, r1⟩ := open_two hu cells26 o0 o1 t0 t1 cells2 cells2 types26 (hval 3 26 v3 rfl rfl) h3
  obtain ⟨N, hN⟩ := okWideInt Try.underlying2 k0
  subst hN
  obtain ⟨D, hD⟩ := okWideInt Try.underlying2 k1
  subst hD
  have walk := lawBoxed sp st what N D hw0 a b rvs rows bys hby (startW W) xh sb
  have hargs : VL (startWR W) [.agg [ii sp, ii st, a], .int .u8 what, b, .agg [ii N, ii D]] (#[v0, .int .u8 what, v2, .agg #[.int .i64 N, .int .i64 D]] : Array Value).toList :=
    .cons _ _ _ _ va (.cons _ _ _ _ (.int _ _) (.cons _ _ _ _ vb (.cons _ _ _ _ (.agg _ _ (.cons _ _ _ _ (.int _ _) (.cons _ _ _ _ (.int _ _) .nil))) .nil)))
  refine (startW_true (P := Try.prog) mixed (K := KK) (fun c hc => by
    have : c = cW := List.mem_singleton.1 hc
    rw [this]; exact cW_ok) walk hargs).mono fun e W' ⟨he, hgr, hs⟩ => ?_
  subst he
  refine ⟨_, rfl, law_post laidOut (by
    rw [Try.params4]
    intro t ht
    rcases List.mem_cons.1 ht with rfl | ht
    · exact ⟨by kernel_rfl, of_decide_eq_true (by kernel_rfl)⟩
    rcases List.mem_cons.1 ht with rfl | ht
    · exact ⟨by kernel_rfl, of_decide_eq_true (by kernel_rfl)⟩
    rcases List.mem_cons.1 ht with rfl | ht
    · exact ⟨by kernel_rfl, of_decide_eq_true (by kernel_rfl)⟩
    rcases List.mem_cons.1 ht with rfl | ht
    · exact ⟨by kernel_rfl, of_decide_eq_true (by kernel_rfl)⟩
    cases ht) rfl (by kernel_rfl) Try.underlying4 (fun gs' ⟨q', hq⟩ => ?_) hW' hgr hs⟩
  obtain ⟨rfl, _⟩ := trodVars_none hq
  exact ⟨rfl, rfl, rfl⟩

theorem lifted (os : Os) (started : os.Started) (H : Type) (enc : TypeId × Value → H) :
    ReturnsInHanded {} Try.checked os 4 .any (Rows.boxBoxedSpec.pre6 enc Try.prog Try.f4 Rows.boxBoxedRow.domain false) (Rows.boxBoxedSpec.post enc Try.prog Try.f4 false true false false) := by
  refine returnsInHanded_of_change (C := Try.checked) own started (by kernel_rfl) Try.func4
    (ChangeSpec.witness6 (enc := enc) (C := Try.checked) false ⟨#[], #[.agg #[.int .i64 0, .int .i64 0, .slice none 0 0], .int .u8 0, .slice none 0 0, .agg #[.int .i64 0, .int .i64 0]], []⟩ 8 (by kernel_rfl) (by kernel_rfl) (by kernel_rfl) (by kernel_rfl)) ?_
  intro W base args ds gs before hval hW _ _
  exact contract H enc W base args ds gs before hval hW

theorem holds : Rows.BoxBoxedSaid :=
  OpenClaim.holds_of_wide 4 Try.f4 rfl rfl rfl rfl rfl rfl rfl ⟨rfl, rfl, rfl, rfl, rfl⟩ rfl rfl rfl rfl rfl (by kernel_rfl) Try.func4 (by kernel_rfl)
    (of_decide_eq_true (by kernel_rfl)) (by unfold Func.isWrapper; first | (rw [if_pos (by decide +kernel)]; kernel_rfl) | (rw [if_neg (by decide +kernel)]; exact ⟨rfl, rfl⟩))
    (fun os started H enc _ => lifted os started H enc)
end Go.Proofs.Ytghondkiondeaac.boxBoxed
end
