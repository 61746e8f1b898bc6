/- The statement BoxAttained of layer 2: the hulls of End are true and have just the ends of Span, and a bound is accepted just if it is not nearer than the end, for all hulls, kinds and bounds; no condition. -/
import Derived.Test.YtghondkiondeaacAttM6
/- EvK4 -/
section
/-
  LAYER 2, THE REFERENCE: bounds.
-/
namespace Go.Proofs.Ytghondkiondeaac
open Go.Ev
set_option maxRecDepth 100000
set_option linter.unusedSimpArgs false
set_option linter.unusedVariables false
set_option maxHeartbeats 4000000

theorem tEvK4 : type_of% (And.intro (And.intro (And.intro (And.intro (And.intro (@ia_2) (@sz_2)) (And.intro (@ze_2) (@ia_3))) (And.intro (And.intro (@sz_3) (@ia_4)) (And.intro (@sz_4) (@ia_24)))) (And.intro (And.intro (And.intro (@sz_24) (@ia_22)) (And.intro (@sz_22) (@ia_52))) (And.intro (And.intro (@sz_52) (@ia_55)) (And.intro (@sz_55) (@ia_26))))) (And.intro (And.intro (And.intro (And.intro (@sz_26) (@ze_26)) (And.intro (@fo_24_0) (@fo_24_1))) (And.intro (And.intro (@fo_24_2) (@fo_26_0)) (And.intro (@fo_26_1) (@fo_55_0)))) (And.intro (And.intro (And.intro (@fo_55_1) (@ik_22)) (And.intro (@ik_52) (@pb_12))) (And.intro (And.intro (@pb_20) (@pb_24)) (And.intro (@pb_31) (And.intro (@pb_32) (@pb_51))))))) := And.intro (And.intro (And.intro (And.intro (And.intro (@ia_2) (@sz_2)) (And.intro (@ze_2) (@ia_3))) (And.intro (And.intro (@sz_3) (@ia_4)) (And.intro (@sz_4) (@ia_24)))) (And.intro (And.intro (And.intro (@sz_24) (@ia_22)) (And.intro (@sz_22) (@ia_52))) (And.intro (And.intro (@sz_52) (@ia_55)) (And.intro (@sz_55) (@ia_26))))) (And.intro (And.intro (And.intro (And.intro (@sz_26) (@ze_26)) (And.intro (@fo_24_0) (@fo_24_1))) (And.intro (And.intro (@fo_24_2) (@fo_26_0)) (And.intro (@fo_26_1) (@fo_55_0)))) (And.intro (And.intro (And.intro (@fo_55_1) (@ik_22)) (And.intro (@ik_52) (@pb_12))) (And.intro (And.intro (@pb_20) (@pb_24)) (And.intro (@pb_31) (And.intro (@pb_32) (@pb_51))))))
theorem isBoundR (N D : Int) (h : H) (wf : Wf h) : (om Try.prog KK).call (.fn 20 [.agg [ii N, ii D]]) h = .ok (.bool (isBnd N D)) h := by
  refine WV_to (WV_call (fn := Try.f20) Try.func20 rfl rfl rfl rfl rfl ?_)
  simp only [argF]
  have heq : ∀ x y, binE Try.prog .eql 26 x y (frac N D) (.agg [ii N, ii D]) = some (.bool (N / (Int.gcd N D : Int) == N && D / (Int.gcd N D : Int) == D)) := fun x y => eqQ
  have hsy : (N / (Int.gcd N D : Int) == N && D / (Int.gcd N D : Int) == D) = (N == N / (Int.gcd N D : Int) && D == D / (Int.gcd N D : Int)) := by rw [Bool.beq_comm, Bool.beq_comm (a := D / _)]
  rw [hsy] at heq
  by_cases hb : bndIn N D
  · have hb' := hb
    unfold bndIn at hb'
    have hfr : ∀ l w, w ≤ h.clock + l.length → (om Try.prog KK).call (.fn 24 [ii N, ii D]) (X h l w) = .ok (frac N D) (X h l w) := fun l w hw => fractionR N D ⟨hb'.1.1, by omega⟩ ⟨by omega, by omega⟩ _ (wf.X hw)
    (repeat' (first
  | (with_reducible first | refine WC_seq ?_ | refine WC_skip ?_ | refine WC_label ?_ | refine WC_scope ?_ | refine WC_block ?_ | refine WC_ret ?_ | refine WC_exit ?_ | refine seqQ_norm ?_ | refine seqQ_ret ?_ | refine seqQ_exit ?_ | refine blkQ_norm ?_ | refine blkQ_ret ?_ | refine blkQ_here ?_ | refine gateK_yes ?_ | refine gateK_none ?_ | refine condK_tt ?_ | refine condK_ff ?_ | refine roundQ_exit ?_ | refine roundQ_ret ?_)
  | refine WC_region ?_ | refine blkQ_out rfl ?_ | refine WO_nil ?_ | refine WD_nil ?_
  | ((first | refine WD_gate rfl rfl rfl rfl rfl fun K_ hK_ => ?_ | refine WO_gate rfl rfl rfl rfl rfl fun K_ hK_ => ?_); simp only [upd_apply, asB_bool, asB_tup, ↓reduceIte, reduceCtorEq, Nat.reduceEqDiff, Bool.not_true, Bool.not_false]; refine hK_ _ ?_; clear hK_ K_)
  | refine gateK_no (by decide) ?_
  | ((try first | refine WO_op rfl rfl rfl ?_ | refine WO_op0 rfl rfl ?_ | refine WD_op rfl rfl rfl ?_ | refine WD_op0 rfl rfl ?_); (refine WV_gen fun Q_ hQ_ => ?_; simp (disch := first | omega | (simp only [List.length_cons, List.length_nil, List.length_append]; omega)) only [bb, bp, argF, ↓reduceIte, reduceCtorEq, Nat.reduceEqDiff, Nat.reduceLT, Nat.reduceLeDiff, Nat.reduceAdd, Nat.reduceMul, Nat.reduceSub, Nat.reduceBEq, Int.reduceToNat, cond_true, cond_false, eq_self, beq_self_eq_true, newPtr_X wf, load1_X wf, loadAgg_X wf, store1_X wf, writeCells_X wf, makeFunc_def, tEvK4]; first | (refine dec_split (Q := Q_) (fun hp_ => ?_) (fun hp_ => ?_) <;> first | (exfalso; omega) | (refine hQ_ _ _ ?_; clear hQ_ Q_)) | (refine dec_splitn (Q := Q_) (fun hp_ => ?_) (fun hp_ => ?_) <;> first | (exfalso; omega) | (refine hQ_ _ _ ?_; clear hQ_ Q_)) | (refine hQ_ _ _ ?_; clear hQ_ Q_)))
  | (refine WC_cond fun K_ hK_ => ?_; simp (disch := omega) only [evT_tmp, upd_apply, WB_some, ↓reduceIte, reduceCtorEq, Nat.reduceEqDiff, Nat.reduceLT]; refine hK_ _ ?_; clear hK_ K_)))
    refine WC_drawnB [.full, .full, .full, .full, .full, .full, .full, .full, .full, .full, .full, .full, .full, .full, .full, .full, .full, .full, .full, .no, .no, .no, .no, .no, .no, .full, .full, .full] (by kernel_rfl) ?_
    (repeat' (first
  | (with_reducible first | refine WC_seq ?_ | refine WC_skip ?_ | refine WC_label ?_ | refine WC_scope ?_ | refine WC_block ?_ | refine WC_ret ?_ | refine WC_exit ?_ | refine seqQ_norm ?_ | refine seqQ_ret ?_ | refine seqQ_exit ?_ | refine blkQ_norm ?_ | refine blkQ_ret ?_ | refine blkQ_here ?_ | refine gateK_yes ?_ | refine gateK_none ?_ | refine condK_tt ?_ | refine condK_ff ?_ | refine roundQ_exit ?_ | refine roundQ_ret ?_)
  | refine WC_region ?_ | refine blkQ_out rfl ?_ | refine WO_nil ?_ | refine WD_nil ?_
  | ((first | refine WD_gate rfl rfl rfl rfl rfl fun K_ hK_ => ?_ | refine WO_gate rfl rfl rfl rfl rfl fun K_ hK_ => ?_); simp only [upd_apply, asB_bool, asB_tup, ↓reduceIte, reduceCtorEq, Nat.reduceEqDiff, Bool.not_true, Bool.not_false]; refine hK_ _ ?_; clear hK_ K_)
  | refine gateK_no (by decide) ?_
  | ((try first | refine WO_op rfl rfl rfl ?_ | refine WO_op0 rfl rfl ?_ | refine WD_op rfl rfl rfl ?_ | refine WD_op0 rfl rfl ?_); (refine WV_gen fun Q_ hQ_ => ?_; simp (disch := first | omega | (simp only [List.length_cons, List.length_nil, List.length_append]; omega)) only [bb, bp, argF, ↓reduceIte, reduceCtorEq, Nat.reduceEqDiff, Nat.reduceLT, Nat.reduceLeDiff, Nat.reduceAdd, Nat.reduceMul, Nat.reduceSub, Nat.reduceBEq, Int.reduceToNat, cond_true, cond_false, eq_self, beq_self_eq_true, hfr, heq, newPtr_X wf, load1_X wf, loadAgg_X wf, store1_X wf, writeCells_X wf, makeFunc_def, tEvK4]; first | (refine dec_split (Q := Q_) (fun hp_ => ?_) (fun hp_ => ?_) <;> first | (exfalso; omega) | (refine hQ_ _ _ ?_; clear hQ_ Q_)) | (refine dec_splitn (Q := Q_) (fun hp_ => ?_) (fun hp_ => ?_) <;> first | (exfalso; omega) | (refine hQ_ _ _ ?_; clear hQ_ Q_)) | (refine hQ_ _ _ ?_; clear hQ_ Q_)))
  | (refine WC_cond fun K_ hK_ => ?_; simp (disch := omega) only [evT_tmp, upd_apply, WB_some, ↓reduceIte, reduceCtorEq, Nat.reduceEqDiff, Nat.reduceLT]; refine hK_ _ ?_; clear hK_ K_)))
    (refine endQ_ret _ _ rfl (ret1 (by decide)) ?_; simp only [upd_apply, ↓reduceIte, reduceCtorEq, Nat.reduceEqDiff]; refine WV_flat rfl (by omega) ?_)
    refine ⟨?_, rfl⟩
    unfold isBnd
    rw [decide_eq_true hb]; rfl
  · have hb' := hb
    unfold bndIn at hb'
    (repeat' (first
  | (with_reducible first | refine WC_seq ?_ | refine WC_skip ?_ | refine WC_label ?_ | refine WC_scope ?_ | refine WC_block ?_ | refine WC_ret ?_ | refine WC_exit ?_ | refine seqQ_norm ?_ | refine seqQ_ret ?_ | refine seqQ_exit ?_ | refine blkQ_norm ?_ | refine blkQ_ret ?_ | refine blkQ_here ?_ | refine gateK_yes ?_ | refine gateK_none ?_ | refine condK_tt ?_ | refine condK_ff ?_ | refine roundQ_exit ?_ | refine roundQ_ret ?_)
  | refine WC_region ?_ | refine blkQ_out rfl ?_ | refine WO_nil ?_ | refine WD_nil ?_
  | ((first | refine WD_gate rfl rfl rfl rfl rfl fun K_ hK_ => ?_ | refine WO_gate rfl rfl rfl rfl rfl fun K_ hK_ => ?_); simp only [upd_apply, asB_bool, asB_tup, ↓reduceIte, reduceCtorEq, Nat.reduceEqDiff, Bool.not_true, Bool.not_false]; refine hK_ _ ?_; clear hK_ K_)
  | refine gateK_no (by decide) ?_
  | ((try first | refine WO_op rfl rfl rfl ?_ | refine WO_op0 rfl rfl ?_ | refine WD_op rfl rfl rfl ?_ | refine WD_op0 rfl rfl ?_); (refine WV_gen fun Q_ hQ_ => ?_; simp (disch := first | omega | (simp only [List.length_cons, List.length_nil, List.length_append]; omega)) only [bb, bp, argF, ↓reduceIte, reduceCtorEq, Nat.reduceEqDiff, Nat.reduceLT, Nat.reduceLeDiff, Nat.reduceAdd, Nat.reduceMul, Nat.reduceSub, Nat.reduceBEq, Int.reduceToNat, cond_true, cond_false, eq_self, beq_self_eq_true, newPtr_X wf, load1_X wf, loadAgg_X wf, store1_X wf, writeCells_X wf, makeFunc_def, tEvK4]; first | (refine dec_split (Q := Q_) (fun hp_ => ?_) (fun hp_ => ?_) <;> first | (exfalso; omega) | (refine hQ_ _ _ ?_; clear hQ_ Q_)) | (refine dec_splitn (Q := Q_) (fun hp_ => ?_) (fun hp_ => ?_) <;> first | (exfalso; omega) | (refine hQ_ _ _ ?_; clear hQ_ Q_)) | (refine hQ_ _ _ ?_; clear hQ_ Q_)))
  | (refine WC_cond fun K_ hK_ => ?_; simp (disch := omega) only [evT_tmp, upd_apply, WB_some, ↓reduceIte, reduceCtorEq, Nat.reduceEqDiff, Nat.reduceLT]; refine hK_ _ ?_; clear hK_ K_)))
    refine WC_drawnB [.full, .full, .full, .full, .full, .full, .full, .full, .full, .full, .full, .full, .full, .full, .full, .full, .full, .full, .full, .no, .no, .no, .no, .no, .no, .full, .full, .full] (by kernel_rfl) ?_
    (repeat' (first
  | (with_reducible first | refine WC_seq ?_ | refine WC_skip ?_ | refine WC_label ?_ | refine WC_scope ?_ | refine WC_block ?_ | refine WC_ret ?_ | refine WC_exit ?_ | refine seqQ_norm ?_ | refine seqQ_ret ?_ | refine seqQ_exit ?_ | refine blkQ_norm ?_ | refine blkQ_ret ?_ | refine blkQ_here ?_ | refine gateK_yes ?_ | refine gateK_none ?_ | refine condK_tt ?_ | refine condK_ff ?_ | refine roundQ_exit ?_ | refine roundQ_ret ?_)
  | refine WC_region ?_ | refine blkQ_out rfl ?_ | refine WO_nil ?_ | refine WD_nil ?_
  | ((first | refine WD_gate rfl rfl rfl rfl rfl fun K_ hK_ => ?_ | refine WO_gate rfl rfl rfl rfl rfl fun K_ hK_ => ?_); simp only [upd_apply, asB_bool, asB_tup, ↓reduceIte, reduceCtorEq, Nat.reduceEqDiff, Bool.not_true, Bool.not_false]; refine hK_ _ ?_; clear hK_ K_)
  | refine gateK_no (by decide) ?_
  | ((try first | refine WO_op rfl rfl rfl ?_ | refine WO_op0 rfl rfl ?_ | refine WD_op rfl rfl rfl ?_ | refine WD_op0 rfl rfl ?_); (refine WV_gen fun Q_ hQ_ => ?_; simp (disch := first | omega | (simp only [List.length_cons, List.length_nil, List.length_append]; omega)) only [bb, bp, argF, ↓reduceIte, reduceCtorEq, Nat.reduceEqDiff, Nat.reduceLT, Nat.reduceLeDiff, Nat.reduceAdd, Nat.reduceMul, Nat.reduceSub, Nat.reduceBEq, Int.reduceToNat, cond_true, cond_false, eq_self, beq_self_eq_true, newPtr_X wf, load1_X wf, loadAgg_X wf, store1_X wf, writeCells_X wf, makeFunc_def, tEvK4]; first | (refine dec_split (Q := Q_) (fun hp_ => ?_) (fun hp_ => ?_) <;> first | (exfalso; omega) | (refine hQ_ _ _ ?_; clear hQ_ Q_)) | (refine dec_splitn (Q := Q_) (fun hp_ => ?_) (fun hp_ => ?_) <;> first | (exfalso; omega) | (refine hQ_ _ _ ?_; clear hQ_ Q_)) | (refine hQ_ _ _ ?_; clear hQ_ Q_)))
  | (refine WC_cond fun K_ hK_ => ?_; simp (disch := omega) only [evT_tmp, upd_apply, WB_some, ↓reduceIte, reduceCtorEq, Nat.reduceEqDiff, Nat.reduceLT]; refine hK_ _ ?_; clear hK_ K_)))
    all_goals (refine endQ_ret _ _ rfl (ret1 (by decide)) ?_; simp only [upd_apply, ↓reduceIte, reduceCtorEq, Nat.reduceEqDiff]; refine WV_flat rfl (by omega) ?_)
    all_goals refine ⟨?_, rfl⟩
    all_goals unfold isBnd
    all_goals rw [decide_eq_false hb]
    all_goals rfl

theorem sgn_tt (x : Int) : sgn true x = x := rfl
theorem sgn_ff (x : Int) : sgn false x = -x := rfl
theorem sgn_sgn (b : Bool) (x : Int) : sgn b (sgn b x) = x := by cases b <;> simp [sgn]

theorem mx_taken {high : Bool} {F : Int → Int} {lo : Int} {j : Nat} {x best : Int} (hx : F (lo + (j : Int)) = sgn high x) (hb : (if j = 0 then 0 else sgn high (mxf F lo (j - 1))) = best) (hc : j = 0 ∨ (high = true ∧ best < x) ∨ (high = false ∧ x < best)) :
    x = sgn high (mxf F lo (j + 1 - 1)) := by
  rw [Nat.add_sub_cancel]
  cases j with
  | zero =>
    simp only [mxf]
    have : F lo = sgn high x := by simpa using hx
    rw [this, sgn_sgn]
  | succ j =>
    rw [if_neg (by omega), Nat.add_sub_cancel] at hb
    simp only [mxf]
    rw [hx]
    rcases hc with h | ⟨rfl, h⟩ | ⟨rfl, h⟩
    · omega
    · rw [sgn_tt] at *; rw [sgn_tt]; omega
    · rw [sgn_ff] at *; rw [sgn_ff]; omega
theorem mx_left {high : Bool} {F : Int → Int} {lo : Int} {j : Nat} {x best : Int} (hx : F (lo + (j : Int)) = sgn high x) (hb : (if j = 0 then 0 else sgn high (mxf F lo (j - 1))) = best) (hj : j ≠ 0) (h1 : high = true → x ≤ best) (h2 : high = false → best ≤ x) :
    best = sgn high (mxf F lo (j + 1 - 1)) := by
  rw [Nat.add_sub_cancel]
  cases j with
  | zero => exact absurd rfl hj
  | succ j =>
    rw [if_neg (by omega), Nat.add_sub_cancel] at hb
    simp only [mxf]
    rw [hx]
    cases high with
    | true => have := h1 rfl; rw [sgn_tt] at *; rw [sgn_tt]; omega
    | false => have := h2 rfl; rw [sgn_ff] at *; rw [sgn_ff]; omega

/-- What a place adds to the reference's sum. -/
def refG (g : Nat) (sp st : Int) (rows : List (List (Int × Int))) (m : Nat) (N D : Int) (high : Bool) (q : Nat) : Int := sgn high (bestG g sp st rows m N D high q)

theorem part (sp st : Int) (hsp : 1 ≤ sp ∧ sp ≤ 1000) (hst : 1 ≤ st ∧ st ≤ 100) (a : AV) (rvs : List AV) (rows : List (List (Int × Int))) (m : Nat) (hn : 2 ≤ rows.length ∧ rows.length ≤ 10) (hm : 2 ≤ m ∧ m ≤ 6)
    (what N D : Int) (hwh : 0 ≤ what ∧ what ≤ 2) (hN : 0 ≤ N ∧ N ≤ 100000000000) (hD : 1 ≤ D ∧ D ≤ 100000000) (high : Bool) (hof : ∀ q, q < rows.length * m → isOff (rAt rows m q)) (h : H) (x : HullAt h a rvs rows m) :
    (om Try.prog KK).call (.fn 32 [.agg [ii sp, ii st, a], ii what, .agg [ii N, ii D], .bool high]) h = .ok (ii (psum (refG (gOf what) sp st rows m N D high) (rows.length * m))) h := by
  have wf := x.wf
  have hnm : rows.length * m ≤ 60 := by
    have := Nat.mul_le_mul hn.2 hm.2; omega
  have hg := gOf_or what
  have hFin : ∀ q, q < rows.length * m → ∀ y, (rAt rows m q).1 ≤ y → y ≤ (rAt rows m q).1 + (wide (rAt rows m q) : Int) → -130000000000000000 ≤ fAt (gOf what) sp st rows.length m N D high q y ∧ fAt (gOf what) sp st rows.length m N D high q y ≤ 130000000000000000 := fun q hq y hy hy' => by
    have ho := hof q hq
    unfold isOff at ho
    refine fAt_in hg hsp hst hn.2 hm.2 hN hD high hq ⟨by omega, ?_⟩
    unfold wide at hy'
    omega
  have hbG : ∀ q, q < rows.length * m → -130000000000000000 ≤ refG (gOf what) sp st rows m N D high q ∧ refG (gOf what) sp st rows m N D high q ≤ 130000000000000000 := fun q hq => by
    have : -130000000000000000 ≤ bestG (gOf what) sp st rows m N D high q ∧ bestG (gOf what) sp st rows m N D high q ≤ 130000000000000000 := mxf_in (hFin q hq)
    unfold refG sgn
    split <;> omega
  have hlen : ∀ h', lenE Try.prog 22 a h' = some (ii (rows.length : Int)) := fun h' => x.sl.len un_22
  have hwt : ∀ (i n : Nat), i < n → n ≤ 1000 → ∀ l w, w ≤ h.clock + l.length → (om Try.prog KK).call (.fn 51 [ii (i : Int), ii (n : Int)]) (X h l w) = .ok (ii (wt n i)) (X h l w) := fun i n hi hn l w hw => weightR i n hi hn _ (wf.X hw)
  refine WV_to (WV_call (fn := Try.f32) Try.func32 rfl rfl rfl rfl rfl ?_)
  simp only [argF]
  (repeat' (first
  | (with_reducible first | refine WC_seq ?_ | refine WC_skip ?_ | refine WC_label ?_ | refine WC_scope ?_ | refine WC_block ?_ | refine WC_ret ?_ | refine WC_exit ?_ | refine seqQ_norm ?_ | refine seqQ_ret ?_ | refine seqQ_exit ?_ | refine blkQ_norm ?_ | refine blkQ_ret ?_ | refine blkQ_here ?_ | refine gateK_yes ?_ | refine gateK_none ?_ | refine condK_tt ?_ | refine condK_ff ?_ | refine roundQ_exit ?_ | refine roundQ_ret ?_)
  | refine WC_region ?_ | refine blkQ_out rfl ?_ | refine WO_nil ?_ | refine WD_nil ?_
  | ((first | refine WD_gate rfl rfl rfl rfl rfl fun K_ hK_ => ?_ | refine WO_gate rfl rfl rfl rfl rfl fun K_ hK_ => ?_); simp only [upd_apply, asB_bool, asB_tup, ↓reduceIte, reduceCtorEq, Nat.reduceEqDiff, Bool.not_true, Bool.not_false]; refine hK_ _ ?_; clear hK_ K_)
  | refine gateK_no (by decide) ?_
  | ((try first | refine WO_op rfl rfl rfl ?_ | refine WO_op0 rfl rfl ?_ | refine WD_op rfl rfl rfl ?_ | refine WD_op0 rfl rfl ?_); (refine WV_gen fun Q_ hQ_ => ?_; simp (disch := first | omega | (simp only [List.length_cons, List.length_nil, List.length_append]; omega)) only [bb, bp, argF, ↓reduceIte, reduceCtorEq, Nat.reduceEqDiff, Nat.reduceLT, Nat.reduceLeDiff, Nat.reduceAdd, Nat.reduceMul, Nat.reduceSub, Nat.reduceBEq, Int.reduceToNat, cond_true, cond_false, eq_self, beq_self_eq_true, newPtr_X wf, load1_X wf, loadAgg_X wf, store1_X wf, writeCells_X wf, makeFunc_def, tEvK4]; first | (refine dec_split (Q := Q_) (fun hp_ => ?_) (fun hp_ => ?_) <;> first | (exfalso; omega) | (refine hQ_ _ _ ?_; clear hQ_ Q_)) | (refine dec_splitn (Q := Q_) (fun hp_ => ?_) (fun hp_ => ?_) <;> first | (exfalso; omega) | (refine hQ_ _ _ ?_; clear hQ_ Q_)) | (refine hQ_ _ _ ?_; clear hQ_ Q_)))
  | (refine WC_cond fun K_ hK_ => ?_; simp (disch := omega) only [evT_tmp, upd_apply, WB_some, ↓reduceIte, reduceCtorEq, Nat.reduceEqDiff, Nat.reduceLT]; refine hK_ _ ?_; clear hK_ K_)))
  refine WC_loop (fun (i : Nat) f d h' => i ≤ rows.length ∧ f 1 = ii what ∧ f 3 = .bool high ∧ f 4 = .ptr (nx h 0) 0 ∧ f 6 = .ptr (nx h 1) 0 ∧ f 9 = ii (psum (refG (gOf what) sp st rows m N D high) (i * m)) ∧ f 10 = ii (i : Int) ∧ d = [] ∧ h' = X h [.cells (mkCells [ii sp, ii st, a]) 24, .cells (mkCells [ii N, ii D]) 26] h.clock)
    (fun i => rows.length - i) ?_ (rows.length + 1) 0 (by omega) ?_
  · rintro i f d h' ⟨hi', g1, g3, g4, g6, g9, g10, rfl, rfl⟩
    by_cases hlt : i < rows.length
    · obtain ⟨v, hv, hsv, hrl⟩ := x.row i hlt
      obtain ⟨id, off, hix, hld⟩ := x.sl.at1 wf hlt ik_22
      rw [hv] at hld
      have hlenv : ∀ h', lenE Try.prog 52 v h' = some (ii (m : Int)) := fun h' => hsv.len un_52
      (repeat' (first
  | (with_reducible first | refine WC_seq ?_ | refine WC_skip ?_ | refine WC_label ?_ | refine WC_scope ?_ | refine WC_block ?_ | refine WC_ret ?_ | refine WC_exit ?_ | refine seqQ_norm ?_ | refine seqQ_ret ?_ | refine seqQ_exit ?_ | refine blkQ_norm ?_ | refine blkQ_ret ?_ | refine blkQ_here ?_ | refine gateK_yes ?_ | refine gateK_none ?_ | refine condK_tt ?_ | refine condK_ff ?_ | refine roundQ_exit ?_ | refine roundQ_ret ?_)
  | refine WC_region ?_ | refine blkQ_out rfl ?_ | refine WO_nil ?_ | refine WD_nil ?_
  | ((first | refine WD_gate rfl rfl rfl rfl rfl fun K_ hK_ => ?_ | refine WO_gate rfl rfl rfl rfl rfl fun K_ hK_ => ?_); simp only [upd_apply, asB_bool, asB_tup, ↓reduceIte, reduceCtorEq, Nat.reduceEqDiff, Bool.not_true, Bool.not_false]; refine hK_ _ ?_; clear hK_ K_)
  | refine gateK_no (by decide) ?_
  | ((try first | refine WO_op rfl rfl rfl ?_ | refine WO_op0 rfl rfl ?_ | refine WD_op rfl rfl rfl ?_ | refine WD_op0 rfl rfl ?_); (refine WV_gen fun Q_ hQ_ => ?_; simp (disch := first | omega | (simp only [List.length_cons, List.length_nil, List.length_append]; omega)) only [bb, bp, argF, ↓reduceIte, reduceCtorEq, Nat.reduceEqDiff, Nat.reduceLT, Nat.reduceLeDiff, Nat.reduceAdd, Nat.reduceMul, Nat.reduceSub, Nat.reduceBEq, Int.reduceToNat, cond_true, cond_false, eq_self, beq_self_eq_true, g1, g3, g4, g6, g9, g10, hlen, hix, hld, hlenv, newPtr_X wf, load1_X wf, loadAgg_X wf, store1_X wf, writeCells_X wf, makeFunc_def, tEvK4]; first | (refine dec_split (Q := Q_) (fun hp_ => ?_) (fun hp_ => ?_) <;> first | (exfalso; omega) | (refine hQ_ _ _ ?_; clear hQ_ Q_)) | (refine dec_splitn (Q := Q_) (fun hp_ => ?_) (fun hp_ => ?_) <;> first | (exfalso; omega) | (refine hQ_ _ _ ?_; clear hQ_ Q_)) | (refine hQ_ _ _ ?_; clear hQ_ Q_)))
  | (refine WC_cond fun K_ hK_ => ?_; simp (disch := omega) only [evT_tmp, upd_apply, WB_some, ↓reduceIte, reduceCtorEq, Nat.reduceEqDiff, Nat.reduceLT]; refine hK_ _ ?_; clear hK_ K_)))
      refine WC_loop (fun (k : Nat) f d h' => k ≤ m ∧ f 1 = ii what ∧ f 3 = .bool high ∧ f 4 = .ptr (nx h 0) 0 ∧ f 6 = .ptr (nx h 1) 0 ∧ f 9 = ii (psum (refG (gOf what) sp st rows m N D high) (i * m + k)) ∧ f 10 = ii (i : Int) ∧ f 11 = ii (m : Int) ∧ f 12 = ii (k : Int) ∧ d = [] ∧ h' = X h [.cells (mkCells [ii sp, ii st, a]) 24, .cells (mkCells [ii N, ii D]) 26] h.clock)
        (fun k => m - k) ?_ (m + 1) 0 (by omega) ?_
      · clear g1 g3 g4 g6 g9 g10
        rintro k f d h' ⟨hk, g1, g3, g4, g6, g9, g10, g11, g12, rfl, rfl⟩
        by_cases hkl : k < m
        · obtain ⟨id2, off2, hix2, hld2⟩ := hsv.at wf hkl ik_52
          have hkr : k < rows[i].length := by omega
          have hr0 := rAt_ik hlt hkl hrl
          have hrow0 : ∀ l w, load1 id2 off2 (X h l w) = some (ii (rAt rows m (i * m + k)).1) := fun l w => by
            have := (hld2 l w).1 0 (by decide)
            rw [Nat.add_zero] at this
            rw [this, pairCells_get hkr (by decide), hr0]; rfl
          have hrow1 : ∀ l w, load1 id2 (off2 + 1) (X h l w) = some (ii (rAt rows m (i * m + k)).2) := fun l w => by
            have := (hld2 l w).1 1 (by decide)
            rw [this, pairCells_get hkr (by decide), hr0]; rfl
          have hq := ik_lt (n := rows.length) hlt hkl
          have hF := hFin _ hq
          have ho := hof _ hq
          unfold isOff at ho
          have e1 : (i * m + k) / m = i := by rw [Nat.mul_comm, Nat.mul_add_div (by omega), Nat.div_eq_of_lt hkl]; omega
          have e2 : (i * m + k) % m = k := by rw [Nat.mul_comm, Nat.mul_add_mod]; exact Nat.mod_eq_of_lt hkl
          have e3 : W rows.length m (i * m + k) = wt rows.length i * wt m k := by unfold W; rw [e1, e2]
          have hs := psum_in2 (f := refG (gOf what) sp st rows m N D high) (b := 130000000000000000) (q := i * m + k) (fun i' hi' => hbG i' (by omega))
          have hg1 := hbG _ hq
          have hw1 := hwt i rows.length hlt (by omega)
          have hw2 := hwt k m hkl (by omega)
          have b0 := wt2 rows.length i m k
          have hwd : ((wide (rAt rows m (i * m + k)) : Nat) : Int) = (rAt rows m (i * m + k)).2 - (rAt rows m (i * m + k)).1 := by unfold wide; omega
          (repeat' (first
  | (with_reducible first | refine WC_seq ?_ | refine WC_skip ?_ | refine WC_label ?_ | refine WC_scope ?_ | refine WC_block ?_ | refine WC_ret ?_ | refine WC_exit ?_ | refine seqQ_norm ?_ | refine seqQ_ret ?_ | refine seqQ_exit ?_ | refine blkQ_norm ?_ | refine blkQ_ret ?_ | refine blkQ_here ?_ | refine gateK_yes ?_ | refine gateK_none ?_ | refine condK_tt ?_ | refine condK_ff ?_ | refine roundQ_exit ?_ | refine roundQ_ret ?_)
  | refine WC_region ?_ | refine blkQ_out rfl ?_ | refine WO_nil ?_ | refine WD_nil ?_
  | ((first | refine WD_gate rfl rfl rfl rfl rfl fun K_ hK_ => ?_ | refine WO_gate rfl rfl rfl rfl rfl fun K_ hK_ => ?_); simp only [upd_apply, asB_bool, asB_tup, ↓reduceIte, reduceCtorEq, Nat.reduceEqDiff, Bool.not_true, Bool.not_false]; refine hK_ _ ?_; clear hK_ K_)
  | refine gateK_no (by decide) ?_
  | ((try first | refine WO_op rfl rfl rfl ?_ | refine WO_op0 rfl rfl ?_ | refine WD_op rfl rfl rfl ?_ | refine WD_op0 rfl rfl ?_); (refine WV_gen fun Q_ hQ_ => ?_; simp (disch := first | omega | (simp only [List.length_cons, List.length_nil, List.length_append]; omega)) only [bb, bp, argF, ↓reduceIte, reduceCtorEq, Nat.reduceEqDiff, Nat.reduceLT, Nat.reduceLeDiff, Nat.reduceAdd, Nat.reduceMul, Nat.reduceSub, Nat.reduceBEq, Int.reduceToNat, cond_true, cond_false, eq_self, beq_self_eq_true, g1, g3, g4, g6, g9, g10, g11, g12, hlen, hix, hld, hlenv, hix2, hrow0, hrow1, hw1, hw2, newPtr_X wf, load1_X wf, loadAgg_X wf, store1_X wf, writeCells_X wf, makeFunc_def, tEvK4]; first | (refine dec_split (Q := Q_) (fun hp_ => ?_) (fun hp_ => ?_) <;> first | (exfalso; omega) | (refine hQ_ _ _ ?_; clear hQ_ Q_)) | (refine dec_splitn (Q := Q_) (fun hp_ => ?_) (fun hp_ => ?_) <;> first | (exfalso; omega) | (refine hQ_ _ _ ?_; clear hQ_ Q_)) | (refine hQ_ _ _ ?_; clear hQ_ Q_)))
  | (refine WC_cond fun K_ hK_ => ?_; simp (disch := omega) only [evT_tmp, upd_apply, WB_some, ↓reduceIte, reduceCtorEq, Nat.reduceEqDiff, Nat.reduceLT]; refine hK_ _ ?_; clear hK_ K_)))
          generalize hrr : rAt rows m (i * m + k) = r at *
          generalize hnw : wide r = nw at *
          refine WC_loop (fun (j : Nat) f d h' => j ≤ nw + 1 ∧ f 1 = ii what ∧ f 3 = .bool high ∧ f 4 = .ptr (nx h 0) 0 ∧ f 6 = .ptr (nx h 1) 0 ∧ f 9 = ii (psum (refG (gOf what) sp st rows m N D high) (i * m + k)) ∧ f 10 = ii (i : Int) ∧ f 11 = ii (m : Int) ∧ f 12 = ii (k : Int) ∧ f 13 = ii (wt rows.length i * wt m k) ∧
              f 14 = ii (if j = 0 then 0 else sgn high (mxf (fAt (gOf what) sp st rows.length m N D high (i * m + k)) r.1 (j - 1))) ∧ f 15 = ii (r.1 + (j : Int)) ∧ d = [] ∧ h' = X h [.cells (mkCells [ii sp, ii st, a]) 24, .cells (mkCells [ii N, ii D]) 26] h.clock)
            (fun j => nw + 1 - j) ?_ (nw + 2) 0 (by omega) ?_
          · clear g1 g3 g4 g6 g9 g10 g11 g12
            rintro j f d h' ⟨hj, g1, g3, g4, g6, g9, g10, g11, g12, g13, g14, g15, rfl, rfl⟩
            by_cases hjl : j < nw + 1
            · have hy : 0 ≤ r.1 + (j : Int) ∧ r.1 + (j : Int) ≤ 500 := ⟨by omega, by omega⟩
              generalize hbst : (if j = 0 then (0 : Int) else sgn high (mxf (fAt (gOf what) sp st rows.length m N D high (i * m + k)) r.1 (j - 1))) = bst at *
              have hFy : fAt (gOf what) sp st rows.length m N D high (i * m + k) (r.1 + (j : Int)) = sgn high (gapOf (gOf what) sp st m i k (wt rows.length i * wt m k) N D (r.1 + (j : Int))) := by unfold fAt; rw [e1, e2, e3]
              have hX := gap_in hg hsp hst hm.2 (i := i) (k := k) (by omega) hkl b0 hy hN hD
              have hy0 : (r.1 + (j : Int) = r.1) ↔ j = 0 := by omega
              have hylt : r.1 + (j : Int) ≤ r.2 := by omega
              generalize hyy : r.1 + (j : Int) = y at *
              generalize hWW : wt rows.length i * wt m k = w at *
              have bi := wt_in rows.length i
              have a1 := mul_bd (a := sp) (b := (i : Int)) (x := 1000) (y := 9) ⟨by omega, by omega⟩ ⟨by omega, by omega⟩
              have a2 := mul_bd a1 b0
              have a3 := mul_bd a2 hy
              have c1 := mul_bd b0 hy
              have s1 := mul_bd (a := st) (b := (k : Int)) (x := 100) (y := 5) ⟨by omega, by omega⟩ ⟨by omega, by omega⟩
              have s2 := mul_bd s1 b0
              have s3 := mul_bd s2 hy
              have t1 := mul_bd (a := 3 * st) (b := st) (x := 300) (y := 100) ⟨by omega, by omega⟩ ⟨by omega, by omega⟩
              have t2 := mul_bd t1 (b := (k : Int)) (y := 5) ⟨by omega, by omega⟩
              have t3 := mul_bd t2 b0
              have t4 := mul_bd t3 hy
              have u1 := mul_bd (a := 3 * st) (x := 300) ⟨by omega, by omega⟩ b0
              have u2 := mul_bd u1 hy
              have v2 := mul_bd (a := 2 * wt rows.length i) (x := 4) ⟨by omega, by omega⟩ hy
              have v3 := mul_bd v2 hy
              have v4 := mul_bd v3 hy
              have d0 := mul_bd (a := D) (x := 100000000) ⟨by omega, by omega⟩ a3
              have d1 := mul_bd (a := D) (x := 100000000) ⟨by omega, by omega⟩ s3
              have d2 := mul_bd (a := D) (x := 100000000) ⟨by omega, by omega⟩ t4
              have d3 := mul_bd (a := D) (x := 100000000) (b := 3 * st * st * (k : Int) * w * y + 2 * wt rows.length i * y * y * y) (y := 1000000000) ⟨by omega, by omega⟩ ⟨by omega, by omega⟩
              have m0' := mul_bd hN c1
              have m2' := mul_bd hN u2
              rcases (by omega : what = 0 ∨ what = 1 ∨ what = 2) with rfl | rfl | rfl
              · have hx0 : D * (sp * (i : Int) * w * y) - N * (w * y) = gapOf (gOf 0) sp st m i k w N D y := by
                  simp only [gapOf, gOf, numOf, denOf, ↓reduceIte, Nat.reduceEqDiff]; grind
                cases high
                · (repeat' (first
  | (with_reducible first | refine WC_seq ?_ | refine WC_skip ?_ | refine WC_label ?_ | refine WC_scope ?_ | refine WC_block ?_ | refine WC_ret ?_ | refine WC_exit ?_ | refine seqQ_norm ?_ | refine seqQ_ret ?_ | refine seqQ_exit ?_ | refine blkQ_norm ?_ | refine blkQ_ret ?_ | refine blkQ_here ?_ | refine gateK_yes ?_ | refine gateK_none ?_ | refine condK_tt ?_ | refine condK_ff ?_ | refine roundQ_exit ?_ | refine roundQ_ret ?_)
  | refine WC_region ?_ | refine blkQ_out rfl ?_ | refine WO_nil ?_ | refine WD_nil ?_
  | ((first | refine WD_gate rfl rfl rfl rfl rfl fun K_ hK_ => ?_ | refine WO_gate rfl rfl rfl rfl rfl fun K_ hK_ => ?_); simp only [upd_apply, asB_bool, asB_tup, ↓reduceIte, reduceCtorEq, Nat.reduceEqDiff, Bool.not_true, Bool.not_false]; refine hK_ _ ?_; clear hK_ K_)
  | refine gateK_no (by decide) ?_
  | ((try first | refine WO_op rfl rfl rfl ?_ | refine WO_op0 rfl rfl ?_ | refine WD_op rfl rfl rfl ?_ | refine WD_op0 rfl rfl ?_); (refine WV_gen fun Q_ hQ_ => ?_; simp (disch := first | omega | (simp only [List.length_cons, List.length_nil, List.length_append]; omega)) only [bb, bp, argF, ↓reduceIte, reduceCtorEq, Nat.reduceEqDiff, Nat.reduceLT, Nat.reduceLeDiff, Nat.reduceAdd, Nat.reduceMul, Nat.reduceSub, Nat.reduceBEq, Int.reduceToNat, cond_true, cond_false, eq_self, beq_self_eq_true, g1, g3, g4, g6, g9, g10, g11, g12, g13, g14, g15, hx0, hy0, hlen, hix, hld, hlenv, hix2, hrow0, hrow1, newPtr_X wf, load1_X wf, loadAgg_X wf, store1_X wf, writeCells_X wf, makeFunc_def, tEvK4]; first | (refine dec_split (Q := Q_) (fun hp_ => ?_) (fun hp_ => ?_) <;> first | (exfalso; omega) | (refine hQ_ _ _ ?_; clear hQ_ Q_)) | (refine dec_splitn (Q := Q_) (fun hp_ => ?_) (fun hp_ => ?_) <;> first | (exfalso; omega) | (refine hQ_ _ _ ?_; clear hQ_ Q_)) | (refine hQ_ _ _ ?_; clear hQ_ Q_)))
  | (refine WC_cond fun K_ hK_ => ?_; simp (disch := omega) only [evT_tmp, upd_apply, WB_some, ↓reduceIte, reduceCtorEq, Nat.reduceEqDiff, Nat.reduceLT]; refine hK_ _ ?_; clear hK_ K_)))
                  all_goals
                    first
                      | (refine roundQ_again (j + 1) (by omega) ⟨by omega, by simp only [upd_apply, ↓reduceIte, reduceCtorEq, Nat.reduceEqDiff]; exact g1, by simp only [upd_apply, ↓reduceIte, reduceCtorEq, Nat.reduceEqDiff]; exact g3, by simp only [upd_apply, ↓reduceIte, reduceCtorEq, Nat.reduceEqDiff]; exact g4, by simp only [upd_apply, ↓reduceIte, reduceCtorEq, Nat.reduceEqDiff]; exact g6, by simp only [upd_apply, ↓reduceIte, reduceCtorEq, Nat.reduceEqDiff]; exact g9, by simp only [upd_apply, ↓reduceIte, reduceCtorEq, Nat.reduceEqDiff]; exact g10, by simp only [upd_apply, ↓reduceIte, reduceCtorEq, Nat.reduceEqDiff]; exact g11, by simp only [upd_apply, ↓reduceIte, reduceCtorEq, Nat.reduceEqDiff]; exact g12, by simp only [upd_apply, ↓reduceIte, reduceCtorEq, Nat.reduceEqDiff]; exact g13, by simp only [upd_apply, ↓reduceIte, reduceCtorEq, Nat.reduceEqDiff]; exact congrArg ii (mx_taken (by rw [hyy]; exact hFy) hbst (by first | exact .inl (by omega) | exact .inr (.inl ⟨rfl, by omega⟩) | exact .inr (.inr ⟨rfl, by omega⟩))), by simp only [upd_apply, ↓reduceIte, reduceCtorEq, Nat.reduceEqDiff]; exact congrArg ii (by omega), rfl, rfl⟩)
                      | (refine roundQ_again (j + 1) (by omega) ⟨by omega, by simp only [upd_apply, ↓reduceIte, reduceCtorEq, Nat.reduceEqDiff]; exact g1, by simp only [upd_apply, ↓reduceIte, reduceCtorEq, Nat.reduceEqDiff]; exact g3, by simp only [upd_apply, ↓reduceIte, reduceCtorEq, Nat.reduceEqDiff]; exact g4, by simp only [upd_apply, ↓reduceIte, reduceCtorEq, Nat.reduceEqDiff]; exact g6, by simp only [upd_apply, ↓reduceIte, reduceCtorEq, Nat.reduceEqDiff]; exact g9, by simp only [upd_apply, ↓reduceIte, reduceCtorEq, Nat.reduceEqDiff]; exact g10, by simp only [upd_apply, ↓reduceIte, reduceCtorEq, Nat.reduceEqDiff]; exact g11, by simp only [upd_apply, ↓reduceIte, reduceCtorEq, Nat.reduceEqDiff]; exact g12, by simp only [upd_apply, ↓reduceIte, reduceCtorEq, Nat.reduceEqDiff]; exact g13, by simp only [upd_apply, ↓reduceIte, reduceCtorEq, Nat.reduceEqDiff]; rw [g14]; exact congrArg ii (mx_left (by rw [hyy]; exact hFy) hbst (by omega) (by first | (intro _; omega) | (intro hh; cases hh)) (by first | (intro _; omega) | (intro hh; cases hh))), by simp only [upd_apply, ↓reduceIte, reduceCtorEq, Nat.reduceEqDiff]; exact congrArg ii (by omega), rfl, rfl⟩)
                · (repeat' (first
  | (with_reducible first | refine WC_seq ?_ | refine WC_skip ?_ | refine WC_label ?_ | refine WC_scope ?_ | refine WC_block ?_ | refine WC_ret ?_ | refine WC_exit ?_ | refine seqQ_norm ?_ | refine seqQ_ret ?_ | refine seqQ_exit ?_ | refine blkQ_norm ?_ | refine blkQ_ret ?_ | refine blkQ_here ?_ | refine gateK_yes ?_ | refine gateK_none ?_ | refine condK_tt ?_ | refine condK_ff ?_ | refine roundQ_exit ?_ | refine roundQ_ret ?_)
  | refine WC_region ?_ | refine blkQ_out rfl ?_ | refine WO_nil ?_ | refine WD_nil ?_
  | ((first | refine WD_gate rfl rfl rfl rfl rfl fun K_ hK_ => ?_ | refine WO_gate rfl rfl rfl rfl rfl fun K_ hK_ => ?_); simp only [upd_apply, asB_bool, asB_tup, ↓reduceIte, reduceCtorEq, Nat.reduceEqDiff, Bool.not_true, Bool.not_false]; refine hK_ _ ?_; clear hK_ K_)
  | refine gateK_no (by decide) ?_
  | ((try first | refine WO_op rfl rfl rfl ?_ | refine WO_op0 rfl rfl ?_ | refine WD_op rfl rfl rfl ?_ | refine WD_op0 rfl rfl ?_); (refine WV_gen fun Q_ hQ_ => ?_; simp (disch := first | omega | (simp only [List.length_cons, List.length_nil, List.length_append]; omega)) only [bb, bp, argF, ↓reduceIte, reduceCtorEq, Nat.reduceEqDiff, Nat.reduceLT, Nat.reduceLeDiff, Nat.reduceAdd, Nat.reduceMul, Nat.reduceSub, Nat.reduceBEq, Int.reduceToNat, cond_true, cond_false, eq_self, beq_self_eq_true, g1, g3, g4, g6, g9, g10, g11, g12, g13, g14, g15, hx0, hy0, hlen, hix, hld, hlenv, hix2, hrow0, hrow1, newPtr_X wf, load1_X wf, loadAgg_X wf, store1_X wf, writeCells_X wf, makeFunc_def, tEvK4]; first | (refine dec_split (Q := Q_) (fun hp_ => ?_) (fun hp_ => ?_) <;> first | (exfalso; omega) | (refine hQ_ _ _ ?_; clear hQ_ Q_)) | (refine dec_splitn (Q := Q_) (fun hp_ => ?_) (fun hp_ => ?_) <;> first | (exfalso; omega) | (refine hQ_ _ _ ?_; clear hQ_ Q_)) | (refine hQ_ _ _ ?_; clear hQ_ Q_)))
  | (refine WC_cond fun K_ hK_ => ?_; simp (disch := omega) only [evT_tmp, upd_apply, WB_some, ↓reduceIte, reduceCtorEq, Nat.reduceEqDiff, Nat.reduceLT]; refine hK_ _ ?_; clear hK_ K_)))
                  all_goals
                    first
                      | (refine roundQ_again (j + 1) (by omega) ⟨by omega, by simp only [upd_apply, ↓reduceIte, reduceCtorEq, Nat.reduceEqDiff]; exact g1, by simp only [upd_apply, ↓reduceIte, reduceCtorEq, Nat.reduceEqDiff]; exact g3, by simp only [upd_apply, ↓reduceIte, reduceCtorEq, Nat.reduceEqDiff]; exact g4, by simp only [upd_apply, ↓reduceIte, reduceCtorEq, Nat.reduceEqDiff]; exact g6, by simp only [upd_apply, ↓reduceIte, reduceCtorEq, Nat.reduceEqDiff]; exact g9, by simp only [upd_apply, ↓reduceIte, reduceCtorEq, Nat.reduceEqDiff]; exact g10, by simp only [upd_apply, ↓reduceIte, reduceCtorEq, Nat.reduceEqDiff]; exact g11, by simp only [upd_apply, ↓reduceIte, reduceCtorEq, Nat.reduceEqDiff]; exact g12, by simp only [upd_apply, ↓reduceIte, reduceCtorEq, Nat.reduceEqDiff]; exact g13, by simp only [upd_apply, ↓reduceIte, reduceCtorEq, Nat.reduceEqDiff]; exact congrArg ii (mx_taken (by rw [hyy]; exact hFy) hbst (by first | exact .inl (by omega) | exact .inr (.inl ⟨rfl, by omega⟩) | exact .inr (.inr ⟨rfl, by omega⟩))), by simp only [upd_apply, ↓reduceIte, reduceCtorEq, Nat.reduceEqDiff]; exact congrArg ii (by omega), rfl, rfl⟩)
                      | (refine roundQ_again (j + 1) (by omega) ⟨by omega, by simp only [upd_apply, ↓reduceIte, reduceCtorEq, Nat.reduceEqDiff]; exact g1, by simp only [upd_apply, ↓reduceIte, reduceCtorEq, Nat.reduceEqDiff]; exact g3, by simp only [upd_apply, ↓reduceIte, reduceCtorEq, Nat.reduceEqDiff]; exact g4, by simp only [upd_apply, ↓reduceIte, reduceCtorEq, Nat.reduceEqDiff]; exact g6, by simp only [upd_apply, ↓reduceIte, reduceCtorEq, Nat.reduceEqDiff]; exact g9, by simp only [upd_apply, ↓reduceIte, reduceCtorEq, Nat.reduceEqDiff]; exact g10, by simp only [upd_apply, ↓reduceIte, reduceCtorEq, Nat.reduceEqDiff]; exact g11, by simp only [upd_apply, ↓reduceIte, reduceCtorEq, Nat.reduceEqDiff]; exact g12, by simp only [upd_apply, ↓reduceIte, reduceCtorEq, Nat.reduceEqDiff]; exact g13, by simp only [upd_apply, ↓reduceIte, reduceCtorEq, Nat.reduceEqDiff]; rw [g14]; exact congrArg ii (mx_left (by rw [hyy]; exact hFy) hbst (by omega) (by first | (intro _; omega) | (intro hh; cases hh)) (by first | (intro _; omega) | (intro hh; cases hh))), by simp only [upd_apply, ↓reduceIte, reduceCtorEq, Nat.reduceEqDiff]; exact congrArg ii (by omega), rfl, rfl⟩)
              · have hx0 : D * (st * (k : Int) * w * y) - N * (w * y) = gapOf (gOf 1) sp st m i k w N D y := by
                  simp only [gapOf, gOf, numOf, denOf, ↓reduceIte, Nat.reduceEqDiff, reduceCtorEq, Int.reduceEq]; grind
                cases high
                · (repeat' (first
  | (with_reducible first | refine WC_seq ?_ | refine WC_skip ?_ | refine WC_label ?_ | refine WC_scope ?_ | refine WC_block ?_ | refine WC_ret ?_ | refine WC_exit ?_ | refine seqQ_norm ?_ | refine seqQ_ret ?_ | refine seqQ_exit ?_ | refine blkQ_norm ?_ | refine blkQ_ret ?_ | refine blkQ_here ?_ | refine gateK_yes ?_ | refine gateK_none ?_ | refine condK_tt ?_ | refine condK_ff ?_ | refine roundQ_exit ?_ | refine roundQ_ret ?_)
  | refine WC_region ?_ | refine blkQ_out rfl ?_ | refine WO_nil ?_ | refine WD_nil ?_
  | ((first | refine WD_gate rfl rfl rfl rfl rfl fun K_ hK_ => ?_ | refine WO_gate rfl rfl rfl rfl rfl fun K_ hK_ => ?_); simp only [upd_apply, asB_bool, asB_tup, ↓reduceIte, reduceCtorEq, Nat.reduceEqDiff, Bool.not_true, Bool.not_false]; refine hK_ _ ?_; clear hK_ K_)
  | refine gateK_no (by decide) ?_
  | ((try first | refine WO_op rfl rfl rfl ?_ | refine WO_op0 rfl rfl ?_ | refine WD_op rfl rfl rfl ?_ | refine WD_op0 rfl rfl ?_); (refine WV_gen fun Q_ hQ_ => ?_; simp (disch := first | omega | (simp only [List.length_cons, List.length_nil, List.length_append]; omega)) only [bb, bp, argF, ↓reduceIte, reduceCtorEq, Nat.reduceEqDiff, Nat.reduceLT, Nat.reduceLeDiff, Nat.reduceAdd, Nat.reduceMul, Nat.reduceSub, Nat.reduceBEq, Int.reduceToNat, cond_true, cond_false, eq_self, beq_self_eq_true, g1, g3, g4, g6, g9, g10, g11, g12, g13, g14, g15, hx0, hy0, hlen, hix, hld, hlenv, hix2, hrow0, hrow1, newPtr_X wf, load1_X wf, loadAgg_X wf, store1_X wf, writeCells_X wf, makeFunc_def, tEvK4]; first | (refine dec_split (Q := Q_) (fun hp_ => ?_) (fun hp_ => ?_) <;> first | (exfalso; omega) | (refine hQ_ _ _ ?_; clear hQ_ Q_)) | (refine dec_splitn (Q := Q_) (fun hp_ => ?_) (fun hp_ => ?_) <;> first | (exfalso; omega) | (refine hQ_ _ _ ?_; clear hQ_ Q_)) | (refine hQ_ _ _ ?_; clear hQ_ Q_)))
  | (refine WC_cond fun K_ hK_ => ?_; simp (disch := omega) only [evT_tmp, upd_apply, WB_some, ↓reduceIte, reduceCtorEq, Nat.reduceEqDiff, Nat.reduceLT]; refine hK_ _ ?_; clear hK_ K_)))
                  all_goals
                    first
                      | (refine roundQ_again (j + 1) (by omega) ⟨by omega, by simp only [upd_apply, ↓reduceIte, reduceCtorEq, Nat.reduceEqDiff]; exact g1, by simp only [upd_apply, ↓reduceIte, reduceCtorEq, Nat.reduceEqDiff]; exact g3, by simp only [upd_apply, ↓reduceIte, reduceCtorEq, Nat.reduceEqDiff]; exact g4, by simp only [upd_apply, ↓reduceIte, reduceCtorEq, Nat.reduceEqDiff]; exact g6, by simp only [upd_apply, ↓reduceIte, reduceCtorEq, Nat.reduceEqDiff]; exact g9, by simp only [upd_apply, ↓reduceIte, reduceCtorEq, Nat.reduceEqDiff]; exact g10, by simp only [upd_apply, ↓reduceIte, reduceCtorEq, Nat.reduceEqDiff]; exact g11, by simp only [upd_apply, ↓reduceIte, reduceCtorEq, Nat.reduceEqDiff]; exact g12, by simp only [upd_apply, ↓reduceIte, reduceCtorEq, Nat.reduceEqDiff]; exact g13, by simp only [upd_apply, ↓reduceIte, reduceCtorEq, Nat.reduceEqDiff]; exact congrArg ii (mx_taken (by rw [hyy]; exact hFy) hbst (by first | exact .inl (by omega) | exact .inr (.inl ⟨rfl, by omega⟩) | exact .inr (.inr ⟨rfl, by omega⟩))), by simp only [upd_apply, ↓reduceIte, reduceCtorEq, Nat.reduceEqDiff]; exact congrArg ii (by omega), rfl, rfl⟩)
                      | (refine roundQ_again (j + 1) (by omega) ⟨by omega, by simp only [upd_apply, ↓reduceIte, reduceCtorEq, Nat.reduceEqDiff]; exact g1, by simp only [upd_apply, ↓reduceIte, reduceCtorEq, Nat.reduceEqDiff]; exact g3, by simp only [upd_apply, ↓reduceIte, reduceCtorEq, Nat.reduceEqDiff]; exact g4, by simp only [upd_apply, ↓reduceIte, reduceCtorEq, Nat.reduceEqDiff]; exact g6, by simp only [upd_apply, ↓reduceIte, reduceCtorEq, Nat.reduceEqDiff]; exact g9, by simp only [upd_apply, ↓reduceIte, reduceCtorEq, Nat.reduceEqDiff]; exact g10, by simp only [upd_apply, ↓reduceIte, reduceCtorEq, Nat.reduceEqDiff]; exact g11, by simp only [upd_apply, ↓reduceIte, reduceCtorEq, Nat.reduceEqDiff]; exact g12, by simp only [upd_apply, ↓reduceIte, reduceCtorEq, Nat.reduceEqDiff]; exact g13, by simp only [upd_apply, ↓reduceIte, reduceCtorEq, Nat.reduceEqDiff]; rw [g14]; exact congrArg ii (mx_left (by rw [hyy]; exact hFy) hbst (by omega) (by first | (intro _; omega) | (intro hh; cases hh)) (by first | (intro _; omega) | (intro hh; cases hh))), by simp only [upd_apply, ↓reduceIte, reduceCtorEq, Nat.reduceEqDiff]; exact congrArg ii (by omega), rfl, rfl⟩)
                · (repeat' (first
  | (with_reducible first | refine WC_seq ?_ | refine WC_skip ?_ | refine WC_label ?_ | refine WC_scope ?_ | refine WC_block ?_ | refine WC_ret ?_ | refine WC_exit ?_ | refine seqQ_norm ?_ | refine seqQ_ret ?_ | refine seqQ_exit ?_ | refine blkQ_norm ?_ | refine blkQ_ret ?_ | refine blkQ_here ?_ | refine gateK_yes ?_ | refine gateK_none ?_ | refine condK_tt ?_ | refine condK_ff ?_ | refine roundQ_exit ?_ | refine roundQ_ret ?_)
  | refine WC_region ?_ | refine blkQ_out rfl ?_ | refine WO_nil ?_ | refine WD_nil ?_
  | ((first | refine WD_gate rfl rfl rfl rfl rfl fun K_ hK_ => ?_ | refine WO_gate rfl rfl rfl rfl rfl fun K_ hK_ => ?_); simp only [upd_apply, asB_bool, asB_tup, ↓reduceIte, reduceCtorEq, Nat.reduceEqDiff, Bool.not_true, Bool.not_false]; refine hK_ _ ?_; clear hK_ K_)
  | refine gateK_no (by decide) ?_
  | ((try first | refine WO_op rfl rfl rfl ?_ | refine WO_op0 rfl rfl ?_ | refine WD_op rfl rfl rfl ?_ | refine WD_op0 rfl rfl ?_); (refine WV_gen fun Q_ hQ_ => ?_; simp (disch := first | omega | (simp only [List.length_cons, List.length_nil, List.length_append]; omega)) only [bb, bp, argF, ↓reduceIte, reduceCtorEq, Nat.reduceEqDiff, Nat.reduceLT, Nat.reduceLeDiff, Nat.reduceAdd, Nat.reduceMul, Nat.reduceSub, Nat.reduceBEq, Int.reduceToNat, cond_true, cond_false, eq_self, beq_self_eq_true, g1, g3, g4, g6, g9, g10, g11, g12, g13, g14, g15, hx0, hy0, hlen, hix, hld, hlenv, hix2, hrow0, hrow1, newPtr_X wf, load1_X wf, loadAgg_X wf, store1_X wf, writeCells_X wf, makeFunc_def, tEvK4]; first | (refine dec_split (Q := Q_) (fun hp_ => ?_) (fun hp_ => ?_) <;> first | (exfalso; omega) | (refine hQ_ _ _ ?_; clear hQ_ Q_)) | (refine dec_splitn (Q := Q_) (fun hp_ => ?_) (fun hp_ => ?_) <;> first | (exfalso; omega) | (refine hQ_ _ _ ?_; clear hQ_ Q_)) | (refine hQ_ _ _ ?_; clear hQ_ Q_)))
  | (refine WC_cond fun K_ hK_ => ?_; simp (disch := omega) only [evT_tmp, upd_apply, WB_some, ↓reduceIte, reduceCtorEq, Nat.reduceEqDiff, Nat.reduceLT]; refine hK_ _ ?_; clear hK_ K_)))
                  all_goals
                    first
                      | (refine roundQ_again (j + 1) (by omega) ⟨by omega, by simp only [upd_apply, ↓reduceIte, reduceCtorEq, Nat.reduceEqDiff]; exact g1, by simp only [upd_apply, ↓reduceIte, reduceCtorEq, Nat.reduceEqDiff]; exact g3, by simp only [upd_apply, ↓reduceIte, reduceCtorEq, Nat.reduceEqDiff]; exact g4, by simp only [upd_apply, ↓reduceIte, reduceCtorEq, Nat.reduceEqDiff]; exact g6, by simp only [upd_apply, ↓reduceIte, reduceCtorEq, Nat.reduceEqDiff]; exact g9, by simp only [upd_apply, ↓reduceIte, reduceCtorEq, Nat.reduceEqDiff]; exact g10, by simp only [upd_apply, ↓reduceIte, reduceCtorEq, Nat.reduceEqDiff]; exact g11, by simp only [upd_apply, ↓reduceIte, reduceCtorEq, Nat.reduceEqDiff]; exact g12, by simp only [upd_apply, ↓reduceIte, reduceCtorEq, Nat.reduceEqDiff]; exact g13, by simp only [upd_apply, ↓reduceIte, reduceCtorEq, Nat.reduceEqDiff]; exact congrArg ii (mx_taken (by rw [hyy]; exact hFy) hbst (by first | exact .inl (by omega) | exact .inr (.inl ⟨rfl, by omega⟩) | exact .inr (.inr ⟨rfl, by omega⟩))), by simp only [upd_apply, ↓reduceIte, reduceCtorEq, Nat.reduceEqDiff]; exact congrArg ii (by omega), rfl, rfl⟩)
                      | (refine roundQ_again (j + 1) (by omega) ⟨by omega, by simp only [upd_apply, ↓reduceIte, reduceCtorEq, Nat.reduceEqDiff]; exact g1, by simp only [upd_apply, ↓reduceIte, reduceCtorEq, Nat.reduceEqDiff]; exact g3, by simp only [upd_apply, ↓reduceIte, reduceCtorEq, Nat.reduceEqDiff]; exact g4, by simp only [upd_apply, ↓reduceIte, reduceCtorEq, Nat.reduceEqDiff]; exact g6, by simp only [upd_apply, ↓reduceIte, reduceCtorEq, Nat.reduceEqDiff]; exact g9, by simp only [upd_apply, ↓reduceIte, reduceCtorEq, Nat.reduceEqDiff]; exact g10, by simp only [upd_apply, ↓reduceIte, reduceCtorEq, Nat.reduceEqDiff]; exact g11, by simp only [upd_apply, ↓reduceIte, reduceCtorEq, Nat.reduceEqDiff]; exact g12, by simp only [upd_apply, ↓reduceIte, reduceCtorEq, Nat.reduceEqDiff]; exact g13, by simp only [upd_apply, ↓reduceIte, reduceCtorEq, Nat.reduceEqDiff]; rw [g14]; exact congrArg ii (mx_left (by rw [hyy]; exact hFy) hbst (by omega) (by first | (intro _; omega) | (intro hh; cases hh)) (by first | (intro _; omega) | (intro hh; cases hh))), by simp only [upd_apply, ↓reduceIte, reduceCtorEq, Nat.reduceEqDiff]; exact congrArg ii (by omega), rfl, rfl⟩)
              · by_cases hkm : k + 1 = m
                · have hwk : wt m k = 1 := by rw [show k = m - 1 by omega]; exact wt_last (by omega)
                  have hkm' : ((k : Int) = (m : Int) - 1) = True := eq_true (by omega)
                  have hwi : wt rows.length i = w := by rw [← hWW, hwk]; omega
                  have hw1' := hwt i rows.length hlt (by omega)
                  rw [hwi] at hw1'
                  rw [hwi] at v2 v3 v4 d3 bi
                  have hx0 : D * (3 * st * st * (k : Int) * w * y + 2 * w * y * y * y) - N * (3 * st * w * y) = gapOf (gOf 2) sp st m i k w N D y := by
                    simp only [gapOf, gOf, numOf, denOf, ↓reduceIte, Nat.reduceEqDiff, reduceCtorEq, Int.reduceEq, hkm]; grind
                  cases high
                  · (repeat' (first
  | (with_reducible first | refine WC_seq ?_ | refine WC_skip ?_ | refine WC_label ?_ | refine WC_scope ?_ | refine WC_block ?_ | refine WC_ret ?_ | refine WC_exit ?_ | refine seqQ_norm ?_ | refine seqQ_ret ?_ | refine seqQ_exit ?_ | refine blkQ_norm ?_ | refine blkQ_ret ?_ | refine blkQ_here ?_ | refine gateK_yes ?_ | refine gateK_none ?_ | refine condK_tt ?_ | refine condK_ff ?_ | refine roundQ_exit ?_ | refine roundQ_ret ?_)
  | refine WC_region ?_ | refine blkQ_out rfl ?_ | refine WO_nil ?_ | refine WD_nil ?_
  | ((first | refine WD_gate rfl rfl rfl rfl rfl fun K_ hK_ => ?_ | refine WO_gate rfl rfl rfl rfl rfl fun K_ hK_ => ?_); simp only [upd_apply, asB_bool, asB_tup, ↓reduceIte, reduceCtorEq, Nat.reduceEqDiff, Bool.not_true, Bool.not_false]; refine hK_ _ ?_; clear hK_ K_)
  | refine gateK_no (by decide) ?_
  | ((try first | refine WO_op rfl rfl rfl ?_ | refine WO_op0 rfl rfl ?_ | refine WD_op rfl rfl rfl ?_ | refine WD_op0 rfl rfl ?_); (refine WV_gen fun Q_ hQ_ => ?_; simp (disch := first | omega | (simp only [List.length_cons, List.length_nil, List.length_append]; omega)) only [bb, bp, argF, ↓reduceIte, reduceCtorEq, Nat.reduceEqDiff, Nat.reduceLT, Nat.reduceLeDiff, Nat.reduceAdd, Nat.reduceMul, Nat.reduceSub, Nat.reduceBEq, Int.reduceToNat, cond_true, cond_false, eq_self, beq_self_eq_true, g1, g3, g4, g6, g9, g10, g11, g12, g13, g14, g15, hx0, hy0, hlen, hix, hld, hlenv, hix2, hrow0, hrow1, newPtr_X wf, load1_X wf, loadAgg_X wf, store1_X wf, writeCells_X wf, makeFunc_def, tEvK4, hw1', hkm']; first | (refine dec_split (Q := Q_) (fun hp_ => ?_) (fun hp_ => ?_) <;> first | (exfalso; omega) | (refine hQ_ _ _ ?_; clear hQ_ Q_)) | (refine dec_splitn (Q := Q_) (fun hp_ => ?_) (fun hp_ => ?_) <;> first | (exfalso; omega) | (refine hQ_ _ _ ?_; clear hQ_ Q_)) | (refine hQ_ _ _ ?_; clear hQ_ Q_)))
  | (refine WC_cond fun K_ hK_ => ?_; simp (disch := omega) only [evT_tmp, upd_apply, WB_some, ↓reduceIte, reduceCtorEq, Nat.reduceEqDiff, Nat.reduceLT]; refine hK_ _ ?_; clear hK_ K_)))
                    refine WC_drawnB [.no, .no, .no, .no, .no, .no, .no, .no, .no, .no, .no, .no, .no, .no, .no, .no, .no, .no, .no, .no, .full] (by kernel_rfl) ?_
                    (repeat' (first
  | (with_reducible first | refine WC_seq ?_ | refine WC_skip ?_ | refine WC_label ?_ | refine WC_scope ?_ | refine WC_block ?_ | refine WC_ret ?_ | refine WC_exit ?_ | refine seqQ_norm ?_ | refine seqQ_ret ?_ | refine seqQ_exit ?_ | refine blkQ_norm ?_ | refine blkQ_ret ?_ | refine blkQ_here ?_ | refine gateK_yes ?_ | refine gateK_none ?_ | refine condK_tt ?_ | refine condK_ff ?_ | refine roundQ_exit ?_ | refine roundQ_ret ?_)
  | refine WC_region ?_ | refine blkQ_out rfl ?_ | refine WO_nil ?_ | refine WD_nil ?_
  | ((first | refine WD_gate rfl rfl rfl rfl rfl fun K_ hK_ => ?_ | refine WO_gate rfl rfl rfl rfl rfl fun K_ hK_ => ?_); simp only [upd_apply, asB_bool, asB_tup, ↓reduceIte, reduceCtorEq, Nat.reduceEqDiff, Bool.not_true, Bool.not_false]; refine hK_ _ ?_; clear hK_ K_)
  | refine gateK_no (by decide) ?_
  | ((try first | refine WO_op rfl rfl rfl ?_ | refine WO_op0 rfl rfl ?_ | refine WD_op rfl rfl rfl ?_ | refine WD_op0 rfl rfl ?_); (refine WV_gen fun Q_ hQ_ => ?_; simp (disch := first | omega | (simp only [List.length_cons, List.length_nil, List.length_append]; omega)) only [bb, bp, argF, ↓reduceIte, reduceCtorEq, Nat.reduceEqDiff, Nat.reduceLT, Nat.reduceLeDiff, Nat.reduceAdd, Nat.reduceMul, Nat.reduceSub, Nat.reduceBEq, Int.reduceToNat, cond_true, cond_false, eq_self, beq_self_eq_true, g1, g3, g4, g6, g9, g10, g11, g12, g13, g14, g15, hx0, hy0, hlen, hix, hld, hlenv, hix2, hrow0, hrow1, newPtr_X wf, load1_X wf, loadAgg_X wf, store1_X wf, writeCells_X wf, makeFunc_def, tEvK4, hw1', hkm']; first | (refine dec_split (Q := Q_) (fun hp_ => ?_) (fun hp_ => ?_) <;> first | (exfalso; omega) | (refine hQ_ _ _ ?_; clear hQ_ Q_)) | (refine dec_splitn (Q := Q_) (fun hp_ => ?_) (fun hp_ => ?_) <;> first | (exfalso; omega) | (refine hQ_ _ _ ?_; clear hQ_ Q_)) | (refine hQ_ _ _ ?_; clear hQ_ Q_)))
  | (refine WC_cond fun K_ hK_ => ?_; simp (disch := omega) only [evT_tmp, upd_apply, WB_some, ↓reduceIte, reduceCtorEq, Nat.reduceEqDiff, Nat.reduceLT]; refine hK_ _ ?_; clear hK_ K_)))
                    all_goals
                      first
                        | (refine roundQ_again (j + 1) (by omega) ⟨by omega, by simp only [upd_apply, ↓reduceIte, reduceCtorEq, Nat.reduceEqDiff]; exact g1, by simp only [upd_apply, ↓reduceIte, reduceCtorEq, Nat.reduceEqDiff]; exact g3, by simp only [upd_apply, ↓reduceIte, reduceCtorEq, Nat.reduceEqDiff]; exact g4, by simp only [upd_apply, ↓reduceIte, reduceCtorEq, Nat.reduceEqDiff]; exact g6, by simp only [upd_apply, ↓reduceIte, reduceCtorEq, Nat.reduceEqDiff]; exact g9, by simp only [upd_apply, ↓reduceIte, reduceCtorEq, Nat.reduceEqDiff]; exact g10, by simp only [upd_apply, ↓reduceIte, reduceCtorEq, Nat.reduceEqDiff]; exact g11, by simp only [upd_apply, ↓reduceIte, reduceCtorEq, Nat.reduceEqDiff]; exact g12, by simp only [upd_apply, ↓reduceIte, reduceCtorEq, Nat.reduceEqDiff]; exact g13, by simp only [upd_apply, ↓reduceIte, reduceCtorEq, Nat.reduceEqDiff]; exact congrArg ii (mx_taken (by rw [hyy]; exact hFy) hbst (by first | exact .inl (by omega) | exact .inr (.inl ⟨rfl, by omega⟩) | exact .inr (.inr ⟨rfl, by omega⟩))), by simp only [upd_apply, ↓reduceIte, reduceCtorEq, Nat.reduceEqDiff]; exact congrArg ii (by omega), rfl, rfl⟩)
                        | (refine roundQ_again (j + 1) (by omega) ⟨by omega, by simp only [upd_apply, ↓reduceIte, reduceCtorEq, Nat.reduceEqDiff]; exact g1, by simp only [upd_apply, ↓reduceIte, reduceCtorEq, Nat.reduceEqDiff]; exact g3, by simp only [upd_apply, ↓reduceIte, reduceCtorEq, Nat.reduceEqDiff]; exact g4, by simp only [upd_apply, ↓reduceIte, reduceCtorEq, Nat.reduceEqDiff]; exact g6, by simp only [upd_apply, ↓reduceIte, reduceCtorEq, Nat.reduceEqDiff]; exact g9, by simp only [upd_apply, ↓reduceIte, reduceCtorEq, Nat.reduceEqDiff]; exact g10, by simp only [upd_apply, ↓reduceIte, reduceCtorEq, Nat.reduceEqDiff]; exact g11, by simp only [upd_apply, ↓reduceIte, reduceCtorEq, Nat.reduceEqDiff]; exact g12, by simp only [upd_apply, ↓reduceIte, reduceCtorEq, Nat.reduceEqDiff]; exact g13, by simp only [upd_apply, ↓reduceIte, reduceCtorEq, Nat.reduceEqDiff]; rw [g14]; exact congrArg ii (mx_left (by rw [hyy]; exact hFy) hbst (by omega) (by first | (intro _; omega) | (intro hh; cases hh)) (by first | (intro _; omega) | (intro hh; cases hh))), by simp only [upd_apply, ↓reduceIte, reduceCtorEq, Nat.reduceEqDiff]; exact congrArg ii (by omega), rfl, rfl⟩)
                  · (repeat' (first
  | (with_reducible first | refine WC_seq ?_ | refine WC_skip ?_ | refine WC_label ?_ | refine WC_scope ?_ | refine WC_block ?_ | refine WC_ret ?_ | refine WC_exit ?_ | refine seqQ_norm ?_ | refine seqQ_ret ?_ | refine seqQ_exit ?_ | refine blkQ_norm ?_ | refine blkQ_ret ?_ | refine blkQ_here ?_ | refine gateK_yes ?_ | refine gateK_none ?_ | refine condK_tt ?_ | refine condK_ff ?_ | refine roundQ_exit ?_ | refine roundQ_ret ?_)
  | refine WC_region ?_ | refine blkQ_out rfl ?_ | refine WO_nil ?_ | refine WD_nil ?_
  | ((first | refine WD_gate rfl rfl rfl rfl rfl fun K_ hK_ => ?_ | refine WO_gate rfl rfl rfl rfl rfl fun K_ hK_ => ?_); simp only [upd_apply, asB_bool, asB_tup, ↓reduceIte, reduceCtorEq, Nat.reduceEqDiff, Bool.not_true, Bool.not_false]; refine hK_ _ ?_; clear hK_ K_)
  | refine gateK_no (by decide) ?_
  | ((try first | refine WO_op rfl rfl rfl ?_ | refine WO_op0 rfl rfl ?_ | refine WD_op rfl rfl rfl ?_ | refine WD_op0 rfl rfl ?_); (refine WV_gen fun Q_ hQ_ => ?_; simp (disch := first | omega | (simp only [List.length_cons, List.length_nil, List.length_append]; omega)) only [bb, bp, argF, ↓reduceIte, reduceCtorEq, Nat.reduceEqDiff, Nat.reduceLT, Nat.reduceLeDiff, Nat.reduceAdd, Nat.reduceMul, Nat.reduceSub, Nat.reduceBEq, Int.reduceToNat, cond_true, cond_false, eq_self, beq_self_eq_true, g1, g3, g4, g6, g9, g10, g11, g12, g13, g14, g15, hx0, hy0, hlen, hix, hld, hlenv, hix2, hrow0, hrow1, newPtr_X wf, load1_X wf, loadAgg_X wf, store1_X wf, writeCells_X wf, makeFunc_def, tEvK4, hw1', hkm']; first | (refine dec_split (Q := Q_) (fun hp_ => ?_) (fun hp_ => ?_) <;> first | (exfalso; omega) | (refine hQ_ _ _ ?_; clear hQ_ Q_)) | (refine dec_splitn (Q := Q_) (fun hp_ => ?_) (fun hp_ => ?_) <;> first | (exfalso; omega) | (refine hQ_ _ _ ?_; clear hQ_ Q_)) | (refine hQ_ _ _ ?_; clear hQ_ Q_)))
  | (refine WC_cond fun K_ hK_ => ?_; simp (disch := omega) only [evT_tmp, upd_apply, WB_some, ↓reduceIte, reduceCtorEq, Nat.reduceEqDiff, Nat.reduceLT]; refine hK_ _ ?_; clear hK_ K_)))
                    refine WC_drawnB [.no, .no, .no, .no, .no, .no, .no, .no, .no, .no, .no, .no, .no, .no, .no, .no, .no, .no, .no, .no, .full] (by kernel_rfl) ?_
                    (repeat' (first
  | (with_reducible first | refine WC_seq ?_ | refine WC_skip ?_ | refine WC_label ?_ | refine WC_scope ?_ | refine WC_block ?_ | refine WC_ret ?_ | refine WC_exit ?_ | refine seqQ_norm ?_ | refine seqQ_ret ?_ | refine seqQ_exit ?_ | refine blkQ_norm ?_ | refine blkQ_ret ?_ | refine blkQ_here ?_ | refine gateK_yes ?_ | refine gateK_none ?_ | refine condK_tt ?_ | refine condK_ff ?_ | refine roundQ_exit ?_ | refine roundQ_ret ?_)
  | refine WC_region ?_ | refine blkQ_out rfl ?_ | refine WO_nil ?_ | refine WD_nil ?_
  | ((first | refine WD_gate rfl rfl rfl rfl rfl fun K_ hK_ => ?_ | refine WO_gate rfl rfl rfl rfl rfl fun K_ hK_ => ?_); simp only [upd_apply, asB_bool, asB_tup, ↓reduceIte, reduceCtorEq, Nat.reduceEqDiff, Bool.not_true, Bool.not_false]; refine hK_ _ ?_; clear hK_ K_)
  | refine gateK_no (by decide) ?_
  | ((try first | refine WO_op rfl rfl rfl ?_ | refine WO_op0 rfl rfl ?_ | refine WD_op rfl rfl rfl ?_ | refine WD_op0 rfl rfl ?_); (refine WV_gen fun Q_ hQ_ => ?_; simp (disch := first | omega | (simp only [List.length_cons, List.length_nil, List.length_append]; omega)) only [bb, bp, argF, ↓reduceIte, reduceCtorEq, Nat.reduceEqDiff, Nat.reduceLT, Nat.reduceLeDiff, Nat.reduceAdd, Nat.reduceMul, Nat.reduceSub, Nat.reduceBEq, Int.reduceToNat, cond_true, cond_false, eq_self, beq_self_eq_true, g1, g3, g4, g6, g9, g10, g11, g12, g13, g14, g15, hx0, hy0, hlen, hix, hld, hlenv, hix2, hrow0, hrow1, newPtr_X wf, load1_X wf, loadAgg_X wf, store1_X wf, writeCells_X wf, makeFunc_def, tEvK4, hw1', hkm']; first | (refine dec_split (Q := Q_) (fun hp_ => ?_) (fun hp_ => ?_) <;> first | (exfalso; omega) | (refine hQ_ _ _ ?_; clear hQ_ Q_)) | (refine dec_splitn (Q := Q_) (fun hp_ => ?_) (fun hp_ => ?_) <;> first | (exfalso; omega) | (refine hQ_ _ _ ?_; clear hQ_ Q_)) | (refine hQ_ _ _ ?_; clear hQ_ Q_)))
  | (refine WC_cond fun K_ hK_ => ?_; simp (disch := omega) only [evT_tmp, upd_apply, WB_some, ↓reduceIte, reduceCtorEq, Nat.reduceEqDiff, Nat.reduceLT]; refine hK_ _ ?_; clear hK_ K_)))
                    all_goals
                      first
                        | (refine roundQ_again (j + 1) (by omega) ⟨by omega, by simp only [upd_apply, ↓reduceIte, reduceCtorEq, Nat.reduceEqDiff]; exact g1, by simp only [upd_apply, ↓reduceIte, reduceCtorEq, Nat.reduceEqDiff]; exact g3, by simp only [upd_apply, ↓reduceIte, reduceCtorEq, Nat.reduceEqDiff]; exact g4, by simp only [upd_apply, ↓reduceIte, reduceCtorEq, Nat.reduceEqDiff]; exact g6, by simp only [upd_apply, ↓reduceIte, reduceCtorEq, Nat.reduceEqDiff]; exact g9, by simp only [upd_apply, ↓reduceIte, reduceCtorEq, Nat.reduceEqDiff]; exact g10, by simp only [upd_apply, ↓reduceIte, reduceCtorEq, Nat.reduceEqDiff]; exact g11, by simp only [upd_apply, ↓reduceIte, reduceCtorEq, Nat.reduceEqDiff]; exact g12, by simp only [upd_apply, ↓reduceIte, reduceCtorEq, Nat.reduceEqDiff]; exact g13, by simp only [upd_apply, ↓reduceIte, reduceCtorEq, Nat.reduceEqDiff]; exact congrArg ii (mx_taken (by rw [hyy]; exact hFy) hbst (by first | exact .inl (by omega) | exact .inr (.inl ⟨rfl, by omega⟩) | exact .inr (.inr ⟨rfl, by omega⟩))), by simp only [upd_apply, ↓reduceIte, reduceCtorEq, Nat.reduceEqDiff]; exact congrArg ii (by omega), rfl, rfl⟩)
                        | (refine roundQ_again (j + 1) (by omega) ⟨by omega, by simp only [upd_apply, ↓reduceIte, reduceCtorEq, Nat.reduceEqDiff]; exact g1, by simp only [upd_apply, ↓reduceIte, reduceCtorEq, Nat.reduceEqDiff]; exact g3, by simp only [upd_apply, ↓reduceIte, reduceCtorEq, Nat.reduceEqDiff]; exact g4, by simp only [upd_apply, ↓reduceIte, reduceCtorEq, Nat.reduceEqDiff]; exact g6, by simp only [upd_apply, ↓reduceIte, reduceCtorEq, Nat.reduceEqDiff]; exact g9, by simp only [upd_apply, ↓reduceIte, reduceCtorEq, Nat.reduceEqDiff]; exact g10, by simp only [upd_apply, ↓reduceIte, reduceCtorEq, Nat.reduceEqDiff]; exact g11, by simp only [upd_apply, ↓reduceIte, reduceCtorEq, Nat.reduceEqDiff]; exact g12, by simp only [upd_apply, ↓reduceIte, reduceCtorEq, Nat.reduceEqDiff]; exact g13, by simp only [upd_apply, ↓reduceIte, reduceCtorEq, Nat.reduceEqDiff]; rw [g14]; exact congrArg ii (mx_left (by rw [hyy]; exact hFy) hbst (by omega) (by first | (intro _; omega) | (intro hh; cases hh)) (by first | (intro _; omega) | (intro hh; cases hh))), by simp only [upd_apply, ↓reduceIte, reduceCtorEq, Nat.reduceEqDiff]; exact congrArg ii (by omega), rfl, rfl⟩)
                · have hkm' : ¬ (k : Int) = (m : Int) - 1 := by omega
                  have hx0 : D * (3 * st * st * (k : Int) * w * y) - N * (3 * st * w * y) = gapOf (gOf 2) sp st m i k w N D y := by
                    simp only [gapOf, gOf, numOf, denOf, ↓reduceIte, Nat.reduceEqDiff, reduceCtorEq, Int.reduceEq, hkm]; grind
                  cases high
                  · (repeat' (first
  | (with_reducible first | refine WC_seq ?_ | refine WC_skip ?_ | refine WC_label ?_ | refine WC_scope ?_ | refine WC_block ?_ | refine WC_ret ?_ | refine WC_exit ?_ | refine seqQ_norm ?_ | refine seqQ_ret ?_ | refine seqQ_exit ?_ | refine blkQ_norm ?_ | refine blkQ_ret ?_ | refine blkQ_here ?_ | refine gateK_yes ?_ | refine gateK_none ?_ | refine condK_tt ?_ | refine condK_ff ?_ | refine roundQ_exit ?_ | refine roundQ_ret ?_)
  | refine WC_region ?_ | refine blkQ_out rfl ?_ | refine WO_nil ?_ | refine WD_nil ?_
  | ((first | refine WD_gate rfl rfl rfl rfl rfl fun K_ hK_ => ?_ | refine WO_gate rfl rfl rfl rfl rfl fun K_ hK_ => ?_); simp only [upd_apply, asB_bool, asB_tup, ↓reduceIte, reduceCtorEq, Nat.reduceEqDiff, Bool.not_true, Bool.not_false]; refine hK_ _ ?_; clear hK_ K_)
  | refine gateK_no (by decide) ?_
  | ((try first | refine WO_op rfl rfl rfl ?_ | refine WO_op0 rfl rfl ?_ | refine WD_op rfl rfl rfl ?_ | refine WD_op0 rfl rfl ?_); (refine WV_gen fun Q_ hQ_ => ?_; simp (disch := first | omega | (simp only [List.length_cons, List.length_nil, List.length_append]; omega)) only [bb, bp, argF, ↓reduceIte, reduceCtorEq, Nat.reduceEqDiff, Nat.reduceLT, Nat.reduceLeDiff, Nat.reduceAdd, Nat.reduceMul, Nat.reduceSub, Nat.reduceBEq, Int.reduceToNat, cond_true, cond_false, eq_self, beq_self_eq_true, g1, g3, g4, g6, g9, g10, g11, g12, g13, g14, g15, hx0, hy0, hlen, hix, hld, hlenv, hix2, hrow0, hrow1, newPtr_X wf, load1_X wf, loadAgg_X wf, store1_X wf, writeCells_X wf, makeFunc_def, tEvK4]; first | (refine dec_split (Q := Q_) (fun hp_ => ?_) (fun hp_ => ?_) <;> first | (exfalso; omega) | (refine hQ_ _ _ ?_; clear hQ_ Q_)) | (refine dec_splitn (Q := Q_) (fun hp_ => ?_) (fun hp_ => ?_) <;> first | (exfalso; omega) | (refine hQ_ _ _ ?_; clear hQ_ Q_)) | (refine hQ_ _ _ ?_; clear hQ_ Q_)))
  | (refine WC_cond fun K_ hK_ => ?_; simp (disch := omega) only [evT_tmp, upd_apply, WB_some, ↓reduceIte, reduceCtorEq, Nat.reduceEqDiff, Nat.reduceLT]; refine hK_ _ ?_; clear hK_ K_)))
                    refine WC_drawnB [.no, .no, .no, .no, .no, .no, .no, .no, .no, .no, .no, .no, .no, .no, .no, .no, .no, .no, .no, .no, .full] (by kernel_rfl) ?_
                    (repeat' (first
  | (with_reducible first | refine WC_seq ?_ | refine WC_skip ?_ | refine WC_label ?_ | refine WC_scope ?_ | refine WC_block ?_ | refine WC_ret ?_ | refine WC_exit ?_ | refine seqQ_norm ?_ | refine seqQ_ret ?_ | refine seqQ_exit ?_ | refine blkQ_norm ?_ | refine blkQ_ret ?_ | refine blkQ_here ?_ | refine gateK_yes ?_ | refine gateK_none ?_ | refine condK_tt ?_ | refine condK_ff ?_ | refine roundQ_exit ?_ | refine roundQ_ret ?_)
  | refine WC_region ?_ | refine blkQ_out rfl ?_ | refine WO_nil ?_ | refine WD_nil ?_
  | ((first | refine WD_gate rfl rfl rfl rfl rfl fun K_ hK_ => ?_ | refine WO_gate rfl rfl rfl rfl rfl fun K_ hK_ => ?_); simp only [upd_apply, asB_bool, asB_tup, ↓reduceIte, reduceCtorEq, Nat.reduceEqDiff, Bool.not_true, Bool.not_false]; refine hK_ _ ?_; clear hK_ K_)
  | refine gateK_no (by decide) ?_
  | ((try first | refine WO_op rfl rfl rfl ?_ | refine WO_op0 rfl rfl ?_ | refine WD_op rfl rfl rfl ?_ | refine WD_op0 rfl rfl ?_); (refine WV_gen fun Q_ hQ_ => ?_; simp (disch := first | omega | (simp only [List.length_cons, List.length_nil, List.length_append]; omega)) only [bb, bp, argF, ↓reduceIte, reduceCtorEq, Nat.reduceEqDiff, Nat.reduceLT, Nat.reduceLeDiff, Nat.reduceAdd, Nat.reduceMul, Nat.reduceSub, Nat.reduceBEq, Int.reduceToNat, cond_true, cond_false, eq_self, beq_self_eq_true, g1, g3, g4, g6, g9, g10, g11, g12, g13, g14, g15, hx0, hy0, hlen, hix, hld, hlenv, hix2, hrow0, hrow1, newPtr_X wf, load1_X wf, loadAgg_X wf, store1_X wf, writeCells_X wf, makeFunc_def, tEvK4]; first | (refine dec_split (Q := Q_) (fun hp_ => ?_) (fun hp_ => ?_) <;> first | (exfalso; omega) | (refine hQ_ _ _ ?_; clear hQ_ Q_)) | (refine dec_splitn (Q := Q_) (fun hp_ => ?_) (fun hp_ => ?_) <;> first | (exfalso; omega) | (refine hQ_ _ _ ?_; clear hQ_ Q_)) | (refine hQ_ _ _ ?_; clear hQ_ Q_)))
  | (refine WC_cond fun K_ hK_ => ?_; simp (disch := omega) only [evT_tmp, upd_apply, WB_some, ↓reduceIte, reduceCtorEq, Nat.reduceEqDiff, Nat.reduceLT]; refine hK_ _ ?_; clear hK_ K_)))
                    all_goals
                      first
                        | (refine roundQ_again (j + 1) (by omega) ⟨by omega, by simp only [upd_apply, ↓reduceIte, reduceCtorEq, Nat.reduceEqDiff]; exact g1, by simp only [upd_apply, ↓reduceIte, reduceCtorEq, Nat.reduceEqDiff]; exact g3, by simp only [upd_apply, ↓reduceIte, reduceCtorEq, Nat.reduceEqDiff]; exact g4, by simp only [upd_apply, ↓reduceIte, reduceCtorEq, Nat.reduceEqDiff]; exact g6, by simp only [upd_apply, ↓reduceIte, reduceCtorEq, Nat.reduceEqDiff]; exact g9, by simp only [upd_apply, ↓reduceIte, reduceCtorEq, Nat.reduceEqDiff]; exact g10, by simp only [upd_apply, ↓reduceIte, reduceCtorEq, Nat.reduceEqDiff]; exact g11, by simp only [upd_apply, ↓reduceIte, reduceCtorEq, Nat.reduceEqDiff]; exact g12, by simp only [upd_apply, ↓reduceIte, reduceCtorEq, Nat.reduceEqDiff]; exact g13, by simp only [upd_apply, ↓reduceIte, reduceCtorEq, Nat.reduceEqDiff]; exact congrArg ii (mx_taken (by rw [hyy]; exact hFy) hbst (by first | exact .inl (by omega) | exact .inr (.inl ⟨rfl, by omega⟩) | exact .inr (.inr ⟨rfl, by omega⟩))), by simp only [upd_apply, ↓reduceIte, reduceCtorEq, Nat.reduceEqDiff]; exact congrArg ii (by omega), rfl, rfl⟩)
                        | (refine roundQ_again (j + 1) (by omega) ⟨by omega, by simp only [upd_apply, ↓reduceIte, reduceCtorEq, Nat.reduceEqDiff]; exact g1, by simp only [upd_apply, ↓reduceIte, reduceCtorEq, Nat.reduceEqDiff]; exact g3, by simp only [upd_apply, ↓reduceIte, reduceCtorEq, Nat.reduceEqDiff]; exact g4, by simp only [upd_apply, ↓reduceIte, reduceCtorEq, Nat.reduceEqDiff]; exact g6, by simp only [upd_apply, ↓reduceIte, reduceCtorEq, Nat.reduceEqDiff]; exact g9, by simp only [upd_apply, ↓reduceIte, reduceCtorEq, Nat.reduceEqDiff]; exact g10, by simp only [upd_apply, ↓reduceIte, reduceCtorEq, Nat.reduceEqDiff]; exact g11, by simp only [upd_apply, ↓reduceIte, reduceCtorEq, Nat.reduceEqDiff]; exact g12, by simp only [upd_apply, ↓reduceIte, reduceCtorEq, Nat.reduceEqDiff]; exact g13, by simp only [upd_apply, ↓reduceIte, reduceCtorEq, Nat.reduceEqDiff]; rw [g14]; exact congrArg ii (mx_left (by rw [hyy]; exact hFy) hbst (by omega) (by first | (intro _; omega) | (intro hh; cases hh)) (by first | (intro _; omega) | (intro hh; cases hh))), by simp only [upd_apply, ↓reduceIte, reduceCtorEq, Nat.reduceEqDiff]; exact congrArg ii (by omega), rfl, rfl⟩)
                  · (repeat' (first
  | (with_reducible first | refine WC_seq ?_ | refine WC_skip ?_ | refine WC_label ?_ | refine WC_scope ?_ | refine WC_block ?_ | refine WC_ret ?_ | refine WC_exit ?_ | refine seqQ_norm ?_ | refine seqQ_ret ?_ | refine seqQ_exit ?_ | refine blkQ_norm ?_ | refine blkQ_ret ?_ | refine blkQ_here ?_ | refine gateK_yes ?_ | refine gateK_none ?_ | refine condK_tt ?_ | refine condK_ff ?_ | refine roundQ_exit ?_ | refine roundQ_ret ?_)
  | refine WC_region ?_ | refine blkQ_out rfl ?_ | refine WO_nil ?_ | refine WD_nil ?_
  | ((first | refine WD_gate rfl rfl rfl rfl rfl fun K_ hK_ => ?_ | refine WO_gate rfl rfl rfl rfl rfl fun K_ hK_ => ?_); simp only [upd_apply, asB_bool, asB_tup, ↓reduceIte, reduceCtorEq, Nat.reduceEqDiff, Bool.not_true, Bool.not_false]; refine hK_ _ ?_; clear hK_ K_)
  | refine gateK_no (by decide) ?_
  | ((try first | refine WO_op rfl rfl rfl ?_ | refine WO_op0 rfl rfl ?_ | refine WD_op rfl rfl rfl ?_ | refine WD_op0 rfl rfl ?_); (refine WV_gen fun Q_ hQ_ => ?_; simp (disch := first | omega | (simp only [List.length_cons, List.length_nil, List.length_append]; omega)) only [bb, bp, argF, ↓reduceIte, reduceCtorEq, Nat.reduceEqDiff, Nat.reduceLT, Nat.reduceLeDiff, Nat.reduceAdd, Nat.reduceMul, Nat.reduceSub, Nat.reduceBEq, Int.reduceToNat, cond_true, cond_false, eq_self, beq_self_eq_true, g1, g3, g4, g6, g9, g10, g11, g12, g13, g14, g15, hx0, hy0, hlen, hix, hld, hlenv, hix2, hrow0, hrow1, newPtr_X wf, load1_X wf, loadAgg_X wf, store1_X wf, writeCells_X wf, makeFunc_def, tEvK4]; first | (refine dec_split (Q := Q_) (fun hp_ => ?_) (fun hp_ => ?_) <;> first | (exfalso; omega) | (refine hQ_ _ _ ?_; clear hQ_ Q_)) | (refine dec_splitn (Q := Q_) (fun hp_ => ?_) (fun hp_ => ?_) <;> first | (exfalso; omega) | (refine hQ_ _ _ ?_; clear hQ_ Q_)) | (refine hQ_ _ _ ?_; clear hQ_ Q_)))
  | (refine WC_cond fun K_ hK_ => ?_; simp (disch := omega) only [evT_tmp, upd_apply, WB_some, ↓reduceIte, reduceCtorEq, Nat.reduceEqDiff, Nat.reduceLT]; refine hK_ _ ?_; clear hK_ K_)))
                    refine WC_drawnB [.no, .no, .no, .no, .no, .no, .no, .no, .no, .no, .no, .no, .no, .no, .no, .no, .no, .no, .no, .no, .full] (by kernel_rfl) ?_
                    (repeat' (first
  | (with_reducible first | refine WC_seq ?_ | refine WC_skip ?_ | refine WC_label ?_ | refine WC_scope ?_ | refine WC_block ?_ | refine WC_ret ?_ | refine WC_exit ?_ | refine seqQ_norm ?_ | refine seqQ_ret ?_ | refine seqQ_exit ?_ | refine blkQ_norm ?_ | refine blkQ_ret ?_ | refine blkQ_here ?_ | refine gateK_yes ?_ | refine gateK_none ?_ | refine condK_tt ?_ | refine condK_ff ?_ | refine roundQ_exit ?_ | refine roundQ_ret ?_)
  | refine WC_region ?_ | refine blkQ_out rfl ?_ | refine WO_nil ?_ | refine WD_nil ?_
  | ((first | refine WD_gate rfl rfl rfl rfl rfl fun K_ hK_ => ?_ | refine WO_gate rfl rfl rfl rfl rfl fun K_ hK_ => ?_); simp only [upd_apply, asB_bool, asB_tup, ↓reduceIte, reduceCtorEq, Nat.reduceEqDiff, Bool.not_true, Bool.not_false]; refine hK_ _ ?_; clear hK_ K_)
  | refine gateK_no (by decide) ?_
  | ((try first | refine WO_op rfl rfl rfl ?_ | refine WO_op0 rfl rfl ?_ | refine WD_op rfl rfl rfl ?_ | refine WD_op0 rfl rfl ?_); (refine WV_gen fun Q_ hQ_ => ?_; simp (disch := first | omega | (simp only [List.length_cons, List.length_nil, List.length_append]; omega)) only [bb, bp, argF, ↓reduceIte, reduceCtorEq, Nat.reduceEqDiff, Nat.reduceLT, Nat.reduceLeDiff, Nat.reduceAdd, Nat.reduceMul, Nat.reduceSub, Nat.reduceBEq, Int.reduceToNat, cond_true, cond_false, eq_self, beq_self_eq_true, g1, g3, g4, g6, g9, g10, g11, g12, g13, g14, g15, hx0, hy0, hlen, hix, hld, hlenv, hix2, hrow0, hrow1, newPtr_X wf, load1_X wf, loadAgg_X wf, store1_X wf, writeCells_X wf, makeFunc_def, tEvK4]; first | (refine dec_split (Q := Q_) (fun hp_ => ?_) (fun hp_ => ?_) <;> first | (exfalso; omega) | (refine hQ_ _ _ ?_; clear hQ_ Q_)) | (refine dec_splitn (Q := Q_) (fun hp_ => ?_) (fun hp_ => ?_) <;> first | (exfalso; omega) | (refine hQ_ _ _ ?_; clear hQ_ Q_)) | (refine hQ_ _ _ ?_; clear hQ_ Q_)))
  | (refine WC_cond fun K_ hK_ => ?_; simp (disch := omega) only [evT_tmp, upd_apply, WB_some, ↓reduceIte, reduceCtorEq, Nat.reduceEqDiff, Nat.reduceLT]; refine hK_ _ ?_; clear hK_ K_)))
                    all_goals
                      first
                        | (refine roundQ_again (j + 1) (by omega) ⟨by omega, by simp only [upd_apply, ↓reduceIte, reduceCtorEq, Nat.reduceEqDiff]; exact g1, by simp only [upd_apply, ↓reduceIte, reduceCtorEq, Nat.reduceEqDiff]; exact g3, by simp only [upd_apply, ↓reduceIte, reduceCtorEq, Nat.reduceEqDiff]; exact g4, by simp only [upd_apply, ↓reduceIte, reduceCtorEq, Nat.reduceEqDiff]; exact g6, by simp only [upd_apply, ↓reduceIte, reduceCtorEq, Nat.reduceEqDiff]; exact g9, by simp only [upd_apply, ↓reduceIte, reduceCtorEq, Nat.reduceEqDiff]; exact g10, by simp only [upd_apply, ↓reduceIte, reduceCtorEq, Nat.reduceEqDiff]; exact g11, by simp only [upd_apply, ↓reduceIte, reduceCtorEq, Nat.reduceEqDiff]; exact g12, by simp only [upd_apply, ↓reduceIte, reduceCtorEq, Nat.reduceEqDiff]; exact g13, by simp only [upd_apply, ↓reduceIte, reduceCtorEq, Nat.reduceEqDiff]; exact congrArg ii (mx_taken (by rw [hyy]; exact hFy) hbst (by first | exact .inl (by omega) | exact .inr (.inl ⟨rfl, by omega⟩) | exact .inr (.inr ⟨rfl, by omega⟩))), by simp only [upd_apply, ↓reduceIte, reduceCtorEq, Nat.reduceEqDiff]; exact congrArg ii (by omega), rfl, rfl⟩)
                        | (refine roundQ_again (j + 1) (by omega) ⟨by omega, by simp only [upd_apply, ↓reduceIte, reduceCtorEq, Nat.reduceEqDiff]; exact g1, by simp only [upd_apply, ↓reduceIte, reduceCtorEq, Nat.reduceEqDiff]; exact g3, by simp only [upd_apply, ↓reduceIte, reduceCtorEq, Nat.reduceEqDiff]; exact g4, by simp only [upd_apply, ↓reduceIte, reduceCtorEq, Nat.reduceEqDiff]; exact g6, by simp only [upd_apply, ↓reduceIte, reduceCtorEq, Nat.reduceEqDiff]; exact g9, by simp only [upd_apply, ↓reduceIte, reduceCtorEq, Nat.reduceEqDiff]; exact g10, by simp only [upd_apply, ↓reduceIte, reduceCtorEq, Nat.reduceEqDiff]; exact g11, by simp only [upd_apply, ↓reduceIte, reduceCtorEq, Nat.reduceEqDiff]; exact g12, by simp only [upd_apply, ↓reduceIte, reduceCtorEq, Nat.reduceEqDiff]; exact g13, by simp only [upd_apply, ↓reduceIte, reduceCtorEq, Nat.reduceEqDiff]; rw [g14]; exact congrArg ii (mx_left (by rw [hyy]; exact hFy) hbst (by omega) (by first | (intro _; omega) | (intro hh; cases hh)) (by first | (intro _; omega) | (intro hh; cases hh))), by simp only [upd_apply, ↓reduceIte, reduceCtorEq, Nat.reduceEqDiff]; exact congrArg ii (by omega), rfl, rfl⟩)
            · have hje : j = nw + 1 := by omega
              have hyg : ¬ (r.1 + (j : Int) ≤ r.2) := by omega
              rw [if_neg (by omega), hje, Nat.add_sub_cancel] at g14
              have hfin : sgn high (mxf (fAt (gOf what) sp st rows.length m N D high (i * m + k)) r.1 nw) = refG (gOf what) sp st rows m N D high (i * m + k) := by unfold refG bestG; rw [hrr, hnw]
              rw [hfin] at g14
              (repeat' (first
  | (with_reducible first | refine WC_seq ?_ | refine WC_skip ?_ | refine WC_label ?_ | refine WC_scope ?_ | refine WC_block ?_ | refine WC_ret ?_ | refine WC_exit ?_ | refine seqQ_norm ?_ | refine seqQ_ret ?_ | refine seqQ_exit ?_ | refine blkQ_norm ?_ | refine blkQ_ret ?_ | refine blkQ_here ?_ | refine gateK_yes ?_ | refine gateK_none ?_ | refine condK_tt ?_ | refine condK_ff ?_ | refine roundQ_exit ?_ | refine roundQ_ret ?_)
  | refine WC_region ?_ | refine blkQ_out rfl ?_ | refine WO_nil ?_ | refine WD_nil ?_
  | ((first | refine WD_gate rfl rfl rfl rfl rfl fun K_ hK_ => ?_ | refine WO_gate rfl rfl rfl rfl rfl fun K_ hK_ => ?_); simp only [upd_apply, asB_bool, asB_tup, ↓reduceIte, reduceCtorEq, Nat.reduceEqDiff, Bool.not_true, Bool.not_false]; refine hK_ _ ?_; clear hK_ K_)
  | refine gateK_no (by decide) ?_
  | ((try first | refine WO_op rfl rfl rfl ?_ | refine WO_op0 rfl rfl ?_ | refine WD_op rfl rfl rfl ?_ | refine WD_op0 rfl rfl ?_); (refine WV_gen fun Q_ hQ_ => ?_; simp (disch := first | omega | (simp only [List.length_cons, List.length_nil, List.length_append]; omega)) only [bb, bp, argF, ↓reduceIte, reduceCtorEq, Nat.reduceEqDiff, Nat.reduceLT, Nat.reduceLeDiff, Nat.reduceAdd, Nat.reduceMul, Nat.reduceSub, Nat.reduceBEq, Int.reduceToNat, cond_true, cond_false, eq_self, beq_self_eq_true, g1, g3, g4, g6, g9, g10, g11, g12, g13, g14, g15, hyg, hlen, hix, hld, hlenv, hix2, hrow0, hrow1, newPtr_X wf, load1_X wf, loadAgg_X wf, store1_X wf, writeCells_X wf, makeFunc_def, tEvK4]; first | (refine dec_split (Q := Q_) (fun hp_ => ?_) (fun hp_ => ?_) <;> first | (exfalso; omega) | (refine hQ_ _ _ ?_; clear hQ_ Q_)) | (refine dec_splitn (Q := Q_) (fun hp_ => ?_) (fun hp_ => ?_) <;> first | (exfalso; omega) | (refine hQ_ _ _ ?_; clear hQ_ Q_)) | (refine hQ_ _ _ ?_; clear hQ_ Q_)))
  | (refine WC_cond fun K_ hK_ => ?_; simp (disch := omega) only [evT_tmp, upd_apply, WB_some, ↓reduceIte, reduceCtorEq, Nat.reduceEqDiff, Nat.reduceLT]; refine hK_ _ ?_; clear hK_ K_)))
              refine roundQ_again (k + 1) (by omega) ⟨hkl, by simp only [upd_apply, ↓reduceIte, reduceCtorEq, Nat.reduceEqDiff]; exact g1, by simp only [upd_apply, ↓reduceIte, reduceCtorEq, Nat.reduceEqDiff]; exact g3, by simp only [upd_apply, ↓reduceIte, reduceCtorEq, Nat.reduceEqDiff]; exact g4, by simp only [upd_apply, ↓reduceIte, reduceCtorEq, Nat.reduceEqDiff]; exact g6, by simp only [upd_apply, ↓reduceIte, reduceCtorEq, Nat.reduceEqDiff]; rfl, by simp only [upd_apply, ↓reduceIte, reduceCtorEq, Nat.reduceEqDiff]; exact g10, by simp only [upd_apply, ↓reduceIte, reduceCtorEq, Nat.reduceEqDiff]; exact g11, by simp only [upd_apply, ↓reduceIte, reduceCtorEq, Nat.reduceEqDiff]; rfl, rfl, rfl⟩
          · exact ⟨Nat.zero_le _, by simp only [upd_apply, ↓reduceIte, reduceCtorEq, Nat.reduceEqDiff]; exact g1, by simp only [upd_apply, ↓reduceIte, reduceCtorEq, Nat.reduceEqDiff]; exact g3, by simp only [upd_apply, ↓reduceIte, reduceCtorEq, Nat.reduceEqDiff]; exact g4, by simp only [upd_apply, ↓reduceIte, reduceCtorEq, Nat.reduceEqDiff]; exact g6, by simp only [upd_apply, ↓reduceIte, reduceCtorEq, Nat.reduceEqDiff]; exact g9, by simp only [upd_apply, ↓reduceIte, reduceCtorEq, Nat.reduceEqDiff]; exact g10, by simp only [upd_apply, ↓reduceIte, reduceCtorEq, Nat.reduceEqDiff]; exact g11, by simp only [upd_apply, ↓reduceIte, reduceCtorEq, Nat.reduceEqDiff]; exact g12, by simp only [upd_apply, ↓reduceIte, reduceCtorEq, Nat.reduceEqDiff], by simp only [upd_apply, ↓reduceIte, reduceCtorEq, Nat.reduceEqDiff]; (try rfl), by simp only [upd_apply, ↓reduceIte, reduceCtorEq, Nat.reduceEqDiff]; exact congrArg ii (by omega), rfl, rfl⟩
        · have hke : k = m := by omega
          rw [hke] at g9 g12
          (repeat' (first
  | (with_reducible first | refine WC_seq ?_ | refine WC_skip ?_ | refine WC_label ?_ | refine WC_scope ?_ | refine WC_block ?_ | refine WC_ret ?_ | refine WC_exit ?_ | refine seqQ_norm ?_ | refine seqQ_ret ?_ | refine seqQ_exit ?_ | refine blkQ_norm ?_ | refine blkQ_ret ?_ | refine blkQ_here ?_ | refine gateK_yes ?_ | refine gateK_none ?_ | refine condK_tt ?_ | refine condK_ff ?_ | refine roundQ_exit ?_ | refine roundQ_ret ?_)
  | refine WC_region ?_ | refine blkQ_out rfl ?_ | refine WO_nil ?_ | refine WD_nil ?_
  | ((first | refine WD_gate rfl rfl rfl rfl rfl fun K_ hK_ => ?_ | refine WO_gate rfl rfl rfl rfl rfl fun K_ hK_ => ?_); simp only [upd_apply, asB_bool, asB_tup, ↓reduceIte, reduceCtorEq, Nat.reduceEqDiff, Bool.not_true, Bool.not_false]; refine hK_ _ ?_; clear hK_ K_)
  | refine gateK_no (by decide) ?_
  | ((try first | refine WO_op rfl rfl rfl ?_ | refine WO_op0 rfl rfl ?_ | refine WD_op rfl rfl rfl ?_ | refine WD_op0 rfl rfl ?_); (refine WV_gen fun Q_ hQ_ => ?_; simp (disch := first | omega | (simp only [List.length_cons, List.length_nil, List.length_append]; omega)) only [bb, bp, argF, ↓reduceIte, reduceCtorEq, Nat.reduceEqDiff, Nat.reduceLT, Nat.reduceLeDiff, Nat.reduceAdd, Nat.reduceMul, Nat.reduceSub, Nat.reduceBEq, Int.reduceToNat, cond_true, cond_false, eq_self, beq_self_eq_true, g1, g3, g4, g6, g9, g10, g11, g12, newPtr_X wf, load1_X wf, loadAgg_X wf, store1_X wf, writeCells_X wf, makeFunc_def, tEvK4]; first | (refine dec_split (Q := Q_) (fun hp_ => ?_) (fun hp_ => ?_) <;> first | (exfalso; omega) | (refine hQ_ _ _ ?_; clear hQ_ Q_)) | (refine dec_splitn (Q := Q_) (fun hp_ => ?_) (fun hp_ => ?_) <;> first | (exfalso; omega) | (refine hQ_ _ _ ?_; clear hQ_ Q_)) | (refine hQ_ _ _ ?_; clear hQ_ Q_)))
  | (refine WC_cond fun K_ hK_ => ?_; simp (disch := omega) only [evT_tmp, upd_apply, WB_some, ↓reduceIte, reduceCtorEq, Nat.reduceEqDiff, Nat.reduceLT]; refine hK_ _ ?_; clear hK_ K_)))
          refine roundQ_again (i + 1) (by omega) ⟨hlt, by simp only [upd_apply, ↓reduceIte, reduceCtorEq, Nat.reduceEqDiff]; exact g1, by simp only [upd_apply, ↓reduceIte, reduceCtorEq, Nat.reduceEqDiff]; exact g3, by simp only [upd_apply, ↓reduceIte, reduceCtorEq, Nat.reduceEqDiff]; exact g4, by simp only [upd_apply, ↓reduceIte, reduceCtorEq, Nat.reduceEqDiff]; exact g6, by simp only [upd_apply, ↓reduceIte, reduceCtorEq, Nat.reduceEqDiff]; rw [Nat.succ_mul]; exact g9, by simp only [upd_apply, ↓reduceIte, reduceCtorEq, Nat.reduceEqDiff]; rfl, rfl, rfl⟩
      · exact ⟨Nat.zero_le _, by simp only [upd_apply, ↓reduceIte, reduceCtorEq, Nat.reduceEqDiff]; exact g1, by simp only [upd_apply, ↓reduceIte, reduceCtorEq, Nat.reduceEqDiff]; exact g3, by simp only [upd_apply, ↓reduceIte, reduceCtorEq, Nat.reduceEqDiff]; exact g4, by simp only [upd_apply, ↓reduceIte, reduceCtorEq, Nat.reduceEqDiff]; exact g6, by simp only [upd_apply, ↓reduceIte, reduceCtorEq, Nat.reduceEqDiff]; exact g9, by simp only [upd_apply, ↓reduceIte, reduceCtorEq, Nat.reduceEqDiff]; exact g10, by simp only [upd_apply, ↓reduceIte, reduceCtorEq, Nat.reduceEqDiff], by simp only [upd_apply, ↓reduceIte, reduceCtorEq, Nat.reduceEqDiff]; (try rfl), rfl, rfl⟩
    · have hie : i = rows.length := by omega
      subst hie
      (repeat' (first
  | (with_reducible first | refine WC_seq ?_ | refine WC_skip ?_ | refine WC_label ?_ | refine WC_scope ?_ | refine WC_block ?_ | refine WC_ret ?_ | refine WC_exit ?_ | refine seqQ_norm ?_ | refine seqQ_ret ?_ | refine seqQ_exit ?_ | refine blkQ_norm ?_ | refine blkQ_ret ?_ | refine blkQ_here ?_ | refine gateK_yes ?_ | refine gateK_none ?_ | refine condK_tt ?_ | refine condK_ff ?_ | refine roundQ_exit ?_ | refine roundQ_ret ?_)
  | refine WC_region ?_ | refine blkQ_out rfl ?_ | refine WO_nil ?_ | refine WD_nil ?_
  | ((first | refine WD_gate rfl rfl rfl rfl rfl fun K_ hK_ => ?_ | refine WO_gate rfl rfl rfl rfl rfl fun K_ hK_ => ?_); simp only [upd_apply, asB_bool, asB_tup, ↓reduceIte, reduceCtorEq, Nat.reduceEqDiff, Bool.not_true, Bool.not_false]; refine hK_ _ ?_; clear hK_ K_)
  | refine gateK_no (by decide) ?_
  | ((try first | refine WO_op rfl rfl rfl ?_ | refine WO_op0 rfl rfl ?_ | refine WD_op rfl rfl rfl ?_ | refine WD_op0 rfl rfl ?_); (refine WV_gen fun Q_ hQ_ => ?_; simp (disch := first | omega | (simp only [List.length_cons, List.length_nil, List.length_append]; omega)) only [bb, bp, argF, ↓reduceIte, reduceCtorEq, Nat.reduceEqDiff, Nat.reduceLT, Nat.reduceLeDiff, Nat.reduceAdd, Nat.reduceMul, Nat.reduceSub, Nat.reduceBEq, Int.reduceToNat, cond_true, cond_false, eq_self, beq_self_eq_true, g1, g3, g4, g6, g9, g10, hlen, newPtr_X wf, load1_X wf, loadAgg_X wf, store1_X wf, writeCells_X wf, makeFunc_def, tEvK4]; first | (refine dec_split (Q := Q_) (fun hp_ => ?_) (fun hp_ => ?_) <;> first | (exfalso; omega) | (refine hQ_ _ _ ?_; clear hQ_ Q_)) | (refine dec_splitn (Q := Q_) (fun hp_ => ?_) (fun hp_ => ?_) <;> first | (exfalso; omega) | (refine hQ_ _ _ ?_; clear hQ_ Q_)) | (refine hQ_ _ _ ?_; clear hQ_ Q_)))
  | (refine WC_cond fun K_ hK_ => ?_; simp (disch := omega) only [evT_tmp, upd_apply, WB_some, ↓reduceIte, reduceCtorEq, Nat.reduceEqDiff, Nat.reduceLT]; refine hK_ _ ?_; clear hK_ K_)))
      (refine endQ_ret _ _ rfl (ret1 (by decide)) ?_; simp only [upd_apply, ↓reduceIte, reduceCtorEq, Nat.reduceEqDiff]; refine WV_flat rfl (by omega) ?_)
      exact ⟨rfl, rfl⟩
  · exact ⟨Nat.zero_le _, by simp only [upd_apply, ↓reduceIte, reduceCtorEq, Nat.reduceEqDiff], by simp only [upd_apply, ↓reduceIte, reduceCtorEq, Nat.reduceEqDiff], by simp only [upd_apply, ↓reduceIte, reduceCtorEq, Nat.reduceEqDiff], by simp only [upd_apply, ↓reduceIte, reduceCtorEq, Nat.reduceEqDiff], by simp only [upd_apply, ↓reduceIte, reduceCtorEq, Nat.reduceEqDiff]; rw [Nat.zero_mul]; rfl, by simp only [upd_apply, ↓reduceIte, reduceCtorEq, Nat.reduceEqDiff]; (try rfl), rfl, rfl⟩
end Go.Proofs.Ytghondkiondeaac
end

/- EvK5 -/
section
/-
  LAYER 2: the statement BoxBounds, walked.
-/
namespace Go.Proofs.Ytghondkiondeaac
open Go.Ev
set_option maxRecDepth 100000
set_option linter.unusedSimpArgs false
set_option linter.unusedVariables false
set_option maxHeartbeats 4000000

end Go.Proofs.Ytghondkiondeaac
end

/- EvM7 -/
section
/-
  LAYER 2: what the ends are.
-/
namespace Go.Proofs.Ytghondkiondeaac
open Go.Ev
set_option maxRecDepth 100000
set_option linter.unusedSimpArgs false
set_option linter.unusedVariables false
set_option maxHeartbeats 2000000

section
variable {g : Nat} {sp st : Int} {rows : List (List (Int × Int))} {m : Nat}
theorem isBnd_of {N D : Int} (hb : bndIn N D) (hg : Int.gcd N D = 1) : isBnd N D = true := by
  unfold isBnd
  rw [decide_eq_true hb, hg]
  simp
theorem rat_bnd (k : HOK g sp st rows m) {gs : List Int} (hi : InG rows m gs) : bndIn (ratN g sp st rows m gs) (ratD g sp st rows m gs) ∧ isBnd (ratN g sp st rows m gs) (ratD g sp st rows m gs) = true := by
  obtain ⟨r1, r2⟩ := rat_in k hi
  have hb : bndIn (ratN g sp st rows m gs) (ratD g sp st rows m gs) := ⟨⟨r1.1, by omega⟩, r2.1, by omega⟩
  refine ⟨hb, isBnd_of hb ?_⟩
  unfold ratN ratD gcdG
  have h0 : 0 < Int.gcd (numG g sp st rows m gs) (denG g st rows m gs) := Int.gcd_pos_of_ne_zero_right _ (by have := denG_pos k hi; omega)
  exact Int.gcd_ediv_gcd_ediv_gcd h0

/-- In terms of the fraction. -/
theorem far_rat (k : HOK g sp st rows m) {gs : List Int} (hi : InG rows m gs) (N D : Int) (high : Bool) : farG g sp st rows m N D high gs ≤ 0 ↔ sgn high (ratN g sp st rows m gs * D - ratD g sp st rows m gs * N) ≤ 0 := by
  obtain ⟨g1, g2, g3⟩ := rat_num k hi
  rw [farG_eq, g2, g3]
  have e : sgn high (ratN g sp st rows m gs * gcdG g sp st rows m gs * D - ratD g sp st rows m gs * gcdG g sp st rows m gs * N) = sgn high (ratN g sp st rows m gs * D - ratD g sp st rows m gs * N) * gcdG g sp st rows m gs := by
    cases high
    · simp only [sgn_ff]; grind
    · simp only [sgn_tt]; grind
  rw [e]
  constructor
  · intro h
    rcases Int.lt_or_le 0 (sgn high (ratN g sp st rows m gs * D - ratD g sp st rows m gs * N)) with h1 | h1
    · have := Int.mul_pos h1 g1; omega
    · exact h1
  · intro h
    exact Int.mul_nonpos_of_nonpos_of_nonneg h (by omega)

/-- The hull that is farthest beyond any number. -/
def farHull (g : Nat) (sp st : Int) (rows : List (List (Int × Int))) (m : Nat) (N D : Int) (high : Bool) : List Int := gB (bestY g sp st rows m N D high) m (rows.length * m)
theorem farHull_in (k : HOK g sp st rows m) (N D : Int) (high : Bool) : InG rows m (farHull g sp st rows m N D high) ∧ farG g sp st rows m N D high (farHull g sp st rows m N D high) = psum (bestG g sp st rows m N D high) (rows.length * m) := by
  refine ⟨⟨gB_length _ _ _, fun q hq => ?_⟩, ?_⟩
  · unfold farHull
    rw [gB_at _ k.hn.2 k.hm.2 _ (Nat.le_refl _) q hq]
    obtain ⟨h1, h2, _⟩ := amx_in (f := fAt g sp st rows.length m N D high q) (lo := (rAt rows m q).1) (n := wide (rAt rows m q))
    have h3 := k.hoff q hq
    unfold isOff at h3
    unfold bestY
    refine ⟨h1, ?_⟩
    have : ((wide (rAt rows m q) : Nat) : Int) = (rAt rows m q).2 - (rAt rows m q).1 := by unfold wide; omega
    omega
  · unfold farG
    refine psum_congr fun q hq => ?_
    unfold farHull
    rw [gB_at _ k.hn.2 k.hm.2 _ (Nat.le_refl _) q hq]
    exact (amx_in (f := fAt g sp st rows.length m N D high q)).2.2

/-- No hull is beyond the end. -/
theorem theEnd_ok (k : HOK g sp st rows m) (high : Bool) : InG rows m (theEnd g sp st rows m high) ∧ sumG g sp st rows m high (theEnd g sp st rows m high) ≤ 0 := endG_ok k high _ (grid0_in k) (Nat.le_refl _)
theorem beyond (k : HOK g sp st rows m) (high : Bool) {gs : List Int} (hi : InG rows m gs) :
    sgn high (ratN g sp st rows m gs * ratD g sp st rows m (theEnd g sp st rows m high) - ratD g sp st rows m gs * ratN g sp st rows m (theEnd g sp st rows m high)) ≤ 0 := by
  obtain ⟨h1, h2⟩ := theEnd_ok k high
  refine (far_rat k hi _ _ high).1 ?_
  have := farG_le k (ratN g sp st rows m (theEnd g sp st rows m high)) (ratD g sp st rows m (theEnd g sp st rows m high)) high hi
  unfold sumG at h2
  omega
/-- A bound is kept just if the end keeps it. -/
theorem bound_iff (k : HOK g sp st rows m) (high : Bool) {N D : Int} (hD : 1 ≤ D) :
    psum (bestG g sp st rows m N D high) (rows.length * m) ≤ 0 ↔ sgn high (ratN g sp st rows m (theEnd g sp st rows m high) * D - ratD g sp st rows m (theEnd g sp st rows m high) * N) ≤ 0 := by
  obtain ⟨h1, h2⟩ := theEnd_ok k high
  constructor
  · intro h
    refine (far_rat k h1 N D high).1 ?_
    have := farG_le k N D high h1
    omega
  · intro h
    obtain ⟨f1, f2⟩ := farHull_in k N D high
    rw [← f2]
    refine (far_rat k f1 N D high).2 ?_
    have b := beyond k high f1
    obtain ⟨r1, r2⟩ := rat_in k h1
    obtain ⟨r3, r4⟩ := rat_in k f1
    generalize ratN g sp st rows m (farHull g sp st rows m N D high) = n at *
    generalize ratD g sp st rows m (farHull g sp st rows m N D high) = d at *
    generalize ratN g sp st rows m (theEnd g sp st rows m high) = en at *
    generalize ratD g sp st rows m (theEnd g sp st rows m high) = ed at *
    cases high
    · rw [sgn_ff] at *
      have h3 : d * en * D ≤ n * ed * D := Int.mul_le_mul_of_nonneg_right (by omega) (by omega)
      have h4 : d * (ed * N) ≤ d * (en * D) := Int.mul_le_mul_of_nonneg_left (by omega) (by omega)
      have h5 : d * N * ed ≤ n * D * ed := by grind
      have := Int.le_of_mul_le_mul_right h5 (by omega)
      omega
    · rw [sgn_tt] at *
      have h3 : n * ed * D ≤ d * en * D := Int.mul_le_mul_of_nonneg_right (by omega) (by omega)
      have h4 : d * (en * D) ≤ d * (ed * N) := Int.mul_le_mul_of_nonneg_left (by omega) (by omega)
      have h5 : n * D * ed ≤ d * N * ed := by grind
      have := Int.le_of_mul_le_mul_right h5 (by omega)
      omega
end

/-- A grid's offsets as lists are those of a true hull. -/
def listOf (gs : List Int) (n m : Nat) : List (List Int) := (List.range n).map (gRow gs m)
theorem listOf_at {gs : List Int} {n m q : Nat} (hl : gs.length = 60) (hn : n ≤ 10) (hm : m ≤ 6) (hq : q < n * m) : yAt (listOf gs n m) m q = yat gs m q := by
  obtain ⟨i1, i2, i3⟩ := place_idx hm hn hq
  have e : ((List.range n).map (gRow gs m)).getD (q / m) [] = gRow gs m (q / m) := by
    rw [List.getD_eq_getElem?_getD, List.getElem?_map, List.getElem?_range i1]
    rfl
  unfold yAt yat listOf
  rw [e]
  unfold gRow
  rw [List.getD_eq_getElem?_getD, List.getElem?_take_of_lt i2, List.getElem?_drop, List.getD_eq_getElem?_getD]
theorem true_listOf {sp st : Int} {rows : List (List (Int × Int))} (he : hullErr sp st rows = 0) {gs : List Int} (hi : InG rows (m0 rows) gs) : trueErr sp st rows (listOf gs rows.length (m0 rows)) = 0 := by
  obtain ⟨hn, hm, hall, hsp, hst, hof⟩ := hullErr_ok he
  unfold trueErr
  rw [if_neg (not_not_intro he), if_neg (not_not_intro (by unfold listOf; simp)), if_neg (not_not_intro (fun y hy => ?_)), if_neg (not_not_intro (fun q hq => ?_))]
  · unfold inR
    rw [listOf_at hi.1 hn.2 hm.2 hq]
    exact hi.2 q hq
  · unfold listOf at hy
    obtain ⟨i, hi', rfl⟩ := List.mem_map.1 hy
    rw [List.mem_range] at hi'
    exact gRow_length hi.1 (by omega) hm.2
theorem val_listOf {sp st : Int} {rows : List (List (Int × Int))} (he : hullErr sp st rows = 0) {gs : List Int} (hi : InG rows (m0 rows) gs) {what : Int} (hwh : 0 ≤ what ∧ what ≤ 2) :
    valOut sp st rows (listOf gs rows.length (m0 rows)) what = .tup [.agg [ii (ratN (gOf what) sp st rows (m0 rows) gs), ii (ratD (gOf what) sp st rows (m0 rows) gs)], ii 0] := by
  obtain ⟨hn, hm, hall, hsp, hst, hof⟩ := hullErr_ok he
  unfold valOut
  rw [if_pos (true_listOf he hi), if_pos hwh]
  have e1 : numS (gOf what) sp st rows.length (m0 rows) (listOf gs rows.length (m0 rows)) = numG (gOf what) sp st rows (m0 rows) gs := psum_congr fun q hq => by
    unfold nuAt W
    rw [listOf_at hi.1 hn.2 hm.2 hq]
  have e2 : denS (gOf what) st rows.length (m0 rows) (listOf gs rows.length (m0 rows)) = denG (gOf what) st rows (m0 rows) gs := psum_congr fun q hq => by
    unfold deAt W
    rw [listOf_at hi.1 hn.2 hm.2 hq]
  rw [e1, e2]
  rfl
end Go.Proofs.Ytghondkiondeaac
end

/- EvM8 -/
section
/-
  LAYER 2: the statement BoxAttained, walked.
-/
namespace Go.Proofs.Ytghondkiondeaac
open Go.Ev
set_option maxRecDepth 100000
set_option linter.unusedSimpArgs false
set_option linter.unusedVariables false
set_option maxHeartbeats 4000000

theorem tEvM8 : type_of% (And.intro (And.intro (And.intro (And.intro (And.intro (@ia_2) (@sz_2)) (And.intro (@ze_2) (@ia_3))) (And.intro (And.intro (@sz_3) (@ia_4)) (And.intro (@sz_4) (@ia_5)))) (And.intro (And.intro (And.intro (@sz_5) (@ia_24)) (And.intro (@sz_24) (@ia_22))) (And.intro (And.intro (@sz_22) (@ia_34)) (And.intro (@sz_34) (@ia_26))))) (And.intro (And.intro (And.intro (And.intro (@sz_26) (@ze_26)) (And.intro (@ia_39) (@sz_39))) (And.intro (And.intro (@ze_39) (@fo_39_0)) (And.intro (@fo_39_1) (@pb_9)))) (And.intro (And.intro (And.intro (@pb_10) (@pb_11)) (And.intro (@pb_13) (@pb_18))) (And.intro (And.intro (@pb_20) (@pb_21)) (And.intro (@pb_22) (And.intro (@pb_23) (@pb_31))))))) := And.intro (And.intro (And.intro (And.intro (And.intro (@ia_2) (@sz_2)) (And.intro (@ze_2) (@ia_3))) (And.intro (And.intro (@sz_3) (@ia_4)) (And.intro (@sz_4) (@ia_5)))) (And.intro (And.intro (And.intro (@sz_5) (@ia_24)) (And.intro (@sz_24) (@ia_22))) (And.intro (And.intro (@sz_22) (@ia_34)) (And.intro (@sz_34) (@ia_26))))) (And.intro (And.intro (And.intro (And.intro (@sz_26) (@ze_26)) (And.intro (@ia_39) (@sz_39))) (And.intro (And.intro (@ze_39) (@fo_39_0)) (And.intro (@fo_39_1) (@pb_9)))) (And.intro (And.intro (And.intro (@pb_10) (@pb_11)) (And.intro (@pb_13) (@pb_18))) (And.intro (And.intro (@pb_20) (@pb_21)) (And.intro (@pb_22) (And.intro (@pb_23) (@pb_31))))))
/-- Few parts, and valid. -/
def Fine (sp st : Int) (rows : List (List (Int × Int))) : Prop := ¬ Great rows [] ∧ hullErr sp st rows = 0
theorem ysNil (h : H) (wf : Wf h) : YsR h .nils [] [] := ⟨wf, Sl.nil _ _, fun i hi => absurd hi (Nat.not_lt_zero i)⟩
theorem fineC (sp st : Int) (a : AV) (rvs : List AV) (rows : List (List (Int × Int))) (h : H) (x : HullR h a rvs rows) :
    (om Try.prog KK).call (.fn 13 [.agg [ii sp, ii st, a]]) h = .ok (.bool (!decide (Great rows []) && decide (hullErr sp st rows = 0))) h := by
  have wf := x.wf
  have hgr : ∀ l w, w ≤ h.clock + l.length → (om Try.prog KK).call (.fn 9 [.agg [ii sp, ii st, a], .nils]) (X h l w) = .ok (.bool (decide (Great rows []))) (X h l w) := fun l w hw => great sp st a .nils rvs [] rows [] _ (x.up l w hw) (ysNil _ (wf.X hw))
  have h31 : ∀ l w, w ≤ h.clock + l.length → (om Try.prog KK).call (.fn 31 [.agg [ii sp, ii st, a]]) (X h l w) = .ok (ii (hullErr sp st rows)) (X h l w) := fun l w hw => checkHullR sp st a rvs rows _ (x.up l w hw)
  refine WV_to (WV_call (fn := Try.f13) Try.func13 rfl rfl rfl rfl rfl ?_)
  simp only [argF]
  by_cases hG : Great rows []
  · rw [decide_eq_true hG] at hgr ⊢
    (repeat' (first
  | (with_reducible first | refine WC_seq ?_ | refine WC_skip ?_ | refine WC_label ?_ | refine WC_scope ?_ | refine WC_block ?_ | refine WC_ret ?_ | refine WC_exit ?_ | refine seqQ_norm ?_ | refine seqQ_ret ?_ | refine seqQ_exit ?_ | refine blkQ_norm ?_ | refine blkQ_ret ?_ | refine blkQ_here ?_ | refine gateK_yes ?_ | refine gateK_none ?_ | refine condK_tt ?_ | refine condK_ff ?_ | refine roundQ_exit ?_ | refine roundQ_ret ?_)
  | refine WC_region ?_ | refine blkQ_out rfl ?_ | refine WO_nil ?_ | refine WD_nil ?_
  | ((first | refine WD_gate rfl rfl rfl rfl rfl fun K_ hK_ => ?_ | refine WO_gate rfl rfl rfl rfl rfl fun K_ hK_ => ?_); simp only [upd_apply, asB_bool, asB_tup, ↓reduceIte, reduceCtorEq, Nat.reduceEqDiff, Bool.not_true, Bool.not_false]; refine hK_ _ ?_; clear hK_ K_)
  | refine gateK_no (by decide) ?_
  | ((try first | refine WO_op rfl rfl rfl ?_ | refine WO_op0 rfl rfl ?_ | refine WD_op rfl rfl rfl ?_ | refine WD_op0 rfl rfl ?_); (refine WV_gen fun Q_ hQ_ => ?_; simp (disch := first | omega | (simp only [List.length_cons, List.length_nil, List.length_append]; omega)) only [bb, bp, argF, ↓reduceIte, reduceCtorEq, Nat.reduceEqDiff, Nat.reduceLT, Nat.reduceLeDiff, Nat.reduceAdd, Nat.reduceMul, Nat.reduceSub, Nat.reduceBEq, Int.reduceToNat, cond_true, cond_false, eq_self, beq_self_eq_true, hgr, h31, newPtr_X wf, load1_X wf, loadAgg_X wf, store1_X wf, writeCells_X wf, makeFunc_def, tEvM8]; first | (refine dec_split (Q := Q_) (fun hp_ => ?_) (fun hp_ => ?_) <;> first | (exfalso; omega) | (refine hQ_ _ _ ?_; clear hQ_ Q_)) | (refine dec_splitn (Q := Q_) (fun hp_ => ?_) (fun hp_ => ?_) <;> first | (exfalso; omega) | (refine hQ_ _ _ ?_; clear hQ_ Q_)) | (refine hQ_ _ _ ?_; clear hQ_ Q_)))
  | (refine WC_cond fun K_ hK_ => ?_; simp (disch := omega) only [evT_tmp, upd_apply, WB_some, ↓reduceIte, reduceCtorEq, Nat.reduceEqDiff, Nat.reduceLT]; refine hK_ _ ?_; clear hK_ K_)))
    all_goals (refine endQ_ret _ _ rfl (ret1 (by decide)) ?_; simp only [upd_apply, ↓reduceIte, reduceCtorEq, Nat.reduceEqDiff]; refine WV_flat rfl (by omega) ?_)
    all_goals exact ⟨by simp [*], rfl⟩
  · rw [decide_eq_false hG] at hgr ⊢
    (repeat' (first
  | (with_reducible first | refine WC_seq ?_ | refine WC_skip ?_ | refine WC_label ?_ | refine WC_scope ?_ | refine WC_block ?_ | refine WC_ret ?_ | refine WC_exit ?_ | refine seqQ_norm ?_ | refine seqQ_ret ?_ | refine seqQ_exit ?_ | refine blkQ_norm ?_ | refine blkQ_ret ?_ | refine blkQ_here ?_ | refine gateK_yes ?_ | refine gateK_none ?_ | refine condK_tt ?_ | refine condK_ff ?_ | refine roundQ_exit ?_ | refine roundQ_ret ?_)
  | refine WC_region ?_ | refine blkQ_out rfl ?_ | refine WO_nil ?_ | refine WD_nil ?_
  | ((first | refine WD_gate rfl rfl rfl rfl rfl fun K_ hK_ => ?_ | refine WO_gate rfl rfl rfl rfl rfl fun K_ hK_ => ?_); simp only [upd_apply, asB_bool, asB_tup, ↓reduceIte, reduceCtorEq, Nat.reduceEqDiff, Bool.not_true, Bool.not_false]; refine hK_ _ ?_; clear hK_ K_)
  | refine gateK_no (by decide) ?_
  | ((try first | refine WO_op rfl rfl rfl ?_ | refine WO_op0 rfl rfl ?_ | refine WD_op rfl rfl rfl ?_ | refine WD_op0 rfl rfl ?_); (refine WV_gen fun Q_ hQ_ => ?_; simp (disch := first | omega | (simp only [List.length_cons, List.length_nil, List.length_append]; omega)) only [bb, bp, argF, ↓reduceIte, reduceCtorEq, Nat.reduceEqDiff, Nat.reduceLT, Nat.reduceLeDiff, Nat.reduceAdd, Nat.reduceMul, Nat.reduceSub, Nat.reduceBEq, Int.reduceToNat, cond_true, cond_false, eq_self, beq_self_eq_true, hgr, h31, newPtr_X wf, load1_X wf, loadAgg_X wf, store1_X wf, writeCells_X wf, makeFunc_def, tEvM8]; first | (refine dec_split (Q := Q_) (fun hp_ => ?_) (fun hp_ => ?_) <;> first | (exfalso; omega) | (refine hQ_ _ _ ?_; clear hQ_ Q_)) | (refine dec_splitn (Q := Q_) (fun hp_ => ?_) (fun hp_ => ?_) <;> first | (exfalso; omega) | (refine hQ_ _ _ ?_; clear hQ_ Q_)) | (refine hQ_ _ _ ?_; clear hQ_ Q_)))
  | (refine WC_cond fun K_ hK_ => ?_; simp (disch := omega) only [evT_tmp, upd_apply, WB_some, ↓reduceIte, reduceCtorEq, Nat.reduceEqDiff, Nat.reduceLT]; refine hK_ _ ?_; clear hK_ K_)))
    all_goals (refine endQ_ret _ _ rfl (ret1 (by decide)) ?_; simp only [upd_apply, ↓reduceIte, reduceCtorEq, Nat.reduceEqDiff]; refine WV_flat rfl (by omega) ?_)
    all_goals exact ⟨by simp [*], rfl⟩

theorem neqR {x y : Operand} {a b : Int} : binE Try.prog .neq 26 x y (.agg [ii a, ii b]) (.agg [ii a, ii b]) = some (.bool false) := by
  obtain ⟨f0, f1, hu, o0, o1, t0, t1, n0, n1⟩ := under29
  exact b_neq2_self hu (by rw [t0]; exact Try.underlying2) (by rw [t1]; exact Try.underlying2) o0 o1 n0 n1 (by kernel_rfl) (by kernel_rfl)
theorem eqB4 {x y : Operand} {a b : Bool} : binE Try.prog .eql 4 x y (.bool a) (.bool b) = some (.bool (a == b)) := b_eqlB un_4
theorem conv5 {n : Int} : convE Try.prog 5 3 (.int .u8 n) = some (ii (IntKind.i64.wrap n)) := c_int un_5 un_3

theorem isBnd_in {N D : Int} (hb : isBnd N D = true) : bndIn N D := by
  unfold isBnd at hb
  rw [Bool.and_eq_true] at hb
  exact of_decide_eq_true hb.1
/-- A bound is kept just if the end keeps it. -/
theorem bnd_top {sp st : Int} {rows : List (List (Int × Int))} (he : hullErr sp st rows = 0) {what : Int} (hwh : 0 ≤ what ∧ what ≤ 2) {N D : Int} (hb : isBnd N D = true) :
    bndErr sp st rows what N D true = 0 ↔ ¬ N * ratD (gOf what) sp st rows (m0 rows) (lowG sp st rows what true) < ratN (gOf what) sp st rows (m0 rows) (lowG sp st rows what true) * D := by
  have k := hok he (gOf_or what)
  have hi := bound_iff k true (N := N) (D := D) (isBnd_in hb).2.1
  rw [sgn_tt] at hi
  have e1 := Int.mul_comm N (ratD (gOf what) sp st rows (m0 rows) (lowG sp st rows what true))
  unfold lowG at *
  unfold bndErr
  rw [if_neg (not_not_intro he), if_neg (not_not_intro hwh), hb, if_neg (by decide)]
  constructor
  · intro h
    by_cases h2 : 0 < psum (bestG (gOf what) sp st rows (m0 rows) N D true) (rows.length * m0 rows)
    · rw [if_pos h2] at h; omega
    · have := hi.1 (by omega); omega
  · intro h
    rw [if_neg]
    have := hi.2 (by omega); omega
theorem bnd_low {sp st : Int} {rows : List (List (Int × Int))} (he : hullErr sp st rows = 0) {what : Int} (hwh : 0 ≤ what ∧ what ≤ 2) {N D : Int} (hb : isBnd N D = true) :
    bndErr sp st rows what N D false = 0 ↔ ¬ ratN (gOf what) sp st rows (m0 rows) (lowG sp st rows what false) * D < N * ratD (gOf what) sp st rows (m0 rows) (lowG sp st rows what false) := by
  have k := hok he (gOf_or what)
  have hi := bound_iff k false (N := N) (D := D) (isBnd_in hb).2.1
  rw [sgn_ff] at hi
  have e1 := Int.mul_comm N (ratD (gOf what) sp st rows (m0 rows) (lowG sp st rows what false))
  unfold lowG at *
  unfold bndErr
  rw [if_neg (not_not_intro he), if_neg (not_not_intro hwh), hb, if_neg (by decide)]
  constructor
  · intro h
    by_cases h2 : 0 < psum (bestG (gOf what) sp st rows (m0 rows) N D false) (rows.length * m0 rows)
    · rw [if_pos h2] at h; omega
    · have := hi.1 (by omega); omega
  · intro h
    rw [if_neg]
    have := hi.2 (by omega); omega

theorem lawAttained (sp st wv N D : Int) (hwv : 0 ≤ wv ∧ wv ≤ 255) (a : AV) (rvs : List AV) (rows : List (List (Int × Int))) (h : H) (x : HullR h a rvs rows) :
    (om Try.prog KK).call (.fn 5 [.agg [ii sp, ii st, a], .int .u8 wv, .agg [ii N, ii D]]) h = .ok (.bool true) h := by
  have wf := x.wf
  have hfi : ∀ l w, w ≤ h.clock + l.length → (om Try.prog KK).call (.fn 13 [.agg [ii sp, ii st, a]]) (X h l w) = .ok (.bool (!decide (Great rows []) && decide (hullErr sp st rows = 0))) (X h l w) := fun l w hw => fineC sp st a rvs rows _ (x.up l w hw)
  have hwk : ∀ l w, (om Try.prog KK).call (.fn 10 []) (X h l w) = .ok (.bool true) (X h l w) := fun l w => works _
  refine WV_to (WV_call (fn := Try.f5) Try.func5 rfl rfl rfl rfl rfl ?_)
  simp only [argF]
  cases hF : (!decide (Great rows []) && decide (hullErr sp st rows = 0)) with
  | false =>
    rw [hF] at hfi
    (repeat' (first
  | (with_reducible first | refine WC_seq ?_ | refine WC_skip ?_ | refine WC_label ?_ | refine WC_scope ?_ | refine WC_block ?_ | refine WC_ret ?_ | refine WC_exit ?_ | refine seqQ_norm ?_ | refine seqQ_ret ?_ | refine seqQ_exit ?_ | refine blkQ_norm ?_ | refine blkQ_ret ?_ | refine blkQ_here ?_ | refine gateK_yes ?_ | refine gateK_none ?_ | refine condK_tt ?_ | refine condK_ff ?_ | refine roundQ_exit ?_ | refine roundQ_ret ?_)
  | refine WC_region ?_ | refine blkQ_out rfl ?_ | refine WO_nil ?_ | refine WD_nil ?_
  | ((first | refine WD_gate rfl rfl rfl rfl rfl fun K_ hK_ => ?_ | refine WO_gate rfl rfl rfl rfl rfl fun K_ hK_ => ?_); simp only [upd_apply, asB_bool, asB_tup, ↓reduceIte, reduceCtorEq, Nat.reduceEqDiff, Bool.not_true, Bool.not_false]; refine hK_ _ ?_; clear hK_ K_)
  | refine gateK_no (by decide) ?_
  | ((try first | refine WO_op rfl rfl rfl ?_ | refine WO_op0 rfl rfl ?_ | refine WD_op rfl rfl rfl ?_ | refine WD_op0 rfl rfl ?_); (refine WV_gen fun Q_ hQ_ => ?_; simp (disch := first | omega | (simp only [List.length_cons, List.length_nil, List.length_append]; omega)) only [bb, bp, argF, ↓reduceIte, reduceCtorEq, Nat.reduceEqDiff, Nat.reduceLT, Nat.reduceLeDiff, Nat.reduceAdd, Nat.reduceMul, Nat.reduceSub, Nat.reduceBEq, Int.reduceToNat, cond_true, cond_false, eq_self, beq_self_eq_true, hfi, hwk, newPtr_X wf, load1_X wf, loadAgg_X wf, store1_X wf, writeCells_X wf, makeFunc_def, tEvM8]; first | (refine dec_split (Q := Q_) (fun hp_ => ?_) (fun hp_ => ?_) <;> first | (exfalso; omega) | (refine hQ_ _ _ ?_; clear hQ_ Q_)) | (refine dec_splitn (Q := Q_) (fun hp_ => ?_) (fun hp_ => ?_) <;> first | (exfalso; omega) | (refine hQ_ _ _ ?_; clear hQ_ Q_)) | (refine hQ_ _ _ ?_; clear hQ_ Q_)))
  | (refine WC_cond fun K_ hK_ => ?_; simp (disch := omega) only [evT_tmp, upd_apply, WB_some, ↓reduceIte, reduceCtorEq, Nat.reduceEqDiff, Nat.reduceLT]; refine hK_ _ ?_; clear hK_ K_)))
    (refine endQ_ret _ _ rfl (ret1 (by decide)) ?_; simp only [upd_apply, ↓reduceIte, reduceCtorEq, Nat.reduceEqDiff]; refine WV_flat rfl (by omega) ?_)
    exact ⟨rfl, rfl⟩
  | true =>
    rw [hF] at hfi
    rw [Bool.and_eq_true] at hF
    have he : hullErr sp st rows = 0 := of_decide_eq_true hF.2
    obtain ⟨hn, hm, hall, hsp, hst, hof⟩ := hullErr_ok he
    have hwr : IntKind.i64.wrap wv = wv := wrap_in _ (by omega) (by omega)
    obtain ⟨what, hwm⟩ : ∃ what, what = wv.tmod 3 := ⟨_, rfl⟩
    have hwh : 0 ≤ what ∧ what ≤ 2 := by
      rw [hwm, Int.tmod_eq_emod_of_nonneg hwv.1]; omega
    have hrem : binE Try.prog .rem 3 = binE Try.prog .rem 3 := rfl
    have k := hok he (gOf_or what)
    have i0 : InG rows (m0 rows) (lowG sp st rows what false) := (theEnd_ok k false).1
    have i1 : InG rows (m0 rows) (lowG sp st rows what true) := (theEnd_ok k true).1
    obtain ⟨b0, nb0⟩ := rat_bnd k i0
    obtain ⟨b1, nb1⟩ := rat_bnd k i1
    have v0 := val_listOf he i0 hwh
    have v1 := val_listOf he i1 hwh
    have hle : ratN (gOf what) sp st rows (m0 rows) (lowG sp st rows what false) * ratD (gOf what) sp st rows (m0 rows) (lowG sp st rows what true) ≤ ratD (gOf what) sp st rows (m0 rows) (lowG sp st rows what false) * ratN (gOf what) sp st rows (m0 rows) (lowG sp st rows what true) := by
      have := beyond k true i0
      rw [sgn_tt] at this
      unfold lowG at *
      omega
    have e0 := (bnd_low he hwh nb0).2 (by omega)
    have e1 := (bnd_top he hwh nb1).2 (by omega)
    have tops : isBnd N D = true → (decide (bndErr sp st rows what N D true = 0) == !decide (N * ratD (gOf what) sp st rows (m0 rows) (lowG sp st rows what true) < ratN (gOf what) sp st rows (m0 rows) (lowG sp st rows what true) * D)) = true := fun hb => by
      have := bnd_top he hwh hb
      rw [beq_iff_eq, Bool.eq_iff_iff, Bool.not_eq_true', decide_eq_true_iff, decide_eq_false_iff_not]
      exact this
    have lows : isBnd N D = true → (decide (bndErr sp st rows what N D false = 0) == !decide (ratN (gOf what) sp st rows (m0 rows) (lowG sp st rows what false) * D < N * ratD (gOf what) sp st rows (m0 rows) (lowG sp st rows what false))) = true := fun hb => by
      have := bnd_low he hwh hb
      rw [beq_iff_eq, Bool.eq_iff_iff, Bool.not_eq_true', decide_eq_true_iff, decide_eq_false_iff_not]
      exact this
    have h18 : ∀ l w, w ≤ h.clock + l.length → (om Try.prog KK).call (.fn 18 [.agg [ii sp, ii st, a], ii what]) (X h l w) = .ok (spanOut sp st rows what) (X h l w) := fun l w hw => spanC sp st a rvs rows what _ (x.up l w hw)
    unfold spanOut at h18
    rw [if_neg (not_not_intro he), if_neg (not_not_intro hwh)] at h18
    have hY : ∀ high, (List.range rows.length).map (gRow (lowG sp st rows what high) (m0 rows)) = listOf (lowG sp st rows what high) rows.length (m0 rows) := fun _ => rfl
    generalize ratN (gOf what) sp st rows (m0 rows) (lowG sp st rows what false) = loN at *
    generalize ratD (gOf what) sp st rows (m0 rows) (lowG sp st rows what false) = loD at *
    generalize ratN (gOf what) sp st rows (m0 rows) (lowG sp st rows what true) = hiN at *
    generalize ratD (gOf what) sp st rows (m0 rows) (lowG sp st rows what true) = hiD at *
    obtain ⟨E0, p0, y0, hE0, hY0⟩ := endXJ sp st a rvs rows what false he hwh h x [.cells (mkCells [ii sp, ii st, a]) 24, .cells (mkCells [ii N, ii D]) 26, .cells (mkCells [ii loN, ii loD, ii hiN, ii hiD]) 39]
    obtain ⟨E1, p1, y1, hE1, hY1⟩ := endXJ sp st a rvs rows what true he hwh h x ([.cells (mkCells [ii sp, ii st, a]) 24, .cells (mkCells [ii N, ii D]) 26, .cells (mkCells [ii loN, ii loD, ii hiN, ii hiD]) 39] ++ E0)
    simp only [hY, List.cons_append, List.nil_append, List.append_assoc, List.length_cons, List.length_nil, List.length_append] at hE0 hE1 hY0 hY1
    obtain ⟨G, hG⟩ : ∃ G, G = E0 ++ E1 := ⟨_, rfl⟩
    have hlG : G.length = E0.length + E1.length := by rw [hG, List.length_append]
    rw [← hG] at hE1 hY1
    obtain ⟨bs, hbs⟩ : ∃ bs : List AO, bs = [.cells (mkCells [ii sp, ii st, a]) 24, .cells (mkCells [ii N, ii D]) 26, .cells (mkCells [ii loN, ii loD, ii hiN, ii hiD]) 39] := ⟨_, rfl⟩
    have up0 : ∀ l w, w ≤ h.clock + l.length + (E0.length + 3) → YsR (X h (.cells (mkCells [ii sp, ii st, a]) 24 :: .cells (mkCells [ii N, ii D]) 26 :: .cells (mkCells [ii loN, ii loD, ii hiN, ii hiD]) 39 :: (E0 ++ l)) w) p0 y0 (listOf (lowG sp st rows what false) rows.length (m0 rows)) := fun l w hw => by
      have := (hY0 0 (by omega)).up l w (by rw [X_clock]; simp only [List.length_cons]; omega)
      rw [X_X] at this
      exact this
    have up1 : ∀ l w, w ≤ h.clock + l.length + (G.length + 3) → YsR (X h (.cells (mkCells [ii sp, ii st, a]) 24 :: .cells (mkCells [ii N, ii D]) 26 :: .cells (mkCells [ii loN, ii loD, ii hiN, ii hiD]) 39 :: (G ++ l)) w) p1 y1 (listOf (lowG sp st rows what true) rows.length (m0 rows)) := fun l w hw => by
      have := (hY1 0 (by omega)).up l w (by rw [X_clock]; simp only [List.length_cons]; omega)
      rw [X_X] at this
      exact this
    have hlen : ∀ high, (listOf (lowG sp st rows what high) rows.length (m0 rows)).length ≤ 1000 := fun _ => by unfold listOf; simp; omega
    have h23a : ∀ w, w ≤ h.clock + (G.length + 3) → (om Try.prog KK).call (.fn 23 [.agg [ii sp, ii st, a], p0, ii what]) (X h (.cells (mkCells [ii sp, ii st, a]) 24 :: .cells (mkCells [ii N, ii D]) 26 :: .cells (mkCells [ii loN, ii loD, ii hiN, ii hiD]) 39 :: G) w) = .ok (.tup [.agg [ii loN, ii loD], ii 0]) (X h (.cells (mkCells [ii sp, ii st, a]) 24 :: .cells (mkCells [ii N, ii D]) 26 :: .cells (mkCells [ii loN, ii loD, ii hiN, ii hiD]) 39 :: G) w) := fun w hw => by
      have := valueRX sp st a p0 rvs y0 rows _ (hlen false) what _ (x.up (.cells (mkCells [ii sp, ii st, a]) 24 :: .cells (mkCells [ii N, ii D]) 26 :: .cells (mkCells [ii loN, ii loD, ii hiN, ii hiD]) 39 :: (E0 ++ E1)) w (by simp only [List.length_cons, List.length_append]; omega)) (up0 E1 w (by omega))
      rw [v0, ← hG] at this
      exact this
    have h23b : ∀ o w, w ≤ h.clock + (G.length + 4) → (om Try.prog KK).call (.fn 23 [.agg [ii sp, ii st, a], p1, ii what]) (X h (.cells (mkCells [ii sp, ii st, a]) 24 :: .cells (mkCells [ii N, ii D]) 26 :: .cells (mkCells [ii loN, ii loD, ii hiN, ii hiD]) 39 :: (G ++ [o])) w) = .ok (.tup [.agg [ii hiN, ii hiD], ii 0]) (X h (.cells (mkCells [ii sp, ii st, a]) 24 :: .cells (mkCells [ii N, ii D]) 26 :: .cells (mkCells [ii loN, ii loD, ii hiN, ii hiD]) 39 :: (G ++ [o])) w) := fun o w hw => by
      have := valueRX sp st a p1 rvs y1 rows _ (hlen true) what _ (x.up (.cells (mkCells [ii sp, ii st, a]) 24 :: .cells (mkCells [ii N, ii D]) 26 :: .cells (mkCells [ii loN, ii loD, ii hiN, ii hiD]) 39 :: (G ++ [o])) w (by simp only [List.length_cons, List.length_append, List.length_nil]; omega)) (up1 [o] w (by simp only [List.length_cons, List.length_nil]; omega))
      rw [v1] at this
      exact this
    have h11 : ∀ l w N D high, w ≤ h.clock + l.length → (om Try.prog KK).call (.fn 11 [.agg [ii sp, ii st, a], ii what, .agg [ii N, ii D], .bool high]) (X h l w) = .ok (ii (bndErr sp st rows what N D high)) (X h l w) := fun l w N D high hw => checkBound sp st a rvs rows what N D high _ (x.up l w hw)
    have h20 : ∀ l w N D, w ≤ h.clock + l.length → (om Try.prog KK).call (.fn 20 [.agg [ii N, ii D]]) (X h l w) = .ok (.bool (isBnd N D)) (X h l w) := fun l w N D hw => isBoundR N D _ (wf.X hw)
    have hl1 : ∀ l w, w ≤ h.clock + l.length → (om Try.prog KK).call (.fn 21 [.agg [ii hiN, ii hiD], .agg [ii loN, ii loD]]) (X h l w) = .ok (.bool false) (X h l w) := fun l w hw => by
      rw [lessR hiN hiD loN loD b1 b0 _ (wf.X hw), decide_eq_false (by have := Int.mul_comm hiN loD; omega)]
    cases hb : isBnd N D with
    | false =>
      (repeat' (first
  | (with_reducible first | refine WC_seq ?_ | refine WC_skip ?_ | refine WC_label ?_ | refine WC_scope ?_ | refine WC_block ?_ | refine WC_ret ?_ | refine WC_exit ?_ | refine seqQ_norm ?_ | refine seqQ_ret ?_ | refine seqQ_exit ?_ | refine blkQ_norm ?_ | refine blkQ_ret ?_ | refine blkQ_here ?_ | refine gateK_yes ?_ | refine gateK_none ?_ | refine condK_tt ?_ | refine condK_ff ?_ | refine roundQ_exit ?_ | refine roundQ_ret ?_)
  | refine WC_region ?_ | refine blkQ_out rfl ?_ | refine WO_nil ?_ | refine WD_nil ?_
  | ((first | refine WD_gate rfl rfl rfl rfl rfl fun K_ hK_ => ?_ | refine WO_gate rfl rfl rfl rfl rfl fun K_ hK_ => ?_); simp only [upd_apply, asB_bool, asB_tup, ↓reduceIte, reduceCtorEq, Nat.reduceEqDiff, Bool.not_true, Bool.not_false]; refine hK_ _ ?_; clear hK_ K_)
  | refine gateK_no (by decide) ?_
  | ((try first | refine WO_op rfl rfl rfl ?_ | refine WO_op0 rfl rfl ?_ | refine WD_op rfl rfl rfl ?_ | refine WD_op0 rfl rfl ?_); (refine WV_gen fun Q_ hQ_ => ?_; simp (disch := first | omega | (simp only [List.length_cons, List.length_nil, List.length_append]; omega)) only [bb, bp, argF, ↓reduceIte, reduceCtorEq, Nat.reduceEqDiff, Nat.reduceLT, Nat.reduceLeDiff, Nat.reduceAdd, Nat.reduceMul, Nat.reduceSub, Nat.reduceBEq, Int.reduceToNat, cond_true, cond_false, eq_self, beq_self_eq_true, hfi, hwk, conv5, hwr, b_rem (show (3 : Int) ≠ 0 by decide), ← hwm, h18, h20, nb0, nb1, hl1, hE0, hE1, h23a, h23b, h11, e0, e1, hb, neqR, eqB4, newPtr_X wf, load1_X wf, loadAgg_X wf, store1_X wf, writeCells_X wf, makeFunc_def, tEvM8]; first | (refine dec_split (Q := Q_) (fun hp_ => ?_) (fun hp_ => ?_) <;> first | (exfalso; omega) | (refine hQ_ _ _ ?_; clear hQ_ Q_)) | (refine dec_splitn (Q := Q_) (fun hp_ => ?_) (fun hp_ => ?_) <;> first | (exfalso; omega) | (refine hQ_ _ _ ?_; clear hQ_ Q_)) | (refine hQ_ _ _ ?_; clear hQ_ Q_)))
  | (refine WC_cond fun K_ hK_ => ?_; simp (disch := omega) only [evT_tmp, upd_apply, WB_some, ↓reduceIte, reduceCtorEq, Nat.reduceEqDiff, Nat.reduceLT]; refine hK_ _ ?_; clear hK_ K_)))
      (refine endQ_ret _ _ rfl (ret1 (by decide)) ?_; simp only [upd_apply, ↓reduceIte, reduceCtorEq, Nat.reduceEqDiff]; refine WV_flat rfl (by omega) ?_)
      exact ⟨rfl, rfl⟩
    | true =>
      have hbi := isBnd_in hb
      have top := tops hb
      have low := lows hb
      have topI := top
      have lowI := low
      rw [beq_iff_eq, Bool.eq_iff_iff, Bool.not_eq_true', decide_eq_true_iff, decide_eq_false_iff_not] at topI lowI
      have hhi : ∀ l w, w ≤ h.clock + l.length → (om Try.prog KK).call (.fn 21 [.agg [ii N, ii D], .agg [ii hiN, ii hiD]]) (X h l w) = .ok (.bool (decide (N * hiD < hiN * D))) (X h l w) := fun l w hw => lessR N D hiN hiD hbi b1 _ (wf.X hw)
      have hlo : ∀ l w, w ≤ h.clock + l.length → (om Try.prog KK).call (.fn 21 [.agg [ii loN, ii loD], .agg [ii N, ii D]]) (X h l w) = .ok (.bool (decide (loN * D < N * loD))) (X h l w) := fun l w hw => lessR loN loD N D b0 hbi _ (wf.X hw)
      (repeat' (first
  | (with_reducible first | refine WC_seq ?_ | refine WC_skip ?_ | refine WC_label ?_ | refine WC_scope ?_ | refine WC_block ?_ | refine WC_ret ?_ | refine WC_exit ?_ | refine seqQ_norm ?_ | refine seqQ_ret ?_ | refine seqQ_exit ?_ | refine blkQ_norm ?_ | refine blkQ_ret ?_ | refine blkQ_here ?_ | refine gateK_yes ?_ | refine gateK_none ?_ | refine condK_tt ?_ | refine condK_ff ?_ | refine roundQ_exit ?_ | refine roundQ_ret ?_)
  | refine WC_region ?_ | refine blkQ_out rfl ?_ | refine WO_nil ?_ | refine WD_nil ?_
  | ((first | refine WD_gate rfl rfl rfl rfl rfl fun K_ hK_ => ?_ | refine WO_gate rfl rfl rfl rfl rfl fun K_ hK_ => ?_); simp only [upd_apply, asB_bool, asB_tup, ↓reduceIte, reduceCtorEq, Nat.reduceEqDiff, Bool.not_true, Bool.not_false]; refine hK_ _ ?_; clear hK_ K_)
  | refine gateK_no (by decide) ?_
  | ((try first | refine WO_op rfl rfl rfl ?_ | refine WO_op0 rfl rfl ?_ | refine WD_op rfl rfl rfl ?_ | refine WD_op0 rfl rfl ?_); (refine WV_gen fun Q_ hQ_ => ?_; simp (disch := first | omega | (simp only [List.length_cons, List.length_nil, List.length_append]; omega)) only [bb, bp, argF, ↓reduceIte, reduceCtorEq, Nat.reduceEqDiff, Nat.reduceLT, Nat.reduceLeDiff, Nat.reduceAdd, Nat.reduceMul, Nat.reduceSub, Nat.reduceBEq, Int.reduceToNat, cond_true, cond_false, eq_self, beq_self_eq_true, hfi, hwk, conv5, hwr, b_rem (show (3 : Int) ≠ 0 by decide), ← hwm, h18, h20, nb0, nb1, hl1, hE0, hE1, h23a, h23b, h11, e0, e1, hb, neqR, eqB4, newPtr_X wf, load1_X wf, loadAgg_X wf, store1_X wf, writeCells_X wf, makeFunc_def, tEvM8]; first | (refine dec_split (Q := Q_) (fun hp_ => ?_) (fun hp_ => ?_) <;> first | (exfalso; omega) | (refine hQ_ _ _ ?_; clear hQ_ Q_)) | (refine dec_splitn (Q := Q_) (fun hp_ => ?_) (fun hp_ => ?_) <;> first | (exfalso; omega) | (refine hQ_ _ _ ?_; clear hQ_ Q_)) | (refine hQ_ _ _ ?_; clear hQ_ Q_)))
  | (refine WC_cond fun K_ hK_ => ?_; simp (disch := omega) only [evT_tmp, upd_apply, WB_some, ↓reduceIte, reduceCtorEq, Nat.reduceEqDiff, Nat.reduceLT]; refine hK_ _ ?_; clear hK_ K_)))
      refine WC_drawnB [.no, .no, .no, .no, .no, .no, .no, .full, .full, .full] (by kernel_rfl) ?_
      (repeat' (first
  | (with_reducible first | refine WC_seq ?_ | refine WC_skip ?_ | refine WC_label ?_ | refine WC_scope ?_ | refine WC_block ?_ | refine WC_ret ?_ | refine WC_exit ?_ | refine seqQ_norm ?_ | refine seqQ_ret ?_ | refine seqQ_exit ?_ | refine blkQ_norm ?_ | refine blkQ_ret ?_ | refine blkQ_here ?_ | refine gateK_yes ?_ | refine gateK_none ?_ | refine condK_tt ?_ | refine condK_ff ?_ | refine roundQ_exit ?_ | refine roundQ_ret ?_)
  | refine WC_region ?_ | refine blkQ_out rfl ?_ | refine WO_nil ?_ | refine WD_nil ?_
  | ((first | refine WD_gate rfl rfl rfl rfl rfl fun K_ hK_ => ?_ | refine WO_gate rfl rfl rfl rfl rfl fun K_ hK_ => ?_); simp only [upd_apply, asB_bool, asB_tup, ↓reduceIte, reduceCtorEq, Nat.reduceEqDiff, Bool.not_true, Bool.not_false]; refine hK_ _ ?_; clear hK_ K_)
  | refine gateK_no (by decide) ?_
  | ((try first | refine WO_op rfl rfl rfl ?_ | refine WO_op0 rfl rfl ?_ | refine WD_op rfl rfl rfl ?_ | refine WD_op0 rfl rfl ?_); (refine WV_gen fun Q_ hQ_ => ?_; simp (disch := first | omega | (simp only [List.length_cons, List.length_nil, List.length_append]; omega)) only [bb, bp, argF, ↓reduceIte, reduceCtorEq, Nat.reduceEqDiff, Nat.reduceLT, Nat.reduceLeDiff, Nat.reduceAdd, Nat.reduceMul, Nat.reduceSub, Nat.reduceBEq, Int.reduceToNat, cond_true, cond_false, eq_self, beq_self_eq_true, h11, hlo, hhi, hwk, eqB4, top, low, newPtr_X wf, load1_X wf, loadAgg_X wf, store1_X wf, writeCells_X wf, makeFunc_def, tEvM8]; first | (refine dec_split (Q := Q_) (fun hp_ => ?_) (fun hp_ => ?_) <;> first | (exfalso; omega) | (refine hQ_ _ _ ?_; clear hQ_ Q_)) | (refine dec_splitn (Q := Q_) (fun hp_ => ?_) (fun hp_ => ?_) <;> first | (exfalso; omega) | (refine hQ_ _ _ ?_; clear hQ_ Q_)) | (refine hQ_ _ _ ?_; clear hQ_ Q_)))
  | (refine WC_cond fun K_ hK_ => ?_; simp (disch := omega) only [evT_tmp, upd_apply, WB_some, ↓reduceIte, reduceCtorEq, Nat.reduceEqDiff, Nat.reduceLT]; refine hK_ _ ?_; clear hK_ K_)))
      all_goals (refine endQ_ret _ _ rfl (ret1 (by decide)) ?_; simp only [upd_apply, ↓reduceIte, reduceCtorEq, Nat.reduceEqDiff]; refine WV_flat rfl (by omega) ?_)
      all_goals first
        | exact ⟨rfl, rfl⟩
        | (exfalso; clear top low; omega)
end Go.Proofs.Ytghondkiondeaac
end

/- EvN1 -/
section
/- The statement BoxAttained of layer 2: the hulls of End are true and have just the ends of Span, and a bound is accepted just if it is not nearer than the end, for all hulls, kinds and bounds; no condition. -/
namespace Go.Proofs.Ytghondkiondeaac.boxAttained
open Go.ChangeShapes Go.WideShapes Go.ChangeAt Go.RowKit Go.Ev
set_option maxRecDepth 100000
set_option maxHeartbeats 0
theorem cells26 : Try.prog.cellsOf 26 = 2 := by kernel_rfl
theorem types26 : Try.prog.cellTypes Try.prog.depth 26 = some [2, 2] := by kernel_rfl

theorem okWideU8 {W : World} {t : TypeId} {v : Value} {r : Reach} {bs : Nat} (hu : Try.prog.underlying t = some (.int .u8)) (h : Cell.okWide Try.prog W r bs t v) : ∃ n, v = .int .u8 n ∧ 0 ≤ n ∧ n ≤ 255 := by
  unfold Cell.okWide at h
  rw [hu] at h
  have h' : Cell.ok Try.prog W r bs t v := by cases v <;> exact h
  unfold Cell.ok at h'
  rw [hu] at h'
  cases v with
  | int k' n =>
    obtain ⟨rfl, h1, h2⟩ := h'
    exact ⟨n, rfl, h1, h2⟩
  | _ => exact h'.elim

theorem contract (H : Type) (enc : TypeId × Value → H) (W : World) (base : Nat) (args : Array Value) (ds gs : List (DataW H)) (before : List MemPlace) (hval : ∀ (j : Nat) t v, Try.f5.params[j]? = some t → args[j]? = some v → Value.okWide Try.prog W .any base t v)
    (hW : DataW.Whole enc Try.prog Try.f5.params.toList Rows.boxAttainedSpec.vars false W args.toList ds gs before) :
    Calls Try.prog 5 args W fun e W' => ∃ v, e = .returned v ∧ Rows.boxAttainedSpec.post enc Try.prog Try.f5 false true false false W args v W' := by
  have hW' := hW
  obtain ⟨p, q, hA0, hV, rfl, hfz, hnd⟩ := hW
  have hA : DataW.TrodAll enc Try.prog W 0 (fun _ => true) true Try.f5.params.toList args.toList ds p := hA0
  rw [Try.params5] at hA hval
  obtain ⟨v0, v1, v2, d0, d1, d2, p0, p1, p2, rfl, rfl, rfl, ⟨n0, h0⟩, ⟨n1, h1⟩, ⟨n2, h2⟩⟩ := trodAll_three hA
  obtain ⟨sp, st, a, rvs, rows, va, xh⟩ := hull_in (hval 0 24 v0 rfl rfl) h0
  obtain ⟨what, hz, hw0⟩ := okWideU8 Try.underlying5 (okWide_cell (P := Try.prog) Try.underlying5 (fun _ e => by cases e) (fun _ _ e => by cases e) (hval 1 5 v1 rfl rfl))
  subst hz
  obtain ⟨f0, f1, hu, o0, o1, t0, t1, _, _⟩ := under29
  obtain ⟨u, w, n, y1, y2, rfl, k0, k1, r0, r1⟩ := open_two hu cells26 o0 o1 t0 t1 cells2 cells2 types26 (hval 2 26 v2 rfl rfl) h2
  obtain ⟨N, hN⟩ := okWideInt Try.underlying2 k0
  subst hN
  obtain ⟨D, hD⟩ := okWideInt Try.underlying2 k1
  subst hD
  have walk := lawAttained sp st what N D hw0 a rvs rows (startW W) xh
  have hargs : VL (startWR W) [.agg [ii sp, ii st, a], .int .u8 what, .agg [ii N, ii D]] (#[v0, .int .u8 what, .agg #[.int .i64 N, .int .i64 D]] : Array Value).toList :=
    .cons _ _ _ _ va (.cons _ _ _ _ (.int _ _) (.cons _ _ _ _ (.agg _ _ (.cons _ _ _ _ (.int _ _) (.cons _ _ _ _ (.int _ _) .nil))) .nil))
  refine (startW_true (P := Try.prog) mixed (K := KK) (fun c hc => by
    have : c = cW := List.mem_singleton.1 hc
    rw [this]; exact cW_ok) walk hargs).mono fun e W' ⟨he, hgr, hs⟩ => ?_
  subst he
  refine ⟨_, rfl, law_post laidOut (by
    rw [Try.params5]
    intro t ht
    rcases List.mem_cons.1 ht with rfl | ht
    · exact ⟨by kernel_rfl, of_decide_eq_true (by kernel_rfl)⟩
    rcases List.mem_cons.1 ht with rfl | ht
    · exact ⟨by kernel_rfl, of_decide_eq_true (by kernel_rfl)⟩
    rcases List.mem_cons.1 ht with rfl | ht
    · exact ⟨by kernel_rfl, of_decide_eq_true (by kernel_rfl)⟩
    cases ht) rfl (by kernel_rfl) Try.underlying4 (fun gs' ⟨q', hq⟩ => ?_) hW' hgr hs⟩
  obtain ⟨rfl, _⟩ := trodVars_none hq
  exact ⟨rfl, rfl, rfl⟩

theorem lifted (os : Os) (started : os.Started) (H : Type) (enc : TypeId × Value → H) :
    ReturnsInHanded {} Try.checked os 5 .any (Rows.boxAttainedSpec.pre6 enc Try.prog Try.f5 Rows.boxAttainedRow.domain false) (Rows.boxAttainedSpec.post enc Try.prog Try.f5 false true false false) := by
  refine returnsInHanded_of_change (C := Try.checked) own started (by kernel_rfl) Try.func5
    (ChangeSpec.witness6 (enc := enc) (C := Try.checked) false ⟨#[], #[.agg #[.int .i64 0, .int .i64 0, .slice none 0 0], .int .u8 0, .agg #[.int .i64 0, .int .i64 0]], []⟩ 8 (by kernel_rfl) (by kernel_rfl) (by kernel_rfl) (by kernel_rfl)) ?_
  intro W base args ds gs before hval hW _ _
  exact contract H enc W base args ds gs before hval hW

theorem holds : Rows.BoxAttainedSaid :=
  OpenClaim.holds_of_wide 5 Try.f5 rfl rfl rfl rfl rfl rfl rfl ⟨rfl, rfl, rfl, rfl, rfl⟩ rfl rfl rfl rfl rfl (by kernel_rfl) Try.func5 (by kernel_rfl)
    (of_decide_eq_true (by kernel_rfl)) (by unfold Func.isWrapper; first | (rw [if_pos (by decide +kernel)]; kernel_rfl) | (rw [if_neg (by decide +kernel)]; exact ⟨rfl, rfl⟩))
    (fun os started H enc _ => lifted os started H enc)
end Go.Proofs.Ytghondkiondeaac.boxAttained
end
