/- The statement BoxScaled of layer 2: with twice the Space what is along doubles and the others stay, and with stations in the other order what is along is as far from the other end and the others stay, for all hulls and kinds; no condition. -/
import Derived.Test.YtghondkiondeaacScaM5
set_option linter.all false
/- EvK4 -/
section
/-
  LAYER 2, THE REFERENCE: bounds.
-/
namespace Go.Proofs.Ytghondkiondeaac
open Go.Ev
set_option maxRecDepth 100000
set_option linter.unusedSimpArgs false
set_option linter.unusedVariables false
set_option maxHeartbeats 4000000

theorem tEvK4 : type_of% (And.intro (And.intro (And.intro (And.intro (And.intro (@ia_2) (@sz_2)) (And.intro (@ze_2) (@ia_3))) (And.intro (And.intro (@sz_3) (@ia_4)) (And.intro (@sz_4) (@ia_24)))) (And.intro (And.intro (And.intro (@sz_24) (@ia_22)) (And.intro (@sz_22) (@ia_52))) (And.intro (And.intro (@sz_52) (@ia_55)) (And.intro (@sz_55) (@ia_26))))) (And.intro (And.intro (And.intro (And.intro (@sz_26) (@ze_26)) (And.intro (@fo_24_0) (@fo_24_1))) (And.intro (And.intro (@fo_24_2) (@fo_26_0)) (And.intro (@fo_26_1) (@fo_55_0)))) (And.intro (And.intro (And.intro (@fo_55_1) (@ik_22)) (And.intro (@ik_52) (@pb_12))) (And.intro (And.intro (@pb_20) (@pb_24)) (And.intro (@pb_31) (And.intro (@pb_32) (@pb_51))))))) := And.intro (And.intro (And.intro (And.intro (And.intro (@ia_2) (@sz_2)) (And.intro (@ze_2) (@ia_3))) (And.intro (And.intro (@sz_3) (@ia_4)) (And.intro (@sz_4) (@ia_24)))) (And.intro (And.intro (And.intro (@sz_24) (@ia_22)) (And.intro (@sz_22) (@ia_52))) (And.intro (And.intro (@sz_52) (@ia_55)) (And.intro (@sz_55) (@ia_26))))) (And.intro (And.intro (And.intro (And.intro (@sz_26) (@ze_26)) (And.intro (@fo_24_0) (@fo_24_1))) (And.intro (And.intro (@fo_24_2) (@fo_26_0)) (And.intro (@fo_26_1) (@fo_55_0)))) (And.intro (And.intro (And.intro (@fo_55_1) (@ik_22)) (And.intro (@ik_52) (@pb_12))) (And.intro (And.intro (@pb_20) (@pb_24)) (And.intro (@pb_31) (And.intro (@pb_32) (@pb_51))))))
theorem isBoundR (N D : Int) (h : H) (wf : Wf h) : (om Try.prog KK).call (.fn 20 [.agg [ii N, ii D]]) h = .ok (.bool (isBnd N D)) h := by
  refine WV_to (WV_call (fn := Try.f20) Try.func20 rfl rfl rfl rfl rfl ?_)
  simp only [argF]
  have heq : ∀ x y, binE Try.prog .eql 26 x y (frac N D) (.agg [ii N, ii D]) = some (.bool (N / (Int.gcd N D : Int) == N && D / (Int.gcd N D : Int) == D)) := fun x y => eqQ
  have hsy : (N / (Int.gcd N D : Int) == N && D / (Int.gcd N D : Int) == D) = (N == N / (Int.gcd N D : Int) && D == D / (Int.gcd N D : Int)) := by rw [Bool.beq_comm, Bool.beq_comm (a := D / _)]
  rw [hsy] at heq
  by_cases hb : bndIn N D
  · have hb' := hb
    unfold bndIn at hb'
    have hfr : ∀ l w, w ≤ h.clock + l.length → (om Try.prog KK).call (.fn 24 [ii N, ii D]) (X h l w) = .ok (frac N D) (X h l w) := fun l w hw => fractionR N D ⟨hb'.1.1, by omega⟩ ⟨by omega, by omega⟩ _ (wf.X hw)
    (repeat' (first
  | (with_reducible first | refine WC_seq ?_ | refine WC_skip ?_ | refine WC_label ?_ | refine WC_scope ?_ | refine WC_block ?_ | refine WC_ret ?_ | refine WC_exit ?_ | refine seqQ_norm ?_ | refine seqQ_ret ?_ | refine seqQ_exit ?_ | refine blkQ_norm ?_ | refine blkQ_ret ?_ | refine blkQ_here ?_ | refine gateK_yes ?_ | refine gateK_none ?_ | refine condK_tt ?_ | refine condK_ff ?_ | refine roundQ_exit ?_ | refine roundQ_ret ?_)
  | refine WC_region ?_ | refine blkQ_out rfl ?_ | refine WO_nil ?_ | refine WD_nil ?_
  | ((first | refine WD_gate rfl rfl rfl rfl rfl fun K_ hK_ => ?_ | refine WO_gate rfl rfl rfl rfl rfl fun K_ hK_ => ?_); simp only [upd_apply, asB_bool, asB_tup, ↓reduceIte, reduceCtorEq, Nat.reduceEqDiff, Bool.not_true, Bool.not_false]; refine hK_ _ ?_; clear hK_ K_)
  | refine gateK_no (by decide) ?_
  | ((try first | refine WO_op rfl rfl rfl ?_ | refine WO_op0 rfl rfl ?_ | refine WD_op rfl rfl rfl ?_ | refine WD_op0 rfl rfl ?_); (refine WV_gen fun Q_ hQ_ => ?_; simp (disch := first | omega | (simp only [List.length_cons, List.length_nil, List.length_append]; omega)) only [bb, bp, argF, ↓reduceIte, reduceCtorEq, Nat.reduceEqDiff, Nat.reduceLT, Nat.reduceLeDiff, Nat.reduceAdd, Nat.reduceMul, Nat.reduceSub, Nat.reduceBEq, Int.reduceToNat, cond_true, cond_false, eq_self, beq_self_eq_true, newPtr_X wf, load1_X wf, loadAgg_X wf, store1_X wf, writeCells_X wf, makeFunc_def, tEvK4]; first | (refine dec_split (Q := Q_) (fun hp_ => ?_) (fun hp_ => ?_) <;> first | (exfalso; omega) | (refine hQ_ _ _ ?_; clear hQ_ Q_)) | (refine dec_splitn (Q := Q_) (fun hp_ => ?_) (fun hp_ => ?_) <;> first | (exfalso; omega) | (refine hQ_ _ _ ?_; clear hQ_ Q_)) | (refine hQ_ _ _ ?_; clear hQ_ Q_)))
  | (refine WC_cond fun K_ hK_ => ?_; simp (disch := omega) only [evT_tmp, upd_apply, WB_some, ↓reduceIte, reduceCtorEq, Nat.reduceEqDiff, Nat.reduceLT]; refine hK_ _ ?_; clear hK_ K_)))
    refine WC_drawnB [.full, .full, .full, .full, .full, .full, .full, .full, .full, .full, .full, .full, .full, .full, .full, .full, .full, .full, .full, .no, .no, .no, .no, .no, .no, .full, .full, .full] (by kernel_rfl) ?_
    (repeat' (first
  | (with_reducible first | refine WC_seq ?_ | refine WC_skip ?_ | refine WC_label ?_ | refine WC_scope ?_ | refine WC_block ?_ | refine WC_ret ?_ | refine WC_exit ?_ | refine seqQ_norm ?_ | refine seqQ_ret ?_ | refine seqQ_exit ?_ | refine blkQ_norm ?_ | refine blkQ_ret ?_ | refine blkQ_here ?_ | refine gateK_yes ?_ | refine gateK_none ?_ | refine condK_tt ?_ | refine condK_ff ?_ | refine roundQ_exit ?_ | refine roundQ_ret ?_)
  | refine WC_region ?_ | refine blkQ_out rfl ?_ | refine WO_nil ?_ | refine WD_nil ?_
  | ((first | refine WD_gate rfl rfl rfl rfl rfl fun K_ hK_ => ?_ | refine WO_gate rfl rfl rfl rfl rfl fun K_ hK_ => ?_); simp only [upd_apply, asB_bool, asB_tup, ↓reduceIte, reduceCtorEq, Nat.reduceEqDiff, Bool.not_true, Bool.not_false]; refine hK_ _ ?_; clear hK_ K_)
  | refine gateK_no (by decide) ?_
  | ((try first | refine WO_op rfl rfl rfl ?_ | refine WO_op0 rfl rfl ?_ | refine WD_op rfl rfl rfl ?_ | refine WD_op0 rfl rfl ?_); (refine WV_gen fun Q_ hQ_ => ?_; simp (disch := first | omega | (simp only [List.length_cons, List.length_nil, List.length_append]; omega)) only [bb, bp, argF, ↓reduceIte, reduceCtorEq, Nat.reduceEqDiff, Nat.reduceLT, Nat.reduceLeDiff, Nat.reduceAdd, Nat.reduceMul, Nat.reduceSub, Nat.reduceBEq, Int.reduceToNat, cond_true, cond_false, eq_self, beq_self_eq_true, hfr, heq, newPtr_X wf, load1_X wf, loadAgg_X wf, store1_X wf, writeCells_X wf, makeFunc_def, tEvK4]; first | (refine dec_split (Q := Q_) (fun hp_ => ?_) (fun hp_ => ?_) <;> first | (exfalso; omega) | (refine hQ_ _ _ ?_; clear hQ_ Q_)) | (refine dec_splitn (Q := Q_) (fun hp_ => ?_) (fun hp_ => ?_) <;> first | (exfalso; omega) | (refine hQ_ _ _ ?_; clear hQ_ Q_)) | (refine hQ_ _ _ ?_; clear hQ_ Q_)))
  | (refine WC_cond fun K_ hK_ => ?_; simp (disch := omega) only [evT_tmp, upd_apply, WB_some, ↓reduceIte, reduceCtorEq, Nat.reduceEqDiff, Nat.reduceLT]; refine hK_ _ ?_; clear hK_ K_)))
    (refine endQ_ret _ _ rfl (ret1 (by decide)) ?_; simp only [upd_apply, ↓reduceIte, reduceCtorEq, Nat.reduceEqDiff]; refine WV_flat rfl (by omega) ?_)
    refine ⟨?_, rfl⟩
    unfold isBnd
    rw [decide_eq_true hb]; rfl
  · have hb' := hb
    unfold bndIn at hb'
    (repeat' (first
  | (with_reducible first | refine WC_seq ?_ | refine WC_skip ?_ | refine WC_label ?_ | refine WC_scope ?_ | refine WC_block ?_ | refine WC_ret ?_ | refine WC_exit ?_ | refine seqQ_norm ?_ | refine seqQ_ret ?_ | refine seqQ_exit ?_ | refine blkQ_norm ?_ | refine blkQ_ret ?_ | refine blkQ_here ?_ | refine gateK_yes ?_ | refine gateK_none ?_ | refine condK_tt ?_ | refine condK_ff ?_ | refine roundQ_exit ?_ | refine roundQ_ret ?_)
  | refine WC_region ?_ | refine blkQ_out rfl ?_ | refine WO_nil ?_ | refine WD_nil ?_
  | ((first | refine WD_gate rfl rfl rfl rfl rfl fun K_ hK_ => ?_ | refine WO_gate rfl rfl rfl rfl rfl fun K_ hK_ => ?_); simp only [upd_apply, asB_bool, asB_tup, ↓reduceIte, reduceCtorEq, Nat.reduceEqDiff, Bool.not_true, Bool.not_false]; refine hK_ _ ?_; clear hK_ K_)
  | refine gateK_no (by decide) ?_
  | ((try first | refine WO_op rfl rfl rfl ?_ | refine WO_op0 rfl rfl ?_ | refine WD_op rfl rfl rfl ?_ | refine WD_op0 rfl rfl ?_); (refine WV_gen fun Q_ hQ_ => ?_; simp (disch := first | omega | (simp only [List.length_cons, List.length_nil, List.length_append]; omega)) only [bb, bp, argF, ↓reduceIte, reduceCtorEq, Nat.reduceEqDiff, Nat.reduceLT, Nat.reduceLeDiff, Nat.reduceAdd, Nat.reduceMul, Nat.reduceSub, Nat.reduceBEq, Int.reduceToNat, cond_true, cond_false, eq_self, beq_self_eq_true, newPtr_X wf, load1_X wf, loadAgg_X wf, store1_X wf, writeCells_X wf, makeFunc_def, tEvK4]; first | (refine dec_split (Q := Q_) (fun hp_ => ?_) (fun hp_ => ?_) <;> first | (exfalso; omega) | (refine hQ_ _ _ ?_; clear hQ_ Q_)) | (refine dec_splitn (Q := Q_) (fun hp_ => ?_) (fun hp_ => ?_) <;> first | (exfalso; omega) | (refine hQ_ _ _ ?_; clear hQ_ Q_)) | (refine hQ_ _ _ ?_; clear hQ_ Q_)))
  | (refine WC_cond fun K_ hK_ => ?_; simp (disch := omega) only [evT_tmp, upd_apply, WB_some, ↓reduceIte, reduceCtorEq, Nat.reduceEqDiff, Nat.reduceLT]; refine hK_ _ ?_; clear hK_ K_)))
    refine WC_drawnB [.full, .full, .full, .full, .full, .full, .full, .full, .full, .full, .full, .full, .full, .full, .full, .full, .full, .full, .full, .no, .no, .no, .no, .no, .no, .full, .full, .full] (by kernel_rfl) ?_
    (repeat' (first
  | (with_reducible first | refine WC_seq ?_ | refine WC_skip ?_ | refine WC_label ?_ | refine WC_scope ?_ | refine WC_block ?_ | refine WC_ret ?_ | refine WC_exit ?_ | refine seqQ_norm ?_ | refine seqQ_ret ?_ | refine seqQ_exit ?_ | refine blkQ_norm ?_ | refine blkQ_ret ?_ | refine blkQ_here ?_ | refine gateK_yes ?_ | refine gateK_none ?_ | refine condK_tt ?_ | refine condK_ff ?_ | refine roundQ_exit ?_ | refine roundQ_ret ?_)
  | refine WC_region ?_ | refine blkQ_out rfl ?_ | refine WO_nil ?_ | refine WD_nil ?_
  | ((first | refine WD_gate rfl rfl rfl rfl rfl fun K_ hK_ => ?_ | refine WO_gate rfl rfl rfl rfl rfl fun K_ hK_ => ?_); simp only [upd_apply, asB_bool, asB_tup, ↓reduceIte, reduceCtorEq, Nat.reduceEqDiff, Bool.not_true, Bool.not_false]; refine hK_ _ ?_; clear hK_ K_)
  | refine gateK_no (by decide) ?_
  | ((try first | refine WO_op rfl rfl rfl ?_ | refine WO_op0 rfl rfl ?_ | refine WD_op rfl rfl rfl ?_ | refine WD_op0 rfl rfl ?_); (refine WV_gen fun Q_ hQ_ => ?_; simp (disch := first | omega | (simp only [List.length_cons, List.length_nil, List.length_append]; omega)) only [bb, bp, argF, ↓reduceIte, reduceCtorEq, Nat.reduceEqDiff, Nat.reduceLT, Nat.reduceLeDiff, Nat.reduceAdd, Nat.reduceMul, Nat.reduceSub, Nat.reduceBEq, Int.reduceToNat, cond_true, cond_false, eq_self, beq_self_eq_true, newPtr_X wf, load1_X wf, loadAgg_X wf, store1_X wf, writeCells_X wf, makeFunc_def, tEvK4]; first | (refine dec_split (Q := Q_) (fun hp_ => ?_) (fun hp_ => ?_) <;> first | (exfalso; omega) | (refine hQ_ _ _ ?_; clear hQ_ Q_)) | (refine dec_splitn (Q := Q_) (fun hp_ => ?_) (fun hp_ => ?_) <;> first | (exfalso; omega) | (refine hQ_ _ _ ?_; clear hQ_ Q_)) | (refine hQ_ _ _ ?_; clear hQ_ Q_)))
  | (refine WC_cond fun K_ hK_ => ?_; simp (disch := omega) only [evT_tmp, upd_apply, WB_some, ↓reduceIte, reduceCtorEq, Nat.reduceEqDiff, Nat.reduceLT]; refine hK_ _ ?_; clear hK_ K_)))
    all_goals (refine endQ_ret _ _ rfl (ret1 (by decide)) ?_; simp only [upd_apply, ↓reduceIte, reduceCtorEq, Nat.reduceEqDiff]; refine WV_flat rfl (by omega) ?_)
    all_goals refine ⟨?_, rfl⟩
    all_goals unfold isBnd
    all_goals rw [decide_eq_false hb]
    all_goals rfl

theorem sgn_tt (x : Int) : sgn true x = x := rfl
theorem sgn_ff (x : Int) : sgn false x = -x := rfl
theorem sgn_sgn (b : Bool) (x : Int) : sgn b (sgn b x) = x := by cases b <;> simp [sgn]

theorem mx_taken {high : Bool} {F : Int → Int} {lo : Int} {j : Nat} {x best : Int} (hx : F (lo + (j : Int)) = sgn high x) (hb : (if j = 0 then 0 else sgn high (mxf F lo (j - 1))) = best) (hc : j = 0 ∨ (high = true ∧ best < x) ∨ (high = false ∧ x < best)) :
    x = sgn high (mxf F lo (j + 1 - 1)) := by
  rw [Nat.add_sub_cancel]
  cases j with
  | zero =>
    simp only [mxf]
    have : F lo = sgn high x := by simpa using hx
    rw [this, sgn_sgn]
  | succ j =>
    rw [if_neg (by omega), Nat.add_sub_cancel] at hb
    simp only [mxf]
    rw [hx]
    rcases hc with h | ⟨rfl, h⟩ | ⟨rfl, h⟩
    · omega
    · rw [sgn_tt] at *; rw [sgn_tt]; omega
    · rw [sgn_ff] at *; rw [sgn_ff]; omega
theorem mx_left {high : Bool} {F : Int → Int} {lo : Int} {j : Nat} {x best : Int} (hx : F (lo + (j : Int)) = sgn high x) (hb : (if j = 0 then 0 else sgn high (mxf F lo (j - 1))) = best) (hj : j ≠ 0) (h1 : high = true → x ≤ best) (h2 : high = false → best ≤ x) :
    best = sgn high (mxf F lo (j + 1 - 1)) := by
  rw [Nat.add_sub_cancel]
  cases j with
  | zero => exact absurd rfl hj
  | succ j =>
    rw [if_neg (by omega), Nat.add_sub_cancel] at hb
    simp only [mxf]
    rw [hx]
    cases high with
    | true => have := h1 rfl; rw [sgn_tt] at *; rw [sgn_tt]; omega
    | false => have := h2 rfl; rw [sgn_ff] at *; rw [sgn_ff]; omega

/-- What a place adds to the reference's sum. -/
def refG (g : Nat) (sp st : Int) (rows : List (List (Int × Int))) (m : Nat) (N D : Int) (high : Bool) (q : Nat) : Int := sgn high (bestG g sp st rows m N D high q)

theorem part (sp st : Int) (hsp : 1 ≤ sp ∧ sp ≤ 1000) (hst : 1 ≤ st ∧ st ≤ 100) (a : AV) (rvs : List AV) (rows : List (List (Int × Int))) (m : Nat) (hn : 2 ≤ rows.length ∧ rows.length ≤ 10) (hm : 2 ≤ m ∧ m ≤ 6)
    (what N D : Int) (hwh : 0 ≤ what ∧ what ≤ 2) (hN : 0 ≤ N ∧ N ≤ 100000000000) (hD : 1 ≤ D ∧ D ≤ 100000000) (high : Bool) (hof : ∀ q, q < rows.length * m → isOff (rAt rows m q)) (h : H) (x : HullAt h a rvs rows m) :
    (om Try.prog KK).call (.fn 32 [.agg [ii sp, ii st, a], ii what, .agg [ii N, ii D], .bool high]) h = .ok (ii (psum (refG (gOf what) sp st rows m N D high) (rows.length * m))) h := by
  have wf := x.wf
  have hnm : rows.length * m ≤ 60 := by
    have := Nat.mul_le_mul hn.2 hm.2; omega
  have hg := gOf_or what
  have hFin : ∀ q, q < rows.length * m → ∀ y, (rAt rows m q).1 ≤ y → y ≤ (rAt rows m q).1 + (wide (rAt rows m q) : Int) → -130000000000000000 ≤ fAt (gOf what) sp st rows.length m N D high q y ∧ fAt (gOf what) sp st rows.length m N D high q y ≤ 130000000000000000 := fun q hq y hy hy' => by
    have ho := hof q hq
    unfold isOff at ho
    refine fAt_in hg hsp hst hn.2 hm.2 hN hD high hq ⟨by omega, ?_⟩
    unfold wide at hy'
    omega
  have hbG : ∀ q, q < rows.length * m → -130000000000000000 ≤ refG (gOf what) sp st rows m N D high q ∧ refG (gOf what) sp st rows m N D high q ≤ 130000000000000000 := fun q hq => by
    have : -130000000000000000 ≤ bestG (gOf what) sp st rows m N D high q ∧ bestG (gOf what) sp st rows m N D high q ≤ 130000000000000000 := mxf_in (hFin q hq)
    unfold refG sgn
    split <;> omega
  have hlen : ∀ h', lenE Try.prog 22 a h' = some (ii (rows.length : Int)) := fun h' => x.sl.len un_22
  have hwt : ∀ (i n : Nat), i < n → n ≤ 1000 → ∀ l w, w ≤ h.clock + l.length → (om Try.prog KK).call (.fn 51 [ii (i : Int), ii (n : Int)]) (X h l w) = .ok (ii (wt n i)) (X h l w) := fun i n hi hn l w hw => weightR i n hi hn _ (wf.X hw)
  refine WV_to (WV_call (fn := Try.f32) Try.func32 rfl rfl rfl rfl rfl ?_)
  simp only [argF]
  (repeat' (first
  | (with_reducible first | refine WC_seq ?_ | refine WC_skip ?_ | refine WC_label ?_ | refine WC_scope ?_ | refine WC_block ?_ | refine WC_ret ?_ | refine WC_exit ?_ | refine seqQ_norm ?_ | refine seqQ_ret ?_ | refine seqQ_exit ?_ | refine blkQ_norm ?_ | refine blkQ_ret ?_ | refine blkQ_here ?_ | refine gateK_yes ?_ | refine gateK_none ?_ | refine condK_tt ?_ | refine condK_ff ?_ | refine roundQ_exit ?_ | refine roundQ_ret ?_)
  | refine WC_region ?_ | refine blkQ_out rfl ?_ | refine WO_nil ?_ | refine WD_nil ?_
  | ((first | refine WD_gate rfl rfl rfl rfl rfl fun K_ hK_ => ?_ | refine WO_gate rfl rfl rfl rfl rfl fun K_ hK_ => ?_); simp only [upd_apply, asB_bool, asB_tup, ↓reduceIte, reduceCtorEq, Nat.reduceEqDiff, Bool.not_true, Bool.not_false]; refine hK_ _ ?_; clear hK_ K_)
  | refine gateK_no (by decide) ?_
  | ((try first | refine WO_op rfl rfl rfl ?_ | refine WO_op0 rfl rfl ?_ | refine WD_op rfl rfl rfl ?_ | refine WD_op0 rfl rfl ?_); (refine WV_gen fun Q_ hQ_ => ?_; simp (disch := first | omega | (simp only [List.length_cons, List.length_nil, List.length_append]; omega)) only [bb, bp, argF, ↓reduceIte, reduceCtorEq, Nat.reduceEqDiff, Nat.reduceLT, Nat.reduceLeDiff, Nat.reduceAdd, Nat.reduceMul, Nat.reduceSub, Nat.reduceBEq, Int.reduceToNat, cond_true, cond_false, eq_self, beq_self_eq_true, newPtr_X wf, load1_X wf, loadAgg_X wf, store1_X wf, writeCells_X wf, makeFunc_def, tEvK4]; first | (refine dec_split (Q := Q_) (fun hp_ => ?_) (fun hp_ => ?_) <;> first | (exfalso; omega) | (refine hQ_ _ _ ?_; clear hQ_ Q_)) | (refine dec_splitn (Q := Q_) (fun hp_ => ?_) (fun hp_ => ?_) <;> first | (exfalso; omega) | (refine hQ_ _ _ ?_; clear hQ_ Q_)) | (refine hQ_ _ _ ?_; clear hQ_ Q_)))
  | (refine WC_cond fun K_ hK_ => ?_; simp (disch := omega) only [evT_tmp, upd_apply, WB_some, ↓reduceIte, reduceCtorEq, Nat.reduceEqDiff, Nat.reduceLT]; refine hK_ _ ?_; clear hK_ K_)))
  refine WC_loop (fun (i : Nat) f d h' => i ≤ rows.length ∧ f 1 = ii what ∧ f 3 = .bool high ∧ f 4 = .ptr (nx h 0) 0 ∧ f 6 = .ptr (nx h 1) 0 ∧ f 9 = ii (psum (refG (gOf what) sp st rows m N D high) (i * m)) ∧ f 10 = ii (i : Int) ∧ d = [] ∧ h' = X h [.cells (mkCells [ii sp, ii st, a]) 24, .cells (mkCells [ii N, ii D]) 26] h.clock)
    (fun i => rows.length - i) ?_ (rows.length + 1) 0 (by omega) ?_
  · rintro i f d h' ⟨hi', g1, g3, g4, g6, g9, g10, rfl, rfl⟩
    by_cases hlt : i < rows.length
    · obtain ⟨v, hv, hsv, hrl⟩ := x.row i hlt
      obtain ⟨id, off, hix, hld⟩ := x.sl.at1 wf hlt ik_22
      rw [hv] at hld
      have hlenv : ∀ h', lenE Try.prog 52 v h' = some (ii (m : Int)) := fun h' => hsv.len un_52
      (repeat' (first
  | (with_reducible first | refine WC_seq ?_ | refine WC_skip ?_ | refine WC_label ?_ | refine WC_scope ?_ | refine WC_block ?_ | refine WC_ret ?_ | refine WC_exit ?_ | refine seqQ_norm ?_ | refine seqQ_ret ?_ | refine seqQ_exit ?_ | refine blkQ_norm ?_ | refine blkQ_ret ?_ | refine blkQ_here ?_ | refine gateK_yes ?_ | refine gateK_none ?_ | refine condK_tt ?_ | refine condK_ff ?_ | refine roundQ_exit ?_ | refine roundQ_ret ?_)
  | refine WC_region ?_ | refine blkQ_out rfl ?_ | refine WO_nil ?_ | refine WD_nil ?_
  | ((first | refine WD_gate rfl rfl rfl rfl rfl fun K_ hK_ => ?_ | refine WO_gate rfl rfl rfl rfl rfl fun K_ hK_ => ?_); simp only [upd_apply, asB_bool, asB_tup, ↓reduceIte, reduceCtorEq, Nat.reduceEqDiff, Bool.not_true, Bool.not_false]; refine hK_ _ ?_; clear hK_ K_)
  | refine gateK_no (by decide) ?_
  | ((try first | refine WO_op rfl rfl rfl ?_ | refine WO_op0 rfl rfl ?_ | refine WD_op rfl rfl rfl ?_ | refine WD_op0 rfl rfl ?_); (refine WV_gen fun Q_ hQ_ => ?_; simp (disch := first | omega | (simp only [List.length_cons, List.length_nil, List.length_append]; omega)) only [bb, bp, argF, ↓reduceIte, reduceCtorEq, Nat.reduceEqDiff, Nat.reduceLT, Nat.reduceLeDiff, Nat.reduceAdd, Nat.reduceMul, Nat.reduceSub, Nat.reduceBEq, Int.reduceToNat, cond_true, cond_false, eq_self, beq_self_eq_true, g1, g3, g4, g6, g9, g10, hlen, hix, hld, hlenv, newPtr_X wf, load1_X wf, loadAgg_X wf, store1_X wf, writeCells_X wf, makeFunc_def, tEvK4]; first | (refine dec_split (Q := Q_) (fun hp_ => ?_) (fun hp_ => ?_) <;> first | (exfalso; omega) | (refine hQ_ _ _ ?_; clear hQ_ Q_)) | (refine dec_splitn (Q := Q_) (fun hp_ => ?_) (fun hp_ => ?_) <;> first | (exfalso; omega) | (refine hQ_ _ _ ?_; clear hQ_ Q_)) | (refine hQ_ _ _ ?_; clear hQ_ Q_)))
  | (refine WC_cond fun K_ hK_ => ?_; simp (disch := omega) only [evT_tmp, upd_apply, WB_some, ↓reduceIte, reduceCtorEq, Nat.reduceEqDiff, Nat.reduceLT]; refine hK_ _ ?_; clear hK_ K_)))
      refine WC_loop (fun (k : Nat) f d h' => k ≤ m ∧ f 1 = ii what ∧ f 3 = .bool high ∧ f 4 = .ptr (nx h 0) 0 ∧ f 6 = .ptr (nx h 1) 0 ∧ f 9 = ii (psum (refG (gOf what) sp st rows m N D high) (i * m + k)) ∧ f 10 = ii (i : Int) ∧ f 11 = ii (m : Int) ∧ f 12 = ii (k : Int) ∧ d = [] ∧ h' = X h [.cells (mkCells [ii sp, ii st, a]) 24, .cells (mkCells [ii N, ii D]) 26] h.clock)
        (fun k => m - k) ?_ (m + 1) 0 (by omega) ?_
      · clear g1 g3 g4 g6 g9 g10
        rintro k f d h' ⟨hk, g1, g3, g4, g6, g9, g10, g11, g12, rfl, rfl⟩
        by_cases hkl : k < m
        · obtain ⟨id2, off2, hix2, hld2⟩ := hsv.at wf hkl ik_52
          have hkr : k < rows[i].length := by omega
          have hr0 := rAt_ik hlt hkl hrl
          have hrow0 : ∀ l w, load1 id2 off2 (X h l w) = some (ii (rAt rows m (i * m + k)).1) := fun l w => by
            have := (hld2 l w).1 0 (by decide)
            rw [Nat.add_zero] at this
            rw [this, pairCells_get hkr (by decide), hr0]; rfl
          have hrow1 : ∀ l w, load1 id2 (off2 + 1) (X h l w) = some (ii (rAt rows m (i * m + k)).2) := fun l w => by
            have := (hld2 l w).1 1 (by decide)
            rw [this, pairCells_get hkr (by decide), hr0]; rfl
          have hq := ik_lt (n := rows.length) hlt hkl
          have hF := hFin _ hq
          have ho := hof _ hq
          unfold isOff at ho
          have e1 : (i * m + k) / m = i := by rw [Nat.mul_comm, Nat.mul_add_div (by omega), Nat.div_eq_of_lt hkl]; omega
          have e2 : (i * m + k) % m = k := by rw [Nat.mul_comm, Nat.mul_add_mod]; exact Nat.mod_eq_of_lt hkl
          have e3 : W rows.length m (i * m + k) = wt rows.length i * wt m k := by unfold W; rw [e1, e2]
          have hs := psum_in2 (f := refG (gOf what) sp st rows m N D high) (b := 130000000000000000) (q := i * m + k) (fun i' hi' => hbG i' (by omega))
          have hg1 := hbG _ hq
          have hw1 := hwt i rows.length hlt (by omega)
          have hw2 := hwt k m hkl (by omega)
          have b0 := wt2 rows.length i m k
          have hwd : ((wide (rAt rows m (i * m + k)) : Nat) : Int) = (rAt rows m (i * m + k)).2 - (rAt rows m (i * m + k)).1 := by unfold wide; omega
          (repeat' (first
  | (with_reducible first | refine WC_seq ?_ | refine WC_skip ?_ | refine WC_label ?_ | refine WC_scope ?_ | refine WC_block ?_ | refine WC_ret ?_ | refine WC_exit ?_ | refine seqQ_norm ?_ | refine seqQ_ret ?_ | refine seqQ_exit ?_ | refine blkQ_norm ?_ | refine blkQ_ret ?_ | refine blkQ_here ?_ | refine gateK_yes ?_ | refine gateK_none ?_ | refine condK_tt ?_ | refine condK_ff ?_ | refine roundQ_exit ?_ | refine roundQ_ret ?_)
  | refine WC_region ?_ | refine blkQ_out rfl ?_ | refine WO_nil ?_ | refine WD_nil ?_
  | ((first | refine WD_gate rfl rfl rfl rfl rfl fun K_ hK_ => ?_ | refine WO_gate rfl rfl rfl rfl rfl fun K_ hK_ => ?_); simp only [upd_apply, asB_bool, asB_tup, ↓reduceIte, reduceCtorEq, Nat.reduceEqDiff, Bool.not_true, Bool.not_false]; refine hK_ _ ?_; clear hK_ K_)
  | refine gateK_no (by decide) ?_
  | ((try first | refine WO_op rfl rfl rfl ?_ | refine WO_op0 rfl rfl ?_ | refine WD_op rfl rfl rfl ?_ | refine WD_op0 rfl rfl ?_); (refine WV_gen fun Q_ hQ_ => ?_; simp (disch := first | omega | (simp only [List.length_cons, List.length_nil, List.length_append]; omega)) only [bb, bp, argF, ↓reduceIte, reduceCtorEq, Nat.reduceEqDiff, Nat.reduceLT, Nat.reduceLeDiff, Nat.reduceAdd, Nat.reduceMul, Nat.reduceSub, Nat.reduceBEq, Int.reduceToNat, cond_true, cond_false, eq_self, beq_self_eq_true, g1, g3, g4, g6, g9, g10, g11, g12, hlen, hix, hld, hlenv, hix2, hrow0, hrow1, hw1, hw2, newPtr_X wf, load1_X wf, loadAgg_X wf, store1_X wf, writeCells_X wf, makeFunc_def, tEvK4]; first | (refine dec_split (Q := Q_) (fun hp_ => ?_) (fun hp_ => ?_) <;> first | (exfalso; omega) | (refine hQ_ _ _ ?_; clear hQ_ Q_)) | (refine dec_splitn (Q := Q_) (fun hp_ => ?_) (fun hp_ => ?_) <;> first | (exfalso; omega) | (refine hQ_ _ _ ?_; clear hQ_ Q_)) | (refine hQ_ _ _ ?_; clear hQ_ Q_)))
  | (refine WC_cond fun K_ hK_ => ?_; simp (disch := omega) only [evT_tmp, upd_apply, WB_some, ↓reduceIte, reduceCtorEq, Nat.reduceEqDiff, Nat.reduceLT]; refine hK_ _ ?_; clear hK_ K_)))
          generalize hrr : rAt rows m (i * m + k) = r at *
          generalize hnw : wide r = nw at *
          refine WC_loop (fun (j : Nat) f d h' => j ≤ nw + 1 ∧ f 1 = ii what ∧ f 3 = .bool high ∧ f 4 = .ptr (nx h 0) 0 ∧ f 6 = .ptr (nx h 1) 0 ∧ f 9 = ii (psum (refG (gOf what) sp st rows m N D high) (i * m + k)) ∧ f 10 = ii (i : Int) ∧ f 11 = ii (m : Int) ∧ f 12 = ii (k : Int) ∧ f 13 = ii (wt rows.length i * wt m k) ∧
              f 14 = ii (if j = 0 then 0 else sgn high (mxf (fAt (gOf what) sp st rows.length m N D high (i * m + k)) r.1 (j - 1))) ∧ f 15 = ii (r.1 + (j : Int)) ∧ d = [] ∧ h' = X h [.cells (mkCells [ii sp, ii st, a]) 24, .cells (mkCells [ii N, ii D]) 26] h.clock)
            (fun j => nw + 1 - j) ?_ (nw + 2) 0 (by omega) ?_
          · clear g1 g3 g4 g6 g9 g10 g11 g12
            rintro j f d h' ⟨hj, g1, g3, g4, g6, g9, g10, g11, g12, g13, g14, g15, rfl, rfl⟩
            by_cases hjl : j < nw + 1
            · have hy : 0 ≤ r.1 + (j : Int) ∧ r.1 + (j : Int) ≤ 500 := ⟨by omega, by omega⟩
              generalize hbst : (if j = 0 then (0 : Int) else sgn high (mxf (fAt (gOf what) sp st rows.length m N D high (i * m + k)) r.1 (j - 1))) = bst at *
              have hFy : fAt (gOf what) sp st rows.length m N D high (i * m + k) (r.1 + (j : Int)) = sgn high (gapOf (gOf what) sp st m i k (wt rows.length i * wt m k) N D (r.1 + (j : Int))) := by unfold fAt; rw [e1, e2, e3]
              have hX := gap_in hg hsp hst hm.2 (i := i) (k := k) (by omega) hkl b0 hy hN hD
              have hy0 : (r.1 + (j : Int) = r.1) ↔ j = 0 := by omega
              have hylt : r.1 + (j : Int) ≤ r.2 := by omega
              generalize hyy : r.1 + (j : Int) = y at *
              generalize hWW : wt rows.length i * wt m k = w at *
              have bi := wt_in rows.length i
              have a1 := mul_bd (a := sp) (b := (i : Int)) (x := 1000) (y := 9) ⟨by omega, by omega⟩ ⟨by omega, by omega⟩
              have a2 := mul_bd a1 b0
              have a3 := mul_bd a2 hy
              have c1 := mul_bd b0 hy
              have s1 := mul_bd (a := st) (b := (k : Int)) (x := 100) (y := 5) ⟨by omega, by omega⟩ ⟨by omega, by omega⟩
              have s2 := mul_bd s1 b0
              have s3 := mul_bd s2 hy
              have t1 := mul_bd (a := 3 * st) (b := st) (x := 300) (y := 100) ⟨by omega, by omega⟩ ⟨by omega, by omega⟩
              have t2 := mul_bd t1 (b := (k : Int)) (y := 5) ⟨by omega, by omega⟩
              have t3 := mul_bd t2 b0
              have t4 := mul_bd t3 hy
              have u1 := mul_bd (a := 3 * st) (x := 300) ⟨by omega, by omega⟩ b0
              have u2 := mul_bd u1 hy
              have v2 := mul_bd (a := 2 * wt rows.length i) (x := 4) ⟨by omega, by omega⟩ hy
              have v3 := mul_bd v2 hy
              have v4 := mul_bd v3 hy
              have d0 := mul_bd (a := D) (x := 100000000) ⟨by omega, by omega⟩ a3
              have d1 := mul_bd (a := D) (x := 100000000) ⟨by omega, by omega⟩ s3
              have d2 := mul_bd (a := D) (x := 100000000) ⟨by omega, by omega⟩ t4
              have d3 := mul_bd (a := D) (x := 100000000) (b := 3 * st * st * (k : Int) * w * y + 2 * wt rows.length i * y * y * y) (y := 1000000000) ⟨by omega, by omega⟩ ⟨by omega, by omega⟩
              have m0' := mul_bd hN c1
              have m2' := mul_bd hN u2
              rcases (by omega : what = 0 ∨ what = 1 ∨ what = 2) with rfl | rfl | rfl
              · have hx0 : D * (sp * (i : Int) * w * y) - N * (w * y) = gapOf (gOf 0) sp st m i k w N D y := by
                  simp only [gapOf, gOf, numOf, denOf, ↓reduceIte, Nat.reduceEqDiff]; grind
                cases high
                · (repeat' (first
  | (with_reducible first | refine WC_seq ?_ | refine WC_skip ?_ | refine WC_label ?_ | refine WC_scope ?_ | refine WC_block ?_ | refine WC_ret ?_ | refine WC_exit ?_ | refine seqQ_norm ?_ | refine seqQ_ret ?_ | refine seqQ_exit ?_ | refine blkQ_norm ?_ | refine blkQ_ret ?_ | refine blkQ_here ?_ | refine gateK_yes ?_ | refine gateK_none ?_ | refine condK_tt ?_ | refine condK_ff ?_ | refine roundQ_exit ?_ | refine roundQ_ret ?_)
  | refine WC_region ?_ | refine blkQ_out rfl ?_ | refine WO_nil ?_ | refine WD_nil ?_
  | ((first | refine WD_gate rfl rfl rfl rfl rfl fun K_ hK_ => ?_ | refine WO_gate rfl rfl rfl rfl rfl fun K_ hK_ => ?_); simp only [upd_apply, asB_bool, asB_tup, ↓reduceIte, reduceCtorEq, Nat.reduceEqDiff, Bool.not_true, Bool.not_false]; refine hK_ _ ?_; clear hK_ K_)
  | refine gateK_no (by decide) ?_
  | ((try first | refine WO_op rfl rfl rfl ?_ | refine WO_op0 rfl rfl ?_ | refine WD_op rfl rfl rfl ?_ | refine WD_op0 rfl rfl ?_); (refine WV_gen fun Q_ hQ_ => ?_; simp (disch := first | omega | (simp only [List.length_cons, List.length_nil, List.length_append]; omega)) only [bb, bp, argF, ↓reduceIte, reduceCtorEq, Nat.reduceEqDiff, Nat.reduceLT, Nat.reduceLeDiff, Nat.reduceAdd, Nat.reduceMul, Nat.reduceSub, Nat.reduceBEq, Int.reduceToNat, cond_true, cond_false, eq_self, beq_self_eq_true, g1, g3, g4, g6, g9, g10, g11, g12, g13, g14, g15, hx0, hy0, hlen, hix, hld, hlenv, hix2, hrow0, hrow1, newPtr_X wf, load1_X wf, loadAgg_X wf, store1_X wf, writeCells_X wf, makeFunc_def, tEvK4]; first | (refine dec_split (Q := Q_) (fun hp_ => ?_) (fun hp_ => ?_) <;> first | (exfalso; omega) | (refine hQ_ _ _ ?_; clear hQ_ Q_)) | (refine dec_splitn (Q := Q_) (fun hp_ => ?_) (fun hp_ => ?_) <;> first | (exfalso; omega) | (refine hQ_ _ _ ?_; clear hQ_ Q_)) | (refine hQ_ _ _ ?_; clear hQ_ Q_)))
  | (refine WC_cond fun K_ hK_ => ?_; simp (disch := omega) only [evT_tmp, upd_apply, WB_some, ↓reduceIte, reduceCtorEq, Nat.reduceEqDiff, Nat.reduceLT]; refine hK_ _ ?_; clear hK_ K_)))
                  all_goals
                    first
                      | (refine roundQ_again (j + 1) (by omega) ⟨by omega, by simp only [upd_apply, ↓reduceIte, reduceCtorEq, Nat.reduceEqDiff]; exact g1, by simp only [upd_apply, ↓reduceIte, reduceCtorEq, Nat.reduceEqDiff]; exact g3, by simp only [upd_apply, ↓reduceIte, reduceCtorEq, Nat.reduceEqDiff]; exact g4, by simp only [upd_apply, ↓reduceIte, reduceCtorEq, Nat.reduceEqDiff]; exact g6, by simp only [upd_apply, ↓reduceIte, reduceCtorEq, Nat.reduceEqDiff]; exact g9, by simp only [upd_apply, ↓reduceIte, reduceCtorEq, Nat.reduceEqDiff]; exact g10, by simp only [upd_apply, ↓reduceIte, reduceCtorEq, Nat.reduceEqDiff]; exact g11, by simp only [upd_apply, ↓reduceIte, reduceCtorEq, Nat.reduceEqDiff]; exact g12, by simp only [upd_apply, ↓reduceIte, reduceCtorEq, Nat.reduceEqDiff]; exact g13, by simp only [upd_apply, ↓reduceIte, reduceCtorEq, Nat.reduceEqDiff]; exact congrArg ii (mx_taken (by rw [hyy]; exact hFy) hbst (by first | exact .inl (by omega) | exact .inr (.inl ⟨rfl, by omega⟩) | exact .inr (.inr ⟨rfl, by omega⟩))), by simp only [upd_apply, ↓reduceIte, reduceCtorEq, Nat.reduceEqDiff]; exact congrArg ii (by omega), rfl, rfl⟩)
                      | (refine roundQ_again (j + 1) (by omega) ⟨by omega, by simp only [upd_apply, ↓reduceIte, reduceCtorEq, Nat.reduceEqDiff]; exact g1, by simp only [upd_apply, ↓reduceIte, reduceCtorEq, Nat.reduceEqDiff]; exact g3, by simp only [upd_apply, ↓reduceIte, reduceCtorEq, Nat.reduceEqDiff]; exact g4, by simp only [upd_apply, ↓reduceIte, reduceCtorEq, Nat.reduceEqDiff]; exact g6, by simp only [upd_apply, ↓reduceIte, reduceCtorEq, Nat.reduceEqDiff]; exact g9, by simp only [upd_apply, ↓reduceIte, reduceCtorEq, Nat.reduceEqDiff]; exact g10, by simp only [upd_apply, ↓reduceIte, reduceCtorEq, Nat.reduceEqDiff]; exact g11, by simp only [upd_apply, ↓reduceIte, reduceCtorEq, Nat.reduceEqDiff]; exact g12, by simp only [upd_apply, ↓reduceIte, reduceCtorEq, Nat.reduceEqDiff]; exact g13, by simp only [upd_apply, ↓reduceIte, reduceCtorEq, Nat.reduceEqDiff]; rw [g14]; exact congrArg ii (mx_left (by rw [hyy]; exact hFy) hbst (by omega) (by first | (intro _; omega) | (intro hh; cases hh)) (by first | (intro _; omega) | (intro hh; cases hh))), by simp only [upd_apply, ↓reduceIte, reduceCtorEq, Nat.reduceEqDiff]; exact congrArg ii (by omega), rfl, rfl⟩)
                · (repeat' (first
  | (with_reducible first | refine WC_seq ?_ | refine WC_skip ?_ | refine WC_label ?_ | refine WC_scope ?_ | refine WC_block ?_ | refine WC_ret ?_ | refine WC_exit ?_ | refine seqQ_norm ?_ | refine seqQ_ret ?_ | refine seqQ_exit ?_ | refine blkQ_norm ?_ | refine blkQ_ret ?_ | refine blkQ_here ?_ | refine gateK_yes ?_ | refine gateK_none ?_ | refine condK_tt ?_ | refine condK_ff ?_ | refine roundQ_exit ?_ | refine roundQ_ret ?_)
  | refine WC_region ?_ | refine blkQ_out rfl ?_ | refine WO_nil ?_ | refine WD_nil ?_
  | ((first | refine WD_gate rfl rfl rfl rfl rfl fun K_ hK_ => ?_ | refine WO_gate rfl rfl rfl rfl rfl fun K_ hK_ => ?_); simp only [upd_apply, asB_bool, asB_tup, ↓reduceIte, reduceCtorEq, Nat.reduceEqDiff, Bool.not_true, Bool.not_false]; refine hK_ _ ?_; clear hK_ K_)
  | refine gateK_no (by decide) ?_
  | ((try first | refine WO_op rfl rfl rfl ?_ | refine WO_op0 rfl rfl ?_ | refine WD_op rfl rfl rfl ?_ | refine WD_op0 rfl rfl ?_); (refine WV_gen fun Q_ hQ_ => ?_; simp (disch := first | omega | (simp only [List.length_cons, List.length_nil, List.length_append]; omega)) only [bb, bp, argF, ↓reduceIte, reduceCtorEq, Nat.reduceEqDiff, Nat.reduceLT, Nat.reduceLeDiff, Nat.reduceAdd, Nat.reduceMul, Nat.reduceSub, Nat.reduceBEq, Int.reduceToNat, cond_true, cond_false, eq_self, beq_self_eq_true, g1, g3, g4, g6, g9, g10, g11, g12, g13, g14, g15, hx0, hy0, hlen, hix, hld, hlenv, hix2, hrow0, hrow1, newPtr_X wf, load1_X wf, loadAgg_X wf, store1_X wf, writeCells_X wf, makeFunc_def, tEvK4]; first | (refine dec_split (Q := Q_) (fun hp_ => ?_) (fun hp_ => ?_) <;> first | (exfalso; omega) | (refine hQ_ _ _ ?_; clear hQ_ Q_)) | (refine dec_splitn (Q := Q_) (fun hp_ => ?_) (fun hp_ => ?_) <;> first | (exfalso; omega) | (refine hQ_ _ _ ?_; clear hQ_ Q_)) | (refine hQ_ _ _ ?_; clear hQ_ Q_)))
  | (refine WC_cond fun K_ hK_ => ?_; simp (disch := omega) only [evT_tmp, upd_apply, WB_some, ↓reduceIte, reduceCtorEq, Nat.reduceEqDiff, Nat.reduceLT]; refine hK_ _ ?_; clear hK_ K_)))
                  all_goals
                    first
                      | (refine roundQ_again (j + 1) (by omega) ⟨by omega, by simp only [upd_apply, ↓reduceIte, reduceCtorEq, Nat.reduceEqDiff]; exact g1, by simp only [upd_apply, ↓reduceIte, reduceCtorEq, Nat.reduceEqDiff]; exact g3, by simp only [upd_apply, ↓reduceIte, reduceCtorEq, Nat.reduceEqDiff]; exact g4, by simp only [upd_apply, ↓reduceIte, reduceCtorEq, Nat.reduceEqDiff]; exact g6, by simp only [upd_apply, ↓reduceIte, reduceCtorEq, Nat.reduceEqDiff]; exact g9, by simp only [upd_apply, ↓reduceIte, reduceCtorEq, Nat.reduceEqDiff]; exact g10, by simp only [upd_apply, ↓reduceIte, reduceCtorEq, Nat.reduceEqDiff]; exact g11, by simp only [upd_apply, ↓reduceIte, reduceCtorEq, Nat.reduceEqDiff]; exact g12, by simp only [upd_apply, ↓reduceIte, reduceCtorEq, Nat.reduceEqDiff]; exact g13, by simp only [upd_apply, ↓reduceIte, reduceCtorEq, Nat.reduceEqDiff]; exact congrArg ii (mx_taken (by rw [hyy]; exact hFy) hbst (by first | exact .inl (by omega) | exact .inr (.inl ⟨rfl, by omega⟩) | exact .inr (.inr ⟨rfl, by omega⟩))), by simp only [upd_apply, ↓reduceIte, reduceCtorEq, Nat.reduceEqDiff]; exact congrArg ii (by omega), rfl, rfl⟩)
                      | (refine roundQ_again (j + 1) (by omega) ⟨by omega, by simp only [upd_apply, ↓reduceIte, reduceCtorEq, Nat.reduceEqDiff]; exact g1, by simp only [upd_apply, ↓reduceIte, reduceCtorEq, Nat.reduceEqDiff]; exact g3, by simp only [upd_apply, ↓reduceIte, reduceCtorEq, Nat.reduceEqDiff]; exact g4, by simp only [upd_apply, ↓reduceIte, reduceCtorEq, Nat.reduceEqDiff]; exact g6, by simp only [upd_apply, ↓reduceIte, reduceCtorEq, Nat.reduceEqDiff]; exact g9, by simp only [upd_apply, ↓reduceIte, reduceCtorEq, Nat.reduceEqDiff]; exact g10, by simp only [upd_apply, ↓reduceIte, reduceCtorEq, Nat.reduceEqDiff]; exact g11, by simp only [upd_apply, ↓reduceIte, reduceCtorEq, Nat.reduceEqDiff]; exact g12, by simp only [upd_apply, ↓reduceIte, reduceCtorEq, Nat.reduceEqDiff]; exact g13, by simp only [upd_apply, ↓reduceIte, reduceCtorEq, Nat.reduceEqDiff]; rw [g14]; exact congrArg ii (mx_left (by rw [hyy]; exact hFy) hbst (by omega) (by first | (intro _; omega) | (intro hh; cases hh)) (by first | (intro _; omega) | (intro hh; cases hh))), by simp only [upd_apply, ↓reduceIte, reduceCtorEq, Nat.reduceEqDiff]; exact congrArg ii (by omega), rfl, rfl⟩)
              · have hx0 : D * (st * (k : Int) * w * y) - N * (w * y) = gapOf (gOf 1) sp st m i k w N D y := by
                  simp only [gapOf, gOf, numOf, denOf, ↓reduceIte, Nat.reduceEqDiff, reduceCtorEq, Int.reduceEq]; grind
                cases high
                · (repeat' (first
  | (with_reducible first | refine WC_seq ?_ | refine WC_skip ?_ | refine WC_label ?_ | refine WC_scope ?_ | refine WC_block ?_ | refine WC_ret ?_ | refine WC_exit ?_ | refine seqQ_norm ?_ | refine seqQ_ret ?_ | refine seqQ_exit ?_ | refine blkQ_norm ?_ | refine blkQ_ret ?_ | refine blkQ_here ?_ | refine gateK_yes ?_ | refine gateK_none ?_ | refine condK_tt ?_ | refine condK_ff ?_ | refine roundQ_exit ?_ | refine roundQ_ret ?_)
  | refine WC_region ?_ | refine blkQ_out rfl ?_ | refine WO_nil ?_ | refine WD_nil ?_
  | ((first | refine WD_gate rfl rfl rfl rfl rfl fun K_ hK_ => ?_ | refine WO_gate rfl rfl rfl rfl rfl fun K_ hK_ => ?_); simp only [upd_apply, asB_bool, asB_tup, ↓reduceIte, reduceCtorEq, Nat.reduceEqDiff, Bool.not_true, Bool.not_false]; refine hK_ _ ?_; clear hK_ K_)
  | refine gateK_no (by decide) ?_
  | ((try first | refine WO_op rfl rfl rfl ?_ | refine WO_op0 rfl rfl ?_ | refine WD_op rfl rfl rfl ?_ | refine WD_op0 rfl rfl ?_); (refine WV_gen fun Q_ hQ_ => ?_; simp (disch := first | omega | (simp only [List.length_cons, List.length_nil, List.length_append]; omega)) only [bb, bp, argF, ↓reduceIte, reduceCtorEq, Nat.reduceEqDiff, Nat.reduceLT, Nat.reduceLeDiff, Nat.reduceAdd, Nat.reduceMul, Nat.reduceSub, Nat.reduceBEq, Int.reduceToNat, cond_true, cond_false, eq_self, beq_self_eq_true, g1, g3, g4, g6, g9, g10, g11, g12, g13, g14, g15, hx0, hy0, hlen, hix, hld, hlenv, hix2, hrow0, hrow1, newPtr_X wf, load1_X wf, loadAgg_X wf, store1_X wf, writeCells_X wf, makeFunc_def, tEvK4]; first | (refine dec_split (Q := Q_) (fun hp_ => ?_) (fun hp_ => ?_) <;> first | (exfalso; omega) | (refine hQ_ _ _ ?_; clear hQ_ Q_)) | (refine dec_splitn (Q := Q_) (fun hp_ => ?_) (fun hp_ => ?_) <;> first | (exfalso; omega) | (refine hQ_ _ _ ?_; clear hQ_ Q_)) | (refine hQ_ _ _ ?_; clear hQ_ Q_)))
  | (refine WC_cond fun K_ hK_ => ?_; simp (disch := omega) only [evT_tmp, upd_apply, WB_some, ↓reduceIte, reduceCtorEq, Nat.reduceEqDiff, Nat.reduceLT]; refine hK_ _ ?_; clear hK_ K_)))
                  all_goals
                    first
                      | (refine roundQ_again (j + 1) (by omega) ⟨by omega, by simp only [upd_apply, ↓reduceIte, reduceCtorEq, Nat.reduceEqDiff]; exact g1, by simp only [upd_apply, ↓reduceIte, reduceCtorEq, Nat.reduceEqDiff]; exact g3, by simp only [upd_apply, ↓reduceIte, reduceCtorEq, Nat.reduceEqDiff]; exact g4, by simp only [upd_apply, ↓reduceIte, reduceCtorEq, Nat.reduceEqDiff]; exact g6, by simp only [upd_apply, ↓reduceIte, reduceCtorEq, Nat.reduceEqDiff]; exact g9, by simp only [upd_apply, ↓reduceIte, reduceCtorEq, Nat.reduceEqDiff]; exact g10, by simp only [upd_apply, ↓reduceIte, reduceCtorEq, Nat.reduceEqDiff]; exact g11, by simp only [upd_apply, ↓reduceIte, reduceCtorEq, Nat.reduceEqDiff]; exact g12, by simp only [upd_apply, ↓reduceIte, reduceCtorEq, Nat.reduceEqDiff]; exact g13, by simp only [upd_apply, ↓reduceIte, reduceCtorEq, Nat.reduceEqDiff]; exact congrArg ii (mx_taken (by rw [hyy]; exact hFy) hbst (by first | exact .inl (by omega) | exact .inr (.inl ⟨rfl, by omega⟩) | exact .inr (.inr ⟨rfl, by omega⟩))), by simp only [upd_apply, ↓reduceIte, reduceCtorEq, Nat.reduceEqDiff]; exact congrArg ii (by omega), rfl, rfl⟩)
                      | (refine roundQ_again (j + 1) (by omega) ⟨by omega, by simp only [upd_apply, ↓reduceIte, reduceCtorEq, Nat.reduceEqDiff]; exact g1, by simp only [upd_apply, ↓reduceIte, reduceCtorEq, Nat.reduceEqDiff]; exact g3, by simp only [upd_apply, ↓reduceIte, reduceCtorEq, Nat.reduceEqDiff]; exact g4, by simp only [upd_apply, ↓reduceIte, reduceCtorEq, Nat.reduceEqDiff]; exact g6, by simp only [upd_apply, ↓reduceIte, reduceCtorEq, Nat.reduceEqDiff]; exact g9, by simp only [upd_apply, ↓reduceIte, reduceCtorEq, Nat.reduceEqDiff]; exact g10, by simp only [upd_apply, ↓reduceIte, reduceCtorEq, Nat.reduceEqDiff]; exact g11, by simp only [upd_apply, ↓reduceIte, reduceCtorEq, Nat.reduceEqDiff]; exact g12, by simp only [upd_apply, ↓reduceIte, reduceCtorEq, Nat.reduceEqDiff]; exact g13, by simp only [upd_apply, ↓reduceIte, reduceCtorEq, Nat.reduceEqDiff]; rw [g14]; exact congrArg ii (mx_left (by rw [hyy]; exact hFy) hbst (by omega) (by first | (intro _; omega) | (intro hh; cases hh)) (by first | (intro _; omega) | (intro hh; cases hh))), by simp only [upd_apply, ↓reduceIte, reduceCtorEq, Nat.reduceEqDiff]; exact congrArg ii (by omega), rfl, rfl⟩)
                · (repeat' (first
  | (with_reducible first | refine WC_seq ?_ | refine WC_skip ?_ | refine WC_label ?_ | refine WC_scope ?_ | refine WC_block ?_ | refine WC_ret ?_ | refine WC_exit ?_ | refine seqQ_norm ?_ | refine seqQ_ret ?_ | refine seqQ_exit ?_ | refine blkQ_norm ?_ | refine blkQ_ret ?_ | refine blkQ_here ?_ | refine gateK_yes ?_ | refine gateK_none ?_ | refine condK_tt ?_ | refine condK_ff ?_ | refine roundQ_exit ?_ | refine roundQ_ret ?_)
  | refine WC_region ?_ | refine blkQ_out rfl ?_ | refine WO_nil ?_ | refine WD_nil ?_
  | ((first | refine WD_gate rfl rfl rfl rfl rfl fun K_ hK_ => ?_ | refine WO_gate rfl rfl rfl rfl rfl fun K_ hK_ => ?_); simp only [upd_apply, asB_bool, asB_tup, ↓reduceIte, reduceCtorEq, Nat.reduceEqDiff, Bool.not_true, Bool.not_false]; refine hK_ _ ?_; clear hK_ K_)
  | refine gateK_no (by decide) ?_
  | ((try first | refine WO_op rfl rfl rfl ?_ | refine WO_op0 rfl rfl ?_ | refine WD_op rfl rfl rfl ?_ | refine WD_op0 rfl rfl ?_); (refine WV_gen fun Q_ hQ_ => ?_; simp (disch := first | omega | (simp only [List.length_cons, List.length_nil, List.length_append]; omega)) only [bb, bp, argF, ↓reduceIte, reduceCtorEq, Nat.reduceEqDiff, Nat.reduceLT, Nat.reduceLeDiff, Nat.reduceAdd, Nat.reduceMul, Nat.reduceSub, Nat.reduceBEq, Int.reduceToNat, cond_true, cond_false, eq_self, beq_self_eq_true, g1, g3, g4, g6, g9, g10, g11, g12, g13, g14, g15, hx0, hy0, hlen, hix, hld, hlenv, hix2, hrow0, hrow1, newPtr_X wf, load1_X wf, loadAgg_X wf, store1_X wf, writeCells_X wf, makeFunc_def, tEvK4]; first | (refine dec_split (Q := Q_) (fun hp_ => ?_) (fun hp_ => ?_) <;> first | (exfalso; omega) | (refine hQ_ _ _ ?_; clear hQ_ Q_)) | (refine dec_splitn (Q := Q_) (fun hp_ => ?_) (fun hp_ => ?_) <;> first | (exfalso; omega) | (refine hQ_ _ _ ?_; clear hQ_ Q_)) | (refine hQ_ _ _ ?_; clear hQ_ Q_)))
  | (refine WC_cond fun K_ hK_ => ?_; simp (disch := omega) only [evT_tmp, upd_apply, WB_some, ↓reduceIte, reduceCtorEq, Nat.reduceEqDiff, Nat.reduceLT]; refine hK_ _ ?_; clear hK_ K_)))
                  all_goals
                    first
                      | (refine roundQ_again (j + 1) (by omega) ⟨by omega, by simp only [upd_apply, ↓reduceIte, reduceCtorEq, Nat.reduceEqDiff]; exact g1, by simp only [upd_apply, ↓reduceIte, reduceCtorEq, Nat.reduceEqDiff]; exact g3, by simp only [upd_apply, ↓reduceIte, reduceCtorEq, Nat.reduceEqDiff]; exact g4, by simp only [upd_apply, ↓reduceIte, reduceCtorEq, Nat.reduceEqDiff]; exact g6, by simp only [upd_apply, ↓reduceIte, reduceCtorEq, Nat.reduceEqDiff]; exact g9, by simp only [upd_apply, ↓reduceIte, reduceCtorEq, Nat.reduceEqDiff]; exact g10, by simp only [upd_apply, ↓reduceIte, reduceCtorEq, Nat.reduceEqDiff]; exact g11, by simp only [upd_apply, ↓reduceIte, reduceCtorEq, Nat.reduceEqDiff]; exact g12, by simp only [upd_apply, ↓reduceIte, reduceCtorEq, Nat.reduceEqDiff]; exact g13, by simp only [upd_apply, ↓reduceIte, reduceCtorEq, Nat.reduceEqDiff]; exact congrArg ii (mx_taken (by rw [hyy]; exact hFy) hbst (by first | exact .inl (by omega) | exact .inr (.inl ⟨rfl, by omega⟩) | exact .inr (.inr ⟨rfl, by omega⟩))), by simp only [upd_apply, ↓reduceIte, reduceCtorEq, Nat.reduceEqDiff]; exact congrArg ii (by omega), rfl, rfl⟩)
                      | (refine roundQ_again (j + 1) (by omega) ⟨by omega, by simp only [upd_apply, ↓reduceIte, reduceCtorEq, Nat.reduceEqDiff]; exact g1, by simp only [upd_apply, ↓reduceIte, reduceCtorEq, Nat.reduceEqDiff]; exact g3, by simp only [upd_apply, ↓reduceIte, reduceCtorEq, Nat.reduceEqDiff]; exact g4, by simp only [upd_apply, ↓reduceIte, reduceCtorEq, Nat.reduceEqDiff]; exact g6, by simp only [upd_apply, ↓reduceIte, reduceCtorEq, Nat.reduceEqDiff]; exact g9, by simp only [upd_apply, ↓reduceIte, reduceCtorEq, Nat.reduceEqDiff]; exact g10, by simp only [upd_apply, ↓reduceIte, reduceCtorEq, Nat.reduceEqDiff]; exact g11, by simp only [upd_apply, ↓reduceIte, reduceCtorEq, Nat.reduceEqDiff]; exact g12, by simp only [upd_apply, ↓reduceIte, reduceCtorEq, Nat.reduceEqDiff]; exact g13, by simp only [upd_apply, ↓reduceIte, reduceCtorEq, Nat.reduceEqDiff]; rw [g14]; exact congrArg ii (mx_left (by rw [hyy]; exact hFy) hbst (by omega) (by first | (intro _; omega) | (intro hh; cases hh)) (by first | (intro _; omega) | (intro hh; cases hh))), by simp only [upd_apply, ↓reduceIte, reduceCtorEq, Nat.reduceEqDiff]; exact congrArg ii (by omega), rfl, rfl⟩)
              · by_cases hkm : k + 1 = m
                · have hwk : wt m k = 1 := by rw [show k = m - 1 by omega]; exact wt_last (by omega)
                  have hkm' : ((k : Int) = (m : Int) - 1) = True := eq_true (by omega)
                  have hwi : wt rows.length i = w := by rw [← hWW, hwk]; omega
                  have hw1' := hwt i rows.length hlt (by omega)
                  rw [hwi] at hw1'
                  rw [hwi] at v2 v3 v4 d3 bi
                  have hx0 : D * (3 * st * st * (k : Int) * w * y + 2 * w * y * y * y) - N * (3 * st * w * y) = gapOf (gOf 2) sp st m i k w N D y := by
                    simp only [gapOf, gOf, numOf, denOf, ↓reduceIte, Nat.reduceEqDiff, reduceCtorEq, Int.reduceEq, hkm]; grind
                  cases high
                  · (repeat' (first
  | (with_reducible first | refine WC_seq ?_ | refine WC_skip ?_ | refine WC_label ?_ | refine WC_scope ?_ | refine WC_block ?_ | refine WC_ret ?_ | refine WC_exit ?_ | refine seqQ_norm ?_ | refine seqQ_ret ?_ | refine seqQ_exit ?_ | refine blkQ_norm ?_ | refine blkQ_ret ?_ | refine blkQ_here ?_ | refine gateK_yes ?_ | refine gateK_none ?_ | refine condK_tt ?_ | refine condK_ff ?_ | refine roundQ_exit ?_ | refine roundQ_ret ?_)
  | refine WC_region ?_ | refine blkQ_out rfl ?_ | refine WO_nil ?_ | refine WD_nil ?_
  | ((first | refine WD_gate rfl rfl rfl rfl rfl fun K_ hK_ => ?_ | refine WO_gate rfl rfl rfl rfl rfl fun K_ hK_ => ?_); simp only [upd_apply, asB_bool, asB_tup, ↓reduceIte, reduceCtorEq, Nat.reduceEqDiff, Bool.not_true, Bool.not_false]; refine hK_ _ ?_; clear hK_ K_)
  | refine gateK_no (by decide) ?_
  | ((try first | refine WO_op rfl rfl rfl ?_ | refine WO_op0 rfl rfl ?_ | refine WD_op rfl rfl rfl ?_ | refine WD_op0 rfl rfl ?_); (refine WV_gen fun Q_ hQ_ => ?_; simp (disch := first | omega | (simp only [List.length_cons, List.length_nil, List.length_append]; omega)) only [bb, bp, argF, ↓reduceIte, reduceCtorEq, Nat.reduceEqDiff, Nat.reduceLT, Nat.reduceLeDiff, Nat.reduceAdd, Nat.reduceMul, Nat.reduceSub, Nat.reduceBEq, Int.reduceToNat, cond_true, cond_false, eq_self, beq_self_eq_true, g1, g3, g4, g6, g9, g10, g11, g12, g13, g14, g15, hx0, hy0, hlen, hix, hld, hlenv, hix2, hrow0, hrow1, newPtr_X wf, load1_X wf, loadAgg_X wf, store1_X wf, writeCells_X wf, makeFunc_def, tEvK4, hw1', hkm']; first | (refine dec_split (Q := Q_) (fun hp_ => ?_) (fun hp_ => ?_) <;> first | (exfalso; omega) | (refine hQ_ _ _ ?_; clear hQ_ Q_)) | (refine dec_splitn (Q := Q_) (fun hp_ => ?_) (fun hp_ => ?_) <;> first | (exfalso; omega) | (refine hQ_ _ _ ?_; clear hQ_ Q_)) | (refine hQ_ _ _ ?_; clear hQ_ Q_)))
  | (refine WC_cond fun K_ hK_ => ?_; simp (disch := omega) only [evT_tmp, upd_apply, WB_some, ↓reduceIte, reduceCtorEq, Nat.reduceEqDiff, Nat.reduceLT]; refine hK_ _ ?_; clear hK_ K_)))
                    refine WC_drawnB [.no, .no, .no, .no, .no, .no, .no, .no, .no, .no, .no, .no, .no, .no, .no, .no, .no, .no, .no, .no, .full] (by kernel_rfl) ?_
                    (repeat' (first
  | (with_reducible first | refine WC_seq ?_ | refine WC_skip ?_ | refine WC_label ?_ | refine WC_scope ?_ | refine WC_block ?_ | refine WC_ret ?_ | refine WC_exit ?_ | refine seqQ_norm ?_ | refine seqQ_ret ?_ | refine seqQ_exit ?_ | refine blkQ_norm ?_ | refine blkQ_ret ?_ | refine blkQ_here ?_ | refine gateK_yes ?_ | refine gateK_none ?_ | refine condK_tt ?_ | refine condK_ff ?_ | refine roundQ_exit ?_ | refine roundQ_ret ?_)
  | refine WC_region ?_ | refine blkQ_out rfl ?_ | refine WO_nil ?_ | refine WD_nil ?_
  | ((first | refine WD_gate rfl rfl rfl rfl rfl fun K_ hK_ => ?_ | refine WO_gate rfl rfl rfl rfl rfl fun K_ hK_ => ?_); simp only [upd_apply, asB_bool, asB_tup, ↓reduceIte, reduceCtorEq, Nat.reduceEqDiff, Bool.not_true, Bool.not_false]; refine hK_ _ ?_; clear hK_ K_)
  | refine gateK_no (by decide) ?_
  | ((try first | refine WO_op rfl rfl rfl ?_ | refine WO_op0 rfl rfl ?_ | refine WD_op rfl rfl rfl ?_ | refine WD_op0 rfl rfl ?_); (refine WV_gen fun Q_ hQ_ => ?_; simp (disch := first | omega | (simp only [List.length_cons, List.length_nil, List.length_append]; omega)) only [bb, bp, argF, ↓reduceIte, reduceCtorEq, Nat.reduceEqDiff, Nat.reduceLT, Nat.reduceLeDiff, Nat.reduceAdd, Nat.reduceMul, Nat.reduceSub, Nat.reduceBEq, Int.reduceToNat, cond_true, cond_false, eq_self, beq_self_eq_true, g1, g3, g4, g6, g9, g10, g11, g12, g13, g14, g15, hx0, hy0, hlen, hix, hld, hlenv, hix2, hrow0, hrow1, newPtr_X wf, load1_X wf, loadAgg_X wf, store1_X wf, writeCells_X wf, makeFunc_def, tEvK4, hw1', hkm']; first | (refine dec_split (Q := Q_) (fun hp_ => ?_) (fun hp_ => ?_) <;> first | (exfalso; omega) | (refine hQ_ _ _ ?_; clear hQ_ Q_)) | (refine dec_splitn (Q := Q_) (fun hp_ => ?_) (fun hp_ => ?_) <;> first | (exfalso; omega) | (refine hQ_ _ _ ?_; clear hQ_ Q_)) | (refine hQ_ _ _ ?_; clear hQ_ Q_)))
  | (refine WC_cond fun K_ hK_ => ?_; simp (disch := omega) only [evT_tmp, upd_apply, WB_some, ↓reduceIte, reduceCtorEq, Nat.reduceEqDiff, Nat.reduceLT]; refine hK_ _ ?_; clear hK_ K_)))
                    all_goals
                      first
                        | (refine roundQ_again (j + 1) (by omega) ⟨by omega, by simp only [upd_apply, ↓reduceIte, reduceCtorEq, Nat.reduceEqDiff]; exact g1, by simp only [upd_apply, ↓reduceIte, reduceCtorEq, Nat.reduceEqDiff]; exact g3, by simp only [upd_apply, ↓reduceIte, reduceCtorEq, Nat.reduceEqDiff]; exact g4, by simp only [upd_apply, ↓reduceIte, reduceCtorEq, Nat.reduceEqDiff]; exact g6, by simp only [upd_apply, ↓reduceIte, reduceCtorEq, Nat.reduceEqDiff]; exact g9, by simp only [upd_apply, ↓reduceIte, reduceCtorEq, Nat.reduceEqDiff]; exact g10, by simp only [upd_apply, ↓reduceIte, reduceCtorEq, Nat.reduceEqDiff]; exact g11, by simp only [upd_apply, ↓reduceIte, reduceCtorEq, Nat.reduceEqDiff]; exact g12, by simp only [upd_apply, ↓reduceIte, reduceCtorEq, Nat.reduceEqDiff]; exact g13, by simp only [upd_apply, ↓reduceIte, reduceCtorEq, Nat.reduceEqDiff]; exact congrArg ii (mx_taken (by rw [hyy]; exact hFy) hbst (by first | exact .inl (by omega) | exact .inr (.inl ⟨rfl, by omega⟩) | exact .inr (.inr ⟨rfl, by omega⟩))), by simp only [upd_apply, ↓reduceIte, reduceCtorEq, Nat.reduceEqDiff]; exact congrArg ii (by omega), rfl, rfl⟩)
                        | (refine roundQ_again (j + 1) (by omega) ⟨by omega, by simp only [upd_apply, ↓reduceIte, reduceCtorEq, Nat.reduceEqDiff]; exact g1, by simp only [upd_apply, ↓reduceIte, reduceCtorEq, Nat.reduceEqDiff]; exact g3, by simp only [upd_apply, ↓reduceIte, reduceCtorEq, Nat.reduceEqDiff]; exact g4, by simp only [upd_apply, ↓reduceIte, reduceCtorEq, Nat.reduceEqDiff]; exact g6, by simp only [upd_apply, ↓reduceIte, reduceCtorEq, Nat.reduceEqDiff]; exact g9, by simp only [upd_apply, ↓reduceIte, reduceCtorEq, Nat.reduceEqDiff]; exact g10, by simp only [upd_apply, ↓reduceIte, reduceCtorEq, Nat.reduceEqDiff]; exact g11, by simp only [upd_apply, ↓reduceIte, reduceCtorEq, Nat.reduceEqDiff]; exact g12, by simp only [upd_apply, ↓reduceIte, reduceCtorEq, Nat.reduceEqDiff]; exact g13, by simp only [upd_apply, ↓reduceIte, reduceCtorEq, Nat.reduceEqDiff]; rw [g14]; exact congrArg ii (mx_left (by rw [hyy]; exact hFy) hbst (by omega) (by first | (intro _; omega) | (intro hh; cases hh)) (by first | (intro _; omega) | (intro hh; cases hh))), by simp only [upd_apply, ↓reduceIte, reduceCtorEq, Nat.reduceEqDiff]; exact congrArg ii (by omega), rfl, rfl⟩)
                  · (repeat' (first
  | (with_reducible first | refine WC_seq ?_ | refine WC_skip ?_ | refine WC_label ?_ | refine WC_scope ?_ | refine WC_block ?_ | refine WC_ret ?_ | refine WC_exit ?_ | refine seqQ_norm ?_ | refine seqQ_ret ?_ | refine seqQ_exit ?_ | refine blkQ_norm ?_ | refine blkQ_ret ?_ | refine blkQ_here ?_ | refine gateK_yes ?_ | refine gateK_none ?_ | refine condK_tt ?_ | refine condK_ff ?_ | refine roundQ_exit ?_ | refine roundQ_ret ?_)
  | refine WC_region ?_ | refine blkQ_out rfl ?_ | refine WO_nil ?_ | refine WD_nil ?_
  | ((first | refine WD_gate rfl rfl rfl rfl rfl fun K_ hK_ => ?_ | refine WO_gate rfl rfl rfl rfl rfl fun K_ hK_ => ?_); simp only [upd_apply, asB_bool, asB_tup, ↓reduceIte, reduceCtorEq, Nat.reduceEqDiff, Bool.not_true, Bool.not_false]; refine hK_ _ ?_; clear hK_ K_)
  | refine gateK_no (by decide) ?_
  | ((try first | refine WO_op rfl rfl rfl ?_ | refine WO_op0 rfl rfl ?_ | refine WD_op rfl rfl rfl ?_ | refine WD_op0 rfl rfl ?_); (refine WV_gen fun Q_ hQ_ => ?_; simp (disch := first | omega | (simp only [List.length_cons, List.length_nil, List.length_append]; omega)) only [bb, bp, argF, ↓reduceIte, reduceCtorEq, Nat.reduceEqDiff, Nat.reduceLT, Nat.reduceLeDiff, Nat.reduceAdd, Nat.reduceMul, Nat.reduceSub, Nat.reduceBEq, Int.reduceToNat, cond_true, cond_false, eq_self, beq_self_eq_true, g1, g3, g4, g6, g9, g10, g11, g12, g13, g14, g15, hx0, hy0, hlen, hix, hld, hlenv, hix2, hrow0, hrow1, newPtr_X wf, load1_X wf, loadAgg_X wf, store1_X wf, writeCells_X wf, makeFunc_def, tEvK4, hw1', hkm']; first | (refine dec_split (Q := Q_) (fun hp_ => ?_) (fun hp_ => ?_) <;> first | (exfalso; omega) | (refine hQ_ _ _ ?_; clear hQ_ Q_)) | (refine dec_splitn (Q := Q_) (fun hp_ => ?_) (fun hp_ => ?_) <;> first | (exfalso; omega) | (refine hQ_ _ _ ?_; clear hQ_ Q_)) | (refine hQ_ _ _ ?_; clear hQ_ Q_)))
  | (refine WC_cond fun K_ hK_ => ?_; simp (disch := omega) only [evT_tmp, upd_apply, WB_some, ↓reduceIte, reduceCtorEq, Nat.reduceEqDiff, Nat.reduceLT]; refine hK_ _ ?_; clear hK_ K_)))
                    refine WC_drawnB [.no, .no, .no, .no, .no, .no, .no, .no, .no, .no, .no, .no, .no, .no, .no, .no, .no, .no, .no, .no, .full] (by kernel_rfl) ?_
                    (repeat' (first
  | (with_reducible first | refine WC_seq ?_ | refine WC_skip ?_ | refine WC_label ?_ | refine WC_scope ?_ | refine WC_block ?_ | refine WC_ret ?_ | refine WC_exit ?_ | refine seqQ_norm ?_ | refine seqQ_ret ?_ | refine seqQ_exit ?_ | refine blkQ_norm ?_ | refine blkQ_ret ?_ | refine blkQ_here ?_ | refine gateK_yes ?_ | refine gateK_none ?_ | refine condK_tt ?_ | refine condK_ff ?_ | refine roundQ_exit ?_ | refine roundQ_ret ?_)
  | refine WC_region ?_ | refine blkQ_out rfl ?_ | refine WO_nil ?_ | refine WD_nil ?_
  | ((first | refine WD_gate rfl rfl rfl rfl rfl fun K_ hK_ => ?_ | refine WO_gate rfl rfl rfl rfl rfl fun K_ hK_ => ?_); simp only [upd_apply, asB_bool, asB_tup, ↓reduceIte, reduceCtorEq, Nat.reduceEqDiff, Bool.not_true, Bool.not_false]; refine hK_ _ ?_; clear hK_ K_)
  | refine gateK_no (by decide) ?_
  | ((try first | refine WO_op rfl rfl rfl ?_ | refine WO_op0 rfl rfl ?_ | refine WD_op rfl rfl rfl ?_ | refine WD_op0 rfl rfl ?_); (refine WV_gen fun Q_ hQ_ => ?_; simp (disch := first | omega | (simp only [List.length_cons, List.length_nil, List.length_append]; omega)) only [bb, bp, argF, ↓reduceIte, reduceCtorEq, Nat.reduceEqDiff, Nat.reduceLT, Nat.reduceLeDiff, Nat.reduceAdd, Nat.reduceMul, Nat.reduceSub, Nat.reduceBEq, Int.reduceToNat, cond_true, cond_false, eq_self, beq_self_eq_true, g1, g3, g4, g6, g9, g10, g11, g12, g13, g14, g15, hx0, hy0, hlen, hix, hld, hlenv, hix2, hrow0, hrow1, newPtr_X wf, load1_X wf, loadAgg_X wf, store1_X wf, writeCells_X wf, makeFunc_def, tEvK4, hw1', hkm']; first | (refine dec_split (Q := Q_) (fun hp_ => ?_) (fun hp_ => ?_) <;> first | (exfalso; omega) | (refine hQ_ _ _ ?_; clear hQ_ Q_)) | (refine dec_splitn (Q := Q_) (fun hp_ => ?_) (fun hp_ => ?_) <;> first | (exfalso; omega) | (refine hQ_ _ _ ?_; clear hQ_ Q_)) | (refine hQ_ _ _ ?_; clear hQ_ Q_)))
  | (refine WC_cond fun K_ hK_ => ?_; simp (disch := omega) only [evT_tmp, upd_apply, WB_some, ↓reduceIte, reduceCtorEq, Nat.reduceEqDiff, Nat.reduceLT]; refine hK_ _ ?_; clear hK_ K_)))
                    all_goals
                      first
                        | (refine roundQ_again (j + 1) (by omega) ⟨by omega, by simp only [upd_apply, ↓reduceIte, reduceCtorEq, Nat.reduceEqDiff]; exact g1, by simp only [upd_apply, ↓reduceIte, reduceCtorEq, Nat.reduceEqDiff]; exact g3, by simp only [upd_apply, ↓reduceIte, reduceCtorEq, Nat.reduceEqDiff]; exact g4, by simp only [upd_apply, ↓reduceIte, reduceCtorEq, Nat.reduceEqDiff]; exact g6, by simp only [upd_apply, ↓reduceIte, reduceCtorEq, Nat.reduceEqDiff]; exact g9, by simp only [upd_apply, ↓reduceIte, reduceCtorEq, Nat.reduceEqDiff]; exact g10, by simp only [upd_apply, ↓reduceIte, reduceCtorEq, Nat.reduceEqDiff]; exact g11, by simp only [upd_apply, ↓reduceIte, reduceCtorEq, Nat.reduceEqDiff]; exact g12, by simp only [upd_apply, ↓reduceIte, reduceCtorEq, Nat.reduceEqDiff]; exact g13, by simp only [upd_apply, ↓reduceIte, reduceCtorEq, Nat.reduceEqDiff]; exact congrArg ii (mx_taken (by rw [hyy]; exact hFy) hbst (by first | exact .inl (by omega) | exact .inr (.inl ⟨rfl, by omega⟩) | exact .inr (.inr ⟨rfl, by omega⟩))), by simp only [upd_apply, ↓reduceIte, reduceCtorEq, Nat.reduceEqDiff]; exact congrArg ii (by omega), rfl, rfl⟩)
                        | (refine roundQ_again (j + 1) (by omega) ⟨by omega, by simp only [upd_apply, ↓reduceIte, reduceCtorEq, Nat.reduceEqDiff]; exact g1, by simp only [upd_apply, ↓reduceIte, reduceCtorEq, Nat.reduceEqDiff]; exact g3, by simp only [upd_apply, ↓reduceIte, reduceCtorEq, Nat.reduceEqDiff]; exact g4, by simp only [upd_apply, ↓reduceIte, reduceCtorEq, Nat.reduceEqDiff]; exact g6, by simp only [upd_apply, ↓reduceIte, reduceCtorEq, Nat.reduceEqDiff]; exact g9, by simp only [upd_apply, ↓reduceIte, reduceCtorEq, Nat.reduceEqDiff]; exact g10, by simp only [upd_apply, ↓reduceIte, reduceCtorEq, Nat.reduceEqDiff]; exact g11, by simp only [upd_apply, ↓reduceIte, reduceCtorEq, Nat.reduceEqDiff]; exact g12, by simp only [upd_apply, ↓reduceIte, reduceCtorEq, Nat.reduceEqDiff]; exact g13, by simp only [upd_apply, ↓reduceIte, reduceCtorEq, Nat.reduceEqDiff]; rw [g14]; exact congrArg ii (mx_left (by rw [hyy]; exact hFy) hbst (by omega) (by first | (intro _; omega) | (intro hh; cases hh)) (by first | (intro _; omega) | (intro hh; cases hh))), by simp only [upd_apply, ↓reduceIte, reduceCtorEq, Nat.reduceEqDiff]; exact congrArg ii (by omega), rfl, rfl⟩)
                · have hkm' : ¬ (k : Int) = (m : Int) - 1 := by omega
                  have hx0 : D * (3 * st * st * (k : Int) * w * y) - N * (3 * st * w * y) = gapOf (gOf 2) sp st m i k w N D y := by
                    simp only [gapOf, gOf, numOf, denOf, ↓reduceIte, Nat.reduceEqDiff, reduceCtorEq, Int.reduceEq, hkm]; grind
                  cases high
                  · (repeat' (first
  | (with_reducible first | refine WC_seq ?_ | refine WC_skip ?_ | refine WC_label ?_ | refine WC_scope ?_ | refine WC_block ?_ | refine WC_ret ?_ | refine WC_exit ?_ | refine seqQ_norm ?_ | refine seqQ_ret ?_ | refine seqQ_exit ?_ | refine blkQ_norm ?_ | refine blkQ_ret ?_ | refine blkQ_here ?_ | refine gateK_yes ?_ | refine gateK_none ?_ | refine condK_tt ?_ | refine condK_ff ?_ | refine roundQ_exit ?_ | refine roundQ_ret ?_)
  | refine WC_region ?_ | refine blkQ_out rfl ?_ | refine WO_nil ?_ | refine WD_nil ?_
  | ((first | refine WD_gate rfl rfl rfl rfl rfl fun K_ hK_ => ?_ | refine WO_gate rfl rfl rfl rfl rfl fun K_ hK_ => ?_); simp only [upd_apply, asB_bool, asB_tup, ↓reduceIte, reduceCtorEq, Nat.reduceEqDiff, Bool.not_true, Bool.not_false]; refine hK_ _ ?_; clear hK_ K_)
  | refine gateK_no (by decide) ?_
  | ((try first | refine WO_op rfl rfl rfl ?_ | refine WO_op0 rfl rfl ?_ | refine WD_op rfl rfl rfl ?_ | refine WD_op0 rfl rfl ?_); (refine WV_gen fun Q_ hQ_ => ?_; simp (disch := first | omega | (simp only [List.length_cons, List.length_nil, List.length_append]; omega)) only [bb, bp, argF, ↓reduceIte, reduceCtorEq, Nat.reduceEqDiff, Nat.reduceLT, Nat.reduceLeDiff, Nat.reduceAdd, Nat.reduceMul, Nat.reduceSub, Nat.reduceBEq, Int.reduceToNat, cond_true, cond_false, eq_self, beq_self_eq_true, g1, g3, g4, g6, g9, g10, g11, g12, g13, g14, g15, hx0, hy0, hlen, hix, hld, hlenv, hix2, hrow0, hrow1, newPtr_X wf, load1_X wf, loadAgg_X wf, store1_X wf, writeCells_X wf, makeFunc_def, tEvK4]; first | (refine dec_split (Q := Q_) (fun hp_ => ?_) (fun hp_ => ?_) <;> first | (exfalso; omega) | (refine hQ_ _ _ ?_; clear hQ_ Q_)) | (refine dec_splitn (Q := Q_) (fun hp_ => ?_) (fun hp_ => ?_) <;> first | (exfalso; omega) | (refine hQ_ _ _ ?_; clear hQ_ Q_)) | (refine hQ_ _ _ ?_; clear hQ_ Q_)))
  | (refine WC_cond fun K_ hK_ => ?_; simp (disch := omega) only [evT_tmp, upd_apply, WB_some, ↓reduceIte, reduceCtorEq, Nat.reduceEqDiff, Nat.reduceLT]; refine hK_ _ ?_; clear hK_ K_)))
                    refine WC_drawnB [.no, .no, .no, .no, .no, .no, .no, .no, .no, .no, .no, .no, .no, .no, .no, .no, .no, .no, .no, .no, .full] (by kernel_rfl) ?_
                    (repeat' (first
  | (with_reducible first | refine WC_seq ?_ | refine WC_skip ?_ | refine WC_label ?_ | refine WC_scope ?_ | refine WC_block ?_ | refine WC_ret ?_ | refine WC_exit ?_ | refine seqQ_norm ?_ | refine seqQ_ret ?_ | refine seqQ_exit ?_ | refine blkQ_norm ?_ | refine blkQ_ret ?_ | refine blkQ_here ?_ | refine gateK_yes ?_ | refine gateK_none ?_ | refine condK_tt ?_ | refine condK_ff ?_ | refine roundQ_exit ?_ | refine roundQ_ret ?_)
  | refine WC_region ?_ | refine blkQ_out rfl ?_ | refine WO_nil ?_ | refine WD_nil ?_
  | ((first | refine WD_gate rfl rfl rfl rfl rfl fun K_ hK_ => ?_ | refine WO_gate rfl rfl rfl rfl rfl fun K_ hK_ => ?_); simp only [upd_apply, asB_bool, asB_tup, ↓reduceIte, reduceCtorEq, Nat.reduceEqDiff, Bool.not_true, Bool.not_false]; refine hK_ _ ?_; clear hK_ K_)
  | refine gateK_no (by decide) ?_
  | ((try first | refine WO_op rfl rfl rfl ?_ | refine WO_op0 rfl rfl ?_ | refine WD_op rfl rfl rfl ?_ | refine WD_op0 rfl rfl ?_); (refine WV_gen fun Q_ hQ_ => ?_; simp (disch := first | omega | (simp only [List.length_cons, List.length_nil, List.length_append]; omega)) only [bb, bp, argF, ↓reduceIte, reduceCtorEq, Nat.reduceEqDiff, Nat.reduceLT, Nat.reduceLeDiff, Nat.reduceAdd, Nat.reduceMul, Nat.reduceSub, Nat.reduceBEq, Int.reduceToNat, cond_true, cond_false, eq_self, beq_self_eq_true, g1, g3, g4, g6, g9, g10, g11, g12, g13, g14, g15, hx0, hy0, hlen, hix, hld, hlenv, hix2, hrow0, hrow1, newPtr_X wf, load1_X wf, loadAgg_X wf, store1_X wf, writeCells_X wf, makeFunc_def, tEvK4]; first | (refine dec_split (Q := Q_) (fun hp_ => ?_) (fun hp_ => ?_) <;> first | (exfalso; omega) | (refine hQ_ _ _ ?_; clear hQ_ Q_)) | (refine dec_splitn (Q := Q_) (fun hp_ => ?_) (fun hp_ => ?_) <;> first | (exfalso; omega) | (refine hQ_ _ _ ?_; clear hQ_ Q_)) | (refine hQ_ _ _ ?_; clear hQ_ Q_)))
  | (refine WC_cond fun K_ hK_ => ?_; simp (disch := omega) only [evT_tmp, upd_apply, WB_some, ↓reduceIte, reduceCtorEq, Nat.reduceEqDiff, Nat.reduceLT]; refine hK_ _ ?_; clear hK_ K_)))
                    all_goals
                      first
                        | (refine roundQ_again (j + 1) (by omega) ⟨by omega, by simp only [upd_apply, ↓reduceIte, reduceCtorEq, Nat.reduceEqDiff]; exact g1, by simp only [upd_apply, ↓reduceIte, reduceCtorEq, Nat.reduceEqDiff]; exact g3, by simp only [upd_apply, ↓reduceIte, reduceCtorEq, Nat.reduceEqDiff]; exact g4, by simp only [upd_apply, ↓reduceIte, reduceCtorEq, Nat.reduceEqDiff]; exact g6, by simp only [upd_apply, ↓reduceIte, reduceCtorEq, Nat.reduceEqDiff]; exact g9, by simp only [upd_apply, ↓reduceIte, reduceCtorEq, Nat.reduceEqDiff]; exact g10, by simp only [upd_apply, ↓reduceIte, reduceCtorEq, Nat.reduceEqDiff]; exact g11, by simp only [upd_apply, ↓reduceIte, reduceCtorEq, Nat.reduceEqDiff]; exact g12, by simp only [upd_apply, ↓reduceIte, reduceCtorEq, Nat.reduceEqDiff]; exact g13, by simp only [upd_apply, ↓reduceIte, reduceCtorEq, Nat.reduceEqDiff]; exact congrArg ii (mx_taken (by rw [hyy]; exact hFy) hbst (by first | exact .inl (by omega) | exact .inr (.inl ⟨rfl, by omega⟩) | exact .inr (.inr ⟨rfl, by omega⟩))), by simp only [upd_apply, ↓reduceIte, reduceCtorEq, Nat.reduceEqDiff]; exact congrArg ii (by omega), rfl, rfl⟩)
                        | (refine roundQ_again (j + 1) (by omega) ⟨by omega, by simp only [upd_apply, ↓reduceIte, reduceCtorEq, Nat.reduceEqDiff]; exact g1, by simp only [upd_apply, ↓reduceIte, reduceCtorEq, Nat.reduceEqDiff]; exact g3, by simp only [upd_apply, ↓reduceIte, reduceCtorEq, Nat.reduceEqDiff]; exact g4, by simp only [upd_apply, ↓reduceIte, reduceCtorEq, Nat.reduceEqDiff]; exact g6, by simp only [upd_apply, ↓reduceIte, reduceCtorEq, Nat.reduceEqDiff]; exact g9, by simp only [upd_apply, ↓reduceIte, reduceCtorEq, Nat.reduceEqDiff]; exact g10, by simp only [upd_apply, ↓reduceIte, reduceCtorEq, Nat.reduceEqDiff]; exact g11, by simp only [upd_apply, ↓reduceIte, reduceCtorEq, Nat.reduceEqDiff]; exact g12, by simp only [upd_apply, ↓reduceIte, reduceCtorEq, Nat.reduceEqDiff]; exact g13, by simp only [upd_apply, ↓reduceIte, reduceCtorEq, Nat.reduceEqDiff]; rw [g14]; exact congrArg ii (mx_left (by rw [hyy]; exact hFy) hbst (by omega) (by first | (intro _; omega) | (intro hh; cases hh)) (by first | (intro _; omega) | (intro hh; cases hh))), by simp only [upd_apply, ↓reduceIte, reduceCtorEq, Nat.reduceEqDiff]; exact congrArg ii (by omega), rfl, rfl⟩)
                  · (repeat' (first
  | (with_reducible first | refine WC_seq ?_ | refine WC_skip ?_ | refine WC_label ?_ | refine WC_scope ?_ | refine WC_block ?_ | refine WC_ret ?_ | refine WC_exit ?_ | refine seqQ_norm ?_ | refine seqQ_ret ?_ | refine seqQ_exit ?_ | refine blkQ_norm ?_ | refine blkQ_ret ?_ | refine blkQ_here ?_ | refine gateK_yes ?_ | refine gateK_none ?_ | refine condK_tt ?_ | refine condK_ff ?_ | refine roundQ_exit ?_ | refine roundQ_ret ?_)
  | refine WC_region ?_ | refine blkQ_out rfl ?_ | refine WO_nil ?_ | refine WD_nil ?_
  | ((first | refine WD_gate rfl rfl rfl rfl rfl fun K_ hK_ => ?_ | refine WO_gate rfl rfl rfl rfl rfl fun K_ hK_ => ?_); simp only [upd_apply, asB_bool, asB_tup, ↓reduceIte, reduceCtorEq, Nat.reduceEqDiff, Bool.not_true, Bool.not_false]; refine hK_ _ ?_; clear hK_ K_)
  | refine gateK_no (by decide) ?_
  | ((try first | refine WO_op rfl rfl rfl ?_ | refine WO_op0 rfl rfl ?_ | refine WD_op rfl rfl rfl ?_ | refine WD_op0 rfl rfl ?_); (refine WV_gen fun Q_ hQ_ => ?_; simp (disch := first | omega | (simp only [List.length_cons, List.length_nil, List.length_append]; omega)) only [bb, bp, argF, ↓reduceIte, reduceCtorEq, Nat.reduceEqDiff, Nat.reduceLT, Nat.reduceLeDiff, Nat.reduceAdd, Nat.reduceMul, Nat.reduceSub, Nat.reduceBEq, Int.reduceToNat, cond_true, cond_false, eq_self, beq_self_eq_true, g1, g3, g4, g6, g9, g10, g11, g12, g13, g14, g15, hx0, hy0, hlen, hix, hld, hlenv, hix2, hrow0, hrow1, newPtr_X wf, load1_X wf, loadAgg_X wf, store1_X wf, writeCells_X wf, makeFunc_def, tEvK4]; first | (refine dec_split (Q := Q_) (fun hp_ => ?_) (fun hp_ => ?_) <;> first | (exfalso; omega) | (refine hQ_ _ _ ?_; clear hQ_ Q_)) | (refine dec_splitn (Q := Q_) (fun hp_ => ?_) (fun hp_ => ?_) <;> first | (exfalso; omega) | (refine hQ_ _ _ ?_; clear hQ_ Q_)) | (refine hQ_ _ _ ?_; clear hQ_ Q_)))
  | (refine WC_cond fun K_ hK_ => ?_; simp (disch := omega) only [evT_tmp, upd_apply, WB_some, ↓reduceIte, reduceCtorEq, Nat.reduceEqDiff, Nat.reduceLT]; refine hK_ _ ?_; clear hK_ K_)))
                    refine WC_drawnB [.no, .no, .no, .no, .no, .no, .no, .no, .no, .no, .no, .no, .no, .no, .no, .no, .no, .no, .no, .no, .full] (by kernel_rfl) ?_
                    (repeat' (first
  | (with_reducible first | refine WC_seq ?_ | refine WC_skip ?_ | refine WC_label ?_ | refine WC_scope ?_ | refine WC_block ?_ | refine WC_ret ?_ | refine WC_exit ?_ | refine seqQ_norm ?_ | refine seqQ_ret ?_ | refine seqQ_exit ?_ | refine blkQ_norm ?_ | refine blkQ_ret ?_ | refine blkQ_here ?_ | refine gateK_yes ?_ | refine gateK_none ?_ | refine condK_tt ?_ | refine condK_ff ?_ | refine roundQ_exit ?_ | refine roundQ_ret ?_)
  | refine WC_region ?_ | refine blkQ_out rfl ?_ | refine WO_nil ?_ | refine WD_nil ?_
  | ((first | refine WD_gate rfl rfl rfl rfl rfl fun K_ hK_ => ?_ | refine WO_gate rfl rfl rfl rfl rfl fun K_ hK_ => ?_); simp only [upd_apply, asB_bool, asB_tup, ↓reduceIte, reduceCtorEq, Nat.reduceEqDiff, Bool.not_true, Bool.not_false]; refine hK_ _ ?_; clear hK_ K_)
  | refine gateK_no (by decide) ?_
  | ((try first | refine WO_op rfl rfl rfl ?_ | refine WO_op0 rfl rfl ?_ | refine WD_op rfl rfl rfl ?_ | refine WD_op0 rfl rfl ?_); (refine WV_gen fun Q_ hQ_ => ?_; simp (disch := first | omega | (simp only [List.length_cons, List.length_nil, List.length_append]; omega)) only [bb, bp, argF, ↓reduceIte, reduceCtorEq, Nat.reduceEqDiff, Nat.reduceLT, Nat.reduceLeDiff, Nat.reduceAdd, Nat.reduceMul, Nat.reduceSub, Nat.reduceBEq, Int.reduceToNat, cond_true, cond_false, eq_self, beq_self_eq_true, g1, g3, g4, g6, g9, g10, g11, g12, g13, g14, g15, hx0, hy0, hlen, hix, hld, hlenv, hix2, hrow0, hrow1, newPtr_X wf, load1_X wf, loadAgg_X wf, store1_X wf, writeCells_X wf, makeFunc_def, tEvK4]; first | (refine dec_split (Q := Q_) (fun hp_ => ?_) (fun hp_ => ?_) <;> first | (exfalso; omega) | (refine hQ_ _ _ ?_; clear hQ_ Q_)) | (refine dec_splitn (Q := Q_) (fun hp_ => ?_) (fun hp_ => ?_) <;> first | (exfalso; omega) | (refine hQ_ _ _ ?_; clear hQ_ Q_)) | (refine hQ_ _ _ ?_; clear hQ_ Q_)))
  | (refine WC_cond fun K_ hK_ => ?_; simp (disch := omega) only [evT_tmp, upd_apply, WB_some, ↓reduceIte, reduceCtorEq, Nat.reduceEqDiff, Nat.reduceLT]; refine hK_ _ ?_; clear hK_ K_)))
                    all_goals
                      first
                        | (refine roundQ_again (j + 1) (by omega) ⟨by omega, by simp only [upd_apply, ↓reduceIte, reduceCtorEq, Nat.reduceEqDiff]; exact g1, by simp only [upd_apply, ↓reduceIte, reduceCtorEq, Nat.reduceEqDiff]; exact g3, by simp only [upd_apply, ↓reduceIte, reduceCtorEq, Nat.reduceEqDiff]; exact g4, by simp only [upd_apply, ↓reduceIte, reduceCtorEq, Nat.reduceEqDiff]; exact g6, by simp only [upd_apply, ↓reduceIte, reduceCtorEq, Nat.reduceEqDiff]; exact g9, by simp only [upd_apply, ↓reduceIte, reduceCtorEq, Nat.reduceEqDiff]; exact g10, by simp only [upd_apply, ↓reduceIte, reduceCtorEq, Nat.reduceEqDiff]; exact g11, by simp only [upd_apply, ↓reduceIte, reduceCtorEq, Nat.reduceEqDiff]; exact g12, by simp only [upd_apply, ↓reduceIte, reduceCtorEq, Nat.reduceEqDiff]; exact g13, by simp only [upd_apply, ↓reduceIte, reduceCtorEq, Nat.reduceEqDiff]; exact congrArg ii (mx_taken (by rw [hyy]; exact hFy) hbst (by first | exact .inl (by omega) | exact .inr (.inl ⟨rfl, by omega⟩) | exact .inr (.inr ⟨rfl, by omega⟩))), by simp only [upd_apply, ↓reduceIte, reduceCtorEq, Nat.reduceEqDiff]; exact congrArg ii (by omega), rfl, rfl⟩)
                        | (refine roundQ_again (j + 1) (by omega) ⟨by omega, by simp only [upd_apply, ↓reduceIte, reduceCtorEq, Nat.reduceEqDiff]; exact g1, by simp only [upd_apply, ↓reduceIte, reduceCtorEq, Nat.reduceEqDiff]; exact g3, by simp only [upd_apply, ↓reduceIte, reduceCtorEq, Nat.reduceEqDiff]; exact g4, by simp only [upd_apply, ↓reduceIte, reduceCtorEq, Nat.reduceEqDiff]; exact g6, by simp only [upd_apply, ↓reduceIte, reduceCtorEq, Nat.reduceEqDiff]; exact g9, by simp only [upd_apply, ↓reduceIte, reduceCtorEq, Nat.reduceEqDiff]; exact g10, by simp only [upd_apply, ↓reduceIte, reduceCtorEq, Nat.reduceEqDiff]; exact g11, by simp only [upd_apply, ↓reduceIte, reduceCtorEq, Nat.reduceEqDiff]; exact g12, by simp only [upd_apply, ↓reduceIte, reduceCtorEq, Nat.reduceEqDiff]; exact g13, by simp only [upd_apply, ↓reduceIte, reduceCtorEq, Nat.reduceEqDiff]; rw [g14]; exact congrArg ii (mx_left (by rw [hyy]; exact hFy) hbst (by omega) (by first | (intro _; omega) | (intro hh; cases hh)) (by first | (intro _; omega) | (intro hh; cases hh))), by simp only [upd_apply, ↓reduceIte, reduceCtorEq, Nat.reduceEqDiff]; exact congrArg ii (by omega), rfl, rfl⟩)
            · have hje : j = nw + 1 := by omega
              have hyg : ¬ (r.1 + (j : Int) ≤ r.2) := by omega
              rw [if_neg (by omega), hje, Nat.add_sub_cancel] at g14
              have hfin : sgn high (mxf (fAt (gOf what) sp st rows.length m N D high (i * m + k)) r.1 nw) = refG (gOf what) sp st rows m N D high (i * m + k) := by unfold refG bestG; rw [hrr, hnw]
              rw [hfin] at g14
              (repeat' (first
  | (with_reducible first | refine WC_seq ?_ | refine WC_skip ?_ | refine WC_label ?_ | refine WC_scope ?_ | refine WC_block ?_ | refine WC_ret ?_ | refine WC_exit ?_ | refine seqQ_norm ?_ | refine seqQ_ret ?_ | refine seqQ_exit ?_ | refine blkQ_norm ?_ | refine blkQ_ret ?_ | refine blkQ_here ?_ | refine gateK_yes ?_ | refine gateK_none ?_ | refine condK_tt ?_ | refine condK_ff ?_ | refine roundQ_exit ?_ | refine roundQ_ret ?_)
  | refine WC_region ?_ | refine blkQ_out rfl ?_ | refine WO_nil ?_ | refine WD_nil ?_
  | ((first | refine WD_gate rfl rfl rfl rfl rfl fun K_ hK_ => ?_ | refine WO_gate rfl rfl rfl rfl rfl fun K_ hK_ => ?_); simp only [upd_apply, asB_bool, asB_tup, ↓reduceIte, reduceCtorEq, Nat.reduceEqDiff, Bool.not_true, Bool.not_false]; refine hK_ _ ?_; clear hK_ K_)
  | refine gateK_no (by decide) ?_
  | ((try first | refine WO_op rfl rfl rfl ?_ | refine WO_op0 rfl rfl ?_ | refine WD_op rfl rfl rfl ?_ | refine WD_op0 rfl rfl ?_); (refine WV_gen fun Q_ hQ_ => ?_; simp (disch := first | omega | (simp only [List.length_cons, List.length_nil, List.length_append]; omega)) only [bb, bp, argF, ↓reduceIte, reduceCtorEq, Nat.reduceEqDiff, Nat.reduceLT, Nat.reduceLeDiff, Nat.reduceAdd, Nat.reduceMul, Nat.reduceSub, Nat.reduceBEq, Int.reduceToNat, cond_true, cond_false, eq_self, beq_self_eq_true, g1, g3, g4, g6, g9, g10, g11, g12, g13, g14, g15, hyg, hlen, hix, hld, hlenv, hix2, hrow0, hrow1, newPtr_X wf, load1_X wf, loadAgg_X wf, store1_X wf, writeCells_X wf, makeFunc_def, tEvK4]; first | (refine dec_split (Q := Q_) (fun hp_ => ?_) (fun hp_ => ?_) <;> first | (exfalso; omega) | (refine hQ_ _ _ ?_; clear hQ_ Q_)) | (refine dec_splitn (Q := Q_) (fun hp_ => ?_) (fun hp_ => ?_) <;> first | (exfalso; omega) | (refine hQ_ _ _ ?_; clear hQ_ Q_)) | (refine hQ_ _ _ ?_; clear hQ_ Q_)))
  | (refine WC_cond fun K_ hK_ => ?_; simp (disch := omega) only [evT_tmp, upd_apply, WB_some, ↓reduceIte, reduceCtorEq, Nat.reduceEqDiff, Nat.reduceLT]; refine hK_ _ ?_; clear hK_ K_)))
              refine roundQ_again (k + 1) (by omega) ⟨hkl, by simp only [upd_apply, ↓reduceIte, reduceCtorEq, Nat.reduceEqDiff]; exact g1, by simp only [upd_apply, ↓reduceIte, reduceCtorEq, Nat.reduceEqDiff]; exact g3, by simp only [upd_apply, ↓reduceIte, reduceCtorEq, Nat.reduceEqDiff]; exact g4, by simp only [upd_apply, ↓reduceIte, reduceCtorEq, Nat.reduceEqDiff]; exact g6, by simp only [upd_apply, ↓reduceIte, reduceCtorEq, Nat.reduceEqDiff]; rfl, by simp only [upd_apply, ↓reduceIte, reduceCtorEq, Nat.reduceEqDiff]; exact g10, by simp only [upd_apply, ↓reduceIte, reduceCtorEq, Nat.reduceEqDiff]; exact g11, by simp only [upd_apply, ↓reduceIte, reduceCtorEq, Nat.reduceEqDiff]; rfl, rfl, rfl⟩
          · exact ⟨Nat.zero_le _, by simp only [upd_apply, ↓reduceIte, reduceCtorEq, Nat.reduceEqDiff]; exact g1, by simp only [upd_apply, ↓reduceIte, reduceCtorEq, Nat.reduceEqDiff]; exact g3, by simp only [upd_apply, ↓reduceIte, reduceCtorEq, Nat.reduceEqDiff]; exact g4, by simp only [upd_apply, ↓reduceIte, reduceCtorEq, Nat.reduceEqDiff]; exact g6, by simp only [upd_apply, ↓reduceIte, reduceCtorEq, Nat.reduceEqDiff]; exact g9, by simp only [upd_apply, ↓reduceIte, reduceCtorEq, Nat.reduceEqDiff]; exact g10, by simp only [upd_apply, ↓reduceIte, reduceCtorEq, Nat.reduceEqDiff]; exact g11, by simp only [upd_apply, ↓reduceIte, reduceCtorEq, Nat.reduceEqDiff]; exact g12, by simp only [upd_apply, ↓reduceIte, reduceCtorEq, Nat.reduceEqDiff], by simp only [upd_apply, ↓reduceIte, reduceCtorEq, Nat.reduceEqDiff]; (try rfl), by simp only [upd_apply, ↓reduceIte, reduceCtorEq, Nat.reduceEqDiff]; exact congrArg ii (by omega), rfl, rfl⟩
        · have hke : k = m := by omega
          rw [hke] at g9 g12
          (repeat' (first
  | (with_reducible first | refine WC_seq ?_ | refine WC_skip ?_ | refine WC_label ?_ | refine WC_scope ?_ | refine WC_block ?_ | refine WC_ret ?_ | refine WC_exit ?_ | refine seqQ_norm ?_ | refine seqQ_ret ?_ | refine seqQ_exit ?_ | refine blkQ_norm ?_ | refine blkQ_ret ?_ | refine blkQ_here ?_ | refine gateK_yes ?_ | refine gateK_none ?_ | refine condK_tt ?_ | refine condK_ff ?_ | refine roundQ_exit ?_ | refine roundQ_ret ?_)
  | refine WC_region ?_ | refine blkQ_out rfl ?_ | refine WO_nil ?_ | refine WD_nil ?_
  | ((first | refine WD_gate rfl rfl rfl rfl rfl fun K_ hK_ => ?_ | refine WO_gate rfl rfl rfl rfl rfl fun K_ hK_ => ?_); simp only [upd_apply, asB_bool, asB_tup, ↓reduceIte, reduceCtorEq, Nat.reduceEqDiff, Bool.not_true, Bool.not_false]; refine hK_ _ ?_; clear hK_ K_)
  | refine gateK_no (by decide) ?_
  | ((try first | refine WO_op rfl rfl rfl ?_ | refine WO_op0 rfl rfl ?_ | refine WD_op rfl rfl rfl ?_ | refine WD_op0 rfl rfl ?_); (refine WV_gen fun Q_ hQ_ => ?_; simp (disch := first | omega | (simp only [List.length_cons, List.length_nil, List.length_append]; omega)) only [bb, bp, argF, ↓reduceIte, reduceCtorEq, Nat.reduceEqDiff, Nat.reduceLT, Nat.reduceLeDiff, Nat.reduceAdd, Nat.reduceMul, Nat.reduceSub, Nat.reduceBEq, Int.reduceToNat, cond_true, cond_false, eq_self, beq_self_eq_true, g1, g3, g4, g6, g9, g10, g11, g12, newPtr_X wf, load1_X wf, loadAgg_X wf, store1_X wf, writeCells_X wf, makeFunc_def, tEvK4]; first | (refine dec_split (Q := Q_) (fun hp_ => ?_) (fun hp_ => ?_) <;> first | (exfalso; omega) | (refine hQ_ _ _ ?_; clear hQ_ Q_)) | (refine dec_splitn (Q := Q_) (fun hp_ => ?_) (fun hp_ => ?_) <;> first | (exfalso; omega) | (refine hQ_ _ _ ?_; clear hQ_ Q_)) | (refine hQ_ _ _ ?_; clear hQ_ Q_)))
  | (refine WC_cond fun K_ hK_ => ?_; simp (disch := omega) only [evT_tmp, upd_apply, WB_some, ↓reduceIte, reduceCtorEq, Nat.reduceEqDiff, Nat.reduceLT]; refine hK_ _ ?_; clear hK_ K_)))
          refine roundQ_again (i + 1) (by omega) ⟨hlt, by simp only [upd_apply, ↓reduceIte, reduceCtorEq, Nat.reduceEqDiff]; exact g1, by simp only [upd_apply, ↓reduceIte, reduceCtorEq, Nat.reduceEqDiff]; exact g3, by simp only [upd_apply, ↓reduceIte, reduceCtorEq, Nat.reduceEqDiff]; exact g4, by simp only [upd_apply, ↓reduceIte, reduceCtorEq, Nat.reduceEqDiff]; exact g6, by simp only [upd_apply, ↓reduceIte, reduceCtorEq, Nat.reduceEqDiff]; rw [Nat.succ_mul]; exact g9, by simp only [upd_apply, ↓reduceIte, reduceCtorEq, Nat.reduceEqDiff]; rfl, rfl, rfl⟩
      · exact ⟨Nat.zero_le _, by simp only [upd_apply, ↓reduceIte, reduceCtorEq, Nat.reduceEqDiff]; exact g1, by simp only [upd_apply, ↓reduceIte, reduceCtorEq, Nat.reduceEqDiff]; exact g3, by simp only [upd_apply, ↓reduceIte, reduceCtorEq, Nat.reduceEqDiff]; exact g4, by simp only [upd_apply, ↓reduceIte, reduceCtorEq, Nat.reduceEqDiff]; exact g6, by simp only [upd_apply, ↓reduceIte, reduceCtorEq, Nat.reduceEqDiff]; exact g9, by simp only [upd_apply, ↓reduceIte, reduceCtorEq, Nat.reduceEqDiff]; exact g10, by simp only [upd_apply, ↓reduceIte, reduceCtorEq, Nat.reduceEqDiff], by simp only [upd_apply, ↓reduceIte, reduceCtorEq, Nat.reduceEqDiff]; (try rfl), rfl, rfl⟩
    · have hie : i = rows.length := by omega
      subst hie
      (repeat' (first
  | (with_reducible first | refine WC_seq ?_ | refine WC_skip ?_ | refine WC_label ?_ | refine WC_scope ?_ | refine WC_block ?_ | refine WC_ret ?_ | refine WC_exit ?_ | refine seqQ_norm ?_ | refine seqQ_ret ?_ | refine seqQ_exit ?_ | refine blkQ_norm ?_ | refine blkQ_ret ?_ | refine blkQ_here ?_ | refine gateK_yes ?_ | refine gateK_none ?_ | refine condK_tt ?_ | refine condK_ff ?_ | refine roundQ_exit ?_ | refine roundQ_ret ?_)
  | refine WC_region ?_ | refine blkQ_out rfl ?_ | refine WO_nil ?_ | refine WD_nil ?_
  | ((first | refine WD_gate rfl rfl rfl rfl rfl fun K_ hK_ => ?_ | refine WO_gate rfl rfl rfl rfl rfl fun K_ hK_ => ?_); simp only [upd_apply, asB_bool, asB_tup, ↓reduceIte, reduceCtorEq, Nat.reduceEqDiff, Bool.not_true, Bool.not_false]; refine hK_ _ ?_; clear hK_ K_)
  | refine gateK_no (by decide) ?_
  | ((try first | refine WO_op rfl rfl rfl ?_ | refine WO_op0 rfl rfl ?_ | refine WD_op rfl rfl rfl ?_ | refine WD_op0 rfl rfl ?_); (refine WV_gen fun Q_ hQ_ => ?_; simp (disch := first | omega | (simp only [List.length_cons, List.length_nil, List.length_append]; omega)) only [bb, bp, argF, ↓reduceIte, reduceCtorEq, Nat.reduceEqDiff, Nat.reduceLT, Nat.reduceLeDiff, Nat.reduceAdd, Nat.reduceMul, Nat.reduceSub, Nat.reduceBEq, Int.reduceToNat, cond_true, cond_false, eq_self, beq_self_eq_true, g1, g3, g4, g6, g9, g10, hlen, newPtr_X wf, load1_X wf, loadAgg_X wf, store1_X wf, writeCells_X wf, makeFunc_def, tEvK4]; first | (refine dec_split (Q := Q_) (fun hp_ => ?_) (fun hp_ => ?_) <;> first | (exfalso; omega) | (refine hQ_ _ _ ?_; clear hQ_ Q_)) | (refine dec_splitn (Q := Q_) (fun hp_ => ?_) (fun hp_ => ?_) <;> first | (exfalso; omega) | (refine hQ_ _ _ ?_; clear hQ_ Q_)) | (refine hQ_ _ _ ?_; clear hQ_ Q_)))
  | (refine WC_cond fun K_ hK_ => ?_; simp (disch := omega) only [evT_tmp, upd_apply, WB_some, ↓reduceIte, reduceCtorEq, Nat.reduceEqDiff, Nat.reduceLT]; refine hK_ _ ?_; clear hK_ K_)))
      (refine endQ_ret _ _ rfl (ret1 (by decide)) ?_; simp only [upd_apply, ↓reduceIte, reduceCtorEq, Nat.reduceEqDiff]; refine WV_flat rfl (by omega) ?_)
      exact ⟨rfl, rfl⟩
  · exact ⟨Nat.zero_le _, by simp only [upd_apply, ↓reduceIte, reduceCtorEq, Nat.reduceEqDiff], by simp only [upd_apply, ↓reduceIte, reduceCtorEq, Nat.reduceEqDiff], by simp only [upd_apply, ↓reduceIte, reduceCtorEq, Nat.reduceEqDiff], by simp only [upd_apply, ↓reduceIte, reduceCtorEq, Nat.reduceEqDiff], by simp only [upd_apply, ↓reduceIte, reduceCtorEq, Nat.reduceEqDiff]; rw [Nat.zero_mul]; rfl, by simp only [upd_apply, ↓reduceIte, reduceCtorEq, Nat.reduceEqDiff]; (try rfl), rfl, rfl⟩
end Go.Proofs.Ytghondkiondeaac
end

/- EvK5 -/
section
/-
  LAYER 2: the statement BoxBounds, walked.
-/
namespace Go.Proofs.Ytghondkiondeaac
open Go.Ev
set_option maxRecDepth 100000
set_option linter.unusedSimpArgs false
set_option linter.unusedVariables false
set_option maxHeartbeats 4000000

end Go.Proofs.Ytghondkiondeaac
end

/- EvM7 -/
section
/-
  LAYER 2: what the ends are.
-/
namespace Go.Proofs.Ytghondkiondeaac
open Go.Ev
set_option maxRecDepth 100000
set_option linter.unusedSimpArgs false
set_option linter.unusedVariables false
set_option maxHeartbeats 2000000

section
variable {g : Nat} {sp st : Int} {rows : List (List (Int × Int))} {m : Nat}
theorem isBnd_of {N D : Int} (hb : bndIn N D) (hg : Int.gcd N D = 1) : isBnd N D = true := by
  unfold isBnd
  rw [decide_eq_true hb, hg]
  simp
theorem rat_bnd (k : HOK g sp st rows m) {gs : List Int} (hi : InG rows m gs) : bndIn (ratN g sp st rows m gs) (ratD g sp st rows m gs) ∧ isBnd (ratN g sp st rows m gs) (ratD g sp st rows m gs) = true := by
  obtain ⟨r1, r2⟩ := rat_in k hi
  have hb : bndIn (ratN g sp st rows m gs) (ratD g sp st rows m gs) := ⟨⟨r1.1, by omega⟩, r2.1, by omega⟩
  refine ⟨hb, isBnd_of hb ?_⟩
  unfold ratN ratD gcdG
  have h0 : 0 < Int.gcd (numG g sp st rows m gs) (denG g st rows m gs) := Int.gcd_pos_of_ne_zero_right _ (by have := denG_pos k hi; omega)
  exact Int.gcd_ediv_gcd_ediv_gcd h0

/-- In terms of the fraction. -/
theorem far_rat (k : HOK g sp st rows m) {gs : List Int} (hi : InG rows m gs) (N D : Int) (high : Bool) : farG g sp st rows m N D high gs ≤ 0 ↔ sgn high (ratN g sp st rows m gs * D - ratD g sp st rows m gs * N) ≤ 0 := by
  obtain ⟨g1, g2, g3⟩ := rat_num k hi
  rw [farG_eq, g2, g3]
  have e : sgn high (ratN g sp st rows m gs * gcdG g sp st rows m gs * D - ratD g sp st rows m gs * gcdG g sp st rows m gs * N) = sgn high (ratN g sp st rows m gs * D - ratD g sp st rows m gs * N) * gcdG g sp st rows m gs := by
    cases high
    · simp only [sgn_ff]; grind
    · simp only [sgn_tt]; grind
  rw [e]
  constructor
  · intro h
    rcases Int.lt_or_le 0 (sgn high (ratN g sp st rows m gs * D - ratD g sp st rows m gs * N)) with h1 | h1
    · have := Int.mul_pos h1 g1; omega
    · exact h1
  · intro h
    exact Int.mul_nonpos_of_nonpos_of_nonneg h (by omega)

/-- The hull that is farthest beyond any number. -/
def farHull (g : Nat) (sp st : Int) (rows : List (List (Int × Int))) (m : Nat) (N D : Int) (high : Bool) : List Int := gB (bestY g sp st rows m N D high) m (rows.length * m)
/-- No hull is beyond the end. -/
theorem theEnd_ok (k : HOK g sp st rows m) (high : Bool) : InG rows m (theEnd g sp st rows m high) ∧ sumG g sp st rows m high (theEnd g sp st rows m high) ≤ 0 := endG_ok k high _ (grid0_in k) (Nat.le_refl _)
theorem beyond (k : HOK g sp st rows m) (high : Bool) {gs : List Int} (hi : InG rows m gs) :
    sgn high (ratN g sp st rows m gs * ratD g sp st rows m (theEnd g sp st rows m high) - ratD g sp st rows m gs * ratN g sp st rows m (theEnd g sp st rows m high)) ≤ 0 := by
  obtain ⟨h1, h2⟩ := theEnd_ok k high
  refine (far_rat k hi _ _ high).1 ?_
  have := farG_le k (ratN g sp st rows m (theEnd g sp st rows m high)) (ratD g sp st rows m (theEnd g sp st rows m high)) high hi
  unfold sumG at h2
  omega
end

/-- A grid's offsets as lists are those of a true hull. -/
def listOf (gs : List Int) (n m : Nat) : List (List Int) := (List.range n).map (gRow gs m)
end Go.Proofs.Ytghondkiondeaac
end

/- EvM8 -/
section
/-
  LAYER 2: the statement BoxAttained, walked.
-/
namespace Go.Proofs.Ytghondkiondeaac
open Go.Ev
set_option maxRecDepth 100000
set_option linter.unusedSimpArgs false
set_option linter.unusedVariables false
set_option maxHeartbeats 4000000

theorem tEvM8 : type_of% (And.intro (And.intro (And.intro (And.intro (And.intro (@ia_2) (@sz_2)) (And.intro (@ze_2) (@ia_3))) (And.intro (And.intro (@sz_3) (@ia_4)) (And.intro (@sz_4) (@ia_5)))) (And.intro (And.intro (And.intro (@sz_5) (@ia_24)) (And.intro (@sz_24) (@ia_22))) (And.intro (And.intro (@sz_22) (@ia_34)) (And.intro (@sz_34) (@ia_26))))) (And.intro (And.intro (And.intro (And.intro (@sz_26) (@ze_26)) (And.intro (@ia_39) (@sz_39))) (And.intro (And.intro (@ze_39) (@fo_39_0)) (And.intro (@fo_39_1) (@pb_9)))) (And.intro (And.intro (And.intro (@pb_10) (@pb_11)) (And.intro (@pb_13) (@pb_18))) (And.intro (And.intro (@pb_20) (@pb_21)) (And.intro (@pb_22) (And.intro (@pb_23) (@pb_31))))))) := And.intro (And.intro (And.intro (And.intro (And.intro (@ia_2) (@sz_2)) (And.intro (@ze_2) (@ia_3))) (And.intro (And.intro (@sz_3) (@ia_4)) (And.intro (@sz_4) (@ia_5)))) (And.intro (And.intro (And.intro (@sz_5) (@ia_24)) (And.intro (@sz_24) (@ia_22))) (And.intro (And.intro (@sz_22) (@ia_34)) (And.intro (@sz_34) (@ia_26))))) (And.intro (And.intro (And.intro (And.intro (@sz_26) (@ze_26)) (And.intro (@ia_39) (@sz_39))) (And.intro (And.intro (@ze_39) (@fo_39_0)) (And.intro (@fo_39_1) (@pb_9)))) (And.intro (And.intro (And.intro (@pb_10) (@pb_11)) (And.intro (@pb_13) (@pb_18))) (And.intro (And.intro (@pb_20) (@pb_21)) (And.intro (@pb_22) (And.intro (@pb_23) (@pb_31))))))
/-- Few parts, and valid. -/
def Fine (sp st : Int) (rows : List (List (Int × Int))) : Prop := ¬ Great rows [] ∧ hullErr sp st rows = 0
theorem ysNil (h : H) (wf : Wf h) : YsR h .nils [] [] := ⟨wf, Sl.nil _ _, fun i hi => absurd hi (Nat.not_lt_zero i)⟩
theorem fineC (sp st : Int) (a : AV) (rvs : List AV) (rows : List (List (Int × Int))) (h : H) (x : HullR h a rvs rows) :
    (om Try.prog KK).call (.fn 13 [.agg [ii sp, ii st, a]]) h = .ok (.bool (!decide (Great rows []) && decide (hullErr sp st rows = 0))) h := by
  have wf := x.wf
  have hgr : ∀ l w, w ≤ h.clock + l.length → (om Try.prog KK).call (.fn 9 [.agg [ii sp, ii st, a], .nils]) (X h l w) = .ok (.bool (decide (Great rows []))) (X h l w) := fun l w hw => great sp st a .nils rvs [] rows [] _ (x.up l w hw) (ysNil _ (wf.X hw))
  have h31 : ∀ l w, w ≤ h.clock + l.length → (om Try.prog KK).call (.fn 31 [.agg [ii sp, ii st, a]]) (X h l w) = .ok (ii (hullErr sp st rows)) (X h l w) := fun l w hw => checkHullR sp st a rvs rows _ (x.up l w hw)
  refine WV_to (WV_call (fn := Try.f13) Try.func13 rfl rfl rfl rfl rfl ?_)
  simp only [argF]
  by_cases hG : Great rows []
  · rw [decide_eq_true hG] at hgr ⊢
    (repeat' (first
  | (with_reducible first | refine WC_seq ?_ | refine WC_skip ?_ | refine WC_label ?_ | refine WC_scope ?_ | refine WC_block ?_ | refine WC_ret ?_ | refine WC_exit ?_ | refine seqQ_norm ?_ | refine seqQ_ret ?_ | refine seqQ_exit ?_ | refine blkQ_norm ?_ | refine blkQ_ret ?_ | refine blkQ_here ?_ | refine gateK_yes ?_ | refine gateK_none ?_ | refine condK_tt ?_ | refine condK_ff ?_ | refine roundQ_exit ?_ | refine roundQ_ret ?_)
  | refine WC_region ?_ | refine blkQ_out rfl ?_ | refine WO_nil ?_ | refine WD_nil ?_
  | ((first | refine WD_gate rfl rfl rfl rfl rfl fun K_ hK_ => ?_ | refine WO_gate rfl rfl rfl rfl rfl fun K_ hK_ => ?_); simp only [upd_apply, asB_bool, asB_tup, ↓reduceIte, reduceCtorEq, Nat.reduceEqDiff, Bool.not_true, Bool.not_false]; refine hK_ _ ?_; clear hK_ K_)
  | refine gateK_no (by decide) ?_
  | ((try first | refine WO_op rfl rfl rfl ?_ | refine WO_op0 rfl rfl ?_ | refine WD_op rfl rfl rfl ?_ | refine WD_op0 rfl rfl ?_); (refine WV_gen fun Q_ hQ_ => ?_; simp (disch := first | omega | (simp only [List.length_cons, List.length_nil, List.length_append]; omega)) only [bb, bp, argF, ↓reduceIte, reduceCtorEq, Nat.reduceEqDiff, Nat.reduceLT, Nat.reduceLeDiff, Nat.reduceAdd, Nat.reduceMul, Nat.reduceSub, Nat.reduceBEq, Int.reduceToNat, cond_true, cond_false, eq_self, beq_self_eq_true, hgr, h31, newPtr_X wf, load1_X wf, loadAgg_X wf, store1_X wf, writeCells_X wf, makeFunc_def, tEvM8]; first | (refine dec_split (Q := Q_) (fun hp_ => ?_) (fun hp_ => ?_) <;> first | (exfalso; omega) | (refine hQ_ _ _ ?_; clear hQ_ Q_)) | (refine dec_splitn (Q := Q_) (fun hp_ => ?_) (fun hp_ => ?_) <;> first | (exfalso; omega) | (refine hQ_ _ _ ?_; clear hQ_ Q_)) | (refine hQ_ _ _ ?_; clear hQ_ Q_)))
  | (refine WC_cond fun K_ hK_ => ?_; simp (disch := omega) only [evT_tmp, upd_apply, WB_some, ↓reduceIte, reduceCtorEq, Nat.reduceEqDiff, Nat.reduceLT]; refine hK_ _ ?_; clear hK_ K_)))
    all_goals (refine endQ_ret _ _ rfl (ret1 (by decide)) ?_; simp only [upd_apply, ↓reduceIte, reduceCtorEq, Nat.reduceEqDiff]; refine WV_flat rfl (by omega) ?_)
    all_goals exact ⟨by simp [*], rfl⟩
  · rw [decide_eq_false hG] at hgr ⊢
    (repeat' (first
  | (with_reducible first | refine WC_seq ?_ | refine WC_skip ?_ | refine WC_label ?_ | refine WC_scope ?_ | refine WC_block ?_ | refine WC_ret ?_ | refine WC_exit ?_ | refine seqQ_norm ?_ | refine seqQ_ret ?_ | refine seqQ_exit ?_ | refine blkQ_norm ?_ | refine blkQ_ret ?_ | refine blkQ_here ?_ | refine gateK_yes ?_ | refine gateK_none ?_ | refine condK_tt ?_ | refine condK_ff ?_ | refine roundQ_exit ?_ | refine roundQ_ret ?_)
  | refine WC_region ?_ | refine blkQ_out rfl ?_ | refine WO_nil ?_ | refine WD_nil ?_
  | ((first | refine WD_gate rfl rfl rfl rfl rfl fun K_ hK_ => ?_ | refine WO_gate rfl rfl rfl rfl rfl fun K_ hK_ => ?_); simp only [upd_apply, asB_bool, asB_tup, ↓reduceIte, reduceCtorEq, Nat.reduceEqDiff, Bool.not_true, Bool.not_false]; refine hK_ _ ?_; clear hK_ K_)
  | refine gateK_no (by decide) ?_
  | ((try first | refine WO_op rfl rfl rfl ?_ | refine WO_op0 rfl rfl ?_ | refine WD_op rfl rfl rfl ?_ | refine WD_op0 rfl rfl ?_); (refine WV_gen fun Q_ hQ_ => ?_; simp (disch := first | omega | (simp only [List.length_cons, List.length_nil, List.length_append]; omega)) only [bb, bp, argF, ↓reduceIte, reduceCtorEq, Nat.reduceEqDiff, Nat.reduceLT, Nat.reduceLeDiff, Nat.reduceAdd, Nat.reduceMul, Nat.reduceSub, Nat.reduceBEq, Int.reduceToNat, cond_true, cond_false, eq_self, beq_self_eq_true, hgr, h31, newPtr_X wf, load1_X wf, loadAgg_X wf, store1_X wf, writeCells_X wf, makeFunc_def, tEvM8]; first | (refine dec_split (Q := Q_) (fun hp_ => ?_) (fun hp_ => ?_) <;> first | (exfalso; omega) | (refine hQ_ _ _ ?_; clear hQ_ Q_)) | (refine dec_splitn (Q := Q_) (fun hp_ => ?_) (fun hp_ => ?_) <;> first | (exfalso; omega) | (refine hQ_ _ _ ?_; clear hQ_ Q_)) | (refine hQ_ _ _ ?_; clear hQ_ Q_)))
  | (refine WC_cond fun K_ hK_ => ?_; simp (disch := omega) only [evT_tmp, upd_apply, WB_some, ↓reduceIte, reduceCtorEq, Nat.reduceEqDiff, Nat.reduceLT]; refine hK_ _ ?_; clear hK_ K_)))
    all_goals (refine endQ_ret _ _ rfl (ret1 (by decide)) ?_; simp only [upd_apply, ↓reduceIte, reduceCtorEq, Nat.reduceEqDiff]; refine WV_flat rfl (by omega) ?_)
    all_goals exact ⟨by simp [*], rfl⟩

theorem conv5 {n : Int} : convE Try.prog 5 3 (.int .u8 n) = some (ii (IntKind.i64.wrap n)) := c_int un_5 un_3

theorem isBnd_in {N D : Int} (hb : isBnd N D = true) : bndIn N D := by
  unfold isBnd at hb
  rw [Bool.and_eq_true] at hb
  exact of_decide_eq_true hb.1
end Go.Proofs.Ytghondkiondeaac
end

/- EvL17 -/
section
/-
  WHAT IS APPENDED IN A REGION OF FIXED ORDER.
-/
namespace Go.Ev
section
variable {P : Program}
end
end Go.Ev
end

/- EvN2 -/
section
/-
  LAYER 2: a true hull by numbers.
-/
namespace Go.Proofs.Ytghondkiondeaac
open Go.Ev
set_option maxRecDepth 100000
set_option linter.unusedSimpArgs false
set_option linter.unusedVariables false
set_option maxHeartbeats 4000000

/-- A number given as a byte. -/
def uu (n : Int) : AV := .int .u8 n
/-- The offset at a place, by numbers. -/
def tY (bys : List Int) (r : Int × Int) (q : Nat) : Int := if bys.length = 0 then r.1 else r.1 + bys.getD (q % bys.length) 0 % (r.2 - r.1 + 1)
def tG (bys : List Int) (rows : List (List (Int × Int))) (m : Nat) : List Int := gB (fun q => tY bys (rAt rows m q) q) m (rows.length * m)
def tRow (bys : List Int) (rows : List (List (Int × Int))) (m i k : Nat) : List Int := (List.range k).map fun j => tY bys (rAt rows m (i * m + j)) (i * m + j)
/-- The rows that are made. -/
def Rows2 (h : H) (G : List AO) (cells : List AV) (R : Nat → List Int) (m i : Nat) : Prop :=
  ∀ j, j < i → ∃ idx, cells[j]? = some (.sl (nx h (1 + idx)) 0 m none 1) ∧ G[idx]? = some (.cells (mkCells ((R j).map ii)) 2)
theorem Rows2.snoc {h : H} {G G2 G' : List AO} {cells : List AV} {R : Nat → List Int} {m i idx : Nat} (r : Rows2 h G cells R m i) (hc : cells.length = i) (hk : ∀ (j : Nat) m' e', e' ≠ 53 → (G ++ G2)[j]? = some (AO.cells m' e') → G'[j]? = some (AO.cells m' e')) (hG2 : G2[idx]? = some (.cells (mkCells ((R i).map ii)) 2)) :
    Rows2 h G' (cells ++ [.sl (nx h (1 + G.length + idx)) 0 m none 1]) R m (i + 1) := by
  intro j hj
  by_cases hji : j < i
  · obtain ⟨x, h1, h2⟩ := r j hji
    refine ⟨x, by rw [List.getElem?_append_left (by omega)]; exact h1, hk x _ _ (by decide) ?_⟩
    rw [List.getElem?_append_left (List.getElem?_eq_some_iff.1 h2).1]; exact h2
  · have : j = i := by omega
    subst this
    refine ⟨G.length + idx, by rw [List.getElem?_append_right (by omega), hc, Nat.sub_self, ← Nat.add_assoc]; rfl, hk _ _ _ (by decide) ?_⟩
    rw [List.getElem?_append_right (by omega), Nat.add_sub_cancel_left]; exact hG2

end Go.Proofs.Ytghondkiondeaac
end

/- EvN3 -/
section
/-
  LAYER 2: numbers of true hulls held against the ends.
-/
namespace Go.Proofs.Ytghondkiondeaac
open Go.Ev
set_option maxRecDepth 100000
set_option linter.unusedSimpArgs false
set_option linter.unusedVariables false
set_option maxHeartbeats 4000000

theorem psum_mulc (c : Int) (f : Nat → Int) : ∀ n, psum (fun q => c * f q) n = c * psum f n
  | 0 => by simp [psum]
  | n + 1 => by simp only [psum]; rw [psum_mulc c f n, Int.mul_add]

section
variable {sp st : Int} {rows : List (List (Int × Int))} {m : Nat}
end
section
variable {g : Nat} {sp st : Int} {rows : List (List (Int × Int))} {m : Nat}
theorem le_high (k : HOK g sp st rows m) {gs : List Int} (hi : InG rows m gs) :
    ratN g sp st rows m gs * ratD g sp st rows m (theEnd g sp st rows m true) ≤ ratN g sp st rows m (theEnd g sp st rows m true) * ratD g sp st rows m gs := by
  have := beyond k true hi
  rw [sgn_tt] at this
  have e := Int.mul_comm (ratN g sp st rows m (theEnd g sp st rows m true)) (ratD g sp st rows m gs)
  omega
end

end Go.Proofs.Ytghondkiondeaac
end

/- EvL19 -/
section
/-
  STRUCTS OF TWO STRUCTS OF TWO NUMBERS, HELD AGAINST ONE ANOTHER.
-/
namespace Go.Ev
section
variable {P : Program}
theorem pureRun_isAggS {t : TypeId} {fs : Array Field} (hu : P.underlying t = some (.struct fs)) : pureRun P (isAgg t) = some true := by
  unfold isAgg
  rw [pureRun_seq, pureRun_underlying hu]
  rfl
theorem pureRun_partAgg {e : TypeId} {fs : Array Field} {cs : Array Value} {off n : Nat} (hu : P.underlying e = some (.struct fs)) (hz : pureRun P (sizeOf e) = some n) : pureRun P (part e cs off) = some (.agg (cs.extract off (off + n))) := by
  unfold part
  rw [pureRun_seq, pureRun_isAggS hu]
  simp only [Option.bind_some, ↓reduceIte]
  rw [pureRun_seq, hz]
  rfl
theorem pureRun_eqFour {t e : TypeId} {f0 f1 g0 g1 : Field} {k0 k1 : IntKind} {d : Nat} {a b c a' b' : Int} {c' x y : Int} (hu : P.underlying t = some (.struct #[f0, f1])) (t0 : f0.type = e) (t1 : f1.type = e) (o0 : f0.offset = 0) (o1 : f1.offset = 2)
    (n0 : f0.name ≠ "_") (n1 : f1.name ≠ "_") (hs : P.stoodInHeld t = false) (he : P.underlying e = some (.struct #[g0, g1])) (hz : pureRun P (sizeOf e) = some 2) (h0 : P.underlying g0.type = some (.int k0)) (h1 : P.underlying g1.type = some (.int k1)) (p0 : g0.offset = 0) (p1 : g1.offset = 1)
    (m0 : g0.name ≠ "_") (m1 : g1.name ≠ "_") (hse : P.stoodInHeld e = false) :
    pureRun P (Op.equalIn (d + 3) t (.agg #[.int .i64 a, .int .i64 b, .int .i64 c, .int .i64 x]) (.agg #[.int .i64 a', .int .i64 b', .int .i64 c', .int .i64 y])) = some ((a == a' && b == b') && (c == c' && x == y)) := by
  have q1 : pureRun P (part f0.type #[.int .i64 a, .int .i64 b, .int .i64 c, .int .i64 x] f0.offset) = some (.agg #[.int .i64 a, .int .i64 b]) := by rw [t0, o0, pureRun_partAgg he hz]; rfl
  have q2 : pureRun P (part f0.type #[.int .i64 a', .int .i64 b', .int .i64 c', .int .i64 y] f0.offset) = some (.agg #[.int .i64 a', .int .i64 b']) := by rw [t0, o0, pureRun_partAgg he hz]; rfl
  have q3 : pureRun P (part f1.type #[.int .i64 a, .int .i64 b, .int .i64 c, .int .i64 x] f1.offset) = some (.agg #[.int .i64 c, .int .i64 x]) := by rw [t1, o1, pureRun_partAgg he hz]; rfl
  have q4 : pureRun P (part f1.type #[.int .i64 a', .int .i64 b', .int .i64 c', .int .i64 y] f1.offset) = some (.agg #[.int .i64 c', .int .i64 y]) := by rw [t1, o1, pureRun_partAgg he hz]; rfl
  have e1 : pureRun P (Op.equalIn (d + 2) f0.type (.agg #[.int .i64 a, .int .i64 b]) (.agg #[.int .i64 a', .int .i64 b'])) = some (a == a' && b == b') := by rw [t0]; exact pureRun_eqTwo he h0 h1 p0 p1 m0 m1 hse
  have e2 : pureRun P (Op.equalIn (d + 2) f1.type (.agg #[.int .i64 c, .int .i64 x]) (.agg #[.int .i64 c', .int .i64 y])) = some (c == c' && x == y) := by rw [t1]; exact pureRun_eqTwo he h0 h1 p0 p1 m0 m1 hse
  rw [show d + 3 = (d + 2) + 1 from rfl, Op.equalIn, pureRun_seq, pureRun_underlying hu]
  simp only [Option.bind_some]
  rw [pureRun_seq, pureRun_program]
  simp only [Option.bind_some, hs]
  simp [pureRun_seq, n0, n1, q1, q2, q3, q4, e1]
  by_cases hh : a = a' ∧ b = b'
  · rw [if_neg (fun h => h hh.1 hh.2)]
    obtain ⟨rfl, rfl⟩ := hh
    simp [pureRun_pure, pureRun_seq, q3, q4, e2]
    by_cases hk : c = c' ∧ x = y
    · rw [if_neg (fun h => h hk.1 hk.2)]
      simp [hk, pureRun_pure]
    · rw [if_pos (fun h1 h2 => hk ⟨h1, h2⟩)]
      have : (c == c' && x == y) = false := by simpa using hk
      rw [this]
      simp [pureRun_pure]
  · rw [if_pos (fun h1 h2 => hh ⟨h1, h2⟩)]
    have : (a == a' && b == b') = false := by simpa using hh
    rw [this]
    simp [pureRun_pure]
/-- Both ways of holding them against one another. -/
theorem b_eq4 {t e : TypeId} {X Y : Operand} {f0 f1 g0 g1 : Field} {k0 k1 : IntKind} {a b c a' b' : Int} {c' x y : Int} (hu : P.underlying t = some (.struct #[f0, f1])) (t0 : f0.type = e) (t1 : f1.type = e) (o0 : f0.offset = 0) (o1 : f1.offset = 2)
    (n0 : f0.name ≠ "_") (n1 : f1.name ≠ "_") (hs : P.stoodInHeld t = false) (he : P.underlying e = some (.struct #[g0, g1])) (hz : pureRun P (sizeOf e) = some 2) (h0 : P.underlying g0.type = some (.int k0)) (h1 : P.underlying g1.type = some (.int k1)) (p0 : g0.offset = 0) (p1 : g1.offset = 1)
    (m0 : g0.name ≠ "_") (m1 : g1.name ≠ "_") (hse : P.stoodInHeld e = false) (hg : P.eqGuardType P.depth t = false) :
    binE P .eql t X Y (.agg [.int .i64 a, .int .i64 b, .int .i64 c, .int .i64 x]) (.agg [.int .i64 a', .int .i64 b', .int .i64 c', .int .i64 y]) = some (.bool ((a == a' && b == b') && (c == c' && x == y))) ∧
    binE P .neq t X Y (.agg [.int .i64 a, .int .i64 b, .int .i64 c, .int .i64 x]) (.agg [.int .i64 a', .int .i64 b', .int .i64 c', .int .i64 y]) = some (.bool (!((a == a' && b == b') && (c == c' && x == y)))) := by
  have key := pureRun_eqFour (d := 9997) (a := a) (b := b) (c := c) (x := x) (a' := a') (b' := b') (c' := c') (y := y) hu t0 t1 o0 o1 n0 n1 hs he hz h0 h1 p0 p1 m0 m1 hse
  have es : ∀ op, binSlow P op t X Y (.agg [.int .i64 a, .int .i64 b, .int .i64 c, .int .i64 x]) (.agg [.int .i64 a', .int .i64 b', .int .i64 c', .int .i64 y]) = pureVal P (do eqGuard op t X Y (.agg #[.int .i64 a, .int .i64 b, .int .i64 c, .int .i64 x]) (.agg #[.int .i64 a', .int .i64 b', .int .i64 c', .int .i64 y]); binOp op t (.agg #[.int .i64 a, .int .i64 b, .int .i64 c, .int .i64 x]) (.agg #[.int .i64 a', .int .i64 b', .int .i64 c', .int .i64 y])) := fun op => rfl
  have eb : ∀ op, binE P op t X Y (.agg [.int .i64 a, .int .i64 b, .int .i64 c, .int .i64 x]) (.agg [.int .i64 a', .int .i64 b', .int .i64 c', .int .i64 y]) = binSlow P op t X Y (.agg [.int .i64 a, .int .i64 b, .int .i64 c, .int .i64 x]) (.agg [.int .i64 a', .int .i64 b', .int .i64 c', .int .i64 y]) := fun op => rfl
  constructor
  · rw [eb, es]
    have e1 : pureRun P (eqGuard .eql t X Y (.agg #[.int .i64 a, .int .i64 b, .int .i64 c, .int .i64 x]) (.agg #[.int .i64 a', .int .i64 b', .int .i64 c', .int .i64 y])) = some () := by
      unfold eqGuard
      simp [pureRun_seq, pureRun_program, hg, pureRun_pure]
    have e2 : pureRun P (binOp .eql t (.agg #[.int .i64 a, .int .i64 b, .int .i64 c, .int .i64 x]) (.agg #[.int .i64 a', .int .i64 b', .int .i64 c', .int .i64 y])) = some (.bool ((a == a' && b == b') && (c == c' && x == y))) := by
      show pureRun P (do pure (Value.bool (← Op.equalIn (9997 + 3) t _ _))) = _
      rw [pureRun_seq, key]
      rfl
    unfold pureVal
    rw [pureRun_seq, e1]
    simp only [Option.bind_some]
    rw [e2]
    rfl
  · rw [eb, es]
    have e1 : pureRun P (eqGuard .neq t X Y (.agg #[.int .i64 a, .int .i64 b, .int .i64 c, .int .i64 x]) (.agg #[.int .i64 a', .int .i64 b', .int .i64 c', .int .i64 y])) = some () := by
      unfold eqGuard
      simp [pureRun_seq, pureRun_program, hg, pureRun_pure]
    have e2 : pureRun P (binOp .neq t (.agg #[.int .i64 a, .int .i64 b, .int .i64 c, .int .i64 x]) (.agg #[.int .i64 a', .int .i64 b', .int .i64 c', .int .i64 y])) = some (.bool (!((a == a' && b == b') && (c == c' && x == y)))) := by
      show pureRun P (do pure (Value.bool (!(← Op.equalIn (9997 + 3) t _ _)))) = _
      rw [pureRun_seq, key]
      rfl
    unfold pureVal
    rw [pureRun_seq, e1]
    simp only [Option.bind_some]
    rw [e2]
    rfl
end
end Go.Ev
end

/- EvQ1 -/
section
/-
  LAYER 2: ends of hulls that are made of one another.
-/
namespace Go.Proofs.Ytghondkiondeaac
open Go.Ev
set_option maxRecDepth 100000
set_option linter.unusedSimpArgs false
set_option linter.unusedVariables false
set_option maxHeartbeats 4000000

/-- Least terms are of one kind. -/
theorem least_unique {N D N' D' : Int} (hN : 0 ≤ N) (hN' : 0 ≤ N') (hD : 1 ≤ D) (hD' : 1 ≤ D') (hg : Int.gcd N D = 1) (hg' : Int.gcd N' D' = 1) (h : N * D' = N' * D) : N = N' ∧ D = D' := by
  obtain ⟨n, rfl⟩ := Int.eq_ofNat_of_zero_le hN
  obtain ⟨n', rfl⟩ := Int.eq_ofNat_of_zero_le hN'
  obtain ⟨d, rfl⟩ := Int.eq_ofNat_of_zero_le (show 0 ≤ D by omega)
  obtain ⟨d', rfl⟩ := Int.eq_ofNat_of_zero_le (show 0 ≤ D' by omega)
  have c1 : Nat.Coprime d n := by rw [Nat.coprime_comm]; exact hg
  have c2 : Nat.Coprime d' n' := by rw [Nat.coprime_comm]; exact hg'
  have h' : n * d' = n' * d := by exact_mod_cast h
  have d1 : d ∣ d' := c1.dvd_of_dvd_mul_left (by rw [h']; exact Nat.dvd_mul_left ..)
  have d2 : d' ∣ d := c2.dvd_of_dvd_mul_left (by rw [← h']; exact Nat.dvd_mul_left ..)
  have e := Nat.dvd_antisymm d1 d2
  subst e
  have hd : 0 < d := by omega
  have := Nat.eq_of_mul_eq_mul_right hd h'
  subst this
  exact ⟨rfl, rfl⟩
theorem isBnd_gcd {N D : Int} (hb : isBnd N D = true) : Int.gcd N D = 1 := by
  have h1 := isBnd_in hb
  unfold isBnd at hb
  rw [Bool.and_eq_true, Bool.and_eq_true] at hb
  have h2 : D = D / (Int.gcd N D : Int) := by simpa using hb.2.2
  have hD := h1.2.1
  have hg : 0 < (Int.gcd N D : Int) := by have := Int.gcd_pos_of_ne_zero_right N (show D ≠ 0 by omega); omega
  generalize hgd : Int.gcd N D = γ at *
  have h3 := Int.mul_ediv_add_emod D (γ : Int)
  have h4 := Int.emod_nonneg D (show (γ : Int) ≠ 0 by omega)
  rw [← h2] at h3
  by_cases h5 : γ = 1
  · exact h5
  · exfalso
    have h6 : 2 * D ≤ (γ : Int) * D := Int.mul_le_mul_of_nonneg_right (by omega) (by omega)
    omega
/-- What is equal to least terms. -/
theorem least_of {N' D' Y D : Int} (hb : isBnd N' D' = true) (hD : 1 ≤ D) (hY : 0 ≤ Y) (h : N' * D = Y * D') : N' = Y / (Int.gcd Y D : Int) ∧ D' = D / (Int.gcd Y D : Int) := by
  have hbi := isBnd_in hb
  unfold bndIn at hbi
  obtain ⟨g1, g2, g3, g4, g5⟩ := gcd_facts hY (show 0 < D by omega)
  have hg := Int.gcd_ediv_gcd_ediv_gcd (i := Y) (j := D) (by omega)
  generalize (Int.gcd Y D : Int) = γ at *
  have hd : 1 ≤ D / γ := by
    rcases Int.lt_or_le (D / γ) 1 with h1 | h1
    · exfalso
      have := Int.mul_le_mul_of_nonneg_right (show D / γ ≤ 0 by omega) (show (0 : Int) ≤ γ by omega)
      omega
    · exact h1
  refine least_unique hbi.1.1 g4 hbi.2.1 hd (isBnd_gcd hb) hg ?_
  have h2 : N' * (D / γ) * γ = Y / γ * D' * γ := by
    have e1 : N' * (D / γ) * γ = N' * (D / γ * γ) := by grind
    have e2 : Y / γ * D' * γ = Y / γ * γ * D' := by grind
    rw [e1, e2, ← g2, ← g3]; exact h
  exact Int.eq_of_mul_eq_mul_right (by omega) h2

theorem nonpos_of_mul {a b : Int} (hb : 0 < b) (h : a * b ≤ 0) : a ≤ 0 := by
  rcases Int.lt_or_le 0 a with h1 | h1
  · have := Int.mul_pos h1 hb; omega
  · exact h1
theorem nonneg_of_mul {a b : Int} (hb : 0 < b) (h : 0 ≤ a * b) : 0 ≤ a := by
  have := nonpos_of_mul (a := -a) hb (by rw [Int.neg_mul]; omega)
  omega

section
variable {g g' : Nat} {sp st sp' st' : Int} {rows rows' : List (List (Int × Int))} {m m' : Nat}
theorem ends_eq (k : HOK g sp st rows m) (k' : HOK g' sp' st' rows' m') (u v : Int) (high hi2 : Bool) (hv : (0 < v ∧ hi2 = high) ∨ (v < 0 ∧ hi2 = !high))
    (φ : ∀ gs, InG rows m gs → ∃ gs', InG rows' m' gs' ∧ ratN g' sp' st' rows' m' gs' * ratD g sp st rows m gs = (u * ratD g sp st rows m gs + v * ratN g sp st rows m gs) * ratD g' sp' st' rows' m' gs')
    (ψ : ∀ gs', InG rows' m' gs' → ∃ gs, InG rows m gs ∧ ratN g' sp' st' rows' m' gs' * ratD g sp st rows m gs = (u * ratD g sp st rows m gs + v * ratN g sp st rows m gs) * ratD g' sp' st' rows' m' gs') :
    ratN g' sp' st' rows' m' (theEnd g' sp' st' rows' m' high) * ratD g sp st rows m (theEnd g sp st rows m hi2) = (u * ratD g sp st rows m (theEnd g sp st rows m hi2) + v * ratN g sp st rows m (theEnd g sp st rows m hi2)) * ratD g' sp' st' rows' m' (theEnd g' sp' st' rows' m' high) := by
  have iE := (theEnd_ok k hi2).1
  have iE' := (theEnd_ok k' high).1
  obtain ⟨gs, i1, r1⟩ := ψ _ iE'
  obtain ⟨gs', i2, r2⟩ := φ _ iE
  have c1 := beyond k hi2 i1
  have c2 := beyond k' high i2
  have p1 := (rat_in k i1).2.1
  have p2 := (rat_in k' i2).2.1
  have p3 := (rat_in k iE).2.1
  have p4 := (rat_in k' iE').2.1
  generalize ratN g sp st rows m gs = a at *
  generalize ratD g sp st rows m gs = b at *
  generalize ratN g' sp' st' rows' m' gs' = c at *
  generalize ratD g' sp' st' rows' m' gs' = d at *
  generalize ratN g sp st rows m (theEnd g sp st rows m hi2) = e at *
  generalize ratD g sp st rows m (theEnd g sp st rows m hi2) = f at *
  generalize ratN g' sp' st' rows' m' (theEnd g' sp' st' rows' m' high) = a' at *
  generalize ratD g' sp' st' rows' m' (theEnd g' sp' st' rows' m' high) = b' at *
  have t1 : (a' * f - (u * f + v * e) * b') * b = v * (a * f - b * e) * b' := by grind
  have t2 : (c * b' - d * a') * f = -((a' * f - (u * f + v * e) * b') * d) := by grind
  generalize hΔ : a' * f - (u * f + v * e) * b' = Δ at *
  have hz : Δ = 0 := by
    rcases hv with ⟨hv, rfl⟩ | ⟨hv, rfl⟩
    · cases hi2
      · rw [sgn_ff] at c1 c2
        have h1 : 0 ≤ Δ := nonneg_of_mul (b := b) (by omega) (by rw [t1]; exact Int.mul_nonneg (Int.mul_nonneg (by omega) (by omega)) (by omega))
        have h2 : 0 ≤ (c * b' - d * a') * f := Int.mul_nonneg (by omega) (by omega)
        have h3 : Δ ≤ 0 := nonpos_of_mul (b := d) (by omega) (by omega)
        omega
      · rw [sgn_tt] at c1 c2
        have h1 : Δ ≤ 0 := nonpos_of_mul (b := b) (by omega) (by
          rw [t1]
          exact Int.mul_nonpos_of_nonpos_of_nonneg (Int.mul_nonpos_of_nonneg_of_nonpos (by omega) (by omega)) (by omega))
        have h2 : (c * b' - d * a') * f ≤ 0 := Int.mul_nonpos_of_nonpos_of_nonneg (by omega) (by omega)
        have h3 : 0 ≤ Δ := nonneg_of_mul (b := d) (by omega) (by omega)
        omega
    · cases high
      · rw [sgn_ff] at c2
        rw [Bool.not_false, sgn_tt] at c1
        have h1 : 0 ≤ Δ := nonneg_of_mul (b := b) (by omega) (by
          rw [t1]
          exact Int.mul_nonneg (Int.mul_nonneg_of_nonpos_of_nonpos (by omega) (by omega)) (by omega))
        have h2 : 0 ≤ (c * b' - d * a') * f := Int.mul_nonneg (by omega) (by omega)
        have h3 : Δ ≤ 0 := nonpos_of_mul (b := d) (by omega) (by omega)
        omega
      · rw [sgn_tt] at c2
        rw [Bool.not_true, sgn_ff] at c1
        have h1 : Δ ≤ 0 := nonpos_of_mul (b := b) (by omega) (by
          rw [t1]
          exact Int.mul_nonpos_of_nonpos_of_nonneg (Int.mul_nonpos_of_nonpos_of_nonneg (by omega) (by omega)) (by omega))
        have h2 : (c * b' - d * a') * f ≤ 0 := Int.mul_nonpos_of_nonpos_of_nonneg (by omega) (by omega)
        have h3 : 0 ≤ Δ := nonneg_of_mul (b := d) (by omega) (by omega)
        omega
  omega
/-- In terms of the sums. -/
theorem rat_cross (k : HOK g sp st rows m) (k' : HOK g' sp' st' rows' m') {gs gs' : List Int} (i : InG rows m gs) (i' : InG rows' m' gs') {u v : Int}
    (h : numG g' sp' st' rows' m' gs' * denG g st rows m gs = (u * denG g st rows m gs + v * numG g sp st rows m gs) * denG g' st' rows' m' gs') :
    ratN g' sp' st' rows' m' gs' * ratD g sp st rows m gs = (u * ratD g sp st rows m gs + v * ratN g sp st rows m gs) * ratD g' sp' st' rows' m' gs' := by
  obtain ⟨a1, a2, a3⟩ := rat_num k i
  obtain ⟨b1, b2, b3⟩ := rat_num k' i'
  rw [a2, a3, b2, b3] at h
  generalize gcdG g sp st rows m gs = x at *
  generalize gcdG g' sp' st' rows' m' gs' = y at *
  refine Int.eq_of_mul_eq_mul_right (a := x * y) (by have := Int.mul_pos a1 b1; omega) ?_
  grind
end

/-- Twice the space. -/
def cOf (g : Nat) : Int := if g = 53 then 2 else 1
theorem num_twice (g : Nat) (sp st : Int) (rows : List (List (Int × Int))) (m : Nat) (gs : List Int) : numG g (2 * sp) st rows m gs = cOf g * numG g sp st rows m gs := by
  unfold numG
  rw [← psum_mulc]
  refine psum_congr fun q hq => ?_
  unfold nuAt numOf cOf
  by_cases h : g = 53
  · rw [if_pos h, if_pos h, if_pos h]; grind
  · rw [if_neg h, if_neg h, if_neg h, Int.one_mul]
theorem hok_twice {g : Nat} {sp st : Int} {rows : List (List (Int × Int))} {m : Nat} (k : HOK g sp st rows m) (h : 2 * sp ≤ 1000) : HOK g (2 * sp) st rows m :=
  ⟨k.hg, by have := k.hsp; omega, k.hst, k.hn, k.hm, k.hoff, k.hpos⟩
theorem ends_twice {g : Nat} {sp st : Int} {rows : List (List (Int × Int))} {m : Nat} (k : HOK g sp st rows m) (h : 2 * sp ≤ 1000) (high : Bool) :
    ratN g (2 * sp) st rows m (theEnd g (2 * sp) st rows m high) * ratD g sp st rows m (theEnd g sp st rows m high) = (0 * ratD g sp st rows m (theEnd g sp st rows m high) + cOf g * ratN g sp st rows m (theEnd g sp st rows m high)) * ratD g (2 * sp) st rows m (theEnd g (2 * sp) st rows m high) := by
  have key : ∀ gs, InG rows m gs → ratN g (2 * sp) st rows m gs * ratD g sp st rows m gs = (0 * ratD g sp st rows m gs + cOf g * ratN g sp st rows m gs) * ratD g (2 * sp) st rows m gs := fun gs hi =>
    rat_cross k (hok_twice k h) hi hi (by rw [num_twice]; grind)
  refine ends_eq k (hok_twice k h) 0 (cOf g) high high (.inl ⟨by unfold cOf; split <;> decide, rfl⟩) (fun gs hi => ⟨gs, hi, key gs hi⟩) (fun gs hi => ⟨gs, hi, key gs hi⟩)
end Go.Proofs.Ytghondkiondeaac
end

/- EvQ2 -/
section
/-
  LAYER 2: a hull from its other end.
-/
namespace Go.Proofs.Ytghondkiondeaac
open Go.Ev
set_option maxRecDepth 100000
set_option linter.unusedSimpArgs false
set_option linter.unusedVariables false
set_option maxHeartbeats 4000000

theorem psum_two (f : Nat → Int) (m : Nat) : ∀ n, psum f (n * m) = psum (fun i => psum (fun k => f (i * m + k)) m) n
  | 0 => by rw [Nat.zero_mul]; rfl
  | n + 1 => by
    rw [Nat.succ_mul, psum_block, psum_two f m n]
    rfl
theorem psum_head (f : Nat → Int) : ∀ n, psum f (n + 1) = f 0 + psum (fun i => f (i + 1)) n
  | 0 => by simp [psum]
  | n + 1 => by
    show psum f (n + 1) + f (n + 1) = f 0 + (psum (fun i => f (i + 1)) n + f (n + 1))
    rw [psum_head f n, Int.add_assoc]
theorem psum_flip (f : Nat → Int) : ∀ n, psum f n = psum (fun i => f (n - 1 - i)) n
  | 0 => rfl
  | n + 1 => by
    rw [psum_head]
    show _ = psum (fun i => f (n + 1 - 1 - i)) n + f (n + 1 - 1 - n)
    rw [psum_flip (fun i => f (i + 1)) n, show n + 1 - 1 - n = 0 by omega, Int.add_comm]
    congr 1
    refine psum_congr fun i hi => ?_
    rw [show n - 1 - i + 1 = n + 1 - 1 - i by omega]
/-- A place from the other end. -/
def rv (n m q : Nat) : Nat := (n - 1 - q / m) * m + q % m
theorem rv_parts {n m q : Nat} (hm : 0 < m) (hq : q < n * m) : rv n m q / m = n - 1 - q / m ∧ rv n m q % m = q % m ∧ rv n m q < n * m ∧ rv n m (rv n m q) = q := by
  have h1 := (Nat.div_lt_iff_lt_mul hm).2 hq
  have h2 := Nat.mod_lt q hm
  have e1 : rv n m q / m = n - 1 - q / m := by
    unfold rv; rw [Nat.mul_comm, Nat.mul_add_div hm, Nat.div_eq_of_lt h2]; rfl
  have e2 : rv n m q % m = q % m := by
    unfold rv; rw [Nat.mul_comm, Nat.mul_add_mod]; exact Nat.mod_eq_of_lt h2
  refine ⟨e1, e2, ?_, ?_⟩
  · rw [← Nat.div_lt_iff_lt_mul hm, e1]
    generalize q / m = i at *
    omega
  · have e3 : rv n m (rv n m q) = (n - 1 - rv n m q / m) * m + rv n m q % m := rfl
    rw [e3, e1, e2, show n - 1 - (n - 1 - q / m) = q / m from by generalize q / m = i at *; omega, Nat.mul_comm]
    exact Nat.div_add_mod q m
theorem psum_rv (f : Nat → Int) (n m : Nat) (hm : 0 < m) : psum f (n * m) = psum (fun q => f (rv n m q)) (n * m) := by
  rw [psum_two f m n, psum_two _ m n, psum_flip]
  refine psum_congr fun i hi => psum_congr fun k hk => ?_
  have e1 : (i * m + k) / m = i := by rw [Nat.mul_comm, Nat.mul_add_div hm, Nat.div_eq_of_lt hk]; omega
  have e2 : (i * m + k) % m = k := by rw [Nat.mul_comm, Nat.mul_add_mod]; exact Nat.mod_eq_of_lt hk
  unfold rv
  rw [e1, e2]
theorem wt_flip {n i : Nat} (hi : i < n) : wt n (n - 1 - i) = wt n i := by
  unfold wt
  by_cases h : i = 0 ∨ i + 1 = n
  · rw [if_pos h, if_pos (by omega)]
  · rw [if_neg h, if_neg (by omega), if_pos hi, if_pos (by omega)]
theorem rAt_rev {rows : List (List (Int × Int))} {m q : Nat} (hm : 0 < m) (hq : q < rows.length * m) : rAt rows.reverse m q = rAt rows m (rv rows.length m q) := by
  obtain ⟨e1, e2, e3, e4⟩ := rv_parts hm hq
  have h1 := (Nat.div_lt_iff_lt_mul hm).2 hq
  unfold rAt
  rw [e1, e2]
  congr 1
  rw [List.getD_eq_getElem?_getD, List.getD_eq_getElem?_getD, List.getElem?_reverse h1]

def revG (n m : Nat) (gs : List Int) : List Int := gB (fun q => yat gs m (rv n m q)) m (n * m)
section
variable {g : Nat} {sp st : Int} {rows : List (List (Int × Int))} {m : Nat}
theorem hok_rev (k : HOK g sp st rows m) : HOK g sp st rows.reverse m := by
  have hm0 : 0 < m := by have := k.hm; omega
  refine ⟨k.hg, k.hsp, k.hst, by rw [List.length_reverse]; exact k.hn, k.hm, fun q hq => ?_, ?_⟩
  · rw [List.length_reverse] at hq
    rw [rAt_rev hm0 hq]
    exact k.hoff _ (rv_parts hm0 hq).2.2.1
  · obtain ⟨q, hq, hp⟩ := k.hpos
    obtain ⟨e1, e2, e3, e4⟩ := rv_parts hm0 hq
    refine ⟨rv rows.length m q, by rw [List.length_reverse]; exact e3, ?_⟩
    rw [rAt_rev hm0 e3, e4]
    exact hp
theorem revG_at (k : HOK g sp st rows m) (gs : List Int) : (revG rows.length m gs).length = 60 ∧ ∀ q, q < rows.length * m → yat (revG rows.length m gs) m q = yat gs m (rv rows.length m q) :=
  ⟨gB_length _ _ _, fun q hq => by unfold revG; rw [gB_at _ k.hn.2 k.hm.2 _ (Nat.le_refl _) q hq]⟩
theorem revG_in (k : HOK g sp st rows m) {gs : List Int} (hi : InG rows m gs) : InG rows.reverse m (revG rows.length m gs) := by
  have hm0 : 0 < m := by have := k.hm; omega
  obtain ⟨h1, h2⟩ := revG_at k gs
  refine ⟨h1, fun q hq => ?_⟩
  rw [List.length_reverse] at hq
  rw [h2 q hq, rAt_rev hm0 hq]
  exact hi.2 _ (rv_parts hm0 hq).2.2.1
theorem den_rev (k : HOK g sp st rows m) (gs : List Int) : denG g st rows.reverse m (revG rows.length m gs) = denG g st rows m gs := by
  have hm0 : 0 < m := by have := k.hm; omega
  unfold denG
  rw [List.length_reverse, psum_rv (deAt g st rows.length m gs) _ _ hm0]
  refine psum_congr fun q hq => ?_
  obtain ⟨e1, e2, e3, e4⟩ := rv_parts hm0 hq
  have h1 := (Nat.div_lt_iff_lt_mul hm0).2 hq
  unfold deAt
  rw [(revG_at k gs).2 q hq, e1, e2, wt_flip h1]
/-- What becomes of the sums. -/
theorem num_rev (k : HOK g sp st rows m) {gs : List Int} (hi : InG rows m gs) :
    numG g sp st rows.reverse m (revG rows.length m gs) = if g = 53 then sp * ((rows.length : Int) - 1) * denG g st rows m gs - numG g sp st rows m gs else numG g sp st rows m gs := by
  have hm0 : 0 < m := by have := k.hm; omega
  have key : numG g sp st rows.reverse m (revG rows.length m gs) = psum (fun q => numOf g sp st m (rows.length - 1 - q / m) (q % m) (wt rows.length (q / m) * wt m (q % m)) (yat gs m q)) (rows.length * m) := by
    unfold numG
    rw [List.length_reverse, psum_rv (fun q => numOf g sp st m (rows.length - 1 - q / m) (q % m) (wt rows.length (q / m) * wt m (q % m)) (yat gs m q)) _ _ hm0]
    refine psum_congr fun q hq => ?_
    obtain ⟨e1, e2, e3, e4⟩ := rv_parts hm0 hq
    have h1 := (Nat.div_lt_iff_lt_mul hm0).2 hq
    unfold nuAt
    rw [(revG_at k gs).2 q hq, e1, e2, wt_flip h1, show rows.length - 1 - (rows.length - 1 - q / m) = q / m from by generalize q / m = i at *; omega]
  rw [key]
  by_cases hg : g = 53
  · rw [if_pos hg]
    unfold numG denG
    have e : ∀ q, q < rows.length * m → numOf g sp st m (rows.length - 1 - q / m) (q % m) (wt rows.length (q / m) * wt m (q % m)) (yat gs m q) = sp * ((rows.length : Int) - 1) * deAt g st rows.length m gs q + -1 * nuAt g sp st rows.length m gs q := fun q hq => by
      have h1 := (Nat.div_lt_iff_lt_mul hm0).2 hq
      unfold numOf deAt nuAt denOf numOf
      rw [if_pos hg, if_pos hg, if_neg (by omega)]
      have : ((rows.length - 1 - q / m : Nat) : Int) = (rows.length : Int) - 1 - ((q / m : Nat) : Int) := by generalize q / m = i at *; omega
      rw [this]
      grind
    rw [psum_congr e, psum_add, psum_mulc, psum_mulc]
    omega
  · rw [if_neg hg]
    unfold numG
    refine psum_congr fun q hq => ?_
    unfold nuAt numOf
    rw [if_neg hg, if_neg hg]
def uOf (g : Nat) (sp : Int) (n : Nat) : Int := if g = 53 then sp * ((n : Int) - 1) else 0
def vOf (g : Nat) : Int := if g = 53 then -1 else 1
theorem cross_rev (k : HOK g sp st rows m) {gs : List Int} (hi : InG rows m gs) :
    ratN g sp st rows.reverse m (revG rows.length m gs) * ratD g sp st rows m gs = (uOf g sp rows.length * ratD g sp st rows m gs + vOf g * ratN g sp st rows m gs) * ratD g sp st rows.reverse m (revG rows.length m gs) := by
  refine rat_cross k (hok_rev k) hi (revG_in k hi) ?_
  rw [num_rev k hi, den_rev k]
  unfold uOf vOf
  by_cases hg : g = 53
  · rw [if_pos hg, if_pos hg, if_pos hg]; grind
  · rw [if_neg hg, if_neg hg, if_neg hg]; grind
theorem ends_rev (k : HOK g sp st rows m) (high hi2 : Bool) (hv : (g ≠ 53 ∧ hi2 = high) ∨ (g = 53 ∧ hi2 = !high)) :
    ratN g sp st rows.reverse m (theEnd g sp st rows.reverse m high) * ratD g sp st rows m (theEnd g sp st rows m hi2) = (uOf g sp rows.length * ratD g sp st rows m (theEnd g sp st rows m hi2) + vOf g * ratN g sp st rows m (theEnd g sp st rows m hi2)) * ratD g sp st rows.reverse m (theEnd g sp st rows.reverse m high) := by
  have k' := hok_rev k
  refine ends_eq k k' _ _ high hi2 ?_ (fun gs hi => ⟨_, revG_in k hi, cross_rev k hi⟩) (fun gs' hi => ?_)
  · unfold vOf
    rcases hv with ⟨h1, h2⟩ | ⟨h1, h2⟩
    · left; rw [if_neg h1]; exact ⟨by decide, h2⟩
    · right; rw [if_pos h1]; exact ⟨by decide, h2⟩
  · have i2 := revG_in k' hi
    have c := cross_rev k' hi
    rw [List.reverse_reverse] at i2 c
    rw [List.length_reverse] at i2 c
    refine ⟨_, i2, ?_⟩
    unfold uOf vOf at *
    by_cases hg : g = 53
    · rw [if_pos hg, if_pos hg] at *; grind
    · rw [if_neg hg, if_neg hg] at *; grind
/-- What is along is within the hull. -/
theorem num_long (k : HOK 53 sp st rows m) {gs : List Int} (hi : InG rows m gs) : ratN 53 sp st rows m gs ≤ sp * ((rows.length : Int) - 1) * ratD 53 sp st rows m gs := by
  have h := cross_rev k hi
  have i2 := revG_in k hi
  have h1 := (rat_in (hok_rev k) i2)
  have h2 := (rat_in k hi)
  unfold uOf vOf at h
  rw [if_pos rfl, if_pos rfl] at h
  have h3 : 0 ≤ (sp * ((rows.length : Int) - 1) * ratD 53 sp st rows m gs + -1 * ratN 53 sp st rows m gs) * ratD 53 sp st rows.reverse m (revG rows.length m gs) := by
    rw [← h]; exact Int.mul_nonneg h1.1.1 (by omega)
  have := nonneg_of_mul (by have := h1.2.1; omega) h3
  omega
end

/-- The greatest Lo is that of some pair. -/
theorem le_mx {l : List (Int × Int)} {r : Int × Int} (h : r ∈ l) : r.1 ≤ mx l := by
  obtain ⟨s, t, rfl⟩ := List.append_of_mem h
  have e : s ++ r :: t = (s ++ [r]) ++ t := by simp
  rw [e]
  have key : ∀ (t s' : List (Int × Int)), mx s' ≤ mx (s' ++ t) := by
    intro t
    induction t with
    | nil => intro s'; rw [List.append_nil]; exact Int.le_refl _
    | cons x t ih =>
      intro s'
      have h1 := ih (s' ++ [x])
      rw [List.append_assoc] at h1
      have h2 := mx_snoc s' x
      have : mx s' ≤ mx (s' ++ [x]) := by rw [h2]; omega
      exact Int.le_trans this h1
  have h1 := key t (s ++ [r])
  rw [mx_snoc] at h1
  omega
theorem hullErr_of {sp st : Int} {rows : List (List (Int × Int))} (hn : 2 ≤ rows.length ∧ rows.length ≤ 10) (hm : 2 ≤ m0 rows ∧ m0 rows ≤ 6) (hall : ∀ row ∈ rows, row.length = m0 rows) (hsp : 1 ≤ sp ∧ sp ≤ 1000) (hst : 1 ≤ st ∧ st ≤ 100) (ho : offs rows) : hullErr sp st rows = 0 := by
  unfold hullErr
  rw [if_neg (not_not_intro hn), if_neg (not_not_intro hm), if_neg (not_not_intro hall), if_neg (not_not_intro ⟨hsp, hst, ho⟩)]
theorem hull_twice {sp st : Int} {rows : List (List (Int × Int))} (he : hullErr sp st rows = 0) (h : 2 * sp ≤ 1000) : hullErr (2 * sp) st rows = 0 := by
  obtain ⟨hn, hm, hall, hsp, hst, hof⟩ := hullErr_ok he
  exact hullErr_of hn hm hall (by omega) hst hof
theorem m0_rev {sp st : Int} {rows : List (List (Int × Int))} (he : hullErr sp st rows = 0) : m0 rows.reverse = m0 rows := by
  obtain ⟨hn, hm, hall, hsp, hst, hof⟩ := hullErr_ok he
  have h0 : 0 < rows.length := by omega
  show (rows.reverse.getD 0 []).length = _
  rw [List.getD_eq_getElem?_getD, List.getElem?_reverse h0, List.getElem?_eq_getElem (by omega)]
  exact hall _ (List.getElem_mem _)
theorem hull_rev {sp st : Int} {rows : List (List (Int × Int))} (he : hullErr sp st rows = 0) : hullErr sp st rows.reverse = 0 := by
  obtain ⟨hn, hm, hall, hsp, hst, hof⟩ := hullErr_ok he
  refine hullErr_of (by rw [List.length_reverse]; exact hn) (by rw [m0_rev he]; exact hm) (fun row hr => by rw [m0_rev he]; exact hall row (List.mem_reverse.1 hr)) hsp hst ?_
  have mem : ∀ r, r ∈ rows.reverse.flatten ↔ r ∈ rows.flatten := fun r => by
    simp only [List.mem_flatten, List.mem_reverse]
  refine ⟨fun r hr => hof.1 r ((mem r).1 hr), ?_⟩
  obtain ⟨r, hr, hp⟩ := mx_pos hof.2
  have := le_mx ((mem r).2 hr)
  omega
end Go.Proofs.Ytghondkiondeaac
end

/- EvQ3 -/
section
/-
  LAYER 2: the statement BoxScaled, walked.
-/
namespace Go.Proofs.Ytghondkiondeaac
open Go.Ev
set_option maxRecDepth 100000
set_option linter.unusedSimpArgs false
set_option linter.unusedVariables false
set_option maxHeartbeats 4000000

theorem tEvQ3 : type_of% (And.intro (And.intro (And.intro (And.intro (And.intro (@ia_2) (@sz_2)) (And.intro (@ze_2) (And.intro (@ia_3) (@sz_3)))) (And.intro (And.intro (@ia_4) (And.intro (@sz_4) (@ia_5))) (And.intro (@sz_5) (And.intro (@ia_22) (@sz_22))))) (And.intro (And.intro (And.intro (@ia_24) (@sz_24)) (And.intro (@ze_24) (And.intro (@ia_26) (@sz_26)))) (And.intro (And.intro (@ze_26) (And.intro (@ia_39) (@sz_39))) (And.intro (@ze_39) (And.intro (@ia_52) (@sz_52)))))) (And.intro (And.intro (And.intro (And.intro (@fo_24_0) (@fo_24_1)) (And.intro (@fo_24_2) (And.intro (@fo_26_0) (@fo_26_1)))) (And.intro (And.intro (@fo_39_0) (And.intro (@fo_39_1) (@ik_22))) (And.intro (@ni_22) (And.intro (@bs_39) (@pb_9))))) (And.intro (And.intro (And.intro (@pb_10) (@pb_11)) (And.intro (@pb_13) (And.intro (@pb_18) (@pb_20)))) (And.intro (And.intro (@pb_21) (And.intro (@pb_22) (@pb_23))) (And.intro (@pb_24) (And.intro (@pb_25) (@pb_31))))))) := And.intro (And.intro (And.intro (And.intro (And.intro (@ia_2) (@sz_2)) (And.intro (@ze_2) (And.intro (@ia_3) (@sz_3)))) (And.intro (And.intro (@ia_4) (And.intro (@sz_4) (@ia_5))) (And.intro (@sz_5) (And.intro (@ia_22) (@sz_22))))) (And.intro (And.intro (And.intro (@ia_24) (@sz_24)) (And.intro (@ze_24) (And.intro (@ia_26) (@sz_26)))) (And.intro (And.intro (@ze_26) (And.intro (@ia_39) (@sz_39))) (And.intro (@ze_39) (And.intro (@ia_52) (@sz_52)))))) (And.intro (And.intro (And.intro (And.intro (@fo_24_0) (@fo_24_1)) (And.intro (@fo_24_2) (And.intro (@fo_26_0) (@fo_26_1)))) (And.intro (And.intro (@fo_39_0) (And.intro (@fo_39_1) (@ik_22))) (And.intro (@ni_22) (And.intro (@bs_39) (@pb_9))))) (And.intro (And.intro (And.intro (@pb_10) (@pb_11)) (And.intro (@pb_13) (And.intro (@pb_18) (@pb_20)))) (And.intro (And.intro (@pb_21) (And.intro (@pb_22) (@pb_23))) (And.intro (@pb_24) (And.intro (@pb_25) (@pb_31))))))
theorem minusC (n N D : Int) (h1 : 0 ≤ n * D - N) (h2 : 0 ≤ n * D ∧ n * D ≤ 9000000000000000000) (h3 : 0 ≤ N) (hD : 1 ≤ D ∧ D ≤ 100000000) (h : H) (wf : Wf h) : (om Try.prog KK).call (.fn 25 [ii n, .agg [ii N, ii D]]) h = .ok (frac (n * D - N) D) h := by
  have hfr : ∀ l w, w ≤ h.clock + l.length → (om Try.prog KK).call (.fn 24 [ii (n * D - N), ii D]) (X h l w) = .ok (frac (n * D - N) D) (X h l w) := fun l w hw => fractionR _ _ ⟨by omega, by omega⟩ ⟨by omega, by omega⟩ _ (wf.X hw)
  refine WV_to (WV_call (fn := Try.f25) Try.func25 rfl rfl rfl rfl rfl ?_)
  simp only [argF]
  (repeat' (first
  | (with_reducible first | refine WC_seq ?_ | refine WC_skip ?_ | refine WC_label ?_ | refine WC_scope ?_ | refine WC_block ?_ | refine WC_ret ?_ | refine WC_exit ?_ | refine seqQ_norm ?_ | refine seqQ_ret ?_ | refine seqQ_exit ?_ | refine blkQ_norm ?_ | refine blkQ_ret ?_ | refine blkQ_here ?_ | refine gateK_yes ?_ | refine gateK_none ?_ | refine condK_tt ?_ | refine condK_ff ?_ | refine roundQ_exit ?_ | refine roundQ_ret ?_)
  | refine WC_region ?_ | refine blkQ_out rfl ?_ | refine WO_nil ?_ | refine WD_nil ?_
  | ((first | refine WD_gate rfl rfl rfl rfl rfl fun K_ hK_ => ?_ | refine WO_gate rfl rfl rfl rfl rfl fun K_ hK_ => ?_); simp only [upd_apply, asB_bool, asB_tup, ↓reduceIte, reduceCtorEq, Nat.reduceEqDiff, Bool.not_true, Bool.not_false]; refine hK_ _ ?_; clear hK_ K_)
  | refine gateK_no (by decide) ?_
  | ((try first | refine WO_op rfl rfl rfl ?_ | refine WO_op0 rfl rfl ?_ | refine WD_op rfl rfl rfl ?_ | refine WD_op0 rfl rfl ?_); (refine WV_gen fun Q_ hQ_ => ?_; simp (disch := first | omega | (simp only [List.length_cons, List.length_nil, List.length_append]; omega)) only [bb, bp, argF, ↓reduceIte, reduceCtorEq, Nat.reduceEqDiff, Nat.reduceLT, Nat.reduceLeDiff, Nat.reduceAdd, Nat.reduceMul, Nat.reduceSub, Nat.reduceBEq, Int.reduceToNat, cond_true, cond_false, eq_self, beq_self_eq_true, hfr, frac, newPtr_X wf, newSlice_X wf, load1_X wf, loadAgg_X wf, store1_X wf, writeCells_X wf, makeFunc_def, tEvQ3, bsl_22]; first | (refine dec_split (Q := Q_) (fun hp_ => ?_) (fun hp_ => ?_) <;> first | (exfalso; omega) | (refine hQ_ _ _ ?_; clear hQ_ Q_)) | (refine dec_splitn (Q := Q_) (fun hp_ => ?_) (fun hp_ => ?_) <;> first | (exfalso; omega) | (refine hQ_ _ _ ?_; clear hQ_ Q_)) | (refine hQ_ _ _ ?_; clear hQ_ Q_)))
  | (refine WC_cond fun K_ hK_ => ?_; simp (disch := omega) only [evT_tmp, upd_apply, WB_some, ↓reduceIte, reduceCtorEq, Nat.reduceEqDiff, Nat.reduceLT]; refine hK_ _ ?_; clear hK_ K_)))
  refine endQ_ret _ _ rfl (retc0 (by decide) (by simp (disch := first | omega | (simp only [List.length_cons, List.length_nil, List.length_append]; omega)) only [bb, bp, argF, ↓reduceIte, reduceCtorEq, Nat.reduceEqDiff, Nat.reduceLT, Nat.reduceLeDiff, Nat.reduceAdd, Nat.reduceMul, Nat.reduceSub, Nat.reduceBEq, Int.reduceToNat, cond_true, cond_false, eq_self, beq_self_eq_true, loadAgg_X wf, tEvQ3, bsl_22]; rfl)) ?_
  refine WV_flat rfl (by omega) ?_
  exact ⟨rfl, rfl⟩

theorem growCast {h : H} {L0 L1 G : List AO} {v : AV} {sz e len : Nat} {cs : List AV} (g : Grow h L0 G v sz e len cs) (hl : L0.length = L1.length) : Grow h L1 G v sz e len cs := by
  unfold Grow at *
  rw [← hl]; exact g
theorem same_of {N' D' N D : Int} (hb' : isBnd N' D' = true) (hb : isBnd N D = true) (h : N' * D = N * D') : N' = N ∧ D' = D :=
  least_unique (isBnd_in hb').1.1 (isBnd_in hb).1.1 (isBnd_in hb').2.1 (isBnd_in hb).2.1 (isBnd_gcd hb') (isBnd_gcd hb) h
theorem eq39 {x y : Operand} {a b c d a' b' c' d' : Int} : binE Try.prog .eql 39 x y (.agg [ii a, ii b, ii c, ii d]) (.agg [ii a', ii b', ii c', ii d']) = some (.bool ((a == a' && b == b') && (c == c' && d == d'))) ∧
    binE Try.prog .neq 39 x y (.agg [ii a, ii b, ii c, ii d]) (.agg [ii a', ii b', ii c', ii d']) = some (.bool (!((a == a' && b == b') && (c == c' && d == d')))) := by
  obtain ⟨f0, f1, hu, o0, o1, t0, t1, n0, n1⟩ : ∃ f0 f1 : Field, Try.prog.underlying 39 = some (.struct #[f0, f1]) ∧ f0.offset = 0 ∧ f1.offset = 2 ∧ f0.type = 26 ∧ f1.type = 26 ∧ f0.name ≠ "_" ∧ f1.name ≠ "_" := ⟨_, _, Try.underlying39, rfl, rfl, rfl, rfl, by decide, by decide⟩
  obtain ⟨g0, g1, hv, p0, p1, s0, s1, m0, m1⟩ := under29
  exact b_eq4 hu t0 t1 o0 o1 n0 n1 (by kernel_rfl) hv (by kernel_rfl) (by rw [s0]; exact Try.underlying2) (by rw [s1]; exact Try.underlying2) p0 p1 m0 m1 (by kernel_rfl) (by kernel_rfl)
theorem eq39s {x y : Operand} {a b c d : Int} : binE Try.prog .eql 39 x y (.agg [ii a, ii b, ii c, ii d]) (.agg [ii a, ii b, ii c, ii d]) = some (.bool true) ∧
    binE Try.prog .neq 39 x y (.agg [ii a, ii b, ii c, ii d]) (.agg [ii a, ii b, ii c, ii d]) = some (.bool false) := by
  obtain ⟨h1, h2⟩ := eq39 (x := x) (y := y) (a := a) (b := b) (c := c) (d := d) (a' := a) (b' := b) (c' := c) (d' := d)
  refine ⟨by rw [h1]; simp, by rw [h2]; simp⟩

theorem lawScaled (sp st wv : Int) (hwv : 0 ≤ wv ∧ wv ≤ 255) (a : AV) (rvs : List AV) (rows : List (List (Int × Int))) (h : H) (x : HullR h a rvs rows) :
    (om Try.prog KK).call (.fn 7 [.agg [ii sp, ii st, a], .int .u8 wv]) h = .ok (.bool true) h := by
  have wf := x.wf
  have hfi : ∀ l w, w ≤ h.clock + l.length → (om Try.prog KK).call (.fn 13 [.agg [ii sp, ii st, a]]) (X h l w) = .ok (.bool (!decide (Great rows []) && decide (hullErr sp st rows = 0))) (X h l w) := fun l w hw => fineC sp st a rvs rows _ (x.up l w hw)
  have hwk : ∀ l w, (om Try.prog KK).call (.fn 10 []) (X h l w) = .ok (.bool true) (X h l w) := fun l w => works _
  refine WV_to (WV_call (fn := Try.f7) Try.func7 rfl rfl rfl rfl rfl ?_)
  simp only [argF]
  cases hF : (!decide (Great rows []) && decide (hullErr sp st rows = 0)) with
  | false =>
    rw [hF] at hfi
    (repeat' (first
  | (with_reducible first | refine WC_seq ?_ | refine WC_skip ?_ | refine WC_label ?_ | refine WC_scope ?_ | refine WC_block ?_ | refine WC_ret ?_ | refine WC_exit ?_ | refine seqQ_norm ?_ | refine seqQ_ret ?_ | refine seqQ_exit ?_ | refine blkQ_norm ?_ | refine blkQ_ret ?_ | refine blkQ_here ?_ | refine gateK_yes ?_ | refine gateK_none ?_ | refine condK_tt ?_ | refine condK_ff ?_ | refine roundQ_exit ?_ | refine roundQ_ret ?_)
  | refine WC_region ?_ | refine blkQ_out rfl ?_ | refine WO_nil ?_ | refine WD_nil ?_
  | ((first | refine WD_gate rfl rfl rfl rfl rfl fun K_ hK_ => ?_ | refine WO_gate rfl rfl rfl rfl rfl fun K_ hK_ => ?_); simp only [upd_apply, asB_bool, asB_tup, ↓reduceIte, reduceCtorEq, Nat.reduceEqDiff, Bool.not_true, Bool.not_false]; refine hK_ _ ?_; clear hK_ K_)
  | refine gateK_no (by decide) ?_
  | ((try first | refine WO_op rfl rfl rfl ?_ | refine WO_op0 rfl rfl ?_ | refine WD_op rfl rfl rfl ?_ | refine WD_op0 rfl rfl ?_); (refine WV_gen fun Q_ hQ_ => ?_; simp (disch := first | omega | (simp only [List.length_cons, List.length_nil, List.length_append]; omega)) only [bb, bp, argF, ↓reduceIte, reduceCtorEq, Nat.reduceEqDiff, Nat.reduceLT, Nat.reduceLeDiff, Nat.reduceAdd, Nat.reduceMul, Nat.reduceSub, Nat.reduceBEq, Int.reduceToNat, cond_true, cond_false, eq_self, beq_self_eq_true, hfi, hwk, newPtr_X wf, newSlice_X wf, load1_X wf, loadAgg_X wf, store1_X wf, writeCells_X wf, makeFunc_def, tEvQ3, bsl_22]; first | (refine dec_split (Q := Q_) (fun hp_ => ?_) (fun hp_ => ?_) <;> first | (exfalso; omega) | (refine hQ_ _ _ ?_; clear hQ_ Q_)) | (refine dec_splitn (Q := Q_) (fun hp_ => ?_) (fun hp_ => ?_) <;> first | (exfalso; omega) | (refine hQ_ _ _ ?_; clear hQ_ Q_)) | (refine hQ_ _ _ ?_; clear hQ_ Q_)))
  | (refine WC_cond fun K_ hK_ => ?_; simp (disch := omega) only [evT_tmp, upd_apply, WB_some, ↓reduceIte, reduceCtorEq, Nat.reduceEqDiff, Nat.reduceLT]; refine hK_ _ ?_; clear hK_ K_)))
    (refine endQ_ret _ _ rfl (ret1 (by decide)) ?_; simp only [upd_apply, ↓reduceIte, reduceCtorEq, Nat.reduceEqDiff]; refine WV_flat rfl (by omega) ?_)
    exact ⟨rfl, rfl⟩
  | true =>
    rw [hF] at hfi
    rw [Bool.and_eq_true] at hF
    have he : hullErr sp st rows = 0 := of_decide_eq_true hF.2
    obtain ⟨hn, hm, hall, hsp, hst, hof⟩ := hullErr_ok he
    have hwr : IntKind.i64.wrap wv = wv := wrap_in _ (by omega) (by omega)
    obtain ⟨what, hwm⟩ : ∃ what, what = wv.tmod 3 := ⟨_, rfl⟩
    have hwh : 0 ≤ what ∧ what ≤ 2 := by
      rw [hwm, Int.tmod_eq_emod_of_nonneg hwv.1]; omega
    have k := hok he (gOf_or what)
    have xat := x.at (m := m0 rows) (by omega) (fun i hi => hall _ (List.getElem_mem hi))
    obtain ⟨hac, hao⟩ := Sl.one x.sl
    have hlen : ∀ h', lenE Try.prog 22 a h' = some (ii (rows.length : Int)) := fun h' => x.sl.len un_22
    obtain ⟨bl, nl⟩ := rat_bnd k (theEnd_ok k false).1
    obtain ⟨bh, nh⟩ := rat_bnd k (theEnd_ok k true).1
    have h18 : ∀ l w, w ≤ h.clock + l.length → (om Try.prog KK).call (.fn 18 [.agg [ii sp, ii st, a], ii what]) (X h l w) = .ok (spanOut sp st rows what) (X h l w) := fun l w hw => spanC sp st a rvs rows what _ (x.up l w hw)
    unfold spanOut lowG at h18
    rw [if_neg (not_not_intro he), if_neg (not_not_intro hwh)] at h18
    have twa := fun h2 => ends_twice k h2 false
    have twb := fun h2 => ends_twice k h2 true
    have r53a := fun hg : gOf what = 53 => ends_rev k false true (.inr ⟨hg, rfl⟩)
    have r53b := fun hg : gOf what = 53 => ends_rev k true false (.inr ⟨hg, rfl⟩)
    have rNa := fun hg : gOf what ≠ 53 => ends_rev k false false (.inl ⟨hg, rfl⟩)
    have rNb := fun hg : gOf what ≠ 53 => ends_rev k true true (.inl ⟨hg, rfl⟩)
    have hle : ratN (gOf what) sp st rows (m0 rows) (theEnd (gOf what) sp st rows (m0 rows) false) * ratD (gOf what) sp st rows (m0 rows) (theEnd (gOf what) sp st rows (m0 rows) true) ≤ ratN (gOf what) sp st rows (m0 rows) (theEnd (gOf what) sp st rows (m0 rows) true) * ratD (gOf what) sp st rows (m0 rows) (theEnd (gOf what) sp st rows (m0 rows) false) := le_high k (theEnd_ok k false).1
    have lg : what = 0 → ratN (gOf what) sp st rows (m0 rows) (theEnd (gOf what) sp st rows (m0 rows) true) ≤ sp * ((rows.length : Int) - 1) * ratD (gOf what) sp st rows (m0 rows) (theEnd (gOf what) sp st rows (m0 rows) true) := fun hw0 => by
      subst hw0
      exact num_long k (theEnd_ok k true).1
    generalize ratN (gOf what) sp st rows (m0 rows) (theEnd (gOf what) sp st rows (m0 rows) false) = lN at *
    generalize ratD (gOf what) sp st rows (m0 rows) (theEnd (gOf what) sp st rows (m0 rows) false) = lD at *
    generalize ratN (gOf what) sp st rows (m0 rows) (theEnd (gOf what) sp st rows (m0 rows) true) = hN at *
    generalize ratD (gOf what) sp st rows (m0 rows) (theEnd (gOf what) sp st rows (m0 rows) true) = hD at *
    have h20 : ∀ l w N D, w ≤ h.clock + l.length → (om Try.prog KK).call (.fn 20 [.agg [ii N, ii D]]) (X h l w) = .ok (.bool (isBnd N D)) (X h l w) := fun l w N D hw => isBoundR N D _ (wf.X hw)
    (repeat' (first
  | (with_reducible first | refine WC_seq ?_ | refine WC_skip ?_ | refine WC_label ?_ | refine WC_scope ?_ | refine WC_block ?_ | refine WC_ret ?_ | refine WC_exit ?_ | refine seqQ_norm ?_ | refine seqQ_ret ?_ | refine seqQ_exit ?_ | refine blkQ_norm ?_ | refine blkQ_ret ?_ | refine blkQ_here ?_ | refine gateK_yes ?_ | refine gateK_none ?_ | refine condK_tt ?_ | refine condK_ff ?_ | refine roundQ_exit ?_ | refine roundQ_ret ?_)
  | refine WC_region ?_ | refine blkQ_out rfl ?_ | refine WO_nil ?_ | refine WD_nil ?_
  | ((first | refine WD_gate rfl rfl rfl rfl rfl fun K_ hK_ => ?_ | refine WO_gate rfl rfl rfl rfl rfl fun K_ hK_ => ?_); simp only [upd_apply, asB_bool, asB_tup, ↓reduceIte, reduceCtorEq, Nat.reduceEqDiff, Bool.not_true, Bool.not_false]; refine hK_ _ ?_; clear hK_ K_)
  | refine gateK_no (by decide) ?_
  | ((try first | refine WO_op rfl rfl rfl ?_ | refine WO_op0 rfl rfl ?_ | refine WD_op rfl rfl rfl ?_ | refine WD_op0 rfl rfl ?_); (refine WV_gen fun Q_ hQ_ => ?_; simp (disch := first | omega | (simp only [List.length_cons, List.length_nil, List.length_append]; omega)) only [bb, bp, argF, ↓reduceIte, reduceCtorEq, Nat.reduceEqDiff, Nat.reduceLT, Nat.reduceLeDiff, Nat.reduceAdd, Nat.reduceMul, Nat.reduceSub, Nat.reduceBEq, Int.reduceToNat, cond_true, cond_false, eq_self, beq_self_eq_true, hfi, hwk, conv5, hwr, b_rem (show (3 : Int) ≠ 0 by decide), ← hwm, h18, h20, nl, nh, newPtr_X wf, newSlice_X wf, load1_X wf, loadAgg_X wf, store1_X wf, writeCells_X wf, makeFunc_def, tEvQ3, bsl_22]; first | (refine dec_split (Q := Q_) (fun hp_ => ?_) (fun hp_ => ?_) <;> first | (exfalso; omega) | (refine hQ_ _ _ ?_; clear hQ_ Q_)) | (refine dec_splitn (Q := Q_) (fun hp_ => ?_) (fun hp_ => ?_) <;> first | (exfalso; omega) | (refine hQ_ _ _ ?_; clear hQ_ Q_)) | (refine hQ_ _ _ ?_; clear hQ_ Q_)))
  | (refine WC_cond fun K_ hK_ => ?_; simp (disch := omega) only [evT_tmp, upd_apply, WB_some, ↓reduceIte, reduceCtorEq, Nat.reduceEqDiff, Nat.reduceLT]; refine hK_ _ ?_; clear hK_ K_)))
    refine WC_drawnB [.no, .no, .no, .no, .soft [2], .full] (by kernel_rfl) ?_
    (repeat' (first
  | (with_reducible first | refine WC_seq ?_ | refine WC_skip ?_ | refine WC_label ?_ | refine WC_scope ?_ | refine WC_block ?_ | refine WC_ret ?_ | refine WC_exit ?_ | refine seqQ_norm ?_ | refine seqQ_ret ?_ | refine seqQ_exit ?_ | refine blkQ_norm ?_ | refine blkQ_ret ?_ | refine blkQ_here ?_ | refine gateK_yes ?_ | refine gateK_none ?_ | refine condK_tt ?_ | refine condK_ff ?_ | refine roundQ_exit ?_ | refine roundQ_ret ?_)
  | refine WC_region ?_ | refine blkQ_out rfl ?_ | refine WO_nil ?_ | refine WD_nil ?_
  | ((first | refine WD_gate rfl rfl rfl rfl rfl fun K_ hK_ => ?_ | refine WO_gate rfl rfl rfl rfl rfl fun K_ hK_ => ?_); simp only [upd_apply, asB_bool, asB_tup, ↓reduceIte, reduceCtorEq, Nat.reduceEqDiff, Bool.not_true, Bool.not_false]; refine hK_ _ ?_; clear hK_ K_)
  | refine gateK_no (by decide) ?_
  | ((try first | refine WO_op rfl rfl rfl ?_ | refine WO_op0 rfl rfl ?_ | refine WD_op rfl rfl rfl ?_ | refine WD_op0 rfl rfl ?_); (refine WV_gen fun Q_ hQ_ => ?_; simp (disch := first | omega | (simp only [List.length_cons, List.length_nil, List.length_append]; omega)) only [bb, bp, argF, ↓reduceIte, reduceCtorEq, Nat.reduceEqDiff, Nat.reduceLT, Nat.reduceLeDiff, Nat.reduceAdd, Nat.reduceMul, Nat.reduceSub, Nat.reduceBEq, Int.reduceToNat, cond_true, cond_false, eq_self, beq_self_eq_true, newPtr_X wf, newSlice_X wf, load1_X wf, loadAgg_X wf, store1_X wf, writeCells_X wf, makeFunc_def, tEvQ3, bsl_22]; first | (refine dec_split (Q := Q_) (fun hp_ => ?_) (fun hp_ => ?_) <;> first | (exfalso; omega) | (refine hQ_ _ _ ?_; clear hQ_ Q_)) | (refine dec_splitn (Q := Q_) (fun hp_ => ?_) (fun hp_ => ?_) <;> first | (exfalso; omega) | (refine hQ_ _ _ ?_; clear hQ_ Q_)) | (refine hQ_ _ _ ?_; clear hQ_ Q_)))
  | (refine WC_cond fun K_ hK_ => ?_; simp (disch := omega) only [evT_tmp, upd_apply, WB_some, ↓reduceIte, reduceCtorEq, Nat.reduceEqDiff, Nat.reduceLT]; refine hK_ _ ?_; clear hK_ K_)))
    refine WD_op0 rfl rfl (WV_soft (v := .tup []) (by
      rw [x_store, evT_tmp (by decide), on1_ok, evT_tmp (by decide), on1_ok]
      simp only [upd_apply, ↓reduceIte, reduceCtorEq, Nat.reduceEqDiff]
      rw [marked_X, storeE_whole wf sz_24 (by decide) rfl rfl rfl (by rw [allOne_cons, allOne_cons, allOne_cons, hao]; rfl)]
      rfl) (barOk_store1 (by simp only [upd_apply, ↓reduceIte, reduceCtorEq, Nat.reduceEqDiff]; rfl) (by simp only [upd_apply, ↓reduceIte, reduceCtorEq, Nat.reduceEqDiff]; rfl) (nx_ne (by decide)) (by decide) (by decide)) ?_)
    simp only [List.set_cons_succ, List.set_cons_zero]
    (repeat' (first
  | (with_reducible first | refine WC_seq ?_ | refine WC_skip ?_ | refine WC_label ?_ | refine WC_scope ?_ | refine WC_block ?_ | refine WC_ret ?_ | refine WC_exit ?_ | refine seqQ_norm ?_ | refine seqQ_ret ?_ | refine seqQ_exit ?_ | refine blkQ_norm ?_ | refine blkQ_ret ?_ | refine blkQ_here ?_ | refine gateK_yes ?_ | refine gateK_none ?_ | refine condK_tt ?_ | refine condK_ff ?_ | refine roundQ_exit ?_ | refine roundQ_ret ?_)
  | refine WC_region ?_ | refine blkQ_out rfl ?_ | refine WO_nil ?_ | refine WD_nil ?_
  | ((first | refine WD_gate rfl rfl rfl rfl rfl fun K_ hK_ => ?_ | refine WO_gate rfl rfl rfl rfl rfl fun K_ hK_ => ?_); simp only [upd_apply, asB_bool, asB_tup, ↓reduceIte, reduceCtorEq, Nat.reduceEqDiff, Bool.not_true, Bool.not_false]; refine hK_ _ ?_; clear hK_ K_)
  | refine gateK_no (by decide) ?_
  | ((try first | refine WO_op rfl rfl rfl ?_ | refine WO_op0 rfl rfl ?_ | refine WD_op rfl rfl rfl ?_ | refine WD_op0 rfl rfl ?_); (refine WV_gen fun Q_ hQ_ => ?_; simp (disch := first | omega | (simp only [List.length_cons, List.length_nil, List.length_append]; omega)) only [bb, bp, argF, ↓reduceIte, reduceCtorEq, Nat.reduceEqDiff, Nat.reduceLT, Nat.reduceLeDiff, Nat.reduceAdd, Nat.reduceMul, Nat.reduceSub, Nat.reduceBEq, Int.reduceToNat, cond_true, cond_false, eq_self, beq_self_eq_true, hao, hlen, newPtr_X wf, newSlice_X wf, load1_X wf, loadAgg_X wf, store1_X wf, writeCells_X wf, makeFunc_def, tEvQ3, bsl_22]; first | (refine dec_split (Q := Q_) (fun hp_ => ?_) (fun hp_ => ?_) <;> first | (exfalso; omega) | (refine hQ_ _ _ ?_; clear hQ_ Q_)) | (refine dec_splitn (Q := Q_) (fun hp_ => ?_) (fun hp_ => ?_) <;> first | (exfalso; omega) | (refine hQ_ _ _ ?_; clear hQ_ Q_)) | (refine hQ_ _ _ ?_; clear hQ_ Q_)))
  | (refine WC_cond fun K_ hK_ => ?_; simp (disch := omega) only [evT_tmp, upd_apply, WB_some, ↓reduceIte, reduceCtorEq, Nat.reduceEqDiff, Nat.reduceLT]; refine hK_ _ ?_; clear hK_ K_)))
    refine WC_loop (fun (j : Nat) f d h' => j ≤ rows.length ∧ f 2 = .ptr (nx h 0) 0 ∧ f 5 = ii what ∧ f 6 = .ptr (nx h 1) 0 ∧ f 8 = .ptr (nx h 2) 0 ∧ f 9 = .ptr (nx h 3) 0 ∧ f 10 = ii ((rows.length : Int) - 1 - (j : Int)) ∧ d = [] ∧
      ∃ G yv, h' = X h (.cells (mkCells [ii sp, ii st, a]) 24 :: .cells (mkCells [ii lN, ii lD, ii hN, ii hD]) 39 :: .cells (mkCells [ii (2 * sp), ii st, a]) 24 :: .cells (mkCells [ii sp, ii st, yv]) 24 :: G) h.clock ∧ Grow h [.dead, .dead, .dead, .dead] G yv 1 52 j (rvs.reverse.take j)) (fun j => rows.length - j) ?_ (rows.length + 1) 0 (by omega) ?_
    · rintro j f d h' ⟨hj, g2, g5, g6, g8, g9, g10, rfl, G, yv, rfl, hgr⟩
      by_cases hlt : j < rows.length
      · obtain ⟨v, hv, hsv, hrl⟩ := xat.row (rows.length - 1 - j) (by omega)
        obtain ⟨hvc, hvo⟩ := Sl.one hsv
        obtain ⟨id, off, hix, hld⟩ := x.sl.at1 wf (show rows.length - 1 - j < rows.length by omega) ik_22
        have hvl : rvs.length = rows.length := by have := x.sl.1; omega
        rw [show ((rows.length - 1 - j : Nat) : Int) = (rows.length : Int) - 1 - (j : Int) by omega] at hix
        have htk : rvs.reverse.take (j + 1) = rvs.reverse.take j ++ [v] := by
          rw [List.take_add_one, List.getElem?_reverse (by omega), hvl, hv]; rfl
        rw [hv] at hld
        have hry := hgr.resz (P := Try.prog) 22
        obtain ⟨yv', G', hgr', happ0, -⟩ := (growCast (L1 := [.cells (mkCells [ii sp, ii st, a]) 24, .cells (mkCells [ii lN, ii lD, ii hN, ii hD]) 39, .cells (mkCells [ii (2 * sp), ii st, a]) 24, .cells (mkCells [ii sp, ii st, yv]) 24]) hgr rfl).appendD (P := Try.prog) wf un_22 sz_52 el_52 (n := 1) (new := [v]) (by omega) (by omega) (by omega) rfl (by rw [allOne_cons, hvo]; rfl)
        have happ : ∀ tm op n w, n = G.length + 4 → h.clock ≤ w → unmark .full tm op (X h (.cells (mkCells [ii sp, ii st, a]) 24 :: .cells (mkCells [ii lN, ii lD, ii hN, ii hD]) 39 :: .cells (mkCells [ii (2 * sp), ii st, a]) 24 :: .cells (mkCells [ii sp, ii st, yv]) 24 :: (G ++ [.cells (mkCells [v]) 52])) h.clock)
            (appendE Try.prog 22 yv (.sl (nx h n) 0 1 (some 1) 1) (X h (.cells (mkCells [ii sp, ii st, a]) 24 :: .cells (mkCells [ii lN, ii lD, ii hN, ii hD]) 39 :: .cells (mkCells [ii (2 * sp), ii st, a]) 24 :: .cells (mkCells [ii sp, ii st, yv]) 24 :: (G ++ [.cells (mkCells [v]) 52])) w)) =
            .ok yv' (X h (.cells (mkCells [ii sp, ii st, a]) 24 :: .cells (mkCells [ii lN, ii lD, ii hN, ii hD]) 39 :: .cells (mkCells [ii (2 * sp), ii st, a]) 24 :: .cells (mkCells [ii sp, ii st, yv]) 24 :: G') h.clock) := fun tm op n w hn hw => by
          have := happ0 tm op w hw
          rw [show [AO.cells (mkCells [ii sp, ii st, a]) 24, .cells (mkCells [ii lN, ii lD, ii hN, ii hD]) 39, .cells (mkCells [ii (2 * sp), ii st, a]) 24, .cells (mkCells [ii sp, ii st, yv]) 24].length + G.length = n by simp; omega] at this
          exact this
        have hyo : oneB yv = true := hgr.flat.2
        have hyo' : oneB yv' = true := hgr'.flat.2
        have hyc' : AV.cells yv' = [yv'] := hgr'.flat.1
        (repeat' (first
  | (with_reducible first | refine WC_seq ?_ | refine WC_skip ?_ | refine WC_label ?_ | refine WC_scope ?_ | refine WC_block ?_ | refine WC_ret ?_ | refine WC_exit ?_ | refine seqQ_norm ?_ | refine seqQ_ret ?_ | refine seqQ_exit ?_ | refine blkQ_norm ?_ | refine blkQ_ret ?_ | refine blkQ_here ?_ | refine gateK_yes ?_ | refine gateK_none ?_ | refine condK_tt ?_ | refine condK_ff ?_ | refine roundQ_exit ?_ | refine roundQ_ret ?_)
  | refine WC_region ?_ | refine blkQ_out rfl ?_ | refine WO_nil ?_ | refine WD_nil ?_
  | ((first | refine WD_gate rfl rfl rfl rfl rfl fun K_ hK_ => ?_ | refine WO_gate rfl rfl rfl rfl rfl fun K_ hK_ => ?_); simp only [upd_apply, asB_bool, asB_tup, ↓reduceIte, reduceCtorEq, Nat.reduceEqDiff, Bool.not_true, Bool.not_false]; refine hK_ _ ?_; clear hK_ K_)
  | refine gateK_no (by decide) ?_
  | ((try first | refine WO_op rfl rfl rfl ?_ | refine WO_op0 rfl rfl ?_ | refine WD_op rfl rfl rfl ?_ | refine WD_op0 rfl rfl ?_); (refine WV_gen fun Q_ hQ_ => ?_; simp (disch := first | omega | (simp only [List.length_cons, List.length_nil, List.length_append]; omega)) only [bb, bp, argF, ↓reduceIte, reduceCtorEq, Nat.reduceEqDiff, Nat.reduceLT, Nat.reduceLeDiff, Nat.reduceAdd, Nat.reduceMul, Nat.reduceSub, Nat.reduceBEq, Int.reduceToNat, cond_true, cond_false, eq_self, beq_self_eq_true, g2, g5, g6, g8, g9, g10, newPtr_X wf, newSlice_X wf, load1_X wf, loadAgg_X wf, store1_X wf, writeCells_X wf, makeFunc_def, tEvQ3, bsl_22]; first | (refine dec_split (Q := Q_) (fun hp_ => ?_) (fun hp_ => ?_) <;> first | (exfalso; omega) | (refine hQ_ _ _ ?_; clear hQ_ Q_)) | (refine dec_splitn (Q := Q_) (fun hp_ => ?_) (fun hp_ => ?_) <;> first | (exfalso; omega) | (refine hQ_ _ _ ?_; clear hQ_ Q_)) | (refine hQ_ _ _ ?_; clear hQ_ Q_)))
  | (refine WC_cond fun K_ hK_ => ?_; simp (disch := omega) only [evT_tmp, upd_apply, WB_some, ↓reduceIte, reduceCtorEq, Nat.reduceEqDiff, Nat.reduceLT]; refine hK_ _ ?_; clear hK_ K_)))
        refine WC_drawnB [.no, .no, .no, .no, .no, .no, .no, .no, .full, .full, .full] (by kernel_rfl) ?_
        (repeat' (first
  | (with_reducible first | refine WC_seq ?_ | refine WC_skip ?_ | refine WC_label ?_ | refine WC_scope ?_ | refine WC_block ?_ | refine WC_ret ?_ | refine WC_exit ?_ | refine seqQ_norm ?_ | refine seqQ_ret ?_ | refine seqQ_exit ?_ | refine blkQ_norm ?_ | refine blkQ_ret ?_ | refine blkQ_here ?_ | refine gateK_yes ?_ | refine gateK_none ?_ | refine condK_tt ?_ | refine condK_ff ?_ | refine roundQ_exit ?_ | refine roundQ_ret ?_)
  | refine WC_region ?_ | refine blkQ_out rfl ?_ | refine WO_nil ?_ | refine WD_nil ?_
  | ((first | refine WD_gate rfl rfl rfl rfl rfl fun K_ hK_ => ?_ | refine WO_gate rfl rfl rfl rfl rfl fun K_ hK_ => ?_); simp only [upd_apply, asB_bool, asB_tup, ↓reduceIte, reduceCtorEq, Nat.reduceEqDiff, Bool.not_true, Bool.not_false]; refine hK_ _ ?_; clear hK_ K_)
  | refine gateK_no (by decide) ?_
  | ((try first | refine WO_op rfl rfl rfl ?_ | refine WO_op0 rfl rfl ?_ | refine WD_op rfl rfl rfl ?_ | refine WD_op0 rfl rfl ?_); (refine WV_gen fun Q_ hQ_ => ?_; simp (disch := first | omega | (simp only [List.length_cons, List.length_nil, List.length_append]; omega)) only [bb, bp, argF, ↓reduceIte, reduceCtorEq, Nat.reduceEqDiff, Nat.reduceLT, Nat.reduceLeDiff, Nat.reduceAdd, Nat.reduceMul, Nat.reduceSub, Nat.reduceBEq, Int.reduceToNat, cond_true, cond_false, eq_self, beq_self_eq_true, g2, g5, g6, g8, g9, g10, hix, hld, hvo, hvc, hry, happ, hyo', hyc', reszT_some un_22 sz_52, newPtr_X wf, newSlice_X wf, load1_X wf, loadAgg_X wf, store1_X wf, writeCells_X wf, makeFunc_def, tEvQ3, bsl_22]; first | (refine dec_split (Q := Q_) (fun hp_ => ?_) (fun hp_ => ?_) <;> first | (exfalso; omega) | (refine hQ_ _ _ ?_; clear hQ_ Q_)) | (refine dec_splitn (Q := Q_) (fun hp_ => ?_) (fun hp_ => ?_) <;> first | (exfalso; omega) | (refine hQ_ _ _ ?_; clear hQ_ Q_)) | (refine hQ_ _ _ ?_; clear hQ_ Q_)))
  | (refine WC_cond fun K_ hK_ => ?_; simp (disch := omega) only [evT_tmp, upd_apply, WB_some, ↓reduceIte, reduceCtorEq, Nat.reduceEqDiff, Nat.reduceLT]; refine hK_ _ ?_; clear hK_ K_)))
        refine roundQ_again (j + 1) (by omega) ⟨hlt, by simp only [upd_apply, ↓reduceIte, reduceCtorEq, Nat.reduceEqDiff]; exact g2, by simp only [upd_apply, ↓reduceIte, reduceCtorEq, Nat.reduceEqDiff]; exact g5, by simp only [upd_apply, ↓reduceIte, reduceCtorEq, Nat.reduceEqDiff]; exact g6, by simp only [upd_apply, ↓reduceIte, reduceCtorEq, Nat.reduceEqDiff]; exact g8, by simp only [upd_apply, ↓reduceIte, reduceCtorEq, Nat.reduceEqDiff]; exact g9, by simp only [upd_apply, ↓reduceIte, reduceCtorEq, Nat.reduceEqDiff]; congr 1; omega, rfl, G', yv', rfl, ?_⟩
        rw [htk]
        exact growCast hgr' rfl
      · have hjn : j = rows.length := by omega
        subst hjn
        have hvl : rvs.length = rows.length := by have := x.sl.1; omega
        have k' := hok_rev k
        have he' := hull_rev he
        have hm' := m0_rev he
        obtain ⟨-, nyl⟩ := rat_bnd k' (theEnd_ok k' false).1
        obtain ⟨-, nyh⟩ := rat_bnd k' (theEnd_ok k' true).1
        have hyR : HullR (X h (.cells (mkCells [ii sp, ii st, a]) 24 :: .cells (mkCells [ii lN, ii lD, ii hN, ii hD]) 39 :: .cells (mkCells [ii (2 * sp), ii st, a]) 24 :: .cells (mkCells [ii sp, ii st, yv]) 24 :: G) h.clock) yv rvs.reverse rows.reverse := by
          refine ⟨wf.X (by omega), ?_, fun i hi => ?_⟩
          · have := (growCast (L1 := [.cells (mkCells [ii sp, ii st, a]) 24, .cells (mkCells [ii lN, ii lD, ii hN, ii hD]) 39, .cells (mkCells [ii (2 * sp), ii st, a]) 24, .cells (mkCells [ii sp, ii st, yv]) 24]) hgr rfl).sl wf h.clock
            rw [List.take_of_length_le (by rw [List.length_reverse]; omega)] at this
            rw [List.length_reverse]
            exact this
          · rw [List.length_reverse] at hi
            obtain ⟨v, h1, h2⟩ := x.row (rows.length - 1 - i) (by omega)
            refine ⟨v, by rw [List.getElem?_reverse (by omega), hvl]; exact h1, ?_⟩
            rw [List.getElem_reverse]
            exact h2.up wf _ _
        have hyS : ∀ l w, w ≤ h.clock + l.length + (G.length + 4) → (om Try.prog KK).call (.fn 18 [.agg [ii sp, ii st, yv], ii what]) (X h (.cells (mkCells [ii sp, ii st, a]) 24 :: .cells (mkCells [ii lN, ii lD, ii hN, ii hD]) 39 :: .cells (mkCells [ii (2 * sp), ii st, a]) 24 :: .cells (mkCells [ii sp, ii st, yv]) 24 :: (G ++ l)) w) = .ok (spanOut sp st rows.reverse what) (X h (.cells (mkCells [ii sp, ii st, a]) 24 :: .cells (mkCells [ii lN, ii lD, ii hN, ii hD]) 39 :: .cells (mkCells [ii (2 * sp), ii st, a]) 24 :: .cells (mkCells [ii sp, ii st, yv]) 24 :: (G ++ l)) w) := fun l w hw => by
          have := spanC sp st yv rvs.reverse rows.reverse what _ (hyR.up l w (by rw [X_clock]; simp only [List.length_cons]; omega))
          rw [X_X] at this
          exact this
        unfold spanOut lowG at hyS
        rw [if_neg (not_not_intro he'), if_neg (not_not_intro hwh), hm'] at hyS
        generalize ratN (gOf what) sp st rows.reverse (m0 rows) (theEnd (gOf what) sp st rows.reverse (m0 rows) false) = ylN at *
        generalize ratD (gOf what) sp st rows.reverse (m0 rows) (theEnd (gOf what) sp st rows.reverse (m0 rows) false) = ylD at *
        generalize ratN (gOf what) sp st rows.reverse (m0 rows) (theEnd (gOf what) sp st rows.reverse (m0 rows) true) = yhN at *
        generalize ratD (gOf what) sp st rows.reverse (m0 rows) (theEnd (gOf what) sp st rows.reverse (m0 rows) true) = yhD at *
        have hxS : 2 * sp ≤ 1000 → ∀ l w, w ≤ h.clock + l.length → (om Try.prog KK).call (.fn 18 [.agg [ii (2 * sp), ii st, a], ii what]) (X h l w) = .ok (spanOut (2 * sp) st rows what) (X h l w) := fun _ l w hw => spanC (2 * sp) st a rvs rows what _ (x.up l w hw)
        have hyS0 : ∀ w, w ≤ h.clock + (G.length + 4) → (om Try.prog KK).call (.fn 18 [.agg [ii sp, ii st, yv], ii what]) (X h (.cells (mkCells [ii sp, ii st, a]) 24 :: .cells (mkCells [ii lN, ii lD, ii hN, ii hD]) 39 :: .cells (mkCells [ii (2 * sp), ii st, a]) 24 :: .cells (mkCells [ii sp, ii st, yv]) 24 :: G) w) = .ok (.tup [.agg [ii ylN, ii ylD, ii yhN, ii yhD], ii 0]) (X h (.cells (mkCells [ii sp, ii st, a]) 24 :: .cells (mkCells [ii lN, ii lD, ii hN, ii hD]) 39 :: .cells (mkCells [ii (2 * sp), ii st, a]) 24 :: .cells (mkCells [ii sp, ii st, yv]) 24 :: G) w) := fun w hw => by
          have := hyS [] w (by simp only [List.length_nil]; omega)
          rw [List.append_nil] at this
          exact this
        obtain ⟨hyc, hyo⟩ := hgr.flat
        have hL := mul_bd (a := sp) (b := (rows.length : Int) - 1) (x := 1000) (y := 9) ⟨by omega, by omega⟩ ⟨by omega, by omega⟩
        unfold bndIn at bl bh
        have hLl := mul_bd hL (b := lD) (y := 100000000) ⟨by omega, by omega⟩
        have hLh := mul_bd hL (b := hD) (y := 100000000) ⟨by omega, by omega⟩
        by_cases hw0 : what = 0
        · have hg : gOf what = 53 := by rw [hw0]; rfl
          have r0 := r53a hg
          have r1 := r53b hg
          have lgh := lg hw0
          clear r53a r53b rNa rNb lg
          unfold uOf vOf cOf at *
          rw [if_pos hg, if_pos hg] at r0 r1
          rw [if_pos hg] at twa twb
          have lgl : lN ≤ sp * ((rows.length : Int) - 1) * lD := by
            have h1 := hle
            have h2 : lN * hD ≤ sp * ((rows.length : Int) - 1) * lD * hD := by
              have h3 := Int.mul_le_mul_of_nonneg_right lgh (show 0 ≤ lD by omega)
              grind
            exact Int.le_of_mul_le_mul_right h2 (by omega)
          obtain ⟨y1, y2⟩ := least_of (Y := sp * ((rows.length : Int) - 1) * hD - hN) nyl bh.2.1 (by omega) (by rw [r0]; grind)
          obtain ⟨y3, y4⟩ := least_of (Y := sp * ((rows.length : Int) - 1) * lD - lN) nyh bl.2.1 (by omega) (by rw [r1]; grind)
          have hm1 : ∀ l w, w ≤ h.clock + l.length → (om Try.prog KK).call (.fn 25 [ii (sp * ((rows.length : Int) - 1)), .agg [ii hN, ii hD]]) (X h l w) = .ok (.agg [ii ylN, ii ylD]) (X h l w) := fun l w hw => by
            rw [minusC _ hN hD (by omega) ⟨by omega, by omega⟩ (by omega) (by omega) _ (wf.X hw), y1, y2]; rfl
          have hm2 : ∀ l w, w ≤ h.clock + l.length → (om Try.prog KK).call (.fn 25 [ii (sp * ((rows.length : Int) - 1)), .agg [ii lN, ii lD]]) (X h l w) = .ok (.agg [ii yhN, ii yhD]) (X h l w) := fun l w hw => by
            rw [minusC _ lN lD (by omega) ⟨by omega, by omega⟩ (by omega) (by omega) _ (wf.X hw), y3, y4]; rfl
          clear y1 y2 y3 y4
          have hxs : 2 * sp ≤ 1000 → ∃ xlN xlD xhN xhD : Int, (∀ l w, w ≤ h.clock + l.length → (om Try.prog KK).call (.fn 18 [.agg [ii (2 * sp), ii st, a], ii what]) (X h l w) = .ok (.tup [.agg [ii xlN, ii xlD, ii xhN, ii xhD], ii 0]) (X h l w)) ∧ (∀ l w, w ≤ h.clock + l.length → (om Try.prog KK).call (.fn 24 [ii (2 * lN), ii lD]) (X h l w) = .ok (.agg [ii xlN, ii xlD]) (X h l w)) ∧ (∀ l w, w ≤ h.clock + l.length → (om Try.prog KK).call (.fn 24 [ii (2 * hN), ii hD]) (X h l w) = .ok (.agg [ii xhN, ii xhD]) (X h l w)) := fun h2 => by
            have he2 := hull_twice he h2
            have k2 := hok_twice k h2
            have t0 := twa h2
            have t1 := twb h2
            obtain ⟨-, nxl⟩ := rat_bnd k2 (theEnd_ok k2 false).1
            obtain ⟨-, nxh⟩ := rat_bnd k2 (theEnd_ok k2 true).1
            have hxT := hxS h2
            unfold spanOut lowG at hxT
            rw [if_neg (not_not_intro he2), if_neg (not_not_intro hwh)] at hxT
            generalize ratN (gOf what) (2 * sp) st rows (m0 rows) (theEnd (gOf what) (2 * sp) st rows (m0 rows) false) = xlN at *
            generalize ratD (gOf what) (2 * sp) st rows (m0 rows) (theEnd (gOf what) (2 * sp) st rows (m0 rows) false) = xlD at *
            generalize ratN (gOf what) (2 * sp) st rows (m0 rows) (theEnd (gOf what) (2 * sp) st rows (m0 rows) true) = xhN at *
            generalize ratD (gOf what) (2 * sp) st rows (m0 rows) (theEnd (gOf what) (2 * sp) st rows (m0 rows) true) = xhD at *
            refine ⟨xlN, xlD, xhN, xhD, hxT, ?_⟩
            obtain ⟨y1, y2⟩ := least_of (Y := 2 * lN) nxl bl.2.1 (by omega) (by rw [t0]; grind)
            obtain ⟨y3, y4⟩ := least_of (Y := 2 * hN) nxh bh.2.1 (by omega) (by rw [t1]; grind)
            exact ⟨fun l w hw => by rw [fractionR _ _ ⟨by omega, by omega⟩ ⟨by omega, by omega⟩ _ (wf.X hw), y1, y2]; rfl, fun l w hw => by rw [fractionR _ _ ⟨by omega, by omega⟩ ⟨by omega, by omega⟩ _ (wf.X hw), y3, y4]; rfl⟩
          by_cases h2 : 2 * sp ≤ 1000
          · obtain ⟨xlN, xlD, xhN, xhD, hxT, hf1, hf2⟩ := hxs h2
            (repeat' (first
  | (with_reducible first | refine WC_seq ?_ | refine WC_skip ?_ | refine WC_label ?_ | refine WC_scope ?_ | refine WC_block ?_ | refine WC_ret ?_ | refine WC_exit ?_ | refine seqQ_norm ?_ | refine seqQ_ret ?_ | refine seqQ_exit ?_ | refine blkQ_norm ?_ | refine blkQ_ret ?_ | refine blkQ_here ?_ | refine gateK_yes ?_ | refine gateK_none ?_ | refine condK_tt ?_ | refine condK_ff ?_ | refine roundQ_exit ?_ | refine roundQ_ret ?_)
  | refine WC_region ?_ | refine blkQ_out rfl ?_ | refine WO_nil ?_ | refine WD_nil ?_
  | ((first | refine WD_gate rfl rfl rfl rfl rfl fun K_ hK_ => ?_ | refine WO_gate rfl rfl rfl rfl rfl fun K_ hK_ => ?_); simp only [upd_apply, asB_bool, asB_tup, ↓reduceIte, reduceCtorEq, Nat.reduceEqDiff, Bool.not_true, Bool.not_false]; refine hK_ _ ?_; clear hK_ K_)
  | refine gateK_no (by decide) ?_
  | ((try first | refine WO_op rfl rfl rfl ?_ | refine WO_op0 rfl rfl ?_ | refine WD_op rfl rfl rfl ?_ | refine WD_op0 rfl rfl ?_); (refine WV_gen fun Q_ hQ_ => ?_; simp (disch := first | omega | (simp only [List.length_cons, List.length_nil, List.length_append]; omega)) only [bb, bp, argF, ↓reduceIte, reduceCtorEq, Nat.reduceEqDiff, Nat.reduceLT, Nat.reduceLeDiff, Nat.reduceAdd, Nat.reduceMul, Nat.reduceSub, Nat.reduceBEq, Int.reduceToNat, cond_true, cond_false, eq_self, beq_self_eq_true, g2, g5, g6, g8, g9, g10, hao, hyo, hyc, hlen, hyS, hyS0, hwk, eq39s.1, eq39s.2, hxT, newPtr_X wf, newSlice_X wf, load1_X wf, loadAgg_X wf, store1_X wf, writeCells_X wf, makeFunc_def, tEvQ3, bsl_22]; first | (refine dec_split (Q := Q_) (fun hp_ => ?_) (fun hp_ => ?_) <;> first | (exfalso; omega) | (refine hQ_ _ _ ?_; clear hQ_ Q_)) | (refine dec_splitn (Q := Q_) (fun hp_ => ?_) (fun hp_ => ?_) <;> first | (exfalso; omega) | (refine hQ_ _ _ ?_; clear hQ_ Q_)) | (refine hQ_ _ _ ?_; clear hQ_ Q_)))
  | (refine WC_cond fun K_ hK_ => ?_; simp (disch := omega) only [evT_tmp, upd_apply, WB_some, ↓reduceIte, reduceCtorEq, Nat.reduceEqDiff, Nat.reduceLT]; refine hK_ _ ?_; clear hK_ K_)))
            refine WC_drawnB [.no, .no, .no, .no, .no, .no, .no, .no, .no, .no, .no, .no, .no, .no, .no, .full, .full, .full] (by kernel_rfl) ?_
            (repeat' (first
  | (with_reducible first | refine WC_seq ?_ | refine WC_skip ?_ | refine WC_label ?_ | refine WC_scope ?_ | refine WC_block ?_ | refine WC_ret ?_ | refine WC_exit ?_ | refine seqQ_norm ?_ | refine seqQ_ret ?_ | refine seqQ_exit ?_ | refine blkQ_norm ?_ | refine blkQ_ret ?_ | refine blkQ_here ?_ | refine gateK_yes ?_ | refine gateK_none ?_ | refine condK_tt ?_ | refine condK_ff ?_ | refine roundQ_exit ?_ | refine roundQ_ret ?_)
  | refine WC_region ?_ | refine blkQ_out rfl ?_ | refine WO_nil ?_ | refine WD_nil ?_
  | ((first | refine WD_gate rfl rfl rfl rfl rfl fun K_ hK_ => ?_ | refine WO_gate rfl rfl rfl rfl rfl fun K_ hK_ => ?_); simp only [upd_apply, asB_bool, asB_tup, ↓reduceIte, reduceCtorEq, Nat.reduceEqDiff, Bool.not_true, Bool.not_false]; refine hK_ _ ?_; clear hK_ K_)
  | refine gateK_no (by decide) ?_
  | ((try first | refine WO_op rfl rfl rfl ?_ | refine WO_op0 rfl rfl ?_ | refine WD_op rfl rfl rfl ?_ | refine WD_op0 rfl rfl ?_); (refine WV_gen fun Q_ hQ_ => ?_; simp (disch := first | omega | (simp only [List.length_cons, List.length_nil, List.length_append]; omega)) only [bb, bp, argF, ↓reduceIte, reduceCtorEq, Nat.reduceEqDiff, Nat.reduceLT, Nat.reduceLeDiff, Nat.reduceAdd, Nat.reduceMul, Nat.reduceSub, Nat.reduceBEq, Int.reduceToNat, cond_true, cond_false, eq_self, beq_self_eq_true, g2, g5, g6, g8, g9, g10, hao, hyo, hyc, hlen, hyS, hyS0, hwk, eq39s.1, eq39s.2, hxT, hf1, hf2, newPtr_X wf, newSlice_X wf, load1_X wf, loadAgg_X wf, store1_X wf, writeCells_X wf, makeFunc_def, tEvQ3, bsl_22]; first | (refine dec_split (Q := Q_) (fun hp_ => ?_) (fun hp_ => ?_) <;> first | (exfalso; omega) | (refine hQ_ _ _ ?_; clear hQ_ Q_)) | (refine dec_splitn (Q := Q_) (fun hp_ => ?_) (fun hp_ => ?_) <;> first | (exfalso; omega) | (refine hQ_ _ _ ?_; clear hQ_ Q_)) | (refine hQ_ _ _ ?_; clear hQ_ Q_)))
  | (refine WC_cond fun K_ hK_ => ?_; simp (disch := omega) only [evT_tmp, upd_apply, WB_some, ↓reduceIte, reduceCtorEq, Nat.reduceEqDiff, Nat.reduceLT]; refine hK_ _ ?_; clear hK_ K_)))
            refine WC_drawnB [.no, .no, .no, .no, .no, .no, .no, .full, .full, .full] (by kernel_rfl) ?_
            (repeat' (first
  | (with_reducible first | refine WC_seq ?_ | refine WC_skip ?_ | refine WC_label ?_ | refine WC_scope ?_ | refine WC_block ?_ | refine WC_ret ?_ | refine WC_exit ?_ | refine seqQ_norm ?_ | refine seqQ_ret ?_ | refine seqQ_exit ?_ | refine blkQ_norm ?_ | refine blkQ_ret ?_ | refine blkQ_here ?_ | refine gateK_yes ?_ | refine gateK_none ?_ | refine condK_tt ?_ | refine condK_ff ?_ | refine roundQ_exit ?_ | refine roundQ_ret ?_)
  | refine WC_region ?_ | refine blkQ_out rfl ?_ | refine WO_nil ?_ | refine WD_nil ?_
  | ((first | refine WD_gate rfl rfl rfl rfl rfl fun K_ hK_ => ?_ | refine WO_gate rfl rfl rfl rfl rfl fun K_ hK_ => ?_); simp only [upd_apply, asB_bool, asB_tup, ↓reduceIte, reduceCtorEq, Nat.reduceEqDiff, Bool.not_true, Bool.not_false]; refine hK_ _ ?_; clear hK_ K_)
  | refine gateK_no (by decide) ?_
  | ((try first | refine WO_op rfl rfl rfl ?_ | refine WO_op0 rfl rfl ?_ | refine WD_op rfl rfl rfl ?_ | refine WD_op0 rfl rfl ?_); (refine WV_gen fun Q_ hQ_ => ?_; simp (disch := first | omega | (simp only [List.length_cons, List.length_nil, List.length_append]; omega)) only [bb, bp, argF, ↓reduceIte, reduceCtorEq, Nat.reduceEqDiff, Nat.reduceLT, Nat.reduceLeDiff, Nat.reduceAdd, Nat.reduceMul, Nat.reduceSub, Nat.reduceBEq, Int.reduceToNat, cond_true, cond_false, eq_self, beq_self_eq_true, g2, g5, g6, g8, g9, g10, hao, hyo, hyc, hlen, hyS, hyS0, hwk, eq39s.1, eq39s.2, hm1, hm2, newPtr_X wf, newSlice_X wf, load1_X wf, loadAgg_X wf, store1_X wf, writeCells_X wf, makeFunc_def, tEvQ3, bsl_22]; first | (refine dec_split (Q := Q_) (fun hp_ => ?_) (fun hp_ => ?_) <;> first | (exfalso; omega) | (refine hQ_ _ _ ?_; clear hQ_ Q_)) | (refine dec_splitn (Q := Q_) (fun hp_ => ?_) (fun hp_ => ?_) <;> first | (exfalso; omega) | (refine hQ_ _ _ ?_; clear hQ_ Q_)) | (refine hQ_ _ _ ?_; clear hQ_ Q_)))
  | (refine WC_cond fun K_ hK_ => ?_; simp (disch := omega) only [evT_tmp, upd_apply, WB_some, ↓reduceIte, reduceCtorEq, Nat.reduceEqDiff, Nat.reduceLT]; refine hK_ _ ?_; clear hK_ K_)))
            all_goals (refine endQ_ret _ _ rfl (ret1 (by decide)) ?_; simp only [upd_apply, ↓reduceIte, reduceCtorEq, Nat.reduceEqDiff]; refine WV_flat rfl (by omega) ?_)
            all_goals exact ⟨rfl, rfl⟩
          · (repeat' (first
  | (with_reducible first | refine WC_seq ?_ | refine WC_skip ?_ | refine WC_label ?_ | refine WC_scope ?_ | refine WC_block ?_ | refine WC_ret ?_ | refine WC_exit ?_ | refine seqQ_norm ?_ | refine seqQ_ret ?_ | refine seqQ_exit ?_ | refine blkQ_norm ?_ | refine blkQ_ret ?_ | refine blkQ_here ?_ | refine gateK_yes ?_ | refine gateK_none ?_ | refine condK_tt ?_ | refine condK_ff ?_ | refine roundQ_exit ?_ | refine roundQ_ret ?_)
  | refine WC_region ?_ | refine blkQ_out rfl ?_ | refine WO_nil ?_ | refine WD_nil ?_
  | ((first | refine WD_gate rfl rfl rfl rfl rfl fun K_ hK_ => ?_ | refine WO_gate rfl rfl rfl rfl rfl fun K_ hK_ => ?_); simp only [upd_apply, asB_bool, asB_tup, ↓reduceIte, reduceCtorEq, Nat.reduceEqDiff, Bool.not_true, Bool.not_false]; refine hK_ _ ?_; clear hK_ K_)
  | refine gateK_no (by decide) ?_
  | ((try first | refine WO_op rfl rfl rfl ?_ | refine WO_op0 rfl rfl ?_ | refine WD_op rfl rfl rfl ?_ | refine WD_op0 rfl rfl ?_); (refine WV_gen fun Q_ hQ_ => ?_; simp (disch := first | omega | (simp only [List.length_cons, List.length_nil, List.length_append]; omega)) only [bb, bp, argF, ↓reduceIte, reduceCtorEq, Nat.reduceEqDiff, Nat.reduceLT, Nat.reduceLeDiff, Nat.reduceAdd, Nat.reduceMul, Nat.reduceSub, Nat.reduceBEq, Int.reduceToNat, cond_true, cond_false, eq_self, beq_self_eq_true, g2, g5, g6, g8, g9, g10, hao, hyo, hyc, hlen, hyS, hyS0, hwk, eq39s.1, eq39s.2, newPtr_X wf, newSlice_X wf, load1_X wf, loadAgg_X wf, store1_X wf, writeCells_X wf, makeFunc_def, tEvQ3, bsl_22]; first | (refine dec_split (Q := Q_) (fun hp_ => ?_) (fun hp_ => ?_) <;> first | (exfalso; omega) | (refine hQ_ _ _ ?_; clear hQ_ Q_)) | (refine dec_splitn (Q := Q_) (fun hp_ => ?_) (fun hp_ => ?_) <;> first | (exfalso; omega) | (refine hQ_ _ _ ?_; clear hQ_ Q_)) | (refine hQ_ _ _ ?_; clear hQ_ Q_)))
  | (refine WC_cond fun K_ hK_ => ?_; simp (disch := omega) only [evT_tmp, upd_apply, WB_some, ↓reduceIte, reduceCtorEq, Nat.reduceEqDiff, Nat.reduceLT]; refine hK_ _ ?_; clear hK_ K_)))
            refine WC_drawnB [.no, .no, .no, .no, .no, .no, .no, .full, .full, .full] (by kernel_rfl) ?_
            (repeat' (first
  | (with_reducible first | refine WC_seq ?_ | refine WC_skip ?_ | refine WC_label ?_ | refine WC_scope ?_ | refine WC_block ?_ | refine WC_ret ?_ | refine WC_exit ?_ | refine seqQ_norm ?_ | refine seqQ_ret ?_ | refine seqQ_exit ?_ | refine blkQ_norm ?_ | refine blkQ_ret ?_ | refine blkQ_here ?_ | refine gateK_yes ?_ | refine gateK_none ?_ | refine condK_tt ?_ | refine condK_ff ?_ | refine roundQ_exit ?_ | refine roundQ_ret ?_)
  | refine WC_region ?_ | refine blkQ_out rfl ?_ | refine WO_nil ?_ | refine WD_nil ?_
  | ((first | refine WD_gate rfl rfl rfl rfl rfl fun K_ hK_ => ?_ | refine WO_gate rfl rfl rfl rfl rfl fun K_ hK_ => ?_); simp only [upd_apply, asB_bool, asB_tup, ↓reduceIte, reduceCtorEq, Nat.reduceEqDiff, Bool.not_true, Bool.not_false]; refine hK_ _ ?_; clear hK_ K_)
  | refine gateK_no (by decide) ?_
  | ((try first | refine WO_op rfl rfl rfl ?_ | refine WO_op0 rfl rfl ?_ | refine WD_op rfl rfl rfl ?_ | refine WD_op0 rfl rfl ?_); (refine WV_gen fun Q_ hQ_ => ?_; simp (disch := first | omega | (simp only [List.length_cons, List.length_nil, List.length_append]; omega)) only [bb, bp, argF, ↓reduceIte, reduceCtorEq, Nat.reduceEqDiff, Nat.reduceLT, Nat.reduceLeDiff, Nat.reduceAdd, Nat.reduceMul, Nat.reduceSub, Nat.reduceBEq, Int.reduceToNat, cond_true, cond_false, eq_self, beq_self_eq_true, g2, g5, g6, g8, g9, g10, hao, hyo, hyc, hlen, hyS, hyS0, hwk, eq39s.1, eq39s.2, hm1, hm2, newPtr_X wf, newSlice_X wf, load1_X wf, loadAgg_X wf, store1_X wf, writeCells_X wf, makeFunc_def, tEvQ3, bsl_22]; first | (refine dec_split (Q := Q_) (fun hp_ => ?_) (fun hp_ => ?_) <;> first | (exfalso; omega) | (refine hQ_ _ _ ?_; clear hQ_ Q_)) | (refine dec_splitn (Q := Q_) (fun hp_ => ?_) (fun hp_ => ?_) <;> first | (exfalso; omega) | (refine hQ_ _ _ ?_; clear hQ_ Q_)) | (refine hQ_ _ _ ?_; clear hQ_ Q_)))
  | (refine WC_cond fun K_ hK_ => ?_; simp (disch := omega) only [evT_tmp, upd_apply, WB_some, ↓reduceIte, reduceCtorEq, Nat.reduceEqDiff, Nat.reduceLT]; refine hK_ _ ?_; clear hK_ K_)))
            all_goals (refine endQ_ret _ _ rfl (ret1 (by decide)) ?_; simp only [upd_apply, ↓reduceIte, reduceCtorEq, Nat.reduceEqDiff]; refine WV_flat rfl (by omega) ?_)
            all_goals exact ⟨rfl, rfl⟩
        · have hg : gOf what ≠ 53 := by
            unfold gOf
            rw [if_neg hw0]
            split <;> decide
          have r0 := rNa hg
          have r1 := rNb hg
          clear r53a r53b rNa rNb lg
          unfold uOf vOf cOf at *
          rw [if_neg hg, if_neg hg] at r0 r1
          rw [if_neg hg] at twa twb
          obtain ⟨q1, q2⟩ := same_of nyl nl (by rw [r0]; grind)
          obtain ⟨q3, q4⟩ := same_of nyh nh (by rw [r1]; grind)
          rw [q1, q2, q3, q4] at hyS
          simp only [q1, q2, q3, q4] at hyS0
          clear q1 q2 q3 q4
          have hxs : 2 * sp ≤ 1000 → ∃ xlN xlD xhN xhD : Int, (∀ l w, w ≤ h.clock + l.length → (om Try.prog KK).call (.fn 18 [.agg [ii (2 * sp), ii st, a], ii what]) (X h l w) = .ok (.tup [.agg [ii xlN, ii xlD, ii xhN, ii xhD], ii 0]) (X h l w)) ∧ (xlN = lN ∧ xlD = lD) ∧ xhN = hN ∧ xhD = hD := fun h2 => by
            have he2 := hull_twice he h2
            have k2 := hok_twice k h2
            have t0 := twa h2
            have t1 := twb h2
            obtain ⟨-, nxl⟩ := rat_bnd k2 (theEnd_ok k2 false).1
            obtain ⟨-, nxh⟩ := rat_bnd k2 (theEnd_ok k2 true).1
            have hxT := hxS h2
            unfold spanOut lowG at hxT
            rw [if_neg (not_not_intro he2), if_neg (not_not_intro hwh)] at hxT
            generalize ratN (gOf what) (2 * sp) st rows (m0 rows) (theEnd (gOf what) (2 * sp) st rows (m0 rows) false) = xlN at *
            generalize ratD (gOf what) (2 * sp) st rows (m0 rows) (theEnd (gOf what) (2 * sp) st rows (m0 rows) false) = xlD at *
            generalize ratN (gOf what) (2 * sp) st rows (m0 rows) (theEnd (gOf what) (2 * sp) st rows (m0 rows) true) = xhN at *
            generalize ratD (gOf what) (2 * sp) st rows (m0 rows) (theEnd (gOf what) (2 * sp) st rows (m0 rows) true) = xhD at *
            refine ⟨xlN, xlD, xhN, xhD, hxT, ?_⟩
            exact ⟨same_of nxl nl (by rw [t0]; grind), same_of nxh nh (by rw [t1]; grind)⟩
          by_cases h2 : 2 * sp ≤ 1000
          · obtain ⟨xlN, xlD, xhN, xhD, hxT, ⟨q1, q2⟩, q3, q4⟩ := hxs h2
            rw [q1, q2, q3, q4] at hxT
            clear q1 q2 q3 q4
            (repeat' (first
  | (with_reducible first | refine WC_seq ?_ | refine WC_skip ?_ | refine WC_label ?_ | refine WC_scope ?_ | refine WC_block ?_ | refine WC_ret ?_ | refine WC_exit ?_ | refine seqQ_norm ?_ | refine seqQ_ret ?_ | refine seqQ_exit ?_ | refine blkQ_norm ?_ | refine blkQ_ret ?_ | refine blkQ_here ?_ | refine gateK_yes ?_ | refine gateK_none ?_ | refine condK_tt ?_ | refine condK_ff ?_ | refine roundQ_exit ?_ | refine roundQ_ret ?_)
  | refine WC_region ?_ | refine blkQ_out rfl ?_ | refine WO_nil ?_ | refine WD_nil ?_
  | ((first | refine WD_gate rfl rfl rfl rfl rfl fun K_ hK_ => ?_ | refine WO_gate rfl rfl rfl rfl rfl fun K_ hK_ => ?_); simp only [upd_apply, asB_bool, asB_tup, ↓reduceIte, reduceCtorEq, Nat.reduceEqDiff, Bool.not_true, Bool.not_false]; refine hK_ _ ?_; clear hK_ K_)
  | refine gateK_no (by decide) ?_
  | ((try first | refine WO_op rfl rfl rfl ?_ | refine WO_op0 rfl rfl ?_ | refine WD_op rfl rfl rfl ?_ | refine WD_op0 rfl rfl ?_); (refine WV_gen fun Q_ hQ_ => ?_; simp (disch := first | omega | (simp only [List.length_cons, List.length_nil, List.length_append]; omega)) only [bb, bp, argF, ↓reduceIte, reduceCtorEq, Nat.reduceEqDiff, Nat.reduceLT, Nat.reduceLeDiff, Nat.reduceAdd, Nat.reduceMul, Nat.reduceSub, Nat.reduceBEq, Int.reduceToNat, cond_true, cond_false, eq_self, beq_self_eq_true, g2, g5, g6, g8, g9, g10, hao, hyo, hyc, hlen, hyS, hyS0, hwk, eq39s.1, eq39s.2, hxT, newPtr_X wf, newSlice_X wf, load1_X wf, loadAgg_X wf, store1_X wf, writeCells_X wf, makeFunc_def, tEvQ3, bsl_22]; first | (refine dec_split (Q := Q_) (fun hp_ => ?_) (fun hp_ => ?_) <;> first | (exfalso; omega) | (refine hQ_ _ _ ?_; clear hQ_ Q_)) | (refine dec_splitn (Q := Q_) (fun hp_ => ?_) (fun hp_ => ?_) <;> first | (exfalso; omega) | (refine hQ_ _ _ ?_; clear hQ_ Q_)) | (refine hQ_ _ _ ?_; clear hQ_ Q_)))
  | (refine WC_cond fun K_ hK_ => ?_; simp (disch := omega) only [evT_tmp, upd_apply, WB_some, ↓reduceIte, reduceCtorEq, Nat.reduceEqDiff, Nat.reduceLT]; refine hK_ _ ?_; clear hK_ K_)))
            all_goals (refine endQ_ret _ _ rfl (ret1 (by decide)) ?_; simp only [upd_apply, ↓reduceIte, reduceCtorEq, Nat.reduceEqDiff]; refine WV_flat rfl (by omega) ?_)
            all_goals exact ⟨rfl, rfl⟩
          · (repeat' (first
  | (with_reducible first | refine WC_seq ?_ | refine WC_skip ?_ | refine WC_label ?_ | refine WC_scope ?_ | refine WC_block ?_ | refine WC_ret ?_ | refine WC_exit ?_ | refine seqQ_norm ?_ | refine seqQ_ret ?_ | refine seqQ_exit ?_ | refine blkQ_norm ?_ | refine blkQ_ret ?_ | refine blkQ_here ?_ | refine gateK_yes ?_ | refine gateK_none ?_ | refine condK_tt ?_ | refine condK_ff ?_ | refine roundQ_exit ?_ | refine roundQ_ret ?_)
  | refine WC_region ?_ | refine blkQ_out rfl ?_ | refine WO_nil ?_ | refine WD_nil ?_
  | ((first | refine WD_gate rfl rfl rfl rfl rfl fun K_ hK_ => ?_ | refine WO_gate rfl rfl rfl rfl rfl fun K_ hK_ => ?_); simp only [upd_apply, asB_bool, asB_tup, ↓reduceIte, reduceCtorEq, Nat.reduceEqDiff, Bool.not_true, Bool.not_false]; refine hK_ _ ?_; clear hK_ K_)
  | refine gateK_no (by decide) ?_
  | ((try first | refine WO_op rfl rfl rfl ?_ | refine WO_op0 rfl rfl ?_ | refine WD_op rfl rfl rfl ?_ | refine WD_op0 rfl rfl ?_); (refine WV_gen fun Q_ hQ_ => ?_; simp (disch := first | omega | (simp only [List.length_cons, List.length_nil, List.length_append]; omega)) only [bb, bp, argF, ↓reduceIte, reduceCtorEq, Nat.reduceEqDiff, Nat.reduceLT, Nat.reduceLeDiff, Nat.reduceAdd, Nat.reduceMul, Nat.reduceSub, Nat.reduceBEq, Int.reduceToNat, cond_true, cond_false, eq_self, beq_self_eq_true, g2, g5, g6, g8, g9, g10, hao, hyo, hyc, hlen, hyS, hyS0, hwk, eq39s.1, eq39s.2, newPtr_X wf, newSlice_X wf, load1_X wf, loadAgg_X wf, store1_X wf, writeCells_X wf, makeFunc_def, tEvQ3, bsl_22]; first | (refine dec_split (Q := Q_) (fun hp_ => ?_) (fun hp_ => ?_) <;> first | (exfalso; omega) | (refine hQ_ _ _ ?_; clear hQ_ Q_)) | (refine dec_splitn (Q := Q_) (fun hp_ => ?_) (fun hp_ => ?_) <;> first | (exfalso; omega) | (refine hQ_ _ _ ?_; clear hQ_ Q_)) | (refine hQ_ _ _ ?_; clear hQ_ Q_)))
  | (refine WC_cond fun K_ hK_ => ?_; simp (disch := omega) only [evT_tmp, upd_apply, WB_some, ↓reduceIte, reduceCtorEq, Nat.reduceEqDiff, Nat.reduceLT]; refine hK_ _ ?_; clear hK_ K_)))
            all_goals (refine endQ_ret _ _ rfl (ret1 (by decide)) ?_; simp only [upd_apply, ↓reduceIte, reduceCtorEq, Nat.reduceEqDiff]; refine WV_flat rfl (by omega) ?_)
            all_goals exact ⟨rfl, rfl⟩
    · skip
      refine ⟨Nat.zero_le _, by simp only [upd_apply, ↓reduceIte, reduceCtorEq, Nat.reduceEqDiff], by simp only [upd_apply, ↓reduceIte, reduceCtorEq, Nat.reduceEqDiff], by simp only [upd_apply, ↓reduceIte, reduceCtorEq, Nat.reduceEqDiff], by simp only [upd_apply, ↓reduceIte, reduceCtorEq, Nat.reduceEqDiff], by simp only [upd_apply, ↓reduceIte, reduceCtorEq, Nat.reduceEqDiff], by simp only [upd_apply, ↓reduceIte, reduceCtorEq, Nat.reduceEqDiff]; simp, rfl, [], .nils, rfl, ?_⟩
      exact Grow.nil h _ [] 1 52
end Go.Proofs.Ytghondkiondeaac
end

/- EvL18 -/
section
/-
  BYTES THAT COME IN.
-/
namespace Go.Ev
open Go.ChangeShapes Go.WideShapes Go.ChangeAt Go.RowKit
section
variable {H : Type} {enc : TypeId × Value → H} {P : Program} {r : Reach} {bs : Nat}
end
end Go.Ev
end

/- EvP3 -/
section
/- The statement BoxScaled of layer 2: with twice the Space what is along doubles and the others stay, and with stations in the other order what is along is as far from the other end and the others stay, for all hulls and kinds; no condition. -/
namespace Go.Proofs.Ytghondkiondeaac.boxScaled
open Go.ChangeShapes Go.WideShapes Go.ChangeAt Go.RowKit Go.Ev
set_option maxRecDepth 100000
set_option maxHeartbeats 0
theorem okWideU8 {W : World} {t : TypeId} {v : Value} {r : Reach} {bs : Nat} (hu : Try.prog.underlying t = some (.int .u8)) (h : Cell.okWide Try.prog W r bs t v) : ∃ n, v = .int .u8 n ∧ 0 ≤ n ∧ n ≤ 255 := by
  unfold Cell.okWide at h
  rw [hu] at h
  have h' : Cell.ok Try.prog W r bs t v := by cases v <;> exact h
  unfold Cell.ok at h'
  rw [hu] at h'
  cases v with
  | int k' n =>
    obtain ⟨rfl, h1, h2⟩ := h'
    exact ⟨n, rfl, h1, h2⟩
  | _ => exact h'.elim

theorem contract (H : Type) (enc : TypeId × Value → H) (W : World) (base : Nat) (args : Array Value) (ds gs : List (DataW H)) (before : List MemPlace) (hval : ∀ (j : Nat) t v, Try.f7.params[j]? = some t → args[j]? = some v → Value.okWide Try.prog W .any base t v)
    (hW : DataW.Whole enc Try.prog Try.f7.params.toList Rows.boxScaledSpec.vars false W args.toList ds gs before) :
    Calls Try.prog 7 args W fun e W' => ∃ v, e = .returned v ∧ Rows.boxScaledSpec.post enc Try.prog Try.f7 false true false false W args v W' := by
  have hW' := hW
  obtain ⟨p, q, hA0, hV, rfl, hfz, hnd⟩ := hW
  have hA : DataW.TrodAll enc Try.prog W 0 (fun _ => true) true Try.f7.params.toList args.toList ds p := hA0
  rw [Try.params7] at hA hval
  obtain ⟨v0, v1, d0, d1, p0, p1, rfl, rfl, rfl, ⟨n0, h0⟩, ⟨n1, h1⟩⟩ := trodAll_two hA
  obtain ⟨sp, st, a, rvs, rows, va, xh⟩ := hull_in (hval 0 24 v0 rfl rfl) h0
  obtain ⟨what, hz, hw0⟩ := okWideU8 Try.underlying5 (okWide_cell (P := Try.prog) Try.underlying5 (fun _ e => by cases e) (fun _ _ e => by cases e) (hval 1 5 v1 rfl rfl))
  subst hz
  have walk := lawScaled sp st what hw0 a rvs rows (startW W) xh
  have hargs : VL (startWR W) [.agg [ii sp, ii st, a], .int .u8 what] (#[v0, .int .u8 what] : Array Value).toList :=
    .cons _ _ _ _ va (.cons _ _ _ _ (.int _ _) .nil)
  refine (startW_true (P := Try.prog) mixed (K := KK) (fun c hc => by
    have : c = cW := List.mem_singleton.1 hc
    rw [this]; exact cW_ok) walk hargs).mono fun e W' ⟨he, hgr, hs⟩ => ?_
  subst he
  refine ⟨_, rfl, law_post laidOut (by
    rw [Try.params7]
    intro t ht
    rcases List.mem_cons.1 ht with rfl | ht
    · exact ⟨by kernel_rfl, of_decide_eq_true (by kernel_rfl)⟩
    rcases List.mem_cons.1 ht with rfl | ht
    · exact ⟨by kernel_rfl, of_decide_eq_true (by kernel_rfl)⟩
    cases ht) rfl (by kernel_rfl) Try.underlying4 (fun gs' ⟨q', hq⟩ => ?_) hW' hgr hs⟩
  obtain ⟨rfl, _⟩ := trodVars_none hq
  exact ⟨rfl, rfl, rfl⟩

theorem lifted (os : Os) (started : os.Started) (H : Type) (enc : TypeId × Value → H) :
    ReturnsInHanded {} Try.checked os 7 .any (Rows.boxScaledSpec.pre6 enc Try.prog Try.f7 Rows.boxScaledRow.domain false) (Rows.boxScaledSpec.post enc Try.prog Try.f7 false true false false) := by
  refine returnsInHanded_of_change (C := Try.checked) own started (by kernel_rfl) Try.func7
    (ChangeSpec.witness6 (enc := enc) (C := Try.checked) false ⟨#[], #[.agg #[.int .i64 0, .int .i64 0, .slice none 0 0], .int .u8 0], []⟩ 8 (by kernel_rfl) (by kernel_rfl) (by kernel_rfl) (by kernel_rfl)) ?_
  intro W base args ds gs before hval hW _ _
  exact contract H enc W base args ds gs before hval hW

theorem holds : Rows.BoxScaledSaid :=
  OpenClaim.holds_of_wide 7 Try.f7 rfl rfl rfl rfl rfl rfl rfl ⟨rfl, rfl, rfl, rfl, rfl⟩ rfl rfl rfl rfl rfl (by kernel_rfl) Try.func7 (by kernel_rfl)
    (of_decide_eq_true (by kernel_rfl)) (by unfold Func.isWrapper; first | (rw [if_pos (by decide +kernel)]; kernel_rfl) | (rw [if_neg (by decide +kernel)]; exact ⟨rfl, rfl⟩))
    (fun os started H enc _ => lifted os started H enc)
end Go.Proofs.Ytghondkiondeaac.boxScaled
end
