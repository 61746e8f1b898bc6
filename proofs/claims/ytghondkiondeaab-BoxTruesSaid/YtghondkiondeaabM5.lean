import Derived.Test.YtghondkiondeaabM4
/- EvH6 -/
section
/-
  LAYER 2: shares, and the number that is asked.
-/
namespace Go.Proofs.Ytghondkiondeaab
open Go.Ev
set_option maxRecDepth 100000
set_option linter.unusedSimpArgs false
set_option linter.unusedVariables false
set_option maxHeartbeats 2000000

theorem linesAt {h : H} {a : AV} {rvs : List AV} {rows : List (List (Int × Int))} {m : Nat} (x : HullAt h a rvs rows m) (hn : 0 < rows.length) (sp st : Int) (J : List AO) (w : Nat) (hw : w ≤ h.clock + J.length) :
    (om Try.prog KK).call (.fn 53 [.agg [ii sp, ii st, a]]) (X h J w) = .ok (ii (m : Int)) (X h J w) := by
  have hk : ([.cells (mkCells [ii sp, ii st, a]) 52] : List AO)[0]? = some (.cells (mkCells [ii sp, ii st, a]) 52) := rfl
  obtain ⟨v, hv, hsv, hrl⟩ := x.row 0 hn
  obtain ⟨id, off, hix, hld⟩ := (x.sl.up x.wf J w).at1 (x.wf.X hw) (i := 0) hn ik_22
  rw [hv] at hld
  have hix' : indexAddrE Try.prog 22 a (.int .i64 0) = some (.ptr id off) := hix
  have hlenv : ∀ h', lenE Try.prog 46 v h' = some (ii (m : Int)) := fun h' => hsv.len un_46
  obtain ⟨hl, hsl⟩ : oneB a = true ∧ AV.cells a = [a] := by
    obtain ⟨_, ⟨rfl, _⟩ | ⟨_, _, _, _, _, _, rfl, _⟩⟩ := x.sl <;> exact ⟨rfl, rfl⟩
  have wf := x.wf.X hw
  generalize X h J w = hb at *
  refine WV_to (WV_call (fn := Try.f53) Try.func53 rfl rfl rfl rfl rfl ?_)
  simp only [argF]
  (repeat' (first
  | (with_reducible refine WC_seq ?_) | (refine WC_region ?_) | (with_reducible refine WC_skip ?_) | (with_reducible refine WC_label ?_) | (with_reducible refine WC_scope ?_) | (with_reducible refine WC_block ?_) | (with_reducible refine WC_ret ?_) | (with_reducible refine WC_exit ?_)
  | (with_reducible refine seqQ_norm ?_) | (with_reducible refine seqQ_ret ?_) | (with_reducible refine seqQ_exit ?_) | (with_reducible refine blkQ_norm ?_) | (with_reducible refine blkQ_ret ?_) | (with_reducible refine blkQ_here ?_) | (refine blkQ_out rfl ?_)
  | (refine WO_nil ?_)
  | (refine WD_nil ?_)
  | (refine WD_gate rfl rfl rfl rfl rfl fun K_ hK_ => ?_; simp only [upd_apply, asB_bool, asB_tup, ↓reduceIte, reduceCtorEq, Nat.reduceEqDiff, Bool.not_true, Bool.not_false]; refine hK_ _ ?_; clear hK_ K_)
  | (refine WO_gate rfl rfl rfl rfl rfl fun K_ hK_ => ?_; simp only [upd_apply, asB_bool, asB_tup, ↓reduceIte, reduceCtorEq, Nat.reduceEqDiff, Bool.not_true, Bool.not_false]; refine hK_ _ ?_; clear hK_ K_)
  | (with_reducible refine gateK_yes ?_) | (refine gateK_no (by decide) ?_) | (with_reducible refine gateK_none ?_)
  | ((try first | refine WO_op rfl rfl rfl ?_ | refine WO_op0 rfl rfl ?_ | refine WD_op rfl rfl rfl ?_ | refine WD_op0 rfl rfl ?_); (refine WV_gen fun Q_ hQ_ => ?_; simp (disch := first | omega | (simp only [List.length_cons, List.length_nil, List.length_append]; omega)) only [bb, argF, ↓reduceIte, reduceCtorEq, Nat.reduceEqDiff, Nat.reduceLT, Nat.reduceLeDiff, Nat.reduceAdd, Nat.reduceMul, Nat.reduceSub, Nat.reduceBEq, Int.reduceToNat, List.append_assoc, List.length_append, cond_true, cond_false, List.length_cons, List.length_nil, List.cons_append, List.nil_append, List.append_nil, List.getElem?_cons_zero, List.getElem?_cons_succ, List.set_cons_zero, List.set_cons_succ, List.drop_zero, List.drop_succ_cons, List.take_zero, List.take_succ_cons, List.take_nil, List.drop_nil, eq_self, List.toList_toArray, beq_self_eq_true, hix', hld, hlenv, ia_22, sz_22, ia_46, sz_46, newPtr_X wf, load1_X wf, loadAgg_X wf, store1_X wf, writeCells_X wf, makeFunc_def, bs_91, bs_29, ia_29, sz_29, ze_29, ia_91, sz_91, ze_91, ia_62, sz_62, ia_2, sz_2, ze_2, ia_3, sz_3, ia_75, sz_75, ze_75, fo_75_1, fo_75_2, fo_75_3, fo_91_0, fo_91_1, fo_52_0, fo_24_0, fo_24_1, fo_24_2, ia_52, sz_52, ik_56, ik_54, indexAddrE_def (P := Try.prog) (t := 56), indexAddrE_def (P := Try.prog) (t := 54), pb_33, pb_45, pb_24, pb_53, pb_48]; first | (refine dec_split (Q := Q_) (fun hp_ => ?_) (fun hp_ => ?_) <;> first | (exfalso; omega) | (refine hQ_ _ _ ?_; clear hQ_ Q_)) | (refine dec_splitn (Q := Q_) (fun hp_ => ?_) (fun hp_ => ?_) <;> first | (exfalso; omega) | (refine hQ_ _ _ ?_; clear hQ_ Q_)) | (refine hQ_ _ _ ?_; clear hQ_ Q_)))
  | (refine WC_cond fun K_ hK_ => ?_; simp (disch := omega) only [evT_tmp, upd_apply, WB_some, ↓reduceIte, reduceCtorEq, Nat.reduceEqDiff, Nat.reduceLT]; refine hK_ _ ?_; clear hK_ K_)
  | (with_reducible refine condK_tt ?_) | (with_reducible refine condK_ff ?_) | (with_reducible refine roundQ_exit ?_) | (with_reducible refine roundQ_ret ?_)))
  (refine endQ_ret _ _ rfl (ret1 (by decide)) ?_; simp only [upd_apply, ↓reduceIte, reduceCtorEq, Nat.reduceEqDiff]; refine WV_flat rfl (by omega) ?_)
  exact ⟨rfl, rfl⟩

/-- What a share is. -/
def numOf (g : Nat) (sp st : Int) (m i k : Nat) (w y : Int) : Int :=
  if g = 47 then sp * i * w * y else if g = 48 then st * k * w * y else if k + 1 = m then 3 * st * (st * k * w * y) + 2 * w * y * y * y else 3 * st * (st * k * w * y)
def denOf (g : Nat) (st : Int) (w y : Int) : Int := if g = 49 then 3 * st * (w * y) else w * y

theorem along (sp st : Int) (hsp : 1 ≤ sp ∧ sp ≤ 1000) (a lo hi : AV) (i k m : Nat) (hi9 : i < 10) (w y : Int) (hw : 0 ≤ w ∧ w ≤ 4) (hy : 0 ≤ y ∧ y ≤ 500) (h : H) (wf : Wf h) :
    (om Try.prog KK).call (.fn 47 [.agg [ii sp, ii st, a], .agg [lo, hi, ii (i : Int), ii (k : Int), ii w], ii y]) h = .ok (.agg [ii (numOf 47 sp st m i k w y), ii (denOf 47 st w y)]) h := by
  refine WV_to (WV_call (fn := Try.f47) Try.func47 rfl rfl rfl rfl rfl ?_)
  simp only [argF]
  have h1 := mul_bd (a := sp) (b := (i : Int)) (x := 1000) (y := 9) ⟨by omega, by omega⟩ ⟨by omega, by omega⟩
  have h2 := mul_bd h1 hw
  have h3 := mul_bd h2 hy
  have h4 := mul_bd hw hy
  (repeat' (first
  | (with_reducible refine WC_seq ?_) | (refine WC_region ?_) | (with_reducible refine WC_skip ?_) | (with_reducible refine WC_label ?_) | (with_reducible refine WC_scope ?_) | (with_reducible refine WC_block ?_) | (with_reducible refine WC_ret ?_) | (with_reducible refine WC_exit ?_)
  | (with_reducible refine seqQ_norm ?_) | (with_reducible refine seqQ_ret ?_) | (with_reducible refine seqQ_exit ?_) | (with_reducible refine blkQ_norm ?_) | (with_reducible refine blkQ_ret ?_) | (with_reducible refine blkQ_here ?_) | (refine blkQ_out rfl ?_)
  | (refine WO_nil ?_)
  | (refine WD_nil ?_)
  | (refine WD_gate rfl rfl rfl rfl rfl fun K_ hK_ => ?_; simp only [upd_apply, asB_bool, asB_tup, ↓reduceIte, reduceCtorEq, Nat.reduceEqDiff, Bool.not_true, Bool.not_false]; refine hK_ _ ?_; clear hK_ K_)
  | (refine WO_gate rfl rfl rfl rfl rfl fun K_ hK_ => ?_; simp only [upd_apply, asB_bool, asB_tup, ↓reduceIte, reduceCtorEq, Nat.reduceEqDiff, Bool.not_true, Bool.not_false]; refine hK_ _ ?_; clear hK_ K_)
  | (with_reducible refine gateK_yes ?_) | (refine gateK_no (by decide) ?_) | (with_reducible refine gateK_none ?_)
  | ((try first | refine WO_op rfl rfl rfl ?_ | refine WO_op0 rfl rfl ?_ | refine WD_op rfl rfl rfl ?_ | refine WD_op0 rfl rfl ?_); (refine WV_gen fun Q_ hQ_ => ?_; simp (disch := first | omega | (simp only [List.length_cons, List.length_nil, List.length_append]; omega)) only [bb, argF, ↓reduceIte, reduceCtorEq, Nat.reduceEqDiff, Nat.reduceLT, Nat.reduceLeDiff, Nat.reduceAdd, Nat.reduceMul, Nat.reduceSub, Nat.reduceBEq, Int.reduceToNat, List.append_assoc, List.length_append, cond_true, cond_false, List.length_cons, List.length_nil, List.cons_append, List.nil_append, List.append_nil, List.getElem?_cons_zero, List.getElem?_cons_succ, List.set_cons_zero, List.set_cons_succ, List.drop_zero, List.drop_succ_cons, List.take_zero, List.take_succ_cons, List.take_nil, List.drop_nil, eq_self, List.toList_toArray, beq_self_eq_true, newPtr_X wf, load1_X wf, loadAgg_X wf, store1_X wf, writeCells_X wf, makeFunc_def, bs_91, bs_29, ia_29, sz_29, ze_29, ia_91, sz_91, ze_91, ia_62, sz_62, ia_2, sz_2, ze_2, ia_3, sz_3, ia_75, sz_75, ze_75, fo_75_1, fo_75_2, fo_75_3, fo_91_0, fo_91_1, fo_52_0, fo_24_0, fo_24_1, fo_24_2, ia_52, sz_52, ik_56, ik_54, indexAddrE_def (P := Try.prog) (t := 56), indexAddrE_def (P := Try.prog) (t := 54), pb_33, pb_45, pb_24, pb_53, pb_48]; first | (refine dec_split (Q := Q_) (fun hp_ => ?_) (fun hp_ => ?_) <;> first | (exfalso; omega) | (refine hQ_ _ _ ?_; clear hQ_ Q_)) | (refine dec_splitn (Q := Q_) (fun hp_ => ?_) (fun hp_ => ?_) <;> first | (exfalso; omega) | (refine hQ_ _ _ ?_; clear hQ_ Q_)) | (refine hQ_ _ _ ?_; clear hQ_ Q_)))
  | (refine WC_cond fun K_ hK_ => ?_; simp (disch := omega) only [evT_tmp, upd_apply, WB_some, ↓reduceIte, reduceCtorEq, Nat.reduceEqDiff, Nat.reduceLT]; refine hK_ _ ?_; clear hK_ K_)
  | (with_reducible refine condK_tt ?_) | (with_reducible refine condK_ff ?_) | (with_reducible refine roundQ_exit ?_) | (with_reducible refine roundQ_ret ?_)))
  refine endQ_ret _ _ rfl (retc0 (by decide) (by simp (disch := first | omega | (simp only [List.length_cons, List.length_nil, List.length_append]; omega)) only [bb, argF, ↓reduceIte, reduceCtorEq, Nat.reduceEqDiff, Nat.reduceLT, Nat.reduceLeDiff, Nat.reduceAdd, Nat.reduceMul, Nat.reduceSub, Nat.reduceBEq, Int.reduceToNat, List.append_assoc, List.length_append, cond_true, cond_false, List.length_cons, List.length_nil, List.cons_append, List.nil_append, List.append_nil, List.getElem?_cons_zero, List.getElem?_cons_succ, List.set_cons_zero, List.set_cons_succ, List.drop_zero, List.drop_succ_cons, List.take_zero, List.take_succ_cons, List.take_nil, List.drop_nil, eq_self, List.toList_toArray, beq_self_eq_true, loadAgg_X wf, bs_91, bs_29, ia_29, sz_29, ze_29, ia_91, sz_91, ze_91, ia_62, sz_62, ia_2, sz_2, ze_2, ia_3, sz_3, ia_75, sz_75, ze_75, fo_75_1, fo_75_2, fo_75_3, fo_91_0, fo_91_1, fo_52_0, fo_24_0, fo_24_1, fo_24_2, ia_52, sz_52, ik_56, ik_54, indexAddrE_def (P := Try.prog) (t := 56), indexAddrE_def (P := Try.prog) (t := 54), pb_33, pb_45, pb_24, pb_53, pb_48]; rfl)) ?_
  refine WV_flat rfl (by omega) ?_
  exact ⟨rfl, rfl⟩
theorem above (sp st : Int) (hst : 1 ≤ st ∧ st ≤ 100) (a lo hi : AV) (i k m : Nat) (hk9 : k < 6) (w y : Int) (hw : 0 ≤ w ∧ w ≤ 4) (hy : 0 ≤ y ∧ y ≤ 500) (h : H) (wf : Wf h) :
    (om Try.prog KK).call (.fn 48 [.agg [ii sp, ii st, a], .agg [lo, hi, ii (i : Int), ii (k : Int), ii w], ii y]) h = .ok (.agg [ii (numOf 48 sp st m i k w y), ii (denOf 48 st w y)]) h := by
  refine WV_to (WV_call (fn := Try.f48) Try.func48 rfl rfl rfl rfl rfl ?_)
  simp only [argF]
  have h1 := mul_bd (a := st) (b := (k : Int)) (x := 100) (y := 5) ⟨by omega, by omega⟩ ⟨by omega, by omega⟩
  have h2 := mul_bd h1 hw
  have h3 := mul_bd h2 hy
  have h4 := mul_bd hw hy
  (repeat' (first
  | (with_reducible refine WC_seq ?_) | (refine WC_region ?_) | (with_reducible refine WC_skip ?_) | (with_reducible refine WC_label ?_) | (with_reducible refine WC_scope ?_) | (with_reducible refine WC_block ?_) | (with_reducible refine WC_ret ?_) | (with_reducible refine WC_exit ?_)
  | (with_reducible refine seqQ_norm ?_) | (with_reducible refine seqQ_ret ?_) | (with_reducible refine seqQ_exit ?_) | (with_reducible refine blkQ_norm ?_) | (with_reducible refine blkQ_ret ?_) | (with_reducible refine blkQ_here ?_) | (refine blkQ_out rfl ?_)
  | (refine WO_nil ?_)
  | (refine WD_nil ?_)
  | (refine WD_gate rfl rfl rfl rfl rfl fun K_ hK_ => ?_; simp only [upd_apply, asB_bool, asB_tup, ↓reduceIte, reduceCtorEq, Nat.reduceEqDiff, Bool.not_true, Bool.not_false]; refine hK_ _ ?_; clear hK_ K_)
  | (refine WO_gate rfl rfl rfl rfl rfl fun K_ hK_ => ?_; simp only [upd_apply, asB_bool, asB_tup, ↓reduceIte, reduceCtorEq, Nat.reduceEqDiff, Bool.not_true, Bool.not_false]; refine hK_ _ ?_; clear hK_ K_)
  | (with_reducible refine gateK_yes ?_) | (refine gateK_no (by decide) ?_) | (with_reducible refine gateK_none ?_)
  | ((try first | refine WO_op rfl rfl rfl ?_ | refine WO_op0 rfl rfl ?_ | refine WD_op rfl rfl rfl ?_ | refine WD_op0 rfl rfl ?_); (refine WV_gen fun Q_ hQ_ => ?_; simp (disch := first | omega | (simp only [List.length_cons, List.length_nil, List.length_append]; omega)) only [bb, argF, ↓reduceIte, reduceCtorEq, Nat.reduceEqDiff, Nat.reduceLT, Nat.reduceLeDiff, Nat.reduceAdd, Nat.reduceMul, Nat.reduceSub, Nat.reduceBEq, Int.reduceToNat, List.append_assoc, List.length_append, cond_true, cond_false, List.length_cons, List.length_nil, List.cons_append, List.nil_append, List.append_nil, List.getElem?_cons_zero, List.getElem?_cons_succ, List.set_cons_zero, List.set_cons_succ, List.drop_zero, List.drop_succ_cons, List.take_zero, List.take_succ_cons, List.take_nil, List.drop_nil, eq_self, List.toList_toArray, beq_self_eq_true, newPtr_X wf, load1_X wf, loadAgg_X wf, store1_X wf, writeCells_X wf, makeFunc_def, bs_91, bs_29, ia_29, sz_29, ze_29, ia_91, sz_91, ze_91, ia_62, sz_62, ia_2, sz_2, ze_2, ia_3, sz_3, ia_75, sz_75, ze_75, fo_75_1, fo_75_2, fo_75_3, fo_91_0, fo_91_1, fo_52_0, fo_24_0, fo_24_1, fo_24_2, ia_52, sz_52, ik_56, ik_54, indexAddrE_def (P := Try.prog) (t := 56), indexAddrE_def (P := Try.prog) (t := 54), pb_33, pb_45, pb_24, pb_53, pb_48]; first | (refine dec_split (Q := Q_) (fun hp_ => ?_) (fun hp_ => ?_) <;> first | (exfalso; omega) | (refine hQ_ _ _ ?_; clear hQ_ Q_)) | (refine dec_splitn (Q := Q_) (fun hp_ => ?_) (fun hp_ => ?_) <;> first | (exfalso; omega) | (refine hQ_ _ _ ?_; clear hQ_ Q_)) | (refine hQ_ _ _ ?_; clear hQ_ Q_)))
  | (refine WC_cond fun K_ hK_ => ?_; simp (disch := omega) only [evT_tmp, upd_apply, WB_some, ↓reduceIte, reduceCtorEq, Nat.reduceEqDiff, Nat.reduceLT]; refine hK_ _ ?_; clear hK_ K_)
  | (with_reducible refine condK_tt ?_) | (with_reducible refine condK_ff ?_) | (with_reducible refine roundQ_exit ?_) | (with_reducible refine roundQ_ret ?_)))
  refine endQ_ret _ _ rfl (retc0 (by decide) (by simp (disch := first | omega | (simp only [List.length_cons, List.length_nil, List.length_append]; omega)) only [bb, argF, ↓reduceIte, reduceCtorEq, Nat.reduceEqDiff, Nat.reduceLT, Nat.reduceLeDiff, Nat.reduceAdd, Nat.reduceMul, Nat.reduceSub, Nat.reduceBEq, Int.reduceToNat, List.append_assoc, List.length_append, cond_true, cond_false, List.length_cons, List.length_nil, List.cons_append, List.nil_append, List.append_nil, List.getElem?_cons_zero, List.getElem?_cons_succ, List.set_cons_zero, List.set_cons_succ, List.drop_zero, List.drop_succ_cons, List.take_zero, List.take_succ_cons, List.take_nil, List.drop_nil, eq_self, List.toList_toArray, beq_self_eq_true, loadAgg_X wf, bs_91, bs_29, ia_29, sz_29, ze_29, ia_91, sz_91, ze_91, ia_62, sz_62, ia_2, sz_2, ze_2, ia_3, sz_3, ia_75, sz_75, ze_75, fo_75_1, fo_75_2, fo_75_3, fo_91_0, fo_91_1, fo_52_0, fo_24_0, fo_24_1, fo_24_2, ia_52, sz_52, ik_56, ik_54, indexAddrE_def (P := Try.prog) (t := 56), indexAddrE_def (P := Try.prog) (t := 54), pb_33, pb_45, pb_24, pb_53, pb_48]; rfl)) ?_
  refine WV_flat rfl (by omega) ?_
  exact ⟨rfl, rfl⟩
theorem metaS (sp st : Int) (hst : 1 ≤ st ∧ st ≤ 100) (a lo hi : AV) (rvs : List AV) (rows : List (List (Int × Int))) (i k m : Nat) (hm : 2 ≤ m ∧ m ≤ 6) (hk9 : k < m) (w y : Int) (hw : 0 ≤ w ∧ w ≤ 4) (hy : 0 ≤ y ∧ y ≤ 500) (h : H)
    (x : HullAt h a rvs rows m) (hn : 0 < rows.length) (hlo : oneB lo = true) (hhi : oneB hi = true) (hlc : AV.cells lo = [lo]) (hhc : AV.cells hi = [hi]) :
    (om Try.prog KK).call (.fn 49 [.agg [ii sp, ii st, a], .agg [lo, hi, ii (i : Int), ii (k : Int), ii w], ii y]) h = .ok (.agg [ii (numOf 49 sp st m i k w y), ii (denOf 49 st w y)]) h := by
  have wf := x.wf
  refine WV_to (WV_call (fn := Try.f49) Try.func49 rfl rfl rfl rfl rfl ?_)
  simp only [argF]
  have h1 := mul_bd (a := st) (b := (k : Int)) (x := 100) (y := 5) ⟨by omega, by omega⟩ ⟨by omega, by omega⟩
  have h2 := mul_bd h1 hw
  have h3 := mul_bd h2 hy
  have h4 := mul_bd hw hy
  have h5 := mul_bd (a := 3 * st) (x := 300) ⟨by omega, by omega⟩ h3
  have h6 := mul_bd (a := 3 * st) (x := 300) ⟨by omega, by omega⟩ h4
  have h7 := mul_bd (a := 2 * w) (x := 8) ⟨by omega, by omega⟩ hy
  have h8 := mul_bd h7 hy
  have h9 := mul_bd h8 hy
  have hab : ∀ l w', w' ≤ h.clock + l.length → (om Try.prog KK).call (.fn 48 [.agg [ii sp, ii st, a], .agg [lo, hi, ii (i : Int), ii (k : Int), ii w], ii y]) (X h l w') = .ok (.agg [ii (st * k * w * y), ii (w * y)]) (X h l w') :=
    fun l w' hw' => above sp st hst a lo hi i k m (by omega) w y hw hy _ (wf.X hw')
  have hli := linesAt x hn sp st
  (repeat' (first
  | (with_reducible refine WC_seq ?_) | (refine WC_region ?_) | (with_reducible refine WC_skip ?_) | (with_reducible refine WC_label ?_) | (with_reducible refine WC_scope ?_) | (with_reducible refine WC_block ?_) | (with_reducible refine WC_ret ?_) | (with_reducible refine WC_exit ?_)
  | (with_reducible refine seqQ_norm ?_) | (with_reducible refine seqQ_ret ?_) | (with_reducible refine seqQ_exit ?_) | (with_reducible refine blkQ_norm ?_) | (with_reducible refine blkQ_ret ?_) | (with_reducible refine blkQ_here ?_) | (refine blkQ_out rfl ?_)
  | (refine WO_nil ?_)
  | (refine WD_nil ?_)
  | (refine WD_gate rfl rfl rfl rfl rfl fun K_ hK_ => ?_; simp only [upd_apply, asB_bool, asB_tup, ↓reduceIte, reduceCtorEq, Nat.reduceEqDiff, Bool.not_true, Bool.not_false]; refine hK_ _ ?_; clear hK_ K_)
  | (refine WO_gate rfl rfl rfl rfl rfl fun K_ hK_ => ?_; simp only [upd_apply, asB_bool, asB_tup, ↓reduceIte, reduceCtorEq, Nat.reduceEqDiff, Bool.not_true, Bool.not_false]; refine hK_ _ ?_; clear hK_ K_)
  | (with_reducible refine gateK_yes ?_) | (refine gateK_no (by decide) ?_) | (with_reducible refine gateK_none ?_)
  | ((try first | refine WO_op rfl rfl rfl ?_ | refine WO_op0 rfl rfl ?_ | refine WD_op rfl rfl rfl ?_ | refine WD_op0 rfl rfl ?_); (refine WV_gen fun Q_ hQ_ => ?_; simp (disch := first | omega | (simp only [List.length_cons, List.length_nil, List.length_append]; omega)) only [bb, argF, ↓reduceIte, reduceCtorEq, Nat.reduceEqDiff, Nat.reduceLT, Nat.reduceLeDiff, Nat.reduceAdd, Nat.reduceMul, Nat.reduceSub, Nat.reduceBEq, Int.reduceToNat, List.append_assoc, List.length_append, cond_true, cond_false, List.length_cons, List.length_nil, List.cons_append, List.nil_append, List.append_nil, List.getElem?_cons_zero, List.getElem?_cons_succ, List.set_cons_zero, List.set_cons_succ, List.drop_zero, List.drop_succ_cons, List.take_zero, List.take_succ_cons, List.take_nil, List.drop_nil, eq_self, List.toList_toArray, beq_self_eq_true, hab, newPtr_X wf, load1_X wf, loadAgg_X wf, store1_X wf, writeCells_X wf, makeFunc_def, bs_91, bs_29, ia_29, sz_29, ze_29, ia_91, sz_91, ze_91, ia_62, sz_62, ia_2, sz_2, ze_2, ia_3, sz_3, ia_75, sz_75, ze_75, fo_75_1, fo_75_2, fo_75_3, fo_91_0, fo_91_1, fo_52_0, fo_24_0, fo_24_1, fo_24_2, ia_52, sz_52, ik_56, ik_54, indexAddrE_def (P := Try.prog) (t := 56), indexAddrE_def (P := Try.prog) (t := 54), pb_33, pb_45, pb_24, pb_53, pb_48]; first | (refine dec_split (Q := Q_) (fun hp_ => ?_) (fun hp_ => ?_) <;> first | (exfalso; omega) | (refine hQ_ _ _ ?_; clear hQ_ Q_)) | (refine dec_splitn (Q := Q_) (fun hp_ => ?_) (fun hp_ => ?_) <;> first | (exfalso; omega) | (refine hQ_ _ _ ?_; clear hQ_ Q_)) | (refine hQ_ _ _ ?_; clear hQ_ Q_)))
  | (refine WC_cond fun K_ hK_ => ?_; simp (disch := omega) only [evT_tmp, upd_apply, WB_some, ↓reduceIte, reduceCtorEq, Nat.reduceEqDiff, Nat.reduceLT]; refine hK_ _ ?_; clear hK_ K_)
  | (with_reducible refine condK_tt ?_) | (with_reducible refine condK_ff ?_) | (with_reducible refine roundQ_exit ?_) | (with_reducible refine roundQ_ret ?_)))
  refine WC_drawnB [.no, .no, .no, .no, .no, .full] (by kernel_rfl) ?_
  (repeat' (first
  | (with_reducible refine WC_seq ?_) | (refine WC_region ?_) | (with_reducible refine WC_skip ?_) | (with_reducible refine WC_label ?_) | (with_reducible refine WC_scope ?_) | (with_reducible refine WC_block ?_) | (with_reducible refine WC_ret ?_) | (with_reducible refine WC_exit ?_)
  | (with_reducible refine seqQ_norm ?_) | (with_reducible refine seqQ_ret ?_) | (with_reducible refine seqQ_exit ?_) | (with_reducible refine blkQ_norm ?_) | (with_reducible refine blkQ_ret ?_) | (with_reducible refine blkQ_here ?_) | (refine blkQ_out rfl ?_)
  | (refine WO_nil ?_)
  | (refine WD_nil ?_)
  | (refine WD_gate rfl rfl rfl rfl rfl fun K_ hK_ => ?_; simp only [upd_apply, asB_bool, asB_tup, ↓reduceIte, reduceCtorEq, Nat.reduceEqDiff, Bool.not_true, Bool.not_false]; refine hK_ _ ?_; clear hK_ K_)
  | (refine WO_gate rfl rfl rfl rfl rfl fun K_ hK_ => ?_; simp only [upd_apply, asB_bool, asB_tup, ↓reduceIte, reduceCtorEq, Nat.reduceEqDiff, Bool.not_true, Bool.not_false]; refine hK_ _ ?_; clear hK_ K_)
  | (with_reducible refine gateK_yes ?_) | (refine gateK_no (by decide) ?_) | (with_reducible refine gateK_none ?_)
  | ((try first | refine WO_op rfl rfl rfl ?_ | refine WO_op0 rfl rfl ?_ | refine WD_op rfl rfl rfl ?_ | refine WD_op0 rfl rfl ?_); (refine WV_gen fun Q_ hQ_ => ?_; simp (disch := first | omega | (simp only [List.length_cons, List.length_nil, List.length_append]; omega)) only [bb, argF, ↓reduceIte, reduceCtorEq, Nat.reduceEqDiff, Nat.reduceLT, Nat.reduceLeDiff, Nat.reduceAdd, Nat.reduceMul, Nat.reduceSub, Nat.reduceBEq, Int.reduceToNat, List.append_assoc, List.length_append, cond_true, cond_false, List.length_cons, List.length_nil, List.cons_append, List.nil_append, List.append_nil, List.getElem?_cons_zero, List.getElem?_cons_succ, List.set_cons_zero, List.set_cons_succ, List.drop_zero, List.drop_succ_cons, List.take_zero, List.take_succ_cons, List.take_nil, List.drop_nil, eq_self, List.toList_toArray, beq_self_eq_true, hab, hli, newPtr_X wf, load1_X wf, loadAgg_X wf, store1_X wf, writeCells_X wf, makeFunc_def, bs_91, bs_29, ia_29, sz_29, ze_29, ia_91, sz_91, ze_91, ia_62, sz_62, ia_2, sz_2, ze_2, ia_3, sz_3, ia_75, sz_75, ze_75, fo_75_1, fo_75_2, fo_75_3, fo_91_0, fo_91_1, fo_52_0, fo_24_0, fo_24_1, fo_24_2, ia_52, sz_52, ik_56, ik_54, indexAddrE_def (P := Try.prog) (t := 56), indexAddrE_def (P := Try.prog) (t := 54), pb_33, pb_45, pb_24, pb_53, pb_48]; first | (refine dec_split (Q := Q_) (fun hp_ => ?_) (fun hp_ => ?_) <;> first | (exfalso; omega) | (refine hQ_ _ _ ?_; clear hQ_ Q_)) | (refine dec_splitn (Q := Q_) (fun hp_ => ?_) (fun hp_ => ?_) <;> first | (exfalso; omega) | (refine hQ_ _ _ ?_; clear hQ_ Q_)) | (refine hQ_ _ _ ?_; clear hQ_ Q_)))
  | (refine WC_cond fun K_ hK_ => ?_; simp (disch := omega) only [evT_tmp, upd_apply, WB_some, ↓reduceIte, reduceCtorEq, Nat.reduceEqDiff, Nat.reduceLT]; refine hK_ _ ?_; clear hK_ K_)
  | (with_reducible refine condK_tt ?_) | (with_reducible refine condK_ff ?_) | (with_reducible refine roundQ_exit ?_) | (with_reducible refine roundQ_ret ?_)))
  · have hk : k + 1 = m := by omega
    refine endQ_ret _ _ rfl (retc0 (by decide) (by simp (disch := first | omega | (simp only [List.length_cons, List.length_nil, List.length_append]; omega)) only [bb, argF, ↓reduceIte, reduceCtorEq, Nat.reduceEqDiff, Nat.reduceLT, Nat.reduceLeDiff, Nat.reduceAdd, Nat.reduceMul, Nat.reduceSub, Nat.reduceBEq, Int.reduceToNat, List.append_assoc, List.length_append, cond_true, cond_false, List.length_cons, List.length_nil, List.cons_append, List.nil_append, List.append_nil, List.getElem?_cons_zero, List.getElem?_cons_succ, List.set_cons_zero, List.set_cons_succ, List.drop_zero, List.drop_succ_cons, List.take_zero, List.take_succ_cons, List.take_nil, List.drop_nil, eq_self, List.toList_toArray, beq_self_eq_true, loadAgg_X wf, bs_91, bs_29, ia_29, sz_29, ze_29, ia_91, sz_91, ze_91, ia_62, sz_62, ia_2, sz_2, ze_2, ia_3, sz_3, ia_75, sz_75, ze_75, fo_75_1, fo_75_2, fo_75_3, fo_91_0, fo_91_1, fo_52_0, fo_24_0, fo_24_1, fo_24_2, ia_52, sz_52, ik_56, ik_54, indexAddrE_def (P := Try.prog) (t := 56), indexAddrE_def (P := Try.prog) (t := 54), pb_33, pb_45, pb_24, pb_53, pb_48]; rfl)) ?_
    refine WV_flat rfl (by omega) ?_
    refine ⟨?_, rfl⟩
    simp only [numOf, denOf, hk, Nat.reduceEqDiff, ↓reduceIte]
  · have hk : ¬ k + 1 = m := by omega
    refine endQ_ret _ _ rfl (retc0 (by decide) (by simp (disch := first | omega | (simp only [List.length_cons, List.length_nil, List.length_append]; omega)) only [bb, argF, ↓reduceIte, reduceCtorEq, Nat.reduceEqDiff, Nat.reduceLT, Nat.reduceLeDiff, Nat.reduceAdd, Nat.reduceMul, Nat.reduceSub, Nat.reduceBEq, Int.reduceToNat, List.append_assoc, List.length_append, cond_true, cond_false, List.length_cons, List.length_nil, List.cons_append, List.nil_append, List.append_nil, List.getElem?_cons_zero, List.getElem?_cons_succ, List.set_cons_zero, List.set_cons_succ, List.drop_zero, List.drop_succ_cons, List.take_zero, List.take_succ_cons, List.take_nil, List.drop_nil, eq_self, List.toList_toArray, beq_self_eq_true, loadAgg_X wf, bs_91, bs_29, ia_29, sz_29, ze_29, ia_91, sz_91, ze_91, ia_62, sz_62, ia_2, sz_2, ze_2, ia_3, sz_3, ia_75, sz_75, ze_75, fo_75_1, fo_75_2, fo_75_3, fo_91_0, fo_91_1, fo_52_0, fo_24_0, fo_24_1, fo_24_2, ia_52, sz_52, ik_56, ik_54, indexAddrE_def (P := Try.prog) (t := 56), indexAddrE_def (P := Try.prog) (t := 54), pb_33, pb_45, pb_24, pb_53, pb_48]; rfl)) ?_
    refine WV_flat rfl (by omega) ?_
    refine ⟨?_, rfl⟩
    simp only [numOf, denOf, hk, Nat.reduceEqDiff, ↓reduceIte]

/-- A share's value at a place. -/
def nuAt (g : Nat) (sp st : Int) (n m : Nat) (gs : List Int) (q : Nat) : Int := numOf g sp st m (q / m) (q % m) (wt n (q / m) * wt m (q % m)) (yat gs m q)
def deAt (g : Nat) (st : Int) (n m : Nat) (gs : List Int) (q : Nat) : Int := denOf g st (wt n (q / m) * wt m (q % m)) (yat gs m q)

theorem share {g : Nat} (hg : g = 47 ∨ g = 48 ∨ g = 49) (sp st : Int) (hsp : 1 ≤ sp ∧ sp ≤ 1000) (hst : 1 ≤ st ∧ st ≤ 100) (a lo hi : AV) (rvs : List AV) (rows : List (List (Int × Int))) (i k m : Nat) (hm : 2 ≤ m ∧ m ≤ 6) (hi9 : i < 10) (hk9 : k < m) (w y : Int) (hw : 0 ≤ w ∧ w ≤ 4) (hy : 0 ≤ y ∧ y ≤ 500) (h : H)
    (x : HullAt h a rvs rows m) (hn : 0 < rows.length) (hlo : oneB lo = true) (hhi : oneB hi = true) (hlc : AV.cells lo = [lo]) (hhc : AV.cells hi = [hi]) (J : List AO) (w' : Nat) (hw' : w' ≤ h.clock + J.length) :
    (om Try.prog KK).call (.fn g [.agg [ii sp, ii st, a], .agg [lo, hi, ii (i : Int), ii (k : Int), ii w], ii y]) (X h J w') = .ok (.agg [ii (numOf g sp st m i k w y), ii (denOf g st w y)]) (X h J w') := by
  rcases hg with rfl | rfl | rfl
  · exact along sp st hsp a lo hi i k m hi9 w y hw hy _ (x.wf.X hw')
  · exact above sp st hst a lo hi i k m (by omega) w y hw hy _ (x.wf.X hw')
  · exact metaS sp st hst a lo hi rvs rows i k m hm hk9 w y hw hy _ (x.up J w' hw') hn hlo hhi hlc hhc
theorem numOf_in {g : Nat} (hg : g = 47 ∨ g = 48 ∨ g = 49) {sp st : Int} (hsp : 1 ≤ sp ∧ sp ≤ 1000) (hst : 1 ≤ st ∧ st ≤ 100) {m i k : Nat} (hm : m ≤ 6) (hi9 : i < 10) (hk9 : k < m) {w y : Int} (hw : 0 ≤ w ∧ w ≤ 4) (hy : 0 ≤ y ∧ y ≤ 500) :
    (0 ≤ numOf g sp st m i k w y ∧ numOf g sp st m i k w y ≤ 2000000000) ∧ 0 ≤ denOf g st w y ∧ denOf g st w y ≤ 600000 := by
  have h1 := mul_bd (a := st) (b := (k : Int)) (x := 100) (y := 5) ⟨by omega, by omega⟩ ⟨by omega, by omega⟩
  have h2 := mul_bd h1 hw
  have h3 := mul_bd h2 hy
  have h4 := mul_bd hw hy
  have h5 := mul_bd (a := 3 * st) (x := 300) ⟨by omega, by omega⟩ h3
  have h6 := mul_bd (a := 3 * st) (x := 300) ⟨by omega, by omega⟩ h4
  have h7 := mul_bd (a := 2 * w) (x := 8) ⟨by omega, by omega⟩ hy
  have h8 := mul_bd h7 hy
  have h9 := mul_bd h8 hy
  have h11 := mul_bd (a := sp) (b := (i : Int)) (x := 1000) (y := 9) ⟨by omega, by omega⟩ ⟨by omega, by omega⟩
  have h12 := mul_bd h11 hw
  have h13 := mul_bd h12 hy
  rcases hg with rfl | rfl | rfl
  · simp only [numOf, denOf, Nat.reduceEqDiff, ↓reduceIte]; omega
  · simp only [numOf, denOf, Nat.reduceEqDiff, ↓reduceIte]; omega
  · simp only [numOf, denOf, Nat.reduceEqDiff, ↓reduceIte]
    split <;> omega

theorem number {g : Nat} (hg : g = 47 ∨ g = 48 ∨ g = 49) (sp st : Int) (hsp : 1 ≤ sp ∧ sp ≤ 1000) (hst : 1 ≤ st ∧ st ≤ 100) (a : AV) (rvs : List AV) (rows : List (List (Int × Int))) (m : Nat) (hn : 2 ≤ rows.length ∧ rows.length ≤ 10) (hm : 2 ≤ m ∧ m ≤ 6)
    (gs : List Int) (hl : gs.length = 60) (hy : ∀ q, q < rows.length * m → 0 ≤ yat gs m q ∧ yat gs m q ≤ 500) (h : H) (x : HullAt h a rvs rows m) (hpos : 0 < psum (deAt g st rows.length m gs) (rows.length * m)) :
    (om Try.prog KK).call (.fn 29 [.agg [ii sp, ii st, a], .fn g [.agg [ii sp, ii st, a]] [], .agg (gs.map ii)]) h = .ok (frac (psum (nuAt g sp st rows.length m gs) (rows.length * m)) (psum (deAt g st rows.length m gs) (rows.length * m))) h := by
  have wf := x.wf
  have hnm : rows.length * m ≤ 60 := by
    have := Nat.mul_le_mul hn.2 hm.2; omega
  have hpb : plainB Try.prog g = true := by rcases hg with rfl | rfl | rfl <;> first | exact pb_47 | exact pb_48 | exact pb_49
  have hpl := fun J w hw => places sp st a h wf J w hw
  have hbd : ∀ q, q < rows.length * m → (0 ≤ nuAt g sp st rows.length m gs q ∧ nuAt g sp st rows.length m gs q ≤ 2000000000) ∧ 0 ≤ deAt g st rows.length m gs q ∧ deAt g st rows.length m gs q ≤ 600000 := fun q hq => by
    obtain ⟨i1, i2, i3⟩ := place_idx hm.2 hn.2 hq
    exact numOf_in hg hsp hst hm.2 (by omega) i2 (wt2 _ _ _ _) (hy q hq)
  refine WV_to (WV_call (fn := Try.f29) Try.func29 rfl rfl rfl rfl rfl ?_)
  simp only [argF]
  (repeat' (first
  | (with_reducible refine WC_seq ?_) | (refine WC_region ?_) | (with_reducible refine WC_skip ?_) | (with_reducible refine WC_label ?_) | (with_reducible refine WC_scope ?_) | (with_reducible refine WC_block ?_) | (with_reducible refine WC_ret ?_) | (with_reducible refine WC_exit ?_)
  | (with_reducible refine seqQ_norm ?_) | (with_reducible refine seqQ_ret ?_) | (with_reducible refine seqQ_exit ?_) | (with_reducible refine blkQ_norm ?_) | (with_reducible refine blkQ_ret ?_) | (with_reducible refine blkQ_here ?_) | (refine blkQ_out rfl ?_)
  | (refine WO_nil ?_)
  | (refine WD_nil ?_)
  | (refine WD_gate rfl rfl rfl rfl rfl fun K_ hK_ => ?_; simp only [upd_apply, asB_bool, asB_tup, ↓reduceIte, reduceCtorEq, Nat.reduceEqDiff, Bool.not_true, Bool.not_false]; refine hK_ _ ?_; clear hK_ K_)
  | (refine WO_gate rfl rfl rfl rfl rfl fun K_ hK_ => ?_; simp only [upd_apply, asB_bool, asB_tup, ↓reduceIte, reduceCtorEq, Nat.reduceEqDiff, Bool.not_true, Bool.not_false]; refine hK_ _ ?_; clear hK_ K_)
  | (with_reducible refine gateK_yes ?_) | (refine gateK_no (by decide) ?_) | (with_reducible refine gateK_none ?_)
  | ((try first | refine WO_op rfl rfl rfl ?_ | refine WO_op0 rfl rfl ?_ | refine WD_op rfl rfl rfl ?_ | refine WD_op0 rfl rfl ?_); (refine WV_gen fun Q_ hQ_ => ?_; simp (disch := first | omega | (simp only [List.length_cons, List.length_nil, List.length_append]; omega)) only [bb, argF, ↓reduceIte, reduceCtorEq, Nat.reduceEqDiff, Nat.reduceLT, Nat.reduceLeDiff, Nat.reduceAdd, Nat.reduceMul, Nat.reduceSub, Nat.reduceBEq, Int.reduceToNat, List.append_assoc, List.length_append, cond_true, cond_false, List.length_cons, List.length_nil, List.cons_append, List.nil_append, List.append_nil, List.getElem?_cons_zero, List.getElem?_cons_succ, List.set_cons_zero, List.set_cons_succ, List.drop_zero, List.drop_succ_cons, List.take_zero, List.take_succ_cons, List.take_nil, List.drop_nil, eq_self, List.toList_toArray, beq_self_eq_true, newPtr_X wf, load1_X wf, loadAgg_X wf, store1_X wf, writeCells_X wf, makeFunc_def, bs_91, bs_29, ia_29, sz_29, ze_29, ia_91, sz_91, ze_91, ia_62, sz_62, ia_2, sz_2, ze_2, ia_3, sz_3, ia_75, sz_75, ze_75, fo_75_1, fo_75_2, fo_75_3, fo_91_0, fo_91_1, fo_52_0, fo_24_0, fo_24_1, fo_24_2, ia_52, sz_52, ik_56, ik_54, indexAddrE_def (P := Try.prog) (t := 56), indexAddrE_def (P := Try.prog) (t := 54), pb_33, pb_45, pb_24, pb_53, pb_48]; first | (refine dec_split (Q := Q_) (fun hp_ => ?_) (fun hp_ => ?_) <;> first | (exfalso; omega) | (refine hQ_ _ _ ?_; clear hQ_ Q_)) | (refine dec_splitn (Q := Q_) (fun hp_ => ?_) (fun hp_ => ?_) <;> first | (exfalso; omega) | (refine hQ_ _ _ ?_; clear hQ_ Q_)) | (refine hQ_ _ _ ?_; clear hQ_ Q_) | (refine WV_eq (places sp st a h wf _ _ (by simp only [List.length_append, List.length_cons, List.length_nil]; omega)) ?_; refine hQ_ _ _ ?_; clear hQ_ Q_)))
  | (refine WC_cond fun K_ hK_ => ?_; simp (disch := omega) only [evT_tmp, upd_apply, WB_some, ↓reduceIte, reduceCtorEq, Nat.reduceEqDiff, Nat.reduceLT]; refine hK_ _ ?_; clear hK_ K_)
  | (with_reducible refine condK_tt ?_) | (with_reducible refine condK_ff ?_) | (with_reducible refine roundQ_exit ?_) | (with_reducible refine roundQ_ret ?_)))
  simp only [List.length_cons, List.length_nil, List.cons_append, List.nil_append]
  refine WC_rangeX wf rfl (evT_tmp (by decide)) fun o ho => ?_
  simp only [upd_apply, ↓reduceIte, reduceCtorEq, Nat.reduceEqDiff, List.length_cons, List.length_nil, List.cons_append, List.nil_append, Nat.reduceAdd]
  refine WV.mono (placesH x hn hm sp st 5 (nx h 7) _ (fun q hb => ∃ w, hb = X h [.cells (mkCells [ii sp, ii st, a]) 52, .cells (mkCells [.fn g [.agg [ii sp, ii st, a]] []]) 62, .cells (mkCells (gs.map ii)) 56, .cells (mkCells [ii 0, ii 0]) 29,
      .cells (mkCells [ii (psum (nuAt g sp st rows.length m gs) q), ii (psum (deAt g st rows.length m gs) q)]) 91, .cells (mkCells [ii sp, ii st, a]) 52, .dfr, o] w ∧ w ≤ h.clock + 8)
    (fun _ => False) h.clock (Nat.le_refl _) (Nat.le_add_right _ _) ?_ ?_ ⟨h.clock, rfl, by omega⟩) ?_
  · rintro q hb ⟨w, rfl, hw⟩
    exact ⟨⟨_, w, rfl, hw, rfl⟩, Same.X rfl⟩
  · rintro q xx hx hb J w ⟨w0, rfl, hw0⟩ hlo hw
    obtain ⟨hq, rfl⟩ := placesOf_at hx
    rw [X_X]
    generalize (rows.getD (q / m) []).getD (q % m) (0, 0) = r
    simp only [List.cons_append, List.nil_append, placeOf]
    refine WV_yldX wf (k := 7) rfl ho (setParams1 rfl) ?_
    (repeat' (first
  | (with_reducible refine WC_seq ?_) | (refine WC_region ?_) | (with_reducible refine WC_skip ?_) | (with_reducible refine WC_label ?_) | (with_reducible refine WC_scope ?_) | (with_reducible refine WC_block ?_) | (with_reducible refine WC_ret ?_) | (with_reducible refine WC_exit ?_)
  | (with_reducible refine seqQ_norm ?_) | (with_reducible refine seqQ_ret ?_) | (with_reducible refine seqQ_exit ?_) | (with_reducible refine blkQ_norm ?_) | (with_reducible refine blkQ_ret ?_) | (with_reducible refine blkQ_here ?_) | (refine blkQ_out rfl ?_)
  | (refine WO_nil ?_)
  | (refine WD_nil ?_)
  | (refine WD_gate rfl rfl rfl rfl rfl fun K_ hK_ => ?_; simp only [upd_apply, asB_bool, asB_tup, ↓reduceIte, reduceCtorEq, Nat.reduceEqDiff, Bool.not_true, Bool.not_false]; refine hK_ _ ?_; clear hK_ K_)
  | (refine WO_gate rfl rfl rfl rfl rfl fun K_ hK_ => ?_; simp only [upd_apply, asB_bool, asB_tup, ↓reduceIte, reduceCtorEq, Nat.reduceEqDiff, Bool.not_true, Bool.not_false]; refine hK_ _ ?_; clear hK_ K_)
  | (with_reducible refine gateK_yes ?_) | (refine gateK_no (by decide) ?_) | (with_reducible refine gateK_none ?_)
  | ((try first | refine WO_op rfl rfl rfl ?_ | refine WO_op0 rfl rfl ?_ | refine WD_op rfl rfl rfl ?_ | refine WD_op0 rfl rfl ?_); (refine WV_gen fun Q_ hQ_ => ?_; simp (disch := first | omega | (simp only [List.length_cons, List.length_nil, List.length_append]; omega)) only [bb, argF, ↓reduceIte, reduceCtorEq, Nat.reduceEqDiff, Nat.reduceLT, Nat.reduceLeDiff, Nat.reduceAdd, Nat.reduceMul, Nat.reduceSub, Nat.reduceBEq, Int.reduceToNat, List.append_assoc, List.length_append, cond_true, cond_false, List.length_cons, List.length_nil, List.cons_append, List.nil_append, List.append_nil, List.getElem?_cons_zero, List.getElem?_cons_succ, List.set_cons_zero, List.set_cons_succ, List.drop_zero, List.drop_succ_cons, List.take_zero, List.take_succ_cons, List.take_nil, List.drop_nil, eq_self, List.toList_toArray, beq_self_eq_true, newPtr_X wf, load1_X wf, loadAgg_X wf, store1_X wf, writeCells_X wf, makeFunc_def, bs_91, bs_29, ia_29, sz_29, ze_29, ia_91, sz_91, ze_91, ia_62, sz_62, ia_2, sz_2, ze_2, ia_3, sz_3, ia_75, sz_75, ze_75, fo_75_1, fo_75_2, fo_75_3, fo_91_0, fo_91_1, fo_52_0, fo_24_0, fo_24_1, fo_24_2, ia_52, sz_52, ik_56, ik_54, indexAddrE_def (P := Try.prog) (t := 56), indexAddrE_def (P := Try.prog) (t := 54), pb_33, pb_45, pb_24, pb_53, pb_48]; first | (refine dec_split (Q := Q_) (fun hp_ => ?_) (fun hp_ => ?_) <;> first | (exfalso; omega) | (refine hQ_ _ _ ?_; clear hQ_ Q_)) | (refine dec_splitn (Q := Q_) (fun hp_ => ?_) (fun hp_ => ?_) <;> first | (exfalso; omega) | (refine hQ_ _ _ ?_; clear hQ_ Q_)) | (refine hQ_ _ _ ?_; clear hQ_ Q_)))
  | (refine WC_cond fun K_ hK_ => ?_; simp (disch := omega) only [evT_tmp, upd_apply, WB_some, ↓reduceIte, reduceCtorEq, Nat.reduceEqDiff, Nat.reduceLT]; refine hK_ _ ?_; clear hK_ K_)
  | (with_reducible refine condK_tt ?_) | (with_reducible refine condK_ff ?_) | (with_reducible refine roundQ_exit ?_) | (with_reducible refine roundQ_ret ?_)))
    refine yldA_X wf (k := 7) rfl ho fun o' ho' => ?_
    obtain ⟨i1, i2, i3⟩ := place_idx hm.2 hn.2 hq
    have hgg := grid_get hl i3
    have hw' : w ≤ h.clock + 8 + J.length := hw
    have hs1 := psum_in (f := nuAt g sp st rows.length m gs) (b := 2000000000) (q := q) (fun i hi => (hbd i (by omega)).1)
    have hs2 := psum_in (f := deAt g st rows.length m gs) (b := 600000) (q := q) (fun i hi => (hbd i (by omega)).2)
    have hb2 := hbd q hq
    have hsh := share hg sp st hsp hst a (ii r.1) (ii r.2) rvs rows (q / m) (q % m) m hm (by omega) i2 (wt rows.length (q / m) * wt m (q % m)) (gs.getD (q / m * 6 + q % m) 0) (wt2 _ _ _ _) (hy q hq) h x (by omega) rfl rfl rfl rfl
    have e1 : numOf g sp st m (q / m) (q % m) (wt rows.length (q / m) * wt m (q % m)) (gs.getD (q / m * 6 + q % m) 0) = nuAt g sp st rows.length m gs q := rfl
    have e2 : denOf g st (wt rows.length (q / m) * wt m (q % m)) (gs.getD (q / m * 6 + q % m) 0) = deAt g st rows.length m gs q := rfl
    rw [e1, e2] at hsh
    (repeat' (first
  | (with_reducible refine WC_seq ?_) | (refine WC_region ?_) | (with_reducible refine WC_skip ?_) | (with_reducible refine WC_label ?_) | (with_reducible refine WC_scope ?_) | (with_reducible refine WC_block ?_) | (with_reducible refine WC_ret ?_) | (with_reducible refine WC_exit ?_)
  | (with_reducible refine seqQ_norm ?_) | (with_reducible refine seqQ_ret ?_) | (with_reducible refine seqQ_exit ?_) | (with_reducible refine blkQ_norm ?_) | (with_reducible refine blkQ_ret ?_) | (with_reducible refine blkQ_here ?_) | (refine blkQ_out rfl ?_)
  | (refine WO_nil ?_)
  | (refine WD_nil ?_)
  | (refine WD_gate rfl rfl rfl rfl rfl fun K_ hK_ => ?_; simp only [upd_apply, asB_bool, asB_tup, ↓reduceIte, reduceCtorEq, Nat.reduceEqDiff, Bool.not_true, Bool.not_false]; refine hK_ _ ?_; clear hK_ K_)
  | (refine WO_gate rfl rfl rfl rfl rfl fun K_ hK_ => ?_; simp only [upd_apply, asB_bool, asB_tup, ↓reduceIte, reduceCtorEq, Nat.reduceEqDiff, Bool.not_true, Bool.not_false]; refine hK_ _ ?_; clear hK_ K_)
  | (with_reducible refine gateK_yes ?_) | (refine gateK_no (by decide) ?_) | (with_reducible refine gateK_none ?_)
  | ((try first | refine WO_op rfl rfl rfl ?_ | refine WO_op0 rfl rfl ?_ | refine WD_op rfl rfl rfl ?_ | refine WD_op0 rfl rfl ?_); (refine WV_gen fun Q_ hQ_ => ?_; simp (disch := first | omega | (simp only [List.length_cons, List.length_nil, List.length_append]; omega)) only [bb, argF, ↓reduceIte, reduceCtorEq, Nat.reduceEqDiff, Nat.reduceLT, Nat.reduceLeDiff, Nat.reduceAdd, Nat.reduceMul, Nat.reduceSub, Nat.reduceBEq, Int.reduceToNat, List.append_assoc, List.length_append, cond_true, cond_false, List.length_cons, List.length_nil, List.cons_append, List.nil_append, List.append_nil, List.getElem?_cons_zero, List.getElem?_cons_succ, List.set_cons_zero, List.set_cons_succ, List.drop_zero, List.drop_succ_cons, List.take_zero, List.take_succ_cons, List.take_nil, List.drop_nil, eq_self, List.toList_toArray, beq_self_eq_true, newPtr_X wf, load1_X wf, loadAgg_X wf, store1_X wf, writeCells_X wf, makeFunc_def, bs_91, bs_29, ia_29, sz_29, ze_29, ia_91, sz_91, ze_91, ia_62, sz_62, ia_2, sz_2, ze_2, ia_3, sz_3, ia_75, sz_75, ze_75, fo_75_1, fo_75_2, fo_75_3, fo_91_0, fo_91_1, fo_52_0, fo_24_0, fo_24_1, fo_24_2, ia_52, sz_52, ik_56, ik_54, indexAddrE_def (P := Try.prog) (t := 56), indexAddrE_def (P := Try.prog) (t := 54), pb_33, pb_45, pb_24, pb_53, pb_48]; first | (refine dec_split (Q := Q_) (fun hp_ => ?_) (fun hp_ => ?_) <;> first | (exfalso; omega) | (refine hQ_ _ _ ?_; clear hQ_ Q_)) | (refine dec_splitn (Q := Q_) (fun hp_ => ?_) (fun hp_ => ?_) <;> first | (exfalso; omega) | (refine hQ_ _ _ ?_; clear hQ_ Q_)) | (refine hQ_ _ _ ?_; clear hQ_ Q_)))
  | (refine WC_cond fun K_ hK_ => ?_; simp (disch := omega) only [evT_tmp, upd_apply, WB_some, ↓reduceIte, reduceCtorEq, Nat.reduceEqDiff, Nat.reduceLT]; refine hK_ _ ?_; clear hK_ K_)
  | (with_reducible refine condK_tt ?_) | (with_reducible refine condK_ff ?_) | (with_reducible refine roundQ_exit ?_) | (with_reducible refine roundQ_ret ?_)))
    refine WC_drawnB [.no, .no, .no, .no, .no, .no, .no, .no, .no, .no, .no, .full] (by kernel_rfl) ?_
    (repeat' (first
  | (with_reducible refine WC_seq ?_) | (refine WC_region ?_) | (with_reducible refine WC_skip ?_) | (with_reducible refine WC_label ?_) | (with_reducible refine WC_scope ?_) | (with_reducible refine WC_block ?_) | (with_reducible refine WC_ret ?_) | (with_reducible refine WC_exit ?_)
  | (with_reducible refine seqQ_norm ?_) | (with_reducible refine seqQ_ret ?_) | (with_reducible refine seqQ_exit ?_) | (with_reducible refine blkQ_norm ?_) | (with_reducible refine blkQ_ret ?_) | (with_reducible refine blkQ_here ?_) | (refine blkQ_out rfl ?_)
  | (refine WO_nil ?_)
  | (refine WD_nil ?_)
  | (refine WD_gate rfl rfl rfl rfl rfl fun K_ hK_ => ?_; simp only [upd_apply, asB_bool, asB_tup, ↓reduceIte, reduceCtorEq, Nat.reduceEqDiff, Bool.not_true, Bool.not_false]; refine hK_ _ ?_; clear hK_ K_)
  | (refine WO_gate rfl rfl rfl rfl rfl fun K_ hK_ => ?_; simp only [upd_apply, asB_bool, asB_tup, ↓reduceIte, reduceCtorEq, Nat.reduceEqDiff, Bool.not_true, Bool.not_false]; refine hK_ _ ?_; clear hK_ K_)
  | (with_reducible refine gateK_yes ?_) | (refine gateK_no (by decide) ?_) | (with_reducible refine gateK_none ?_)
  | ((try first | refine WO_op rfl rfl rfl ?_ | refine WO_op0 rfl rfl ?_ | refine WD_op rfl rfl rfl ?_ | refine WD_op0 rfl rfl ?_); (refine WV_gen fun Q_ hQ_ => ?_; simp (disch := first | omega | (simp only [List.length_cons, List.length_nil, List.length_append]; omega)) only [bb, argF, ↓reduceIte, reduceCtorEq, Nat.reduceEqDiff, Nat.reduceLT, Nat.reduceLeDiff, Nat.reduceAdd, Nat.reduceMul, Nat.reduceSub, Nat.reduceBEq, Int.reduceToNat, List.append_assoc, List.length_append, cond_true, cond_false, List.length_cons, List.length_nil, List.cons_append, List.nil_append, List.append_nil, List.getElem?_cons_zero, List.getElem?_cons_succ, List.set_cons_zero, List.set_cons_succ, List.drop_zero, List.drop_succ_cons, List.take_zero, List.take_succ_cons, List.take_nil, List.drop_nil, eq_self, List.toList_toArray, beq_self_eq_true, hgg, hsh, hpb, callV_fn, newPtr_X wf, load1_X wf, loadAgg_X wf, store1_X wf, writeCells_X wf, makeFunc_def, bs_91, bs_29, ia_29, sz_29, ze_29, ia_91, sz_91, ze_91, ia_62, sz_62, ia_2, sz_2, ze_2, ia_3, sz_3, ia_75, sz_75, ze_75, fo_75_1, fo_75_2, fo_75_3, fo_91_0, fo_91_1, fo_52_0, fo_24_0, fo_24_1, fo_24_2, ia_52, sz_52, ik_56, ik_54, indexAddrE_def (P := Try.prog) (t := 56), indexAddrE_def (P := Try.prog) (t := 54), pb_33, pb_45, pb_24, pb_53, pb_48]; first | (refine dec_split (Q := Q_) (fun hp_ => ?_) (fun hp_ => ?_) <;> first | (exfalso; omega) | (refine hQ_ _ _ ?_; clear hQ_ Q_)) | (refine dec_splitn (Q := Q_) (fun hp_ => ?_) (fun hp_ => ?_) <;> first | (exfalso; omega) | (refine hQ_ _ _ ?_; clear hQ_ Q_)) | (refine hQ_ _ _ ?_; clear hQ_ Q_)))
  | (refine WC_cond fun K_ hK_ => ?_; simp (disch := omega) only [evT_tmp, upd_apply, WB_some, ↓reduceIte, reduceCtorEq, Nat.reduceEqDiff, Nat.reduceLT]; refine hK_ _ ?_; clear hK_ K_)
  | (with_reducible refine condK_tt ?_) | (with_reducible refine condK_ff ?_) | (with_reducible refine roundQ_exit ?_) | (with_reducible refine roundQ_ret ?_)))
    refine yldB_X wf (k := 7) rfl ho' ?_
    simp only [List.set_cons_succ, List.set_cons_zero]
    rw [← ho]
    refine ⟨X h [.cells (mkCells [ii sp, ii st, a]) 52, .cells (mkCells [.fn g [.agg [ii sp, ii st, a]] []]) 62, .cells (mkCells (gs.map ii)) 56, .cells (mkCells [ii 0, ii 0]) 29,
      .cells (mkCells [ii (psum (nuAt g sp st rows.length m gs) (q + 1)), ii (psum (deAt g st rows.length m gs) (q + 1))]) 91, .cells (mkCells [ii sp, ii st, a]) 52, .dfr, o] w0, _, _, by rw [X_X]; rfl, Same.X rfl, by omega, ?_, .inl ⟨rfl, w0, rfl, hw0⟩⟩
    show _ < h.clock + 8
    omega
  · rintro v h' ⟨hb, J, w, rfl, hs, hlo, hw, ⟨w0, rfl, hw0⟩ | hD⟩
    · rw [X_X, placesOf_length]
      refine rangeQ_X wf (k := 7) rfl ho (by decide) fun o' ho' => ?_
      have hs1 := psum_in (f := nuAt g sp st rows.length m gs) (b := 2000000000) (q := rows.length * m) (fun i hi => (hbd i (by omega)).1)
      have hs2 := psum_in (f := deAt g st rows.length m gs) (b := 600000) (q := rows.length * m) (fun i hi => (hbd i (by omega)).2)
      simp only [List.cons_append, List.nil_append, List.set_cons_succ, List.set_cons_zero]
      (repeat' (first
  | (with_reducible refine WC_seq ?_) | (refine WC_region ?_) | (with_reducible refine WC_skip ?_) | (with_reducible refine WC_label ?_) | (with_reducible refine WC_scope ?_) | (with_reducible refine WC_block ?_) | (with_reducible refine WC_ret ?_) | (with_reducible refine WC_exit ?_)
  | (with_reducible refine seqQ_norm ?_) | (with_reducible refine seqQ_ret ?_) | (with_reducible refine seqQ_exit ?_) | (with_reducible refine blkQ_norm ?_) | (with_reducible refine blkQ_ret ?_) | (with_reducible refine blkQ_here ?_) | (refine blkQ_out rfl ?_)
  | (refine WO_nil ?_)
  | (refine WD_nil ?_)
  | (refine WD_gate rfl rfl rfl rfl rfl fun K_ hK_ => ?_; simp only [upd_apply, asB_bool, asB_tup, ↓reduceIte, reduceCtorEq, Nat.reduceEqDiff, Bool.not_true, Bool.not_false]; refine hK_ _ ?_; clear hK_ K_)
  | (refine WO_gate rfl rfl rfl rfl rfl fun K_ hK_ => ?_; simp only [upd_apply, asB_bool, asB_tup, ↓reduceIte, reduceCtorEq, Nat.reduceEqDiff, Bool.not_true, Bool.not_false]; refine hK_ _ ?_; clear hK_ K_)
  | (with_reducible refine gateK_yes ?_) | (refine gateK_no (by decide) ?_) | (with_reducible refine gateK_none ?_)
  | ((try first | refine WO_op rfl rfl rfl ?_ | refine WO_op0 rfl rfl ?_ | refine WD_op rfl rfl rfl ?_ | refine WD_op0 rfl rfl ?_); (refine WV_gen fun Q_ hQ_ => ?_; simp (disch := first | omega | (simp only [List.length_cons, List.length_nil, List.length_append]; omega)) only [bb, argF, ↓reduceIte, reduceCtorEq, Nat.reduceEqDiff, Nat.reduceLT, Nat.reduceLeDiff, Nat.reduceAdd, Nat.reduceMul, Nat.reduceSub, Nat.reduceBEq, Int.reduceToNat, List.append_assoc, List.length_append, cond_true, cond_false, List.length_cons, List.length_nil, List.cons_append, List.nil_append, List.append_nil, List.getElem?_cons_zero, List.getElem?_cons_succ, List.set_cons_zero, List.set_cons_succ, List.drop_zero, List.drop_succ_cons, List.take_zero, List.take_succ_cons, List.take_nil, List.drop_nil, eq_self, List.toList_toArray, beq_self_eq_true, frac, newPtr_X wf, load1_X wf, loadAgg_X wf, store1_X wf, writeCells_X wf, makeFunc_def, bs_91, bs_29, ia_29, sz_29, ze_29, ia_91, sz_91, ze_91, ia_62, sz_62, ia_2, sz_2, ze_2, ia_3, sz_3, ia_75, sz_75, ze_75, fo_75_1, fo_75_2, fo_75_3, fo_91_0, fo_91_1, fo_52_0, fo_24_0, fo_24_1, fo_24_2, ia_52, sz_52, ik_56, ik_54, indexAddrE_def (P := Try.prog) (t := 56), indexAddrE_def (P := Try.prog) (t := 54), pb_33, pb_45, pb_24, pb_53, pb_48]; first | (refine dec_split (Q := Q_) (fun hp_ => ?_) (fun hp_ => ?_) <;> first | (exfalso; omega) | (refine hQ_ _ _ ?_; clear hQ_ Q_)) | (refine dec_splitn (Q := Q_) (fun hp_ => ?_) (fun hp_ => ?_) <;> first | (exfalso; omega) | (refine hQ_ _ _ ?_; clear hQ_ Q_)) | (refine hQ_ _ _ ?_; clear hQ_ Q_) | (refine WV_eq (fraction _ _ ⟨hs1.1, by omega⟩ ⟨hpos, by omega⟩ _ (wf.X (by simp only [List.length_append, List.length_cons, List.length_nil]; omega))) ?_; refine hQ_ _ _ ?_; clear hQ_ Q_)))
  | (refine WC_cond fun K_ hK_ => ?_; simp (disch := omega) only [evT_tmp, upd_apply, WB_some, ↓reduceIte, reduceCtorEq, Nat.reduceEqDiff, Nat.reduceLT]; refine hK_ _ ?_; clear hK_ K_)
  | (with_reducible refine condK_tt ?_) | (with_reducible refine condK_ff ?_) | (with_reducible refine roundQ_exit ?_) | (with_reducible refine roundQ_ret ?_)))
      refine endQ_ret _ _ (takeAll_X wf (k := 6) rfl) (retc0 (by decide) (by simp (disch := first | omega | (simp only [List.length_cons, List.length_nil, List.length_append]; omega)) only [bb, argF, ↓reduceIte, reduceCtorEq, Nat.reduceEqDiff, Nat.reduceLT, Nat.reduceLeDiff, Nat.reduceAdd, Nat.reduceMul, Nat.reduceSub, Nat.reduceBEq, Int.reduceToNat, List.append_assoc, List.length_append, cond_true, cond_false, List.length_cons, List.length_nil, List.cons_append, List.nil_append, List.append_nil, List.getElem?_cons_zero, List.getElem?_cons_succ, List.set_cons_zero, List.set_cons_succ, List.drop_zero, List.drop_succ_cons, List.take_zero, List.take_succ_cons, List.take_nil, List.drop_nil, eq_self, List.toList_toArray, beq_self_eq_true, loadAgg_X wf, frac, bs_91, bs_29, ia_29, sz_29, ze_29, ia_91, sz_91, ze_91, ia_62, sz_62, ia_2, sz_2, ze_2, ia_3, sz_3, ia_75, sz_75, ze_75, fo_75_1, fo_75_2, fo_75_3, fo_91_0, fo_91_1, fo_52_0, fo_24_0, fo_24_1, fo_24_2, ia_52, sz_52, ik_56, ik_54, indexAddrE_def (P := Try.prog) (t := 56), indexAddrE_def (P := Try.prog) (t := 54), pb_33, pb_45, pb_24, pb_53, pb_48]; rfl)) ?_
      refine WV_flat rfl (by omega) ?_
      exact ⟨rfl, rfl⟩
    · exact hD.elim
end Go.Proofs.Ytghondkiondeaab
end

/- EvH7 -/
section
/-
  LAYER 2: which hulls are valid.
-/
namespace Go.Proofs.Ytghondkiondeaab
open Go.Ev
set_option maxRecDepth 100000
set_option linter.unusedSimpArgs false
set_option linter.unusedVariables false
set_option maxHeartbeats 2000000

theorem areWithin (lo hi : Int) (xs : List Int) (s : AV) (h : H) (wf : Wf h) (hs : Sl h s 1 xs.length (xs.map ii)) (hlen : xs.length ≤ 1000) :
    (om Try.prog KK).call (.fn 31 [ii lo, ii hi, s]) h = .ok (.bool (decide (∀ x, x ∈ xs → lo ≤ x ∧ x ≤ hi))) h := by
  refine WV_to (WV_call (fn := Try.f31) Try.func31 rfl rfl rfl rfl rfl ?_)
  simp only [argF]
  have hl : ∀ h', lenE Try.prog 47 s h' = some (ii (xs.length : Int)) := fun h' => hs.len un_47
  (repeat' (first
  | (with_reducible refine WC_seq ?_) | (refine WC_region ?_) | (with_reducible refine WC_skip ?_) | (with_reducible refine WC_label ?_) | (with_reducible refine WC_scope ?_) | (with_reducible refine WC_block ?_) | (with_reducible refine WC_ret ?_) | (with_reducible refine WC_exit ?_)
  | (with_reducible refine seqQ_norm ?_) | (with_reducible refine seqQ_ret ?_) | (with_reducible refine seqQ_exit ?_) | (with_reducible refine blkQ_norm ?_) | (with_reducible refine blkQ_ret ?_) | (with_reducible refine blkQ_here ?_) | (refine blkQ_out rfl ?_)
  | (refine WO_nil ?_)
  | (refine WD_nil ?_)
  | (refine WD_gate rfl rfl rfl rfl rfl fun K_ hK_ => ?_; simp only [upd_apply, asB_bool, asB_tup, ↓reduceIte, reduceCtorEq, Nat.reduceEqDiff, Bool.not_true, Bool.not_false]; refine hK_ _ ?_; clear hK_ K_)
  | (refine WO_gate rfl rfl rfl rfl rfl fun K_ hK_ => ?_; simp only [upd_apply, asB_bool, asB_tup, ↓reduceIte, reduceCtorEq, Nat.reduceEqDiff, Bool.not_true, Bool.not_false]; refine hK_ _ ?_; clear hK_ K_)
  | (with_reducible refine gateK_yes ?_) | (refine gateK_no (by decide) ?_) | (with_reducible refine gateK_none ?_)
  | ((try first | refine WO_op rfl rfl rfl ?_ | refine WO_op0 rfl rfl ?_ | refine WD_op rfl rfl rfl ?_ | refine WD_op0 rfl rfl ?_); (refine WV_gen fun Q_ hQ_ => ?_; simp (disch := first | omega | (simp only [List.length_cons, List.length_nil, List.length_append]; omega)) only [bb, argF, ↓reduceIte, reduceCtorEq, Nat.reduceEqDiff, Nat.reduceLT, Nat.reduceLeDiff, Nat.reduceAdd, Nat.reduceMul, Nat.reduceSub, Nat.reduceBEq, Int.reduceToNat, List.append_assoc, List.length_append, cond_true, cond_false, List.length_cons, List.length_nil, List.cons_append, List.nil_append, List.append_nil, List.getElem?_cons_zero, List.getElem?_cons_succ, List.set_cons_zero, List.set_cons_succ, List.drop_zero, List.drop_succ_cons, List.take_zero, List.take_succ_cons, List.take_nil, List.drop_nil, eq_self, List.toList_toArray, beq_self_eq_true, hl, newPtr_X wf, load1_X wf, loadAgg_X wf, store1_X wf, writeCells_X wf, makeFunc_def, bs_91, bs_29, bsl_47, newSlice_X wf, ia_29, sz_29, ze_29, ia_2, sz_2, ze_2, ia_3, sz_3, ia_47, sz_47, ia_46, sz_46, ia_22, sz_22, ik_47, ik_46, ik_22, ia_70, sz_70, ze_70, fo_70_0, fo_70_1, fo_24_0, fo_24_1, fo_24_2, ia_24, sz_24, pb_31, pb_32, pb_50, pb_11]; first | (refine dec_split (Q := Q_) (fun hp_ => ?_) (fun hp_ => ?_) <;> first | (exfalso; omega) | (refine hQ_ _ _ ?_; clear hQ_ Q_)) | (refine dec_splitn (Q := Q_) (fun hp_ => ?_) (fun hp_ => ?_) <;> first | (exfalso; omega) | (refine hQ_ _ _ ?_; clear hQ_ Q_)) | (refine hQ_ _ _ ?_; clear hQ_ Q_)))
  | (refine WC_cond fun K_ hK_ => ?_; simp (disch := omega) only [evT_tmp, upd_apply, WB_some, ↓reduceIte, reduceCtorEq, Nat.reduceEqDiff, Nat.reduceLT]; refine hK_ _ ?_; clear hK_ K_)
  | (with_reducible refine condK_tt ?_) | (with_reducible refine condK_ff ?_) | (with_reducible refine roundQ_exit ?_) | (with_reducible refine roundQ_ret ?_)))
  refine WC_loop (fun (i : Nat) f d h' => i ≤ xs.length ∧ (∀ j, j < i → ∀ hj : j < xs.length, lo ≤ xs[j] ∧ xs[j] ≤ hi) ∧ f 0 = ii lo ∧ f 1 = ii hi ∧ f 9 = s ∧ f 10 = ii (xs.length : Int) ∧ f 11 = ii (i : Int) ∧ d = [] ∧ h' = X h [] h.clock) (fun i => xs.length - i) ?_ (xs.length + 1) 0 (by omega) ?_
  · rintro i f d h' ⟨hi', hall, g0, g1, g9, g10, g11, rfl, rfl⟩
    by_cases hlt : i < xs.length
    · obtain ⟨id, off, hix, hld⟩ := hs.at1 wf hlt ik_47
      rw [List.getElem?_map, List.getElem?_eq_getElem hlt, Option.map_some] at hld
      (repeat' (first
  | (with_reducible refine WC_seq ?_) | (refine WC_region ?_) | (with_reducible refine WC_skip ?_) | (with_reducible refine WC_label ?_) | (with_reducible refine WC_scope ?_) | (with_reducible refine WC_block ?_) | (with_reducible refine WC_ret ?_) | (with_reducible refine WC_exit ?_)
  | (with_reducible refine seqQ_norm ?_) | (with_reducible refine seqQ_ret ?_) | (with_reducible refine seqQ_exit ?_) | (with_reducible refine blkQ_norm ?_) | (with_reducible refine blkQ_ret ?_) | (with_reducible refine blkQ_here ?_) | (refine blkQ_out rfl ?_)
  | (refine WO_nil ?_)
  | (refine WD_nil ?_)
  | (refine WD_gate rfl rfl rfl rfl rfl fun K_ hK_ => ?_; simp only [upd_apply, asB_bool, asB_tup, ↓reduceIte, reduceCtorEq, Nat.reduceEqDiff, Bool.not_true, Bool.not_false]; refine hK_ _ ?_; clear hK_ K_)
  | (refine WO_gate rfl rfl rfl rfl rfl fun K_ hK_ => ?_; simp only [upd_apply, asB_bool, asB_tup, ↓reduceIte, reduceCtorEq, Nat.reduceEqDiff, Bool.not_true, Bool.not_false]; refine hK_ _ ?_; clear hK_ K_)
  | (with_reducible refine gateK_yes ?_) | (refine gateK_no (by decide) ?_) | (with_reducible refine gateK_none ?_)
  | ((try first | refine WO_op rfl rfl rfl ?_ | refine WO_op0 rfl rfl ?_ | refine WD_op rfl rfl rfl ?_ | refine WD_op0 rfl rfl ?_); (refine WV_gen fun Q_ hQ_ => ?_; simp (disch := first | omega | (simp only [List.length_cons, List.length_nil, List.length_append]; omega)) only [bb, argF, ↓reduceIte, reduceCtorEq, Nat.reduceEqDiff, Nat.reduceLT, Nat.reduceLeDiff, Nat.reduceAdd, Nat.reduceMul, Nat.reduceSub, Nat.reduceBEq, Int.reduceToNat, List.append_assoc, List.length_append, cond_true, cond_false, List.length_cons, List.length_nil, List.cons_append, List.nil_append, List.append_nil, List.getElem?_cons_zero, List.getElem?_cons_succ, List.set_cons_zero, List.set_cons_succ, List.drop_zero, List.drop_succ_cons, List.take_zero, List.take_succ_cons, List.take_nil, List.drop_nil, eq_self, List.toList_toArray, beq_self_eq_true, g0, g1, g9, g10, g11, hix, hld, newPtr_X wf, load1_X wf, loadAgg_X wf, store1_X wf, writeCells_X wf, makeFunc_def, bs_91, bs_29, bsl_47, newSlice_X wf, ia_29, sz_29, ze_29, ia_2, sz_2, ze_2, ia_3, sz_3, ia_47, sz_47, ia_46, sz_46, ia_22, sz_22, ik_47, ik_46, ik_22, ia_70, sz_70, ze_70, fo_70_0, fo_70_1, fo_24_0, fo_24_1, fo_24_2, ia_24, sz_24, pb_31, pb_32, pb_50, pb_11]; first | (refine dec_split (Q := Q_) (fun hp_ => ?_) (fun hp_ => ?_) <;> first | (exfalso; omega) | (refine hQ_ _ _ ?_; clear hQ_ Q_)) | (refine dec_splitn (Q := Q_) (fun hp_ => ?_) (fun hp_ => ?_) <;> first | (exfalso; omega) | (refine hQ_ _ _ ?_; clear hQ_ Q_)) | (refine hQ_ _ _ ?_; clear hQ_ Q_)))
  | (refine WC_cond fun K_ hK_ => ?_; simp (disch := omega) only [evT_tmp, upd_apply, WB_some, ↓reduceIte, reduceCtorEq, Nat.reduceEqDiff, Nat.reduceLT]; refine hK_ _ ?_; clear hK_ K_)
  | (with_reducible refine condK_tt ?_) | (with_reducible refine condK_ff ?_) | (with_reducible refine roundQ_exit ?_) | (with_reducible refine roundQ_ret ?_)))
      · (refine endQ_ret _ _ rfl (ret1 (by decide)) ?_; simp only [upd_apply, ↓reduceIte, reduceCtorEq, Nat.reduceEqDiff]; refine WV_flat rfl (by omega) ?_)
        exact ⟨by rw [decide_eq_false (fun hh => by have := hh _ (List.getElem_mem hlt); omega)], rfl⟩
      · (refine endQ_ret _ _ rfl (ret1 (by decide)) ?_; simp only [upd_apply, ↓reduceIte, reduceCtorEq, Nat.reduceEqDiff]; refine WV_flat rfl (by omega) ?_)
        exact ⟨by rw [decide_eq_false (fun hh => by have := hh _ (List.getElem_mem hlt); omega)], rfl⟩
      · refine roundQ_again (i + 1) (by omega) ⟨hlt, ?_, by simp only [upd_apply, ↓reduceIte, reduceCtorEq, Nat.reduceEqDiff]; exact g0, by simp only [upd_apply, ↓reduceIte, reduceCtorEq, Nat.reduceEqDiff]; exact g1, by simp only [upd_apply, ↓reduceIte, reduceCtorEq, Nat.reduceEqDiff]; exact g9, by simp only [upd_apply, ↓reduceIte, reduceCtorEq, Nat.reduceEqDiff]; exact g10, by simp only [upd_apply, ↓reduceIte, reduceCtorEq, Nat.reduceEqDiff]; rfl, rfl, rfl⟩
        intro j hj hjl
        by_cases hji : j = i
        · subst hji; omega
        · exact hall j (by omega) hjl
    · have hie : i = xs.length := by omega
      subst hie
      (repeat' (first
  | (with_reducible refine WC_seq ?_) | (refine WC_region ?_) | (with_reducible refine WC_skip ?_) | (with_reducible refine WC_label ?_) | (with_reducible refine WC_scope ?_) | (with_reducible refine WC_block ?_) | (with_reducible refine WC_ret ?_) | (with_reducible refine WC_exit ?_)
  | (with_reducible refine seqQ_norm ?_) | (with_reducible refine seqQ_ret ?_) | (with_reducible refine seqQ_exit ?_) | (with_reducible refine blkQ_norm ?_) | (with_reducible refine blkQ_ret ?_) | (with_reducible refine blkQ_here ?_) | (refine blkQ_out rfl ?_)
  | (refine WO_nil ?_)
  | (refine WD_nil ?_)
  | (refine WD_gate rfl rfl rfl rfl rfl fun K_ hK_ => ?_; simp only [upd_apply, asB_bool, asB_tup, ↓reduceIte, reduceCtorEq, Nat.reduceEqDiff, Bool.not_true, Bool.not_false]; refine hK_ _ ?_; clear hK_ K_)
  | (refine WO_gate rfl rfl rfl rfl rfl fun K_ hK_ => ?_; simp only [upd_apply, asB_bool, asB_tup, ↓reduceIte, reduceCtorEq, Nat.reduceEqDiff, Bool.not_true, Bool.not_false]; refine hK_ _ ?_; clear hK_ K_)
  | (with_reducible refine gateK_yes ?_) | (refine gateK_no (by decide) ?_) | (with_reducible refine gateK_none ?_)
  | ((try first | refine WO_op rfl rfl rfl ?_ | refine WO_op0 rfl rfl ?_ | refine WD_op rfl rfl rfl ?_ | refine WD_op0 rfl rfl ?_); (refine WV_gen fun Q_ hQ_ => ?_; simp (disch := first | omega | (simp only [List.length_cons, List.length_nil, List.length_append]; omega)) only [bb, argF, ↓reduceIte, reduceCtorEq, Nat.reduceEqDiff, Nat.reduceLT, Nat.reduceLeDiff, Nat.reduceAdd, Nat.reduceMul, Nat.reduceSub, Nat.reduceBEq, Int.reduceToNat, List.append_assoc, List.length_append, cond_true, cond_false, List.length_cons, List.length_nil, List.cons_append, List.nil_append, List.append_nil, List.getElem?_cons_zero, List.getElem?_cons_succ, List.set_cons_zero, List.set_cons_succ, List.drop_zero, List.drop_succ_cons, List.take_zero, List.take_succ_cons, List.take_nil, List.drop_nil, eq_self, List.toList_toArray, beq_self_eq_true, g0, g1, g9, g10, g11, newPtr_X wf, load1_X wf, loadAgg_X wf, store1_X wf, writeCells_X wf, makeFunc_def, bs_91, bs_29, bsl_47, newSlice_X wf, ia_29, sz_29, ze_29, ia_2, sz_2, ze_2, ia_3, sz_3, ia_47, sz_47, ia_46, sz_46, ia_22, sz_22, ik_47, ik_46, ik_22, ia_70, sz_70, ze_70, fo_70_0, fo_70_1, fo_24_0, fo_24_1, fo_24_2, ia_24, sz_24, pb_31, pb_32, pb_50, pb_11]; first | (refine dec_split (Q := Q_) (fun hp_ => ?_) (fun hp_ => ?_) <;> first | (exfalso; omega) | (refine hQ_ _ _ ?_; clear hQ_ Q_)) | (refine dec_splitn (Q := Q_) (fun hp_ => ?_) (fun hp_ => ?_) <;> first | (exfalso; omega) | (refine hQ_ _ _ ?_; clear hQ_ Q_)) | (refine hQ_ _ _ ?_; clear hQ_ Q_)))
  | (refine WC_cond fun K_ hK_ => ?_; simp (disch := omega) only [evT_tmp, upd_apply, WB_some, ↓reduceIte, reduceCtorEq, Nat.reduceEqDiff, Nat.reduceLT]; refine hK_ _ ?_; clear hK_ K_)
  | (with_reducible refine condK_tt ?_) | (with_reducible refine condK_ff ?_) | (with_reducible refine roundQ_exit ?_) | (with_reducible refine roundQ_ret ?_)))
      (refine endQ_ret _ _ rfl (ret1 (by decide)) ?_; simp only [upd_apply, ↓reduceIte, reduceCtorEq, Nat.reduceEqDiff]; refine WV_flat rfl (by omega) ?_)
      refine ⟨?_, rfl⟩
      rw [decide_eq_true]
      intro x hx
      obtain ⟨j, hj, rfl⟩ := List.getElem_of_mem hx
      exact hall j hj hj
  · exact ⟨Nat.zero_le _, fun j hj => absurd hj (Nat.not_lt_zero j), by simp only [upd_apply, ↓reduceIte, reduceCtorEq, Nat.reduceEqDiff], by simp only [upd_apply, ↓reduceIte, reduceCtorEq, Nat.reduceEqDiff], by simp only [upd_apply, ↓reduceIte, reduceCtorEq, Nat.reduceEqDiff], by simp only [upd_apply, ↓reduceIte, reduceCtorEq, Nat.reduceEqDiff], by simp only [upd_apply, ↓reduceIte, reduceCtorEq, Nat.reduceEqDiff]; rfl, rfl, rfl⟩

/-- Of one number, in a new slice. -/
theorem within1 {h : H} (wf : Wf h) {lo hi x : Int} {L : List AO} {w k : Nat} (hw : w ≤ h.clock + L.length) (hk : L[k]? = some (.cells (mkCells [ii x]) 2)) :
    (om Try.prog KK).call (.fn 31 [ii lo, ii hi, .sl (nx h k) 0 1 (some 1) 1]) (X h L w) = .ok (.bool (decide (lo ≤ x ∧ x ≤ hi))) (X h L w) := by
  refine (areWithin lo hi [x] (.sl (nx h k) 0 1 (some 1) 1) _ (wf.X hw) (Sl.new wf (cells := [ii x]) rfl hk) (by simp)).trans ?_
  simp
theorem within2 {h : H} (wf : Wf h) {lo hi x y : Int} {L : List AO} {w k : Nat} (hw : w ≤ h.clock + L.length) (hk : L[k]? = some (.cells (mkCells [ii x, ii y]) 2)) :
    (om Try.prog KK).call (.fn 31 [ii lo, ii hi, .sl (nx h k) 0 2 (some 2) 1]) (X h L w) = .ok (.bool (decide ((lo ≤ x ∧ x ≤ hi) ∧ lo ≤ y ∧ y ≤ hi))) (X h L w) := by
  refine (areWithin lo hi [x, y] (.sl (nx h k) 0 2 (some 2) 1) _ (wf.X hw) (Sl.new wf (cells := [ii x, ii y]) rfl hk) (by simp)).trans ?_
  simp

/-- The range of an offset. -/
def isOff (r : Int × Int) : Prop := 0 ≤ r.1 ∧ r.2 ≤ 500 ∧ r.1 ≤ r.2 ∧ r.2 - r.1 ≤ 20
instance (r : Int × Int) : Decidable (isOff r) := by unfold isOff; infer_instance
theorem isOffset (r : Int × Int) (h : H) (wf : Wf h) : (om Try.prog KK).call (.fn 50 [.agg [ii r.1, ii r.2]]) h = .ok (.bool (decide (isOff r))) h := by
  refine WV_to (WV_call (fn := Try.f50) Try.func50 rfl rfl rfl rfl rfl ?_)
  simp only [argF]
  (repeat' (first
  | (with_reducible refine WC_seq ?_) | (refine WC_region ?_) | (with_reducible refine WC_skip ?_) | (with_reducible refine WC_label ?_) | (with_reducible refine WC_scope ?_) | (with_reducible refine WC_block ?_) | (with_reducible refine WC_ret ?_) | (with_reducible refine WC_exit ?_)
  | (with_reducible refine seqQ_norm ?_) | (with_reducible refine seqQ_ret ?_) | (with_reducible refine seqQ_exit ?_) | (with_reducible refine blkQ_norm ?_) | (with_reducible refine blkQ_ret ?_) | (with_reducible refine blkQ_here ?_) | (refine blkQ_out rfl ?_)
  | (refine WO_nil ?_)
  | (refine WD_nil ?_)
  | (refine WD_gate rfl rfl rfl rfl rfl fun K_ hK_ => ?_; simp only [upd_apply, asB_bool, asB_tup, ↓reduceIte, reduceCtorEq, Nat.reduceEqDiff, Bool.not_true, Bool.not_false]; refine hK_ _ ?_; clear hK_ K_)
  | (refine WO_gate rfl rfl rfl rfl rfl fun K_ hK_ => ?_; simp only [upd_apply, asB_bool, asB_tup, ↓reduceIte, reduceCtorEq, Nat.reduceEqDiff, Bool.not_true, Bool.not_false]; refine hK_ _ ?_; clear hK_ K_)
  | (with_reducible refine gateK_yes ?_) | (refine gateK_no (by decide) ?_) | (with_reducible refine gateK_none ?_)
  | ((try first | refine WO_op rfl rfl rfl ?_ | refine WO_op0 rfl rfl ?_ | refine WD_op rfl rfl rfl ?_ | refine WD_op0 rfl rfl ?_); (refine WV_gen fun Q_ hQ_ => ?_; simp (disch := first | omega | (simp only [List.length_cons, List.length_nil, List.length_append]; omega)) only [bb, argF, ↓reduceIte, reduceCtorEq, Nat.reduceEqDiff, Nat.reduceLT, Nat.reduceLeDiff, Nat.reduceAdd, Nat.reduceMul, Nat.reduceSub, Nat.reduceBEq, Int.reduceToNat, List.append_assoc, List.length_append, cond_true, cond_false, List.length_cons, List.length_nil, List.cons_append, List.nil_append, List.append_nil, List.getElem?_cons_zero, List.getElem?_cons_succ, List.set_cons_zero, List.set_cons_succ, List.drop_zero, List.drop_succ_cons, List.take_zero, List.take_succ_cons, List.take_nil, List.drop_nil, eq_self, List.toList_toArray, beq_self_eq_true, newPtr_X wf, load1_X wf, loadAgg_X wf, store1_X wf, writeCells_X wf, makeFunc_def, bs_91, bs_29, bsl_47, newSlice_X wf, ia_29, sz_29, ze_29, ia_2, sz_2, ze_2, ia_3, sz_3, ia_47, sz_47, ia_46, sz_46, ia_22, sz_22, ik_47, ik_46, ik_22, ia_70, sz_70, ze_70, fo_70_0, fo_70_1, fo_24_0, fo_24_1, fo_24_2, ia_24, sz_24, pb_31, pb_32, pb_50, pb_11]; first | (refine dec_split (Q := Q_) (fun hp_ => ?_) (fun hp_ => ?_) <;> first | (exfalso; omega) | (refine hQ_ _ _ ?_; clear hQ_ Q_)) | (refine dec_splitn (Q := Q_) (fun hp_ => ?_) (fun hp_ => ?_) <;> first | (exfalso; omega) | (refine hQ_ _ _ ?_; clear hQ_ Q_)) | (refine hQ_ _ _ ?_; clear hQ_ Q_) | (refine WV_eq (within2 wf (by simp only [List.length_append, List.length_cons, List.length_nil]; omega) rfl) ?_; first | (refine dec_split (Q := Q_) (fun hp_ => ?_) (fun hp_ => ?_) <;> first | (exfalso; omega) | (refine hQ_ _ _ ?_; clear hQ_ Q_)) | (refine hQ_ _ _ ?_; clear hQ_ Q_)) | (refine WV_unmarkc (within2 wf (by simp only [List.length_append, List.length_cons, List.length_nil]; omega) rfl) ?_; first | (refine dec_split (Q := Q_) (fun hp_ => ?_) (fun hp_ => ?_) <;> first | (exfalso; omega) | (refine hQ_ _ _ ?_; clear hQ_ Q_)) | (refine hQ_ _ _ ?_; clear hQ_ Q_))))
  | (refine WC_cond fun K_ hK_ => ?_; simp (disch := omega) only [evT_tmp, upd_apply, WB_some, ↓reduceIte, reduceCtorEq, Nat.reduceEqDiff, Nat.reduceLT]; refine hK_ _ ?_; clear hK_ K_)
  | (with_reducible refine condK_tt ?_) | (with_reducible refine condK_ff ?_) | (with_reducible refine roundQ_exit ?_) | (with_reducible refine roundQ_ret ?_)))
  all_goals (refine endQ_ret _ _ rfl (ret1 (by decide)) ?_; simp only [upd_apply, ↓reduceIte, reduceCtorEq, Nat.reduceEqDiff]; refine WV_flat rfl (by omega) ?_)
  all_goals refine ⟨?_, rfl⟩
  all_goals first | rw [decide_eq_true (by unfold isOff; omega)] | rw [decide_eq_false (by unfold isOff; omega)]

/-- A hull as it is handed over, valid or not. -/
structure HullR (h : H) (a : AV) (rvs : List AV) (rows : List (List (Int × Int))) : Prop where
  wf : Wf h
  sl : Sl h a 1 rows.length rvs
  row : ∀ i (hi : i < rows.length), ∃ v, rvs[i]? = some v ∧ Row h v 2 rows[i].length (pairCells rows[i])
theorem HullR.up {h : H} {a : AV} {rvs : List AV} {rows : List (List (Int × Int))} (x : HullR h a rvs rows) (l : List AO) (w : Nat) (hw : w ≤ h.clock + l.length) : HullR (X h l w) a rvs rows :=
  ⟨x.wf.X hw, x.sl.up x.wf l w, fun i hi => let ⟨v, h1, h2⟩ := x.row i hi; ⟨v, h1, h2.up x.wf l w⟩⟩
theorem HullR.at {h : H} {a : AV} {rvs : List AV} {rows : List (List (Int × Int))} (x : HullR h a rvs rows) {m : Nat} (hm : m ≠ 0) (hall : ∀ i (hi : i < rows.length), rows[i].length = m) : HullAt h a rvs rows m :=
  ⟨x.wf, x.sl, fun i hi => let ⟨v, h1, h2⟩ := x.row i hi; ⟨v, h1, by have := h2.sl (by rw [hall i hi]; exact hm); rwa [hall i hi] at this, hall i hi⟩⟩

/-- The greatest Lo. -/
def mx (l : List (Int × Int)) : Int := l.foldl (fun acc r => max acc r.1) 0
theorem mx_snoc (l : List (Int × Int)) (r : Int × Int) : mx (l ++ [r]) = max (mx l) r.1 := by unfold mx; rw [List.foldl_append]; rfl
theorem mx_nonneg (l : List (Int × Int)) : 0 ≤ mx l := by
  unfold mx
  have : ∀ (l : List (Int × Int)) (a : Int), 0 ≤ a → 0 ≤ l.foldl (fun acc r => max acc r.1) a := by
    intro l
    induction l with
    | nil => intro a h; exact h
    | cons r l ih => intro a h; exact ih _ (by show 0 ≤ max a r.1; omega)
  exact this l 0 (Int.le_refl 0)

def offs (rows : List (List (Int × Int))) : Prop := (∀ r ∈ rows.flatten, isOff r) ∧ 0 < mx rows.flatten
instance (rows : List (List (Int × Int))) : Decidable (offs rows) := by unfold offs; infer_instance
theorem take_flat {α : Type} {rows : List (List α)} {i : Nat} (hi : i < rows.length) : (rows.take (i + 1)).flatten = (rows.take i).flatten ++ rows[i] := by
  rw [List.take_succ_eq_append_getElem hi, List.flatten_append]; simp
theorem take_one {α : Type} {l : List α} {k : Nat} (hk : k < l.length) : l.take (k + 1) = l.take k ++ [l[k]] := List.take_succ_eq_append_getElem hk

theorem areOffsets (a : AV) (rvs : List AV) (rows : List (List (Int × Int))) (m : Nat) (hn : rows.length ≤ 10) (hm : m ≤ 6) (h : H) (x : HullAt h a rvs rows m) :
    (om Try.prog KK).call (.fn 32 [a]) h = .ok (.bool (decide (offs rows))) h := by
  have wf := x.wf
  refine WV_to (WV_call (fn := Try.f32) Try.func32 rfl rfl rfl rfl rfl ?_)
  simp only [argF]
  have hlen : ∀ h', lenE Try.prog 22 a h' = some (ii (rows.length : Int)) := fun h' => x.sl.len un_22
  have hio := fun r l w (hw : w ≤ h.clock + l.length) => isOffset r (X h l w) (wf.X hw)
  (repeat' (first
  | (with_reducible refine WC_seq ?_) | (refine WC_region ?_) | (with_reducible refine WC_skip ?_) | (with_reducible refine WC_label ?_) | (with_reducible refine WC_scope ?_) | (with_reducible refine WC_block ?_) | (with_reducible refine WC_ret ?_) | (with_reducible refine WC_exit ?_)
  | (with_reducible refine seqQ_norm ?_) | (with_reducible refine seqQ_ret ?_) | (with_reducible refine seqQ_exit ?_) | (with_reducible refine blkQ_norm ?_) | (with_reducible refine blkQ_ret ?_) | (with_reducible refine blkQ_here ?_) | (refine blkQ_out rfl ?_)
  | (refine WO_nil ?_)
  | (refine WD_nil ?_)
  | (refine WD_gate rfl rfl rfl rfl rfl fun K_ hK_ => ?_; simp only [upd_apply, asB_bool, asB_tup, ↓reduceIte, reduceCtorEq, Nat.reduceEqDiff, Bool.not_true, Bool.not_false]; refine hK_ _ ?_; clear hK_ K_)
  | (refine WO_gate rfl rfl rfl rfl rfl fun K_ hK_ => ?_; simp only [upd_apply, asB_bool, asB_tup, ↓reduceIte, reduceCtorEq, Nat.reduceEqDiff, Bool.not_true, Bool.not_false]; refine hK_ _ ?_; clear hK_ K_)
  | (with_reducible refine gateK_yes ?_) | (refine gateK_no (by decide) ?_) | (with_reducible refine gateK_none ?_)
  | ((try first | refine WO_op rfl rfl rfl ?_ | refine WO_op0 rfl rfl ?_ | refine WD_op rfl rfl rfl ?_ | refine WD_op0 rfl rfl ?_); (refine WV_gen fun Q_ hQ_ => ?_; simp (disch := first | omega | (simp only [List.length_cons, List.length_nil, List.length_append]; omega)) only [bb, argF, ↓reduceIte, reduceCtorEq, Nat.reduceEqDiff, Nat.reduceLT, Nat.reduceLeDiff, Nat.reduceAdd, Nat.reduceMul, Nat.reduceSub, Nat.reduceBEq, Int.reduceToNat, List.append_assoc, List.length_append, cond_true, cond_false, List.length_cons, List.length_nil, List.cons_append, List.nil_append, List.append_nil, List.getElem?_cons_zero, List.getElem?_cons_succ, List.set_cons_zero, List.set_cons_succ, List.drop_zero, List.drop_succ_cons, List.take_zero, List.take_succ_cons, List.take_nil, List.drop_nil, eq_self, List.toList_toArray, beq_self_eq_true, hlen, newPtr_X wf, load1_X wf, loadAgg_X wf, store1_X wf, writeCells_X wf, makeFunc_def, bs_91, bs_29, bsl_47, newSlice_X wf, ia_29, sz_29, ze_29, ia_2, sz_2, ze_2, ia_3, sz_3, ia_47, sz_47, ia_46, sz_46, ia_22, sz_22, ik_47, ik_46, ik_22, ia_70, sz_70, ze_70, fo_70_0, fo_70_1, fo_24_0, fo_24_1, fo_24_2, ia_24, sz_24, pb_31, pb_32, pb_50, pb_11]; first | (refine dec_split (Q := Q_) (fun hp_ => ?_) (fun hp_ => ?_) <;> first | (exfalso; omega) | (refine hQ_ _ _ ?_; clear hQ_ Q_)) | (refine dec_splitn (Q := Q_) (fun hp_ => ?_) (fun hp_ => ?_) <;> first | (exfalso; omega) | (refine hQ_ _ _ ?_; clear hQ_ Q_)) | (refine hQ_ _ _ ?_; clear hQ_ Q_)))
  | (refine WC_cond fun K_ hK_ => ?_; simp (disch := omega) only [evT_tmp, upd_apply, WB_some, ↓reduceIte, reduceCtorEq, Nat.reduceEqDiff, Nat.reduceLT]; refine hK_ _ ?_; clear hK_ K_)
  | (with_reducible refine condK_tt ?_) | (with_reducible refine condK_ff ?_) | (with_reducible refine roundQ_exit ?_) | (with_reducible refine roundQ_ret ?_)))
  refine WC_loop (fun (i : Nat) f d h' => i ≤ rows.length ∧ (∀ r ∈ (rows.take i).flatten, isOff r) ∧ f 3 = ii (mx (rows.take i).flatten) ∧ f 8 = a ∧ f 9 = ii (rows.length : Int) ∧ f 10 = ii (i : Int) ∧ d = [] ∧ ∃ J, h' = X h J h.clock) (fun i => rows.length - i) ?_ (rows.length + 1) 0 (by omega) ?_
  · rintro i f d h' ⟨hi', hall, g3, g8, g9, g10, rfl, J, rfl⟩
    by_cases hlt : i < rows.length
    · obtain ⟨v, hv, hsv, hrl⟩ := x.row i hlt
      obtain ⟨id, off, hix, hld⟩ := x.sl.at1 wf hlt ik_22
      rw [hv] at hld
      have hlenv : ∀ h', lenE Try.prog 46 v h' = some (ii (m : Int)) := fun h' => hsv.len un_46
      (repeat' (first
  | (with_reducible refine WC_seq ?_) | (refine WC_region ?_) | (with_reducible refine WC_skip ?_) | (with_reducible refine WC_label ?_) | (with_reducible refine WC_scope ?_) | (with_reducible refine WC_block ?_) | (with_reducible refine WC_ret ?_) | (with_reducible refine WC_exit ?_)
  | (with_reducible refine seqQ_norm ?_) | (with_reducible refine seqQ_ret ?_) | (with_reducible refine seqQ_exit ?_) | (with_reducible refine blkQ_norm ?_) | (with_reducible refine blkQ_ret ?_) | (with_reducible refine blkQ_here ?_) | (refine blkQ_out rfl ?_)
  | (refine WO_nil ?_)
  | (refine WD_nil ?_)
  | (refine WD_gate rfl rfl rfl rfl rfl fun K_ hK_ => ?_; simp only [upd_apply, asB_bool, asB_tup, ↓reduceIte, reduceCtorEq, Nat.reduceEqDiff, Bool.not_true, Bool.not_false]; refine hK_ _ ?_; clear hK_ K_)
  | (refine WO_gate rfl rfl rfl rfl rfl fun K_ hK_ => ?_; simp only [upd_apply, asB_bool, asB_tup, ↓reduceIte, reduceCtorEq, Nat.reduceEqDiff, Bool.not_true, Bool.not_false]; refine hK_ _ ?_; clear hK_ K_)
  | (with_reducible refine gateK_yes ?_) | (refine gateK_no (by decide) ?_) | (with_reducible refine gateK_none ?_)
  | ((try first | refine WO_op rfl rfl rfl ?_ | refine WO_op0 rfl rfl ?_ | refine WD_op rfl rfl rfl ?_ | refine WD_op0 rfl rfl ?_); (refine WV_gen fun Q_ hQ_ => ?_; simp (disch := first | omega | (simp only [List.length_cons, List.length_nil, List.length_append]; omega)) only [bb, argF, ↓reduceIte, reduceCtorEq, Nat.reduceEqDiff, Nat.reduceLT, Nat.reduceLeDiff, Nat.reduceAdd, Nat.reduceMul, Nat.reduceSub, Nat.reduceBEq, Int.reduceToNat, List.append_assoc, List.length_append, cond_true, cond_false, List.length_cons, List.length_nil, List.cons_append, List.nil_append, List.append_nil, List.getElem?_cons_zero, List.getElem?_cons_succ, List.set_cons_zero, List.set_cons_succ, List.drop_zero, List.drop_succ_cons, List.take_zero, List.take_succ_cons, List.take_nil, List.drop_nil, eq_self, List.toList_toArray, beq_self_eq_true, g3, g8, g9, g10, hix, hld, hlenv, newPtr_X wf, load1_X wf, loadAgg_X wf, store1_X wf, writeCells_X wf, makeFunc_def, bs_91, bs_29, bsl_47, newSlice_X wf, ia_29, sz_29, ze_29, ia_2, sz_2, ze_2, ia_3, sz_3, ia_47, sz_47, ia_46, sz_46, ia_22, sz_22, ik_47, ik_46, ik_22, ia_70, sz_70, ze_70, fo_70_0, fo_70_1, fo_24_0, fo_24_1, fo_24_2, ia_24, sz_24, pb_31, pb_32, pb_50, pb_11]; first | (refine dec_split (Q := Q_) (fun hp_ => ?_) (fun hp_ => ?_) <;> first | (exfalso; omega) | (refine hQ_ _ _ ?_; clear hQ_ Q_)) | (refine dec_splitn (Q := Q_) (fun hp_ => ?_) (fun hp_ => ?_) <;> first | (exfalso; omega) | (refine hQ_ _ _ ?_; clear hQ_ Q_)) | (refine hQ_ _ _ ?_; clear hQ_ Q_)))
  | (refine WC_cond fun K_ hK_ => ?_; simp (disch := omega) only [evT_tmp, upd_apply, WB_some, ↓reduceIte, reduceCtorEq, Nat.reduceEqDiff, Nat.reduceLT]; refine hK_ _ ?_; clear hK_ K_)
  | (with_reducible refine condK_tt ?_) | (with_reducible refine condK_ff ?_) | (with_reducible refine roundQ_exit ?_) | (with_reducible refine roundQ_ret ?_)))
      refine WC_loop (fun (k : Nat) f d h' => k ≤ m ∧ (∀ r ∈ (rows.take i).flatten ++ rows[i].take k, isOff r) ∧ f 3 = ii (mx ((rows.take i).flatten ++ rows[i].take k)) ∧ f 8 = a ∧ f 9 = ii (rows.length : Int) ∧ f 10 = ii (i : Int) ∧ f 14 = v ∧ f 15 = ii (m : Int) ∧ f 16 = ii (k : Int) ∧ d = [] ∧ ∃ J, h' = X h J h.clock)
        (fun k => m - k) ?_ (m + 1) 0 (by omega) ?_
      · clear g3 g8 g9 g10 hall
        rintro k f d h' ⟨hk, hall, g3, g8, g9, g10, g14, g15, g16, rfl, J, rfl⟩
        by_cases hkl : k < m
        · obtain ⟨id, off, hix, hld⟩ := hsv.at wf hkl ik_46
          have hkr : k < rows[i].length := by omega
          have hrow : ∀ l w, loadAgg id off (some 2) (X h l w) = some (.agg [ii rows[i][k].1, ii rows[i][k].2]) := fun l w => by rw [(hld l w).2, pairCells_at hkr]
          (repeat' (first
  | (with_reducible refine WC_seq ?_) | (refine WC_region ?_) | (with_reducible refine WC_skip ?_) | (with_reducible refine WC_label ?_) | (with_reducible refine WC_scope ?_) | (with_reducible refine WC_block ?_) | (with_reducible refine WC_ret ?_) | (with_reducible refine WC_exit ?_)
  | (with_reducible refine seqQ_norm ?_) | (with_reducible refine seqQ_ret ?_) | (with_reducible refine seqQ_exit ?_) | (with_reducible refine blkQ_norm ?_) | (with_reducible refine blkQ_ret ?_) | (with_reducible refine blkQ_here ?_) | (refine blkQ_out rfl ?_)
  | (refine WO_nil ?_)
  | (refine WD_nil ?_)
  | (refine WD_gate rfl rfl rfl rfl rfl fun K_ hK_ => ?_; simp only [upd_apply, asB_bool, asB_tup, ↓reduceIte, reduceCtorEq, Nat.reduceEqDiff, Bool.not_true, Bool.not_false]; refine hK_ _ ?_; clear hK_ K_)
  | (refine WO_gate rfl rfl rfl rfl rfl fun K_ hK_ => ?_; simp only [upd_apply, asB_bool, asB_tup, ↓reduceIte, reduceCtorEq, Nat.reduceEqDiff, Bool.not_true, Bool.not_false]; refine hK_ _ ?_; clear hK_ K_)
  | (with_reducible refine gateK_yes ?_) | (refine gateK_no (by decide) ?_) | (with_reducible refine gateK_none ?_)
  | ((try first | refine WO_op rfl rfl rfl ?_ | refine WO_op0 rfl rfl ?_ | refine WD_op rfl rfl rfl ?_ | refine WD_op0 rfl rfl ?_); (refine WV_gen fun Q_ hQ_ => ?_; simp (disch := first | omega | (simp only [List.length_cons, List.length_nil, List.length_append]; omega)) only [bb, argF, ↓reduceIte, reduceCtorEq, Nat.reduceEqDiff, Nat.reduceLT, Nat.reduceLeDiff, Nat.reduceAdd, Nat.reduceMul, Nat.reduceSub, Nat.reduceBEq, Int.reduceToNat, List.append_assoc, List.length_append, cond_true, cond_false, List.length_cons, List.length_nil, List.cons_append, List.nil_append, List.append_nil, List.getElem?_cons_zero, List.getElem?_cons_succ, List.set_cons_zero, List.set_cons_succ, List.drop_zero, List.drop_succ_cons, List.take_zero, List.take_succ_cons, List.take_nil, List.drop_nil, eq_self, List.toList_toArray, beq_self_eq_true, g3, g8, g9, g10, g14, g15, g16, hix, hrow, hio, newPtr_X wf, load1_X wf, loadAgg_X wf, store1_X wf, writeCells_X wf, makeFunc_def, bs_91, bs_29, bsl_47, newSlice_X wf, ia_29, sz_29, ze_29, ia_2, sz_2, ze_2, ia_3, sz_3, ia_47, sz_47, ia_46, sz_46, ia_22, sz_22, ik_47, ik_46, ik_22, ia_70, sz_70, ze_70, fo_70_0, fo_70_1, fo_24_0, fo_24_1, fo_24_2, ia_24, sz_24, pb_31, pb_32, pb_50, pb_11]; first | (refine dec_split (Q := Q_) (fun hp_ => ?_) (fun hp_ => ?_) <;> first | (exfalso; omega) | (refine hQ_ _ _ ?_; clear hQ_ Q_)) | (refine dec_splitn (Q := Q_) (fun hp_ => ?_) (fun hp_ => ?_) <;> first | (exfalso; omega) | (refine hQ_ _ _ ?_; clear hQ_ Q_)) | (refine hQ_ _ _ ?_; clear hQ_ Q_)))
  | (refine WC_cond fun K_ hK_ => ?_; simp (disch := omega) only [evT_tmp, upd_apply, WB_some, ↓reduceIte, reduceCtorEq, Nat.reduceEqDiff, Nat.reduceLT]; refine hK_ _ ?_; clear hK_ K_)
  | (with_reducible refine condK_tt ?_) | (with_reducible refine condK_ff ?_) | (with_reducible refine roundQ_exit ?_) | (with_reducible refine roundQ_ret ?_)))
          · refine roundQ_again (k + 1) (by omega) ⟨hkl, ?_, ?_, by simp only [upd_apply, ↓reduceIte, reduceCtorEq, Nat.reduceEqDiff]; exact g8, by simp only [upd_apply, ↓reduceIte, reduceCtorEq, Nat.reduceEqDiff]; exact g9, by simp only [upd_apply, ↓reduceIte, reduceCtorEq, Nat.reduceEqDiff]; exact g10, by simp only [upd_apply, ↓reduceIte, reduceCtorEq, Nat.reduceEqDiff]; exact g14, by simp only [upd_apply, ↓reduceIte, reduceCtorEq, Nat.reduceEqDiff]; exact g15, by simp only [upd_apply, ↓reduceIte, reduceCtorEq, Nat.reduceEqDiff]; rfl, rfl, _, rfl⟩
            · intro r hr
              rw [take_one hkr, ← List.append_assoc] at hr
              rcases List.mem_append.1 hr with hr | hr
              · exact hall r hr
              · rw [List.mem_singleton.1 hr]; assumption
            · simp only [upd_apply, ↓reduceIte, reduceCtorEq, Nat.reduceEqDiff]
              rw [take_one hkr, ← List.append_assoc, mx_snoc]
          · (refine endQ_ret _ _ rfl (ret1 (by decide)) ?_; simp only [upd_apply, ↓reduceIte, reduceCtorEq, Nat.reduceEqDiff]; refine WV_flat rfl (by omega) ?_)
            refine ⟨?_, rfl⟩
            rw [decide_eq_false (fun hh => absurd (hh.1 rows[i][k] (List.mem_flatten.2 ⟨rows[i], List.getElem_mem _, List.getElem_mem _⟩)) (by assumption))]
        · have hke : k = m := by omega
          have htk : rows[i].take k = rows[i] := List.take_of_length_le (by omega)
          rw [htk, ← take_flat hlt] at hall g3
          (repeat' (first
  | (with_reducible refine WC_seq ?_) | (refine WC_region ?_) | (with_reducible refine WC_skip ?_) | (with_reducible refine WC_label ?_) | (with_reducible refine WC_scope ?_) | (with_reducible refine WC_block ?_) | (with_reducible refine WC_ret ?_) | (with_reducible refine WC_exit ?_)
  | (with_reducible refine seqQ_norm ?_) | (with_reducible refine seqQ_ret ?_) | (with_reducible refine seqQ_exit ?_) | (with_reducible refine blkQ_norm ?_) | (with_reducible refine blkQ_ret ?_) | (with_reducible refine blkQ_here ?_) | (refine blkQ_out rfl ?_)
  | (refine WO_nil ?_)
  | (refine WD_nil ?_)
  | (refine WD_gate rfl rfl rfl rfl rfl fun K_ hK_ => ?_; simp only [upd_apply, asB_bool, asB_tup, ↓reduceIte, reduceCtorEq, Nat.reduceEqDiff, Bool.not_true, Bool.not_false]; refine hK_ _ ?_; clear hK_ K_)
  | (refine WO_gate rfl rfl rfl rfl rfl fun K_ hK_ => ?_; simp only [upd_apply, asB_bool, asB_tup, ↓reduceIte, reduceCtorEq, Nat.reduceEqDiff, Bool.not_true, Bool.not_false]; refine hK_ _ ?_; clear hK_ K_)
  | (with_reducible refine gateK_yes ?_) | (refine gateK_no (by decide) ?_) | (with_reducible refine gateK_none ?_)
  | ((try first | refine WO_op rfl rfl rfl ?_ | refine WO_op0 rfl rfl ?_ | refine WD_op rfl rfl rfl ?_ | refine WD_op0 rfl rfl ?_); (refine WV_gen fun Q_ hQ_ => ?_; simp (disch := first | omega | (simp only [List.length_cons, List.length_nil, List.length_append]; omega)) only [bb, argF, ↓reduceIte, reduceCtorEq, Nat.reduceEqDiff, Nat.reduceLT, Nat.reduceLeDiff, Nat.reduceAdd, Nat.reduceMul, Nat.reduceSub, Nat.reduceBEq, Int.reduceToNat, List.append_assoc, List.length_append, cond_true, cond_false, List.length_cons, List.length_nil, List.cons_append, List.nil_append, List.append_nil, List.getElem?_cons_zero, List.getElem?_cons_succ, List.set_cons_zero, List.set_cons_succ, List.drop_zero, List.drop_succ_cons, List.take_zero, List.take_succ_cons, List.take_nil, List.drop_nil, eq_self, List.toList_toArray, beq_self_eq_true, g3, g8, g9, g10, g14, g15, g16, newPtr_X wf, load1_X wf, loadAgg_X wf, store1_X wf, writeCells_X wf, makeFunc_def, bs_91, bs_29, bsl_47, newSlice_X wf, ia_29, sz_29, ze_29, ia_2, sz_2, ze_2, ia_3, sz_3, ia_47, sz_47, ia_46, sz_46, ia_22, sz_22, ik_47, ik_46, ik_22, ia_70, sz_70, ze_70, fo_70_0, fo_70_1, fo_24_0, fo_24_1, fo_24_2, ia_24, sz_24, pb_31, pb_32, pb_50, pb_11]; first | (refine dec_split (Q := Q_) (fun hp_ => ?_) (fun hp_ => ?_) <;> first | (exfalso; omega) | (refine hQ_ _ _ ?_; clear hQ_ Q_)) | (refine dec_splitn (Q := Q_) (fun hp_ => ?_) (fun hp_ => ?_) <;> first | (exfalso; omega) | (refine hQ_ _ _ ?_; clear hQ_ Q_)) | (refine hQ_ _ _ ?_; clear hQ_ Q_)))
  | (refine WC_cond fun K_ hK_ => ?_; simp (disch := omega) only [evT_tmp, upd_apply, WB_some, ↓reduceIte, reduceCtorEq, Nat.reduceEqDiff, Nat.reduceLT]; refine hK_ _ ?_; clear hK_ K_)
  | (with_reducible refine condK_tt ?_) | (with_reducible refine condK_ff ?_) | (with_reducible refine roundQ_exit ?_) | (with_reducible refine roundQ_ret ?_)))
          refine roundQ_again (i + 1) (by omega) ⟨hlt, hall, by simp only [upd_apply, ↓reduceIte, reduceCtorEq, Nat.reduceEqDiff]; exact g3, by simp only [upd_apply, ↓reduceIte, reduceCtorEq, Nat.reduceEqDiff]; exact g8, by simp only [upd_apply, ↓reduceIte, reduceCtorEq, Nat.reduceEqDiff]; exact g9, by simp only [upd_apply, ↓reduceIte, reduceCtorEq, Nat.reduceEqDiff]; rfl, rfl, _, rfl⟩
      · exact ⟨Nat.zero_le _, by simpa using hall, by simp only [upd_apply, ↓reduceIte, reduceCtorEq, Nat.reduceEqDiff]; simpa using g3, by simp only [upd_apply, ↓reduceIte, reduceCtorEq, Nat.reduceEqDiff]; exact g8, by simp only [upd_apply, ↓reduceIte, reduceCtorEq, Nat.reduceEqDiff]; exact g9, by simp only [upd_apply, ↓reduceIte, reduceCtorEq, Nat.reduceEqDiff]; exact g10, by simp only [upd_apply, ↓reduceIte, reduceCtorEq, Nat.reduceEqDiff], by simp only [upd_apply, ↓reduceIte, reduceCtorEq, Nat.reduceEqDiff], by simp only [upd_apply, ↓reduceIte, reduceCtorEq, Nat.reduceEqDiff]; rfl, rfl, _, rfl⟩
    · have hie : i = rows.length := by omega
      subst hie
      rw [List.take_length] at hall g3
      (repeat' (first
  | (with_reducible refine WC_seq ?_) | (refine WC_region ?_) | (with_reducible refine WC_skip ?_) | (with_reducible refine WC_label ?_) | (with_reducible refine WC_scope ?_) | (with_reducible refine WC_block ?_) | (with_reducible refine WC_ret ?_) | (with_reducible refine WC_exit ?_)
  | (with_reducible refine seqQ_norm ?_) | (with_reducible refine seqQ_ret ?_) | (with_reducible refine seqQ_exit ?_) | (with_reducible refine blkQ_norm ?_) | (with_reducible refine blkQ_ret ?_) | (with_reducible refine blkQ_here ?_) | (refine blkQ_out rfl ?_)
  | (refine WO_nil ?_)
  | (refine WD_nil ?_)
  | (refine WD_gate rfl rfl rfl rfl rfl fun K_ hK_ => ?_; simp only [upd_apply, asB_bool, asB_tup, ↓reduceIte, reduceCtorEq, Nat.reduceEqDiff, Bool.not_true, Bool.not_false]; refine hK_ _ ?_; clear hK_ K_)
  | (refine WO_gate rfl rfl rfl rfl rfl fun K_ hK_ => ?_; simp only [upd_apply, asB_bool, asB_tup, ↓reduceIte, reduceCtorEq, Nat.reduceEqDiff, Bool.not_true, Bool.not_false]; refine hK_ _ ?_; clear hK_ K_)
  | (with_reducible refine gateK_yes ?_) | (refine gateK_no (by decide) ?_) | (with_reducible refine gateK_none ?_)
  | ((try first | refine WO_op rfl rfl rfl ?_ | refine WO_op0 rfl rfl ?_ | refine WD_op rfl rfl rfl ?_ | refine WD_op0 rfl rfl ?_); (refine WV_gen fun Q_ hQ_ => ?_; simp (disch := first | omega | (simp only [List.length_cons, List.length_nil, List.length_append]; omega)) only [bb, argF, ↓reduceIte, reduceCtorEq, Nat.reduceEqDiff, Nat.reduceLT, Nat.reduceLeDiff, Nat.reduceAdd, Nat.reduceMul, Nat.reduceSub, Nat.reduceBEq, Int.reduceToNat, List.append_assoc, List.length_append, cond_true, cond_false, List.length_cons, List.length_nil, List.cons_append, List.nil_append, List.append_nil, List.getElem?_cons_zero, List.getElem?_cons_succ, List.set_cons_zero, List.set_cons_succ, List.drop_zero, List.drop_succ_cons, List.take_zero, List.take_succ_cons, List.take_nil, List.drop_nil, eq_self, List.toList_toArray, beq_self_eq_true, g3, g8, g9, g10, newPtr_X wf, load1_X wf, loadAgg_X wf, store1_X wf, writeCells_X wf, makeFunc_def, bs_91, bs_29, bsl_47, newSlice_X wf, ia_29, sz_29, ze_29, ia_2, sz_2, ze_2, ia_3, sz_3, ia_47, sz_47, ia_46, sz_46, ia_22, sz_22, ik_47, ik_46, ik_22, ia_70, sz_70, ze_70, fo_70_0, fo_70_1, fo_24_0, fo_24_1, fo_24_2, ia_24, sz_24, pb_31, pb_32, pb_50, pb_11]; first | (refine dec_split (Q := Q_) (fun hp_ => ?_) (fun hp_ => ?_) <;> first | (exfalso; omega) | (refine hQ_ _ _ ?_; clear hQ_ Q_)) | (refine dec_splitn (Q := Q_) (fun hp_ => ?_) (fun hp_ => ?_) <;> first | (exfalso; omega) | (refine hQ_ _ _ ?_; clear hQ_ Q_)) | (refine hQ_ _ _ ?_; clear hQ_ Q_)))
  | (refine WC_cond fun K_ hK_ => ?_; simp (disch := omega) only [evT_tmp, upd_apply, WB_some, ↓reduceIte, reduceCtorEq, Nat.reduceEqDiff, Nat.reduceLT]; refine hK_ _ ?_; clear hK_ K_)
  | (with_reducible refine condK_tt ?_) | (with_reducible refine condK_ff ?_) | (with_reducible refine roundQ_exit ?_) | (with_reducible refine roundQ_ret ?_)))
      · (refine endQ_ret _ _ rfl (ret1 (by decide)) ?_; simp only [upd_apply, ↓reduceIte, reduceCtorEq, Nat.reduceEqDiff]; refine WV_flat rfl (by omega) ?_)
        exact ⟨by rw [decide_eq_true ⟨hall, by assumption⟩], rfl⟩
      · (refine endQ_ret _ _ rfl (ret1 (by decide)) ?_; simp only [upd_apply, ↓reduceIte, reduceCtorEq, Nat.reduceEqDiff]; refine WV_flat rfl (by omega) ?_)
        exact ⟨by rw [decide_eq_false (fun hh => absurd hh.2 (by assumption))], rfl⟩
  · exact ⟨Nat.zero_le _, by simp, by simp only [upd_apply, ↓reduceIte, reduceCtorEq, Nat.reduceEqDiff]; rfl, by simp only [upd_apply, ↓reduceIte, reduceCtorEq, Nat.reduceEqDiff], by simp only [upd_apply, ↓reduceIte, reduceCtorEq, Nat.reduceEqDiff], by simp only [upd_apply, ↓reduceIte, reduceCtorEq, Nat.reduceEqDiff]; rfl, rfl, [], rfl⟩

/-- The first row's length. -/
def m0 (rows : List (List (Int × Int))) : Nat := (rows.getD 0 []).length
/-- What a hull's check answers. -/
def hullErr (sp st : Int) (rows : List (List (Int × Int))) : Int :=
  if ¬ (2 ≤ rows.length ∧ rows.length ≤ 10) then 6 else if ¬ (2 ≤ m0 rows ∧ m0 rows ≤ 6) then 6 else if ¬ (∀ row ∈ rows, row.length = m0 rows) then 15
  else if ¬ ((1 ≤ sp ∧ sp ≤ 1000) ∧ (1 ≤ st ∧ st ≤ 100) ∧ offs rows) then 2 else 0

theorem checkHull (sp st : Int) (a : AV) (rvs : List AV) (rows : List (List (Int × Int))) (h : H) (x : HullR h a rvs rows) :
    (om Try.prog KK).call (.fn 11 [.agg [ii sp, ii st, a]]) h = .ok (ii (hullErr sp st rows)) h := by
  have wf := x.wf
  refine WV_to (WV_call (fn := Try.f11) Try.func11 rfl rfl rfl rfl rfl ?_)
  simp only [argF]
  have hlen : ∀ h', lenE Try.prog 22 a h' = some (ii (rows.length : Int)) := fun h' => x.sl.len un_22
  by_cases hn : 2 ≤ rows.length ∧ rows.length ≤ 10
  · have h0 : 0 < rows.length := by omega
    obtain ⟨v0, hv0, hsv0⟩ := x.row 0 h0
    obtain ⟨id, off, hix, hld⟩ := x.sl.at1 wf h0 ik_22
    rw [hv0] at hld
    have hix' : indexAddrE Try.prog 22 a (.int .i64 0) = some (.ptr id off) := hix
    have em : m0 rows = rows[0].length := by unfold m0; simp [List.getD, h0]
    have hlen0 : ∀ h', lenE Try.prog 46 v0 h' = some (ii (m0 rows : Int)) := fun h' => by rw [em]; exact hsv0.len un_46
    by_cases hm : 2 ≤ m0 rows ∧ m0 rows ≤ 6
    · (repeat' (first
  | (with_reducible refine WC_seq ?_) | (refine WC_region ?_) | (with_reducible refine WC_skip ?_) | (with_reducible refine WC_label ?_) | (with_reducible refine WC_scope ?_) | (with_reducible refine WC_block ?_) | (with_reducible refine WC_ret ?_) | (with_reducible refine WC_exit ?_)
  | (with_reducible refine seqQ_norm ?_) | (with_reducible refine seqQ_ret ?_) | (with_reducible refine seqQ_exit ?_) | (with_reducible refine blkQ_norm ?_) | (with_reducible refine blkQ_ret ?_) | (with_reducible refine blkQ_here ?_) | (refine blkQ_out rfl ?_)
  | (refine WO_nil ?_)
  | (refine WD_nil ?_)
  | (refine WD_gate rfl rfl rfl rfl rfl fun K_ hK_ => ?_; simp only [upd_apply, asB_bool, asB_tup, ↓reduceIte, reduceCtorEq, Nat.reduceEqDiff, Bool.not_true, Bool.not_false]; refine hK_ _ ?_; clear hK_ K_)
  | (refine WO_gate rfl rfl rfl rfl rfl fun K_ hK_ => ?_; simp only [upd_apply, asB_bool, asB_tup, ↓reduceIte, reduceCtorEq, Nat.reduceEqDiff, Bool.not_true, Bool.not_false]; refine hK_ _ ?_; clear hK_ K_)
  | (with_reducible refine gateK_yes ?_) | (refine gateK_no (by decide) ?_) | (with_reducible refine gateK_none ?_)
  | ((try first | refine WO_op rfl rfl rfl ?_ | refine WO_op0 rfl rfl ?_ | refine WD_op rfl rfl rfl ?_ | refine WD_op0 rfl rfl ?_); (refine WV_gen fun Q_ hQ_ => ?_; simp (disch := first | omega | (simp only [List.length_cons, List.length_nil, List.length_append]; omega)) only [bb, argF, ↓reduceIte, reduceCtorEq, Nat.reduceEqDiff, Nat.reduceLT, Nat.reduceLeDiff, Nat.reduceAdd, Nat.reduceMul, Nat.reduceSub, Nat.reduceBEq, Int.reduceToNat, List.append_assoc, List.length_append, cond_true, cond_false, List.length_cons, List.length_nil, List.cons_append, List.nil_append, List.append_nil, List.getElem?_cons_zero, List.getElem?_cons_succ, List.set_cons_zero, List.set_cons_succ, List.drop_zero, List.drop_succ_cons, List.take_zero, List.take_succ_cons, List.take_nil, List.drop_nil, eq_self, List.toList_toArray, beq_self_eq_true, hlen, hix', hld, hlen0, newPtr_X wf, load1_X wf, loadAgg_X wf, store1_X wf, writeCells_X wf, makeFunc_def, bs_91, bs_29, bsl_47, newSlice_X wf, ia_29, sz_29, ze_29, ia_2, sz_2, ze_2, ia_3, sz_3, ia_47, sz_47, ia_46, sz_46, ia_22, sz_22, ik_47, ik_46, ik_22, ia_70, sz_70, ze_70, fo_70_0, fo_70_1, fo_24_0, fo_24_1, fo_24_2, ia_24, sz_24, pb_31, pb_32, pb_50, pb_11]; first | (refine dec_split (Q := Q_) (fun hp_ => ?_) (fun hp_ => ?_) <;> first | (exfalso; omega) | (refine hQ_ _ _ ?_; clear hQ_ Q_)) | (refine dec_splitn (Q := Q_) (fun hp_ => ?_) (fun hp_ => ?_) <;> first | (exfalso; omega) | (refine hQ_ _ _ ?_; clear hQ_ Q_)) | (refine hQ_ _ _ ?_; clear hQ_ Q_)))
  | (refine WC_cond fun K_ hK_ => ?_; simp (disch := omega) only [evT_tmp, upd_apply, WB_some, ↓reduceIte, reduceCtorEq, Nat.reduceEqDiff, Nat.reduceLT]; refine hK_ _ ?_; clear hK_ K_)
  | (with_reducible refine condK_tt ?_) | (with_reducible refine condK_ff ?_) | (with_reducible refine roundQ_exit ?_) | (with_reducible refine roundQ_ret ?_)))
      refine WC_loop (fun (i : Nat) f d h' => i ≤ rows.length ∧ (∀ j, j < i → ∀ hj : j < rows.length, rows[j].length = m0 rows) ∧ f 1 = .ptr (nx h 0) 0 ∧ f 4 = ii (m0 rows : Int) ∧ f 28 = a ∧ f 29 = ii (rows.length : Int) ∧ f 30 = ii (i : Int) ∧ d = [] ∧ h' = X h [.cells (mkCells [ii sp, ii st, a]) 24] h.clock)
        (fun i => rows.length - i) ?_ (rows.length + 1) 0 (by omega) ?_
      · rintro i f d h' ⟨hi', hall, g1, g4, g28, g29, g30, rfl, rfl⟩
        by_cases hlt : i < rows.length
        · obtain ⟨v, hv, hsv⟩ := x.row i hlt
          obtain ⟨id, off, hix, hld⟩ := x.sl.at1 wf hlt ik_22
          rw [hv] at hld
          have hlenv : ∀ h', lenE Try.prog 46 v h' = some (ii (rows[i].length : Int)) := fun h' => hsv.len un_46
          (repeat' (first
  | (with_reducible refine WC_seq ?_) | (refine WC_region ?_) | (with_reducible refine WC_skip ?_) | (with_reducible refine WC_label ?_) | (with_reducible refine WC_scope ?_) | (with_reducible refine WC_block ?_) | (with_reducible refine WC_ret ?_) | (with_reducible refine WC_exit ?_)
  | (with_reducible refine seqQ_norm ?_) | (with_reducible refine seqQ_ret ?_) | (with_reducible refine seqQ_exit ?_) | (with_reducible refine blkQ_norm ?_) | (with_reducible refine blkQ_ret ?_) | (with_reducible refine blkQ_here ?_) | (refine blkQ_out rfl ?_)
  | (refine WO_nil ?_)
  | (refine WD_nil ?_)
  | (refine WD_gate rfl rfl rfl rfl rfl fun K_ hK_ => ?_; simp only [upd_apply, asB_bool, asB_tup, ↓reduceIte, reduceCtorEq, Nat.reduceEqDiff, Bool.not_true, Bool.not_false]; refine hK_ _ ?_; clear hK_ K_)
  | (refine WO_gate rfl rfl rfl rfl rfl fun K_ hK_ => ?_; simp only [upd_apply, asB_bool, asB_tup, ↓reduceIte, reduceCtorEq, Nat.reduceEqDiff, Bool.not_true, Bool.not_false]; refine hK_ _ ?_; clear hK_ K_)
  | (with_reducible refine gateK_yes ?_) | (refine gateK_no (by decide) ?_) | (with_reducible refine gateK_none ?_)
  | ((try first | refine WO_op rfl rfl rfl ?_ | refine WO_op0 rfl rfl ?_ | refine WD_op rfl rfl rfl ?_ | refine WD_op0 rfl rfl ?_); (refine WV_gen fun Q_ hQ_ => ?_; simp (disch := first | omega | (simp only [List.length_cons, List.length_nil, List.length_append]; omega)) only [bb, argF, ↓reduceIte, reduceCtorEq, Nat.reduceEqDiff, Nat.reduceLT, Nat.reduceLeDiff, Nat.reduceAdd, Nat.reduceMul, Nat.reduceSub, Nat.reduceBEq, Int.reduceToNat, List.append_assoc, List.length_append, cond_true, cond_false, List.length_cons, List.length_nil, List.cons_append, List.nil_append, List.append_nil, List.getElem?_cons_zero, List.getElem?_cons_succ, List.set_cons_zero, List.set_cons_succ, List.drop_zero, List.drop_succ_cons, List.take_zero, List.take_succ_cons, List.take_nil, List.drop_nil, eq_self, List.toList_toArray, beq_self_eq_true, g1, g4, g28, g29, g30, hix, hld, hlenv, newPtr_X wf, load1_X wf, loadAgg_X wf, store1_X wf, writeCells_X wf, makeFunc_def, bs_91, bs_29, bsl_47, newSlice_X wf, ia_29, sz_29, ze_29, ia_2, sz_2, ze_2, ia_3, sz_3, ia_47, sz_47, ia_46, sz_46, ia_22, sz_22, ik_47, ik_46, ik_22, ia_70, sz_70, ze_70, fo_70_0, fo_70_1, fo_24_0, fo_24_1, fo_24_2, ia_24, sz_24, pb_31, pb_32, pb_50, pb_11]; first | (refine dec_split (Q := Q_) (fun hp_ => ?_) (fun hp_ => ?_) <;> first | (exfalso; omega) | (refine hQ_ _ _ ?_; clear hQ_ Q_)) | (refine dec_splitn (Q := Q_) (fun hp_ => ?_) (fun hp_ => ?_) <;> first | (exfalso; omega) | (refine hQ_ _ _ ?_; clear hQ_ Q_)) | (refine hQ_ _ _ ?_; clear hQ_ Q_)))
  | (refine WC_cond fun K_ hK_ => ?_; simp (disch := omega) only [evT_tmp, upd_apply, WB_some, ↓reduceIte, reduceCtorEq, Nat.reduceEqDiff, Nat.reduceLT]; refine hK_ _ ?_; clear hK_ K_)
  | (with_reducible refine condK_tt ?_) | (with_reducible refine condK_ff ?_) | (with_reducible refine roundQ_exit ?_) | (with_reducible refine roundQ_ret ?_)))
          · refine roundQ_again (i + 1) (by omega) ⟨hlt, ?_, by simp only [upd_apply, ↓reduceIte, reduceCtorEq, Nat.reduceEqDiff]; exact g1, by simp only [upd_apply, ↓reduceIte, reduceCtorEq, Nat.reduceEqDiff]; exact g4, by simp only [upd_apply, ↓reduceIte, reduceCtorEq, Nat.reduceEqDiff]; exact g28, by simp only [upd_apply, ↓reduceIte, reduceCtorEq, Nat.reduceEqDiff]; exact g29, by simp only [upd_apply, ↓reduceIte, reduceCtorEq, Nat.reduceEqDiff]; rfl, rfl, rfl⟩
            intro j hj hjl
            by_cases hji : j = i
            · subst hji; omega
            · exact hall j (by omega) hjl
          · (refine endQ_ret _ _ rfl (ret1 (by decide)) ?_; simp only [upd_apply, ↓reduceIte, reduceCtorEq, Nat.reduceEqDiff]; refine WV_flat rfl (by omega) ?_)
            refine ⟨?_, rfl⟩
            unfold hullErr
            rw [if_neg (not_not_intro hn), if_neg (not_not_intro hm), if_pos (fun hh => by have := hh _ (List.getElem_mem hlt); omega)]
        · have hie : i = rows.length := by omega
          subst hie
          have hall2 : ∀ row ∈ rows, row.length = m0 rows := fun row hr => by
            obtain ⟨j, hj, rfl⟩ := List.getElem_of_mem hr
            exact hall j hj hj
          have xat := x.at (m := m0 rows) (by omega) (fun i hi => hall2 _ (List.getElem_mem hi))
          have hof : ∀ l w, w ≤ h.clock + l.length → (om Try.prog KK).call (.fn 32 [a]) (X h l w) = .ok (.bool (decide (offs rows))) (X h l w) := fun l w hw => areOffsets a rvs rows (m0 rows) hn.2 hm.2 _ (xat.up l w hw)
          (repeat' (first
  | (with_reducible refine WC_seq ?_) | (refine WC_region ?_) | (with_reducible refine WC_skip ?_) | (with_reducible refine WC_label ?_) | (with_reducible refine WC_scope ?_) | (with_reducible refine WC_block ?_) | (with_reducible refine WC_ret ?_) | (with_reducible refine WC_exit ?_)
  | (with_reducible refine seqQ_norm ?_) | (with_reducible refine seqQ_ret ?_) | (with_reducible refine seqQ_exit ?_) | (with_reducible refine blkQ_norm ?_) | (with_reducible refine blkQ_ret ?_) | (with_reducible refine blkQ_here ?_) | (refine blkQ_out rfl ?_)
  | (refine WO_nil ?_)
  | (refine WD_nil ?_)
  | (refine WD_gate rfl rfl rfl rfl rfl fun K_ hK_ => ?_; simp only [upd_apply, asB_bool, asB_tup, ↓reduceIte, reduceCtorEq, Nat.reduceEqDiff, Bool.not_true, Bool.not_false]; refine hK_ _ ?_; clear hK_ K_)
  | (refine WO_gate rfl rfl rfl rfl rfl fun K_ hK_ => ?_; simp only [upd_apply, asB_bool, asB_tup, ↓reduceIte, reduceCtorEq, Nat.reduceEqDiff, Bool.not_true, Bool.not_false]; refine hK_ _ ?_; clear hK_ K_)
  | (with_reducible refine gateK_yes ?_) | (refine gateK_no (by decide) ?_) | (with_reducible refine gateK_none ?_)
  | ((try first | refine WO_op rfl rfl rfl ?_ | refine WO_op0 rfl rfl ?_ | refine WD_op rfl rfl rfl ?_ | refine WD_op0 rfl rfl ?_); (refine WV_gen fun Q_ hQ_ => ?_; simp (disch := first | omega | (simp only [List.length_cons, List.length_nil, List.length_append]; omega)) only [bb, argF, ↓reduceIte, reduceCtorEq, Nat.reduceEqDiff, Nat.reduceLT, Nat.reduceLeDiff, Nat.reduceAdd, Nat.reduceMul, Nat.reduceSub, Nat.reduceBEq, Int.reduceToNat, List.append_assoc, List.length_append, cond_true, cond_false, List.length_cons, List.length_nil, List.cons_append, List.nil_append, List.append_nil, List.getElem?_cons_zero, List.getElem?_cons_succ, List.set_cons_zero, List.set_cons_succ, List.drop_zero, List.drop_succ_cons, List.take_zero, List.take_succ_cons, List.take_nil, List.drop_nil, eq_self, List.toList_toArray, beq_self_eq_true, g1, g4, g28, g29, g30, hof, newPtr_X wf, load1_X wf, loadAgg_X wf, store1_X wf, writeCells_X wf, makeFunc_def, bs_91, bs_29, bsl_47, newSlice_X wf, ia_29, sz_29, ze_29, ia_2, sz_2, ze_2, ia_3, sz_3, ia_47, sz_47, ia_46, sz_46, ia_22, sz_22, ik_47, ik_46, ik_22, ia_70, sz_70, ze_70, fo_70_0, fo_70_1, fo_24_0, fo_24_1, fo_24_2, ia_24, sz_24, pb_31, pb_32, pb_50, pb_11]; first | (refine dec_split (Q := Q_) (fun hp_ => ?_) (fun hp_ => ?_) <;> first | (exfalso; omega) | (refine hQ_ _ _ ?_; clear hQ_ Q_)) | (refine dec_splitn (Q := Q_) (fun hp_ => ?_) (fun hp_ => ?_) <;> first | (exfalso; omega) | (refine hQ_ _ _ ?_; clear hQ_ Q_)) | (refine hQ_ _ _ ?_; clear hQ_ Q_) | (refine WV_eq (within1 wf (by simp only [List.length_append, List.length_cons, List.length_nil]; omega) rfl) ?_; first | (refine dec_split (Q := Q_) (fun hp_ => ?_) (fun hp_ => ?_) <;> first | (exfalso; omega) | (refine hQ_ _ _ ?_; clear hQ_ Q_)) | (refine hQ_ _ _ ?_; clear hQ_ Q_)) | (refine WV_unmarkc (within1 wf (by simp only [List.length_append, List.length_cons, List.length_nil]; omega) rfl) ?_; first | (refine dec_split (Q := Q_) (fun hp_ => ?_) (fun hp_ => ?_) <;> first | (exfalso; omega) | (refine hQ_ _ _ ?_; clear hQ_ Q_)) | (refine hQ_ _ _ ?_; clear hQ_ Q_))))
  | (refine WC_cond fun K_ hK_ => ?_; simp (disch := omega) only [evT_tmp, upd_apply, WB_some, ↓reduceIte, reduceCtorEq, Nat.reduceEqDiff, Nat.reduceLT]; refine hK_ _ ?_; clear hK_ K_)
  | (with_reducible refine condK_tt ?_) | (with_reducible refine condK_ff ?_) | (with_reducible refine roundQ_exit ?_) | (with_reducible refine roundQ_ret ?_)))
          all_goals (refine endQ_ret _ _ rfl (ret1 (by decide)) ?_; simp only [upd_apply, ↓reduceIte, reduceCtorEq, Nat.reduceEqDiff]; refine WV_flat rfl (by omega) ?_)
          all_goals refine ⟨?_, rfl⟩
          all_goals unfold hullErr
          all_goals rw [if_neg (not_not_intro hn), if_neg (not_not_intro hm), if_neg (not_not_intro hall2)]
          all_goals first
            | rw [if_neg (not_not_intro ⟨by assumption, by assumption, by assumption⟩)]
            | rw [if_pos (fun hh => absurd hh.1 (by assumption))]
            | rw [if_pos (fun hh => absurd hh.2.1 (by assumption))]
            | rw [if_pos (fun hh => absurd hh.2.2 (by assumption))]
      · exact ⟨Nat.zero_le _, fun j hj => absurd hj (Nat.not_lt_zero j), by simp only [upd_apply, ↓reduceIte, reduceCtorEq, Nat.reduceEqDiff], by simp only [upd_apply, ↓reduceIte, reduceCtorEq, Nat.reduceEqDiff], by simp only [upd_apply, ↓reduceIte, reduceCtorEq, Nat.reduceEqDiff], by simp only [upd_apply, ↓reduceIte, reduceCtorEq, Nat.reduceEqDiff], by simp only [upd_apply, ↓reduceIte, reduceCtorEq, Nat.reduceEqDiff]; rfl, rfl, rfl⟩
    · (repeat' (first
  | (with_reducible refine WC_seq ?_) | (refine WC_region ?_) | (with_reducible refine WC_skip ?_) | (with_reducible refine WC_label ?_) | (with_reducible refine WC_scope ?_) | (with_reducible refine WC_block ?_) | (with_reducible refine WC_ret ?_) | (with_reducible refine WC_exit ?_)
  | (with_reducible refine seqQ_norm ?_) | (with_reducible refine seqQ_ret ?_) | (with_reducible refine seqQ_exit ?_) | (with_reducible refine blkQ_norm ?_) | (with_reducible refine blkQ_ret ?_) | (with_reducible refine blkQ_here ?_) | (refine blkQ_out rfl ?_)
  | (refine WO_nil ?_)
  | (refine WD_nil ?_)
  | (refine WD_gate rfl rfl rfl rfl rfl fun K_ hK_ => ?_; simp only [upd_apply, asB_bool, asB_tup, ↓reduceIte, reduceCtorEq, Nat.reduceEqDiff, Bool.not_true, Bool.not_false]; refine hK_ _ ?_; clear hK_ K_)
  | (refine WO_gate rfl rfl rfl rfl rfl fun K_ hK_ => ?_; simp only [upd_apply, asB_bool, asB_tup, ↓reduceIte, reduceCtorEq, Nat.reduceEqDiff, Bool.not_true, Bool.not_false]; refine hK_ _ ?_; clear hK_ K_)
  | (with_reducible refine gateK_yes ?_) | (refine gateK_no (by decide) ?_) | (with_reducible refine gateK_none ?_)
  | ((try first | refine WO_op rfl rfl rfl ?_ | refine WO_op0 rfl rfl ?_ | refine WD_op rfl rfl rfl ?_ | refine WD_op0 rfl rfl ?_); (refine WV_gen fun Q_ hQ_ => ?_; simp (disch := first | omega | (simp only [List.length_cons, List.length_nil, List.length_append]; omega)) only [bb, argF, ↓reduceIte, reduceCtorEq, Nat.reduceEqDiff, Nat.reduceLT, Nat.reduceLeDiff, Nat.reduceAdd, Nat.reduceMul, Nat.reduceSub, Nat.reduceBEq, Int.reduceToNat, List.append_assoc, List.length_append, cond_true, cond_false, List.length_cons, List.length_nil, List.cons_append, List.nil_append, List.append_nil, List.getElem?_cons_zero, List.getElem?_cons_succ, List.set_cons_zero, List.set_cons_succ, List.drop_zero, List.drop_succ_cons, List.take_zero, List.take_succ_cons, List.take_nil, List.drop_nil, eq_self, List.toList_toArray, beq_self_eq_true, hlen, hix', hld, hlen0, newPtr_X wf, load1_X wf, loadAgg_X wf, store1_X wf, writeCells_X wf, makeFunc_def, bs_91, bs_29, bsl_47, newSlice_X wf, ia_29, sz_29, ze_29, ia_2, sz_2, ze_2, ia_3, sz_3, ia_47, sz_47, ia_46, sz_46, ia_22, sz_22, ik_47, ik_46, ik_22, ia_70, sz_70, ze_70, fo_70_0, fo_70_1, fo_24_0, fo_24_1, fo_24_2, ia_24, sz_24, pb_31, pb_32, pb_50, pb_11]; first | (refine dec_split (Q := Q_) (fun hp_ => ?_) (fun hp_ => ?_) <;> first | (exfalso; omega) | (refine hQ_ _ _ ?_; clear hQ_ Q_)) | (refine dec_splitn (Q := Q_) (fun hp_ => ?_) (fun hp_ => ?_) <;> first | (exfalso; omega) | (refine hQ_ _ _ ?_; clear hQ_ Q_)) | (refine hQ_ _ _ ?_; clear hQ_ Q_)))
  | (refine WC_cond fun K_ hK_ => ?_; simp (disch := omega) only [evT_tmp, upd_apply, WB_some, ↓reduceIte, reduceCtorEq, Nat.reduceEqDiff, Nat.reduceLT]; refine hK_ _ ?_; clear hK_ K_)
  | (with_reducible refine condK_tt ?_) | (with_reducible refine condK_ff ?_) | (with_reducible refine roundQ_exit ?_) | (with_reducible refine roundQ_ret ?_)))
      all_goals (refine endQ_ret _ _ rfl (ret1 (by decide)) ?_; simp only [upd_apply, ↓reduceIte, reduceCtorEq, Nat.reduceEqDiff]; refine WV_flat rfl (by omega) ?_)
      all_goals exact ⟨by unfold hullErr; rw [if_neg (not_not_intro hn), if_pos hm], rfl⟩
  · (repeat' (first
  | (with_reducible refine WC_seq ?_) | (refine WC_region ?_) | (with_reducible refine WC_skip ?_) | (with_reducible refine WC_label ?_) | (with_reducible refine WC_scope ?_) | (with_reducible refine WC_block ?_) | (with_reducible refine WC_ret ?_) | (with_reducible refine WC_exit ?_)
  | (with_reducible refine seqQ_norm ?_) | (with_reducible refine seqQ_ret ?_) | (with_reducible refine seqQ_exit ?_) | (with_reducible refine blkQ_norm ?_) | (with_reducible refine blkQ_ret ?_) | (with_reducible refine blkQ_here ?_) | (refine blkQ_out rfl ?_)
  | (refine WO_nil ?_)
  | (refine WD_nil ?_)
  | (refine WD_gate rfl rfl rfl rfl rfl fun K_ hK_ => ?_; simp only [upd_apply, asB_bool, asB_tup, ↓reduceIte, reduceCtorEq, Nat.reduceEqDiff, Bool.not_true, Bool.not_false]; refine hK_ _ ?_; clear hK_ K_)
  | (refine WO_gate rfl rfl rfl rfl rfl fun K_ hK_ => ?_; simp only [upd_apply, asB_bool, asB_tup, ↓reduceIte, reduceCtorEq, Nat.reduceEqDiff, Bool.not_true, Bool.not_false]; refine hK_ _ ?_; clear hK_ K_)
  | (with_reducible refine gateK_yes ?_) | (refine gateK_no (by decide) ?_) | (with_reducible refine gateK_none ?_)
  | ((try first | refine WO_op rfl rfl rfl ?_ | refine WO_op0 rfl rfl ?_ | refine WD_op rfl rfl rfl ?_ | refine WD_op0 rfl rfl ?_); (refine WV_gen fun Q_ hQ_ => ?_; simp (disch := first | omega | (simp only [List.length_cons, List.length_nil, List.length_append]; omega)) only [bb, argF, ↓reduceIte, reduceCtorEq, Nat.reduceEqDiff, Nat.reduceLT, Nat.reduceLeDiff, Nat.reduceAdd, Nat.reduceMul, Nat.reduceSub, Nat.reduceBEq, Int.reduceToNat, List.append_assoc, List.length_append, cond_true, cond_false, List.length_cons, List.length_nil, List.cons_append, List.nil_append, List.append_nil, List.getElem?_cons_zero, List.getElem?_cons_succ, List.set_cons_zero, List.set_cons_succ, List.drop_zero, List.drop_succ_cons, List.take_zero, List.take_succ_cons, List.take_nil, List.drop_nil, eq_self, List.toList_toArray, beq_self_eq_true, hlen, newPtr_X wf, load1_X wf, loadAgg_X wf, store1_X wf, writeCells_X wf, makeFunc_def, bs_91, bs_29, bsl_47, newSlice_X wf, ia_29, sz_29, ze_29, ia_2, sz_2, ze_2, ia_3, sz_3, ia_47, sz_47, ia_46, sz_46, ia_22, sz_22, ik_47, ik_46, ik_22, ia_70, sz_70, ze_70, fo_70_0, fo_70_1, fo_24_0, fo_24_1, fo_24_2, ia_24, sz_24, pb_31, pb_32, pb_50, pb_11]; first | (refine dec_split (Q := Q_) (fun hp_ => ?_) (fun hp_ => ?_) <;> first | (exfalso; omega) | (refine hQ_ _ _ ?_; clear hQ_ Q_)) | (refine dec_splitn (Q := Q_) (fun hp_ => ?_) (fun hp_ => ?_) <;> first | (exfalso; omega) | (refine hQ_ _ _ ?_; clear hQ_ Q_)) | (refine hQ_ _ _ ?_; clear hQ_ Q_)))
  | (refine WC_cond fun K_ hK_ => ?_; simp (disch := omega) only [evT_tmp, upd_apply, WB_some, ↓reduceIte, reduceCtorEq, Nat.reduceEqDiff, Nat.reduceLT]; refine hK_ _ ?_; clear hK_ K_)
  | (with_reducible refine condK_tt ?_) | (with_reducible refine condK_ff ?_) | (with_reducible refine roundQ_exit ?_) | (with_reducible refine roundQ_ret ?_)))
    all_goals (refine endQ_ret _ _ rfl (ret1 (by decide)) ?_; simp only [upd_apply, ↓reduceIte, reduceCtorEq, Nat.reduceEqDiff]; refine WV_flat rfl (by omega) ?_)
    all_goals exact ⟨by unfold hullErr; rw [if_pos hn], rfl⟩
end Go.Proofs.Ytghondkiondeaab
end

/- EvH8 -/
section
/-
  LAYER 2: which offsets are those of a true hull; the volume and the number that is asked.
-/
namespace Go.Proofs.Ytghondkiondeaab
open Go.Ev
set_option maxRecDepth 100000
set_option linter.unusedSimpArgs false
set_option linter.unusedVariables false
set_option maxHeartbeats 2000000

theorem hullErr_ok {sp st : Int} {rows : List (List (Int × Int))} (h : hullErr sp st rows = 0) :
    (2 ≤ rows.length ∧ rows.length ≤ 10) ∧ (2 ≤ m0 rows ∧ m0 rows ≤ 6) ∧ (∀ row ∈ rows, row.length = m0 rows) ∧ (1 ≤ sp ∧ sp ≤ 1000) ∧ (1 ≤ st ∧ st ≤ 100) ∧ offs rows := by
  unfold hullErr at h
  split at h
  · cases h
  split at h
  · cases h
  split at h
  · cases h
  split at h
  · cases h
  rename_i h1 h2 h3 h4
  have h3' := Classical.not_not.1 h3
  have h4' := Classical.not_not.1 h4
  exact ⟨Classical.not_not.1 h1, Classical.not_not.1 h2, h3', h4'⟩

/-- Offsets as they are handed over. -/
structure YsR (h : H) (b : AV) (yvs : List AV) (ys : List (List Int)) : Prop where
  wf : Wf h
  sl : Sl h b 1 ys.length yvs
  row : ∀ i (hi : i < ys.length), ∃ v, yvs[i]? = some v ∧ Row h v 1 ys[i].length (ys[i].map ii) ∧ Capd v
theorem YsR.up {h : H} {b : AV} {yvs : List AV} {ys : List (List Int)} (x : YsR h b yvs ys) (l : List AO) (w : Nat) (hw : w ≤ h.clock + l.length) : YsR (X h l w) b yvs ys :=
  ⟨x.wf.X hw, x.sl.up x.wf l w, fun i hi => let ⟨v, h1, h2, h3⟩ := x.row i hi; ⟨v, h1, h2.up x.wf l w, h3⟩⟩
theorem YsR.at {h : H} {b : AV} {yvs : List AV} {ys : List (List Int)} (x : YsR h b yvs ys) {m : Nat} (hm : m ≠ 0) (hall : ∀ i (hi : i < ys.length), ys[i].length = m) : YsAt h b yvs ys m :=
  ⟨x.wf, x.sl, fun i hi => let ⟨v, h1, h2, h3⟩ := x.row i hi; ⟨v, h1, by have := h2.sl (by rw [hall i hi]; exact hm); rwa [hall i hi] at this, h3, hall i hi⟩⟩
theorem Sl.one {h : H} {a : AV} {m len : Nat} {cells : List AV} (s : Sl h a m len cells) : AV.cells a = [a] ∧ oneB a = true := by
  obtain ⟨_, ⟨rfl, _⟩ | ⟨_, _, _, _, _, _, rfl, _⟩⟩ := s <;> exact ⟨rfl, rfl⟩

/-- The range of a place, and its offset. -/
def rAt (rows : List (List (Int × Int))) (m q : Nat) : Int × Int := (rows.getD (q / m) []).getD (q % m) (0, 0)
def yAt (ys : List (List Int)) (m q : Nat) : Int := (ys.getD (q / m) []).getD (q % m) 0
def inR (rows : List (List (Int × Int))) (ys : List (List Int)) (m q : Nat) : Prop := (rAt rows m q).1 ≤ yAt ys m q ∧ yAt ys m q ≤ (rAt rows m q).2
instance (rows : List (List (Int × Int))) (ys : List (List Int)) (m q : Nat) : Decidable (inR rows ys m q) := by unfold inR; infer_instance
def trueErr (sp st : Int) (rows : List (List (Int × Int))) (ys : List (List Int)) : Int :=
  if hullErr sp st rows ≠ 0 then hullErr sp st rows else if ys.length ≠ rows.length then 15 else if ¬ (∀ y ∈ ys, y.length = m0 rows) then 15
  else if ¬ (∀ q, q < rows.length * m0 rows → inR rows ys (m0 rows) q) then 3 else 0

def doneO (o : AO) : Prop := ∃ g n tm ps sg bd dd, o = AO.loop .done .ret g n tm ps sg bd dd

theorem checkTrue (sp st : Int) (a b : AV) (rvs yvs : List AV) (rows : List (List (Int × Int))) (ys : List (List Int)) (hyl : ys.length ≤ 1000) (h : H) (x : HullR h a rvs rows) (y : YsR h b yvs ys) :
    (om Try.prog KK).call (.fn 13 [.agg [ii sp, ii st, a], b]) h = .ok (ii (trueErr sp st rows ys)) h := by
  have wf := x.wf
  obtain ⟨hbc, hbo⟩ := Sl.one y.sl
  obtain ⟨hac, hao⟩ := Sl.one x.sl
  refine WV_to (WV_call (fn := Try.f13) Try.func13 rfl rfl rfl rfl rfl ?_)
  simp only [argF]
  have hlen : ∀ h', lenE Try.prog 22 a h' = some (ii (rows.length : Int)) := fun h' => x.sl.len un_22
  have hleny : ∀ h', lenE Try.prog 25 b h' = some (ii (ys.length : Int)) := fun h' => y.sl.len un_25
  have hch : ∀ l w, w ≤ h.clock + l.length → (om Try.prog KK).call (.fn 11 [.agg [ii sp, ii st, a]]) (X h l w) = .ok (ii (hullErr sp st rows)) (X h l w) := fun l w hw => checkHull sp st a rvs rows _ (x.up l w hw)
  by_cases he : hullErr sp st rows = 0
  · obtain ⟨hn, hm, hall, hsp, hst, hof⟩ := hullErr_ok he
    have xat := x.at (m := m0 rows) (by omega) (fun i hi => hall _ (List.getElem_mem hi))
    by_cases hyn : ys.length = rows.length
    · (repeat' (first
  | (with_reducible refine WC_seq ?_) | (refine WC_region ?_) | (with_reducible refine WC_skip ?_) | (with_reducible refine WC_label ?_) | (with_reducible refine WC_scope ?_) | (with_reducible refine WC_block ?_) | (with_reducible refine WC_ret ?_) | (with_reducible refine WC_exit ?_)
  | (with_reducible refine seqQ_norm ?_) | (with_reducible refine seqQ_ret ?_) | (with_reducible refine seqQ_exit ?_) | (with_reducible refine blkQ_norm ?_) | (with_reducible refine blkQ_ret ?_) | (with_reducible refine blkQ_here ?_) | (refine blkQ_out rfl ?_)
  | (refine WO_nil ?_)
  | (refine WD_nil ?_)
  | (refine WD_gate rfl rfl rfl rfl rfl fun K_ hK_ => ?_; simp only [upd_apply, asB_bool, asB_tup, ↓reduceIte, reduceCtorEq, Nat.reduceEqDiff, Bool.not_true, Bool.not_false]; refine hK_ _ ?_; clear hK_ K_)
  | (refine WO_gate rfl rfl rfl rfl rfl fun K_ hK_ => ?_; simp only [upd_apply, asB_bool, asB_tup, ↓reduceIte, reduceCtorEq, Nat.reduceEqDiff, Bool.not_true, Bool.not_false]; refine hK_ _ ?_; clear hK_ K_)
  | (with_reducible refine gateK_yes ?_) | (refine gateK_no (by decide) ?_) | (with_reducible refine gateK_none ?_)
  | ((try first | refine WO_op rfl rfl rfl ?_ | refine WO_op0 rfl rfl ?_ | refine WD_op rfl rfl rfl ?_ | refine WD_op0 rfl rfl ?_); (refine WV_gen fun Q_ hQ_ => ?_; simp (disch := first | omega | (simp only [List.length_cons, List.length_nil, List.length_append]; omega)) only [bb, argF, ↓reduceIte, reduceCtorEq, Nat.reduceEqDiff, Nat.reduceLT, Nat.reduceLeDiff, Nat.reduceAdd, Nat.reduceMul, Nat.reduceSub, Nat.reduceBEq, Int.reduceToNat, List.append_assoc, List.length_append, cond_true, cond_false, List.length_cons, List.length_nil, List.cons_append, List.nil_append, List.append_nil, List.getElem?_cons_zero, List.getElem?_cons_succ, List.set_cons_zero, List.set_cons_succ, List.drop_zero, List.drop_succ_cons, List.take_zero, List.take_succ_cons, List.take_nil, List.drop_nil, eq_self, List.toList_toArray, beq_self_eq_true, hbc, hbo, hlen, hleny, hch, hyn, he, newPtr_X wf, load1_X wf, loadAgg_X wf, store1_X wf, writeCells_X wf, makeFunc_def, bs_29, bs_52, bsl_47, newSlice_X wf, ia_29, sz_29, ze_29, ia_30, sz_30, ze_30, ia_2, sz_2, ze_2, ia_3, sz_3, ia_25, sz_25, ia_47, sz_47, ia_46, sz_46, ia_22, sz_22, ia_75, sz_75, ze_75, fo_75_0, fo_75_1, fo_75_2, fo_70_0, fo_70_1, fo_24_0, fo_24_1, fo_24_2, ia_24, sz_24, ia_52, sz_52, ze_52, pb_31, pb_11, pb_33, pb_13, pb_25, pb_24, pb_28, pb_29]; first | (refine dec_split (Q := Q_) (fun hp_ => ?_) (fun hp_ => ?_) <;> first | (exfalso; omega) | (refine hQ_ _ _ ?_; clear hQ_ Q_)) | (refine dec_splitn (Q := Q_) (fun hp_ => ?_) (fun hp_ => ?_) <;> first | (exfalso; omega) | (refine hQ_ _ _ ?_; clear hQ_ Q_)) | (refine hQ_ _ _ ?_; clear hQ_ Q_)))
  | (refine WC_cond fun K_ hK_ => ?_; simp (disch := omega) only [evT_tmp, upd_apply, WB_some, ↓reduceIte, reduceCtorEq, Nat.reduceEqDiff, Nat.reduceLT]; refine hK_ _ ?_; clear hK_ K_)
  | (with_reducible refine condK_tt ?_) | (with_reducible refine condK_ff ?_) | (with_reducible refine roundQ_exit ?_) | (with_reducible refine roundQ_ret ?_)))
      refine WC_loop (fun (i : Nat) f d h' => i ≤ rows.length ∧ (∀ j, j < i → ∀ hj : j < ys.length, ys[j].length = m0 rows) ∧ f 2 = .ptr (nx h 0) 0 ∧ f 3 = .ptr (nx h 1) 0 ∧ f 4 = .ptr (nx h 2) 0 ∧ f 21 = a ∧ f 22 = ii (rows.length : Int) ∧ f 23 = ii (i : Int) ∧ d = [] ∧ h' = X h [.cells (mkCells [ii sp, ii st, a]) 24, .cells (mkCells [b]) 25, .cells (mkCells [ii 0]) 30] h.clock)
        (fun i => rows.length - i) ?_ (rows.length + 1) 0 (by omega) ?_
      · rintro i f d h' ⟨hi', hally, g2, g3, g4, g21, g22, g23, rfl, rfl⟩
        by_cases hlt : i < rows.length
        · obtain ⟨v, hv, hsv, hrl⟩ := xat.row i hlt
          obtain ⟨id, off, hix, hld⟩ := x.sl.at1 wf hlt ik_22
          rw [hv] at hld
          have hlenv : ∀ h', lenE Try.prog 46 v h' = some (ii (m0 rows : Int)) := fun h' => hsv.len un_46
          have hlty : i < ys.length := by omega
          obtain ⟨vy, hvy, hsvy, hcap⟩ := y.row i hlty
          obtain ⟨idy, offy, hixy, hldy⟩ := y.sl.at1 wf hlty ik_25
          rw [hvy] at hldy
          have hlenvy : ∀ h', lenE Try.prog 47 vy h' = some (ii (ys[i].length : Int)) := fun h' => hsvy.len un_47
          (repeat' (first
  | (with_reducible refine WC_seq ?_) | (refine WC_region ?_) | (with_reducible refine WC_skip ?_) | (with_reducible refine WC_label ?_) | (with_reducible refine WC_scope ?_) | (with_reducible refine WC_block ?_) | (with_reducible refine WC_ret ?_) | (with_reducible refine WC_exit ?_)
  | (with_reducible refine seqQ_norm ?_) | (with_reducible refine seqQ_ret ?_) | (with_reducible refine seqQ_exit ?_) | (with_reducible refine blkQ_norm ?_) | (with_reducible refine blkQ_ret ?_) | (with_reducible refine blkQ_here ?_) | (refine blkQ_out rfl ?_)
  | (refine WO_nil ?_)
  | (refine WD_nil ?_)
  | (refine WD_gate rfl rfl rfl rfl rfl fun K_ hK_ => ?_; simp only [upd_apply, asB_bool, asB_tup, ↓reduceIte, reduceCtorEq, Nat.reduceEqDiff, Bool.not_true, Bool.not_false]; refine hK_ _ ?_; clear hK_ K_)
  | (refine WO_gate rfl rfl rfl rfl rfl fun K_ hK_ => ?_; simp only [upd_apply, asB_bool, asB_tup, ↓reduceIte, reduceCtorEq, Nat.reduceEqDiff, Bool.not_true, Bool.not_false]; refine hK_ _ ?_; clear hK_ K_)
  | (with_reducible refine gateK_yes ?_) | (refine gateK_no (by decide) ?_) | (with_reducible refine gateK_none ?_)
  | ((try first | refine WO_op rfl rfl rfl ?_ | refine WO_op0 rfl rfl ?_ | refine WD_op rfl rfl rfl ?_ | refine WD_op0 rfl rfl ?_); (refine WV_gen fun Q_ hQ_ => ?_; simp (disch := first | omega | (simp only [List.length_cons, List.length_nil, List.length_append]; omega)) only [bb, argF, ↓reduceIte, reduceCtorEq, Nat.reduceEqDiff, Nat.reduceLT, Nat.reduceLeDiff, Nat.reduceAdd, Nat.reduceMul, Nat.reduceSub, Nat.reduceBEq, Int.reduceToNat, List.append_assoc, List.length_append, cond_true, cond_false, List.length_cons, List.length_nil, List.cons_append, List.nil_append, List.append_nil, List.getElem?_cons_zero, List.getElem?_cons_succ, List.set_cons_zero, List.set_cons_succ, List.drop_zero, List.drop_succ_cons, List.take_zero, List.take_succ_cons, List.take_nil, List.drop_nil, eq_self, List.toList_toArray, beq_self_eq_true, g2, g3, g4, g21, g22, g23, hix, hld, hlenv, hixy, hldy, hlenvy, newPtr_X wf, load1_X wf, loadAgg_X wf, store1_X wf, writeCells_X wf, makeFunc_def, bs_29, bs_52, bsl_47, newSlice_X wf, ia_29, sz_29, ze_29, ia_30, sz_30, ze_30, ia_2, sz_2, ze_2, ia_3, sz_3, ia_25, sz_25, ia_47, sz_47, ia_46, sz_46, ia_22, sz_22, ia_75, sz_75, ze_75, fo_75_0, fo_75_1, fo_75_2, fo_70_0, fo_70_1, fo_24_0, fo_24_1, fo_24_2, ia_24, sz_24, ia_52, sz_52, ze_52, pb_31, pb_11, pb_33, pb_13, pb_25, pb_24, pb_28, pb_29]; first | (refine dec_split (Q := Q_) (fun hp_ => ?_) (fun hp_ => ?_) <;> first | (exfalso; omega) | (refine hQ_ _ _ ?_; clear hQ_ Q_)) | (refine dec_splitn (Q := Q_) (fun hp_ => ?_) (fun hp_ => ?_) <;> first | (exfalso; omega) | (refine hQ_ _ _ ?_; clear hQ_ Q_)) | (refine hQ_ _ _ ?_; clear hQ_ Q_)))
  | (refine WC_cond fun K_ hK_ => ?_; simp (disch := omega) only [evT_tmp, upd_apply, WB_some, ↓reduceIte, reduceCtorEq, Nat.reduceEqDiff, Nat.reduceLT]; refine hK_ _ ?_; clear hK_ K_)
  | (with_reducible refine condK_tt ?_) | (with_reducible refine condK_ff ?_) | (with_reducible refine roundQ_exit ?_) | (with_reducible refine roundQ_ret ?_)))
          · refine roundQ_again (i + 1) (by omega) ⟨hlt, ?_, by simp only [upd_apply, ↓reduceIte, reduceCtorEq, Nat.reduceEqDiff]; exact g2, by simp only [upd_apply, ↓reduceIte, reduceCtorEq, Nat.reduceEqDiff]; exact g3, by simp only [upd_apply, ↓reduceIte, reduceCtorEq, Nat.reduceEqDiff]; exact g4, by simp only [upd_apply, ↓reduceIte, reduceCtorEq, Nat.reduceEqDiff]; exact g21, by simp only [upd_apply, ↓reduceIte, reduceCtorEq, Nat.reduceEqDiff]; exact g22, by simp only [upd_apply, ↓reduceIte, reduceCtorEq, Nat.reduceEqDiff]; rfl, rfl, rfl⟩
            intro j hj hjl
            by_cases hji : j = i
            · subst hji; omega
            · exact hally j (by omega) hjl
          · refine endQ_ret _ _ rfl (retc0 (by decide) (by simp (disch := first | omega | (simp only [List.length_cons, List.length_nil, List.length_append]; omega)) only [bb, argF, ↓reduceIte, reduceCtorEq, Nat.reduceEqDiff, Nat.reduceLT, Nat.reduceLeDiff, Nat.reduceAdd, Nat.reduceMul, Nat.reduceSub, Nat.reduceBEq, Int.reduceToNat, List.append_assoc, List.length_append, cond_true, cond_false, List.length_cons, List.length_nil, List.cons_append, List.nil_append, List.append_nil, List.getElem?_cons_zero, List.getElem?_cons_succ, List.set_cons_zero, List.set_cons_succ, List.drop_zero, List.drop_succ_cons, List.take_zero, List.take_succ_cons, List.take_nil, List.drop_nil, eq_self, List.toList_toArray, beq_self_eq_true, g4, loadAgg_X wf, load1_X wf, bs_29, bs_52, bsl_47, newSlice_X wf, ia_29, sz_29, ze_29, ia_30, sz_30, ze_30, ia_2, sz_2, ze_2, ia_3, sz_3, ia_25, sz_25, ia_47, sz_47, ia_46, sz_46, ia_22, sz_22, ia_75, sz_75, ze_75, fo_75_0, fo_75_1, fo_75_2, fo_70_0, fo_70_1, fo_24_0, fo_24_1, fo_24_2, ia_24, sz_24, ia_52, sz_52, ze_52, pb_31, pb_11, pb_33, pb_13, pb_25, pb_24, pb_28, pb_29]; rfl)) ?_
            refine WV_flat rfl (by omega) ?_
            refine ⟨?_, rfl⟩
            unfold trueErr
            rw [if_neg (not_not_intro he), if_neg (not_not_intro hyn), if_pos (fun hh => by have := hh _ (List.getElem_mem hlty); omega)]
        · have hie : i = rows.length := by omega
          subst hie
          have hally2 : ∀ y ∈ ys, y.length = m0 rows := fun row hr => by
            obtain ⟨j, hj, rfl⟩ := List.getElem_of_mem hr
            exact hally j (by omega) hj
          have yat' := y.at (m := m0 rows) (by omega) (fun i hi => hally2 _ (List.getElem_mem hi))
          (repeat' (first
  | (with_reducible refine WC_seq ?_) | (refine WC_region ?_) | (with_reducible refine WC_skip ?_) | (with_reducible refine WC_label ?_) | (with_reducible refine WC_scope ?_) | (with_reducible refine WC_block ?_) | (with_reducible refine WC_ret ?_) | (with_reducible refine WC_exit ?_)
  | (with_reducible refine seqQ_norm ?_) | (with_reducible refine seqQ_ret ?_) | (with_reducible refine seqQ_exit ?_) | (with_reducible refine blkQ_norm ?_) | (with_reducible refine blkQ_ret ?_) | (with_reducible refine blkQ_here ?_) | (refine blkQ_out rfl ?_)
  | (refine WO_nil ?_)
  | (refine WD_nil ?_)
  | (refine WD_gate rfl rfl rfl rfl rfl fun K_ hK_ => ?_; simp only [upd_apply, asB_bool, asB_tup, ↓reduceIte, reduceCtorEq, Nat.reduceEqDiff, Bool.not_true, Bool.not_false]; refine hK_ _ ?_; clear hK_ K_)
  | (refine WO_gate rfl rfl rfl rfl rfl fun K_ hK_ => ?_; simp only [upd_apply, asB_bool, asB_tup, ↓reduceIte, reduceCtorEq, Nat.reduceEqDiff, Bool.not_true, Bool.not_false]; refine hK_ _ ?_; clear hK_ K_)
  | (with_reducible refine gateK_yes ?_) | (refine gateK_no (by decide) ?_) | (with_reducible refine gateK_none ?_)
  | ((try first | refine WO_op rfl rfl rfl ?_ | refine WO_op0 rfl rfl ?_ | refine WD_op rfl rfl rfl ?_ | refine WD_op0 rfl rfl ?_); (refine WV_gen fun Q_ hQ_ => ?_; simp (disch := first | omega | (simp only [List.length_cons, List.length_nil, List.length_append]; omega)) only [bb, argF, ↓reduceIte, reduceCtorEq, Nat.reduceEqDiff, Nat.reduceLT, Nat.reduceLeDiff, Nat.reduceAdd, Nat.reduceMul, Nat.reduceSub, Nat.reduceBEq, Int.reduceToNat, List.append_assoc, List.length_append, cond_true, cond_false, List.length_cons, List.length_nil, List.cons_append, List.nil_append, List.append_nil, List.getElem?_cons_zero, List.getElem?_cons_succ, List.set_cons_zero, List.set_cons_succ, List.drop_zero, List.drop_succ_cons, List.take_zero, List.take_succ_cons, List.take_nil, List.drop_nil, eq_self, List.toList_toArray, beq_self_eq_true, g2, g3, g4, g21, g22, g23, newPtr_X wf, load1_X wf, loadAgg_X wf, store1_X wf, writeCells_X wf, makeFunc_def, bs_29, bs_52, bsl_47, newSlice_X wf, ia_29, sz_29, ze_29, ia_30, sz_30, ze_30, ia_2, sz_2, ze_2, ia_3, sz_3, ia_25, sz_25, ia_47, sz_47, ia_46, sz_46, ia_22, sz_22, ia_75, sz_75, ze_75, fo_75_0, fo_75_1, fo_75_2, fo_70_0, fo_70_1, fo_24_0, fo_24_1, fo_24_2, ia_24, sz_24, ia_52, sz_52, ze_52, pb_31, pb_11, pb_33, pb_13, pb_25, pb_24, pb_28, pb_29]; first | (refine dec_split (Q := Q_) (fun hp_ => ?_) (fun hp_ => ?_) <;> first | (exfalso; omega) | (refine hQ_ _ _ ?_; clear hQ_ Q_)) | (refine dec_splitn (Q := Q_) (fun hp_ => ?_) (fun hp_ => ?_) <;> first | (exfalso; omega) | (refine hQ_ _ _ ?_; clear hQ_ Q_)) | (refine hQ_ _ _ ?_; clear hQ_ Q_) | (refine WV_eq (places sp st a h wf _ _ (by simp only [List.length_append, List.length_cons, List.length_nil]; omega)) ?_; refine hQ_ _ _ ?_; clear hQ_ Q_)))
  | (refine WC_cond fun K_ hK_ => ?_; simp (disch := omega) only [evT_tmp, upd_apply, WB_some, ↓reduceIte, reduceCtorEq, Nat.reduceEqDiff, Nat.reduceLT]; refine hK_ _ ?_; clear hK_ K_)
  | (with_reducible refine condK_tt ?_) | (with_reducible refine condK_ff ?_) | (with_reducible refine roundQ_exit ?_) | (with_reducible refine roundQ_ret ?_)))
          simp only [List.length_cons, List.length_nil, List.cons_append, List.nil_append]
          refine WC_rangeX wf rfl (evT_tmp (by decide)) fun o ho => ?_
          simp only [upd_apply, ↓reduceIte, reduceCtorEq, Nat.reduceEqDiff, List.length_cons, List.length_nil, List.cons_append, List.nil_append, Nat.reduceAdd]
          refine WV.mono (placesH xat hn hm sp st 3 (nx h 5) _ (fun q hb => ∃ w, hb = X h [.cells (mkCells [ii sp, ii st, a]) 24, .cells (mkCells [b]) 25, .cells (mkCells [ii 0]) 30, .cells (mkCells [ii sp, ii st, a]) 52, .dfr, o] w ∧ w ≤ h.clock + 6 ∧ ∀ p, p < q → inR rows ys (m0 rows) p)
            (fun hb => ∃ w o2, hb = X h [.cells (mkCells [ii sp, ii st, a]) 24, .cells (mkCells [b]) 25, .cells (mkCells [ii 3]) 30, .cells (mkCells [ii sp, ii st, a]) 52, .dfr, o2] w ∧ w ≤ h.clock + 6 ∧ doneO o2 ∧ ¬ ∀ p, p < rows.length * m0 rows → inR rows ys (m0 rows) p) h.clock (Nat.le_refl _) (Nat.le_add_right _ _) ?_ ?_ ⟨h.clock, rfl, by omega, fun p hp => absurd hp (Nat.not_lt_zero p)⟩) ?_
          · rintro q hb ⟨w, rfl, hw, _⟩
            exact ⟨⟨_, w, rfl, hw, rfl⟩, Same.X rfl⟩
          · rintro q xx hx hb J w ⟨w0, rfl, hw0, hin⟩ hlo hw
            obtain ⟨hq, rfl⟩ := placesOf_at hx
            obtain ⟨i1, i2, i3⟩ := place_idx hm.2 hn.2 hq
            have hw' : w ≤ h.clock + 6 + J.length := hw
            have hlty : q / m0 rows < ys.length := by omega
            obtain ⟨vy, hvy, hsvy, hcap, hyrl⟩ := yat'.row _ hlty
            obtain ⟨idy, offy, hixy, hldy⟩ := y.sl.at1 wf hlty ik_25
            rw [hvy] at hldy
            obtain ⟨idz, offz, hixz, hldz⟩ := hsvy.at1 wf i2 ik_47
            have hyk : q % m0 rows < ys[q / m0 rows].length := by omega
            have hyz : (ys[q / m0 rows].map ii)[q % m0 rows]? = some (ii (yAt ys (m0 rows) q)) := by
              rw [List.getElem?_map]; simp [yAt, List.getD, hlty, hyk]
            rw [hyz] at hldz
            rw [X_X]
            have hr : (rows.getD (q / m0 rows) []).getD (q % m0 rows) (0, 0) = rAt rows (m0 rows) q := rfl
            simp only [List.cons_append, List.nil_append, placeOf, hr]
            refine WV_yldX wf (k := 5) rfl ho (setParams1 rfl) ?_
            (repeat' (first
  | (with_reducible refine WC_seq ?_) | (refine WC_region ?_) | (with_reducible refine WC_skip ?_) | (with_reducible refine WC_label ?_) | (with_reducible refine WC_scope ?_) | (with_reducible refine WC_block ?_) | (with_reducible refine WC_ret ?_) | (with_reducible refine WC_exit ?_)
  | (with_reducible refine seqQ_norm ?_) | (with_reducible refine seqQ_ret ?_) | (with_reducible refine seqQ_exit ?_) | (with_reducible refine blkQ_norm ?_) | (with_reducible refine blkQ_ret ?_) | (with_reducible refine blkQ_here ?_) | (refine blkQ_out rfl ?_)
  | (refine WO_nil ?_)
  | (refine WD_nil ?_)
  | (refine WD_gate rfl rfl rfl rfl rfl fun K_ hK_ => ?_; simp only [upd_apply, asB_bool, asB_tup, ↓reduceIte, reduceCtorEq, Nat.reduceEqDiff, Bool.not_true, Bool.not_false]; refine hK_ _ ?_; clear hK_ K_)
  | (refine WO_gate rfl rfl rfl rfl rfl fun K_ hK_ => ?_; simp only [upd_apply, asB_bool, asB_tup, ↓reduceIte, reduceCtorEq, Nat.reduceEqDiff, Bool.not_true, Bool.not_false]; refine hK_ _ ?_; clear hK_ K_)
  | (with_reducible refine gateK_yes ?_) | (refine gateK_no (by decide) ?_) | (with_reducible refine gateK_none ?_)
  | ((try first | refine WO_op rfl rfl rfl ?_ | refine WO_op0 rfl rfl ?_ | refine WD_op rfl rfl rfl ?_ | refine WD_op0 rfl rfl ?_); (refine WV_gen fun Q_ hQ_ => ?_; simp (disch := first | omega | (simp only [List.length_cons, List.length_nil, List.length_append]; omega)) only [bb, argF, ↓reduceIte, reduceCtorEq, Nat.reduceEqDiff, Nat.reduceLT, Nat.reduceLeDiff, Nat.reduceAdd, Nat.reduceMul, Nat.reduceSub, Nat.reduceBEq, Int.reduceToNat, List.append_assoc, List.length_append, cond_true, cond_false, List.length_cons, List.length_nil, List.cons_append, List.nil_append, List.append_nil, List.getElem?_cons_zero, List.getElem?_cons_succ, List.set_cons_zero, List.set_cons_succ, List.drop_zero, List.drop_succ_cons, List.take_zero, List.take_succ_cons, List.take_nil, List.drop_nil, eq_self, List.toList_toArray, beq_self_eq_true, newPtr_X wf, load1_X wf, loadAgg_X wf, store1_X wf, writeCells_X wf, makeFunc_def, bs_29, bs_52, bsl_47, newSlice_X wf, ia_29, sz_29, ze_29, ia_30, sz_30, ze_30, ia_2, sz_2, ze_2, ia_3, sz_3, ia_25, sz_25, ia_47, sz_47, ia_46, sz_46, ia_22, sz_22, ia_75, sz_75, ze_75, fo_75_0, fo_75_1, fo_75_2, fo_70_0, fo_70_1, fo_24_0, fo_24_1, fo_24_2, ia_24, sz_24, ia_52, sz_52, ze_52, pb_31, pb_11, pb_33, pb_13, pb_25, pb_24, pb_28, pb_29]; first | (refine dec_split (Q := Q_) (fun hp_ => ?_) (fun hp_ => ?_) <;> first | (exfalso; omega) | (refine hQ_ _ _ ?_; clear hQ_ Q_)) | (refine dec_splitn (Q := Q_) (fun hp_ => ?_) (fun hp_ => ?_) <;> first | (exfalso; omega) | (refine hQ_ _ _ ?_; clear hQ_ Q_)) | (refine hQ_ _ _ ?_; clear hQ_ Q_)))
  | (refine WC_cond fun K_ hK_ => ?_; simp (disch := omega) only [evT_tmp, upd_apply, WB_some, ↓reduceIte, reduceCtorEq, Nat.reduceEqDiff, Nat.reduceLT]; refine hK_ _ ?_; clear hK_ K_)
  | (with_reducible refine condK_tt ?_) | (with_reducible refine condK_ff ?_) | (with_reducible refine roundQ_exit ?_) | (with_reducible refine roundQ_ret ?_)))
            refine yldA_X wf (k := 5) rfl ho fun o' ho' => ?_
            refine WC_block ?_
            refine WC_seq ?_
            refine WC_drawnB [.no, .no, .no, .no, .no, .no, .no, .no, .no, .no, .no, .no, .no, .no, .no, .no, .full, .full] (by kernel_rfl) ?_
            (repeat' (first
  | (with_reducible refine WC_seq ?_) | (refine WC_region ?_) | (with_reducible refine WC_skip ?_) | (with_reducible refine WC_label ?_) | (with_reducible refine WC_scope ?_) | (with_reducible refine WC_block ?_) | (with_reducible refine WC_ret ?_) | (with_reducible refine WC_exit ?_)
  | (with_reducible refine seqQ_norm ?_) | (with_reducible refine seqQ_ret ?_) | (with_reducible refine seqQ_exit ?_) | (with_reducible refine blkQ_norm ?_) | (with_reducible refine blkQ_ret ?_) | (with_reducible refine blkQ_here ?_) | (refine blkQ_out rfl ?_)
  | (refine WO_nil ?_)
  | (refine WD_nil ?_)
  | (refine WD_gate rfl rfl rfl rfl rfl fun K_ hK_ => ?_; simp only [upd_apply, asB_bool, asB_tup, ↓reduceIte, reduceCtorEq, Nat.reduceEqDiff, Bool.not_true, Bool.not_false]; refine hK_ _ ?_; clear hK_ K_)
  | (refine WO_gate rfl rfl rfl rfl rfl fun K_ hK_ => ?_; simp only [upd_apply, asB_bool, asB_tup, ↓reduceIte, reduceCtorEq, Nat.reduceEqDiff, Bool.not_true, Bool.not_false]; refine hK_ _ ?_; clear hK_ K_)
  | (with_reducible refine gateK_yes ?_) | (refine gateK_no (by decide) ?_) | (with_reducible refine gateK_none ?_)
  | ((try first | refine WO_op rfl rfl rfl ?_ | refine WO_op0 rfl rfl ?_ | refine WD_op rfl rfl rfl ?_ | refine WD_op0 rfl rfl ?_); (refine WV_gen fun Q_ hQ_ => ?_; simp (disch := first | omega | (simp only [List.length_cons, List.length_nil, List.length_append]; omega)) only [bb, argF, ↓reduceIte, reduceCtorEq, Nat.reduceEqDiff, Nat.reduceLT, Nat.reduceLeDiff, Nat.reduceAdd, Nat.reduceMul, Nat.reduceSub, Nat.reduceBEq, Int.reduceToNat, List.append_assoc, List.length_append, cond_true, cond_false, List.length_cons, List.length_nil, List.cons_append, List.nil_append, List.append_nil, List.getElem?_cons_zero, List.getElem?_cons_succ, List.set_cons_zero, List.set_cons_succ, List.drop_zero, List.drop_succ_cons, List.take_zero, List.take_succ_cons, List.take_nil, List.drop_nil, eq_self, List.toList_toArray, beq_self_eq_true, hixy, hldy, hixz, hldz, g2, g3, g4, newPtr_X wf, load1_X wf, loadAgg_X wf, store1_X wf, writeCells_X wf, makeFunc_def, bs_29, bs_52, bsl_47, newSlice_X wf, ia_29, sz_29, ze_29, ia_30, sz_30, ze_30, ia_2, sz_2, ze_2, ia_3, sz_3, ia_25, sz_25, ia_47, sz_47, ia_46, sz_46, ia_22, sz_22, ia_75, sz_75, ze_75, fo_75_0, fo_75_1, fo_75_2, fo_70_0, fo_70_1, fo_24_0, fo_24_1, fo_24_2, ia_24, sz_24, ia_52, sz_52, ze_52, pb_31, pb_11, pb_33, pb_13, pb_25, pb_24, pb_28, pb_29]; first | (refine dec_split (Q := Q_) (fun hp_ => ?_) (fun hp_ => ?_) <;> first | (exfalso; omega) | (refine hQ_ _ _ ?_; clear hQ_ Q_)) | (refine dec_splitn (Q := Q_) (fun hp_ => ?_) (fun hp_ => ?_) <;> first | (exfalso; omega) | (refine hQ_ _ _ ?_; clear hQ_ Q_)) | (refine hQ_ _ _ ?_; clear hQ_ Q_) | (refine WV_eq (within1 wf (x := yAt ys (m0 rows) q) (by simp only [List.length_append, List.length_cons, List.length_nil]; omega) (by first | rfl | simp (disch := first | omega | (simp only [List.length_cons, List.length_nil, List.length_append]; omega)) only [bb, argF, ↓reduceIte, reduceCtorEq, Nat.reduceEqDiff, Nat.reduceLT, Nat.reduceLeDiff, Nat.reduceAdd, Nat.reduceMul, Nat.reduceSub, Nat.reduceBEq, Int.reduceToNat, List.append_assoc, List.length_append, cond_true, cond_false, List.length_cons, List.length_nil, List.cons_append, List.nil_append, List.append_nil, List.getElem?_cons_zero, List.getElem?_cons_succ, List.set_cons_zero, List.set_cons_succ, List.drop_zero, List.drop_succ_cons, List.take_zero, List.take_succ_cons, List.take_nil, List.drop_nil, eq_self, List.toList_toArray, beq_self_eq_true])) ?_; first | (refine dec_split (Q := Q_) (fun hp_ => ?_) (fun hp_ => ?_) <;> first | (exfalso; omega) | (refine hQ_ _ _ ?_; clear hQ_ Q_)) | (refine hQ_ _ _ ?_; clear hQ_ Q_)) | (refine WV_unmarkc (within1 wf (x := yAt ys (m0 rows) q) (by simp only [List.length_append, List.length_cons, List.length_nil]; omega) (by first | rfl | simp (disch := first | omega | (simp only [List.length_cons, List.length_nil, List.length_append]; omega)) only [bb, argF, ↓reduceIte, reduceCtorEq, Nat.reduceEqDiff, Nat.reduceLT, Nat.reduceLeDiff, Nat.reduceAdd, Nat.reduceMul, Nat.reduceSub, Nat.reduceBEq, Int.reduceToNat, List.append_assoc, List.length_append, cond_true, cond_false, List.length_cons, List.length_nil, List.cons_append, List.nil_append, List.append_nil, List.getElem?_cons_zero, List.getElem?_cons_succ, List.set_cons_zero, List.set_cons_succ, List.drop_zero, List.drop_succ_cons, List.take_zero, List.take_succ_cons, List.take_nil, List.drop_nil, eq_self, List.toList_toArray, beq_self_eq_true])) ?_; first | (refine dec_split (Q := Q_) (fun hp_ => ?_) (fun hp_ => ?_) <;> first | (exfalso; omega) | (refine hQ_ _ _ ?_; clear hQ_ Q_)) | (refine hQ_ _ _ ?_; clear hQ_ Q_))))
  | (refine WC_cond fun K_ hK_ => ?_; simp (disch := omega) only [evT_tmp, upd_apply, WB_some, ↓reduceIte, reduceCtorEq, Nat.reduceEqDiff, Nat.reduceLT]; refine hK_ _ ?_; clear hK_ K_)
  | (with_reducible refine condK_tt ?_) | (with_reducible refine condK_ff ?_) | (with_reducible refine roundQ_exit ?_) | (with_reducible refine roundQ_ret ?_)))
            · refine yldB_X wf (k := 5) rfl ho' ?_
              simp only [List.set_cons_succ, List.set_cons_zero]
              rw [← ho]
              refine ⟨X h [.cells (mkCells [ii sp, ii st, a]) 24, .cells (mkCells [b]) 25, .cells (mkCells [ii 0]) 30, .cells (mkCells [ii sp, ii st, a]) 52, .dfr, o] w0, _, _, by rw [X_X]; rfl, Same.X rfl, by omega, ?_, .inl ⟨rfl, w0, rfl, hw0, ?_⟩⟩
              · show _ < h.clock + 6
                omega
              · intro p hp
                by_cases hpq : p = q
                · subst hpq; assumption
                · exact hin p (by omega)
            · refine yldB_ret_X wf (k := 5) rfl ho' fun o2 ho2 => ?_
              simp only [List.set_cons_succ, List.set_cons_zero]
              refine ⟨X h [.cells (mkCells [ii sp, ii st, a]) 24, .cells (mkCells [b]) 25, .cells (mkCells [ii 3]) 30, .cells (mkCells [ii sp, ii st, a]) 52, .dfr, o2] w0, _, _, by rw [X_X]; rfl, Same.X rfl, by omega, ?_, .inr ⟨rfl, w0, o2, rfl, hw0, ⟨_, _, _, _, _, _, _, ho2⟩, fun hh => absurd (hh q hq) (by assumption)⟩⟩
              show _ < h.clock + 6
              omega
          · rintro v h' ⟨hb, J, w, rfl, hs, hlo, hw, ⟨w0, rfl, hw0, hin⟩ | ⟨w0, o2, rfl, hw0, ⟨g', n', tm', ps', sg', bd', dd', ho2⟩, hnot⟩⟩
            · rw [placesOf_length] at hin
              rw [X_X]
              refine rangeQ_X wf (k := 5) rfl ho (by decide) fun o' ho' => ?_
              simp only [List.cons_append, List.nil_append, List.set_cons_succ, List.set_cons_zero]
              (repeat' (first
  | (with_reducible refine WC_seq ?_) | (refine WC_region ?_) | (with_reducible refine WC_skip ?_) | (with_reducible refine WC_label ?_) | (with_reducible refine WC_scope ?_) | (with_reducible refine WC_block ?_) | (with_reducible refine WC_ret ?_) | (with_reducible refine WC_exit ?_)
  | (with_reducible refine seqQ_norm ?_) | (with_reducible refine seqQ_ret ?_) | (with_reducible refine seqQ_exit ?_) | (with_reducible refine blkQ_norm ?_) | (with_reducible refine blkQ_ret ?_) | (with_reducible refine blkQ_here ?_) | (refine blkQ_out rfl ?_)
  | (refine WO_nil ?_)
  | (refine WD_nil ?_)
  | (refine WD_gate rfl rfl rfl rfl rfl fun K_ hK_ => ?_; simp only [upd_apply, asB_bool, asB_tup, ↓reduceIte, reduceCtorEq, Nat.reduceEqDiff, Bool.not_true, Bool.not_false]; refine hK_ _ ?_; clear hK_ K_)
  | (refine WO_gate rfl rfl rfl rfl rfl fun K_ hK_ => ?_; simp only [upd_apply, asB_bool, asB_tup, ↓reduceIte, reduceCtorEq, Nat.reduceEqDiff, Bool.not_true, Bool.not_false]; refine hK_ _ ?_; clear hK_ K_)
  | (with_reducible refine gateK_yes ?_) | (refine gateK_no (by decide) ?_) | (with_reducible refine gateK_none ?_)
  | ((try first | refine WO_op rfl rfl rfl ?_ | refine WO_op0 rfl rfl ?_ | refine WD_op rfl rfl rfl ?_ | refine WD_op0 rfl rfl ?_); (refine WV_gen fun Q_ hQ_ => ?_; simp (disch := first | omega | (simp only [List.length_cons, List.length_nil, List.length_append]; omega)) only [bb, argF, ↓reduceIte, reduceCtorEq, Nat.reduceEqDiff, Nat.reduceLT, Nat.reduceLeDiff, Nat.reduceAdd, Nat.reduceMul, Nat.reduceSub, Nat.reduceBEq, Int.reduceToNat, List.append_assoc, List.length_append, cond_true, cond_false, List.length_cons, List.length_nil, List.cons_append, List.nil_append, List.append_nil, List.getElem?_cons_zero, List.getElem?_cons_succ, List.set_cons_zero, List.set_cons_succ, List.drop_zero, List.drop_succ_cons, List.take_zero, List.take_succ_cons, List.take_nil, List.drop_nil, eq_self, List.toList_toArray, beq_self_eq_true, g2, g3, g4, newPtr_X wf, load1_X wf, loadAgg_X wf, store1_X wf, writeCells_X wf, makeFunc_def, bs_29, bs_52, bsl_47, newSlice_X wf, ia_29, sz_29, ze_29, ia_30, sz_30, ze_30, ia_2, sz_2, ze_2, ia_3, sz_3, ia_25, sz_25, ia_47, sz_47, ia_46, sz_46, ia_22, sz_22, ia_75, sz_75, ze_75, fo_75_0, fo_75_1, fo_75_2, fo_70_0, fo_70_1, fo_24_0, fo_24_1, fo_24_2, ia_24, sz_24, ia_52, sz_52, ze_52, pb_31, pb_11, pb_33, pb_13, pb_25, pb_24, pb_28, pb_29]; first | (refine dec_split (Q := Q_) (fun hp_ => ?_) (fun hp_ => ?_) <;> first | (exfalso; omega) | (refine hQ_ _ _ ?_; clear hQ_ Q_)) | (refine dec_splitn (Q := Q_) (fun hp_ => ?_) (fun hp_ => ?_) <;> first | (exfalso; omega) | (refine hQ_ _ _ ?_; clear hQ_ Q_)) | (refine hQ_ _ _ ?_; clear hQ_ Q_)))
  | (refine WC_cond fun K_ hK_ => ?_; simp (disch := omega) only [evT_tmp, upd_apply, WB_some, ↓reduceIte, reduceCtorEq, Nat.reduceEqDiff, Nat.reduceLT]; refine hK_ _ ?_; clear hK_ K_)
  | (with_reducible refine condK_tt ?_) | (with_reducible refine condK_ff ?_) | (with_reducible refine roundQ_exit ?_) | (with_reducible refine roundQ_ret ?_)))
              refine endQ_ret _ _ (takeAll_X wf (k := 4) rfl) (retc0 (by decide) (by simp (disch := first | omega | (simp only [List.length_cons, List.length_nil, List.length_append]; omega)) only [bb, argF, ↓reduceIte, reduceCtorEq, Nat.reduceEqDiff, Nat.reduceLT, Nat.reduceLeDiff, Nat.reduceAdd, Nat.reduceMul, Nat.reduceSub, Nat.reduceBEq, Int.reduceToNat, List.append_assoc, List.length_append, cond_true, cond_false, List.length_cons, List.length_nil, List.cons_append, List.nil_append, List.append_nil, List.getElem?_cons_zero, List.getElem?_cons_succ, List.set_cons_zero, List.set_cons_succ, List.drop_zero, List.drop_succ_cons, List.take_zero, List.take_succ_cons, List.take_nil, List.drop_nil, eq_self, List.toList_toArray, beq_self_eq_true, g4, loadAgg_X wf, load1_X wf, bs_29, bs_52, bsl_47, newSlice_X wf, ia_29, sz_29, ze_29, ia_30, sz_30, ze_30, ia_2, sz_2, ze_2, ia_3, sz_3, ia_25, sz_25, ia_47, sz_47, ia_46, sz_46, ia_22, sz_22, ia_75, sz_75, ze_75, fo_75_0, fo_75_1, fo_75_2, fo_70_0, fo_70_1, fo_24_0, fo_24_1, fo_24_2, ia_24, sz_24, ia_52, sz_52, ze_52, pb_31, pb_11, pb_33, pb_13, pb_25, pb_24, pb_28, pb_29]; rfl)) ?_
              refine WV_flat rfl (by omega) ?_
              refine ⟨?_, rfl⟩
              unfold trueErr
              rw [if_neg (not_not_intro he), if_neg (not_not_intro hyn), if_neg (not_not_intro hally2), if_neg (not_not_intro hin)]
            · rw [X_X]
              refine rangeQ_X wf (k := 5) rfl ho2 (by decide) fun o' ho' => ?_
              simp only [List.cons_append, List.nil_append, List.set_cons_succ, List.set_cons_zero]
              (repeat' (first
  | (with_reducible refine WC_seq ?_) | (refine WC_region ?_) | (with_reducible refine WC_skip ?_) | (with_reducible refine WC_label ?_) | (with_reducible refine WC_scope ?_) | (with_reducible refine WC_block ?_) | (with_reducible refine WC_ret ?_) | (with_reducible refine WC_exit ?_)
  | (with_reducible refine seqQ_norm ?_) | (with_reducible refine seqQ_ret ?_) | (with_reducible refine seqQ_exit ?_) | (with_reducible refine blkQ_norm ?_) | (with_reducible refine blkQ_ret ?_) | (with_reducible refine blkQ_here ?_) | (refine blkQ_out rfl ?_)
  | (refine WO_nil ?_)
  | (refine WD_nil ?_)
  | (refine WD_gate rfl rfl rfl rfl rfl fun K_ hK_ => ?_; simp only [upd_apply, asB_bool, asB_tup, ↓reduceIte, reduceCtorEq, Nat.reduceEqDiff, Bool.not_true, Bool.not_false]; refine hK_ _ ?_; clear hK_ K_)
  | (refine WO_gate rfl rfl rfl rfl rfl fun K_ hK_ => ?_; simp only [upd_apply, asB_bool, asB_tup, ↓reduceIte, reduceCtorEq, Nat.reduceEqDiff, Bool.not_true, Bool.not_false]; refine hK_ _ ?_; clear hK_ K_)
  | (with_reducible refine gateK_yes ?_) | (refine gateK_no (by decide) ?_) | (with_reducible refine gateK_none ?_)
  | ((try first | refine WO_op rfl rfl rfl ?_ | refine WO_op0 rfl rfl ?_ | refine WD_op rfl rfl rfl ?_ | refine WD_op0 rfl rfl ?_); (refine WV_gen fun Q_ hQ_ => ?_; simp (disch := first | omega | (simp only [List.length_cons, List.length_nil, List.length_append]; omega)) only [bb, argF, ↓reduceIte, reduceCtorEq, Nat.reduceEqDiff, Nat.reduceLT, Nat.reduceLeDiff, Nat.reduceAdd, Nat.reduceMul, Nat.reduceSub, Nat.reduceBEq, Int.reduceToNat, List.append_assoc, List.length_append, cond_true, cond_false, List.length_cons, List.length_nil, List.cons_append, List.nil_append, List.append_nil, List.getElem?_cons_zero, List.getElem?_cons_succ, List.set_cons_zero, List.set_cons_succ, List.drop_zero, List.drop_succ_cons, List.take_zero, List.take_succ_cons, List.take_nil, List.drop_nil, eq_self, List.toList_toArray, beq_self_eq_true, g2, g3, g4, newPtr_X wf, load1_X wf, loadAgg_X wf, store1_X wf, writeCells_X wf, makeFunc_def, bs_29, bs_52, bsl_47, newSlice_X wf, ia_29, sz_29, ze_29, ia_30, sz_30, ze_30, ia_2, sz_2, ze_2, ia_3, sz_3, ia_25, sz_25, ia_47, sz_47, ia_46, sz_46, ia_22, sz_22, ia_75, sz_75, ze_75, fo_75_0, fo_75_1, fo_75_2, fo_70_0, fo_70_1, fo_24_0, fo_24_1, fo_24_2, ia_24, sz_24, ia_52, sz_52, ze_52, pb_31, pb_11, pb_33, pb_13, pb_25, pb_24, pb_28, pb_29]; first | (refine dec_split (Q := Q_) (fun hp_ => ?_) (fun hp_ => ?_) <;> first | (exfalso; omega) | (refine hQ_ _ _ ?_; clear hQ_ Q_)) | (refine dec_splitn (Q := Q_) (fun hp_ => ?_) (fun hp_ => ?_) <;> first | (exfalso; omega) | (refine hQ_ _ _ ?_; clear hQ_ Q_)) | (refine hQ_ _ _ ?_; clear hQ_ Q_)))
  | (refine WC_cond fun K_ hK_ => ?_; simp (disch := omega) only [evT_tmp, upd_apply, WB_some, ↓reduceIte, reduceCtorEq, Nat.reduceEqDiff, Nat.reduceLT]; refine hK_ _ ?_; clear hK_ K_)
  | (with_reducible refine condK_tt ?_) | (with_reducible refine condK_ff ?_) | (with_reducible refine roundQ_exit ?_) | (with_reducible refine roundQ_ret ?_)))
              refine endQ_ret _ _ (takeAll_X wf (k := 4) rfl) (retc0 (by decide) (by simp (disch := first | omega | (simp only [List.length_cons, List.length_nil, List.length_append]; omega)) only [bb, argF, ↓reduceIte, reduceCtorEq, Nat.reduceEqDiff, Nat.reduceLT, Nat.reduceLeDiff, Nat.reduceAdd, Nat.reduceMul, Nat.reduceSub, Nat.reduceBEq, Int.reduceToNat, List.append_assoc, List.length_append, cond_true, cond_false, List.length_cons, List.length_nil, List.cons_append, List.nil_append, List.append_nil, List.getElem?_cons_zero, List.getElem?_cons_succ, List.set_cons_zero, List.set_cons_succ, List.drop_zero, List.drop_succ_cons, List.take_zero, List.take_succ_cons, List.take_nil, List.drop_nil, eq_self, List.toList_toArray, beq_self_eq_true, g4, loadAgg_X wf, load1_X wf, bs_29, bs_52, bsl_47, newSlice_X wf, ia_29, sz_29, ze_29, ia_30, sz_30, ze_30, ia_2, sz_2, ze_2, ia_3, sz_3, ia_25, sz_25, ia_47, sz_47, ia_46, sz_46, ia_22, sz_22, ia_75, sz_75, ze_75, fo_75_0, fo_75_1, fo_75_2, fo_70_0, fo_70_1, fo_24_0, fo_24_1, fo_24_2, ia_24, sz_24, ia_52, sz_52, ze_52, pb_31, pb_11, pb_33, pb_13, pb_25, pb_24, pb_28, pb_29]; rfl)) ?_
              refine WV_flat rfl (by omega) ?_
              refine ⟨?_, rfl⟩
              unfold trueErr
              rw [if_neg (not_not_intro he), if_neg (not_not_intro hyn), if_neg (not_not_intro hally2), if_pos hnot]
      · exact ⟨Nat.zero_le _, fun j hj => absurd hj (Nat.not_lt_zero j), by simp only [upd_apply, ↓reduceIte, reduceCtorEq, Nat.reduceEqDiff], by simp only [upd_apply, ↓reduceIte, reduceCtorEq, Nat.reduceEqDiff], by simp only [upd_apply, ↓reduceIte, reduceCtorEq, Nat.reduceEqDiff], by simp only [upd_apply, ↓reduceIte, reduceCtorEq, Nat.reduceEqDiff], by simp only [upd_apply, ↓reduceIte, reduceCtorEq, Nat.reduceEqDiff], by simp only [upd_apply, ↓reduceIte, reduceCtorEq, Nat.reduceEqDiff]; rfl, rfl, rfl⟩
    · (repeat' (first
  | (with_reducible refine WC_seq ?_) | (refine WC_region ?_) | (with_reducible refine WC_skip ?_) | (with_reducible refine WC_label ?_) | (with_reducible refine WC_scope ?_) | (with_reducible refine WC_block ?_) | (with_reducible refine WC_ret ?_) | (with_reducible refine WC_exit ?_)
  | (with_reducible refine seqQ_norm ?_) | (with_reducible refine seqQ_ret ?_) | (with_reducible refine seqQ_exit ?_) | (with_reducible refine blkQ_norm ?_) | (with_reducible refine blkQ_ret ?_) | (with_reducible refine blkQ_here ?_) | (refine blkQ_out rfl ?_)
  | (refine WO_nil ?_)
  | (refine WD_nil ?_)
  | (refine WD_gate rfl rfl rfl rfl rfl fun K_ hK_ => ?_; simp only [upd_apply, asB_bool, asB_tup, ↓reduceIte, reduceCtorEq, Nat.reduceEqDiff, Bool.not_true, Bool.not_false]; refine hK_ _ ?_; clear hK_ K_)
  | (refine WO_gate rfl rfl rfl rfl rfl fun K_ hK_ => ?_; simp only [upd_apply, asB_bool, asB_tup, ↓reduceIte, reduceCtorEq, Nat.reduceEqDiff, Bool.not_true, Bool.not_false]; refine hK_ _ ?_; clear hK_ K_)
  | (with_reducible refine gateK_yes ?_) | (refine gateK_no (by decide) ?_) | (with_reducible refine gateK_none ?_)
  | ((try first | refine WO_op rfl rfl rfl ?_ | refine WO_op0 rfl rfl ?_ | refine WD_op rfl rfl rfl ?_ | refine WD_op0 rfl rfl ?_); (refine WV_gen fun Q_ hQ_ => ?_; simp (disch := first | omega | (simp only [List.length_cons, List.length_nil, List.length_append]; omega)) only [bb, argF, ↓reduceIte, reduceCtorEq, Nat.reduceEqDiff, Nat.reduceLT, Nat.reduceLeDiff, Nat.reduceAdd, Nat.reduceMul, Nat.reduceSub, Nat.reduceBEq, Int.reduceToNat, List.append_assoc, List.length_append, cond_true, cond_false, List.length_cons, List.length_nil, List.cons_append, List.nil_append, List.append_nil, List.getElem?_cons_zero, List.getElem?_cons_succ, List.set_cons_zero, List.set_cons_succ, List.drop_zero, List.drop_succ_cons, List.take_zero, List.take_succ_cons, List.take_nil, List.drop_nil, eq_self, List.toList_toArray, beq_self_eq_true, hbc, hbo, hlen, hleny, hch, he, newPtr_X wf, load1_X wf, loadAgg_X wf, store1_X wf, writeCells_X wf, makeFunc_def, bs_29, bs_52, bsl_47, newSlice_X wf, ia_29, sz_29, ze_29, ia_30, sz_30, ze_30, ia_2, sz_2, ze_2, ia_3, sz_3, ia_25, sz_25, ia_47, sz_47, ia_46, sz_46, ia_22, sz_22, ia_75, sz_75, ze_75, fo_75_0, fo_75_1, fo_75_2, fo_70_0, fo_70_1, fo_24_0, fo_24_1, fo_24_2, ia_24, sz_24, ia_52, sz_52, ze_52, pb_31, pb_11, pb_33, pb_13, pb_25, pb_24, pb_28, pb_29]; first | (refine dec_split (Q := Q_) (fun hp_ => ?_) (fun hp_ => ?_) <;> first | (exfalso; omega) | (refine hQ_ _ _ ?_; clear hQ_ Q_)) | (refine dec_splitn (Q := Q_) (fun hp_ => ?_) (fun hp_ => ?_) <;> first | (exfalso; omega) | (refine hQ_ _ _ ?_; clear hQ_ Q_)) | (refine hQ_ _ _ ?_; clear hQ_ Q_)))
  | (refine WC_cond fun K_ hK_ => ?_; simp (disch := omega) only [evT_tmp, upd_apply, WB_some, ↓reduceIte, reduceCtorEq, Nat.reduceEqDiff, Nat.reduceLT]; refine hK_ _ ?_; clear hK_ K_)
  | (with_reducible refine condK_tt ?_) | (with_reducible refine condK_ff ?_) | (with_reducible refine roundQ_exit ?_) | (with_reducible refine roundQ_ret ?_)))
      refine endQ_ret _ _ rfl (retc0 (by decide) (by simp (disch := first | omega | (simp only [List.length_cons, List.length_nil, List.length_append]; omega)) only [bb, argF, ↓reduceIte, reduceCtorEq, Nat.reduceEqDiff, Nat.reduceLT, Nat.reduceLeDiff, Nat.reduceAdd, Nat.reduceMul, Nat.reduceSub, Nat.reduceBEq, Int.reduceToNat, List.append_assoc, List.length_append, cond_true, cond_false, List.length_cons, List.length_nil, List.cons_append, List.nil_append, List.append_nil, List.getElem?_cons_zero, List.getElem?_cons_succ, List.set_cons_zero, List.set_cons_succ, List.drop_zero, List.drop_succ_cons, List.take_zero, List.take_succ_cons, List.take_nil, List.drop_nil, eq_self, List.toList_toArray, beq_self_eq_true, loadAgg_X wf, load1_X wf, bs_29, bs_52, bsl_47, newSlice_X wf, ia_29, sz_29, ze_29, ia_30, sz_30, ze_30, ia_2, sz_2, ze_2, ia_3, sz_3, ia_25, sz_25, ia_47, sz_47, ia_46, sz_46, ia_22, sz_22, ia_75, sz_75, ze_75, fo_75_0, fo_75_1, fo_75_2, fo_70_0, fo_70_1, fo_24_0, fo_24_1, fo_24_2, ia_24, sz_24, ia_52, sz_52, ze_52, pb_31, pb_11, pb_33, pb_13, pb_25, pb_24, pb_28, pb_29]; rfl)) ?_
      refine WV_flat rfl (by omega) ?_
      refine ⟨?_, rfl⟩
      unfold trueErr
      rw [if_neg (not_not_intro he), if_pos hyn]
  · (repeat' (first
  | (with_reducible refine WC_seq ?_) | (refine WC_region ?_) | (with_reducible refine WC_skip ?_) | (with_reducible refine WC_label ?_) | (with_reducible refine WC_scope ?_) | (with_reducible refine WC_block ?_) | (with_reducible refine WC_ret ?_) | (with_reducible refine WC_exit ?_)
  | (with_reducible refine seqQ_norm ?_) | (with_reducible refine seqQ_ret ?_) | (with_reducible refine seqQ_exit ?_) | (with_reducible refine blkQ_norm ?_) | (with_reducible refine blkQ_ret ?_) | (with_reducible refine blkQ_here ?_) | (refine blkQ_out rfl ?_)
  | (refine WO_nil ?_)
  | (refine WD_nil ?_)
  | (refine WD_gate rfl rfl rfl rfl rfl fun K_ hK_ => ?_; simp only [upd_apply, asB_bool, asB_tup, ↓reduceIte, reduceCtorEq, Nat.reduceEqDiff, Bool.not_true, Bool.not_false]; refine hK_ _ ?_; clear hK_ K_)
  | (refine WO_gate rfl rfl rfl rfl rfl fun K_ hK_ => ?_; simp only [upd_apply, asB_bool, asB_tup, ↓reduceIte, reduceCtorEq, Nat.reduceEqDiff, Bool.not_true, Bool.not_false]; refine hK_ _ ?_; clear hK_ K_)
  | (with_reducible refine gateK_yes ?_) | (refine gateK_no (by decide) ?_) | (with_reducible refine gateK_none ?_)
  | ((try first | refine WO_op rfl rfl rfl ?_ | refine WO_op0 rfl rfl ?_ | refine WD_op rfl rfl rfl ?_ | refine WD_op0 rfl rfl ?_); (refine WV_gen fun Q_ hQ_ => ?_; simp (disch := first | omega | (simp only [List.length_cons, List.length_nil, List.length_append]; omega)) only [bb, argF, ↓reduceIte, reduceCtorEq, Nat.reduceEqDiff, Nat.reduceLT, Nat.reduceLeDiff, Nat.reduceAdd, Nat.reduceMul, Nat.reduceSub, Nat.reduceBEq, Int.reduceToNat, List.append_assoc, List.length_append, cond_true, cond_false, List.length_cons, List.length_nil, List.cons_append, List.nil_append, List.append_nil, List.getElem?_cons_zero, List.getElem?_cons_succ, List.set_cons_zero, List.set_cons_succ, List.drop_zero, List.drop_succ_cons, List.take_zero, List.take_succ_cons, List.take_nil, List.drop_nil, eq_self, List.toList_toArray, beq_self_eq_true, hbc, hbo, hlen, hleny, hch, newPtr_X wf, load1_X wf, loadAgg_X wf, store1_X wf, writeCells_X wf, makeFunc_def, bs_29, bs_52, bsl_47, newSlice_X wf, ia_29, sz_29, ze_29, ia_30, sz_30, ze_30, ia_2, sz_2, ze_2, ia_3, sz_3, ia_25, sz_25, ia_47, sz_47, ia_46, sz_46, ia_22, sz_22, ia_75, sz_75, ze_75, fo_75_0, fo_75_1, fo_75_2, fo_70_0, fo_70_1, fo_24_0, fo_24_1, fo_24_2, ia_24, sz_24, ia_52, sz_52, ze_52, pb_31, pb_11, pb_33, pb_13, pb_25, pb_24, pb_28, pb_29]; first | (refine dec_split (Q := Q_) (fun hp_ => ?_) (fun hp_ => ?_) <;> first | (exfalso; omega) | (refine hQ_ _ _ ?_; clear hQ_ Q_)) | (refine dec_splitn (Q := Q_) (fun hp_ => ?_) (fun hp_ => ?_) <;> first | (exfalso; omega) | (refine hQ_ _ _ ?_; clear hQ_ Q_)) | (refine hQ_ _ _ ?_; clear hQ_ Q_)))
  | (refine WC_cond fun K_ hK_ => ?_; simp (disch := omega) only [evT_tmp, upd_apply, WB_some, ↓reduceIte, reduceCtorEq, Nat.reduceEqDiff, Nat.reduceLT]; refine hK_ _ ?_; clear hK_ K_)
  | (with_reducible refine condK_tt ?_) | (with_reducible refine condK_ff ?_) | (with_reducible refine roundQ_exit ?_) | (with_reducible refine roundQ_ret ?_)))
    refine endQ_ret _ _ rfl (retc0 (by decide) (by simp (disch := first | omega | (simp only [List.length_cons, List.length_nil, List.length_append]; omega)) only [bb, argF, ↓reduceIte, reduceCtorEq, Nat.reduceEqDiff, Nat.reduceLT, Nat.reduceLeDiff, Nat.reduceAdd, Nat.reduceMul, Nat.reduceSub, Nat.reduceBEq, Int.reduceToNat, List.append_assoc, List.length_append, cond_true, cond_false, List.length_cons, List.length_nil, List.cons_append, List.nil_append, List.append_nil, List.getElem?_cons_zero, List.getElem?_cons_succ, List.set_cons_zero, List.set_cons_succ, List.drop_zero, List.drop_succ_cons, List.take_zero, List.take_succ_cons, List.take_nil, List.drop_nil, eq_self, List.toList_toArray, beq_self_eq_true, loadAgg_X wf, load1_X wf, bs_29, bs_52, bsl_47, newSlice_X wf, ia_29, sz_29, ze_29, ia_30, sz_30, ze_30, ia_2, sz_2, ze_2, ia_3, sz_3, ia_25, sz_25, ia_47, sz_47, ia_46, sz_46, ia_22, sz_22, ia_75, sz_75, ze_75, fo_75_0, fo_75_1, fo_75_2, fo_70_0, fo_70_1, fo_24_0, fo_24_1, fo_24_2, ia_24, sz_24, ia_52, sz_52, ze_52, pb_31, pb_11, pb_33, pb_13, pb_25, pb_24, pb_28, pb_29]; rfl)) ?_
    refine WV_flat rfl (by omega) ?_
    refine ⟨?_, rfl⟩
    unfold trueErr
    rw [if_pos he]
end Go.Proofs.Ytghondkiondeaab
end

/- EvH9 -/
section
/-
  LAYER 2: what the package answers: the volume, and the number that is asked.
-/
namespace Go.Proofs.Ytghondkiondeaab
open Go.Ev
set_option maxRecDepth 100000
set_option linter.unusedSimpArgs false
set_option linter.unusedVariables false
set_option maxHeartbeats 2000000

theorem psum_congr {f g : Nat → Int} : ∀ {n : Nat}, (∀ q, q < n → f q = g q) → psum f n = psum g n
  | 0, _ => rfl
  | n + 1, h => by simp only [psum]; rw [psum_congr (fun q hq => h q (by omega)), h n (by omega)]
theorem psum_pos {f : Nat → Int} : ∀ {n q0 : Nat}, (∀ q, q < n → 0 ≤ f q) → q0 < n → 0 < f q0 → 0 < psum f n
  | 0, _, _, h, _ => absurd h (Nat.not_lt_zero _)
  | n + 1, q0, h0, h, hp => by
    simp only [psum]
    have hn : 0 ≤ psum f n := by
      clear hp h
      have : ∀ k, k ≤ n → 0 ≤ psum f k := by
        intro k
        induction k with
        | zero => intro _; exact Int.le_refl 0
        | succ k ih => intro hk; have := ih (by omega); have := h0 k (by omega); simp only [psum]; omega
      exact this n (Nat.le_refl n)
    by_cases hq : q0 = n
    · subst hq; omega
    · have := psum_pos (n := n) (q0 := q0) (fun q hq => h0 q (by omega)) (by omega) hp
      have := h0 n (by omega)
      omega

def W (n m q : Nat) : Int := wt n (q / m) * wt m (q % m)
theorem wt_pos {n i : Nat} (hi : i < n) : 1 ≤ wt n i := by
  unfold wt
  split
  · exact Int.le_refl 1
  · first | omega | (rw [if_pos hi]; omega)
theorem W_pos {n m q : Nat} (hm : 0 < m) (hq : q < n * m) : 1 ≤ W n m q := by
  have h1 := wt_pos ((Nat.div_lt_iff_lt_mul hm).2 hq)
  have h2 := wt_pos (Nat.mod_lt q hm)
  have := Int.mul_le_mul h1 h2 (by omega) (by omega)
  unfold W; omega

theorem grid_yat {ys : List (List Int)} {n m q : Nat} (hn : ys.length = n) (h10 : n ≤ 10) (hm : m ≤ 6) (hq : q < n * m) : yat (gridP ys ys.length) m q = yAt ys m q := by
  obtain ⟨i1, i2, i3⟩ := place_idx hm h10 hq
  unfold yat yAt
  rw [List.getD_eq_getElem?_getD, gridP_get _ _ i3]
  have e1 : (q / m * 6 + q % m) / 6 = q / m := by omega
  have e2 : (q / m * 6 + q % m) % 6 = q % m := by omega
  rw [e1, e2, if_pos (by omega)]
  rfl
theorem rAt_mem {rows : List (List (Int × Int))} {m q : Nat} (hall : ∀ row ∈ rows, row.length = m) (hm : 0 < m) (hq : q < rows.length * m) : rAt rows m q ∈ rows.flatten := by
  have h1 := (Nat.div_lt_iff_lt_mul hm).2 hq
  have h2 := Nat.mod_lt q hm
  have h3 : q % m < rows[q / m].length := by rw [hall _ (List.getElem_mem h1)]; exact h2
  refine List.mem_flatten.2 ⟨rows[q / m], List.getElem_mem _, ?_⟩
  unfold rAt
  simp [List.getD, h1, h3]
theorem mx_pos {l : List (Int × Int)} (h : 0 < mx l) : ∃ r ∈ l, 0 < r.1 := by
  have : ∀ (l : List (Int × Int)) (a : Int), 0 < l.foldl (fun acc r => max acc r.1) a → 0 < a ∨ ∃ r ∈ l, 0 < r.1 := by
    intro l
    induction l with
    | nil => intro a h; exact .inl h
    | cons r l ih =>
      intro a h
      rcases ih _ h with h | ⟨r', h1, h2⟩
      · have h' : 0 < max a r.1 := h
        by_cases ha : 0 < a
        · exact .inl ha
        · exact .inr ⟨r, List.mem_cons_self, by omega⟩
      · exact .inr ⟨r', List.mem_cons_of_mem _ h1, h2⟩
  rcases this l 0 h with h | h
  · omega
  · exact h

/-- A hull that is valid and true. -/
structure IsTrue (sp st : Int) (rows : List (List (Int × Int))) (ys : List (List Int)) : Prop where
  n : 2 ≤ rows.length ∧ rows.length ≤ 10
  m : 2 ≤ m0 rows ∧ m0 rows ≤ 6
  all : ∀ row ∈ rows, row.length = m0 rows
  sp : 1 ≤ sp ∧ sp ≤ 1000
  st : 1 ≤ st ∧ st ≤ 100
  yn : ys.length = rows.length
  yall : ∀ y ∈ ys, y.length = m0 rows
  y : ∀ q, q < rows.length * m0 rows → 0 ≤ yAt ys (m0 rows) q ∧ yAt ys (m0 rows) q ≤ 500
  pos : ∃ q, q < rows.length * m0 rows ∧ 0 < yAt ys (m0 rows) q
theorem trueErr_ok {sp st : Int} {rows : List (List (Int × Int))} {ys : List (List Int)} (h : trueErr sp st rows ys = 0) : IsTrue sp st rows ys := by
  unfold trueErr at h
  split at h
  · contradiction
  split at h
  · cases h
  split at h
  · cases h
  split at h
  · cases h
  rename_i h1 h2 h3 h4
  obtain ⟨hn, hm, hall, hsp, hst, hof⟩ := hullErr_ok (Classical.not_not.1 h1)
  have h4' := Classical.not_not.1 h4
  refine ⟨hn, hm, hall, hsp, hst, Classical.not_not.1 h2, Classical.not_not.1 h3, fun q hq => ?_, ?_⟩
  · have hr := hof.1 _ (rAt_mem hall (by omega) hq)
    have hi := h4' q hq
    unfold isOff at hr
    unfold inR at hi
    omega
  · obtain ⟨r, hr, hp⟩ := mx_pos hof.2
    obtain ⟨row, h5, h6⟩ := List.mem_flatten.1 hr
    obtain ⟨i, hi, rfl⟩ := List.getElem_of_mem h5
    obtain ⟨k, hk, rfl⟩ := List.getElem_of_mem h6
    have hkm : k < m0 rows := by rw [← hall _ h5]; exact hk
    have hq : i * m0 rows + k < rows.length * m0 rows := by
      have : (i + 1) * m0 rows ≤ rows.length * m0 rows := Nat.mul_le_mul_right _ hi
      rw [Nat.succ_mul] at this; omega
    refine ⟨i * m0 rows + k, hq, ?_⟩
    have hin := h4' _ hq
    have e1 : (i * m0 rows + k) / m0 rows = i := by rw [Nat.mul_comm, Nat.mul_add_div (by omega), Nat.div_eq_of_lt hkm]; omega
    have e2 : (i * m0 rows + k) % m0 rows = k := by rw [Nat.mul_comm, Nat.mul_add_mod]; exact Nat.mod_eq_of_lt hkm
    have e3 : rAt rows (m0 rows) (i * m0 rows + k) = rows[i][k] := by unfold rAt; rw [e1, e2]; simp [List.getD, hi, hk]
    unfold inR at hin
    rw [e3] at hin
    omega

def allS (n m : Nat) (ys : List (List Int)) : Int := psum (fun q => W n m q * yAt ys m q) (n * m)
def numS (g : Nat) (sp st : Int) (n m : Nat) (ys : List (List Int)) : Int := psum (fun q => numOf g sp st m (q / m) (q % m) (W n m q) (yAt ys m q)) (n * m)
def denS (g : Nat) (st : Int) (n m : Nat) (ys : List (List Int)) : Int := psum (fun q => denOf g st (W n m q) (yAt ys m q)) (n * m)
theorem denS_pos {g : Nat} {sp st : Int} {rows : List (List (Int × Int))} {ys : List (List Int)} (t : IsTrue sp st rows ys) : 0 < denS g st rows.length (m0 rows) ys := by
  obtain ⟨q, hq, hp⟩ := t.pos
  have hst := t.st
  have key : ∀ q, q < rows.length * m0 rows → 0 ≤ W rows.length (m0 rows) q * yAt ys (m0 rows) q := fun q hq => Int.mul_nonneg (by have := W_pos (by have := t.m; omega) hq; omega) (t.y q hq).1
  have hw : 0 < W rows.length (m0 rows) q * yAt ys (m0 rows) q := Int.mul_pos (by have := W_pos (by have := t.m; omega) hq; omega) hp
  refine psum_pos (q0 := q) (fun q hq => ?_) hq ?_
  · unfold denOf
    split
    · exact Int.mul_nonneg (by omega) (key q hq)
    · exact key q hq
  · unfold denOf
    split
    · exact Int.mul_pos (by omega) hw
    · exact hw

def zeroR : AV := .agg [ii 0, ii 0]
def volOut (sp st : Int) (rows : List (List (Int × Int))) (ys : List (List Int)) : AV :=
  if trueErr sp st rows ys = 0 then .tup [frac (sp * st * allS rows.length (m0 rows) ys) 2, ii 0] else .tup [zeroR, ii (trueErr sp st rows ys)]

theorem volumeX (sp st : Int) (a b : AV) (rvs yvs : List AV) (rows : List (List (Int × Int))) (ys : List (List Int)) (hyl : ys.length ≤ 1000) (h : H) (x : HullR h a rvs rows) (y : YsR h b yvs ys) :
    (om Try.prog KK).call (.fn 7 [.agg [ii sp, ii st, a], b]) h = .ok (volOut sp st rows ys) h := by
  have wf := x.wf
  refine WV_to (WV_call (fn := Try.f7) Try.func7 rfl rfl rfl rfl rfl ?_)
  simp only [argF]
  have hch : ∀ l w, w ≤ h.clock + l.length → (om Try.prog KK).call (.fn 13 [.agg [ii sp, ii st, a], b]) (X h l w) = .ok (ii (trueErr sp st rows ys)) (X h l w) := fun l w hw => checkTrue sp st a b rvs yvs rows ys hyl _ (x.up l w hw) (y.up l w hw)
  unfold volOut
  by_cases he : trueErr sp st rows ys = 0
  · have t := trueErr_ok he
    have xat := x.at (m := m0 rows) (by have := t.m; omega) (fun i hi => t.all _ (List.getElem_mem hi))
    have yat' := y.at (m := m0 rows) (by have := t.m; omega) (fun i hi => t.yall _ (List.getElem_mem hi))
    have hgr : ∀ l w, w ≤ h.clock + l.length → (om Try.prog KK).call (.fn 25 [b]) (X h l w) = .ok (.agg ((gridP ys ys.length).map ii)) (X h l w) := fun l w hw => gridOf b yvs ys (m0 rows) (by rw [t.yn]; exact t.n) t.m _ (yat'.up l w hw)
    have hgy : ∀ q, q < rows.length * m0 rows → yat (gridP ys ys.length) (m0 rows) q = yAt ys (m0 rows) q := fun q hq => grid_yat t.yn t.n.2 t.m.2 hq
    have hvo : ∀ l w, w ≤ h.clock + l.length → (om Try.prog KK).call (.fn 24 [.agg [ii sp, ii st, a], .agg ((gridP ys ys.length).map ii)]) (X h l w) = .ok (frac (sp * st * allS rows.length (m0 rows) ys) 2) (X h l w) := fun l w hw => by
      rw [volume sp st t.sp t.st a rvs rows (m0 rows) t.n t.m _ (gridP_length _ _) (fun q hq => by rw [hgy q hq]; exact t.y q hq) _ (xat.up l w hw)]
      rw [psum_congr (g := fun q => W rows.length (m0 rows) q * yAt ys (m0 rows) q) (fun q hq => by unfold vterm W; rw [hgy q hq])]
      rfl
    rw [if_pos he]
    (repeat' (first
  | (with_reducible refine WC_seq ?_) | (refine WC_region ?_) | (with_reducible refine WC_skip ?_) | (with_reducible refine WC_label ?_) | (with_reducible refine WC_scope ?_) | (with_reducible refine WC_block ?_) | (with_reducible refine WC_ret ?_) | (with_reducible refine WC_exit ?_)
  | (with_reducible refine seqQ_norm ?_) | (with_reducible refine seqQ_ret ?_) | (with_reducible refine seqQ_exit ?_) | (with_reducible refine blkQ_norm ?_) | (with_reducible refine blkQ_ret ?_) | (with_reducible refine blkQ_here ?_) | (refine blkQ_out rfl ?_)
  | (refine WO_nil ?_)
  | (refine WD_nil ?_)
  | (refine WD_gate rfl rfl rfl rfl rfl fun K_ hK_ => ?_; simp only [upd_apply, asB_bool, asB_tup, ↓reduceIte, reduceCtorEq, Nat.reduceEqDiff, Bool.not_true, Bool.not_false]; refine hK_ _ ?_; clear hK_ K_)
  | (refine WO_gate rfl rfl rfl rfl rfl fun K_ hK_ => ?_; simp only [upd_apply, asB_bool, asB_tup, ↓reduceIte, reduceCtorEq, Nat.reduceEqDiff, Bool.not_true, Bool.not_false]; refine hK_ _ ?_; clear hK_ K_)
  | (with_reducible refine gateK_yes ?_) | (refine gateK_no (by decide) ?_) | (with_reducible refine gateK_none ?_)
  | ((try first | refine WO_op rfl rfl rfl ?_ | refine WO_op0 rfl rfl ?_ | refine WD_op rfl rfl rfl ?_ | refine WD_op0 rfl rfl ?_); (refine WV_gen fun Q_ hQ_ => ?_; simp (disch := first | omega | (simp only [List.length_cons, List.length_nil, List.length_append]; omega)) only [bb, argF, ↓reduceIte, reduceCtorEq, Nat.reduceEqDiff, Nat.reduceLT, Nat.reduceLeDiff, Nat.reduceAdd, Nat.reduceMul, Nat.reduceSub, Nat.reduceBEq, Int.reduceToNat, List.append_assoc, List.length_append, cond_true, cond_false, List.length_cons, List.length_nil, List.cons_append, List.nil_append, List.append_nil, List.getElem?_cons_zero, List.getElem?_cons_succ, List.set_cons_zero, List.set_cons_succ, List.drop_zero, List.drop_succ_cons, List.take_zero, List.take_succ_cons, List.take_nil, List.drop_nil, eq_self, List.toList_toArray, beq_self_eq_true, hch, he, newPtr_X wf, load1_X wf, loadAgg_X wf, store1_X wf, writeCells_X wf, makeFunc_def, bs_29, bs_52, ia_29, sz_29, ze_29, ia_30, sz_30, ze_30, ia_2, sz_2, ze_2, ia_3, sz_3, ia_62, sz_62, fo_24_0, fo_24_1, fo_24_2, ia_24, sz_24, ia_52, sz_52, ze_52, pb_31, pb_11, pb_33, pb_13, pb_25, pb_24, pb_28, pb_29]; first | (refine dec_split (Q := Q_) (fun hp_ => ?_) (fun hp_ => ?_) <;> first | (exfalso; omega) | (refine hQ_ _ _ ?_; clear hQ_ Q_)) | (refine dec_splitn (Q := Q_) (fun hp_ => ?_) (fun hp_ => ?_) <;> first | (exfalso; omega) | (refine hQ_ _ _ ?_; clear hQ_ Q_)) | (refine hQ_ _ _ ?_; clear hQ_ Q_)))
  | (refine WC_cond fun K_ hK_ => ?_; simp (disch := omega) only [evT_tmp, upd_apply, WB_some, ↓reduceIte, reduceCtorEq, Nat.reduceEqDiff, Nat.reduceLT]; refine hK_ _ ?_; clear hK_ K_)
  | (with_reducible refine condK_tt ?_) | (with_reducible refine condK_ff ?_) | (with_reducible refine roundQ_exit ?_) | (with_reducible refine roundQ_ret ?_)))
    refine WC_drawnB [.no, .no, .no, .no, .full, .full, .full] (by kernel_rfl) ?_
    (repeat' (first
  | (with_reducible refine WC_seq ?_) | (refine WC_region ?_) | (with_reducible refine WC_skip ?_) | (with_reducible refine WC_label ?_) | (with_reducible refine WC_scope ?_) | (with_reducible refine WC_block ?_) | (with_reducible refine WC_ret ?_) | (with_reducible refine WC_exit ?_)
  | (with_reducible refine seqQ_norm ?_) | (with_reducible refine seqQ_ret ?_) | (with_reducible refine seqQ_exit ?_) | (with_reducible refine blkQ_norm ?_) | (with_reducible refine blkQ_ret ?_) | (with_reducible refine blkQ_here ?_) | (refine blkQ_out rfl ?_)
  | (refine WO_nil ?_)
  | (refine WD_nil ?_)
  | (refine WD_gate rfl rfl rfl rfl rfl fun K_ hK_ => ?_; simp only [upd_apply, asB_bool, asB_tup, ↓reduceIte, reduceCtorEq, Nat.reduceEqDiff, Bool.not_true, Bool.not_false]; refine hK_ _ ?_; clear hK_ K_)
  | (refine WO_gate rfl rfl rfl rfl rfl fun K_ hK_ => ?_; simp only [upd_apply, asB_bool, asB_tup, ↓reduceIte, reduceCtorEq, Nat.reduceEqDiff, Bool.not_true, Bool.not_false]; refine hK_ _ ?_; clear hK_ K_)
  | (with_reducible refine gateK_yes ?_) | (refine gateK_no (by decide) ?_) | (with_reducible refine gateK_none ?_)
  | ((try first | refine WO_op rfl rfl rfl ?_ | refine WO_op0 rfl rfl ?_ | refine WD_op rfl rfl rfl ?_ | refine WD_op0 rfl rfl ?_); (refine WV_gen fun Q_ hQ_ => ?_; simp (disch := first | omega | (simp only [List.length_cons, List.length_nil, List.length_append]; omega)) only [bb, argF, ↓reduceIte, reduceCtorEq, Nat.reduceEqDiff, Nat.reduceLT, Nat.reduceLeDiff, Nat.reduceAdd, Nat.reduceMul, Nat.reduceSub, Nat.reduceBEq, Int.reduceToNat, List.append_assoc, List.length_append, cond_true, cond_false, List.length_cons, List.length_nil, List.cons_append, List.nil_append, List.append_nil, List.getElem?_cons_zero, List.getElem?_cons_succ, List.set_cons_zero, List.set_cons_succ, List.drop_zero, List.drop_succ_cons, List.take_zero, List.take_succ_cons, List.take_nil, List.drop_nil, eq_self, List.toList_toArray, beq_self_eq_true, hgr, hvo, frac, newPtr_X wf, load1_X wf, loadAgg_X wf, store1_X wf, writeCells_X wf, makeFunc_def, bs_29, bs_52, ia_29, sz_29, ze_29, ia_30, sz_30, ze_30, ia_2, sz_2, ze_2, ia_3, sz_3, ia_62, sz_62, fo_24_0, fo_24_1, fo_24_2, ia_24, sz_24, ia_52, sz_52, ze_52, pb_31, pb_11, pb_33, pb_13, pb_25, pb_24, pb_28, pb_29]; first | (refine dec_split (Q := Q_) (fun hp_ => ?_) (fun hp_ => ?_) <;> first | (exfalso; omega) | (refine hQ_ _ _ ?_; clear hQ_ Q_)) | (refine dec_splitn (Q := Q_) (fun hp_ => ?_) (fun hp_ => ?_) <;> first | (exfalso; omega) | (refine hQ_ _ _ ?_; clear hQ_ Q_)) | (refine hQ_ _ _ ?_; clear hQ_ Q_)))
  | (refine WC_cond fun K_ hK_ => ?_; simp (disch := omega) only [evT_tmp, upd_apply, WB_some, ↓reduceIte, reduceCtorEq, Nat.reduceEqDiff, Nat.reduceLT]; refine hK_ _ ?_; clear hK_ K_)
  | (with_reducible refine condK_tt ?_) | (with_reducible refine condK_ff ?_) | (with_reducible refine roundQ_exit ?_) | (with_reducible refine roundQ_ret ?_)))
    refine endQ_ret _ _ rfl (retc1 (by decide) (by decide) (by simp (disch := first | omega | (simp only [List.length_cons, List.length_nil, List.length_append]; omega)) only [bb, argF, ↓reduceIte, reduceCtorEq, Nat.reduceEqDiff, Nat.reduceLT, Nat.reduceLeDiff, Nat.reduceAdd, Nat.reduceMul, Nat.reduceSub, Nat.reduceBEq, Int.reduceToNat, List.append_assoc, List.length_append, cond_true, cond_false, List.length_cons, List.length_nil, List.cons_append, List.nil_append, List.append_nil, List.getElem?_cons_zero, List.getElem?_cons_succ, List.set_cons_zero, List.set_cons_succ, List.drop_zero, List.drop_succ_cons, List.take_zero, List.take_succ_cons, List.take_nil, List.drop_nil, eq_self, List.toList_toArray, beq_self_eq_true, loadAgg_X wf, frac, bs_29, bs_52, ia_29, sz_29, ze_29, ia_30, sz_30, ze_30, ia_2, sz_2, ze_2, ia_3, sz_3, ia_62, sz_62, fo_24_0, fo_24_1, fo_24_2, ia_24, sz_24, ia_52, sz_52, ze_52, pb_31, pb_11, pb_33, pb_13, pb_25, pb_24, pb_28, pb_29]; rfl)) ?_
    simp only [upd_apply, ↓reduceIte, reduceCtorEq, Nat.reduceEqDiff]
    refine WV_flat rfl (by omega) ?_
    exact ⟨rfl, rfl⟩
  · rw [if_neg he]
    (repeat' (first
  | (with_reducible refine WC_seq ?_) | (refine WC_region ?_) | (with_reducible refine WC_skip ?_) | (with_reducible refine WC_label ?_) | (with_reducible refine WC_scope ?_) | (with_reducible refine WC_block ?_) | (with_reducible refine WC_ret ?_) | (with_reducible refine WC_exit ?_)
  | (with_reducible refine seqQ_norm ?_) | (with_reducible refine seqQ_ret ?_) | (with_reducible refine seqQ_exit ?_) | (with_reducible refine blkQ_norm ?_) | (with_reducible refine blkQ_ret ?_) | (with_reducible refine blkQ_here ?_) | (refine blkQ_out rfl ?_)
  | (refine WO_nil ?_)
  | (refine WD_nil ?_)
  | (refine WD_gate rfl rfl rfl rfl rfl fun K_ hK_ => ?_; simp only [upd_apply, asB_bool, asB_tup, ↓reduceIte, reduceCtorEq, Nat.reduceEqDiff, Bool.not_true, Bool.not_false]; refine hK_ _ ?_; clear hK_ K_)
  | (refine WO_gate rfl rfl rfl rfl rfl fun K_ hK_ => ?_; simp only [upd_apply, asB_bool, asB_tup, ↓reduceIte, reduceCtorEq, Nat.reduceEqDiff, Bool.not_true, Bool.not_false]; refine hK_ _ ?_; clear hK_ K_)
  | (with_reducible refine gateK_yes ?_) | (refine gateK_no (by decide) ?_) | (with_reducible refine gateK_none ?_)
  | ((try first | refine WO_op rfl rfl rfl ?_ | refine WO_op0 rfl rfl ?_ | refine WD_op rfl rfl rfl ?_ | refine WD_op0 rfl rfl ?_); (refine WV_gen fun Q_ hQ_ => ?_; simp (disch := first | omega | (simp only [List.length_cons, List.length_nil, List.length_append]; omega)) only [bb, argF, ↓reduceIte, reduceCtorEq, Nat.reduceEqDiff, Nat.reduceLT, Nat.reduceLeDiff, Nat.reduceAdd, Nat.reduceMul, Nat.reduceSub, Nat.reduceBEq, Int.reduceToNat, List.append_assoc, List.length_append, cond_true, cond_false, List.length_cons, List.length_nil, List.cons_append, List.nil_append, List.append_nil, List.getElem?_cons_zero, List.getElem?_cons_succ, List.set_cons_zero, List.set_cons_succ, List.drop_zero, List.drop_succ_cons, List.take_zero, List.take_succ_cons, List.take_nil, List.drop_nil, eq_self, List.toList_toArray, beq_self_eq_true, hch, newPtr_X wf, load1_X wf, loadAgg_X wf, store1_X wf, writeCells_X wf, makeFunc_def, bs_29, bs_52, ia_29, sz_29, ze_29, ia_30, sz_30, ze_30, ia_2, sz_2, ze_2, ia_3, sz_3, ia_62, sz_62, fo_24_0, fo_24_1, fo_24_2, ia_24, sz_24, ia_52, sz_52, ze_52, pb_31, pb_11, pb_33, pb_13, pb_25, pb_24, pb_28, pb_29]; first | (refine dec_split (Q := Q_) (fun hp_ => ?_) (fun hp_ => ?_) <;> first | (exfalso; omega) | (refine hQ_ _ _ ?_; clear hQ_ Q_)) | (refine dec_splitn (Q := Q_) (fun hp_ => ?_) (fun hp_ => ?_) <;> first | (exfalso; omega) | (refine hQ_ _ _ ?_; clear hQ_ Q_)) | (refine hQ_ _ _ ?_; clear hQ_ Q_)))
  | (refine WC_cond fun K_ hK_ => ?_; simp (disch := omega) only [evT_tmp, upd_apply, WB_some, ↓reduceIte, reduceCtorEq, Nat.reduceEqDiff, Nat.reduceLT]; refine hK_ _ ?_; clear hK_ K_)
  | (with_reducible refine condK_tt ?_) | (with_reducible refine condK_ff ?_) | (with_reducible refine roundQ_exit ?_) | (with_reducible refine roundQ_ret ?_)))
    refine endQ_ret _ _ rfl (retc1 (by decide) (by decide) (by simp (disch := first | omega | (simp only [List.length_cons, List.length_nil, List.length_append]; omega)) only [bb, argF, ↓reduceIte, reduceCtorEq, Nat.reduceEqDiff, Nat.reduceLT, Nat.reduceLeDiff, Nat.reduceAdd, Nat.reduceMul, Nat.reduceSub, Nat.reduceBEq, Int.reduceToNat, List.append_assoc, List.length_append, cond_true, cond_false, List.length_cons, List.length_nil, List.cons_append, List.nil_append, List.append_nil, List.getElem?_cons_zero, List.getElem?_cons_succ, List.set_cons_zero, List.set_cons_succ, List.drop_zero, List.drop_succ_cons, List.take_zero, List.take_succ_cons, List.take_nil, List.drop_nil, eq_self, List.toList_toArray, beq_self_eq_true, loadAgg_X wf, bs_29, bs_52, ia_29, sz_29, ze_29, ia_30, sz_30, ze_30, ia_2, sz_2, ze_2, ia_3, sz_3, ia_62, sz_62, fo_24_0, fo_24_1, fo_24_2, ia_24, sz_24, ia_52, sz_52, ze_52, pb_31, pb_11, pb_33, pb_13, pb_25, pb_24, pb_28, pb_29]; rfl)) ?_
    simp only [upd_apply, ↓reduceIte, reduceCtorEq, Nat.reduceEqDiff]
    refine WV_flat rfl (by omega) ?_
    exact ⟨rfl, rfl⟩

/-- Which share is asked for. -/
def gOf (what : Int) : Nat := if what = 0 then 47 else if what = 1 then 48 else 49
theorem gOf_or (what : Int) : gOf what = 47 ∨ gOf what = 48 ∨ gOf what = 49 := by
  unfold gOf
  by_cases h0 : what = 0
  · rw [if_pos h0]; exact .inl rfl
  · rw [if_neg h0]
    by_cases h1 : what = 1
    · rw [if_pos h1]; exact .inr (.inl rfl)
    · rw [if_neg h1]; exact .inr (.inr rfl)
theorem asked (sp st : Int) (a : AV) (what : Int) (hwh : 0 ≤ what ∧ what ≤ 2) (h : H) (wf : Wf h) (J : List AO) (w : Nat) (hw : w ≤ h.clock + J.length) :
    (om Try.prog KK).call (.fn 28 [.agg [ii sp, ii st, a], ii what]) (X h J w) = .ok (.tup [.fn (gOf what) [.agg [ii sp, ii st, a]] [], ii 0]) (X h (J ++ [.cells (mkCells [ii sp, ii st, a]) 52]) w) := by
  have wf' := wf.X hw
  have key : ∀ hb, Wf hb → (om Try.prog KK).call (.fn 28 [.agg [ii sp, ii st, a], ii what]) hb = .ok (.tup [.fn (gOf what) [.agg [ii sp, ii st, a]] [], ii 0]) (X hb [.cells (mkCells [ii sp, ii st, a]) 52] hb.w) := by
    clear wf wf'
    intro hb wf
    refine WV_to (WV_call (fn := Try.f28) Try.func28 rfl rfl rfl rfl rfl ?_)
    simp only [argF]
    (repeat' (first
  | (with_reducible refine WC_seq ?_) | (refine WC_region ?_) | (with_reducible refine WC_skip ?_) | (with_reducible refine WC_label ?_) | (with_reducible refine WC_scope ?_) | (with_reducible refine WC_block ?_) | (with_reducible refine WC_ret ?_) | (with_reducible refine WC_exit ?_)
  | (with_reducible refine seqQ_norm ?_) | (with_reducible refine seqQ_ret ?_) | (with_reducible refine seqQ_exit ?_) | (with_reducible refine blkQ_norm ?_) | (with_reducible refine blkQ_ret ?_) | (with_reducible refine blkQ_here ?_) | (refine blkQ_out rfl ?_)
  | (refine WO_nil ?_)
  | (refine WD_nil ?_)
  | (refine WD_gate rfl rfl rfl rfl rfl fun K_ hK_ => ?_; simp only [upd_apply, asB_bool, asB_tup, ↓reduceIte, reduceCtorEq, Nat.reduceEqDiff, Bool.not_true, Bool.not_false]; refine hK_ _ ?_; clear hK_ K_)
  | (refine WO_gate rfl rfl rfl rfl rfl fun K_ hK_ => ?_; simp only [upd_apply, asB_bool, asB_tup, ↓reduceIte, reduceCtorEq, Nat.reduceEqDiff, Bool.not_true, Bool.not_false]; refine hK_ _ ?_; clear hK_ K_)
  | (with_reducible refine gateK_yes ?_) | (refine gateK_no (by decide) ?_) | (with_reducible refine gateK_none ?_)
  | ((try first | refine WO_op rfl rfl rfl ?_ | refine WO_op0 rfl rfl ?_ | refine WD_op rfl rfl rfl ?_ | refine WD_op0 rfl rfl ?_); (refine WV_gen fun Q_ hQ_ => ?_; simp (disch := first | omega | (simp only [List.length_cons, List.length_nil, List.length_append]; omega)) only [bb, argF, ↓reduceIte, reduceCtorEq, Nat.reduceEqDiff, Nat.reduceLT, Nat.reduceLeDiff, Nat.reduceAdd, Nat.reduceMul, Nat.reduceSub, Nat.reduceBEq, Int.reduceToNat, List.append_assoc, List.length_append, cond_true, cond_false, List.length_cons, List.length_nil, List.cons_append, List.nil_append, List.append_nil, List.getElem?_cons_zero, List.getElem?_cons_succ, List.set_cons_zero, List.set_cons_succ, List.drop_zero, List.drop_succ_cons, List.take_zero, List.take_succ_cons, List.take_nil, List.drop_nil, eq_self, List.toList_toArray, beq_self_eq_true, newPtr_X wf, load1_X wf, loadAgg_X wf, store1_X wf, writeCells_X wf, makeFunc_def, bs_29, bs_52, ia_29, sz_29, ze_29, ia_30, sz_30, ze_30, ia_2, sz_2, ze_2, ia_3, sz_3, ia_62, sz_62, fo_24_0, fo_24_1, fo_24_2, ia_24, sz_24, ia_52, sz_52, ze_52, pb_31, pb_11, pb_33, pb_13, pb_25, pb_24, pb_28, pb_29]; first | (refine dec_split (Q := Q_) (fun hp_ => ?_) (fun hp_ => ?_) <;> first | (exfalso; omega) | (refine hQ_ _ _ ?_; clear hQ_ Q_)) | (refine dec_splitn (Q := Q_) (fun hp_ => ?_) (fun hp_ => ?_) <;> first | (exfalso; omega) | (refine hQ_ _ _ ?_; clear hQ_ Q_)) | (refine hQ_ _ _ ?_; clear hQ_ Q_)))
  | (refine WC_cond fun K_ hK_ => ?_; simp (disch := omega) only [evT_tmp, upd_apply, WB_some, ↓reduceIte, reduceCtorEq, Nat.reduceEqDiff, Nat.reduceLT]; refine hK_ _ ?_; clear hK_ K_)
  | (with_reducible refine condK_tt ?_) | (with_reducible refine condK_ff ?_) | (with_reducible refine roundQ_exit ?_) | (with_reducible refine roundQ_ret ?_)))
    all_goals
      refine endQ_ret _ _ rfl (ret2 (by decide) (by decide)) ?_
      simp only [upd_apply, ↓reduceIte, reduceCtorEq, Nat.reduceEqDiff]
      refine WV_ext (by
        show (_ && flat (.tup [.fn _ [.agg _] [], ii 0])) = false
        exact Bool.and_false _) ?_
      refine ⟨?_, ?_⟩
      · unfold gOf
        first
          | (rw [if_pos (by omega)])
          | (rw [if_neg (by omega), if_pos (by omega)])
          | (rw [if_neg (by omega), if_neg (by omega)])
      · rw [Nat.min_eq_left wf.wle]
  rw [key _ wf', X_X, X_w]
theorem askedNot (sp st : Int) (a : AV) (what : Int) (hwh : ¬ (0 ≤ what ∧ what ≤ 2)) (h : H) (wf : Wf h) :
    (om Try.prog KK).call (.fn 28 [.agg [ii sp, ii st, a], ii what]) h = .ok (.tup [.nilf, ii 3]) h := by
  refine WV_to (WV_call (fn := Try.f28) Try.func28 rfl rfl rfl rfl rfl ?_)
  simp only [argF]
  (repeat' (first
  | (with_reducible refine WC_seq ?_) | (refine WC_region ?_) | (with_reducible refine WC_skip ?_) | (with_reducible refine WC_label ?_) | (with_reducible refine WC_scope ?_) | (with_reducible refine WC_block ?_) | (with_reducible refine WC_ret ?_) | (with_reducible refine WC_exit ?_)
  | (with_reducible refine seqQ_norm ?_) | (with_reducible refine seqQ_ret ?_) | (with_reducible refine seqQ_exit ?_) | (with_reducible refine blkQ_norm ?_) | (with_reducible refine blkQ_ret ?_) | (with_reducible refine blkQ_here ?_) | (refine blkQ_out rfl ?_)
  | (refine WO_nil ?_)
  | (refine WD_nil ?_)
  | (refine WD_gate rfl rfl rfl rfl rfl fun K_ hK_ => ?_; simp only [upd_apply, asB_bool, asB_tup, ↓reduceIte, reduceCtorEq, Nat.reduceEqDiff, Bool.not_true, Bool.not_false]; refine hK_ _ ?_; clear hK_ K_)
  | (refine WO_gate rfl rfl rfl rfl rfl fun K_ hK_ => ?_; simp only [upd_apply, asB_bool, asB_tup, ↓reduceIte, reduceCtorEq, Nat.reduceEqDiff, Bool.not_true, Bool.not_false]; refine hK_ _ ?_; clear hK_ K_)
  | (with_reducible refine gateK_yes ?_) | (refine gateK_no (by decide) ?_) | (with_reducible refine gateK_none ?_)
  | ((try first | refine WO_op rfl rfl rfl ?_ | refine WO_op0 rfl rfl ?_ | refine WD_op rfl rfl rfl ?_ | refine WD_op0 rfl rfl ?_); (refine WV_gen fun Q_ hQ_ => ?_; simp (disch := first | omega | (simp only [List.length_cons, List.length_nil, List.length_append]; omega)) only [bb, argF, ↓reduceIte, reduceCtorEq, Nat.reduceEqDiff, Nat.reduceLT, Nat.reduceLeDiff, Nat.reduceAdd, Nat.reduceMul, Nat.reduceSub, Nat.reduceBEq, Int.reduceToNat, List.append_assoc, List.length_append, cond_true, cond_false, List.length_cons, List.length_nil, List.cons_append, List.nil_append, List.append_nil, List.getElem?_cons_zero, List.getElem?_cons_succ, List.set_cons_zero, List.set_cons_succ, List.drop_zero, List.drop_succ_cons, List.take_zero, List.take_succ_cons, List.take_nil, List.drop_nil, eq_self, List.toList_toArray, beq_self_eq_true, newPtr_X wf, load1_X wf, loadAgg_X wf, store1_X wf, writeCells_X wf, makeFunc_def, bs_29, bs_52, ia_29, sz_29, ze_29, ia_30, sz_30, ze_30, ia_2, sz_2, ze_2, ia_3, sz_3, ia_62, sz_62, fo_24_0, fo_24_1, fo_24_2, ia_24, sz_24, ia_52, sz_52, ze_52, pb_31, pb_11, pb_33, pb_13, pb_25, pb_24, pb_28, pb_29]; first | (refine dec_split (Q := Q_) (fun hp_ => ?_) (fun hp_ => ?_) <;> first | (exfalso; omega) | (refine hQ_ _ _ ?_; clear hQ_ Q_)) | (refine dec_splitn (Q := Q_) (fun hp_ => ?_) (fun hp_ => ?_) <;> first | (exfalso; omega) | (refine hQ_ _ _ ?_; clear hQ_ Q_)) | (refine hQ_ _ _ ?_; clear hQ_ Q_)))
  | (refine WC_cond fun K_ hK_ => ?_; simp (disch := omega) only [evT_tmp, upd_apply, WB_some, ↓reduceIte, reduceCtorEq, Nat.reduceEqDiff, Nat.reduceLT]; refine hK_ _ ?_; clear hK_ K_)
  | (with_reducible refine condK_tt ?_) | (with_reducible refine condK_ff ?_) | (with_reducible refine roundQ_exit ?_) | (with_reducible refine roundQ_ret ?_)))
  (refine endQ_ret _ _ rfl (ret2 (by decide) (by decide)) ?_; simp only [upd_apply, ↓reduceIte, reduceCtorEq, Nat.reduceEqDiff]; refine WV_flat rfl (by omega) ?_)
  exact ⟨rfl, rfl⟩

def valOut (sp st : Int) (rows : List (List (Int × Int))) (ys : List (List Int)) (what : Int) : AV :=
  if trueErr sp st rows ys = 0 then (if 0 ≤ what ∧ what ≤ 2 then .tup [frac (numS (gOf what) sp st rows.length (m0 rows) ys) (denS (gOf what) st rows.length (m0 rows) ys), ii 0] else .tup [zeroR, ii 3]) else .tup [zeroR, ii (trueErr sp st rows ys)]

theorem valueX (sp st : Int) (a b : AV) (rvs yvs : List AV) (rows : List (List (Int × Int))) (ys : List (List Int)) (hyl : ys.length ≤ 1000) (what : Int) (h : H) (x : HullR h a rvs rows) (y : YsR h b yvs ys) :
    (om Try.prog KK).call (.fn 9 [.agg [ii sp, ii st, a], b, ii what]) h = .ok (valOut sp st rows ys what) h := by
  have wf := x.wf
  obtain ⟨hac, hao⟩ := Sl.one x.sl
  refine WV_to (WV_call (fn := Try.f9) Try.func9 rfl rfl rfl rfl rfl ?_)
  simp only [argF]
  have hch : ∀ l w, w ≤ h.clock + l.length → (om Try.prog KK).call (.fn 13 [.agg [ii sp, ii st, a], b]) (X h l w) = .ok (ii (trueErr sp st rows ys)) (X h l w) := fun l w hw => checkTrue sp st a b rvs yvs rows ys hyl _ (x.up l w hw) (y.up l w hw)
  unfold valOut
  by_cases he : trueErr sp st rows ys = 0
  · have t := trueErr_ok he
    rw [if_pos he]
    by_cases hwh : 0 ≤ what ∧ what ≤ 2
    · have xat := x.at (m := m0 rows) (by have := t.m; omega) (fun i hi => t.all _ (List.getElem_mem hi))
      have yat' := y.at (m := m0 rows) (by have := t.m; omega) (fun i hi => t.yall _ (List.getElem_mem hi))
      have hgr : ∀ l w, w ≤ h.clock + l.length → (om Try.prog KK).call (.fn 25 [b]) (X h l w) = .ok (.agg ((gridP ys ys.length).map ii)) (X h l w) := fun l w hw => gridOf b yvs ys (m0 rows) (by rw [t.yn]; exact t.n) t.m _ (yat'.up l w hw)
      have hgy : ∀ q, q < rows.length * m0 rows → yat (gridP ys ys.length) (m0 rows) q = yAt ys (m0 rows) q := fun q hq => grid_yat t.yn t.n.2 t.m.2 hq
      have e1 : psum (nuAt (gOf what) sp st rows.length (m0 rows) (gridP ys ys.length)) (rows.length * m0 rows) = numS (gOf what) sp st rows.length (m0 rows) ys := psum_congr fun q hq => by unfold nuAt; rw [hgy q hq]; rfl
      have e2 : psum (deAt (gOf what) st rows.length (m0 rows) (gridP ys ys.length)) (rows.length * m0 rows) = denS (gOf what) st rows.length (m0 rows) ys := psum_congr fun q hq => by unfold deAt; rw [hgy q hq]; rfl
      have hnu : ∀ l w, w ≤ h.clock + l.length → (om Try.prog KK).call (.fn 29 [.agg [ii sp, ii st, a], .fn (gOf what) [.agg [ii sp, ii st, a]] [], .agg ((gridP ys ys.length).map ii)]) (X h l w)
          = .ok (frac (numS (gOf what) sp st rows.length (m0 rows) ys) (denS (gOf what) st rows.length (m0 rows) ys)) (X h l w) := fun l w hw => by
        rw [number (gOf_or what) sp st t.sp t.st a rvs rows (m0 rows) t.n t.m _ (gridP_length _ _) (fun q hq => by rw [hgy q hq]; exact t.y q hq) _ (xat.up l w hw) (by rw [e2]; exact denS_pos t), e1, e2]
      rw [if_pos hwh]
      (repeat' (first
  | (with_reducible refine WC_seq ?_) | (refine WC_region ?_) | (with_reducible refine WC_skip ?_) | (with_reducible refine WC_label ?_) | (with_reducible refine WC_scope ?_) | (with_reducible refine WC_block ?_) | (with_reducible refine WC_ret ?_) | (with_reducible refine WC_exit ?_)
  | (with_reducible refine seqQ_norm ?_) | (with_reducible refine seqQ_ret ?_) | (with_reducible refine seqQ_exit ?_) | (with_reducible refine blkQ_norm ?_) | (with_reducible refine blkQ_ret ?_) | (with_reducible refine blkQ_here ?_) | (refine blkQ_out rfl ?_)
  | (refine WO_nil ?_)
  | (refine WD_nil ?_)
  | (refine WD_gate rfl rfl rfl rfl rfl fun K_ hK_ => ?_; simp only [upd_apply, asB_bool, asB_tup, ↓reduceIte, reduceCtorEq, Nat.reduceEqDiff, Bool.not_true, Bool.not_false]; refine hK_ _ ?_; clear hK_ K_)
  | (refine WO_gate rfl rfl rfl rfl rfl fun K_ hK_ => ?_; simp only [upd_apply, asB_bool, asB_tup, ↓reduceIte, reduceCtorEq, Nat.reduceEqDiff, Bool.not_true, Bool.not_false]; refine hK_ _ ?_; clear hK_ K_)
  | (with_reducible refine gateK_yes ?_) | (refine gateK_no (by decide) ?_) | (with_reducible refine gateK_none ?_)
  | ((try first | refine WO_op rfl rfl rfl ?_ | refine WO_op0 rfl rfl ?_ | refine WD_op rfl rfl rfl ?_ | refine WD_op0 rfl rfl ?_); (refine WV_gen fun Q_ hQ_ => ?_; simp (disch := first | omega | (simp only [List.length_cons, List.length_nil, List.length_append]; omega)) only [bb, argF, ↓reduceIte, reduceCtorEq, Nat.reduceEqDiff, Nat.reduceLT, Nat.reduceLeDiff, Nat.reduceAdd, Nat.reduceMul, Nat.reduceSub, Nat.reduceBEq, Int.reduceToNat, List.append_assoc, List.length_append, cond_true, cond_false, List.length_cons, List.length_nil, List.cons_append, List.nil_append, List.append_nil, List.getElem?_cons_zero, List.getElem?_cons_succ, List.set_cons_zero, List.set_cons_succ, List.drop_zero, List.drop_succ_cons, List.take_zero, List.take_succ_cons, List.take_nil, List.drop_nil, eq_self, List.toList_toArray, beq_self_eq_true, hch, he, hao, newPtr_X wf, load1_X wf, loadAgg_X wf, store1_X wf, writeCells_X wf, makeFunc_def, bs_29, bs_52, ia_29, sz_29, ze_29, ia_30, sz_30, ze_30, ia_2, sz_2, ze_2, ia_3, sz_3, ia_62, sz_62, fo_24_0, fo_24_1, fo_24_2, ia_24, sz_24, ia_52, sz_52, ze_52, pb_31, pb_11, pb_33, pb_13, pb_25, pb_24, pb_28, pb_29]; first | (refine dec_split (Q := Q_) (fun hp_ => ?_) (fun hp_ => ?_) <;> first | (exfalso; omega) | (refine hQ_ _ _ ?_; clear hQ_ Q_)) | (refine dec_splitn (Q := Q_) (fun hp_ => ?_) (fun hp_ => ?_) <;> first | (exfalso; omega) | (refine hQ_ _ _ ?_; clear hQ_ Q_)) | (refine hQ_ _ _ ?_; clear hQ_ Q_) | (refine WV_eq (asked sp st a what hwh h wf _ _ (by simp only [List.length_append, List.length_cons, List.length_nil]; omega)) ?_; refine hQ_ _ _ ?_; clear hQ_ Q_)))
  | (refine WC_cond fun K_ hK_ => ?_; simp (disch := omega) only [evT_tmp, upd_apply, WB_some, ↓reduceIte, reduceCtorEq, Nat.reduceEqDiff, Nat.reduceLT]; refine hK_ _ ?_; clear hK_ K_)
  | (with_reducible refine condK_tt ?_) | (with_reducible refine condK_ff ?_) | (with_reducible refine roundQ_exit ?_) | (with_reducible refine roundQ_ret ?_)))
      refine WC_drawnB [.no, .no, .no, .no, .full, .full, .full] (by kernel_rfl) ?_
      (repeat' (first
  | (with_reducible refine WC_seq ?_) | (refine WC_region ?_) | (with_reducible refine WC_skip ?_) | (with_reducible refine WC_label ?_) | (with_reducible refine WC_scope ?_) | (with_reducible refine WC_block ?_) | (with_reducible refine WC_ret ?_) | (with_reducible refine WC_exit ?_)
  | (with_reducible refine seqQ_norm ?_) | (with_reducible refine seqQ_ret ?_) | (with_reducible refine seqQ_exit ?_) | (with_reducible refine blkQ_norm ?_) | (with_reducible refine blkQ_ret ?_) | (with_reducible refine blkQ_here ?_) | (refine blkQ_out rfl ?_)
  | (refine WO_nil ?_)
  | (refine WD_nil ?_)
  | (refine WD_gate rfl rfl rfl rfl rfl fun K_ hK_ => ?_; simp only [upd_apply, asB_bool, asB_tup, ↓reduceIte, reduceCtorEq, Nat.reduceEqDiff, Bool.not_true, Bool.not_false]; refine hK_ _ ?_; clear hK_ K_)
  | (refine WO_gate rfl rfl rfl rfl rfl fun K_ hK_ => ?_; simp only [upd_apply, asB_bool, asB_tup, ↓reduceIte, reduceCtorEq, Nat.reduceEqDiff, Bool.not_true, Bool.not_false]; refine hK_ _ ?_; clear hK_ K_)
  | (with_reducible refine gateK_yes ?_) | (refine gateK_no (by decide) ?_) | (with_reducible refine gateK_none ?_)
  | ((try first | refine WO_op rfl rfl rfl ?_ | refine WO_op0 rfl rfl ?_ | refine WD_op rfl rfl rfl ?_ | refine WD_op0 rfl rfl ?_); (refine WV_gen fun Q_ hQ_ => ?_; simp (disch := first | omega | (simp only [List.length_cons, List.length_nil, List.length_append]; omega)) only [bb, argF, ↓reduceIte, reduceCtorEq, Nat.reduceEqDiff, Nat.reduceLT, Nat.reduceLeDiff, Nat.reduceAdd, Nat.reduceMul, Nat.reduceSub, Nat.reduceBEq, Int.reduceToNat, List.append_assoc, List.length_append, cond_true, cond_false, List.length_cons, List.length_nil, List.cons_append, List.nil_append, List.append_nil, List.getElem?_cons_zero, List.getElem?_cons_succ, List.set_cons_zero, List.set_cons_succ, List.drop_zero, List.drop_succ_cons, List.take_zero, List.take_succ_cons, List.take_nil, List.drop_nil, eq_self, List.toList_toArray, beq_self_eq_true, hgr, hnu, frac, newPtr_X wf, load1_X wf, loadAgg_X wf, store1_X wf, writeCells_X wf, makeFunc_def, bs_29, bs_52, ia_29, sz_29, ze_29, ia_30, sz_30, ze_30, ia_2, sz_2, ze_2, ia_3, sz_3, ia_62, sz_62, fo_24_0, fo_24_1, fo_24_2, ia_24, sz_24, ia_52, sz_52, ze_52, pb_31, pb_11, pb_33, pb_13, pb_25, pb_24, pb_28, pb_29]; first | (refine dec_split (Q := Q_) (fun hp_ => ?_) (fun hp_ => ?_) <;> first | (exfalso; omega) | (refine hQ_ _ _ ?_; clear hQ_ Q_)) | (refine dec_splitn (Q := Q_) (fun hp_ => ?_) (fun hp_ => ?_) <;> first | (exfalso; omega) | (refine hQ_ _ _ ?_; clear hQ_ Q_)) | (refine hQ_ _ _ ?_; clear hQ_ Q_)))
  | (refine WC_cond fun K_ hK_ => ?_; simp (disch := omega) only [evT_tmp, upd_apply, WB_some, ↓reduceIte, reduceCtorEq, Nat.reduceEqDiff, Nat.reduceLT]; refine hK_ _ ?_; clear hK_ K_)
  | (with_reducible refine condK_tt ?_) | (with_reducible refine condK_ff ?_) | (with_reducible refine roundQ_exit ?_) | (with_reducible refine roundQ_ret ?_)))
      refine endQ_ret _ _ rfl (retc1 (by decide) (by decide) (by simp (disch := first | omega | (simp only [List.length_cons, List.length_nil, List.length_append]; omega)) only [bb, argF, ↓reduceIte, reduceCtorEq, Nat.reduceEqDiff, Nat.reduceLT, Nat.reduceLeDiff, Nat.reduceAdd, Nat.reduceMul, Nat.reduceSub, Nat.reduceBEq, Int.reduceToNat, List.append_assoc, List.length_append, cond_true, cond_false, List.length_cons, List.length_nil, List.cons_append, List.nil_append, List.append_nil, List.getElem?_cons_zero, List.getElem?_cons_succ, List.set_cons_zero, List.set_cons_succ, List.drop_zero, List.drop_succ_cons, List.take_zero, List.take_succ_cons, List.take_nil, List.drop_nil, eq_self, List.toList_toArray, beq_self_eq_true, loadAgg_X wf, frac, bs_29, bs_52, ia_29, sz_29, ze_29, ia_30, sz_30, ze_30, ia_2, sz_2, ze_2, ia_3, sz_3, ia_62, sz_62, fo_24_0, fo_24_1, fo_24_2, ia_24, sz_24, ia_52, sz_52, ze_52, pb_31, pb_11, pb_33, pb_13, pb_25, pb_24, pb_28, pb_29]; rfl)) ?_
      simp only [upd_apply, ↓reduceIte, reduceCtorEq, Nat.reduceEqDiff]
      refine WV_flat rfl (by omega) ?_
      exact ⟨rfl, rfl⟩
    · have han : ∀ l w, w ≤ h.clock + l.length → (om Try.prog KK).call (.fn 28 [.agg [ii sp, ii st, a], ii what]) (X h l w) = .ok (.tup [.nilf, ii 3]) (X h l w) := fun l w hw => askedNot sp st a what hwh _ (wf.X hw)
      rw [if_neg hwh]
      (repeat' (first
  | (with_reducible refine WC_seq ?_) | (refine WC_region ?_) | (with_reducible refine WC_skip ?_) | (with_reducible refine WC_label ?_) | (with_reducible refine WC_scope ?_) | (with_reducible refine WC_block ?_) | (with_reducible refine WC_ret ?_) | (with_reducible refine WC_exit ?_)
  | (with_reducible refine seqQ_norm ?_) | (with_reducible refine seqQ_ret ?_) | (with_reducible refine seqQ_exit ?_) | (with_reducible refine blkQ_norm ?_) | (with_reducible refine blkQ_ret ?_) | (with_reducible refine blkQ_here ?_) | (refine blkQ_out rfl ?_)
  | (refine WO_nil ?_)
  | (refine WD_nil ?_)
  | (refine WD_gate rfl rfl rfl rfl rfl fun K_ hK_ => ?_; simp only [upd_apply, asB_bool, asB_tup, ↓reduceIte, reduceCtorEq, Nat.reduceEqDiff, Bool.not_true, Bool.not_false]; refine hK_ _ ?_; clear hK_ K_)
  | (refine WO_gate rfl rfl rfl rfl rfl fun K_ hK_ => ?_; simp only [upd_apply, asB_bool, asB_tup, ↓reduceIte, reduceCtorEq, Nat.reduceEqDiff, Bool.not_true, Bool.not_false]; refine hK_ _ ?_; clear hK_ K_)
  | (with_reducible refine gateK_yes ?_) | (refine gateK_no (by decide) ?_) | (with_reducible refine gateK_none ?_)
  | ((try first | refine WO_op rfl rfl rfl ?_ | refine WO_op0 rfl rfl ?_ | refine WD_op rfl rfl rfl ?_ | refine WD_op0 rfl rfl ?_); (refine WV_gen fun Q_ hQ_ => ?_; simp (disch := first | omega | (simp only [List.length_cons, List.length_nil, List.length_append]; omega)) only [bb, argF, ↓reduceIte, reduceCtorEq, Nat.reduceEqDiff, Nat.reduceLT, Nat.reduceLeDiff, Nat.reduceAdd, Nat.reduceMul, Nat.reduceSub, Nat.reduceBEq, Int.reduceToNat, List.append_assoc, List.length_append, cond_true, cond_false, List.length_cons, List.length_nil, List.cons_append, List.nil_append, List.append_nil, List.getElem?_cons_zero, List.getElem?_cons_succ, List.set_cons_zero, List.set_cons_succ, List.drop_zero, List.drop_succ_cons, List.take_zero, List.take_succ_cons, List.take_nil, List.drop_nil, eq_self, List.toList_toArray, beq_self_eq_true, hch, he, han, hao, newPtr_X wf, load1_X wf, loadAgg_X wf, store1_X wf, writeCells_X wf, makeFunc_def, bs_29, bs_52, ia_29, sz_29, ze_29, ia_30, sz_30, ze_30, ia_2, sz_2, ze_2, ia_3, sz_3, ia_62, sz_62, fo_24_0, fo_24_1, fo_24_2, ia_24, sz_24, ia_52, sz_52, ze_52, pb_31, pb_11, pb_33, pb_13, pb_25, pb_24, pb_28, pb_29]; first | (refine dec_split (Q := Q_) (fun hp_ => ?_) (fun hp_ => ?_) <;> first | (exfalso; omega) | (refine hQ_ _ _ ?_; clear hQ_ Q_)) | (refine dec_splitn (Q := Q_) (fun hp_ => ?_) (fun hp_ => ?_) <;> first | (exfalso; omega) | (refine hQ_ _ _ ?_; clear hQ_ Q_)) | (refine hQ_ _ _ ?_; clear hQ_ Q_)))
  | (refine WC_cond fun K_ hK_ => ?_; simp (disch := omega) only [evT_tmp, upd_apply, WB_some, ↓reduceIte, reduceCtorEq, Nat.reduceEqDiff, Nat.reduceLT]; refine hK_ _ ?_; clear hK_ K_)
  | (with_reducible refine condK_tt ?_) | (with_reducible refine condK_ff ?_) | (with_reducible refine roundQ_exit ?_) | (with_reducible refine roundQ_ret ?_)))
      refine endQ_ret _ _ rfl (retc1 (by decide) (by decide) (by simp (disch := first | omega | (simp only [List.length_cons, List.length_nil, List.length_append]; omega)) only [bb, argF, ↓reduceIte, reduceCtorEq, Nat.reduceEqDiff, Nat.reduceLT, Nat.reduceLeDiff, Nat.reduceAdd, Nat.reduceMul, Nat.reduceSub, Nat.reduceBEq, Int.reduceToNat, List.append_assoc, List.length_append, cond_true, cond_false, List.length_cons, List.length_nil, List.cons_append, List.nil_append, List.append_nil, List.getElem?_cons_zero, List.getElem?_cons_succ, List.set_cons_zero, List.set_cons_succ, List.drop_zero, List.drop_succ_cons, List.take_zero, List.take_succ_cons, List.take_nil, List.drop_nil, eq_self, List.toList_toArray, beq_self_eq_true, loadAgg_X wf, bs_29, bs_52, ia_29, sz_29, ze_29, ia_30, sz_30, ze_30, ia_2, sz_2, ze_2, ia_3, sz_3, ia_62, sz_62, fo_24_0, fo_24_1, fo_24_2, ia_24, sz_24, ia_52, sz_52, ze_52, pb_31, pb_11, pb_33, pb_13, pb_25, pb_24, pb_28, pb_29]; rfl)) ?_
      simp only [upd_apply, ↓reduceIte, reduceCtorEq, Nat.reduceEqDiff]
      refine WV_flat rfl (by omega) ?_
      exact ⟨rfl, rfl⟩
  · rw [if_neg he]
    (repeat' (first
  | (with_reducible refine WC_seq ?_) | (refine WC_region ?_) | (with_reducible refine WC_skip ?_) | (with_reducible refine WC_label ?_) | (with_reducible refine WC_scope ?_) | (with_reducible refine WC_block ?_) | (with_reducible refine WC_ret ?_) | (with_reducible refine WC_exit ?_)
  | (with_reducible refine seqQ_norm ?_) | (with_reducible refine seqQ_ret ?_) | (with_reducible refine seqQ_exit ?_) | (with_reducible refine blkQ_norm ?_) | (with_reducible refine blkQ_ret ?_) | (with_reducible refine blkQ_here ?_) | (refine blkQ_out rfl ?_)
  | (refine WO_nil ?_)
  | (refine WD_nil ?_)
  | (refine WD_gate rfl rfl rfl rfl rfl fun K_ hK_ => ?_; simp only [upd_apply, asB_bool, asB_tup, ↓reduceIte, reduceCtorEq, Nat.reduceEqDiff, Bool.not_true, Bool.not_false]; refine hK_ _ ?_; clear hK_ K_)
  | (refine WO_gate rfl rfl rfl rfl rfl fun K_ hK_ => ?_; simp only [upd_apply, asB_bool, asB_tup, ↓reduceIte, reduceCtorEq, Nat.reduceEqDiff, Bool.not_true, Bool.not_false]; refine hK_ _ ?_; clear hK_ K_)
  | (with_reducible refine gateK_yes ?_) | (refine gateK_no (by decide) ?_) | (with_reducible refine gateK_none ?_)
  | ((try first | refine WO_op rfl rfl rfl ?_ | refine WO_op0 rfl rfl ?_ | refine WD_op rfl rfl rfl ?_ | refine WD_op0 rfl rfl ?_); (refine WV_gen fun Q_ hQ_ => ?_; simp (disch := first | omega | (simp only [List.length_cons, List.length_nil, List.length_append]; omega)) only [bb, argF, ↓reduceIte, reduceCtorEq, Nat.reduceEqDiff, Nat.reduceLT, Nat.reduceLeDiff, Nat.reduceAdd, Nat.reduceMul, Nat.reduceSub, Nat.reduceBEq, Int.reduceToNat, List.append_assoc, List.length_append, cond_true, cond_false, List.length_cons, List.length_nil, List.cons_append, List.nil_append, List.append_nil, List.getElem?_cons_zero, List.getElem?_cons_succ, List.set_cons_zero, List.set_cons_succ, List.drop_zero, List.drop_succ_cons, List.take_zero, List.take_succ_cons, List.take_nil, List.drop_nil, eq_self, List.toList_toArray, beq_self_eq_true, hch, newPtr_X wf, load1_X wf, loadAgg_X wf, store1_X wf, writeCells_X wf, makeFunc_def, bs_29, bs_52, ia_29, sz_29, ze_29, ia_30, sz_30, ze_30, ia_2, sz_2, ze_2, ia_3, sz_3, ia_62, sz_62, fo_24_0, fo_24_1, fo_24_2, ia_24, sz_24, ia_52, sz_52, ze_52, pb_31, pb_11, pb_33, pb_13, pb_25, pb_24, pb_28, pb_29]; first | (refine dec_split (Q := Q_) (fun hp_ => ?_) (fun hp_ => ?_) <;> first | (exfalso; omega) | (refine hQ_ _ _ ?_; clear hQ_ Q_)) | (refine dec_splitn (Q := Q_) (fun hp_ => ?_) (fun hp_ => ?_) <;> first | (exfalso; omega) | (refine hQ_ _ _ ?_; clear hQ_ Q_)) | (refine hQ_ _ _ ?_; clear hQ_ Q_)))
  | (refine WC_cond fun K_ hK_ => ?_; simp (disch := omega) only [evT_tmp, upd_apply, WB_some, ↓reduceIte, reduceCtorEq, Nat.reduceEqDiff, Nat.reduceLT]; refine hK_ _ ?_; clear hK_ K_)
  | (with_reducible refine condK_tt ?_) | (with_reducible refine condK_ff ?_) | (with_reducible refine roundQ_exit ?_) | (with_reducible refine roundQ_ret ?_)))
    refine endQ_ret _ _ rfl (retc1 (by decide) (by decide) (by simp (disch := first | omega | (simp only [List.length_cons, List.length_nil, List.length_append]; omega)) only [bb, argF, ↓reduceIte, reduceCtorEq, Nat.reduceEqDiff, Nat.reduceLT, Nat.reduceLeDiff, Nat.reduceAdd, Nat.reduceMul, Nat.reduceSub, Nat.reduceBEq, Int.reduceToNat, List.append_assoc, List.length_append, cond_true, cond_false, List.length_cons, List.length_nil, List.cons_append, List.nil_append, List.append_nil, List.getElem?_cons_zero, List.getElem?_cons_succ, List.set_cons_zero, List.set_cons_succ, List.drop_zero, List.drop_succ_cons, List.take_zero, List.take_succ_cons, List.take_nil, List.drop_nil, eq_self, List.toList_toArray, beq_self_eq_true, loadAgg_X wf, bs_29, bs_52, ia_29, sz_29, ze_29, ia_30, sz_30, ze_30, ia_2, sz_2, ze_2, ia_3, sz_3, ia_62, sz_62, fo_24_0, fo_24_1, fo_24_2, ia_24, sz_24, ia_52, sz_52, ze_52, pb_31, pb_11, pb_33, pb_13, pb_25, pb_24, pb_28, pb_29]; rfl)) ?_
    simp only [upd_apply, ↓reduceIte, reduceCtorEq, Nat.reduceEqDiff]
    refine WV_flat rfl (by omega) ?_
    exact ⟨rfl, rfl⟩
end Go.Proofs.Ytghondkiondeaab
end
