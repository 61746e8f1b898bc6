/- The statement DragNarrower of layer 4: with narrower ranges no span becomes wider, and the span by several lines reaches from the least of the spans by each one to the greatest, for all tests, lines and numbers; no condition. -/
import Derived.Test.YthaleckfgcgegaaNarM6
import Derived.Test.YthaleckfgcgegaaRows
import Derived.WalkKit
import Derived.ProofKit
import Derived.OpenShut
set_option linter.all false
/- EvD24 -/
section
/-
  LAYER 4: limits that are held.
-/
namespace Go.Proofs.Ythaleckfgcgegaa
open Go.Ev
set_option maxRecDepth 100000
set_option linter.unusedSimpArgs false
set_option linter.unusedVariables false
set_option maxHeartbeats 2000000
theorem tEvD24 : type_of% (And.intro (And.intro (And.intro (And.intro (And.intro (And.intro (And.intro (@bs_24) (@bs_33)) (And.intro (@bs_35) (And.intro (@bs_37) (@bs_67)))) (And.intro (And.intro (@bs_76) (And.intro (@bs_87) (@bs_98))) (And.intro (@bs_117) (And.intro (@ia_2) (@sz_2))))) (And.intro (And.intro (And.intro (@ia_3) (@sz_3)) (And.intro (@ia_4) (And.intro (@sz_4) (@ia_22)))) (And.intro (And.intro (@sz_22) (And.intro (@ia_24) (@sz_24))) (And.intro (@ia_27) (And.intro (@sz_27) (@ia_33)))))) (And.intro (And.intro (And.intro (And.intro (@sz_33) (@ia_35)) (And.intro (@sz_35) (And.intro (@ia_37) (@sz_37)))) (And.intro (And.intro (@ia_43) (And.intro (@sz_43) (@ia_51))) (And.intro (@sz_51) (And.intro (@ia_55) (@sz_55))))) (And.intro (And.intro (And.intro (@ia_56) (And.intro (@sz_56) (@ia_67))) (And.intro (@sz_67) (And.intro (@ia_69) (@sz_69)))) (And.intro (And.intro (@ia_70) (And.intro (@sz_70) (@ia_73))) (And.intro (@sz_73) (And.intro (@ia_74) (@sz_74))))))) (And.intro (And.intro (And.intro (And.intro (And.intro (@ia_76) (@sz_76)) (And.intro (@ia_78) (And.intro (@sz_78) (@ia_87)))) (And.intro (And.intro (@sz_87) (And.intro (@ia_89) (@sz_89))) (And.intro (@ia_96) (And.intro (@sz_96) (@ia_98))))) (And.intro (And.intro (And.intro (@sz_98) (@ia_101)) (And.intro (@sz_101) (And.intro (@ia_105) (@sz_105)))) (And.intro (And.intro (@ia_107) (And.intro (@sz_107) (@ia_113))) (And.intro (@sz_113) (And.intro (@ia_114) (@sz_114)))))) (And.intro (And.intro (And.intro (And.intro (@ia_117) (@sz_117)) (And.intro (@ia_119) (And.intro (@sz_119) (@ze_2)))) (And.intro (And.intro (@ze_3) (And.intro (@ze_4) (@ze_24))) (And.intro (@ze_27) (And.intro (@ze_33) (@ze_35))))) (And.intro (And.intro (And.intro (@ze_37) (And.intro (@ze_67) (@ze_69))) (And.intro (@ze_76) (And.intro (@ze_87) (@ze_98)))) (And.intro (And.intro (@ze_117) (And.intro (@fo_24_0) (@fo_24_1))) (And.intro (@fo_33_0) (And.intro (@fo_33_1) (@fo_35_0)))))))) (And.intro (And.intro (And.intro (And.intro (And.intro (And.intro (@fo_35_1) (@fo_35_2)) (And.intro (@fo_35_3) (And.intro (@fo_35_4) (@fo_35_5)))) (And.intro (And.intro (@fo_35_6) (And.intro (@fo_35_7) (@fo_35_8))) (And.intro (@fo_35_9) (And.intro (@fo_37_0) (@fo_37_1))))) (And.intro (And.intro (And.intro (@fo_37_2) (@fo_37_3)) (And.intro (@fo_37_4) (And.intro (@fo_37_5) (@fo_67_0)))) (And.intro (And.intro (@fo_76_0) (And.intro (@fo_76_1) (@fo_87_0))) (And.intro (@fo_87_1) (And.intro (@fo_87_2) (@fo_98_0)))))) (And.intro (And.intro (And.intro (And.intro (@fo_98_1) (@pb_13)) (And.intro (@pb_14) (And.intro (@pb_15) (@pb_16)))) (And.intro (And.intro (@pb_17) (And.intro (@pb_18) (@pb_19))) (And.intro (@pb_20) (And.intro (@pb_21) (@pb_22))))) (And.intro (And.intro (And.intro (@pb_23) (And.intro (@pb_24) (@pb_25))) (And.intro (@pb_26) (And.intro (@pb_27) (@pb_28)))) (And.intro (And.intro (@pb_29) (And.intro (@pb_30) (@pb_31))) (And.intro (@pb_32) (And.intro (@pb_33) (@pb_34))))))) (And.intro (And.intro (And.intro (And.intro (And.intro (@pb_35) (@pb_36)) (And.intro (@pb_37) (And.intro (@pb_38) (@pb_39)))) (And.intro (And.intro (@pb_40) (And.intro (@pb_41) (@pb_42))) (And.intro (@pb_43) (And.intro (@pb_44) (@pb_45))))) (And.intro (And.intro (And.intro (@pb_46) (@pb_47)) (And.intro (@pb_48) (And.intro (@pb_49) (@pb_50)))) (And.intro (And.intro (@pb_51) (And.intro (@pb_52) (@pb_53))) (And.intro (@pb_54) (And.intro (@pb_55) (@pb_56)))))) (And.intro (And.intro (And.intro (And.intro (@pb_57) (@pb_58)) (And.intro (@pb_59) (And.intro (@pb_60) (@pb_61)))) (And.intro (And.intro (@pb_62) (And.intro (@pb_63) (@pb_64))) (And.intro (@pb_65) (And.intro (@pb_66) (@pb_67))))) (And.intro (And.intro (And.intro (@pb_68) (And.intro (@pb_69) (@pb_70))) (And.intro (@pb_71) (And.intro (@pb_72) (@pb_73)))) (And.intro (And.intro (@pb_74) (And.intro (@pb_75) (@pb_76))) (And.intro (@pb_77) (And.intro (@pb_78) (@pb_79))))))))) := And.intro (And.intro (And.intro (And.intro (And.intro (And.intro (And.intro (@bs_24) (@bs_33)) (And.intro (@bs_35) (And.intro (@bs_37) (@bs_67)))) (And.intro (And.intro (@bs_76) (And.intro (@bs_87) (@bs_98))) (And.intro (@bs_117) (And.intro (@ia_2) (@sz_2))))) (And.intro (And.intro (And.intro (@ia_3) (@sz_3)) (And.intro (@ia_4) (And.intro (@sz_4) (@ia_22)))) (And.intro (And.intro (@sz_22) (And.intro (@ia_24) (@sz_24))) (And.intro (@ia_27) (And.intro (@sz_27) (@ia_33)))))) (And.intro (And.intro (And.intro (And.intro (@sz_33) (@ia_35)) (And.intro (@sz_35) (And.intro (@ia_37) (@sz_37)))) (And.intro (And.intro (@ia_43) (And.intro (@sz_43) (@ia_51))) (And.intro (@sz_51) (And.intro (@ia_55) (@sz_55))))) (And.intro (And.intro (And.intro (@ia_56) (And.intro (@sz_56) (@ia_67))) (And.intro (@sz_67) (And.intro (@ia_69) (@sz_69)))) (And.intro (And.intro (@ia_70) (And.intro (@sz_70) (@ia_73))) (And.intro (@sz_73) (And.intro (@ia_74) (@sz_74))))))) (And.intro (And.intro (And.intro (And.intro (And.intro (@ia_76) (@sz_76)) (And.intro (@ia_78) (And.intro (@sz_78) (@ia_87)))) (And.intro (And.intro (@sz_87) (And.intro (@ia_89) (@sz_89))) (And.intro (@ia_96) (And.intro (@sz_96) (@ia_98))))) (And.intro (And.intro (And.intro (@sz_98) (@ia_101)) (And.intro (@sz_101) (And.intro (@ia_105) (@sz_105)))) (And.intro (And.intro (@ia_107) (And.intro (@sz_107) (@ia_113))) (And.intro (@sz_113) (And.intro (@ia_114) (@sz_114)))))) (And.intro (And.intro (And.intro (And.intro (@ia_117) (@sz_117)) (And.intro (@ia_119) (And.intro (@sz_119) (@ze_2)))) (And.intro (And.intro (@ze_3) (And.intro (@ze_4) (@ze_24))) (And.intro (@ze_27) (And.intro (@ze_33) (@ze_35))))) (And.intro (And.intro (And.intro (@ze_37) (And.intro (@ze_67) (@ze_69))) (And.intro (@ze_76) (And.intro (@ze_87) (@ze_98)))) (And.intro (And.intro (@ze_117) (And.intro (@fo_24_0) (@fo_24_1))) (And.intro (@fo_33_0) (And.intro (@fo_33_1) (@fo_35_0)))))))) (And.intro (And.intro (And.intro (And.intro (And.intro (And.intro (@fo_35_1) (@fo_35_2)) (And.intro (@fo_35_3) (And.intro (@fo_35_4) (@fo_35_5)))) (And.intro (And.intro (@fo_35_6) (And.intro (@fo_35_7) (@fo_35_8))) (And.intro (@fo_35_9) (And.intro (@fo_37_0) (@fo_37_1))))) (And.intro (And.intro (And.intro (@fo_37_2) (@fo_37_3)) (And.intro (@fo_37_4) (And.intro (@fo_37_5) (@fo_67_0)))) (And.intro (And.intro (@fo_76_0) (And.intro (@fo_76_1) (@fo_87_0))) (And.intro (@fo_87_1) (And.intro (@fo_87_2) (@fo_98_0)))))) (And.intro (And.intro (And.intro (And.intro (@fo_98_1) (@pb_13)) (And.intro (@pb_14) (And.intro (@pb_15) (@pb_16)))) (And.intro (And.intro (@pb_17) (And.intro (@pb_18) (@pb_19))) (And.intro (@pb_20) (And.intro (@pb_21) (@pb_22))))) (And.intro (And.intro (And.intro (@pb_23) (And.intro (@pb_24) (@pb_25))) (And.intro (@pb_26) (And.intro (@pb_27) (@pb_28)))) (And.intro (And.intro (@pb_29) (And.intro (@pb_30) (@pb_31))) (And.intro (@pb_32) (And.intro (@pb_33) (@pb_34))))))) (And.intro (And.intro (And.intro (And.intro (And.intro (@pb_35) (@pb_36)) (And.intro (@pb_37) (And.intro (@pb_38) (@pb_39)))) (And.intro (And.intro (@pb_40) (And.intro (@pb_41) (@pb_42))) (And.intro (@pb_43) (And.intro (@pb_44) (@pb_45))))) (And.intro (And.intro (And.intro (@pb_46) (@pb_47)) (And.intro (@pb_48) (And.intro (@pb_49) (@pb_50)))) (And.intro (And.intro (@pb_51) (And.intro (@pb_52) (@pb_53))) (And.intro (@pb_54) (And.intro (@pb_55) (@pb_56)))))) (And.intro (And.intro (And.intro (And.intro (@pb_57) (@pb_58)) (And.intro (@pb_59) (And.intro (@pb_60) (@pb_61)))) (And.intro (And.intro (@pb_62) (And.intro (@pb_63) (@pb_64))) (And.intro (@pb_65) (And.intro (@pb_66) (@pb_67))))) (And.intro (And.intro (And.intro (@pb_68) (And.intro (@pb_69) (@pb_70))) (And.intro (@pb_71) (And.intro (@pb_72) (@pb_73)))) (And.intro (And.intro (@pb_74) (And.intro (@pb_75) (@pb_76))) (And.intro (@pb_77) (And.intro (@pb_78) (@pb_79))))))))
/-- Tests side by side in a heap. -/
def teC (T : Te) : List AV := [ii T.sp, ii T.lo, ii T.we, ii T.al, ii T.f0, ii T.f1, ii T.t0, ii T.t1, ii T.s0, ii T.s1, ii T.o0, ii T.o1, ii T.b0, ii T.b1, ii T.r0, ii T.r1]
theorem teC_length (T : Te) : (teC T).length = 16 := rfl
structure TestsR (h : H) (s : AV) (ts : List Te) : Prop where
  wf : Wf h
  sl : Sl h s 16 ts.length (ts.flatMap teC)
theorem TestsR.up {h : H} {s : AV} {ts : List Te} (x : TestsR h s ts) (l : List AO) (w : Nat) (hw : w ≤ h.clock + l.length) : TestsR (X h l w) s ts := ⟨x.wf.X hw, x.sl.up x.wf l w⟩
theorem TestsR.at {h : H} {s : AV} {ts : List Te} (x : TestsR h s ts) {i : Nat} (hi : i < ts.length) : ∃ id off, indexAddrE Try.prog 51 s (.int .i64 (i : Int)) = some (.ptr id off) ∧ (∀ J w, loadAgg id off (some 16) (X h J w) = some (.agg (teC ts[i]))) := by
  obtain ⟨id, off, h1, h2⟩ := x.sl.at x.wf hi ik_51
  refine ⟨id, off, h1, fun J w => ?_⟩
  rw [(h2 J w).2, flat_at teC_length hi]
def rgC (p : Int × Int) : List AV := [ii p.1, ii p.2]
theorem rgC_length (p : Int × Int) : (rgC p).length = 2 := rfl
/-- How many first numbers hold their limits. -/
def holdN : List Int → List Int → Nat
  | v :: vs, m :: ms => if v ≤ m then holdN vs ms + 1 else 0
  | _, _ => 0
theorem holdN_at : ∀ {vs ms : List Int} {i : Nat}, i < vs.length → vs.length ≤ ms.length → (∀ j, j < i → vs.getD j 0 ≤ ms.getD j 0) → ms.getD i 0 < vs.getD i 0 → holdN vs ms = i
  | v :: vs, m :: ms, 0, _, _, _, h => by
    have h' : m < v := h
    show (if v ≤ m then _ else 0) = 0
    rw [if_neg (by omega)]
  | v :: vs, m :: ms, i + 1, h1, h2, h3, h => by
    have h0 : v ≤ m := h3 0 (by omega)
    have := holdN_at (vs := vs) (ms := ms) (i := i) (by simpa using h1) (by simpa using h2) (fun j hj => h3 (j + 1) (by omega)) h
    show (if v ≤ m then holdN vs ms + 1 else 0) = i + 1
    rw [if_pos h0, this]
  | v :: vs, [], i, h1, h2, _, _ => by simp at h2
  | [], _, i, h1, _, _, _ => by simp at h1
theorem holdN_all : ∀ {vs ms : List Int}, vs.length ≤ ms.length → (∀ j, j < vs.length → vs.getD j 0 ≤ ms.getD j 0) → holdN vs ms = vs.length
  | [], ms, _, _ => by cases ms <;> rfl
  | v :: vs, m :: ms, h2, h3 => by
    have h0 : v ≤ m := h3 0 (by simp)
    have := holdN_all (vs := vs) (ms := ms) (by simpa using h2) (fun j hj => h3 (j + 1) (by simpa using hj))
    show (if v ≤ m then holdN vs ms + 1 else 0) = vs.length + 1
    rw [if_pos h0, this]
  | v :: vs, [], h2, _ => by simp at h2

theorem hiOf (u v : Int) (h : H) (wf : Wf h) : (om Try.prog KK).call (.fn 63 [.agg [ii u, ii v]]) h = .ok (ii v) h := by
  refine WV_to (WV_call (fn := Try.f63) Try.func63 rfl rfl rfl rfl rfl ?_)
  simp only [argF]
  (repeat' (first
  | (with_reducible first | refine WC_seq ?_ | refine WC_skip ?_ | refine WC_label ?_ | refine WC_scope ?_ | refine WC_block ?_ | refine WC_ret ?_ | refine WC_exit ?_ | refine seqQ_norm ?_ | refine seqQ_ret ?_ | refine seqQ_exit ?_ | refine blkQ_norm ?_ | refine blkQ_ret ?_ | refine blkQ_here ?_ | refine gateK_yes ?_ | refine gateK_none ?_ | refine condK_tt ?_ | refine condK_ff ?_ | refine roundQ_exit ?_ | refine roundQ_ret ?_)
  | refine WC_region ?_ | refine blkQ_out rfl ?_ | refine WO_nil ?_ | refine WD_nil ?_
  | ((first | refine WD_gate rfl rfl rfl rfl rfl fun K_ hK_ => ?_ | refine WO_gate rfl rfl rfl rfl rfl fun K_ hK_ => ?_); simp only [upd_apply, asB_bool, asB_tup, ↓reduceIte, reduceCtorEq, Nat.reduceEqDiff, Bool.not_true, Bool.not_false]; refine hK_ _ ?_; clear hK_ K_)
  | refine gateK_no (by decide) ?_
  | ((try first | refine WO_op rfl rfl rfl ?_ | refine WO_op0 rfl rfl ?_ | refine WD_op rfl rfl rfl ?_ | refine WD_op0 rfl rfl ?_); (refine WV_gen fun Q_ hQ_ => ?_; simp (disch := first | omega | (simp only [List.length_cons, List.length_nil, List.length_append]; omega)) only [bb, bp, argF, ↓reduceIte, reduceCtorEq, Nat.reduceEqDiff, Nat.reduceLT, Nat.reduceLeDiff, Nat.reduceAdd, Nat.reduceMul, Nat.reduceSub, Nat.reduceBEq, Int.reduceToNat, cond_true, cond_false, eq_self, beq_self_eq_true, newPtr_X wf, load1_X wf, loadAgg_X wf, store1_X wf, writeCells_X wf, makeFunc_def, tEvD24, bsl_22, bsl_43, bsl_51, bsl_96, bsl_105, newSlice_X wf]; first | (refine dec_split (Q := Q_) (fun hp_ => ?_) (fun hp_ => ?_) <;> first | (exfalso; omega) | (refine hQ_ _ _ ?_; clear hQ_ Q_)) | (refine dec_splitn (Q := Q_) (fun hp_ => ?_) (fun hp_ => ?_) <;> first | (exfalso; omega) | (refine hQ_ _ _ ?_; clear hQ_ Q_)) | (refine hQ_ _ _ ?_; clear hQ_ Q_)))
  | (refine WC_cond fun K_ hK_ => ?_; simp (disch := omega) only [evT_tmp, upd_apply, WB_some, ↓reduceIte, reduceCtorEq, Nat.reduceEqDiff, Nat.reduceLT]; refine hK_ _ ?_; clear hK_ K_)))
  (refine endQ_ret _ _ rfl (ret1 (by decide)) ?_; simp only [upd_apply, ↓reduceIte, reduceCtorEq, Nat.reduceEqDiff]; refine WV_flat rfl (by omega) ?_)
  exact ⟨rfl, rfl⟩
theorem loOf (u v : Int) (h : H) (wf : Wf h) : (om Try.prog KK).call (.fn 64 [.agg [ii u, ii v]]) h = .ok (ii u) h := by
  refine WV_to (WV_call (fn := Try.f64) Try.func64 rfl rfl rfl rfl rfl ?_)
  simp only [argF]
  (repeat' (first
  | (with_reducible first | refine WC_seq ?_ | refine WC_skip ?_ | refine WC_label ?_ | refine WC_scope ?_ | refine WC_block ?_ | refine WC_ret ?_ | refine WC_exit ?_ | refine seqQ_norm ?_ | refine seqQ_ret ?_ | refine seqQ_exit ?_ | refine blkQ_norm ?_ | refine blkQ_ret ?_ | refine blkQ_here ?_ | refine gateK_yes ?_ | refine gateK_none ?_ | refine condK_tt ?_ | refine condK_ff ?_ | refine roundQ_exit ?_ | refine roundQ_ret ?_)
  | refine WC_region ?_ | refine blkQ_out rfl ?_ | refine WO_nil ?_ | refine WD_nil ?_
  | ((first | refine WD_gate rfl rfl rfl rfl rfl fun K_ hK_ => ?_ | refine WO_gate rfl rfl rfl rfl rfl fun K_ hK_ => ?_); simp only [upd_apply, asB_bool, asB_tup, ↓reduceIte, reduceCtorEq, Nat.reduceEqDiff, Bool.not_true, Bool.not_false]; refine hK_ _ ?_; clear hK_ K_)
  | refine gateK_no (by decide) ?_
  | ((try first | refine WO_op rfl rfl rfl ?_ | refine WO_op0 rfl rfl ?_ | refine WD_op rfl rfl rfl ?_ | refine WD_op0 rfl rfl ?_); (refine WV_gen fun Q_ hQ_ => ?_; simp (disch := first | omega | (simp only [List.length_cons, List.length_nil, List.length_append]; omega)) only [bb, bp, argF, ↓reduceIte, reduceCtorEq, Nat.reduceEqDiff, Nat.reduceLT, Nat.reduceLeDiff, Nat.reduceAdd, Nat.reduceMul, Nat.reduceSub, Nat.reduceBEq, Int.reduceToNat, cond_true, cond_false, eq_self, beq_self_eq_true, newPtr_X wf, load1_X wf, loadAgg_X wf, store1_X wf, writeCells_X wf, makeFunc_def, tEvD24, bsl_22, bsl_43, bsl_51, bsl_96, bsl_105, newSlice_X wf]; first | (refine dec_split (Q := Q_) (fun hp_ => ?_) (fun hp_ => ?_) <;> first | (exfalso; omega) | (refine hQ_ _ _ ?_; clear hQ_ Q_)) | (refine dec_splitn (Q := Q_) (fun hp_ => ?_) (fun hp_ => ?_) <;> first | (exfalso; omega) | (refine hQ_ _ _ ?_; clear hQ_ Q_)) | (refine hQ_ _ _ ?_; clear hQ_ Q_)))
  | (refine WC_cond fun K_ hK_ => ?_; simp (disch := omega) only [evT_tmp, upd_apply, WB_some, ↓reduceIte, reduceCtorEq, Nat.reduceEqDiff, Nat.reduceLT]; refine hK_ _ ?_; clear hK_ K_)))
  (refine endQ_ret _ _ rfl (ret1 (by decide)) ?_; simp only [upd_apply, ↓reduceIte, reduceCtorEq, Nat.reduceEqDiff]; refine WV_flat rfl (by omega) ?_)
  exact ⟨rfl, rfl⟩
theorem held (g : Nat) (hg : g = 63 ∨ g = 64) (m p : AV) (ms : List Int) (ps : List (Int × Int)) (hlen : ps.length = ms.length) (hn : ms.length ≤ 1000) (h : H) (wf : Wf h) (hm : Sl h m 1 ms.length (ms.map ii)) (hp : Sl h p 2 ps.length (ps.flatMap rgC)) (fm : AV.cells m = [m] ∧ oneB m = true) (fp : AV.cells p = [p] ∧ oneB p = true) :
    (om Try.prog KK).call (.fn 62 [.agg [m, p], .fn g [] []]) h = .ok (ii (holdN (ps.map fun q => if g = 63 then q.2 else q.1) ms : Nat)) h := by
  obtain ⟨f1, f2⟩ := fm
  obtain ⟨f3, f4⟩ := fp
  have hl : ∀ h', lenE Try.prog 96 p h' = some (ii (ps.length : Int)) := fun h' => hp.len un_96
  have hpb : plainB Try.prog g = true := by rcases hg with rfl | rfl <;> first | exact pb_63 | exact pb_64
  have cg : ∀ u v l w, w ≤ h.clock + l.length → (om Try.prog KK).call (.fn g [.agg [ii u, ii v]]) (X h l w) = .ok (ii (if g = 63 then v else u)) (X h l w) := fun u v l w hw => by
    rcases hg with rfl | rfl
    · exact hiOf u v _ (wf.X hw)
    · exact loOf u v _ (wf.X hw)
  have vl : (ps.map fun q => if g = 63 then q.2 else q.1).length = ps.length := by simp
  have vg : ∀ j (hj : j < ps.length), (ps.map fun q => if g = 63 then q.2 else q.1).getD j 0 = if g = 63 then ps[j].2 else ps[j].1 := fun j hj => by simp [List.getD, hj]
  generalize (ps.map fun q => if g = 63 then q.2 else q.1) = vs at *
  refine WV_to (WV_call (fn := Try.f62) Try.func62 rfl rfl rfl rfl rfl ?_)
  simp only [argF]
  (repeat' (first
  | (with_reducible first | refine WC_seq ?_ | refine WC_skip ?_ | refine WC_label ?_ | refine WC_scope ?_ | refine WC_block ?_ | refine WC_ret ?_ | refine WC_exit ?_ | refine seqQ_norm ?_ | refine seqQ_ret ?_ | refine seqQ_exit ?_ | refine blkQ_norm ?_ | refine blkQ_ret ?_ | refine blkQ_here ?_ | refine gateK_yes ?_ | refine gateK_none ?_ | refine condK_tt ?_ | refine condK_ff ?_ | refine roundQ_exit ?_ | refine roundQ_ret ?_)
  | refine WC_region ?_ | refine blkQ_out rfl ?_ | refine WO_nil ?_ | refine WD_nil ?_
  | ((first | refine WD_gate rfl rfl rfl rfl rfl fun K_ hK_ => ?_ | refine WO_gate rfl rfl rfl rfl rfl fun K_ hK_ => ?_); simp only [upd_apply, asB_bool, asB_tup, ↓reduceIte, reduceCtorEq, Nat.reduceEqDiff, Bool.not_true, Bool.not_false]; refine hK_ _ ?_; clear hK_ K_)
  | refine gateK_no (by decide) ?_
  | ((try first | refine WO_op rfl rfl rfl ?_ | refine WO_op0 rfl rfl ?_ | refine WD_op rfl rfl rfl ?_ | refine WD_op0 rfl rfl ?_); (refine WV_gen fun Q_ hQ_ => ?_; simp (disch := first | omega | (simp only [List.length_cons, List.length_nil, List.length_append]; omega)) only [bb, bp, argF, ↓reduceIte, reduceCtorEq, Nat.reduceEqDiff, Nat.reduceLT, Nat.reduceLeDiff, Nat.reduceAdd, Nat.reduceMul, Nat.reduceSub, Nat.reduceBEq, Int.reduceToNat, cond_true, cond_false, eq_self, beq_self_eq_true, hl, f1, f2, f3, f4, newPtr_X wf, load1_X wf, loadAgg_X wf, store1_X wf, writeCells_X wf, makeFunc_def, tEvD24, bsl_22, bsl_43, bsl_51, bsl_96, bsl_105, newSlice_X wf]; first | (refine dec_split (Q := Q_) (fun hp_ => ?_) (fun hp_ => ?_) <;> first | (exfalso; omega) | (refine hQ_ _ _ ?_; clear hQ_ Q_)) | (refine dec_splitn (Q := Q_) (fun hp_ => ?_) (fun hp_ => ?_) <;> first | (exfalso; omega) | (refine hQ_ _ _ ?_; clear hQ_ Q_)) | (refine hQ_ _ _ ?_; clear hQ_ Q_)))
  | (refine WC_cond fun K_ hK_ => ?_; simp (disch := omega) only [evT_tmp, upd_apply, WB_some, ↓reduceIte, reduceCtorEq, Nat.reduceEqDiff, Nat.reduceLT]; refine hK_ _ ?_; clear hK_ K_)))
  refine WC_loop (fun (i : Nat) f d h' => i ≤ ps.length ∧ (∀ j, j < i → vs.getD j 0 ≤ ms.getD j 0) ∧ f 1 = .fn g [] [] ∧ f 2 = .ptr (nx h 0) 0 ∧ f 8 = p ∧ f 9 = ii (ps.length : Int) ∧ f 10 = ii (i : Int) ∧ d = [] ∧ ∃ G, h' = X h (.cells (mkCells [m, p]) 98 :: G) h.clock) (fun i => ps.length - i) ?_ (ps.length + 1) 0 (by omega) ?_
  · rintro i f d h' ⟨hi, hall, g1, g2, g8, g9, g10, rfl, G, rfl⟩
    by_cases hlt : i < ps.length
    · obtain ⟨id, off, hix, hld⟩ := hp.at wf hlt ik_96
      have hrow : ∀ l w, loadAgg id off (some 2) (X h l w) = some (.agg [ii ps[i].1, ii ps[i].2]) := fun l w => by rw [(hld l w).2, flat_at rgC_length hlt]; rfl
      obtain ⟨ie, oe, hxe, hle⟩ := hm.at1 wf (i := i) (by omega) ik_22
      have hle' : ∀ J w, load1 ie oe (X h J w) = some (ii (ms.getD i 0)) := fun J w => by
        rw [hle, List.getElem?_map]; simp [List.getD, show i < ms.length by omega]
      have hv := vg i hlt
      generalize ps[i].1 = p1 at *
      generalize ps[i].2 = p2 at *
      generalize hmi : ms.getD i 0 = mi at *
      have cgi := cg p1 p2
      rw [← hv] at cgi
      generalize hvi : vs.getD i 0 = vi at *
      (repeat' (first
  | (with_reducible first | refine WC_seq ?_ | refine WC_skip ?_ | refine WC_label ?_ | refine WC_scope ?_ | refine WC_block ?_ | refine WC_ret ?_ | refine WC_exit ?_ | refine seqQ_norm ?_ | refine seqQ_ret ?_ | refine seqQ_exit ?_ | refine blkQ_norm ?_ | refine blkQ_ret ?_ | refine blkQ_here ?_ | refine gateK_yes ?_ | refine gateK_none ?_ | refine condK_tt ?_ | refine condK_ff ?_ | refine roundQ_exit ?_ | refine roundQ_ret ?_)
  | refine WC_region ?_ | refine blkQ_out rfl ?_ | refine WO_nil ?_ | refine WD_nil ?_
  | ((first | refine WD_gate rfl rfl rfl rfl rfl fun K_ hK_ => ?_ | refine WO_gate rfl rfl rfl rfl rfl fun K_ hK_ => ?_); simp only [upd_apply, asB_bool, asB_tup, ↓reduceIte, reduceCtorEq, Nat.reduceEqDiff, Bool.not_true, Bool.not_false]; refine hK_ _ ?_; clear hK_ K_)
  | refine gateK_no (by decide) ?_
  | ((try first | refine WO_op rfl rfl rfl ?_ | refine WO_op0 rfl rfl ?_ | refine WD_op rfl rfl rfl ?_ | refine WD_op0 rfl rfl ?_); (refine WV_gen fun Q_ hQ_ => ?_; simp (disch := first | omega | (simp only [List.length_cons, List.length_nil, List.length_append]; omega)) only [bb, bp, argF, ↓reduceIte, reduceCtorEq, Nat.reduceEqDiff, Nat.reduceLT, Nat.reduceLeDiff, Nat.reduceAdd, Nat.reduceMul, Nat.reduceSub, Nat.reduceBEq, Int.reduceToNat, cond_true, cond_false, eq_self, beq_self_eq_true, g1, g2, g8, g9, g10, hix, hrow, newPtr_X wf, load1_X wf, loadAgg_X wf, store1_X wf, writeCells_X wf, makeFunc_def, tEvD24, bsl_22, bsl_43, bsl_51, bsl_96, bsl_105, newSlice_X wf]; first | (refine dec_split (Q := Q_) (fun hp_ => ?_) (fun hp_ => ?_) <;> first | (exfalso; omega) | (refine hQ_ _ _ ?_; clear hQ_ Q_)) | (refine dec_splitn (Q := Q_) (fun hp_ => ?_) (fun hp_ => ?_) <;> first | (exfalso; omega) | (refine hQ_ _ _ ?_; clear hQ_ Q_)) | (refine hQ_ _ _ ?_; clear hQ_ Q_)))
  | (refine WC_cond fun K_ hK_ => ?_; simp (disch := omega) only [evT_tmp, upd_apply, WB_some, ↓reduceIte, reduceCtorEq, Nat.reduceEqDiff, Nat.reduceLT]; refine hK_ _ ?_; clear hK_ K_)))
      refine WC_drawnB (List.replicate 8 .no ++ [.full]) (by kernel_rfl) ?_
      (repeat' (first
  | (with_reducible first | refine WC_seq ?_ | refine WC_skip ?_ | refine WC_label ?_ | refine WC_scope ?_ | refine WC_block ?_ | refine WC_ret ?_ | refine WC_exit ?_ | refine seqQ_norm ?_ | refine seqQ_ret ?_ | refine seqQ_exit ?_ | refine blkQ_norm ?_ | refine blkQ_ret ?_ | refine blkQ_here ?_ | refine gateK_yes ?_ | refine gateK_none ?_ | refine condK_tt ?_ | refine condK_ff ?_ | refine roundQ_exit ?_ | refine roundQ_ret ?_)
  | refine WC_region ?_ | refine blkQ_out rfl ?_ | refine WO_nil ?_ | refine WD_nil ?_
  | ((first | refine WD_gate rfl rfl rfl rfl rfl fun K_ hK_ => ?_ | refine WO_gate rfl rfl rfl rfl rfl fun K_ hK_ => ?_); simp only [upd_apply, asB_bool, asB_tup, ↓reduceIte, reduceCtorEq, Nat.reduceEqDiff, Bool.not_true, Bool.not_false]; refine hK_ _ ?_; clear hK_ K_)
  | refine gateK_no (by decide) ?_
  | ((try first | refine WO_op rfl rfl rfl ?_ | refine WO_op0 rfl rfl ?_ | refine WD_op rfl rfl rfl ?_ | refine WD_op0 rfl rfl ?_); (refine WV_gen fun Q_ hQ_ => ?_; simp (disch := first | omega | (simp only [List.length_cons, List.length_nil, List.length_append]; omega)) only [bb, bp, argF, ↓reduceIte, reduceCtorEq, Nat.reduceEqDiff, Nat.reduceLT, Nat.reduceLeDiff, Nat.reduceAdd, Nat.reduceMul, Nat.reduceSub, Nat.reduceBEq, Int.reduceToNat, cond_true, cond_false, eq_self, beq_self_eq_true, g1, g2, g8, g9, g10, hpb, callV_fn, cgi, hxe, hle', f1, f2, f3, f4, newPtr_X wf, load1_X wf, loadAgg_X wf, store1_X wf, writeCells_X wf, makeFunc_def, tEvD24, bsl_22, bsl_43, bsl_51, bsl_96, bsl_105, newSlice_X wf]; first | (refine dec_split (Q := Q_) (fun hp_ => ?_) (fun hp_ => ?_) <;> first | (exfalso; omega) | (refine hQ_ _ _ ?_; clear hQ_ Q_)) | (refine dec_splitn (Q := Q_) (fun hp_ => ?_) (fun hp_ => ?_) <;> first | (exfalso; omega) | (refine hQ_ _ _ ?_; clear hQ_ Q_)) | (refine hQ_ _ _ ?_; clear hQ_ Q_)))
  | (refine WC_cond fun K_ hK_ => ?_; simp (disch := omega) only [evT_tmp, upd_apply, WB_some, ↓reduceIte, reduceCtorEq, Nat.reduceEqDiff, Nat.reduceLT]; refine hK_ _ ?_; clear hK_ K_)))
      · (refine endQ_ret _ _ rfl (ret1 (by decide)) ?_; simp only [upd_apply, ↓reduceIte, reduceCtorEq, Nat.reduceEqDiff]; refine WV_flat rfl (by omega) ?_)
        exact ⟨by rw [holdN_at (vs := vs) (ms := ms) (i := i) (by omega) (by omega) hall (by omega)], rfl⟩
      · refine roundQ_again (i + 1) (by omega) ⟨hlt, fun j hj => ?_, by simp only [upd_apply, ↓reduceIte, reduceCtorEq, Nat.reduceEqDiff]; exact g1, by simp only [upd_apply, ↓reduceIte, reduceCtorEq, Nat.reduceEqDiff]; exact g2, by simp only [upd_apply, ↓reduceIte, reduceCtorEq, Nat.reduceEqDiff]; exact g8, by simp only [upd_apply, ↓reduceIte, reduceCtorEq, Nat.reduceEqDiff]; exact g9, by simp only [upd_apply, ↓reduceIte, reduceCtorEq, Nat.reduceEqDiff]; rfl, rfl, _, rfl⟩
        by_cases hji : j = i
        · rw [hji, hvi, hmi]; omega
        · exact hall j (by omega)
    · have hie : i = ps.length := by omega
      (repeat' (first
  | (with_reducible first | refine WC_seq ?_ | refine WC_skip ?_ | refine WC_label ?_ | refine WC_scope ?_ | refine WC_block ?_ | refine WC_ret ?_ | refine WC_exit ?_ | refine seqQ_norm ?_ | refine seqQ_ret ?_ | refine seqQ_exit ?_ | refine blkQ_norm ?_ | refine blkQ_ret ?_ | refine blkQ_here ?_ | refine gateK_yes ?_ | refine gateK_none ?_ | refine condK_tt ?_ | refine condK_ff ?_ | refine roundQ_exit ?_ | refine roundQ_ret ?_)
  | refine WC_region ?_ | refine blkQ_out rfl ?_ | refine WO_nil ?_ | refine WD_nil ?_
  | ((first | refine WD_gate rfl rfl rfl rfl rfl fun K_ hK_ => ?_ | refine WO_gate rfl rfl rfl rfl rfl fun K_ hK_ => ?_); simp only [upd_apply, asB_bool, asB_tup, ↓reduceIte, reduceCtorEq, Nat.reduceEqDiff, Bool.not_true, Bool.not_false]; refine hK_ _ ?_; clear hK_ K_)
  | refine gateK_no (by decide) ?_
  | ((try first | refine WO_op rfl rfl rfl ?_ | refine WO_op0 rfl rfl ?_ | refine WD_op rfl rfl rfl ?_ | refine WD_op0 rfl rfl ?_); (refine WV_gen fun Q_ hQ_ => ?_; simp (disch := first | omega | (simp only [List.length_cons, List.length_nil, List.length_append]; omega)) only [bb, bp, argF, ↓reduceIte, reduceCtorEq, Nat.reduceEqDiff, Nat.reduceLT, Nat.reduceLeDiff, Nat.reduceAdd, Nat.reduceMul, Nat.reduceSub, Nat.reduceBEq, Int.reduceToNat, cond_true, cond_false, eq_self, beq_self_eq_true, g1, g2, g8, g9, g10, hl, newPtr_X wf, load1_X wf, loadAgg_X wf, store1_X wf, writeCells_X wf, makeFunc_def, tEvD24, bsl_22, bsl_43, bsl_51, bsl_96, bsl_105, newSlice_X wf]; first | (refine dec_split (Q := Q_) (fun hp_ => ?_) (fun hp_ => ?_) <;> first | (exfalso; omega) | (refine hQ_ _ _ ?_; clear hQ_ Q_)) | (refine dec_splitn (Q := Q_) (fun hp_ => ?_) (fun hp_ => ?_) <;> first | (exfalso; omega) | (refine hQ_ _ _ ?_; clear hQ_ Q_)) | (refine hQ_ _ _ ?_; clear hQ_ Q_)))
  | (refine WC_cond fun K_ hK_ => ?_; simp (disch := omega) only [evT_tmp, upd_apply, WB_some, ↓reduceIte, reduceCtorEq, Nat.reduceEqDiff, Nat.reduceLT]; refine hK_ _ ?_; clear hK_ K_)))
      (refine endQ_ret _ _ rfl (ret1 (by decide)) ?_; simp only [upd_apply, ↓reduceIte, reduceCtorEq, Nat.reduceEqDiff]; refine WV_flat rfl (by omega) ?_)
      exact ⟨by rw [holdN_all (vs := vs) (ms := ms) (by omega) (fun j hj => hall j (by omega)), vl], rfl⟩
  · exact ⟨Nat.zero_le _, fun j hj => absurd hj (Nat.not_lt_zero j), by simp only [upd_apply, ↓reduceIte, reduceCtorEq, Nat.reduceEqDiff], by simp only [upd_apply, ↓reduceIte, reduceCtorEq, Nat.reduceEqDiff], by simp only [upd_apply, ↓reduceIte, reduceCtorEq, Nat.reduceEqDiff], by simp only [upd_apply, ↓reduceIte, reduceCtorEq, Nat.reduceEqDiff], by first | (simp only [upd_apply, ↓reduceIte, reduceCtorEq, Nat.reduceEqDiff]; done) | (simp only [upd_apply, ↓reduceIte, reduceCtorEq, Nat.reduceEqDiff]; rfl), rfl, [], rfl⟩
end Go.Proofs.Ythaleckfgcgegaa
end

/- EvDq -/
section
/-
  LAYER 4: lists of lines, of tests and of limits that come in.
-/
namespace Go.Proofs.Ythaleckfgcgegaa
open Go.ChangeShapes Go.WideShapes Go.ChangeAt Go.RowKit Go.Ev
set_option maxRecDepth 100000
set_option maxHeartbeats 0
instance : Inhabited Ln := ⟨⟨.nils, .nils, [], []⟩⟩
instance : Inhabited Te := ⟨⟨0, 0, 0, 0, 0, 0, 0, 0, 0, 0, 0, 0, 0, 0, 0, 0⟩⟩
section
variable {H : Type} {enc : TypeId × Value → H} {r : Reach} {bs : Nat}
theorem lines_in {W : World} {v : Value} {fuel : Nat} {x : DataW H × List MemPlace} (hval : Cell.okWide Try.prog W r bs 43 v) (h : DataW.trod enc Try.prog W 0 (fun _ => true) true fuel 43 [v] = some x) :
    ∃ (a : AV) (ls : List Ln), VR (startWR W) a v ∧ CapU 2 a ∧ LinesR (startW W) a ls := by
  obtain ⟨f0, f1, hu, o0, o1, t0, t1⟩ := under24
  obtain ⟨ls, b, h1, h2, h3, h4⟩ := open_elems (f := lnC) (R := fun l => LineR (startW W) l.a l.b l.re l.cf) Try.underlying43 cells24 (by decide) lnC_length hval h (fun cs n y hl hy => by
    obtain ⟨xs, k, _, _, _, hxl, hf⟩ := DataW.trod_struct hu hy
    have g0 := hf 0 f0 rfl
    have g1 := hf 1 f1 rfl
    rw [o0, t0, cells22] at g0
    rw [o1, t1, cells22] at g1
    have hl2 : xs.length = 2 := hxl
    rw [List.getElem?_eq_getElem (by omega)] at g0 g1
    match cs, hl with
    | [u, w], _ =>
      obtain ⟨re, a, q1, _, q3⟩ := open_row_ints Try.underlying22 Try.underlying2 cells2 g0
      obtain ⟨cf, b, q4, _, q6⟩ := open_row_ints Try.underlying22 Try.underlying2 cells2 g1
      refine ⟨⟨a, b, re, cf⟩, fun k hk => ?_, startW_wf W, q3, q6⟩
      match k, hk with
      | 0, _ => exact q1
      | 1, _ => exact q4)
  exact ⟨b, ls, h1, h2.capu 2, startW_wf W, h3, h4⟩
end
end Go.Proofs.Ythaleckfgcgegaa
end

/- EvD13 -/
section
/-
  LAYER 4: the law of ships.
-/
namespace Go.Proofs.Ythaleckfgcgegaa
open Go.Ev
set_option maxRecDepth 100000
set_option linter.unusedSimpArgs false
set_option linter.unusedVariables false
set_option maxHeartbeats 2000000
end Go.Proofs.Ythaleckfgcgegaa
end

/- EvD22 -/
section
/-
  LAYER 4: the same water.
-/
namespace Go.Proofs.Ythaleckfgcgegaa
open Go.Ev
set_option maxRecDepth 100000
set_option linter.unusedSimpArgs false
set_option linter.unusedVariables false
set_option maxHeartbeats 2000000
theorem fineT (T : Te) (s : AV) (ls : List Ln) (hf : Fine T ls) (h : H) (x : LinesR h s ls) : (om Try.prog KK).call (.fn 32 [.agg [ii T.sp, ii T.lo, ii T.we, ii T.al, ii T.f0, ii T.f1, ii T.t0, ii T.t1, ii T.s0, ii T.s1, ii T.o0, ii T.o1, ii T.b0, ii T.b1, ii T.r0, ii T.r1], s]) h = .ok (.bool true) h := by
  obtain ⟨t, ht, hc⟩ := fine T s ls h x
  rw [hc, ht.2 hf]
theorem fineF (T : Te) (s : AV) (ls : List Ln) (hf : ¬ Fine T ls) (h : H) (x : LinesR h s ls) : (om Try.prog KK).call (.fn 32 [.agg [ii T.sp, ii T.lo, ii T.we, ii T.al, ii T.f0, ii T.f1, ii T.t0, ii T.t1, ii T.s0, ii T.s1, ii T.o0, ii T.o1, ii T.b0, ii T.b1, ii T.r0, ii T.r1], s]) h = .ok (.bool false) h := by
  obtain ⟨t, ht, hc⟩ := fine T s ls h x
  rw [hc]
  cases t
  · rfl
  · exact absurd (ht.1 rfl) hf
theorem Fine.e {T : Te} {ls : List Ln} (f : Fine T ls) : reckErr T ls = 0 := reck4 f.k (linesErr_zero.2 f.l) f.r
theorem spanOK {T : Te} {ls : List Ln} (f : Fine T ls) (s : AV) (h : H) (x : LinesR h s ls) : (om Try.prog KK).call (.fn 27 [.agg [ii T.sp, ii T.lo, ii T.we, ii T.al, ii T.f0, ii T.f1, ii T.t0, ii T.t1, ii T.s0, ii T.s1, ii T.o0, ii T.o1, ii T.b0, ii T.b1, ii T.r0, ii T.r1], s]) h = .ok (.tup [.agg [ii (spanV T ls false), ii (spanV T ls true)], ii 0]) h := by
  rw [Span T s ls h x, f.e, show spanErrA T ls false = _ from if_pos f.e, show spanErrA T ls true = _ from if_pos f.e]
/-- A line on its own. -/
theorem LineR.alone {h : H} {a b : AV} {re cf : List Int} (x : LineR h a b re cf) {L : List AO} {w k e : Nat} (hw : w ≤ h.clock + L.length) (hk : L[k]? = some (.cells (mkCells [a, b]) e)) : LinesR (X h L w) (.sl (nx h k) 0 1 (some 1) 2) [⟨a, b, re, cf⟩] :=
  ⟨x.wf.X hw, Sl.new x.wf rfl hk, fun l hl => by rw [List.mem_singleton.1 hl]; exact x.up L w hw⟩
end Go.Proofs.Ythaleckfgcgegaa
end

/- EvD23 -/
section
/-
  LAYER 4: narrower ranges.
-/
namespace Go.Proofs.Ythaleckfgcgegaa
open Go.Ev
set_option maxRecDepth 100000
set_option linter.unusedSimpArgs false
set_option linter.unusedVariables false
set_option maxHeartbeats 2000000
theorem tEvD23 : type_of% (And.intro (And.intro (And.intro (And.intro (And.intro (And.intro (And.intro (@bs_24) (@bs_33)) (And.intro (@bs_35) (And.intro (@bs_37) (@bs_67)))) (And.intro (And.intro (@bs_76) (And.intro (@bs_87) (@bs_98))) (And.intro (@bs_117) (And.intro (@ia_2) (@sz_2))))) (And.intro (And.intro (And.intro (@ia_3) (@sz_3)) (And.intro (@ia_4) (And.intro (@sz_4) (@ia_22)))) (And.intro (And.intro (@sz_22) (And.intro (@ia_24) (@sz_24))) (And.intro (@ia_27) (And.intro (@sz_27) (@ia_33)))))) (And.intro (And.intro (And.intro (And.intro (@sz_33) (@ia_35)) (And.intro (@sz_35) (And.intro (@ia_37) (@sz_37)))) (And.intro (And.intro (@ia_43) (And.intro (@sz_43) (@ia_51))) (And.intro (@sz_51) (And.intro (@ia_55) (@sz_55))))) (And.intro (And.intro (And.intro (@ia_56) (And.intro (@sz_56) (@ia_67))) (And.intro (@sz_67) (And.intro (@ia_69) (@sz_69)))) (And.intro (And.intro (@ia_70) (And.intro (@sz_70) (@ia_73))) (And.intro (@sz_73) (And.intro (@ia_74) (@sz_74))))))) (And.intro (And.intro (And.intro (And.intro (And.intro (@ia_76) (@sz_76)) (And.intro (@ia_78) (And.intro (@sz_78) (@ia_87)))) (And.intro (And.intro (@sz_87) (And.intro (@ia_89) (@sz_89))) (And.intro (@ia_96) (And.intro (@sz_96) (@ia_98))))) (And.intro (And.intro (And.intro (@sz_98) (@ia_101)) (And.intro (@sz_101) (And.intro (@ia_105) (@sz_105)))) (And.intro (And.intro (@ia_107) (And.intro (@sz_107) (@ia_113))) (And.intro (@sz_113) (And.intro (@ia_114) (@sz_114)))))) (And.intro (And.intro (And.intro (And.intro (@ia_117) (@sz_117)) (And.intro (@ia_119) (And.intro (@sz_119) (@ze_2)))) (And.intro (And.intro (@ze_3) (And.intro (@ze_4) (@ze_24))) (And.intro (@ze_27) (And.intro (@ze_33) (@ze_35))))) (And.intro (And.intro (And.intro (@ze_37) (And.intro (@ze_67) (@ze_69))) (And.intro (@ze_76) (And.intro (@ze_87) (@ze_98)))) (And.intro (And.intro (@ze_117) (And.intro (@fo_24_0) (@fo_24_1))) (And.intro (@fo_33_0) (And.intro (@fo_33_1) (@fo_35_0)))))))) (And.intro (And.intro (And.intro (And.intro (And.intro (And.intro (@fo_35_1) (@fo_35_2)) (And.intro (@fo_35_3) (And.intro (@fo_35_4) (@fo_35_5)))) (And.intro (And.intro (@fo_35_6) (And.intro (@fo_35_7) (@fo_35_8))) (And.intro (@fo_35_9) (And.intro (@fo_37_0) (@fo_37_1))))) (And.intro (And.intro (And.intro (@fo_37_2) (@fo_37_3)) (And.intro (@fo_37_4) (And.intro (@fo_37_5) (@fo_67_0)))) (And.intro (And.intro (@fo_76_0) (And.intro (@fo_76_1) (@fo_87_0))) (And.intro (@fo_87_1) (And.intro (@fo_87_2) (@fo_98_0)))))) (And.intro (And.intro (And.intro (And.intro (@fo_98_1) (@pb_13)) (And.intro (@pb_14) (And.intro (@pb_15) (@pb_16)))) (And.intro (And.intro (@pb_17) (And.intro (@pb_18) (@pb_19))) (And.intro (@pb_20) (And.intro (@pb_21) (@pb_22))))) (And.intro (And.intro (And.intro (@pb_23) (And.intro (@pb_24) (@pb_25))) (And.intro (@pb_26) (And.intro (@pb_27) (@pb_28)))) (And.intro (And.intro (@pb_29) (And.intro (@pb_30) (@pb_31))) (And.intro (@pb_32) (And.intro (@pb_33) (@pb_34))))))) (And.intro (And.intro (And.intro (And.intro (And.intro (@pb_35) (@pb_36)) (And.intro (@pb_37) (And.intro (@pb_38) (@pb_39)))) (And.intro (And.intro (@pb_40) (And.intro (@pb_41) (@pb_42))) (And.intro (@pb_43) (And.intro (@pb_44) (@pb_45))))) (And.intro (And.intro (And.intro (@pb_46) (@pb_47)) (And.intro (@pb_48) (And.intro (@pb_49) (@pb_50)))) (And.intro (And.intro (@pb_51) (And.intro (@pb_52) (@pb_53))) (And.intro (@pb_54) (And.intro (@pb_55) (@pb_56)))))) (And.intro (And.intro (And.intro (And.intro (@pb_57) (@pb_58)) (And.intro (@pb_59) (And.intro (@pb_60) (@pb_61)))) (And.intro (And.intro (@pb_62) (And.intro (@pb_63) (@pb_64))) (And.intro (@pb_65) (And.intro (@pb_66) (@pb_67))))) (And.intro (And.intro (And.intro (@pb_68) (And.intro (@pb_69) (@pb_70))) (And.intro (@pb_71) (And.intro (@pb_72) (@pb_73)))) (And.intro (And.intro (@pb_74) (And.intro (@pb_75) (@pb_76))) (And.intro (@pb_77) (And.intro (@pb_78) (@pb_79))))))))) := And.intro (And.intro (And.intro (And.intro (And.intro (And.intro (And.intro (@bs_24) (@bs_33)) (And.intro (@bs_35) (And.intro (@bs_37) (@bs_67)))) (And.intro (And.intro (@bs_76) (And.intro (@bs_87) (@bs_98))) (And.intro (@bs_117) (And.intro (@ia_2) (@sz_2))))) (And.intro (And.intro (And.intro (@ia_3) (@sz_3)) (And.intro (@ia_4) (And.intro (@sz_4) (@ia_22)))) (And.intro (And.intro (@sz_22) (And.intro (@ia_24) (@sz_24))) (And.intro (@ia_27) (And.intro (@sz_27) (@ia_33)))))) (And.intro (And.intro (And.intro (And.intro (@sz_33) (@ia_35)) (And.intro (@sz_35) (And.intro (@ia_37) (@sz_37)))) (And.intro (And.intro (@ia_43) (And.intro (@sz_43) (@ia_51))) (And.intro (@sz_51) (And.intro (@ia_55) (@sz_55))))) (And.intro (And.intro (And.intro (@ia_56) (And.intro (@sz_56) (@ia_67))) (And.intro (@sz_67) (And.intro (@ia_69) (@sz_69)))) (And.intro (And.intro (@ia_70) (And.intro (@sz_70) (@ia_73))) (And.intro (@sz_73) (And.intro (@ia_74) (@sz_74))))))) (And.intro (And.intro (And.intro (And.intro (And.intro (@ia_76) (@sz_76)) (And.intro (@ia_78) (And.intro (@sz_78) (@ia_87)))) (And.intro (And.intro (@sz_87) (And.intro (@ia_89) (@sz_89))) (And.intro (@ia_96) (And.intro (@sz_96) (@ia_98))))) (And.intro (And.intro (And.intro (@sz_98) (@ia_101)) (And.intro (@sz_101) (And.intro (@ia_105) (@sz_105)))) (And.intro (And.intro (@ia_107) (And.intro (@sz_107) (@ia_113))) (And.intro (@sz_113) (And.intro (@ia_114) (@sz_114)))))) (And.intro (And.intro (And.intro (And.intro (@ia_117) (@sz_117)) (And.intro (@ia_119) (And.intro (@sz_119) (@ze_2)))) (And.intro (And.intro (@ze_3) (And.intro (@ze_4) (@ze_24))) (And.intro (@ze_27) (And.intro (@ze_33) (@ze_35))))) (And.intro (And.intro (And.intro (@ze_37) (And.intro (@ze_67) (@ze_69))) (And.intro (@ze_76) (And.intro (@ze_87) (@ze_98)))) (And.intro (And.intro (@ze_117) (And.intro (@fo_24_0) (@fo_24_1))) (And.intro (@fo_33_0) (And.intro (@fo_33_1) (@fo_35_0)))))))) (And.intro (And.intro (And.intro (And.intro (And.intro (And.intro (@fo_35_1) (@fo_35_2)) (And.intro (@fo_35_3) (And.intro (@fo_35_4) (@fo_35_5)))) (And.intro (And.intro (@fo_35_6) (And.intro (@fo_35_7) (@fo_35_8))) (And.intro (@fo_35_9) (And.intro (@fo_37_0) (@fo_37_1))))) (And.intro (And.intro (And.intro (@fo_37_2) (@fo_37_3)) (And.intro (@fo_37_4) (And.intro (@fo_37_5) (@fo_67_0)))) (And.intro (And.intro (@fo_76_0) (And.intro (@fo_76_1) (@fo_87_0))) (And.intro (@fo_87_1) (And.intro (@fo_87_2) (@fo_98_0)))))) (And.intro (And.intro (And.intro (And.intro (@fo_98_1) (@pb_13)) (And.intro (@pb_14) (And.intro (@pb_15) (@pb_16)))) (And.intro (And.intro (@pb_17) (And.intro (@pb_18) (@pb_19))) (And.intro (@pb_20) (And.intro (@pb_21) (@pb_22))))) (And.intro (And.intro (And.intro (@pb_23) (And.intro (@pb_24) (@pb_25))) (And.intro (@pb_26) (And.intro (@pb_27) (@pb_28)))) (And.intro (And.intro (@pb_29) (And.intro (@pb_30) (@pb_31))) (And.intro (@pb_32) (And.intro (@pb_33) (@pb_34))))))) (And.intro (And.intro (And.intro (And.intro (And.intro (@pb_35) (@pb_36)) (And.intro (@pb_37) (And.intro (@pb_38) (@pb_39)))) (And.intro (And.intro (@pb_40) (And.intro (@pb_41) (@pb_42))) (And.intro (@pb_43) (And.intro (@pb_44) (@pb_45))))) (And.intro (And.intro (And.intro (@pb_46) (@pb_47)) (And.intro (@pb_48) (And.intro (@pb_49) (@pb_50)))) (And.intro (And.intro (@pb_51) (And.intro (@pb_52) (@pb_53))) (And.intro (@pb_54) (And.intro (@pb_55) (@pb_56)))))) (And.intro (And.intro (And.intro (And.intro (@pb_57) (@pb_58)) (And.intro (@pb_59) (And.intro (@pb_60) (@pb_61)))) (And.intro (And.intro (@pb_62) (And.intro (@pb_63) (@pb_64))) (And.intro (@pb_65) (And.intro (@pb_66) (@pb_67))))) (And.intro (And.intro (And.intro (@pb_68) (And.intro (@pb_69) (@pb_70))) (And.intro (@pb_71) (And.intro (@pb_72) (@pb_73)))) (And.intro (And.intro (@pb_74) (And.intro (@pb_75) (@pb_76))) (And.intro (@pb_77) (And.intro (@pb_78) (@pb_79))))))))
/-- A test with narrower ranges: those between two truths. -/
def nar (T : Te) (a b : Tr) : Te := ⟨T.sp, T.lo, T.we, T.al, min a.f b.f, max a.f b.f, min a.t b.t, max a.t b.t, min a.s b.s, max a.s b.s, min a.o b.o, max a.o b.o, min a.b b.b, max a.b b.b, min a.r b.r, max a.r b.r⟩
theorem nar_ok {T : Te} (k : okT T) {a b : Tr} (ka : isT T a) (kb : isT T b) : okT (nar T a b) := by
  obtain ⟨a1, a2, a3, a4, a5, a6⟩ := ka
  obtain ⟨b1, b2, b3, b4, b5, b6⟩ := kb
  obtain ⟨k1, k2, k3, k4, k5, k6, k7, k8, k9, k10⟩ := k
  unfold nar
  exact ⟨k1, k2, k3, k4, by simp only; omega, by simp only; omega, by simp only; omega, by simp only; omega, by simp only; omega, by simp only; omega⟩
theorem nar_is {T : Te} {a b : Tr} (ka : isT T a) (kb : isT T b) {x : Tr} (kx : isT (nar T a b) x) : isT T x := by
  obtain ⟨a1, a2, a3, a4, a5, a6⟩ := ka
  obtain ⟨b1, b2, b3, b4, b5, b6⟩ := kb
  obtain ⟨x1, x2, x3, x4, x5, x6⟩ := kx
  simp only [nar] at x1 x2 x3 x4 x5 x6
  exact ⟨by omega, by omega, by omega, by omega, by omega, by omega⟩
theorem nar_rk {T : Te} (k : okT T) {a b : Tr} (ka : isT T a) (kb : isT T b) {ls : List Ln} (hr : rk T ls) : rk (nar T a b) ls := fun l hl => by
  have h1 := inAll_of k (hr l hl) (x := ⟨T.f0, max a.t b.t, max a.s b.s, T.o0, T.b0, T.r0⟩) ⟨by have := k.f; simp only; omega, by have := ka.t; have := kb.t; simp only; omega, by have := ka.s; have := kb.s; simp only; omega, by have := k.o; simp only; omega, by have := k.b; simp only; omega, by have := k.r; simp only; omega⟩
  have h2 := inAll_of k (hr l hl) (x := ⟨T.f0, min a.t b.t, min a.s b.s, T.o0, T.b0, T.r0⟩) ⟨by have := k.f; simp only; omega, by have := ka.t; have := kb.t; simp only; omega, by have := ka.s; have := kb.s; simp only; omega, by have := k.o; simp only; omega, by have := k.b; simp only; omega, by have := k.r; simp only; omega⟩
  exact ⟨⟨h1.1, h1.2⟩, h2.1, h2.2⟩
theorem nar_fine {T : Te} {ls : List Ln} (f : Fine T ls) {a b : Tr} (ka : isT T a) (kb : isT T b) : Fine (nar T a b) ls := ⟨f.g, nar_ok f.k ka kb, f.l, nar_rk f.k ka kb f.r⟩
theorem nar_span {T : Te} {ls : List Ln} (f : Fine T ls) {a b : Tr} (ka : isT T a) (kb : isT T b) : spanV T ls false ≤ spanV (nar T a b) ls false ∧ spanV (nar T a b) ls true ≤ spanV T ls true ∧ spanV (nar T a b) ls false ≤ spanV (nar T a b) ls true := by
  have f' := nar_fine f ka kb
  refine ⟨?_, ?_, span_le f'.k f'.l f'.r⟩
  · obtain ⟨i, hi, o, ho, e⟩ := span_att f'.k f'.l false
    rw [e]
    exact (span_box f.k f.l f.r (List.getElem_mem hi) (nar_is ka kb (cand_isT f'.k false ho))).1
  · obtain ⟨i, hi, o, ho, e⟩ := span_att f'.k f'.l true
    rw [e]
    exact (span_box f.k f.l f.r (List.getElem_mem hi) (nar_is ka kb (cand_isT f'.k true ho))).2
theorem Fine.one {T : Te} {ls : List Ln} (f : Fine T ls) {l : Ln} (hl : l ∈ ls) : Fine T [l] :=
  ⟨fun q => by
    rcases q with q | ⟨m, hm, q⟩
    · simp at q
    · rw [List.mem_singleton.1 hm] at q
      exact f.g (.inr ⟨l, hl, q⟩), f.k, ⟨by simp, fun m hm => by rw [List.mem_singleton.1 hm]; exact f.l.ok l hl⟩, fun m hm => by rw [List.mem_singleton.1 hm]; exact f.r l hl⟩
theorem spanV_one (T : Te) (l : Ln) (high : Bool) : spanV T [l] high = endv T l.re l.cf high := bst_zero
theorem LinesR.sub {h : H} {s b : AV} {ls : List Ln} (x : LinesR h s ls) {i : Nat} (hi : i < ls.length) (hs : Sl h b 2 (i + 1 - i) (((ls.flatMap lnC).drop (i * 2)).take ((i + 1 - i) * 2))) : LinesR h b [ls[i]] := by
  refine ⟨x.wf, ?_, fun l hl => by rw [List.mem_singleton.1 hl]; exact x.ln _ (List.getElem_mem hi)⟩
  rw [show i + 1 - i = 1 by omega, show 1 * 2 = 2 from rfl, flat_at lnC_length hi] at hs
  exact hs
/-- What is gathered from so many lines. -/
def acc (T : Te) (ls : List Ln) (high : Bool) (i : Nat) : Int := if i = 0 then spanV T ls (!high) else bst high (lineV T ls high) i
theorem acc_lo {T : Te} {ls : List Ln} (f : Fine T ls) {i : Nat} (hi : i < ls.length) : acc T ls false (i + 1) = min (acc T ls false i) (endv T ls[i].re ls[i].cf false) := by
  unfold acc
  rw [if_neg (by omega), ← lineV_at (high := false) hi]
  by_cases e : i = 0
  · subst e
    rw [if_pos rfl, bst_zero, lineV_at hi]
    have ko := f.k.o
    obtain ⟨o, ho, e1⟩ := endv_att f.k ls[0].re ls[0].cf false
    have := (span_box f.k f.l f.r (List.getElem_mem hi) (cand_isT f.k false ho)).2
    rw [Bool.not_false, e1]; omega
  · rw [if_neg e]; exact bst_lo e
theorem acc_hi {T : Te} {ls : List Ln} (f : Fine T ls) {i : Nat} (hi : i < ls.length) : acc T ls true (i + 1) = max (acc T ls true i) (endv T ls[i].re ls[i].cf true) := by
  unfold acc
  rw [if_neg (by omega), ← lineV_at (high := true) hi]
  by_cases e : i = 0
  · subst e
    rw [if_pos rfl, bst_zero, lineV_at hi]
    have ko := f.k.o
    obtain ⟨o, ho, e1⟩ := endv_att f.k ls[0].re ls[0].cf true
    have := (span_box f.k f.l f.r (List.getElem_mem hi) (cand_isT f.k true ho)).1
    rw [Bool.not_true, e1]; omega
  · rw [if_neg e]; exact bst_hi e

theorem lawNarrower (T : Te) (s : AV) (hcap : CapU 2 s) (ls : List Ln) (x y : Tr) (u : U6 x) (v : U6 y) (h : H) (z : LinesR h s ls) : (om Try.prog KK).call (.fn 9 [.agg [ii T.sp, ii T.lo, ii T.we, ii T.al, ii T.f0, ii T.f1, ii T.t0, ii T.t1, ii T.s0, ii T.s1, ii T.o0, ii T.o1, ii T.b0, ii T.b1, ii T.r0, ii T.r1], s, .agg [.int .u32 x.f, .int .u32 x.t, .int .u32 x.s, .int .u32 x.o, .int .u32 x.b, .int .u32 x.r], .agg [.int .u32 y.f, .int .u32 y.t, .int .u32 y.s, .int .u32 y.o, .int .u32 y.b, .int .u32 y.r]]) h = .ok (.bool true) h := by
  have wf := z.wf
  have hl : ∀ h', lenE Try.prog 43 s h' = some (ii (ls.length : Int)) := fun h' => z.sl.len un_43
  refine WV_to (WV_call (fn := Try.f9) Try.func9 rfl rfl rfl rfl rfl ?_)
  simp only [argF]
  by_cases hf : Fine T ls
  · have k := hf.k
    have hS := fun l w hw => fineT _ _ _ hf _ (z.up l w hw)
    have t1 := fun (l : List AO) (w : Nat) (hw : w ≤ h.clock + l.length) => True6 T k x u _ (wf.X hw)
    have t2 := fun (l : List AO) (w : Nat) (hw : w ≤ h.clock + l.length) => True6 T k y v _ (wf.X hw)
    have kA : isT T ⟨pk T.f0 T.f1 x.f, pk T.t0 T.t1 x.t, pk T.s0 T.s1 x.s, pk T.o0 T.o1 x.o, pk T.b0 T.b1 x.b, pk T.r0 T.r1 x.r⟩ := pkT_is k u
    have kB : isT T ⟨pk T.f0 T.f1 y.f, pk T.t0 T.t1 y.t, pk T.s0 T.s1 y.s, pk T.o0 T.o1 y.o, pk T.b0 T.b1 y.b, pk T.r0 T.r1 y.r⟩ := pkT_is k v
    have p1 := fun l w hw => spanOK hf _ _ (z.up l w hw)
    have p2 := fun l w hw => spanOK (nar_fine hf kA kB) _ _ (z.up l w hw)
    have hn := nar_span hf kA kB
    generalize spanV (nar T ⟨pk T.f0 T.f1 x.f, pk T.t0 T.t1 x.t, pk T.s0 T.s1 x.s, pk T.o0 T.o1 x.o, pk T.b0 T.b1 x.b, pk T.r0 T.r1 x.r⟩ ⟨pk T.f0 T.f1 y.f, pk T.t0 T.t1 y.t, pk T.s0 T.s1 y.s, pk T.o0 T.o1 y.o, pk T.b0 T.b1 y.b, pk T.r0 T.r1 y.r⟩) ls false = N0 at *
    generalize spanV (nar T ⟨pk T.f0 T.f1 x.f, pk T.t0 T.t1 x.t, pk T.s0 T.s1 x.s, pk T.o0 T.o1 x.o, pk T.b0 T.b1 x.b, pk T.r0 T.r1 x.r⟩ ⟨pk T.f0 T.f1 y.f, pk T.t0 T.t1 y.t, pk T.s0 T.s1 y.s, pk T.o0 T.o1 y.o, pk T.b0 T.b1 y.b, pk T.r0 T.r1 y.r⟩) ls true = N1 at *
    simp only [nar] at p2
    clear kA kB
    generalize pk T.f0 T.f1 x.f = A1 at *
    generalize pk T.t0 T.t1 x.t = A2 at *
    generalize pk T.s0 T.s1 x.s = A3 at *
    generalize pk T.o0 T.o1 x.o = A4 at *
    generalize pk T.b0 T.b1 x.b = A5 at *
    generalize pk T.r0 T.r1 x.r = A6 at *
    generalize pk T.f0 T.f1 y.f = B1 at *
    generalize pk T.t0 T.t1 y.t = B2 at *
    generalize pk T.s0 T.s1 y.s = B3 at *
    generalize pk T.o0 T.o1 y.o = B4 at *
    generalize pk T.b0 T.b1 y.b = B5 at *
    generalize pk T.r0 T.r1 y.r = B6 at *
    (repeat' (first
  | (with_reducible first | refine WC_seq ?_ | refine WC_skip ?_ | refine WC_label ?_ | refine WC_scope ?_ | refine WC_block ?_ | refine WC_ret ?_ | refine WC_exit ?_ | refine seqQ_norm ?_ | refine seqQ_ret ?_ | refine seqQ_exit ?_ | refine blkQ_norm ?_ | refine blkQ_ret ?_ | refine blkQ_here ?_ | refine gateK_yes ?_ | refine gateK_none ?_ | refine condK_tt ?_ | refine condK_ff ?_ | refine roundQ_exit ?_ | refine roundQ_ret ?_)
  | refine WC_region ?_ | refine blkQ_out rfl ?_ | refine WO_nil ?_ | refine WD_nil ?_
  | ((first | refine WD_gate rfl rfl rfl rfl rfl fun K_ hK_ => ?_ | refine WO_gate rfl rfl rfl rfl rfl fun K_ hK_ => ?_); simp only [upd_apply, asB_bool, asB_tup, ↓reduceIte, reduceCtorEq, Nat.reduceEqDiff, Bool.not_true, Bool.not_false]; refine hK_ _ ?_; clear hK_ K_)
  | refine gateK_no (by decide) ?_
  | ((try first | refine WO_op rfl rfl rfl ?_ | refine WO_op0 rfl rfl ?_ | refine WD_op rfl rfl rfl ?_ | refine WD_op0 rfl rfl ?_); (refine WV_gen fun Q_ hQ_ => ?_; simp (disch := first | omega | (simp only [List.length_cons, List.length_nil, List.length_append]; omega)) only [bb, bp, argF, ↓reduceIte, reduceCtorEq, Nat.reduceEqDiff, Nat.reduceLT, Nat.reduceLeDiff, Nat.reduceAdd, Nat.reduceMul, Nat.reduceSub, Nat.reduceBEq, Int.reduceToNat, cond_true, cond_false, eq_self, beq_self_eq_true, newPtr_X wf, load1_X wf, loadAgg_X wf, store1_X wf, writeCells_X wf, makeFunc_def, tEvD23, bsl_22, bsl_43, bsl_51, bsl_96, bsl_105, newSlice_X wf]; first | (refine dec_split (Q := Q_) (fun hp_ => ?_) (fun hp_ => ?_) <;> first | (exfalso; omega) | (refine hQ_ _ _ ?_; clear hQ_ Q_)) | (refine dec_splitn (Q := Q_) (fun hp_ => ?_) (fun hp_ => ?_) <;> first | (exfalso; omega) | (refine hQ_ _ _ ?_; clear hQ_ Q_)) | (refine hQ_ _ _ ?_; clear hQ_ Q_) | (refine WV_eq (hS _ _ (by simp only [List.length_append, List.length_cons, List.length_nil]; omega)) ?_; refine hQ_ _ _ ?_; clear hQ_ Q_)))
  | (refine WC_cond fun K_ hK_ => ?_; simp (disch := omega) only [evT_tmp, upd_apply, WB_some, ↓reduceIte, reduceCtorEq, Nat.reduceEqDiff, Nat.reduceLT]; refine hK_ _ ?_; clear hK_ K_)))
    refine WC_drawnB [.no, .no, .no, .no, .no, .no, .no, .no, .full, .full] (by kernel_rfl) ?_
    (repeat' (first
  | (with_reducible first | refine WC_seq ?_ | refine WC_skip ?_ | refine WC_label ?_ | refine WC_scope ?_ | refine WC_block ?_ | refine WC_ret ?_ | refine WC_exit ?_ | refine seqQ_norm ?_ | refine seqQ_ret ?_ | refine seqQ_exit ?_ | refine blkQ_norm ?_ | refine blkQ_ret ?_ | refine blkQ_here ?_ | refine gateK_yes ?_ | refine gateK_none ?_ | refine condK_tt ?_ | refine condK_ff ?_ | refine roundQ_exit ?_ | refine roundQ_ret ?_)
  | refine WC_region ?_ | refine blkQ_out rfl ?_ | refine WO_nil ?_ | refine WD_nil ?_
  | ((first | refine WD_gate rfl rfl rfl rfl rfl fun K_ hK_ => ?_ | refine WO_gate rfl rfl rfl rfl rfl fun K_ hK_ => ?_); simp only [upd_apply, asB_bool, asB_tup, ↓reduceIte, reduceCtorEq, Nat.reduceEqDiff, Bool.not_true, Bool.not_false]; refine hK_ _ ?_; clear hK_ K_)
  | refine gateK_no (by decide) ?_
  | ((try first | refine WO_op rfl rfl rfl ?_ | refine WO_op0 rfl rfl ?_ | refine WD_op rfl rfl rfl ?_ | refine WD_op0 rfl rfl ?_); (refine WV_gen fun Q_ hQ_ => ?_; simp (disch := first | omega | (simp only [List.length_cons, List.length_nil, List.length_append]; omega)) only [bb, bp, argF, ↓reduceIte, reduceCtorEq, Nat.reduceEqDiff, Nat.reduceLT, Nat.reduceLeDiff, Nat.reduceAdd, Nat.reduceMul, Nat.reduceSub, Nat.reduceBEq, Int.reduceToNat, cond_true, cond_false, eq_self, beq_self_eq_true, t1, t2, newPtr_X wf, load1_X wf, loadAgg_X wf, store1_X wf, writeCells_X wf, makeFunc_def, tEvD23, bsl_22, bsl_43, bsl_51, bsl_96, bsl_105, newSlice_X wf]; first | (refine dec_split (Q := Q_) (fun hp_ => ?_) (fun hp_ => ?_) <;> first | (exfalso; omega) | (refine hQ_ _ _ ?_; clear hQ_ Q_)) | (refine dec_splitn (Q := Q_) (fun hp_ => ?_) (fun hp_ => ?_) <;> first | (exfalso; omega) | (refine hQ_ _ _ ?_; clear hQ_ Q_)) | (refine hQ_ _ _ ?_; clear hQ_ Q_)))
  | (refine WC_cond fun K_ hK_ => ?_; simp (disch := omega) only [evT_tmp, upd_apply, WB_some, ↓reduceIte, reduceCtorEq, Nat.reduceEqDiff, Nat.reduceLT]; refine hK_ _ ?_; clear hK_ K_)))
    (repeat' (first
  | (with_reducible first | refine WC_seq ?_ | refine WC_skip ?_ | refine WC_label ?_ | refine WC_scope ?_ | refine WC_block ?_ | refine WC_ret ?_ | refine WC_exit ?_ | refine seqQ_norm ?_ | refine seqQ_ret ?_ | refine seqQ_exit ?_ | refine blkQ_norm ?_ | refine blkQ_ret ?_ | refine blkQ_here ?_ | refine gateK_yes ?_ | refine gateK_none ?_ | refine condK_tt ?_ | refine condK_ff ?_ | refine roundQ_exit ?_ | refine roundQ_ret ?_)
  | refine WC_region ?_ | refine blkQ_out rfl ?_ | refine WO_nil ?_ | refine WD_nil ?_
  | ((first | refine WD_gate rfl rfl rfl rfl rfl fun K_ hK_ => ?_ | refine WO_gate rfl rfl rfl rfl rfl fun K_ hK_ => ?_); simp only [upd_apply, asB_bool, asB_tup, ↓reduceIte, reduceCtorEq, Nat.reduceEqDiff, Bool.not_true, Bool.not_false]; refine hK_ _ ?_; clear hK_ K_)
  | refine gateK_no (by decide) ?_
  | ((try first | refine WO_op rfl rfl rfl ?_ | refine WO_op0 rfl rfl ?_ | refine WD_op rfl rfl rfl ?_ | refine WD_op0 rfl rfl ?_); (refine WV_gen fun Q_ hQ_ => ?_; simp (disch := first | omega | (simp only [List.length_cons, List.length_nil, List.length_append]; omega)) only [bb, bp, argF, ↓reduceIte, reduceCtorEq, Nat.reduceEqDiff, Nat.reduceLT, Nat.reduceLeDiff, Nat.reduceAdd, Nat.reduceMul, Nat.reduceSub, Nat.reduceBEq, Int.reduceToNat, cond_true, cond_false, eq_self, beq_self_eq_true, bi_min, bi_max, newPtr_X wf, load1_X wf, loadAgg_X wf, store1_X wf, writeCells_X wf, makeFunc_def, tEvD23, bsl_22, bsl_43, bsl_51, bsl_96, bsl_105, newSlice_X wf]; first | (refine dec_split (Q := Q_) (fun hp_ => ?_) (fun hp_ => ?_) <;> first | (exfalso; omega) | (refine hQ_ _ _ ?_; clear hQ_ Q_)) | (refine dec_splitn (Q := Q_) (fun hp_ => ?_) (fun hp_ => ?_) <;> first | (exfalso; omega) | (refine hQ_ _ _ ?_; clear hQ_ Q_)) | (refine hQ_ _ _ ?_; clear hQ_ Q_) | (refine WV_eq (p1 _ _ (by simp only [List.length_append, List.length_cons, List.length_nil]; omega)) ?_; refine hQ_ _ _ ?_; clear hQ_ Q_) | (refine WV_eq (p2 _ _ (by simp only [List.length_append, List.length_cons, List.length_nil]; omega)) ?_; refine hQ_ _ _ ?_; clear hQ_ Q_)))
  | (refine WC_cond fun K_ hK_ => ?_; simp (disch := omega) only [evT_tmp, upd_apply, WB_some, ↓reduceIte, reduceCtorEq, Nat.reduceEqDiff, Nat.reduceLT]; refine hK_ _ ?_; clear hK_ K_)))
    have hn4 := hf.l.n
    refine WC_loop (fun (i : Nat) f d h' => i ≤ ls.length ∧ f 1 = s ∧ f 4 = .ptr (nx h 0) 0 ∧ f 12 = .ptr (nx h 6) 0 ∧ f 16 = .ptr (nx h 8) 0 ∧ f 17 = ii (i : Int) ∧ d = [] ∧
      ∃ c1 c2 c3 c4 c5 c7 G, h' = X h (.cells (mkCells [ii T.sp, ii T.lo, ii T.we, ii T.al, ii T.f0, ii T.f1, ii T.t0, ii T.t1, ii T.s0, ii T.s1, ii T.o0, ii T.o1, ii T.b0, ii T.b1, ii T.r0, ii T.r1]) 35 :: c1 :: c2 :: c3 :: c4 :: c5 :: .cells (mkCells [ii (spanV T ls false), ii (spanV T ls true)]) 33 :: c7 :: .cells (mkCells [ii (acc T ls false i), ii (acc T ls true i)]) 33 :: G) h.clock) (fun i => ls.length - i) ?_ (ls.length + 1) 0 (by omega) ?_
    · rintro i f d h' ⟨hi, g1, g4, g12, g16, g17, rfl, c1, c2, c3, c4, c5, c7, G, rfl⟩
      by_cases hlt : i < ls.length
      · obtain ⟨b', hcut, hsb, _⟩ := z.sl.cut (P := Try.prog) (lo := some i) (hi := some (i + 1)) (Nat.le_succ i) hlt rfl rfl un_43 sz_24 (by decide) hcap
        have y1 := z.sub hlt hsb
        have hcut' : sliceE Try.prog 43 (reszT Try.prog 43 s) (some i) (some ((i : Int) + 1).toNat) none = some b' := by
          rw [show ((i : Int) + 1).toNat = i + 1 by omega]; exact hcut
        have p3 := fun l w hw => spanOK (hf.one (List.getElem_mem hlt)) _ _ (y1.up l w hw)
        simp only [spanV_one] at p3
        have e1 := acc_lo hf hlt
        have e2 := acc_hi hf hlt
        (repeat' (first
  | (with_reducible first | refine WC_seq ?_ | refine WC_skip ?_ | refine WC_label ?_ | refine WC_scope ?_ | refine WC_block ?_ | refine WC_ret ?_ | refine WC_exit ?_ | refine seqQ_norm ?_ | refine seqQ_ret ?_ | refine seqQ_exit ?_ | refine blkQ_norm ?_ | refine blkQ_ret ?_ | refine blkQ_here ?_ | refine gateK_yes ?_ | refine gateK_none ?_ | refine condK_tt ?_ | refine condK_ff ?_ | refine roundQ_exit ?_ | refine roundQ_ret ?_)
  | refine WC_region ?_ | refine blkQ_out rfl ?_ | refine WO_nil ?_ | refine WD_nil ?_
  | ((first | refine WD_gate rfl rfl rfl rfl rfl fun K_ hK_ => ?_ | refine WO_gate rfl rfl rfl rfl rfl fun K_ hK_ => ?_); simp only [upd_apply, asB_bool, asB_tup, ↓reduceIte, reduceCtorEq, Nat.reduceEqDiff, Bool.not_true, Bool.not_false]; refine hK_ _ ?_; clear hK_ K_)
  | refine gateK_no (by decide) ?_
  | ((try first | refine WO_op rfl rfl rfl ?_ | refine WO_op0 rfl rfl ?_ | refine WD_op rfl rfl rfl ?_ | refine WD_op0 rfl rfl ?_); (refine WV_gen fun Q_ hQ_ => ?_; simp (disch := first | omega | (simp only [List.length_cons, List.length_nil, List.length_append]; omega)) only [bb, bp, argF, ↓reduceIte, reduceCtorEq, Nat.reduceEqDiff, Nat.reduceLT, Nat.reduceLeDiff, Nat.reduceAdd, Nat.reduceMul, Nat.reduceSub, Nat.reduceBEq, Int.reduceToNat, cond_true, cond_false, eq_self, beq_self_eq_true, g1, g4, g12, g16, g17, hl, newPtr_X wf, load1_X wf, loadAgg_X wf, store1_X wf, writeCells_X wf, makeFunc_def, tEvD23, bsl_22, bsl_43, bsl_51, bsl_96, bsl_105, newSlice_X wf]; first | (refine dec_split (Q := Q_) (fun hp_ => ?_) (fun hp_ => ?_) <;> first | (exfalso; omega) | (refine hQ_ _ _ ?_; clear hQ_ Q_)) | (refine dec_splitn (Q := Q_) (fun hp_ => ?_) (fun hp_ => ?_) <;> first | (exfalso; omega) | (refine hQ_ _ _ ?_; clear hQ_ Q_)) | (refine hQ_ _ _ ?_; clear hQ_ Q_)))
  | (refine WC_cond fun K_ hK_ => ?_; simp (disch := omega) only [evT_tmp, upd_apply, WB_some, ↓reduceIte, reduceCtorEq, Nat.reduceEqDiff, Nat.reduceLT]; refine hK_ _ ?_; clear hK_ K_)))
        refine WC_drawnB [.no, .no, .no, .no, .no, .no, .no, .no, .no, .no, .no, .full, .full] (by kernel_rfl) ?_
        (repeat' (first
  | (with_reducible first | refine WC_seq ?_ | refine WC_skip ?_ | refine WC_label ?_ | refine WC_scope ?_ | refine WC_block ?_ | refine WC_ret ?_ | refine WC_exit ?_ | refine seqQ_norm ?_ | refine seqQ_ret ?_ | refine seqQ_exit ?_ | refine blkQ_norm ?_ | refine blkQ_ret ?_ | refine blkQ_here ?_ | refine gateK_yes ?_ | refine gateK_none ?_ | refine condK_tt ?_ | refine condK_ff ?_ | refine roundQ_exit ?_ | refine roundQ_ret ?_)
  | refine WC_region ?_ | refine blkQ_out rfl ?_ | refine WO_nil ?_ | refine WD_nil ?_
  | ((first | refine WD_gate rfl rfl rfl rfl rfl fun K_ hK_ => ?_ | refine WO_gate rfl rfl rfl rfl rfl fun K_ hK_ => ?_); simp only [upd_apply, asB_bool, asB_tup, ↓reduceIte, reduceCtorEq, Nat.reduceEqDiff, Bool.not_true, Bool.not_false]; refine hK_ _ ?_; clear hK_ K_)
  | refine gateK_no (by decide) ?_
  | ((try first | refine WO_op rfl rfl rfl ?_ | refine WO_op0 rfl rfl ?_ | refine WD_op rfl rfl rfl ?_ | refine WD_op0 rfl rfl ?_); (refine WV_gen fun Q_ hQ_ => ?_; simp (disch := first | omega | (simp only [List.length_cons, List.length_nil, List.length_append]; omega)) only [bb, bp, argF, ↓reduceIte, reduceCtorEq, Nat.reduceEqDiff, Nat.reduceLT, Nat.reduceLeDiff, Nat.reduceAdd, Nat.reduceMul, Nat.reduceSub, Nat.reduceBEq, Int.reduceToNat, cond_true, cond_false, eq_self, beq_self_eq_true, g1, g4, g12, g16, g17, hcut', p3, newPtr_X wf, load1_X wf, loadAgg_X wf, store1_X wf, writeCells_X wf, makeFunc_def, tEvD23, bsl_22, bsl_43, bsl_51, bsl_96, bsl_105, newSlice_X wf]; first | (refine dec_split (Q := Q_) (fun hp_ => ?_) (fun hp_ => ?_) <;> first | (exfalso; omega) | (refine hQ_ _ _ ?_; clear hQ_ Q_)) | (refine dec_splitn (Q := Q_) (fun hp_ => ?_) (fun hp_ => ?_) <;> first | (exfalso; omega) | (refine hQ_ _ _ ?_; clear hQ_ Q_)) | (refine hQ_ _ _ ?_; clear hQ_ Q_)))
  | (refine WC_cond fun K_ hK_ => ?_; simp (disch := omega) only [evT_tmp, upd_apply, WB_some, ↓reduceIte, reduceCtorEq, Nat.reduceEqDiff, Nat.reduceLT]; refine hK_ _ ?_; clear hK_ K_)))
        (repeat' (first
  | (with_reducible first | refine WC_seq ?_ | refine WC_skip ?_ | refine WC_label ?_ | refine WC_scope ?_ | refine WC_block ?_ | refine WC_ret ?_ | refine WC_exit ?_ | refine seqQ_norm ?_ | refine seqQ_ret ?_ | refine seqQ_exit ?_ | refine blkQ_norm ?_ | refine blkQ_ret ?_ | refine blkQ_here ?_ | refine gateK_yes ?_ | refine gateK_none ?_ | refine condK_tt ?_ | refine condK_ff ?_ | refine roundQ_exit ?_ | refine roundQ_ret ?_)
  | refine WC_region ?_ | refine blkQ_out rfl ?_ | refine WO_nil ?_ | refine WD_nil ?_
  | ((first | refine WD_gate rfl rfl rfl rfl rfl fun K_ hK_ => ?_ | refine WO_gate rfl rfl rfl rfl rfl fun K_ hK_ => ?_); simp only [upd_apply, asB_bool, asB_tup, ↓reduceIte, reduceCtorEq, Nat.reduceEqDiff, Bool.not_true, Bool.not_false]; refine hK_ _ ?_; clear hK_ K_)
  | refine gateK_no (by decide) ?_
  | ((try first | refine WO_op rfl rfl rfl ?_ | refine WO_op0 rfl rfl ?_ | refine WD_op rfl rfl rfl ?_ | refine WD_op0 rfl rfl ?_); (refine WV_gen fun Q_ hQ_ => ?_; simp (disch := first | omega | (simp only [List.length_cons, List.length_nil, List.length_append]; omega)) only [bb, bp, argF, ↓reduceIte, reduceCtorEq, Nat.reduceEqDiff, Nat.reduceLT, Nat.reduceLeDiff, Nat.reduceAdd, Nat.reduceMul, Nat.reduceSub, Nat.reduceBEq, Int.reduceToNat, cond_true, cond_false, eq_self, beq_self_eq_true, g1, g4, g12, g16, g17, bi_min, bi_max, newPtr_X wf, load1_X wf, loadAgg_X wf, store1_X wf, writeCells_X wf, makeFunc_def, tEvD23, bsl_22, bsl_43, bsl_51, bsl_96, bsl_105, newSlice_X wf]; first | (refine dec_split (Q := Q_) (fun hp_ => ?_) (fun hp_ => ?_) <;> first | (exfalso; omega) | (refine hQ_ _ _ ?_; clear hQ_ Q_)) | (refine dec_splitn (Q := Q_) (fun hp_ => ?_) (fun hp_ => ?_) <;> first | (exfalso; omega) | (refine hQ_ _ _ ?_; clear hQ_ Q_)) | (refine hQ_ _ _ ?_; clear hQ_ Q_)))
  | (refine WC_cond fun K_ hK_ => ?_; simp (disch := omega) only [evT_tmp, upd_apply, WB_some, ↓reduceIte, reduceCtorEq, Nat.reduceEqDiff, Nat.reduceLT]; refine hK_ _ ?_; clear hK_ K_)))
        refine roundQ_again (i + 1) (by omega) ⟨hlt, by simp only [upd_apply, ↓reduceIte, reduceCtorEq, Nat.reduceEqDiff]; exact g1, by simp only [upd_apply, ↓reduceIte, reduceCtorEq, Nat.reduceEqDiff]; exact g4, by simp only [upd_apply, ↓reduceIte, reduceCtorEq, Nat.reduceEqDiff]; exact g12, by simp only [upd_apply, ↓reduceIte, reduceCtorEq, Nat.reduceEqDiff]; exact g16, by simp only [upd_apply, ↓reduceIte, reduceCtorEq, Nat.reduceEqDiff]; rfl, rfl, c1, c2, c3, c4, c5, c7, _, by rw [e1, e2]⟩
      · have hie : i = ls.length := by omega
        have e1 : acc T ls false i = spanV T ls false := by unfold acc spanV; rw [if_neg (by omega), hie]
        have e2 : acc T ls true i = spanV T ls true := by unfold acc spanV; rw [if_neg (by omega), hie]
        rw [e1, e2]
        (repeat' (first
  | (with_reducible first | refine WC_seq ?_ | refine WC_skip ?_ | refine WC_label ?_ | refine WC_scope ?_ | refine WC_block ?_ | refine WC_ret ?_ | refine WC_exit ?_ | refine seqQ_norm ?_ | refine seqQ_ret ?_ | refine seqQ_exit ?_ | refine blkQ_norm ?_ | refine blkQ_ret ?_ | refine blkQ_here ?_ | refine gateK_yes ?_ | refine gateK_none ?_ | refine condK_tt ?_ | refine condK_ff ?_ | refine roundQ_exit ?_ | refine roundQ_ret ?_)
  | refine WC_region ?_ | refine blkQ_out rfl ?_ | refine WO_nil ?_ | refine WD_nil ?_
  | ((first | refine WD_gate rfl rfl rfl rfl rfl fun K_ hK_ => ?_ | refine WO_gate rfl rfl rfl rfl rfl fun K_ hK_ => ?_); simp only [upd_apply, asB_bool, asB_tup, ↓reduceIte, reduceCtorEq, Nat.reduceEqDiff, Bool.not_true, Bool.not_false]; refine hK_ _ ?_; clear hK_ K_)
  | refine gateK_no (by decide) ?_
  | ((try first | refine WO_op rfl rfl rfl ?_ | refine WO_op0 rfl rfl ?_ | refine WD_op rfl rfl rfl ?_ | refine WD_op0 rfl rfl ?_); (refine WV_gen fun Q_ hQ_ => ?_; simp (disch := first | omega | (simp only [List.length_cons, List.length_nil, List.length_append]; omega)) only [bb, bp, argF, ↓reduceIte, reduceCtorEq, Nat.reduceEqDiff, Nat.reduceLT, Nat.reduceLeDiff, Nat.reduceAdd, Nat.reduceMul, Nat.reduceSub, Nat.reduceBEq, Int.reduceToNat, cond_true, cond_false, eq_self, beq_self_eq_true, g1, g4, g12, g16, g17, hl, eqR, newPtr_X wf, load1_X wf, loadAgg_X wf, store1_X wf, writeCells_X wf, makeFunc_def, tEvD23, bsl_22, bsl_43, bsl_51, bsl_96, bsl_105, newSlice_X wf]; first | (refine dec_split (Q := Q_) (fun hp_ => ?_) (fun hp_ => ?_) <;> first | (exfalso; omega) | (refine hQ_ _ _ ?_; clear hQ_ Q_)) | (refine dec_splitn (Q := Q_) (fun hp_ => ?_) (fun hp_ => ?_) <;> first | (exfalso; omega) | (refine hQ_ _ _ ?_; clear hQ_ Q_)) | (refine hQ_ _ _ ?_; clear hQ_ Q_) | (refine WV_eq (works _) ?_; refine hQ_ _ _ ?_; clear hQ_ Q_)))
  | (refine WC_cond fun K_ hK_ => ?_; simp (disch := omega) only [evT_tmp, upd_apply, WB_some, ↓reduceIte, reduceCtorEq, Nat.reduceEqDiff, Nat.reduceLT]; refine hK_ _ ?_; clear hK_ K_)))
        (refine endQ_ret _ _ rfl (ret1 (by decide)) ?_; simp only [upd_apply, ↓reduceIte, reduceCtorEq, Nat.reduceEqDiff]; refine WV_flat rfl (by omega) ?_)
        exact ⟨rfl, rfl⟩
    · refine ⟨Nat.zero_le _, by simp only [upd_apply, ↓reduceIte, reduceCtorEq, Nat.reduceEqDiff], by simp only [upd_apply, ↓reduceIte, reduceCtorEq, Nat.reduceEqDiff], by simp only [upd_apply, ↓reduceIte, reduceCtorEq, Nat.reduceEqDiff], by simp only [upd_apply, ↓reduceIte, reduceCtorEq, Nat.reduceEqDiff], by first | (simp only [upd_apply, ↓reduceIte, reduceCtorEq, Nat.reduceEqDiff]; done) | (simp only [upd_apply, ↓reduceIte, reduceCtorEq, Nat.reduceEqDiff]; rfl), rfl, _, _, _, _, _, _, [], rfl⟩
  · have hS := fun l w hw => fineF _ _ _ hf _ (z.up l w hw)
    (repeat' (first
  | (with_reducible first | refine WC_seq ?_ | refine WC_skip ?_ | refine WC_label ?_ | refine WC_scope ?_ | refine WC_block ?_ | refine WC_ret ?_ | refine WC_exit ?_ | refine seqQ_norm ?_ | refine seqQ_ret ?_ | refine seqQ_exit ?_ | refine blkQ_norm ?_ | refine blkQ_ret ?_ | refine blkQ_here ?_ | refine gateK_yes ?_ | refine gateK_none ?_ | refine condK_tt ?_ | refine condK_ff ?_ | refine roundQ_exit ?_ | refine roundQ_ret ?_)
  | refine WC_region ?_ | refine blkQ_out rfl ?_ | refine WO_nil ?_ | refine WD_nil ?_
  | ((first | refine WD_gate rfl rfl rfl rfl rfl fun K_ hK_ => ?_ | refine WO_gate rfl rfl rfl rfl rfl fun K_ hK_ => ?_); simp only [upd_apply, asB_bool, asB_tup, ↓reduceIte, reduceCtorEq, Nat.reduceEqDiff, Bool.not_true, Bool.not_false]; refine hK_ _ ?_; clear hK_ K_)
  | refine gateK_no (by decide) ?_
  | ((try first | refine WO_op rfl rfl rfl ?_ | refine WO_op0 rfl rfl ?_ | refine WD_op rfl rfl rfl ?_ | refine WD_op0 rfl rfl ?_); (refine WV_gen fun Q_ hQ_ => ?_; simp (disch := first | omega | (simp only [List.length_cons, List.length_nil, List.length_append]; omega)) only [bb, bp, argF, ↓reduceIte, reduceCtorEq, Nat.reduceEqDiff, Nat.reduceLT, Nat.reduceLeDiff, Nat.reduceAdd, Nat.reduceMul, Nat.reduceSub, Nat.reduceBEq, Int.reduceToNat, cond_true, cond_false, eq_self, beq_self_eq_true, newPtr_X wf, load1_X wf, loadAgg_X wf, store1_X wf, writeCells_X wf, makeFunc_def, tEvD23, bsl_22, bsl_43, bsl_51, bsl_96, bsl_105, newSlice_X wf]; first | (refine dec_split (Q := Q_) (fun hp_ => ?_) (fun hp_ => ?_) <;> first | (exfalso; omega) | (refine hQ_ _ _ ?_; clear hQ_ Q_)) | (refine dec_splitn (Q := Q_) (fun hp_ => ?_) (fun hp_ => ?_) <;> first | (exfalso; omega) | (refine hQ_ _ _ ?_; clear hQ_ Q_)) | (refine hQ_ _ _ ?_; clear hQ_ Q_) | (refine WV_eq (hS _ _ (by simp only [List.length_append, List.length_cons, List.length_nil]; omega)) ?_; refine hQ_ _ _ ?_; clear hQ_ Q_) | (refine WV_eq (works _) ?_; refine hQ_ _ _ ?_; clear hQ_ Q_)))
  | (refine WC_cond fun K_ hK_ => ?_; simp (disch := omega) only [evT_tmp, upd_apply, WB_some, ↓reduceIte, reduceCtorEq, Nat.reduceEqDiff, Nat.reduceLT]; refine hK_ _ ?_; clear hK_ K_)))
    (refine endQ_ret _ _ rfl (ret1 (by decide)) ?_; simp only [upd_apply, ↓reduceIte, reduceCtorEq, Nat.reduceEqDiff]; refine WV_flat rfl (by omega) ?_)
    exact ⟨rfl, rfl⟩
end Go.Proofs.Ythaleckfgcgegaa
end

/- EvDc5 -/
section
/- The statement DragNarrower of layer 4: with narrower ranges no span becomes wider, and the span by several lines reaches from the least of the spans by each one to the greatest, for all tests, lines and numbers; no condition. -/
namespace Go.Proofs.Ythaleckfgcgegaa.dragNarrower
open Go.ChangeShapes Go.WideShapes Go.ChangeAt Go.RowKit Go.Ev
set_option maxRecDepth 100000
set_option maxHeartbeats 0

theorem contract (H : Type) (enc : TypeId × Value → H) (W : World) (base : Nat) (args : Array Value) (ds gs : List (DataW H)) (before : List MemPlace) (hval : ∀ (j : Nat) t v, Try.f9.params[j]? = some t → args[j]? = some v → Value.okWide Try.prog W .any base t v)
    (hW : DataW.Whole enc Try.prog Try.f9.params.toList Rows.dragNarrowerSpec.vars false W args.toList ds gs before) :
    Calls Try.prog 9 args W fun e W' => ∃ v, e = .returned v ∧ Rows.dragNarrowerSpec.post enc Try.prog Try.f9 false true false false W args v W' := by
  have hW' := hW
  obtain ⟨p, q, hA0, hV, rfl, hfz, hnd⟩ := hW
  have hA : DataW.TrodAll enc Try.prog W 0 (fun _ => true) true Try.f9.params.toList args.toList ds p := hA0
  rw [Try.params9] at hA hval
  obtain ⟨v0, v1, v2, v3, d0, d1, d2, d3, p0, p1, p2, p3, rfl, rfl, rfl, ⟨n0, h0⟩, ⟨n1, h1⟩, ⟨n2, h2⟩, ⟨n3, h3⟩⟩ := trodAll_four hA
  obtain ⟨T0, w0⟩ := test_in (hval 0 35 v0 rfl rfl)
  have k1 := (okWide_cell (P := Try.prog) Try.underlying43 (fun _ e => by cases e) (fun _ _ e => by cases e) (hval 1 43 v1 rfl rfl))
  rw [slice_cells Try.underlying43 k1] at h1
  obtain ⟨a1, ls1, w1, q1, x1⟩ := lines_in k1 h1
  obtain ⟨x2, w2, hr2⟩ := by_in (hval 2 56 v2 rfl rfl)
  obtain ⟨x3, w3, hr3⟩ := by_in (hval 3 56 v3 rfl rfl)
  have walk := lawNarrower T0 a1 q1 ls1 x2 x3 ⟨hr2.1, hr2.2.1, hr2.2.2.1, hr2.2.2.2.1, hr2.2.2.2.2.1, hr2.2.2.2.2.2⟩ ⟨hr3.1, hr3.2.1, hr3.2.2.1, hr3.2.2.2.1, hr3.2.2.2.2.1, hr3.2.2.2.2.2⟩ (startW W) x1
  have hargs : VL (startWR W) [.agg [ii T0.sp, ii T0.lo, ii T0.we, ii T0.al, ii T0.f0, ii T0.f1, ii T0.t0, ii T0.t1, ii T0.s0, ii T0.s1, ii T0.o0, ii T0.o1, ii T0.b0, ii T0.b1, ii T0.r0, ii T0.r1], a1, .agg [.int .u32 x2.f, .int .u32 x2.t, .int .u32 x2.s, .int .u32 x2.o, .int .u32 x2.b, .int .u32 x2.r], .agg [.int .u32 x3.f, .int .u32 x3.t, .int .u32 x3.s, .int .u32 x3.o, .int .u32 x3.b, .int .u32 x3.r]] (#[v0, v1, v2, v3] : Array Value).toList := (.cons _ _ _ _ w0 (.cons _ _ _ _ w1 (.cons _ _ _ _ w2 (.cons _ _ _ _ w3 .nil))))
  refine (startW_true (P := Try.prog) mixed (K := KK) (fun c hc => by
    have : c = cW := List.mem_singleton.1 hc
    rw [this]; exact cW_ok) walk hargs).mono fun e W' ⟨he, hgr, hs⟩ => ?_
  subst he
  refine ⟨_, rfl, law_post laidOut (by
    rw [Try.params9]
    intro t ht
    rcases List.mem_cons.1 ht with rfl | ht
    · exact ⟨by kernel_rfl, of_decide_eq_true (by kernel_rfl)⟩
    rcases List.mem_cons.1 ht with rfl | ht
    · exact ⟨by kernel_rfl, of_decide_eq_true (by kernel_rfl)⟩
    rcases List.mem_cons.1 ht with rfl | ht
    · exact ⟨by kernel_rfl, of_decide_eq_true (by kernel_rfl)⟩
    rcases List.mem_cons.1 ht with rfl | ht
    · exact ⟨by kernel_rfl, of_decide_eq_true (by kernel_rfl)⟩
    cases ht) rfl (by kernel_rfl) Try.underlying4 (fun gs' ⟨q', hq⟩ => ?_) hW' hgr hs⟩
  obtain ⟨rfl, _⟩ := trodVars_none hq
  exact ⟨rfl, rfl, rfl⟩

theorem lifted (os : Os) (started : os.Started) (H : Type) (enc : TypeId × Value → H) :
    ReturnsInHanded {} Try.checked os 9 .any (Rows.dragNarrowerSpec.pre6 enc Try.prog Try.f9 Rows.dragNarrowerRow.domain false) (Rows.dragNarrowerSpec.post enc Try.prog Try.f9 false true false false) := by
  refine returnsInHanded_of_change (C := Try.checked) own started (by kernel_rfl) Try.func9
    (ChangeSpec.witness6 (enc := enc) (C := Try.checked) false ⟨#[], #[.agg #[.int .i64 0, .int .i64 0, .int .i64 0, .int .i64 0, .int .i64 0, .int .i64 0, .int .i64 0, .int .i64 0, .int .i64 0, .int .i64 0, .int .i64 0, .int .i64 0, .int .i64 0, .int .i64 0, .int .i64 0, .int .i64 0], .slice none 0 0, .agg #[.int .u32 0, .int .u32 0, .int .u32 0, .int .u32 0, .int .u32 0, .int .u32 0], .agg #[.int .u32 0, .int .u32 0, .int .u32 0, .int .u32 0, .int .u32 0, .int .u32 0]], []⟩ 8 (by kernel_rfl) (by kernel_rfl) (by kernel_rfl) (by kernel_rfl)) ?_
  intro W base args ds gs before hval hW _ _
  exact contract H enc W base args ds gs before hval hW

theorem holds : Rows.DragNarrowerSaid :=
  OpenClaim.holds_of_wide 9 Try.f9 rfl rfl rfl rfl rfl rfl rfl ⟨rfl, rfl, rfl, rfl, rfl⟩ rfl rfl rfl rfl rfl (by kernel_rfl) Try.func9 (by kernel_rfl)
    (of_decide_eq_true (by kernel_rfl)) (by unfold Func.isWrapper; first | (rw [if_pos (by decide +kernel)]; kernel_rfl) | (rw [if_neg (by decide +kernel)]; exact ⟨rfl, rfl⟩))
    (fun os started H enc _ => lifted os started H enc)
end Go.Proofs.Ythaleckfgcgegaa.dragNarrower
end
