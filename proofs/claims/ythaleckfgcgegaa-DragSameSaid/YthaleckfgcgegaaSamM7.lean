/- The statement DragSame of layer 4: in the same water, with neither Block nor Rough, the coefficient of the ship is the one that was measured, by any line and form, for all tests, lines and truths by numbers; no condition. -/
import Derived.Test.YthaleckfgcgegaaSamM6
import Derived.Test.YthaleckfgcgegaaRows
import Derived.WalkKit
import Derived.ProofKit
import Derived.OpenShut
set_option linter.all false
/- EvD21 -/
section
/-
  LAYER 4: whatever the truth is; what statements are about.
-/
namespace Go.Proofs.Ythaleckfgcgegaa
open Go.Ev
set_option maxRecDepth 100000
set_option linter.unusedSimpArgs false
set_option linter.unusedVariables false
set_option maxHeartbeats 2000000
theorem tEvD21 : type_of% (And.intro (And.intro (And.intro (And.intro (And.intro (And.intro (And.intro (@bs_24) (@bs_33)) (And.intro (@bs_35) (And.intro (@bs_37) (@bs_67)))) (And.intro (And.intro (@bs_76) (And.intro (@bs_87) (@bs_98))) (And.intro (@bs_117) (And.intro (@ia_2) (@sz_2))))) (And.intro (And.intro (And.intro (@ia_3) (@sz_3)) (And.intro (@ia_4) (And.intro (@sz_4) (@ia_22)))) (And.intro (And.intro (@sz_22) (And.intro (@ia_24) (@sz_24))) (And.intro (@ia_27) (And.intro (@sz_27) (@ia_33)))))) (And.intro (And.intro (And.intro (And.intro (@sz_33) (@ia_35)) (And.intro (@sz_35) (And.intro (@ia_37) (@sz_37)))) (And.intro (And.intro (@ia_43) (And.intro (@sz_43) (@ia_51))) (And.intro (@sz_51) (And.intro (@ia_55) (@sz_55))))) (And.intro (And.intro (And.intro (@ia_56) (And.intro (@sz_56) (@ia_67))) (And.intro (@sz_67) (And.intro (@ia_69) (@sz_69)))) (And.intro (And.intro (@ia_70) (And.intro (@sz_70) (@ia_73))) (And.intro (@sz_73) (And.intro (@ia_74) (@sz_74))))))) (And.intro (And.intro (And.intro (And.intro (And.intro (@ia_76) (@sz_76)) (And.intro (@ia_78) (And.intro (@sz_78) (@ia_87)))) (And.intro (And.intro (@sz_87) (And.intro (@ia_89) (@sz_89))) (And.intro (@ia_96) (And.intro (@sz_96) (@ia_98))))) (And.intro (And.intro (And.intro (@sz_98) (@ia_101)) (And.intro (@sz_101) (And.intro (@ia_105) (@sz_105)))) (And.intro (And.intro (@ia_107) (And.intro (@sz_107) (@ia_113))) (And.intro (@sz_113) (And.intro (@ia_114) (@sz_114)))))) (And.intro (And.intro (And.intro (And.intro (@ia_117) (@sz_117)) (And.intro (@ia_119) (And.intro (@sz_119) (@ze_2)))) (And.intro (And.intro (@ze_3) (And.intro (@ze_4) (@ze_24))) (And.intro (@ze_27) (And.intro (@ze_33) (@ze_35))))) (And.intro (And.intro (And.intro (@ze_37) (And.intro (@ze_67) (@ze_69))) (And.intro (@ze_76) (And.intro (@ze_87) (@ze_98)))) (And.intro (And.intro (@ze_117) (And.intro (@fo_24_0) (@fo_24_1))) (And.intro (@fo_33_0) (And.intro (@fo_33_1) (@fo_35_0)))))))) (And.intro (And.intro (And.intro (And.intro (And.intro (And.intro (@fo_35_1) (@fo_35_2)) (And.intro (@fo_35_3) (And.intro (@fo_35_4) (@fo_35_5)))) (And.intro (And.intro (@fo_35_6) (And.intro (@fo_35_7) (@fo_35_8))) (And.intro (@fo_35_9) (And.intro (@fo_37_0) (@fo_37_1))))) (And.intro (And.intro (And.intro (@fo_37_2) (@fo_37_3)) (And.intro (@fo_37_4) (And.intro (@fo_37_5) (@fo_67_0)))) (And.intro (And.intro (@fo_76_0) (And.intro (@fo_76_1) (@fo_87_0))) (And.intro (@fo_87_1) (And.intro (@fo_87_2) (@fo_98_0)))))) (And.intro (And.intro (And.intro (And.intro (@fo_98_1) (@pb_13)) (And.intro (@pb_14) (And.intro (@pb_15) (@pb_16)))) (And.intro (And.intro (@pb_17) (And.intro (@pb_18) (@pb_19))) (And.intro (@pb_20) (And.intro (@pb_21) (@pb_22))))) (And.intro (And.intro (And.intro (@pb_23) (And.intro (@pb_24) (@pb_25))) (And.intro (@pb_26) (And.intro (@pb_27) (@pb_28)))) (And.intro (And.intro (@pb_29) (And.intro (@pb_30) (@pb_31))) (And.intro (@pb_32) (And.intro (@pb_33) (@pb_34))))))) (And.intro (And.intro (And.intro (And.intro (And.intro (@pb_35) (@pb_36)) (And.intro (@pb_37) (And.intro (@pb_38) (@pb_39)))) (And.intro (And.intro (@pb_40) (And.intro (@pb_41) (@pb_42))) (And.intro (@pb_43) (And.intro (@pb_44) (@pb_45))))) (And.intro (And.intro (And.intro (@pb_46) (@pb_47)) (And.intro (@pb_48) (And.intro (@pb_49) (@pb_50)))) (And.intro (And.intro (@pb_51) (And.intro (@pb_52) (@pb_53))) (And.intro (@pb_54) (And.intro (@pb_55) (@pb_56)))))) (And.intro (And.intro (And.intro (And.intro (@pb_57) (@pb_58)) (And.intro (@pb_59) (And.intro (@pb_60) (@pb_61)))) (And.intro (And.intro (@pb_62) (And.intro (@pb_63) (@pb_64))) (And.intro (@pb_65) (And.intro (@pb_66) (@pb_67))))) (And.intro (And.intro (And.intro (@pb_68) (And.intro (@pb_69) (@pb_70))) (And.intro (@pb_71) (And.intro (@pb_72) (@pb_73)))) (And.intro (And.intro (@pb_74) (And.intro (@pb_75) (@pb_76))) (And.intro (@pb_77) (And.intro (@pb_78) (@pb_79))))))))) := And.intro (And.intro (And.intro (And.intro (And.intro (And.intro (And.intro (@bs_24) (@bs_33)) (And.intro (@bs_35) (And.intro (@bs_37) (@bs_67)))) (And.intro (And.intro (@bs_76) (And.intro (@bs_87) (@bs_98))) (And.intro (@bs_117) (And.intro (@ia_2) (@sz_2))))) (And.intro (And.intro (And.intro (@ia_3) (@sz_3)) (And.intro (@ia_4) (And.intro (@sz_4) (@ia_22)))) (And.intro (And.intro (@sz_22) (And.intro (@ia_24) (@sz_24))) (And.intro (@ia_27) (And.intro (@sz_27) (@ia_33)))))) (And.intro (And.intro (And.intro (And.intro (@sz_33) (@ia_35)) (And.intro (@sz_35) (And.intro (@ia_37) (@sz_37)))) (And.intro (And.intro (@ia_43) (And.intro (@sz_43) (@ia_51))) (And.intro (@sz_51) (And.intro (@ia_55) (@sz_55))))) (And.intro (And.intro (And.intro (@ia_56) (And.intro (@sz_56) (@ia_67))) (And.intro (@sz_67) (And.intro (@ia_69) (@sz_69)))) (And.intro (And.intro (@ia_70) (And.intro (@sz_70) (@ia_73))) (And.intro (@sz_73) (And.intro (@ia_74) (@sz_74))))))) (And.intro (And.intro (And.intro (And.intro (And.intro (@ia_76) (@sz_76)) (And.intro (@ia_78) (And.intro (@sz_78) (@ia_87)))) (And.intro (And.intro (@sz_87) (And.intro (@ia_89) (@sz_89))) (And.intro (@ia_96) (And.intro (@sz_96) (@ia_98))))) (And.intro (And.intro (And.intro (@sz_98) (@ia_101)) (And.intro (@sz_101) (And.intro (@ia_105) (@sz_105)))) (And.intro (And.intro (@ia_107) (And.intro (@sz_107) (@ia_113))) (And.intro (@sz_113) (And.intro (@ia_114) (@sz_114)))))) (And.intro (And.intro (And.intro (And.intro (@ia_117) (@sz_117)) (And.intro (@ia_119) (And.intro (@sz_119) (@ze_2)))) (And.intro (And.intro (@ze_3) (And.intro (@ze_4) (@ze_24))) (And.intro (@ze_27) (And.intro (@ze_33) (@ze_35))))) (And.intro (And.intro (And.intro (@ze_37) (And.intro (@ze_67) (@ze_69))) (And.intro (@ze_76) (And.intro (@ze_87) (@ze_98)))) (And.intro (And.intro (@ze_117) (And.intro (@fo_24_0) (@fo_24_1))) (And.intro (@fo_33_0) (And.intro (@fo_33_1) (@fo_35_0)))))))) (And.intro (And.intro (And.intro (And.intro (And.intro (And.intro (@fo_35_1) (@fo_35_2)) (And.intro (@fo_35_3) (And.intro (@fo_35_4) (@fo_35_5)))) (And.intro (And.intro (@fo_35_6) (And.intro (@fo_35_7) (@fo_35_8))) (And.intro (@fo_35_9) (And.intro (@fo_37_0) (@fo_37_1))))) (And.intro (And.intro (And.intro (@fo_37_2) (@fo_37_3)) (And.intro (@fo_37_4) (And.intro (@fo_37_5) (@fo_67_0)))) (And.intro (And.intro (@fo_76_0) (And.intro (@fo_76_1) (@fo_87_0))) (And.intro (@fo_87_1) (And.intro (@fo_87_2) (@fo_98_0)))))) (And.intro (And.intro (And.intro (And.intro (@fo_98_1) (@pb_13)) (And.intro (@pb_14) (And.intro (@pb_15) (@pb_16)))) (And.intro (And.intro (@pb_17) (And.intro (@pb_18) (@pb_19))) (And.intro (@pb_20) (And.intro (@pb_21) (@pb_22))))) (And.intro (And.intro (And.intro (@pb_23) (And.intro (@pb_24) (@pb_25))) (And.intro (@pb_26) (And.intro (@pb_27) (@pb_28)))) (And.intro (And.intro (@pb_29) (And.intro (@pb_30) (@pb_31))) (And.intro (@pb_32) (And.intro (@pb_33) (@pb_34))))))) (And.intro (And.intro (And.intro (And.intro (And.intro (@pb_35) (@pb_36)) (And.intro (@pb_37) (And.intro (@pb_38) (@pb_39)))) (And.intro (And.intro (@pb_40) (And.intro (@pb_41) (@pb_42))) (And.intro (@pb_43) (And.intro (@pb_44) (@pb_45))))) (And.intro (And.intro (And.intro (@pb_46) (@pb_47)) (And.intro (@pb_48) (And.intro (@pb_49) (@pb_50)))) (And.intro (And.intro (@pb_51) (And.intro (@pb_52) (@pb_53))) (And.intro (@pb_54) (And.intro (@pb_55) (@pb_56)))))) (And.intro (And.intro (And.intro (And.intro (@pb_57) (@pb_58)) (And.intro (@pb_59) (And.intro (@pb_60) (@pb_61)))) (And.intro (And.intro (@pb_62) (And.intro (@pb_63) (@pb_64))) (And.intro (@pb_65) (And.intro (@pb_66) (@pb_67))))) (And.intro (And.intro (And.intro (@pb_68) (And.intro (@pb_69) (@pb_70))) (And.intro (@pb_71) (And.intro (@pb_72) (@pb_73)))) (And.intro (And.intro (@pb_74) (And.intro (@pb_75) (@pb_76))) (And.intro (@pb_77) (And.intro (@pb_78) (@pb_79))))))))
theorem coef_mono {T : Te} (k : okT T) {re cf : List Int} (kl : okL re cf) (hin : inAll T re) {x y : Tr} (kx : isT T x) (ky : isT T y) (ho : x.o = y.o) (hf : x.f ≤ y.f) (ht : y.t ≤ x.t) (hs : x.s ≤ y.s) (hb : y.b ≤ x.b) (hr : x.r ≤ y.r) : coef T re cf x ≤ coef T re cf y := by
  have kf := k.f
  have kt := k.t
  have ks := k.s
  have ko := k.o
  have kb := k.b
  have xf := kx.f
  have yf := ky.f
  have xt := kx.t
  have yt := ky.t
  have xs := kx.s
  have ys := ky.s
  have xo := kx.o
  have xb := kx.b
  have yb := ky.b
  obtain ⟨ix1, ix2⟩ := inAll_of k hin kx
  obtain ⟨iy1, iy2⟩ := inAll_of k hin ky
  obtain ⟨-, -, -, -, p2, p3⟩ := k.prods
  have m1 : meas T x.f ≤ meas T y.f := by
    have := Int.ediv_le_ediv (show 0 < T.we * T.sp * T.sp by omega) (show 20000000000 * x.f ≤ 20000000000 * y.f by omega)
    unfold meas; omega
  have m2 := meas_in k (f := x.f) (by omega)
  have m3 : meas T x.f * (1000 - x.b) ≤ meas T y.f * (1000 - y.b) := Int.mul_le_mul m1 (by omega) (by omega) (by omega)
  have m4 := Int.ediv_le_ediv (show (0 : Int) < 1000 by decide) m3
  have g1 := fr_mono kl ix1 iy1 (mo_anti k (by omega) ht)
  have g2 := fr_mono kl iy2 ix2 (sh_anti k (by omega) hs)
  have n1 : (1000 + y.o) * fr re cf (mo T y.t) ≤ (1000 + x.o) * fr re cf (mo T x.t) := by rw [ho]; exact Int.mul_le_mul_of_nonneg_left g1 (by omega)
  have n2 : (1000 + x.o) * fr re cf (sh T x.s) ≤ (1000 + y.o) * fr re cf (sh T y.s) := by rw [ho]; exact Int.mul_le_mul_of_nonneg_left g2 (by omega)
  have n3 := Int.ediv_le_ediv (show (0 : Int) < 1000 by decide) n1
  have n4 := Int.ediv_le_ediv (show (0 : Int) < 1000 by decide) n2
  unfold coef formed
  omega
theorem bst_ge {g : Nat → Int} : ∀ {n q : Nat}, q < n → g q ≤ bst true g n
  | 1, 0, _ => by rw [bst_zero]; exact Int.le_refl _
  | n + 2, q, h => by
    rw [bst_hi (by omega)]
    by_cases e : q = n + 1
    · rw [e]; omega
    · have := bst_ge (g := g) (n := n + 1) (q := q) (by omega); omega
theorem bst_le {g : Nat → Int} : ∀ {n q : Nat}, q < n → bst false g n ≤ g q
  | 1, 0, _ => by rw [bst_zero]; exact Int.le_refl _
  | n + 2, q, h => by
    rw [bst_lo (by omega)]
    by_cases e : q = n + 1
    · rw [e]; omega
    · have := bst_le (g := g) (n := n + 1) (q := q) (by omega); omega
theorem endv_box {T : Te} (k : okT T) {re cf : List Int} (kl : okL re cf) (hin : inAll T re) {x : Tr} (kx : isT T x) : endv T re cf false ≤ coef T re cf x ∧ coef T re cf x ≤ endv T re cf true := by
  have ko := k.o
  have xo := kx.o
  have hq : (x.o - T.o0).toNat < cnt T := by unfold cnt; omega
  have e : T.o0 + ((x.o - T.o0).toNat : Int) = x.o := by omega
  have h1 := bst_le (g := cg T re cf false) hq
  have h2 := bst_ge (g := cg T re cf true) hq
  unfold cg at h1 h2
  rw [e] at h1 h2
  have c1 := coef_mono k kl hin (cand_isT k false xo) kx rfl kx.f.1 kx.t.2 kx.s.1 kx.b.2 kx.r.1
  have c2 := coef_mono k kl hin kx (cand_isT k true xo) rfl kx.f.2 kx.t.1 kx.s.2 kx.b.1 kx.r.2
  exact ⟨Int.le_trans h1 c1, Int.le_trans c2 h2⟩
theorem span_box {T : Te} (k : okT T) {ls : List Ln} (hk : okLs ls) (hr : rk T ls) {l : Ln} (hl : l ∈ ls) {x : Tr} (kx : isT T x) : spanV T ls false ≤ coef T l.re l.cf x ∧ coef T l.re l.cf x ≤ spanV T ls true := by
  obtain ⟨i, hi, rfl⟩ := List.getElem_of_mem hl
  have h1 := bst_le (g := lineV T ls false) hi
  have h2 := bst_ge (g := lineV T ls true) hi
  rw [lineV_at hi] at h1 h2
  obtain ⟨h3, h4⟩ := endv_box k (hk.ok _ hl) (hr _ hl) kx
  exact ⟨Int.le_trans h1 h3, Int.le_trans h4 h2⟩
/-- A statement is about such a test and lines. -/
structure Fine (T : Te) (ls : List Ln) : Prop where
  g : ¬ Greater ls
  k : okT T
  l : okLs ls
  r : rk T ls
theorem fine (T : Te) (s : AV) (ls : List Ln) (h : H) (x : LinesR h s ls) : ∃ t : Bool, (t = true ↔ Fine T ls) ∧ (om Try.prog KK).call (.fn 32 [.agg [ii T.sp, ii T.lo, ii T.we, ii T.al, ii T.f0, ii T.f1, ii T.t0, ii T.t1, ii T.s0, ii T.s1, ii T.o0, ii T.o1, ii T.b0, ii T.b1, ii T.r0, ii T.r1], s]) h = .ok (.bool t) h := by
  have hd : ∃ t : Bool, (t = true ↔ Fine T ls) := by classical exact ⟨decide (Fine T ls), by simp⟩
  obtain ⟨t, ht⟩ := hd
  refine ⟨t, ht, ?_⟩
  have wf := x.wf
  obtain ⟨g, hg, hgc⟩ := greater s ls h x
  have hgc' : ∀ l w, w ≤ h.clock + l.length → (om Try.prog KK).call (.fn 25 [s]) (X h l w) = .ok (.bool g) (X h l w) := fun l w hw => by
    obtain ⟨g2, hg2, hgc2⟩ := greater s ls _ (x.up l w hw)
    have : g2 = g := by
      rw [Bool.eq_iff_iff, hg2, hg]
    rw [hgc2, this]
  have fin : ∀ u : Bool, (u = true ↔ Fine T ls) → t = u := fun u hu => by rw [Bool.eq_iff_iff, ht, hu]
  refine WV_to (WV_call (fn := Try.f32) Try.func32 rfl rfl rfl rfl rfl ?_)
  simp only [argF]
  cases g
  · have hng : ¬ Greater ls := fun q => by have := hg.2 q; cases this
    by_cases k : okT T
    · have e0 := testErr_ok k
      by_cases hz : linesErr ls = 0
      · have hk := linesErr_zero.1 hz
        by_cases hr : rk T ls
        · rw [fin true ⟨fun _ => ⟨hng, k, hk, hr⟩, fun _ => rfl⟩]
          (repeat' (first
  | (with_reducible first | refine WC_seq ?_ | refine WC_skip ?_ | refine WC_label ?_ | refine WC_scope ?_ | refine WC_block ?_ | refine WC_ret ?_ | refine WC_exit ?_ | refine seqQ_norm ?_ | refine seqQ_ret ?_ | refine seqQ_exit ?_ | refine blkQ_norm ?_ | refine blkQ_ret ?_ | refine blkQ_here ?_ | refine gateK_yes ?_ | refine gateK_none ?_ | refine condK_tt ?_ | refine condK_ff ?_ | refine roundQ_exit ?_ | refine roundQ_ret ?_)
  | refine WC_region ?_ | refine blkQ_out rfl ?_ | refine WO_nil ?_ | refine WD_nil ?_
  | ((first | refine WD_gate rfl rfl rfl rfl rfl fun K_ hK_ => ?_ | refine WO_gate rfl rfl rfl rfl rfl fun K_ hK_ => ?_); simp only [upd_apply, asB_bool, asB_tup, ↓reduceIte, reduceCtorEq, Nat.reduceEqDiff, Bool.not_true, Bool.not_false]; refine hK_ _ ?_; clear hK_ K_)
  | refine gateK_no (by decide) ?_
  | ((try first | refine WO_op rfl rfl rfl ?_ | refine WO_op0 rfl rfl ?_ | refine WD_op rfl rfl rfl ?_ | refine WD_op0 rfl rfl ?_); (refine WV_gen fun Q_ hQ_ => ?_; simp (disch := first | omega | (simp only [List.length_cons, List.length_nil, List.length_append]; omega)) only [bb, bp, argF, ↓reduceIte, reduceCtorEq, Nat.reduceEqDiff, Nat.reduceLT, Nat.reduceLeDiff, Nat.reduceAdd, Nat.reduceMul, Nat.reduceSub, Nat.reduceBEq, Int.reduceToNat, cond_true, cond_false, eq_self, beq_self_eq_true, newPtr_X wf, load1_X wf, loadAgg_X wf, store1_X wf, writeCells_X wf, makeFunc_def, tEvD21, bsl_22, bsl_43, bsl_51, bsl_96, bsl_105, newSlice_X wf]; first | (refine dec_split (Q := Q_) (fun hp_ => ?_) (fun hp_ => ?_) <;> first | (exfalso; omega) | (refine hQ_ _ _ ?_; clear hQ_ Q_)) | (refine dec_splitn (Q := Q_) (fun hp_ => ?_) (fun hp_ => ?_) <;> first | (exfalso; omega) | (refine hQ_ _ _ ?_; clear hQ_ Q_)) | (refine hQ_ _ _ ?_; clear hQ_ Q_) | (refine WV_eq (hgc' _ _ (by simp only [List.length_append, List.length_cons, List.length_nil]; omega)) ?_; refine hQ_ _ _ ?_; clear hQ_ Q_) | (refine WV_eq ((refCheckTest T _ (wf.X (Nat.le_add_right _ _))).trans (by rw [e0])) ?_; refine hQ_ _ _ ?_; clear hQ_ Q_) | (refine WV_eq ((refLines s ls _ (x.up _ _ (by simp only [List.length_append, List.length_cons, List.length_nil]; omega))).trans (by rw [hz])) ?_; refine hQ_ _ _ ?_; clear hQ_ Q_) | (refine WV_eq ((Reckoned T k s ls hk _ (x.up _ _ (by simp only [List.length_append, List.length_cons, List.length_nil]; omega))).trans (by rw [decide_eq_true hr])) ?_; refine hQ_ _ _ ?_; clear hQ_ Q_)))
  | (refine WC_cond fun K_ hK_ => ?_; simp (disch := omega) only [evT_tmp, upd_apply, WB_some, ↓reduceIte, reduceCtorEq, Nat.reduceEqDiff, Nat.reduceLT]; refine hK_ _ ?_; clear hK_ K_)))
          (refine endQ_ret _ _ rfl (ret1 (by decide)) ?_; simp only [upd_apply, ↓reduceIte, reduceCtorEq, Nat.reduceEqDiff]; refine WV_flat rfl (by omega) ?_)
          exact ⟨rfl, rfl⟩
        · rw [fin false ⟨fun q => (by cases q), fun q => absurd q.r hr⟩]
          (repeat' (first
  | (with_reducible first | refine WC_seq ?_ | refine WC_skip ?_ | refine WC_label ?_ | refine WC_scope ?_ | refine WC_block ?_ | refine WC_ret ?_ | refine WC_exit ?_ | refine seqQ_norm ?_ | refine seqQ_ret ?_ | refine seqQ_exit ?_ | refine blkQ_norm ?_ | refine blkQ_ret ?_ | refine blkQ_here ?_ | refine gateK_yes ?_ | refine gateK_none ?_ | refine condK_tt ?_ | refine condK_ff ?_ | refine roundQ_exit ?_ | refine roundQ_ret ?_)
  | refine WC_region ?_ | refine blkQ_out rfl ?_ | refine WO_nil ?_ | refine WD_nil ?_
  | ((first | refine WD_gate rfl rfl rfl rfl rfl fun K_ hK_ => ?_ | refine WO_gate rfl rfl rfl rfl rfl fun K_ hK_ => ?_); simp only [upd_apply, asB_bool, asB_tup, ↓reduceIte, reduceCtorEq, Nat.reduceEqDiff, Bool.not_true, Bool.not_false]; refine hK_ _ ?_; clear hK_ K_)
  | refine gateK_no (by decide) ?_
  | ((try first | refine WO_op rfl rfl rfl ?_ | refine WO_op0 rfl rfl ?_ | refine WD_op rfl rfl rfl ?_ | refine WD_op0 rfl rfl ?_); (refine WV_gen fun Q_ hQ_ => ?_; simp (disch := first | omega | (simp only [List.length_cons, List.length_nil, List.length_append]; omega)) only [bb, bp, argF, ↓reduceIte, reduceCtorEq, Nat.reduceEqDiff, Nat.reduceLT, Nat.reduceLeDiff, Nat.reduceAdd, Nat.reduceMul, Nat.reduceSub, Nat.reduceBEq, Int.reduceToNat, cond_true, cond_false, eq_self, beq_self_eq_true, newPtr_X wf, load1_X wf, loadAgg_X wf, store1_X wf, writeCells_X wf, makeFunc_def, tEvD21, bsl_22, bsl_43, bsl_51, bsl_96, bsl_105, newSlice_X wf]; first | (refine dec_split (Q := Q_) (fun hp_ => ?_) (fun hp_ => ?_) <;> first | (exfalso; omega) | (refine hQ_ _ _ ?_; clear hQ_ Q_)) | (refine dec_splitn (Q := Q_) (fun hp_ => ?_) (fun hp_ => ?_) <;> first | (exfalso; omega) | (refine hQ_ _ _ ?_; clear hQ_ Q_)) | (refine hQ_ _ _ ?_; clear hQ_ Q_) | (refine WV_eq (hgc' _ _ (by simp only [List.length_append, List.length_cons, List.length_nil]; omega)) ?_; refine hQ_ _ _ ?_; clear hQ_ Q_) | (refine WV_eq ((refCheckTest T _ (wf.X (Nat.le_add_right _ _))).trans (by rw [e0])) ?_; refine hQ_ _ _ ?_; clear hQ_ Q_) | (refine WV_eq ((refLines s ls _ (x.up _ _ (by simp only [List.length_append, List.length_cons, List.length_nil]; omega))).trans (by rw [hz])) ?_; refine hQ_ _ _ ?_; clear hQ_ Q_) | (refine WV_eq ((Reckoned T k s ls hk _ (x.up _ _ (by simp only [List.length_append, List.length_cons, List.length_nil]; omega))).trans (by rw [decide_eq_false hr])) ?_; refine hQ_ _ _ ?_; clear hQ_ Q_)))
  | (refine WC_cond fun K_ hK_ => ?_; simp (disch := omega) only [evT_tmp, upd_apply, WB_some, ↓reduceIte, reduceCtorEq, Nat.reduceEqDiff, Nat.reduceLT]; refine hK_ _ ?_; clear hK_ K_)))
          (refine endQ_ret _ _ rfl (ret1 (by decide)) ?_; simp only [upd_apply, ↓reduceIte, reduceCtorEq, Nat.reduceEqDiff]; refine WV_flat rfl (by omega) ?_)
          exact ⟨rfl, rfl⟩
      · rw [fin false ⟨fun q => (by cases q), fun q => absurd (linesErr_zero.2 q.l) hz⟩]
        (repeat' (first
  | (with_reducible first | refine WC_seq ?_ | refine WC_skip ?_ | refine WC_label ?_ | refine WC_scope ?_ | refine WC_block ?_ | refine WC_ret ?_ | refine WC_exit ?_ | refine seqQ_norm ?_ | refine seqQ_ret ?_ | refine seqQ_exit ?_ | refine blkQ_norm ?_ | refine blkQ_ret ?_ | refine blkQ_here ?_ | refine gateK_yes ?_ | refine gateK_none ?_ | refine condK_tt ?_ | refine condK_ff ?_ | refine roundQ_exit ?_ | refine roundQ_ret ?_)
  | refine WC_region ?_ | refine blkQ_out rfl ?_ | refine WO_nil ?_ | refine WD_nil ?_
  | ((first | refine WD_gate rfl rfl rfl rfl rfl fun K_ hK_ => ?_ | refine WO_gate rfl rfl rfl rfl rfl fun K_ hK_ => ?_); simp only [upd_apply, asB_bool, asB_tup, ↓reduceIte, reduceCtorEq, Nat.reduceEqDiff, Bool.not_true, Bool.not_false]; refine hK_ _ ?_; clear hK_ K_)
  | refine gateK_no (by decide) ?_
  | ((try first | refine WO_op rfl rfl rfl ?_ | refine WO_op0 rfl rfl ?_ | refine WD_op rfl rfl rfl ?_ | refine WD_op0 rfl rfl ?_); (refine WV_gen fun Q_ hQ_ => ?_; simp (disch := first | omega | (simp only [List.length_cons, List.length_nil, List.length_append]; omega)) only [bb, bp, argF, ↓reduceIte, reduceCtorEq, Nat.reduceEqDiff, Nat.reduceLT, Nat.reduceLeDiff, Nat.reduceAdd, Nat.reduceMul, Nat.reduceSub, Nat.reduceBEq, Int.reduceToNat, cond_true, cond_false, eq_self, beq_self_eq_true, newPtr_X wf, load1_X wf, loadAgg_X wf, store1_X wf, writeCells_X wf, makeFunc_def, tEvD21, bsl_22, bsl_43, bsl_51, bsl_96, bsl_105, newSlice_X wf]; first | (refine dec_split (Q := Q_) (fun hp_ => ?_) (fun hp_ => ?_) <;> first | (exfalso; omega) | (refine hQ_ _ _ ?_; clear hQ_ Q_)) | (refine dec_splitn (Q := Q_) (fun hp_ => ?_) (fun hp_ => ?_) <;> first | (exfalso; omega) | (refine hQ_ _ _ ?_; clear hQ_ Q_)) | (refine hQ_ _ _ ?_; clear hQ_ Q_) | (refine WV_eq (hgc' _ _ (by simp only [List.length_append, List.length_cons, List.length_nil]; omega)) ?_; refine hQ_ _ _ ?_; clear hQ_ Q_) | (refine WV_eq ((refCheckTest T _ (wf.X (Nat.le_add_right _ _))).trans (by rw [e0])) ?_; refine hQ_ _ _ ?_; clear hQ_ Q_) | (refine WV_eq (refLines s ls _ (x.up _ _ (by simp only [List.length_append, List.length_cons, List.length_nil]; omega))) ?_; refine hQ_ _ _ ?_; clear hQ_ Q_)))
  | (refine WC_cond fun K_ hK_ => ?_; simp (disch := omega) only [evT_tmp, upd_apply, WB_some, ↓reduceIte, reduceCtorEq, Nat.reduceEqDiff, Nat.reduceLT]; refine hK_ _ ?_; clear hK_ K_)))
        (refine endQ_ret _ _ rfl (ret1 (by decide)) ?_; simp only [upd_apply, ↓reduceIte, reduceCtorEq, Nat.reduceEqDiff]; refine WV_flat rfl (by omega) ?_)
        exact ⟨rfl, rfl⟩
    · have e0 := testErr_no k
      rw [fin false ⟨fun q => (by cases q), fun q => absurd q.k k⟩]
      (repeat' (first
  | (with_reducible first | refine WC_seq ?_ | refine WC_skip ?_ | refine WC_label ?_ | refine WC_scope ?_ | refine WC_block ?_ | refine WC_ret ?_ | refine WC_exit ?_ | refine seqQ_norm ?_ | refine seqQ_ret ?_ | refine seqQ_exit ?_ | refine blkQ_norm ?_ | refine blkQ_ret ?_ | refine blkQ_here ?_ | refine gateK_yes ?_ | refine gateK_none ?_ | refine condK_tt ?_ | refine condK_ff ?_ | refine roundQ_exit ?_ | refine roundQ_ret ?_)
  | refine WC_region ?_ | refine blkQ_out rfl ?_ | refine WO_nil ?_ | refine WD_nil ?_
  | ((first | refine WD_gate rfl rfl rfl rfl rfl fun K_ hK_ => ?_ | refine WO_gate rfl rfl rfl rfl rfl fun K_ hK_ => ?_); simp only [upd_apply, asB_bool, asB_tup, ↓reduceIte, reduceCtorEq, Nat.reduceEqDiff, Bool.not_true, Bool.not_false]; refine hK_ _ ?_; clear hK_ K_)
  | refine gateK_no (by decide) ?_
  | ((try first | refine WO_op rfl rfl rfl ?_ | refine WO_op0 rfl rfl ?_ | refine WD_op rfl rfl rfl ?_ | refine WD_op0 rfl rfl ?_); (refine WV_gen fun Q_ hQ_ => ?_; simp (disch := first | omega | (simp only [List.length_cons, List.length_nil, List.length_append]; omega)) only [bb, bp, argF, ↓reduceIte, reduceCtorEq, Nat.reduceEqDiff, Nat.reduceLT, Nat.reduceLeDiff, Nat.reduceAdd, Nat.reduceMul, Nat.reduceSub, Nat.reduceBEq, Int.reduceToNat, cond_true, cond_false, eq_self, beq_self_eq_true, newPtr_X wf, load1_X wf, loadAgg_X wf, store1_X wf, writeCells_X wf, makeFunc_def, tEvD21, bsl_22, bsl_43, bsl_51, bsl_96, bsl_105, newSlice_X wf]; first | (refine dec_split (Q := Q_) (fun hp_ => ?_) (fun hp_ => ?_) <;> first | (exfalso; omega) | (refine hQ_ _ _ ?_; clear hQ_ Q_)) | (refine dec_splitn (Q := Q_) (fun hp_ => ?_) (fun hp_ => ?_) <;> first | (exfalso; omega) | (refine hQ_ _ _ ?_; clear hQ_ Q_)) | (refine hQ_ _ _ ?_; clear hQ_ Q_) | (refine WV_eq (hgc' _ _ (by simp only [List.length_append, List.length_cons, List.length_nil]; omega)) ?_; refine hQ_ _ _ ?_; clear hQ_ Q_) | (refine WV_eq ((refCheckTest T _ (wf.X (Nat.le_add_right _ _))).trans (by rw [e0])) ?_; refine hQ_ _ _ ?_; clear hQ_ Q_)))
  | (refine WC_cond fun K_ hK_ => ?_; simp (disch := omega) only [evT_tmp, upd_apply, WB_some, ↓reduceIte, reduceCtorEq, Nat.reduceEqDiff, Nat.reduceLT]; refine hK_ _ ?_; clear hK_ K_)))
      (refine endQ_ret _ _ rfl (ret1 (by decide)) ?_; simp only [upd_apply, ↓reduceIte, reduceCtorEq, Nat.reduceEqDiff]; refine WV_flat rfl (by omega) ?_)
      exact ⟨rfl, rfl⟩
  · rw [fin false ⟨fun q => (by cases q), fun q => absurd (hg.1 rfl) q.g⟩]
    (repeat' (first
  | (with_reducible first | refine WC_seq ?_ | refine WC_skip ?_ | refine WC_label ?_ | refine WC_scope ?_ | refine WC_block ?_ | refine WC_ret ?_ | refine WC_exit ?_ | refine seqQ_norm ?_ | refine seqQ_ret ?_ | refine seqQ_exit ?_ | refine blkQ_norm ?_ | refine blkQ_ret ?_ | refine blkQ_here ?_ | refine gateK_yes ?_ | refine gateK_none ?_ | refine condK_tt ?_ | refine condK_ff ?_ | refine roundQ_exit ?_ | refine roundQ_ret ?_)
  | refine WC_region ?_ | refine blkQ_out rfl ?_ | refine WO_nil ?_ | refine WD_nil ?_
  | ((first | refine WD_gate rfl rfl rfl rfl rfl fun K_ hK_ => ?_ | refine WO_gate rfl rfl rfl rfl rfl fun K_ hK_ => ?_); simp only [upd_apply, asB_bool, asB_tup, ↓reduceIte, reduceCtorEq, Nat.reduceEqDiff, Bool.not_true, Bool.not_false]; refine hK_ _ ?_; clear hK_ K_)
  | refine gateK_no (by decide) ?_
  | ((try first | refine WO_op rfl rfl rfl ?_ | refine WO_op0 rfl rfl ?_ | refine WD_op rfl rfl rfl ?_ | refine WD_op0 rfl rfl ?_); (refine WV_gen fun Q_ hQ_ => ?_; simp (disch := first | omega | (simp only [List.length_cons, List.length_nil, List.length_append]; omega)) only [bb, bp, argF, ↓reduceIte, reduceCtorEq, Nat.reduceEqDiff, Nat.reduceLT, Nat.reduceLeDiff, Nat.reduceAdd, Nat.reduceMul, Nat.reduceSub, Nat.reduceBEq, Int.reduceToNat, cond_true, cond_false, eq_self, beq_self_eq_true, newPtr_X wf, load1_X wf, loadAgg_X wf, store1_X wf, writeCells_X wf, makeFunc_def, tEvD21, bsl_22, bsl_43, bsl_51, bsl_96, bsl_105, newSlice_X wf]; first | (refine dec_split (Q := Q_) (fun hp_ => ?_) (fun hp_ => ?_) <;> first | (exfalso; omega) | (refine hQ_ _ _ ?_; clear hQ_ Q_)) | (refine dec_splitn (Q := Q_) (fun hp_ => ?_) (fun hp_ => ?_) <;> first | (exfalso; omega) | (refine hQ_ _ _ ?_; clear hQ_ Q_)) | (refine hQ_ _ _ ?_; clear hQ_ Q_) | (refine WV_eq (hgc' _ _ (by simp only [List.length_append, List.length_cons, List.length_nil]; omega)) ?_; refine hQ_ _ _ ?_; clear hQ_ Q_)))
  | (refine WC_cond fun K_ hK_ => ?_; simp (disch := omega) only [evT_tmp, upd_apply, WB_some, ↓reduceIte, reduceCtorEq, Nat.reduceEqDiff, Nat.reduceLT]; refine hK_ _ ?_; clear hK_ K_)))
    (refine endQ_ret _ _ rfl (ret1 (by decide)) ?_; simp only [upd_apply, ↓reduceIte, reduceCtorEq, Nat.reduceEqDiff]; refine WV_flat rfl (by omega) ?_)
    exact ⟨rfl, rfl⟩

/-- A number of a range, by a number. -/
def pk (lo hi by' : Int) : Int := lo + by'.tmod (hi - lo + 1)
theorem pk_in {lo hi b : Int} (h : lo ≤ hi) (hb : 0 ≤ b) : lo ≤ pk lo hi b ∧ pk lo hi b ≤ hi := by
  have := tmod_in (a := b) (m := hi - lo + 1) hb (by omega)
  unfold pk; omega
theorem pick (lo hi n : Int) (h1 : 0 ≤ lo ∧ lo ≤ hi ∧ hi ≤ 1000000000) (hn : 0 ≤ n ∧ n ≤ 4294967295) (h : H) (wf : Wf h) : (om Try.prog KK).call (.fn 65 [.agg [ii lo, ii hi], .int .u32 n]) h = .ok (ii (pk lo hi n)) h := by
  have hm := tmod_in (a := n) (m := hi - lo + 1) hn.1 (by omega)
  have hz : hi - lo + 1 ≠ 0 := by omega
  unfold pk
  refine WV_to (WV_call (fn := Try.f65) Try.func65 rfl rfl rfl rfl rfl ?_)
  simp only [argF]
  (repeat' (first
  | (with_reducible first | refine WC_seq ?_ | refine WC_skip ?_ | refine WC_label ?_ | refine WC_scope ?_ | refine WC_block ?_ | refine WC_ret ?_ | refine WC_exit ?_ | refine seqQ_norm ?_ | refine seqQ_ret ?_ | refine seqQ_exit ?_ | refine blkQ_norm ?_ | refine blkQ_ret ?_ | refine blkQ_here ?_ | refine gateK_yes ?_ | refine gateK_none ?_ | refine condK_tt ?_ | refine condK_ff ?_ | refine roundQ_exit ?_ | refine roundQ_ret ?_)
  | refine WC_region ?_ | refine blkQ_out rfl ?_ | refine WO_nil ?_ | refine WD_nil ?_
  | ((first | refine WD_gate rfl rfl rfl rfl rfl fun K_ hK_ => ?_ | refine WO_gate rfl rfl rfl rfl rfl fun K_ hK_ => ?_); simp only [upd_apply, asB_bool, asB_tup, ↓reduceIte, reduceCtorEq, Nat.reduceEqDiff, Bool.not_true, Bool.not_false]; refine hK_ _ ?_; clear hK_ K_)
  | refine gateK_no (by decide) ?_
  | ((try first | refine WO_op rfl rfl rfl ?_ | refine WO_op0 rfl rfl ?_ | refine WD_op rfl rfl rfl ?_ | refine WD_op0 rfl rfl ?_); (refine WV_gen fun Q_ hQ_ => ?_; simp (disch := first | omega | (simp only [List.length_cons, List.length_nil, List.length_append]; omega)) only [bb, bp, argF, ↓reduceIte, reduceCtorEq, Nat.reduceEqDiff, Nat.reduceLT, Nat.reduceLeDiff, Nat.reduceAdd, Nat.reduceMul, Nat.reduceSub, Nat.reduceBEq, Int.reduceToNat, cond_true, cond_false, eq_self, beq_self_eq_true, newPtr_X wf, load1_X wf, loadAgg_X wf, store1_X wf, writeCells_X wf, makeFunc_def, tEvD21, bsl_22, bsl_43, bsl_51, bsl_96, bsl_105, newSlice_X wf]; first | (refine dec_split (Q := Q_) (fun hp_ => ?_) (fun hp_ => ?_) <;> first | (exfalso; omega) | (refine hQ_ _ _ ?_; clear hQ_ Q_)) | (refine dec_splitn (Q := Q_) (fun hp_ => ?_) (fun hp_ => ?_) <;> first | (exfalso; omega) | (refine hQ_ _ _ ?_; clear hQ_ Q_)) | (refine hQ_ _ _ ?_; clear hQ_ Q_)))
  | (refine WC_cond fun K_ hK_ => ?_; simp (disch := omega) only [evT_tmp, upd_apply, WB_some, ↓reduceIte, reduceCtorEq, Nat.reduceEqDiff, Nat.reduceLT]; refine hK_ _ ?_; clear hK_ K_)))
  refine WC_drawnB (List.replicate 11 .no ++ [.full, .full]) (by kernel_rfl) ?_
  (repeat' (first
  | (with_reducible first | refine WC_seq ?_ | refine WC_skip ?_ | refine WC_label ?_ | refine WC_scope ?_ | refine WC_block ?_ | refine WC_ret ?_ | refine WC_exit ?_ | refine seqQ_norm ?_ | refine seqQ_ret ?_ | refine seqQ_exit ?_ | refine blkQ_norm ?_ | refine blkQ_ret ?_ | refine blkQ_here ?_ | refine gateK_yes ?_ | refine gateK_none ?_ | refine condK_tt ?_ | refine condK_ff ?_ | refine roundQ_exit ?_ | refine roundQ_ret ?_)
  | refine WC_region ?_ | refine blkQ_out rfl ?_ | refine WO_nil ?_ | refine WD_nil ?_
  | ((first | refine WD_gate rfl rfl rfl rfl rfl fun K_ hK_ => ?_ | refine WO_gate rfl rfl rfl rfl rfl fun K_ hK_ => ?_); simp only [upd_apply, asB_bool, asB_tup, ↓reduceIte, reduceCtorEq, Nat.reduceEqDiff, Bool.not_true, Bool.not_false]; refine hK_ _ ?_; clear hK_ K_)
  | refine gateK_no (by decide) ?_
  | ((try first | refine WO_op rfl rfl rfl ?_ | refine WO_op0 rfl rfl ?_ | refine WD_op rfl rfl rfl ?_ | refine WD_op0 rfl rfl ?_); (refine WV_gen fun Q_ hQ_ => ?_; simp (disch := first | omega | (simp only [List.length_cons, List.length_nil, List.length_append]; omega)) only [bb, bp, argF, ↓reduceIte, reduceCtorEq, Nat.reduceEqDiff, Nat.reduceLT, Nat.reduceLeDiff, Nat.reduceAdd, Nat.reduceMul, Nat.reduceSub, Nat.reduceBEq, Int.reduceToNat, cond_true, cond_false, eq_self, beq_self_eq_true, conv_u32 hn, b_rem hz, newPtr_X wf, load1_X wf, loadAgg_X wf, store1_X wf, writeCells_X wf, makeFunc_def, tEvD21, bsl_22, bsl_43, bsl_51, bsl_96, bsl_105, newSlice_X wf]; first | (refine dec_split (Q := Q_) (fun hp_ => ?_) (fun hp_ => ?_) <;> first | (exfalso; omega) | (refine hQ_ _ _ ?_; clear hQ_ Q_)) | (refine dec_splitn (Q := Q_) (fun hp_ => ?_) (fun hp_ => ?_) <;> first | (exfalso; omega) | (refine hQ_ _ _ ?_; clear hQ_ Q_)) | (refine hQ_ _ _ ?_; clear hQ_ Q_)))
  | (refine WC_cond fun K_ hK_ => ?_; simp (disch := omega) only [evT_tmp, upd_apply, WB_some, ↓reduceIte, reduceCtorEq, Nat.reduceEqDiff, Nat.reduceLT]; refine hK_ _ ?_; clear hK_ K_)))
  (refine endQ_ret _ _ rfl (ret1 (by decide)) ?_; simp only [upd_apply, ↓reduceIte, reduceCtorEq, Nat.reduceEqDiff]; refine WV_flat rfl (by omega) ?_)
  exact ⟨rfl, rfl⟩
def pkT (T : Te) (x : Tr) : Tr := ⟨pk T.f0 T.f1 x.f, pk T.t0 T.t1 x.t, pk T.s0 T.s1 x.s, pk T.o0 T.o1 x.o, pk T.b0 T.b1 x.b, pk T.r0 T.r1 x.r⟩
structure U6 (x : Tr) : Prop where
  f : 0 ≤ x.f ∧ x.f ≤ 4294967295
  t : 0 ≤ x.t ∧ x.t ≤ 4294967295
  s : 0 ≤ x.s ∧ x.s ≤ 4294967295
  o : 0 ≤ x.o ∧ x.o ≤ 4294967295
  b : 0 ≤ x.b ∧ x.b ≤ 4294967295
  r : 0 ≤ x.r ∧ x.r ≤ 4294967295
theorem pkT_is {T : Te} (k : okT T) {x : Tr} (u : U6 x) : isT T (pkT T x) :=
  ⟨pk_in k.f.2.1 u.f.1, pk_in k.t.2.1 u.t.1, pk_in k.s.2.1 u.s.1, pk_in k.o.2.1 u.o.1, pk_in k.b.2.1 u.b.1, pk_in k.r.2.1 u.r.1⟩
theorem True6 (T : Te) (k : okT T) (x : Tr) (u : U6 x) (h : H) (wf : Wf h) : (om Try.prog KK).call (.fn 33 [.agg [ii T.sp, ii T.lo, ii T.we, ii T.al, ii T.f0, ii T.f1, ii T.t0, ii T.t1, ii T.s0, ii T.s1, ii T.o0, ii T.o1, ii T.b0, ii T.b1, ii T.r0, ii T.r1], .agg [.int .u32 x.f, .int .u32 x.t, .int .u32 x.s, .int .u32 x.o, .int .u32 x.b, .int .u32 x.r]]) h =
    .ok (.agg [ii (pk T.f0 T.f1 x.f), ii (pk T.t0 T.t1 x.t), ii (pk T.s0 T.s1 x.s), ii (pk T.o0 T.o1 x.o), ii (pk T.b0 T.b1 x.b), ii (pk T.r0 T.r1 x.r)]) h := by
  have kf := k.f
  have kt := k.t
  have ks := k.s
  have ko := k.o
  have kb := k.b
  have kr := k.r
  obtain ⟨uf, ut, us, uo, ub, ur⟩ := u
  have c1 : ∀ lo hi n, (0 ≤ lo ∧ lo ≤ hi ∧ hi ≤ 1000000000) → (0 ≤ n ∧ n ≤ 4294967295) → ∀ l w, w ≤ h.clock + l.length → (om Try.prog KK).call (.fn 65 [.agg [ii lo, ii hi], .int .u32 n]) (X h l w) = .ok (ii (pk lo hi n)) (X h l w) := fun lo hi n h1 hn l w hw => pick lo hi n h1 hn _ (wf.X hw)
  have d1 := c1 T.f0 T.f1 x.f ⟨by omega, by omega, by omega⟩ uf
  have d2 := c1 T.t0 T.t1 x.t ⟨by omega, by omega, by omega⟩ ut
  have d3 := c1 T.s0 T.s1 x.s ⟨by omega, by omega, by omega⟩ us
  have d4 := c1 T.o0 T.o1 x.o ⟨by omega, by omega, by omega⟩ uo
  have d5 := c1 T.b0 T.b1 x.b ⟨by omega, by omega, by omega⟩ ub
  have d6 := c1 T.r0 T.r1 x.r ⟨by omega, by omega, by omega⟩ ur
  refine WV_to (WV_call (fn := Try.f33) Try.func33 rfl rfl rfl rfl rfl ?_)
  simp only [argF]
  (repeat' (first
  | (with_reducible first | refine WC_seq ?_ | refine WC_skip ?_ | refine WC_label ?_ | refine WC_scope ?_ | refine WC_block ?_ | refine WC_ret ?_ | refine WC_exit ?_ | refine seqQ_norm ?_ | refine seqQ_ret ?_ | refine seqQ_exit ?_ | refine blkQ_norm ?_ | refine blkQ_ret ?_ | refine blkQ_here ?_ | refine gateK_yes ?_ | refine gateK_none ?_ | refine condK_tt ?_ | refine condK_ff ?_ | refine roundQ_exit ?_ | refine roundQ_ret ?_)
  | refine WC_region ?_ | refine blkQ_out rfl ?_ | refine WO_nil ?_ | refine WD_nil ?_
  | ((first | refine WD_gate rfl rfl rfl rfl rfl fun K_ hK_ => ?_ | refine WO_gate rfl rfl rfl rfl rfl fun K_ hK_ => ?_); simp only [upd_apply, asB_bool, asB_tup, ↓reduceIte, reduceCtorEq, Nat.reduceEqDiff, Bool.not_true, Bool.not_false]; refine hK_ _ ?_; clear hK_ K_)
  | refine gateK_no (by decide) ?_
  | ((try first | refine WO_op rfl rfl rfl ?_ | refine WO_op0 rfl rfl ?_ | refine WD_op rfl rfl rfl ?_ | refine WD_op0 rfl rfl ?_); (refine WV_gen fun Q_ hQ_ => ?_; simp (disch := first | omega | (simp only [List.length_cons, List.length_nil, List.length_append]; omega)) only [bb, bp, argF, ↓reduceIte, reduceCtorEq, Nat.reduceEqDiff, Nat.reduceLT, Nat.reduceLeDiff, Nat.reduceAdd, Nat.reduceMul, Nat.reduceSub, Nat.reduceBEq, Int.reduceToNat, cond_true, cond_false, eq_self, beq_self_eq_true, indexAddrE_def (P := Try.prog) (t := 56), ik_56, newPtr_X wf, load1_X wf, loadAgg_X wf, store1_X wf, writeCells_X wf, makeFunc_def, tEvD21, bsl_22, bsl_43, bsl_51, bsl_96, bsl_105, newSlice_X wf]; first | (refine dec_split (Q := Q_) (fun hp_ => ?_) (fun hp_ => ?_) <;> first | (exfalso; omega) | (refine hQ_ _ _ ?_; clear hQ_ Q_)) | (refine dec_splitn (Q := Q_) (fun hp_ => ?_) (fun hp_ => ?_) <;> first | (exfalso; omega) | (refine hQ_ _ _ ?_; clear hQ_ Q_)) | (refine hQ_ _ _ ?_; clear hQ_ Q_)))
  | (refine WC_cond fun K_ hK_ => ?_; simp (disch := omega) only [evT_tmp, upd_apply, WB_some, ↓reduceIte, reduceCtorEq, Nat.reduceEqDiff, Nat.reduceLT]; refine hK_ _ ?_; clear hK_ K_)))
  refine WC_drawnB (List.replicate 29 .no ++ [.full, .full, .full]) (by kernel_rfl) ?_
  (repeat' (first
  | (with_reducible first | refine WC_seq ?_ | refine WC_skip ?_ | refine WC_label ?_ | refine WC_scope ?_ | refine WC_block ?_ | refine WC_ret ?_ | refine WC_exit ?_ | refine seqQ_norm ?_ | refine seqQ_ret ?_ | refine seqQ_exit ?_ | refine blkQ_norm ?_ | refine blkQ_ret ?_ | refine blkQ_here ?_ | refine gateK_yes ?_ | refine gateK_none ?_ | refine condK_tt ?_ | refine condK_ff ?_ | refine roundQ_exit ?_ | refine roundQ_ret ?_)
  | refine WC_region ?_ | refine blkQ_out rfl ?_ | refine WO_nil ?_ | refine WD_nil ?_
  | ((first | refine WD_gate rfl rfl rfl rfl rfl fun K_ hK_ => ?_ | refine WO_gate rfl rfl rfl rfl rfl fun K_ hK_ => ?_); simp only [upd_apply, asB_bool, asB_tup, ↓reduceIte, reduceCtorEq, Nat.reduceEqDiff, Bool.not_true, Bool.not_false]; refine hK_ _ ?_; clear hK_ K_)
  | refine gateK_no (by decide) ?_
  | ((try first | refine WO_op rfl rfl rfl ?_ | refine WO_op0 rfl rfl ?_ | refine WD_op rfl rfl rfl ?_ | refine WD_op0 rfl rfl ?_); (refine WV_gen fun Q_ hQ_ => ?_; simp (disch := first | omega | (simp only [List.length_cons, List.length_nil, List.length_append]; omega)) only [bb, bp, argF, ↓reduceIte, reduceCtorEq, Nat.reduceEqDiff, Nat.reduceLT, Nat.reduceLeDiff, Nat.reduceAdd, Nat.reduceMul, Nat.reduceSub, Nat.reduceBEq, Int.reduceToNat, cond_true, cond_false, eq_self, beq_self_eq_true, indexAddrE_def (P := Try.prog) (t := 56), ik_56, d1, d2, d3, d4, d5, d6, newPtr_X wf, load1_X wf, loadAgg_X wf, store1_X wf, writeCells_X wf, makeFunc_def, tEvD21, bsl_22, bsl_43, bsl_51, bsl_96, bsl_105, newSlice_X wf]; first | (refine dec_split (Q := Q_) (fun hp_ => ?_) (fun hp_ => ?_) <;> first | (exfalso; omega) | (refine hQ_ _ _ ?_; clear hQ_ Q_)) | (refine dec_splitn (Q := Q_) (fun hp_ => ?_) (fun hp_ => ?_) <;> first | (exfalso; omega) | (refine hQ_ _ _ ?_; clear hQ_ Q_)) | (refine hQ_ _ _ ?_; clear hQ_ Q_)))
  | (refine WC_cond fun K_ hK_ => ?_; simp (disch := omega) only [evT_tmp, upd_apply, WB_some, ↓reduceIte, reduceCtorEq, Nat.reduceEqDiff, Nat.reduceLT]; refine hK_ _ ?_; clear hK_ K_)))
  refine endQ_ret _ _ rfl (retc0 (by decide) (by simp (disch := first | omega | (simp only [List.length_cons, List.length_nil, List.length_append]; omega)) only [bb, bp, argF, ↓reduceIte, reduceCtorEq, Nat.reduceEqDiff, Nat.reduceLT, Nat.reduceLeDiff, Nat.reduceAdd, Nat.reduceMul, Nat.reduceSub, Nat.reduceBEq, Int.reduceToNat, cond_true, cond_false, eq_self, beq_self_eq_true, loadAgg_X wf, tEvD21, bsl_22, bsl_43, bsl_51, bsl_96, bsl_105, newSlice_X wf]; rfl)) ?_
  refine WV_flat rfl (by omega) ?_
  exact ⟨rfl, rfl⟩
end Go.Proofs.Ythaleckfgcgegaa
end

/- EvD13 -/
section
/-
  LAYER 4: the law of ships.
-/
namespace Go.Proofs.Ythaleckfgcgegaa
open Go.Ev
set_option maxRecDepth 100000
set_option linter.unusedSimpArgs false
set_option linter.unusedVariables false
set_option maxHeartbeats 2000000
end Go.Proofs.Ythaleckfgcgegaa
end

/- EvD22 -/
section
/-
  LAYER 4: the same water.
-/
namespace Go.Proofs.Ythaleckfgcgegaa
open Go.Ev
set_option maxRecDepth 100000
set_option linter.unusedSimpArgs false
set_option linter.unusedVariables false
set_option maxHeartbeats 2000000
theorem tEvD22 : type_of% (And.intro (And.intro (And.intro (And.intro (And.intro (And.intro (And.intro (@bs_24) (@bs_33)) (And.intro (@bs_35) (And.intro (@bs_37) (@bs_67)))) (And.intro (And.intro (@bs_76) (And.intro (@bs_87) (@bs_98))) (And.intro (@bs_117) (And.intro (@ia_2) (@sz_2))))) (And.intro (And.intro (And.intro (@ia_3) (@sz_3)) (And.intro (@ia_4) (And.intro (@sz_4) (@ia_22)))) (And.intro (And.intro (@sz_22) (And.intro (@ia_24) (@sz_24))) (And.intro (@ia_27) (And.intro (@sz_27) (@ia_33)))))) (And.intro (And.intro (And.intro (And.intro (@sz_33) (@ia_35)) (And.intro (@sz_35) (And.intro (@ia_37) (@sz_37)))) (And.intro (And.intro (@ia_43) (And.intro (@sz_43) (@ia_51))) (And.intro (@sz_51) (And.intro (@ia_55) (@sz_55))))) (And.intro (And.intro (And.intro (@ia_56) (And.intro (@sz_56) (@ia_67))) (And.intro (@sz_67) (And.intro (@ia_69) (@sz_69)))) (And.intro (And.intro (@ia_70) (And.intro (@sz_70) (@ia_73))) (And.intro (@sz_73) (And.intro (@ia_74) (@sz_74))))))) (And.intro (And.intro (And.intro (And.intro (And.intro (@ia_76) (@sz_76)) (And.intro (@ia_78) (And.intro (@sz_78) (@ia_87)))) (And.intro (And.intro (@sz_87) (And.intro (@ia_89) (@sz_89))) (And.intro (@ia_96) (And.intro (@sz_96) (@ia_98))))) (And.intro (And.intro (And.intro (@sz_98) (@ia_101)) (And.intro (@sz_101) (And.intro (@ia_105) (@sz_105)))) (And.intro (And.intro (@ia_107) (And.intro (@sz_107) (@ia_113))) (And.intro (@sz_113) (And.intro (@ia_114) (@sz_114)))))) (And.intro (And.intro (And.intro (And.intro (@ia_117) (@sz_117)) (And.intro (@ia_119) (And.intro (@sz_119) (@ze_2)))) (And.intro (And.intro (@ze_3) (And.intro (@ze_4) (@ze_24))) (And.intro (@ze_27) (And.intro (@ze_33) (@ze_35))))) (And.intro (And.intro (And.intro (@ze_37) (And.intro (@ze_67) (@ze_69))) (And.intro (@ze_76) (And.intro (@ze_87) (@ze_98)))) (And.intro (And.intro (@ze_117) (And.intro (@fo_24_0) (@fo_24_1))) (And.intro (@fo_33_0) (And.intro (@fo_33_1) (@fo_35_0)))))))) (And.intro (And.intro (And.intro (And.intro (And.intro (And.intro (@fo_35_1) (@fo_35_2)) (And.intro (@fo_35_3) (And.intro (@fo_35_4) (@fo_35_5)))) (And.intro (And.intro (@fo_35_6) (And.intro (@fo_35_7) (@fo_35_8))) (And.intro (@fo_35_9) (And.intro (@fo_37_0) (@fo_37_1))))) (And.intro (And.intro (And.intro (@fo_37_2) (@fo_37_3)) (And.intro (@fo_37_4) (And.intro (@fo_37_5) (@fo_67_0)))) (And.intro (And.intro (@fo_76_0) (And.intro (@fo_76_1) (@fo_87_0))) (And.intro (@fo_87_1) (And.intro (@fo_87_2) (@fo_98_0)))))) (And.intro (And.intro (And.intro (And.intro (@fo_98_1) (@pb_13)) (And.intro (@pb_14) (And.intro (@pb_15) (@pb_16)))) (And.intro (And.intro (@pb_17) (And.intro (@pb_18) (@pb_19))) (And.intro (@pb_20) (And.intro (@pb_21) (@pb_22))))) (And.intro (And.intro (And.intro (@pb_23) (And.intro (@pb_24) (@pb_25))) (And.intro (@pb_26) (And.intro (@pb_27) (@pb_28)))) (And.intro (And.intro (@pb_29) (And.intro (@pb_30) (@pb_31))) (And.intro (@pb_32) (And.intro (@pb_33) (@pb_34))))))) (And.intro (And.intro (And.intro (And.intro (And.intro (@pb_35) (@pb_36)) (And.intro (@pb_37) (And.intro (@pb_38) (@pb_39)))) (And.intro (And.intro (@pb_40) (And.intro (@pb_41) (@pb_42))) (And.intro (@pb_43) (And.intro (@pb_44) (@pb_45))))) (And.intro (And.intro (And.intro (@pb_46) (@pb_47)) (And.intro (@pb_48) (And.intro (@pb_49) (@pb_50)))) (And.intro (And.intro (@pb_51) (And.intro (@pb_52) (@pb_53))) (And.intro (@pb_54) (And.intro (@pb_55) (@pb_56)))))) (And.intro (And.intro (And.intro (And.intro (@pb_57) (@pb_58)) (And.intro (@pb_59) (And.intro (@pb_60) (@pb_61)))) (And.intro (And.intro (@pb_62) (And.intro (@pb_63) (@pb_64))) (And.intro (@pb_65) (And.intro (@pb_66) (@pb_67))))) (And.intro (And.intro (And.intro (@pb_68) (And.intro (@pb_69) (@pb_70))) (And.intro (@pb_71) (And.intro (@pb_72) (@pb_73)))) (And.intro (And.intro (@pb_74) (And.intro (@pb_75) (@pb_76))) (And.intro (@pb_77) (And.intro (@pb_78) (@pb_79))))))))) := And.intro (And.intro (And.intro (And.intro (And.intro (And.intro (And.intro (@bs_24) (@bs_33)) (And.intro (@bs_35) (And.intro (@bs_37) (@bs_67)))) (And.intro (And.intro (@bs_76) (And.intro (@bs_87) (@bs_98))) (And.intro (@bs_117) (And.intro (@ia_2) (@sz_2))))) (And.intro (And.intro (And.intro (@ia_3) (@sz_3)) (And.intro (@ia_4) (And.intro (@sz_4) (@ia_22)))) (And.intro (And.intro (@sz_22) (And.intro (@ia_24) (@sz_24))) (And.intro (@ia_27) (And.intro (@sz_27) (@ia_33)))))) (And.intro (And.intro (And.intro (And.intro (@sz_33) (@ia_35)) (And.intro (@sz_35) (And.intro (@ia_37) (@sz_37)))) (And.intro (And.intro (@ia_43) (And.intro (@sz_43) (@ia_51))) (And.intro (@sz_51) (And.intro (@ia_55) (@sz_55))))) (And.intro (And.intro (And.intro (@ia_56) (And.intro (@sz_56) (@ia_67))) (And.intro (@sz_67) (And.intro (@ia_69) (@sz_69)))) (And.intro (And.intro (@ia_70) (And.intro (@sz_70) (@ia_73))) (And.intro (@sz_73) (And.intro (@ia_74) (@sz_74))))))) (And.intro (And.intro (And.intro (And.intro (And.intro (@ia_76) (@sz_76)) (And.intro (@ia_78) (And.intro (@sz_78) (@ia_87)))) (And.intro (And.intro (@sz_87) (And.intro (@ia_89) (@sz_89))) (And.intro (@ia_96) (And.intro (@sz_96) (@ia_98))))) (And.intro (And.intro (And.intro (@sz_98) (@ia_101)) (And.intro (@sz_101) (And.intro (@ia_105) (@sz_105)))) (And.intro (And.intro (@ia_107) (And.intro (@sz_107) (@ia_113))) (And.intro (@sz_113) (And.intro (@ia_114) (@sz_114)))))) (And.intro (And.intro (And.intro (And.intro (@ia_117) (@sz_117)) (And.intro (@ia_119) (And.intro (@sz_119) (@ze_2)))) (And.intro (And.intro (@ze_3) (And.intro (@ze_4) (@ze_24))) (And.intro (@ze_27) (And.intro (@ze_33) (@ze_35))))) (And.intro (And.intro (And.intro (@ze_37) (And.intro (@ze_67) (@ze_69))) (And.intro (@ze_76) (And.intro (@ze_87) (@ze_98)))) (And.intro (And.intro (@ze_117) (And.intro (@fo_24_0) (@fo_24_1))) (And.intro (@fo_33_0) (And.intro (@fo_33_1) (@fo_35_0)))))))) (And.intro (And.intro (And.intro (And.intro (And.intro (And.intro (@fo_35_1) (@fo_35_2)) (And.intro (@fo_35_3) (And.intro (@fo_35_4) (@fo_35_5)))) (And.intro (And.intro (@fo_35_6) (And.intro (@fo_35_7) (@fo_35_8))) (And.intro (@fo_35_9) (And.intro (@fo_37_0) (@fo_37_1))))) (And.intro (And.intro (And.intro (@fo_37_2) (@fo_37_3)) (And.intro (@fo_37_4) (And.intro (@fo_37_5) (@fo_67_0)))) (And.intro (And.intro (@fo_76_0) (And.intro (@fo_76_1) (@fo_87_0))) (And.intro (@fo_87_1) (And.intro (@fo_87_2) (@fo_98_0)))))) (And.intro (And.intro (And.intro (And.intro (@fo_98_1) (@pb_13)) (And.intro (@pb_14) (And.intro (@pb_15) (@pb_16)))) (And.intro (And.intro (@pb_17) (And.intro (@pb_18) (@pb_19))) (And.intro (@pb_20) (And.intro (@pb_21) (@pb_22))))) (And.intro (And.intro (And.intro (@pb_23) (And.intro (@pb_24) (@pb_25))) (And.intro (@pb_26) (And.intro (@pb_27) (@pb_28)))) (And.intro (And.intro (@pb_29) (And.intro (@pb_30) (@pb_31))) (And.intro (@pb_32) (And.intro (@pb_33) (@pb_34))))))) (And.intro (And.intro (And.intro (And.intro (And.intro (@pb_35) (@pb_36)) (And.intro (@pb_37) (And.intro (@pb_38) (@pb_39)))) (And.intro (And.intro (@pb_40) (And.intro (@pb_41) (@pb_42))) (And.intro (@pb_43) (And.intro (@pb_44) (@pb_45))))) (And.intro (And.intro (And.intro (@pb_46) (@pb_47)) (And.intro (@pb_48) (And.intro (@pb_49) (@pb_50)))) (And.intro (And.intro (@pb_51) (And.intro (@pb_52) (@pb_53))) (And.intro (@pb_54) (And.intro (@pb_55) (@pb_56)))))) (And.intro (And.intro (And.intro (And.intro (@pb_57) (@pb_58)) (And.intro (@pb_59) (And.intro (@pb_60) (@pb_61)))) (And.intro (And.intro (@pb_62) (And.intro (@pb_63) (@pb_64))) (And.intro (@pb_65) (And.intro (@pb_66) (@pb_67))))) (And.intro (And.intro (And.intro (@pb_68) (And.intro (@pb_69) (@pb_70))) (And.intro (@pb_71) (And.intro (@pb_72) (@pb_73)))) (And.intro (And.intro (@pb_74) (And.intro (@pb_75) (@pb_76))) (And.intro (@pb_77) (And.intro (@pb_78) (@pb_79))))))))
theorem fineT (T : Te) (s : AV) (ls : List Ln) (hf : Fine T ls) (h : H) (x : LinesR h s ls) : (om Try.prog KK).call (.fn 32 [.agg [ii T.sp, ii T.lo, ii T.we, ii T.al, ii T.f0, ii T.f1, ii T.t0, ii T.t1, ii T.s0, ii T.s1, ii T.o0, ii T.o1, ii T.b0, ii T.b1, ii T.r0, ii T.r1], s]) h = .ok (.bool true) h := by
  obtain ⟨t, ht, hc⟩ := fine T s ls h x
  rw [hc, ht.2 hf]
theorem fineF (T : Te) (s : AV) (ls : List Ln) (hf : ¬ Fine T ls) (h : H) (x : LinesR h s ls) : (om Try.prog KK).call (.fn 32 [.agg [ii T.sp, ii T.lo, ii T.we, ii T.al, ii T.f0, ii T.f1, ii T.t0, ii T.t1, ii T.s0, ii T.s1, ii T.o0, ii T.o1, ii T.b0, ii T.b1, ii T.r0, ii T.r1], s]) h = .ok (.bool false) h := by
  obtain ⟨t, ht, hc⟩ := fine T s ls h x
  rw [hc]
  cases t
  · rfl
  · exact absurd (ht.1 rfl) hf
theorem Fine.e {T : Te} {ls : List Ln} (f : Fine T ls) : reckErr T ls = 0 := reck4 f.k (linesErr_zero.2 f.l) f.r
theorem spanOK {T : Te} {ls : List Ln} (f : Fine T ls) (s : AV) (h : H) (x : LinesR h s ls) : (om Try.prog KK).call (.fn 27 [.agg [ii T.sp, ii T.lo, ii T.we, ii T.al, ii T.f0, ii T.f1, ii T.t0, ii T.t1, ii T.s0, ii T.s1, ii T.o0, ii T.o1, ii T.b0, ii T.b1, ii T.r0, ii T.r1], s]) h = .ok (.tup [.agg [ii (spanV T ls false), ii (spanV T ls true)], ii 0]) h := by
  rw [Span T s ls h x, f.e, show spanErrA T ls false = _ from if_pos f.e, show spanErrA T ls true = _ from if_pos f.e]
theorem shipOK {T : Te} {ls : List Ln} (f : Fine T ls) {l : Ln} (hl : l ∈ ls) {x : Tr} (kx : isT T x) : shipErr T l.re l.cf x = 0 ∧ shipVal T l.re l.cf x = coef T l.re l.cf x :=
  ship5 f.k (lineErr_zero.2 (f.l.ok _ hl)) kx (inAll_of f.k (f.r _ hl) kx)
/-- A line on its own. -/
theorem LineR.alone {h : H} {a b : AV} {re cf : List Int} (x : LineR h a b re cf) {L : List AO} {w k e : Nat} (hw : w ≤ h.clock + L.length) (hk : L[k]? = some (.cells (mkCells [a, b]) e)) : LinesR (X h L w) (.sl (nx h k) 0 1 (some 1) 2) [⟨a, b, re, cf⟩] :=
  ⟨x.wf.X hw, Sl.new x.wf rfl hk, fun l hl => by rw [List.mem_singleton.1 hl]; exact x.up L w hw⟩
theorem sh_one {T : Te} (h : T.al = 1) (t : Int) : sh T t = mo T t := by unfold sh mo; rw [h, Int.mul_one, Int.mul_one, Int.mul_one]

theorem lawSame (T : Te) (a b : AV) (re cf : List Int) (x : Tr) (u : U6 x) (h : H) (y : LineR h a b re cf) : (om Try.prog KK).call (.fn 11 [.agg [ii T.sp, ii T.lo, ii T.we, ii T.al, ii T.f0, ii T.f1, ii T.t0, ii T.t1, ii T.s0, ii T.s1, ii T.o0, ii T.o1, ii T.b0, ii T.b1, ii T.r0, ii T.r1], .agg [a, b], .agg [.int .u32 x.f, .int .u32 x.t, .int .u32 x.s, .int .u32 x.o, .int .u32 x.b, .int .u32 x.r]]) h = .ok (.bool true) h := by
  have wf := y.wf
  obtain ⟨⟨fa, fa'⟩, ⟨fb, fb'⟩⟩ := y.flats
  have ls1 : ∀ (c0 c1 c2 c3 : AO) (R : List AO) (w : Nat), w ≤ h.clock + (R.length + 1 + 1 + 1 + 1 + 1) → LinesR (X h (c0 :: c1 :: c2 :: c3 :: .cells (mkCells [a, b]) 24 :: R) w) (.sl (nx h 4) 0 1 (some 1) 2) [⟨a, b, re, cf⟩] := fun c0 c1 c2 c3 R w hw => y.alone (k := 4) (e := 24) hw rfl
  have ls2 : ∀ (c0 c1 c2 c3 c4 c5 : AO) (w : Nat), w ≤ h.clock + 7 → LinesR (X h [c0, c1, c2, c3, c4, c5, .cells (mkCells [a, b]) 24] w) (.sl (nx h 6) 0 1 (some 1) 2) [⟨a, b, re, cf⟩] := fun c0 c1 c2 c3 c4 c5 w hw => y.alone (k := 6) (e := 24) hw rfl
  refine WV_to (WV_call (fn := Try.f11) Try.func11 rfl rfl rfl rfl rfl ?_)
  simp only [argF]
  by_cases hg : 20 < re.length ∨ 20 < cf.length
  · have hgd : decide (20 < re.length ∨ 20 < cf.length) = true := decide_eq_true hg
    (repeat' (first
  | (with_reducible first | refine WC_seq ?_ | refine WC_skip ?_ | refine WC_label ?_ | refine WC_scope ?_ | refine WC_block ?_ | refine WC_ret ?_ | refine WC_exit ?_ | refine seqQ_norm ?_ | refine seqQ_ret ?_ | refine seqQ_exit ?_ | refine blkQ_norm ?_ | refine blkQ_ret ?_ | refine blkQ_here ?_ | refine gateK_yes ?_ | refine gateK_none ?_ | refine condK_tt ?_ | refine condK_ff ?_ | refine roundQ_exit ?_ | refine roundQ_ret ?_)
  | refine WC_region ?_ | refine blkQ_out rfl ?_ | refine WO_nil ?_ | refine WD_nil ?_
  | ((first | refine WD_gate rfl rfl rfl rfl rfl fun K_ hK_ => ?_ | refine WO_gate rfl rfl rfl rfl rfl fun K_ hK_ => ?_); simp only [upd_apply, asB_bool, asB_tup, ↓reduceIte, reduceCtorEq, Nat.reduceEqDiff, Bool.not_true, Bool.not_false]; refine hK_ _ ?_; clear hK_ K_)
  | refine gateK_no (by decide) ?_
  | ((try first | refine WO_op rfl rfl rfl ?_ | refine WO_op0 rfl rfl ?_ | refine WD_op rfl rfl rfl ?_ | refine WD_op0 rfl rfl ?_); (refine WV_gen fun Q_ hQ_ => ?_; simp (disch := first | omega | (simp only [List.length_cons, List.length_nil, List.length_append]; omega)) only [bb, bp, argF, ↓reduceIte, reduceCtorEq, Nat.reduceEqDiff, Nat.reduceLT, Nat.reduceLeDiff, Nat.reduceAdd, Nat.reduceMul, Nat.reduceSub, Nat.reduceBEq, Int.reduceToNat, cond_true, cond_false, eq_self, beq_self_eq_true, fa, fb, fa', fb', newPtr_X wf, load1_X wf, loadAgg_X wf, store1_X wf, writeCells_X wf, makeFunc_def, tEvD22, bsl_22, bsl_43, bsl_51, bsl_96, bsl_105, newSlice_X wf]; first | (refine dec_split (Q := Q_) (fun hp_ => ?_) (fun hp_ => ?_) <;> first | (exfalso; omega) | (refine hQ_ _ _ ?_; clear hQ_ Q_)) | (refine dec_splitn (Q := Q_) (fun hp_ => ?_) (fun hp_ => ?_) <;> first | (exfalso; omega) | (refine hQ_ _ _ ?_; clear hQ_ Q_)) | (refine hQ_ _ _ ?_; clear hQ_ Q_) | (refine WV_eq ((great a b re cf _ (y.up _ _ (by simp only [List.length_append, List.length_cons, List.length_nil]; omega))).trans (by rw [hgd])) ?_; refine hQ_ _ _ ?_; clear hQ_ Q_) | (refine WV_eq (works _) ?_; refine hQ_ _ _ ?_; clear hQ_ Q_)))
  | (refine WC_cond fun K_ hK_ => ?_; simp (disch := omega) only [evT_tmp, upd_apply, WB_some, ↓reduceIte, reduceCtorEq, Nat.reduceEqDiff, Nat.reduceLT]; refine hK_ _ ?_; clear hK_ K_)))
    (refine endQ_ret _ _ rfl (ret1 (by decide)) ?_; simp only [upd_apply, ↓reduceIte, reduceCtorEq, Nat.reduceEqDiff]; refine WV_flat rfl (by omega) ?_)
    exact ⟨rfl, rfl⟩
  have hgd : decide (20 < re.length ∨ 20 < cf.length) = false := decide_eq_false hg
  by_cases hf : Fine ⟨T.sp, T.lo, T.we, 1, T.f0, T.f1, T.t0, T.t1, T.t0, T.t1, T.o0, T.o1, 0, 0, 0, 0⟩ [⟨a, b, re, cf⟩]
  · have hS := fun c0 c1 c2 c3 R w hw => fineT _ _ _ hf _ (ls1 c0 c1 c2 c3 R w hw)
    have k := hf.k
    have kT := True6 _ k x u
    have kx := pkT_is k u
    have kx2 : isT ⟨T.sp, T.lo, T.we, 1, T.f0, T.f1, T.t0, T.t1, T.t0, T.t1, T.o0, T.o1, 0, 0, 0, 0⟩ ⟨pk T.f0 T.f1 x.f, pk T.t0 T.t1 x.t, pk T.t0 T.t1 x.t, pk T.o0 T.o1 x.o, pk 0 0 x.b, pk 0 0 x.r⟩ := ⟨kx.f, kx.t, kx.t, kx.o, kx.b, kx.r⟩
    obtain ⟨s1, s2⟩ := shipOK hf (List.mem_singleton.2 rfl) kx2
    have hbox := span_box k hf.l hf.r (List.mem_singleton.2 rfl) kx2
    have kf1 : T.f0 ≤ pk T.f0 T.f1 x.f ∧ pk T.f0 T.f1 x.f ≤ T.f1 := kx.f
    have kf2 : 0 ≤ T.f0 ∧ T.f0 ≤ T.f1 ∧ T.f1 ≤ 100000000 := k.f
    have hm := meas_in k (f := pk T.f0 T.f1 x.f) (by omega)
    have hsame : coef ⟨T.sp, T.lo, T.we, 1, T.f0, T.f1, T.t0, T.t1, T.t0, T.t1, T.o0, T.o1, 0, 0, 0, 0⟩ re cf ⟨pk T.f0 T.f1 x.f, pk T.t0 T.t1 x.t, pk T.t0 T.t1 x.t, pk T.o0 T.o1 x.o, pk 0 0 x.b, pk 0 0 x.r⟩ = meas ⟨T.sp, T.lo, T.we, 1, T.f0, T.f1, T.t0, T.t1, T.t0, T.t1, T.o0, T.o1, 0, 0, 0, 0⟩ (pk T.f0 T.f1 x.f) := by
      have hb := kx2.b
      have hr := kx2.r
      unfold coef
      rw [sh_one rfl]
      simp only at hb hr ⊢
      have e1 : pk 0 0 x.b = 0 := by omega
      have e2 : pk 0 0 x.r = 0 := by omega
      rw [e1, e2, show (1000 : Int) - 0 = 1000 from rfl, Int.mul_ediv_cancel _ (by decide)]
      omega
    have mC : ∀ l w, w ≤ h.clock + l.length → (om Try.prog KK).call (.fn 34 [.agg [ii T.sp, ii T.lo, ii T.we, ii 1, ii T.f0, ii T.f1, ii T.t0, ii T.t1, ii T.t0, ii T.t1, ii T.o0, ii T.o1, ii 0, ii 0, ii 0, ii 0], ii (pk T.f0 T.f1 x.f)]) (X h l w) = .ok (ii (meas ⟨T.sp, T.lo, T.we, 1, T.f0, T.f1, T.t0, T.t1, T.t0, T.t1, T.o0, T.o1, 0, 0, 0, 0⟩ (pk T.f0 T.f1 x.f))) (X h l w) := fun l w hw => Measured _ k _ ⟨by omega, by omega⟩ _ (wf.X hw)
    have sC := fun l w hw => (Ship ⟨T.sp, T.lo, T.we, 1, T.f0, T.f1, T.t0, T.t1, T.t0, T.t1, T.o0, T.o1, 0, 0, 0, 0⟩ a b re cf ⟨pk T.f0 T.f1 x.f, pk T.t0 T.t1 x.t, pk T.t0 T.t1 x.t, pk T.o0 T.o1 x.o, pk 0 0 x.b, pk 0 0 x.r⟩ _ (y.up l w hw)).trans (by rw [s1, s2, hsame])
    have pC := fun c0 c1 c2 c3 c4 c5 w hw => spanOK hf _ _ (ls2 c0 c1 c2 c3 c4 c5 w hw)
    rw [hsame] at hbox
    generalize meas ⟨T.sp, T.lo, T.we, 1, T.f0, T.f1, T.t0, T.t1, T.t0, T.t1, T.o0, T.o1, 0, 0, 0, 0⟩ (pk T.f0 T.f1 x.f) = M at *
    generalize spanV ⟨T.sp, T.lo, T.we, 1, T.f0, T.f1, T.t0, T.t1, T.t0, T.t1, T.o0, T.o1, 0, 0, 0, 0⟩ [⟨a, b, re, cf⟩] false = S0 at *
    generalize spanV ⟨T.sp, T.lo, T.we, 1, T.f0, T.f1, T.t0, T.t1, T.t0, T.t1, T.o0, T.o1, 0, 0, 0, 0⟩ [⟨a, b, re, cf⟩] true = S1 at *
    (repeat' (first
  | (with_reducible first | refine WC_seq ?_ | refine WC_skip ?_ | refine WC_label ?_ | refine WC_scope ?_ | refine WC_block ?_ | refine WC_ret ?_ | refine WC_exit ?_ | refine seqQ_norm ?_ | refine seqQ_ret ?_ | refine seqQ_exit ?_ | refine blkQ_norm ?_ | refine blkQ_ret ?_ | refine blkQ_here ?_ | refine gateK_yes ?_ | refine gateK_none ?_ | refine condK_tt ?_ | refine condK_ff ?_ | refine roundQ_exit ?_ | refine roundQ_ret ?_)
  | refine WC_region ?_ | refine blkQ_out rfl ?_ | refine WO_nil ?_ | refine WD_nil ?_
  | ((first | refine WD_gate rfl rfl rfl rfl rfl fun K_ hK_ => ?_ | refine WO_gate rfl rfl rfl rfl rfl fun K_ hK_ => ?_); simp only [upd_apply, asB_bool, asB_tup, ↓reduceIte, reduceCtorEq, Nat.reduceEqDiff, Bool.not_true, Bool.not_false]; refine hK_ _ ?_; clear hK_ K_)
  | refine gateK_no (by decide) ?_
  | ((try first | refine WO_op rfl rfl rfl ?_ | refine WO_op0 rfl rfl ?_ | refine WD_op rfl rfl rfl ?_ | refine WD_op0 rfl rfl ?_); (refine WV_gen fun Q_ hQ_ => ?_; simp (disch := first | omega | (simp only [List.length_cons, List.length_nil, List.length_append]; omega)) only [bb, bp, argF, ↓reduceIte, reduceCtorEq, Nat.reduceEqDiff, Nat.reduceLT, Nat.reduceLeDiff, Nat.reduceAdd, Nat.reduceMul, Nat.reduceSub, Nat.reduceBEq, Int.reduceToNat, cond_true, cond_false, eq_self, beq_self_eq_true, fa, fb, fa', fb', newPtr_X wf, load1_X wf, loadAgg_X wf, store1_X wf, writeCells_X wf, makeFunc_def, tEvD22, bsl_22, bsl_43, bsl_51, bsl_96, bsl_105, newSlice_X wf]; first | (refine dec_split (Q := Q_) (fun hp_ => ?_) (fun hp_ => ?_) <;> first | (exfalso; omega) | (refine hQ_ _ _ ?_; clear hQ_ Q_)) | (refine dec_splitn (Q := Q_) (fun hp_ => ?_) (fun hp_ => ?_) <;> first | (exfalso; omega) | (refine hQ_ _ _ ?_; clear hQ_ Q_)) | (refine hQ_ _ _ ?_; clear hQ_ Q_) | (refine WV_eq ((great a b re cf _ (y.up _ _ (by simp only [List.length_append, List.length_cons, List.length_nil]; omega))).trans (by rw [hgd])) ?_; refine hQ_ _ _ ?_; clear hQ_ Q_) | (refine WV_eq (hS _ _ _ _ _ _ (by simp only [List.length_append, List.length_cons, List.length_nil]; omega)) ?_; refine hQ_ _ _ ?_; clear hQ_ Q_) | (refine WV_eq (kT _ (wf.X (Nat.le_add_right _ _))) ?_; refine hQ_ _ _ ?_; clear hQ_ Q_) | (refine WV_eq (sC _ _ (by simp only [List.length_append, List.length_cons, List.length_nil]; omega)) ?_; refine hQ_ _ _ ?_; clear hQ_ Q_) | (refine WV_eq (pC _ _ _ _ _ _ _ (by omega)) ?_; refine hQ_ _ _ ?_; clear hQ_ Q_) | (refine WV_eq (mC _ _ (by simp only [List.length_append, List.length_cons, List.length_nil]; omega)) ?_; refine hQ_ _ _ ?_; clear hQ_ Q_) | (refine WV_eq (works _) ?_; refine hQ_ _ _ ?_; clear hQ_ Q_)))
  | (refine WC_cond fun K_ hK_ => ?_; simp (disch := omega) only [evT_tmp, upd_apply, WB_some, ↓reduceIte, reduceCtorEq, Nat.reduceEqDiff, Nat.reduceLT]; refine hK_ _ ?_; clear hK_ K_)))
    (refine endQ_ret _ _ rfl (ret1 (by decide)) ?_; simp only [upd_apply, ↓reduceIte, reduceCtorEq, Nat.reduceEqDiff]; refine WV_flat rfl (by omega) ?_)
    exact ⟨rfl, rfl⟩
  · have hS := fun c0 c1 c2 c3 R w hw => fineF _ _ _ hf _ (ls1 c0 c1 c2 c3 R w hw)
    (repeat' (first
  | (with_reducible first | refine WC_seq ?_ | refine WC_skip ?_ | refine WC_label ?_ | refine WC_scope ?_ | refine WC_block ?_ | refine WC_ret ?_ | refine WC_exit ?_ | refine seqQ_norm ?_ | refine seqQ_ret ?_ | refine seqQ_exit ?_ | refine blkQ_norm ?_ | refine blkQ_ret ?_ | refine blkQ_here ?_ | refine gateK_yes ?_ | refine gateK_none ?_ | refine condK_tt ?_ | refine condK_ff ?_ | refine roundQ_exit ?_ | refine roundQ_ret ?_)
  | refine WC_region ?_ | refine blkQ_out rfl ?_ | refine WO_nil ?_ | refine WD_nil ?_
  | ((first | refine WD_gate rfl rfl rfl rfl rfl fun K_ hK_ => ?_ | refine WO_gate rfl rfl rfl rfl rfl fun K_ hK_ => ?_); simp only [upd_apply, asB_bool, asB_tup, ↓reduceIte, reduceCtorEq, Nat.reduceEqDiff, Bool.not_true, Bool.not_false]; refine hK_ _ ?_; clear hK_ K_)
  | refine gateK_no (by decide) ?_
  | ((try first | refine WO_op rfl rfl rfl ?_ | refine WO_op0 rfl rfl ?_ | refine WD_op rfl rfl rfl ?_ | refine WD_op0 rfl rfl ?_); (refine WV_gen fun Q_ hQ_ => ?_; simp (disch := first | omega | (simp only [List.length_cons, List.length_nil, List.length_append]; omega)) only [bb, bp, argF, ↓reduceIte, reduceCtorEq, Nat.reduceEqDiff, Nat.reduceLT, Nat.reduceLeDiff, Nat.reduceAdd, Nat.reduceMul, Nat.reduceSub, Nat.reduceBEq, Int.reduceToNat, cond_true, cond_false, eq_self, beq_self_eq_true, fa, fb, fa', fb', newPtr_X wf, load1_X wf, loadAgg_X wf, store1_X wf, writeCells_X wf, makeFunc_def, tEvD22, bsl_22, bsl_43, bsl_51, bsl_96, bsl_105, newSlice_X wf]; first | (refine dec_split (Q := Q_) (fun hp_ => ?_) (fun hp_ => ?_) <;> first | (exfalso; omega) | (refine hQ_ _ _ ?_; clear hQ_ Q_)) | (refine dec_splitn (Q := Q_) (fun hp_ => ?_) (fun hp_ => ?_) <;> first | (exfalso; omega) | (refine hQ_ _ _ ?_; clear hQ_ Q_)) | (refine hQ_ _ _ ?_; clear hQ_ Q_) | (refine WV_eq ((great a b re cf _ (y.up _ _ (by simp only [List.length_append, List.length_cons, List.length_nil]; omega))).trans (by rw [hgd])) ?_; refine hQ_ _ _ ?_; clear hQ_ Q_) | (refine WV_eq (hS _ _ _ _ _ _ (by simp only [List.length_append, List.length_cons, List.length_nil]; omega)) ?_; refine hQ_ _ _ ?_; clear hQ_ Q_) | (refine WV_eq (works _) ?_; refine hQ_ _ _ ?_; clear hQ_ Q_)))
  | (refine WC_cond fun K_ hK_ => ?_; simp (disch := omega) only [evT_tmp, upd_apply, WB_some, ↓reduceIte, reduceCtorEq, Nat.reduceEqDiff, Nat.reduceLT]; refine hK_ _ ?_; clear hK_ K_)))
    (refine endQ_ret _ _ rfl (ret1 (by decide)) ?_; simp only [upd_apply, ↓reduceIte, reduceCtorEq, Nat.reduceEqDiff]; refine WV_flat rfl (by omega) ?_)
    exact ⟨rfl, rfl⟩
end Go.Proofs.Ythaleckfgcgegaa
end

/- EvDc4 -/
section
/- The statement DragSame of layer 4: in the same water, with neither Block nor Rough, the coefficient of the ship is the one that was measured, by any line and form, for all tests, lines and truths by numbers; no condition. -/
namespace Go.Proofs.Ythaleckfgcgegaa.dragSame
open Go.ChangeShapes Go.WideShapes Go.ChangeAt Go.RowKit Go.Ev
set_option maxRecDepth 100000
set_option maxHeartbeats 0

theorem contract (H : Type) (enc : TypeId × Value → H) (W : World) (base : Nat) (args : Array Value) (ds gs : List (DataW H)) (before : List MemPlace) (hval : ∀ (j : Nat) t v, Try.f11.params[j]? = some t → args[j]? = some v → Value.okWide Try.prog W .any base t v)
    (hW : DataW.Whole enc Try.prog Try.f11.params.toList Rows.dragSameSpec.vars false W args.toList ds gs before) :
    Calls Try.prog 11 args W fun e W' => ∃ v, e = .returned v ∧ Rows.dragSameSpec.post enc Try.prog Try.f11 false true false false W args v W' := by
  have hW' := hW
  obtain ⟨p, q, hA0, hV, rfl, hfz, hnd⟩ := hW
  have hA : DataW.TrodAll enc Try.prog W 0 (fun _ => true) true Try.f11.params.toList args.toList ds p := hA0
  rw [Try.params11] at hA hval
  obtain ⟨v0, v1, v2, d0, d1, d2, p0, p1, p2, rfl, rfl, rfl, ⟨n0, h0⟩, ⟨n1, h1⟩, ⟨n2, h2⟩⟩ := trodAll_three hA
  obtain ⟨T0, w0⟩ := test_in (hval 0 35 v0 rfl rfl)
  obtain ⟨a1, b1, re1, cf1, w1, x1⟩ := line_in (hval 1 24 v1 rfl rfl) h1
  obtain ⟨x2, w2, hr2⟩ := by_in (hval 2 56 v2 rfl rfl)
  have walk := lawSame T0 a1 b1 re1 cf1 x2 ⟨hr2.1, hr2.2.1, hr2.2.2.1, hr2.2.2.2.1, hr2.2.2.2.2.1, hr2.2.2.2.2.2⟩ (startW W) x1
  have hargs : VL (startWR W) [.agg [ii T0.sp, ii T0.lo, ii T0.we, ii T0.al, ii T0.f0, ii T0.f1, ii T0.t0, ii T0.t1, ii T0.s0, ii T0.s1, ii T0.o0, ii T0.o1, ii T0.b0, ii T0.b1, ii T0.r0, ii T0.r1], .agg [a1, b1], .agg [.int .u32 x2.f, .int .u32 x2.t, .int .u32 x2.s, .int .u32 x2.o, .int .u32 x2.b, .int .u32 x2.r]] (#[v0, v1, v2] : Array Value).toList := (.cons _ _ _ _ w0 (.cons _ _ _ _ w1 (.cons _ _ _ _ w2 .nil)))
  refine (startW_true (P := Try.prog) mixed (K := KK) (fun c hc => by
    have : c = cW := List.mem_singleton.1 hc
    rw [this]; exact cW_ok) walk hargs).mono fun e W' ⟨he, hgr, hs⟩ => ?_
  subst he
  refine ⟨_, rfl, law_post laidOut (by
    rw [Try.params11]
    intro t ht
    rcases List.mem_cons.1 ht with rfl | ht
    · exact ⟨by kernel_rfl, of_decide_eq_true (by kernel_rfl)⟩
    rcases List.mem_cons.1 ht with rfl | ht
    · exact ⟨by kernel_rfl, of_decide_eq_true (by kernel_rfl)⟩
    rcases List.mem_cons.1 ht with rfl | ht
    · exact ⟨by kernel_rfl, of_decide_eq_true (by kernel_rfl)⟩
    cases ht) rfl (by kernel_rfl) Try.underlying4 (fun gs' ⟨q', hq⟩ => ?_) hW' hgr hs⟩
  obtain ⟨rfl, _⟩ := trodVars_none hq
  exact ⟨rfl, rfl, rfl⟩

theorem lifted (os : Os) (started : os.Started) (H : Type) (enc : TypeId × Value → H) :
    ReturnsInHanded {} Try.checked os 11 .any (Rows.dragSameSpec.pre6 enc Try.prog Try.f11 Rows.dragSameRow.domain false) (Rows.dragSameSpec.post enc Try.prog Try.f11 false true false false) := by
  refine returnsInHanded_of_change (C := Try.checked) own started (by kernel_rfl) Try.func11
    (ChangeSpec.witness6 (enc := enc) (C := Try.checked) false ⟨#[], #[.agg #[.int .i64 0, .int .i64 0, .int .i64 0, .int .i64 0, .int .i64 0, .int .i64 0, .int .i64 0, .int .i64 0, .int .i64 0, .int .i64 0, .int .i64 0, .int .i64 0, .int .i64 0, .int .i64 0, .int .i64 0, .int .i64 0], .agg #[.slice none 0 0, .slice none 0 0], .agg #[.int .u32 0, .int .u32 0, .int .u32 0, .int .u32 0, .int .u32 0, .int .u32 0]], []⟩ 8 (by kernel_rfl) (by kernel_rfl) (by kernel_rfl) (by kernel_rfl)) ?_
  intro W base args ds gs before hval hW _ _
  exact contract H enc W base args ds gs before hval hW

theorem holds : Rows.DragSameSaid :=
  OpenClaim.holds_of_wide 11 Try.f11 rfl rfl rfl rfl rfl rfl rfl ⟨rfl, rfl, rfl, rfl, rfl⟩ rfl rfl rfl rfl rfl (by kernel_rfl) Try.func11 (by kernel_rfl)
    (of_decide_eq_true (by kernel_rfl)) (by unfold Func.isWrapper; first | (rw [if_pos (by decide +kernel)]; kernel_rfl) | (rw [if_neg (by decide +kernel)]; exact ⟨rfl, rfl⟩))
    (fun os started H enc _ => lifted os started H enc)
end Go.Proofs.Ythaleckfgcgegaa.dragSame
end
