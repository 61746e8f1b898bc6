/- The statement DragBoxed of layer 4: whatever the truth is, and whichever of the lines is right, the coefficient of the ship is in the span, and limits that are surely held are held, for all tests, lines, truths by numbers and limits; no condition. -/
import Derived.Test.YthaleckfgcgegaaBoxM6
import Derived.Test.YthaleckfgcgegaaRows
import Derived.WalkKit
import Derived.ProofKit
import Derived.OpenShut
set_option linter.all false
/- EvD21 -/
section
/-
  LAYER 4: whatever the truth is; what statements are about.
-/
namespace Go.Proofs.Ythaleckfgcgegaa
open Go.Ev
set_option maxRecDepth 100000
set_option linter.unusedSimpArgs false
set_option linter.unusedVariables false
set_option maxHeartbeats 2000000
theorem tEvD21 : type_of% (And.intro (And.intro (And.intro (And.intro (And.intro (And.intro (And.intro (@bs_24) (@bs_33)) (And.intro (@bs_35) (And.intro (@bs_37) (@bs_67)))) (And.intro (And.intro (@bs_76) (And.intro (@bs_87) (@bs_98))) (And.intro (@bs_117) (And.intro (@ia_2) (@sz_2))))) (And.intro (And.intro (And.intro (@ia_3) (@sz_3)) (And.intro (@ia_4) (And.intro (@sz_4) (@ia_22)))) (And.intro (And.intro (@sz_22) (And.intro (@ia_24) (@sz_24))) (And.intro (@ia_27) (And.intro (@sz_27) (@ia_33)))))) (And.intro (And.intro (And.intro (And.intro (@sz_33) (@ia_35)) (And.intro (@sz_35) (And.intro (@ia_37) (@sz_37)))) (And.intro (And.intro (@ia_43) (And.intro (@sz_43) (@ia_51))) (And.intro (@sz_51) (And.intro (@ia_55) (@sz_55))))) (And.intro (And.intro (And.intro (@ia_56) (And.intro (@sz_56) (@ia_67))) (And.intro (@sz_67) (And.intro (@ia_69) (@sz_69)))) (And.intro (And.intro (@ia_70) (And.intro (@sz_70) (@ia_73))) (And.intro (@sz_73) (And.intro (@ia_74) (@sz_74))))))) (And.intro (And.intro (And.intro (And.intro (And.intro (@ia_76) (@sz_76)) (And.intro (@ia_78) (And.intro (@sz_78) (@ia_87)))) (And.intro (And.intro (@sz_87) (And.intro (@ia_89) (@sz_89))) (And.intro (@ia_96) (And.intro (@sz_96) (@ia_98))))) (And.intro (And.intro (And.intro (@sz_98) (@ia_101)) (And.intro (@sz_101) (And.intro (@ia_105) (@sz_105)))) (And.intro (And.intro (@ia_107) (And.intro (@sz_107) (@ia_113))) (And.intro (@sz_113) (And.intro (@ia_114) (@sz_114)))))) (And.intro (And.intro (And.intro (And.intro (@ia_117) (@sz_117)) (And.intro (@ia_119) (And.intro (@sz_119) (@ze_2)))) (And.intro (And.intro (@ze_3) (And.intro (@ze_4) (@ze_24))) (And.intro (@ze_27) (And.intro (@ze_33) (@ze_35))))) (And.intro (And.intro (And.intro (@ze_37) (And.intro (@ze_67) (@ze_69))) (And.intro (@ze_76) (And.intro (@ze_87) (@ze_98)))) (And.intro (And.intro (@ze_117) (And.intro (@fo_24_0) (@fo_24_1))) (And.intro (@fo_33_0) (And.intro (@fo_33_1) (@fo_35_0)))))))) (And.intro (And.intro (And.intro (And.intro (And.intro (And.intro (@fo_35_1) (@fo_35_2)) (And.intro (@fo_35_3) (And.intro (@fo_35_4) (@fo_35_5)))) (And.intro (And.intro (@fo_35_6) (And.intro (@fo_35_7) (@fo_35_8))) (And.intro (@fo_35_9) (And.intro (@fo_37_0) (@fo_37_1))))) (And.intro (And.intro (And.intro (@fo_37_2) (@fo_37_3)) (And.intro (@fo_37_4) (And.intro (@fo_37_5) (@fo_67_0)))) (And.intro (And.intro (@fo_76_0) (And.intro (@fo_76_1) (@fo_87_0))) (And.intro (@fo_87_1) (And.intro (@fo_87_2) (@fo_98_0)))))) (And.intro (And.intro (And.intro (And.intro (@fo_98_1) (@pb_13)) (And.intro (@pb_14) (And.intro (@pb_15) (@pb_16)))) (And.intro (And.intro (@pb_17) (And.intro (@pb_18) (@pb_19))) (And.intro (@pb_20) (And.intro (@pb_21) (@pb_22))))) (And.intro (And.intro (And.intro (@pb_23) (And.intro (@pb_24) (@pb_25))) (And.intro (@pb_26) (And.intro (@pb_27) (@pb_28)))) (And.intro (And.intro (@pb_29) (And.intro (@pb_30) (@pb_31))) (And.intro (@pb_32) (And.intro (@pb_33) (@pb_34))))))) (And.intro (And.intro (And.intro (And.intro (And.intro (@pb_35) (@pb_36)) (And.intro (@pb_37) (And.intro (@pb_38) (@pb_39)))) (And.intro (And.intro (@pb_40) (And.intro (@pb_41) (@pb_42))) (And.intro (@pb_43) (And.intro (@pb_44) (@pb_45))))) (And.intro (And.intro (And.intro (@pb_46) (@pb_47)) (And.intro (@pb_48) (And.intro (@pb_49) (@pb_50)))) (And.intro (And.intro (@pb_51) (And.intro (@pb_52) (@pb_53))) (And.intro (@pb_54) (And.intro (@pb_55) (@pb_56)))))) (And.intro (And.intro (And.intro (And.intro (@pb_57) (@pb_58)) (And.intro (@pb_59) (And.intro (@pb_60) (@pb_61)))) (And.intro (And.intro (@pb_62) (And.intro (@pb_63) (@pb_64))) (And.intro (@pb_65) (And.intro (@pb_66) (@pb_67))))) (And.intro (And.intro (And.intro (@pb_68) (And.intro (@pb_69) (@pb_70))) (And.intro (@pb_71) (And.intro (@pb_72) (@pb_73)))) (And.intro (And.intro (@pb_74) (And.intro (@pb_75) (@pb_76))) (And.intro (@pb_77) (And.intro (@pb_78) (@pb_79))))))))) := And.intro (And.intro (And.intro (And.intro (And.intro (And.intro (And.intro (@bs_24) (@bs_33)) (And.intro (@bs_35) (And.intro (@bs_37) (@bs_67)))) (And.intro (And.intro (@bs_76) (And.intro (@bs_87) (@bs_98))) (And.intro (@bs_117) (And.intro (@ia_2) (@sz_2))))) (And.intro (And.intro (And.intro (@ia_3) (@sz_3)) (And.intro (@ia_4) (And.intro (@sz_4) (@ia_22)))) (And.intro (And.intro (@sz_22) (And.intro (@ia_24) (@sz_24))) (And.intro (@ia_27) (And.intro (@sz_27) (@ia_33)))))) (And.intro (And.intro (And.intro (And.intro (@sz_33) (@ia_35)) (And.intro (@sz_35) (And.intro (@ia_37) (@sz_37)))) (And.intro (And.intro (@ia_43) (And.intro (@sz_43) (@ia_51))) (And.intro (@sz_51) (And.intro (@ia_55) (@sz_55))))) (And.intro (And.intro (And.intro (@ia_56) (And.intro (@sz_56) (@ia_67))) (And.intro (@sz_67) (And.intro (@ia_69) (@sz_69)))) (And.intro (And.intro (@ia_70) (And.intro (@sz_70) (@ia_73))) (And.intro (@sz_73) (And.intro (@ia_74) (@sz_74))))))) (And.intro (And.intro (And.intro (And.intro (And.intro (@ia_76) (@sz_76)) (And.intro (@ia_78) (And.intro (@sz_78) (@ia_87)))) (And.intro (And.intro (@sz_87) (And.intro (@ia_89) (@sz_89))) (And.intro (@ia_96) (And.intro (@sz_96) (@ia_98))))) (And.intro (And.intro (And.intro (@sz_98) (@ia_101)) (And.intro (@sz_101) (And.intro (@ia_105) (@sz_105)))) (And.intro (And.intro (@ia_107) (And.intro (@sz_107) (@ia_113))) (And.intro (@sz_113) (And.intro (@ia_114) (@sz_114)))))) (And.intro (And.intro (And.intro (And.intro (@ia_117) (@sz_117)) (And.intro (@ia_119) (And.intro (@sz_119) (@ze_2)))) (And.intro (And.intro (@ze_3) (And.intro (@ze_4) (@ze_24))) (And.intro (@ze_27) (And.intro (@ze_33) (@ze_35))))) (And.intro (And.intro (And.intro (@ze_37) (And.intro (@ze_67) (@ze_69))) (And.intro (@ze_76) (And.intro (@ze_87) (@ze_98)))) (And.intro (And.intro (@ze_117) (And.intro (@fo_24_0) (@fo_24_1))) (And.intro (@fo_33_0) (And.intro (@fo_33_1) (@fo_35_0)))))))) (And.intro (And.intro (And.intro (And.intro (And.intro (And.intro (@fo_35_1) (@fo_35_2)) (And.intro (@fo_35_3) (And.intro (@fo_35_4) (@fo_35_5)))) (And.intro (And.intro (@fo_35_6) (And.intro (@fo_35_7) (@fo_35_8))) (And.intro (@fo_35_9) (And.intro (@fo_37_0) (@fo_37_1))))) (And.intro (And.intro (And.intro (@fo_37_2) (@fo_37_3)) (And.intro (@fo_37_4) (And.intro (@fo_37_5) (@fo_67_0)))) (And.intro (And.intro (@fo_76_0) (And.intro (@fo_76_1) (@fo_87_0))) (And.intro (@fo_87_1) (And.intro (@fo_87_2) (@fo_98_0)))))) (And.intro (And.intro (And.intro (And.intro (@fo_98_1) (@pb_13)) (And.intro (@pb_14) (And.intro (@pb_15) (@pb_16)))) (And.intro (And.intro (@pb_17) (And.intro (@pb_18) (@pb_19))) (And.intro (@pb_20) (And.intro (@pb_21) (@pb_22))))) (And.intro (And.intro (And.intro (@pb_23) (And.intro (@pb_24) (@pb_25))) (And.intro (@pb_26) (And.intro (@pb_27) (@pb_28)))) (And.intro (And.intro (@pb_29) (And.intro (@pb_30) (@pb_31))) (And.intro (@pb_32) (And.intro (@pb_33) (@pb_34))))))) (And.intro (And.intro (And.intro (And.intro (And.intro (@pb_35) (@pb_36)) (And.intro (@pb_37) (And.intro (@pb_38) (@pb_39)))) (And.intro (And.intro (@pb_40) (And.intro (@pb_41) (@pb_42))) (And.intro (@pb_43) (And.intro (@pb_44) (@pb_45))))) (And.intro (And.intro (And.intro (@pb_46) (@pb_47)) (And.intro (@pb_48) (And.intro (@pb_49) (@pb_50)))) (And.intro (And.intro (@pb_51) (And.intro (@pb_52) (@pb_53))) (And.intro (@pb_54) (And.intro (@pb_55) (@pb_56)))))) (And.intro (And.intro (And.intro (And.intro (@pb_57) (@pb_58)) (And.intro (@pb_59) (And.intro (@pb_60) (@pb_61)))) (And.intro (And.intro (@pb_62) (And.intro (@pb_63) (@pb_64))) (And.intro (@pb_65) (And.intro (@pb_66) (@pb_67))))) (And.intro (And.intro (And.intro (@pb_68) (And.intro (@pb_69) (@pb_70))) (And.intro (@pb_71) (And.intro (@pb_72) (@pb_73)))) (And.intro (And.intro (@pb_74) (And.intro (@pb_75) (@pb_76))) (And.intro (@pb_77) (And.intro (@pb_78) (@pb_79))))))))
theorem coef_mono {T : Te} (k : okT T) {re cf : List Int} (kl : okL re cf) (hin : inAll T re) {x y : Tr} (kx : isT T x) (ky : isT T y) (ho : x.o = y.o) (hf : x.f ≤ y.f) (ht : y.t ≤ x.t) (hs : x.s ≤ y.s) (hb : y.b ≤ x.b) (hr : x.r ≤ y.r) : coef T re cf x ≤ coef T re cf y := by
  have kf := k.f
  have kt := k.t
  have ks := k.s
  have ko := k.o
  have kb := k.b
  have xf := kx.f
  have yf := ky.f
  have xt := kx.t
  have yt := ky.t
  have xs := kx.s
  have ys := ky.s
  have xo := kx.o
  have xb := kx.b
  have yb := ky.b
  obtain ⟨ix1, ix2⟩ := inAll_of k hin kx
  obtain ⟨iy1, iy2⟩ := inAll_of k hin ky
  obtain ⟨-, -, -, -, p2, p3⟩ := k.prods
  have m1 : meas T x.f ≤ meas T y.f := by
    have := Int.ediv_le_ediv (show 0 < T.we * T.sp * T.sp by omega) (show 20000000000 * x.f ≤ 20000000000 * y.f by omega)
    unfold meas; omega
  have m2 := meas_in k (f := x.f) (by omega)
  have m3 : meas T x.f * (1000 - x.b) ≤ meas T y.f * (1000 - y.b) := Int.mul_le_mul m1 (by omega) (by omega) (by omega)
  have m4 := Int.ediv_le_ediv (show (0 : Int) < 1000 by decide) m3
  have g1 := fr_mono kl ix1 iy1 (mo_anti k (by omega) ht)
  have g2 := fr_mono kl iy2 ix2 (sh_anti k (by omega) hs)
  have n1 : (1000 + y.o) * fr re cf (mo T y.t) ≤ (1000 + x.o) * fr re cf (mo T x.t) := by rw [ho]; exact Int.mul_le_mul_of_nonneg_left g1 (by omega)
  have n2 : (1000 + x.o) * fr re cf (sh T x.s) ≤ (1000 + y.o) * fr re cf (sh T y.s) := by rw [ho]; exact Int.mul_le_mul_of_nonneg_left g2 (by omega)
  have n3 := Int.ediv_le_ediv (show (0 : Int) < 1000 by decide) n1
  have n4 := Int.ediv_le_ediv (show (0 : Int) < 1000 by decide) n2
  unfold coef formed
  omega
theorem bst_ge {g : Nat → Int} : ∀ {n q : Nat}, q < n → g q ≤ bst true g n
  | 1, 0, _ => by rw [bst_zero]; exact Int.le_refl _
  | n + 2, q, h => by
    rw [bst_hi (by omega)]
    by_cases e : q = n + 1
    · rw [e]; omega
    · have := bst_ge (g := g) (n := n + 1) (q := q) (by omega); omega
theorem bst_le {g : Nat → Int} : ∀ {n q : Nat}, q < n → bst false g n ≤ g q
  | 1, 0, _ => by rw [bst_zero]; exact Int.le_refl _
  | n + 2, q, h => by
    rw [bst_lo (by omega)]
    by_cases e : q = n + 1
    · rw [e]; omega
    · have := bst_le (g := g) (n := n + 1) (q := q) (by omega); omega
theorem endv_box {T : Te} (k : okT T) {re cf : List Int} (kl : okL re cf) (hin : inAll T re) {x : Tr} (kx : isT T x) : endv T re cf false ≤ coef T re cf x ∧ coef T re cf x ≤ endv T re cf true := by
  have ko := k.o
  have xo := kx.o
  have hq : (x.o - T.o0).toNat < cnt T := by unfold cnt; omega
  have e : T.o0 + ((x.o - T.o0).toNat : Int) = x.o := by omega
  have h1 := bst_le (g := cg T re cf false) hq
  have h2 := bst_ge (g := cg T re cf true) hq
  unfold cg at h1 h2
  rw [e] at h1 h2
  have c1 := coef_mono k kl hin (cand_isT k false xo) kx rfl kx.f.1 kx.t.2 kx.s.1 kx.b.2 kx.r.1
  have c2 := coef_mono k kl hin kx (cand_isT k true xo) rfl kx.f.2 kx.t.1 kx.s.2 kx.b.1 kx.r.2
  exact ⟨Int.le_trans h1 c1, Int.le_trans c2 h2⟩
theorem span_box {T : Te} (k : okT T) {ls : List Ln} (hk : okLs ls) (hr : rk T ls) {l : Ln} (hl : l ∈ ls) {x : Tr} (kx : isT T x) : spanV T ls false ≤ coef T l.re l.cf x ∧ coef T l.re l.cf x ≤ spanV T ls true := by
  obtain ⟨i, hi, rfl⟩ := List.getElem_of_mem hl
  have h1 := bst_le (g := lineV T ls false) hi
  have h2 := bst_ge (g := lineV T ls true) hi
  rw [lineV_at hi] at h1 h2
  obtain ⟨h3, h4⟩ := endv_box k (hk.ok _ hl) (hr _ hl) kx
  exact ⟨Int.le_trans h1 h3, Int.le_trans h4 h2⟩
/-- A statement is about such a test and lines. -/
structure Fine (T : Te) (ls : List Ln) : Prop where
  g : ¬ Greater ls
  k : okT T
  l : okLs ls
  r : rk T ls
theorem fine (T : Te) (s : AV) (ls : List Ln) (h : H) (x : LinesR h s ls) : ∃ t : Bool, (t = true ↔ Fine T ls) ∧ (om Try.prog KK).call (.fn 32 [.agg [ii T.sp, ii T.lo, ii T.we, ii T.al, ii T.f0, ii T.f1, ii T.t0, ii T.t1, ii T.s0, ii T.s1, ii T.o0, ii T.o1, ii T.b0, ii T.b1, ii T.r0, ii T.r1], s]) h = .ok (.bool t) h := by
  have hd : ∃ t : Bool, (t = true ↔ Fine T ls) := by classical exact ⟨decide (Fine T ls), by simp⟩
  obtain ⟨t, ht⟩ := hd
  refine ⟨t, ht, ?_⟩
  have wf := x.wf
  obtain ⟨g, hg, hgc⟩ := greater s ls h x
  have hgc' : ∀ l w, w ≤ h.clock + l.length → (om Try.prog KK).call (.fn 25 [s]) (X h l w) = .ok (.bool g) (X h l w) := fun l w hw => by
    obtain ⟨g2, hg2, hgc2⟩ := greater s ls _ (x.up l w hw)
    have : g2 = g := by
      rw [Bool.eq_iff_iff, hg2, hg]
    rw [hgc2, this]
  have fin : ∀ u : Bool, (u = true ↔ Fine T ls) → t = u := fun u hu => by rw [Bool.eq_iff_iff, ht, hu]
  refine WV_to (WV_call (fn := Try.f32) Try.func32 rfl rfl rfl rfl rfl ?_)
  simp only [argF]
  cases g
  · have hng : ¬ Greater ls := fun q => by have := hg.2 q; cases this
    by_cases k : okT T
    · have e0 := testErr_ok k
      by_cases hz : linesErr ls = 0
      · have hk := linesErr_zero.1 hz
        by_cases hr : rk T ls
        · rw [fin true ⟨fun _ => ⟨hng, k, hk, hr⟩, fun _ => rfl⟩]
          (repeat' (first
  | (with_reducible first | refine WC_seq ?_ | refine WC_skip ?_ | refine WC_label ?_ | refine WC_scope ?_ | refine WC_block ?_ | refine WC_ret ?_ | refine WC_exit ?_ | refine seqQ_norm ?_ | refine seqQ_ret ?_ | refine seqQ_exit ?_ | refine blkQ_norm ?_ | refine blkQ_ret ?_ | refine blkQ_here ?_ | refine gateK_yes ?_ | refine gateK_none ?_ | refine condK_tt ?_ | refine condK_ff ?_ | refine roundQ_exit ?_ | refine roundQ_ret ?_)
  | refine WC_region ?_ | refine blkQ_out rfl ?_ | refine WO_nil ?_ | refine WD_nil ?_
  | ((first | refine WD_gate rfl rfl rfl rfl rfl fun K_ hK_ => ?_ | refine WO_gate rfl rfl rfl rfl rfl fun K_ hK_ => ?_); simp only [upd_apply, asB_bool, asB_tup, ↓reduceIte, reduceCtorEq, Nat.reduceEqDiff, Bool.not_true, Bool.not_false]; refine hK_ _ ?_; clear hK_ K_)
  | refine gateK_no (by decide) ?_
  | ((try first | refine WO_op rfl rfl rfl ?_ | refine WO_op0 rfl rfl ?_ | refine WD_op rfl rfl rfl ?_ | refine WD_op0 rfl rfl ?_); (refine WV_gen fun Q_ hQ_ => ?_; simp (disch := first | omega | (simp only [List.length_cons, List.length_nil, List.length_append]; omega)) only [bb, bp, argF, ↓reduceIte, reduceCtorEq, Nat.reduceEqDiff, Nat.reduceLT, Nat.reduceLeDiff, Nat.reduceAdd, Nat.reduceMul, Nat.reduceSub, Nat.reduceBEq, Int.reduceToNat, cond_true, cond_false, eq_self, beq_self_eq_true, newPtr_X wf, load1_X wf, loadAgg_X wf, store1_X wf, writeCells_X wf, makeFunc_def, tEvD21, bsl_22, bsl_43, bsl_51, bsl_96, bsl_105, newSlice_X wf]; first | (refine dec_split (Q := Q_) (fun hp_ => ?_) (fun hp_ => ?_) <;> first | (exfalso; omega) | (refine hQ_ _ _ ?_; clear hQ_ Q_)) | (refine dec_splitn (Q := Q_) (fun hp_ => ?_) (fun hp_ => ?_) <;> first | (exfalso; omega) | (refine hQ_ _ _ ?_; clear hQ_ Q_)) | (refine hQ_ _ _ ?_; clear hQ_ Q_) | (refine WV_eq (hgc' _ _ (by simp only [List.length_append, List.length_cons, List.length_nil]; omega)) ?_; refine hQ_ _ _ ?_; clear hQ_ Q_) | (refine WV_eq ((refCheckTest T _ (wf.X (Nat.le_add_right _ _))).trans (by rw [e0])) ?_; refine hQ_ _ _ ?_; clear hQ_ Q_) | (refine WV_eq ((refLines s ls _ (x.up _ _ (by simp only [List.length_append, List.length_cons, List.length_nil]; omega))).trans (by rw [hz])) ?_; refine hQ_ _ _ ?_; clear hQ_ Q_) | (refine WV_eq ((Reckoned T k s ls hk _ (x.up _ _ (by simp only [List.length_append, List.length_cons, List.length_nil]; omega))).trans (by rw [decide_eq_true hr])) ?_; refine hQ_ _ _ ?_; clear hQ_ Q_)))
  | (refine WC_cond fun K_ hK_ => ?_; simp (disch := omega) only [evT_tmp, upd_apply, WB_some, ↓reduceIte, reduceCtorEq, Nat.reduceEqDiff, Nat.reduceLT]; refine hK_ _ ?_; clear hK_ K_)))
          (refine endQ_ret _ _ rfl (ret1 (by decide)) ?_; simp only [upd_apply, ↓reduceIte, reduceCtorEq, Nat.reduceEqDiff]; refine WV_flat rfl (by omega) ?_)
          exact ⟨rfl, rfl⟩
        · rw [fin false ⟨fun q => (by cases q), fun q => absurd q.r hr⟩]
          (repeat' (first
  | (with_reducible first | refine WC_seq ?_ | refine WC_skip ?_ | refine WC_label ?_ | refine WC_scope ?_ | refine WC_block ?_ | refine WC_ret ?_ | refine WC_exit ?_ | refine seqQ_norm ?_ | refine seqQ_ret ?_ | refine seqQ_exit ?_ | refine blkQ_norm ?_ | refine blkQ_ret ?_ | refine blkQ_here ?_ | refine gateK_yes ?_ | refine gateK_none ?_ | refine condK_tt ?_ | refine condK_ff ?_ | refine roundQ_exit ?_ | refine roundQ_ret ?_)
  | refine WC_region ?_ | refine blkQ_out rfl ?_ | refine WO_nil ?_ | refine WD_nil ?_
  | ((first | refine WD_gate rfl rfl rfl rfl rfl fun K_ hK_ => ?_ | refine WO_gate rfl rfl rfl rfl rfl fun K_ hK_ => ?_); simp only [upd_apply, asB_bool, asB_tup, ↓reduceIte, reduceCtorEq, Nat.reduceEqDiff, Bool.not_true, Bool.not_false]; refine hK_ _ ?_; clear hK_ K_)
  | refine gateK_no (by decide) ?_
  | ((try first | refine WO_op rfl rfl rfl ?_ | refine WO_op0 rfl rfl ?_ | refine WD_op rfl rfl rfl ?_ | refine WD_op0 rfl rfl ?_); (refine WV_gen fun Q_ hQ_ => ?_; simp (disch := first | omega | (simp only [List.length_cons, List.length_nil, List.length_append]; omega)) only [bb, bp, argF, ↓reduceIte, reduceCtorEq, Nat.reduceEqDiff, Nat.reduceLT, Nat.reduceLeDiff, Nat.reduceAdd, Nat.reduceMul, Nat.reduceSub, Nat.reduceBEq, Int.reduceToNat, cond_true, cond_false, eq_self, beq_self_eq_true, newPtr_X wf, load1_X wf, loadAgg_X wf, store1_X wf, writeCells_X wf, makeFunc_def, tEvD21, bsl_22, bsl_43, bsl_51, bsl_96, bsl_105, newSlice_X wf]; first | (refine dec_split (Q := Q_) (fun hp_ => ?_) (fun hp_ => ?_) <;> first | (exfalso; omega) | (refine hQ_ _ _ ?_; clear hQ_ Q_)) | (refine dec_splitn (Q := Q_) (fun hp_ => ?_) (fun hp_ => ?_) <;> first | (exfalso; omega) | (refine hQ_ _ _ ?_; clear hQ_ Q_)) | (refine hQ_ _ _ ?_; clear hQ_ Q_) | (refine WV_eq (hgc' _ _ (by simp only [List.length_append, List.length_cons, List.length_nil]; omega)) ?_; refine hQ_ _ _ ?_; clear hQ_ Q_) | (refine WV_eq ((refCheckTest T _ (wf.X (Nat.le_add_right _ _))).trans (by rw [e0])) ?_; refine hQ_ _ _ ?_; clear hQ_ Q_) | (refine WV_eq ((refLines s ls _ (x.up _ _ (by simp only [List.length_append, List.length_cons, List.length_nil]; omega))).trans (by rw [hz])) ?_; refine hQ_ _ _ ?_; clear hQ_ Q_) | (refine WV_eq ((Reckoned T k s ls hk _ (x.up _ _ (by simp only [List.length_append, List.length_cons, List.length_nil]; omega))).trans (by rw [decide_eq_false hr])) ?_; refine hQ_ _ _ ?_; clear hQ_ Q_)))
  | (refine WC_cond fun K_ hK_ => ?_; simp (disch := omega) only [evT_tmp, upd_apply, WB_some, ↓reduceIte, reduceCtorEq, Nat.reduceEqDiff, Nat.reduceLT]; refine hK_ _ ?_; clear hK_ K_)))
          (refine endQ_ret _ _ rfl (ret1 (by decide)) ?_; simp only [upd_apply, ↓reduceIte, reduceCtorEq, Nat.reduceEqDiff]; refine WV_flat rfl (by omega) ?_)
          exact ⟨rfl, rfl⟩
      · rw [fin false ⟨fun q => (by cases q), fun q => absurd (linesErr_zero.2 q.l) hz⟩]
        (repeat' (first
  | (with_reducible first | refine WC_seq ?_ | refine WC_skip ?_ | refine WC_label ?_ | refine WC_scope ?_ | refine WC_block ?_ | refine WC_ret ?_ | refine WC_exit ?_ | refine seqQ_norm ?_ | refine seqQ_ret ?_ | refine seqQ_exit ?_ | refine blkQ_norm ?_ | refine blkQ_ret ?_ | refine blkQ_here ?_ | refine gateK_yes ?_ | refine gateK_none ?_ | refine condK_tt ?_ | refine condK_ff ?_ | refine roundQ_exit ?_ | refine roundQ_ret ?_)
  | refine WC_region ?_ | refine blkQ_out rfl ?_ | refine WO_nil ?_ | refine WD_nil ?_
  | ((first | refine WD_gate rfl rfl rfl rfl rfl fun K_ hK_ => ?_ | refine WO_gate rfl rfl rfl rfl rfl fun K_ hK_ => ?_); simp only [upd_apply, asB_bool, asB_tup, ↓reduceIte, reduceCtorEq, Nat.reduceEqDiff, Bool.not_true, Bool.not_false]; refine hK_ _ ?_; clear hK_ K_)
  | refine gateK_no (by decide) ?_
  | ((try first | refine WO_op rfl rfl rfl ?_ | refine WO_op0 rfl rfl ?_ | refine WD_op rfl rfl rfl ?_ | refine WD_op0 rfl rfl ?_); (refine WV_gen fun Q_ hQ_ => ?_; simp (disch := first | omega | (simp only [List.length_cons, List.length_nil, List.length_append]; omega)) only [bb, bp, argF, ↓reduceIte, reduceCtorEq, Nat.reduceEqDiff, Nat.reduceLT, Nat.reduceLeDiff, Nat.reduceAdd, Nat.reduceMul, Nat.reduceSub, Nat.reduceBEq, Int.reduceToNat, cond_true, cond_false, eq_self, beq_self_eq_true, newPtr_X wf, load1_X wf, loadAgg_X wf, store1_X wf, writeCells_X wf, makeFunc_def, tEvD21, bsl_22, bsl_43, bsl_51, bsl_96, bsl_105, newSlice_X wf]; first | (refine dec_split (Q := Q_) (fun hp_ => ?_) (fun hp_ => ?_) <;> first | (exfalso; omega) | (refine hQ_ _ _ ?_; clear hQ_ Q_)) | (refine dec_splitn (Q := Q_) (fun hp_ => ?_) (fun hp_ => ?_) <;> first | (exfalso; omega) | (refine hQ_ _ _ ?_; clear hQ_ Q_)) | (refine hQ_ _ _ ?_; clear hQ_ Q_) | (refine WV_eq (hgc' _ _ (by simp only [List.length_append, List.length_cons, List.length_nil]; omega)) ?_; refine hQ_ _ _ ?_; clear hQ_ Q_) | (refine WV_eq ((refCheckTest T _ (wf.X (Nat.le_add_right _ _))).trans (by rw [e0])) ?_; refine hQ_ _ _ ?_; clear hQ_ Q_) | (refine WV_eq (refLines s ls _ (x.up _ _ (by simp only [List.length_append, List.length_cons, List.length_nil]; omega))) ?_; refine hQ_ _ _ ?_; clear hQ_ Q_)))
  | (refine WC_cond fun K_ hK_ => ?_; simp (disch := omega) only [evT_tmp, upd_apply, WB_some, ↓reduceIte, reduceCtorEq, Nat.reduceEqDiff, Nat.reduceLT]; refine hK_ _ ?_; clear hK_ K_)))
        (refine endQ_ret _ _ rfl (ret1 (by decide)) ?_; simp only [upd_apply, ↓reduceIte, reduceCtorEq, Nat.reduceEqDiff]; refine WV_flat rfl (by omega) ?_)
        exact ⟨rfl, rfl⟩
    · have e0 := testErr_no k
      rw [fin false ⟨fun q => (by cases q), fun q => absurd q.k k⟩]
      (repeat' (first
  | (with_reducible first | refine WC_seq ?_ | refine WC_skip ?_ | refine WC_label ?_ | refine WC_scope ?_ | refine WC_block ?_ | refine WC_ret ?_ | refine WC_exit ?_ | refine seqQ_norm ?_ | refine seqQ_ret ?_ | refine seqQ_exit ?_ | refine blkQ_norm ?_ | refine blkQ_ret ?_ | refine blkQ_here ?_ | refine gateK_yes ?_ | refine gateK_none ?_ | refine condK_tt ?_ | refine condK_ff ?_ | refine roundQ_exit ?_ | refine roundQ_ret ?_)
  | refine WC_region ?_ | refine blkQ_out rfl ?_ | refine WO_nil ?_ | refine WD_nil ?_
  | ((first | refine WD_gate rfl rfl rfl rfl rfl fun K_ hK_ => ?_ | refine WO_gate rfl rfl rfl rfl rfl fun K_ hK_ => ?_); simp only [upd_apply, asB_bool, asB_tup, ↓reduceIte, reduceCtorEq, Nat.reduceEqDiff, Bool.not_true, Bool.not_false]; refine hK_ _ ?_; clear hK_ K_)
  | refine gateK_no (by decide) ?_
  | ((try first | refine WO_op rfl rfl rfl ?_ | refine WO_op0 rfl rfl ?_ | refine WD_op rfl rfl rfl ?_ | refine WD_op0 rfl rfl ?_); (refine WV_gen fun Q_ hQ_ => ?_; simp (disch := first | omega | (simp only [List.length_cons, List.length_nil, List.length_append]; omega)) only [bb, bp, argF, ↓reduceIte, reduceCtorEq, Nat.reduceEqDiff, Nat.reduceLT, Nat.reduceLeDiff, Nat.reduceAdd, Nat.reduceMul, Nat.reduceSub, Nat.reduceBEq, Int.reduceToNat, cond_true, cond_false, eq_self, beq_self_eq_true, newPtr_X wf, load1_X wf, loadAgg_X wf, store1_X wf, writeCells_X wf, makeFunc_def, tEvD21, bsl_22, bsl_43, bsl_51, bsl_96, bsl_105, newSlice_X wf]; first | (refine dec_split (Q := Q_) (fun hp_ => ?_) (fun hp_ => ?_) <;> first | (exfalso; omega) | (refine hQ_ _ _ ?_; clear hQ_ Q_)) | (refine dec_splitn (Q := Q_) (fun hp_ => ?_) (fun hp_ => ?_) <;> first | (exfalso; omega) | (refine hQ_ _ _ ?_; clear hQ_ Q_)) | (refine hQ_ _ _ ?_; clear hQ_ Q_) | (refine WV_eq (hgc' _ _ (by simp only [List.length_append, List.length_cons, List.length_nil]; omega)) ?_; refine hQ_ _ _ ?_; clear hQ_ Q_) | (refine WV_eq ((refCheckTest T _ (wf.X (Nat.le_add_right _ _))).trans (by rw [e0])) ?_; refine hQ_ _ _ ?_; clear hQ_ Q_)))
  | (refine WC_cond fun K_ hK_ => ?_; simp (disch := omega) only [evT_tmp, upd_apply, WB_some, ↓reduceIte, reduceCtorEq, Nat.reduceEqDiff, Nat.reduceLT]; refine hK_ _ ?_; clear hK_ K_)))
      (refine endQ_ret _ _ rfl (ret1 (by decide)) ?_; simp only [upd_apply, ↓reduceIte, reduceCtorEq, Nat.reduceEqDiff]; refine WV_flat rfl (by omega) ?_)
      exact ⟨rfl, rfl⟩
  · rw [fin false ⟨fun q => (by cases q), fun q => absurd (hg.1 rfl) q.g⟩]
    (repeat' (first
  | (with_reducible first | refine WC_seq ?_ | refine WC_skip ?_ | refine WC_label ?_ | refine WC_scope ?_ | refine WC_block ?_ | refine WC_ret ?_ | refine WC_exit ?_ | refine seqQ_norm ?_ | refine seqQ_ret ?_ | refine seqQ_exit ?_ | refine blkQ_norm ?_ | refine blkQ_ret ?_ | refine blkQ_here ?_ | refine gateK_yes ?_ | refine gateK_none ?_ | refine condK_tt ?_ | refine condK_ff ?_ | refine roundQ_exit ?_ | refine roundQ_ret ?_)
  | refine WC_region ?_ | refine blkQ_out rfl ?_ | refine WO_nil ?_ | refine WD_nil ?_
  | ((first | refine WD_gate rfl rfl rfl rfl rfl fun K_ hK_ => ?_ | refine WO_gate rfl rfl rfl rfl rfl fun K_ hK_ => ?_); simp only [upd_apply, asB_bool, asB_tup, ↓reduceIte, reduceCtorEq, Nat.reduceEqDiff, Bool.not_true, Bool.not_false]; refine hK_ _ ?_; clear hK_ K_)
  | refine gateK_no (by decide) ?_
  | ((try first | refine WO_op rfl rfl rfl ?_ | refine WO_op0 rfl rfl ?_ | refine WD_op rfl rfl rfl ?_ | refine WD_op0 rfl rfl ?_); (refine WV_gen fun Q_ hQ_ => ?_; simp (disch := first | omega | (simp only [List.length_cons, List.length_nil, List.length_append]; omega)) only [bb, bp, argF, ↓reduceIte, reduceCtorEq, Nat.reduceEqDiff, Nat.reduceLT, Nat.reduceLeDiff, Nat.reduceAdd, Nat.reduceMul, Nat.reduceSub, Nat.reduceBEq, Int.reduceToNat, cond_true, cond_false, eq_self, beq_self_eq_true, newPtr_X wf, load1_X wf, loadAgg_X wf, store1_X wf, writeCells_X wf, makeFunc_def, tEvD21, bsl_22, bsl_43, bsl_51, bsl_96, bsl_105, newSlice_X wf]; first | (refine dec_split (Q := Q_) (fun hp_ => ?_) (fun hp_ => ?_) <;> first | (exfalso; omega) | (refine hQ_ _ _ ?_; clear hQ_ Q_)) | (refine dec_splitn (Q := Q_) (fun hp_ => ?_) (fun hp_ => ?_) <;> first | (exfalso; omega) | (refine hQ_ _ _ ?_; clear hQ_ Q_)) | (refine hQ_ _ _ ?_; clear hQ_ Q_) | (refine WV_eq (hgc' _ _ (by simp only [List.length_append, List.length_cons, List.length_nil]; omega)) ?_; refine hQ_ _ _ ?_; clear hQ_ Q_)))
  | (refine WC_cond fun K_ hK_ => ?_; simp (disch := omega) only [evT_tmp, upd_apply, WB_some, ↓reduceIte, reduceCtorEq, Nat.reduceEqDiff, Nat.reduceLT]; refine hK_ _ ?_; clear hK_ K_)))
    (refine endQ_ret _ _ rfl (ret1 (by decide)) ?_; simp only [upd_apply, ↓reduceIte, reduceCtorEq, Nat.reduceEqDiff]; refine WV_flat rfl (by omega) ?_)
    exact ⟨rfl, rfl⟩

/-- A number of a range, by a number. -/
def pk (lo hi by' : Int) : Int := lo + by'.tmod (hi - lo + 1)
theorem pk_in {lo hi b : Int} (h : lo ≤ hi) (hb : 0 ≤ b) : lo ≤ pk lo hi b ∧ pk lo hi b ≤ hi := by
  have := tmod_in (a := b) (m := hi - lo + 1) hb (by omega)
  unfold pk; omega
theorem pick (lo hi n : Int) (h1 : 0 ≤ lo ∧ lo ≤ hi ∧ hi ≤ 1000000000) (hn : 0 ≤ n ∧ n ≤ 4294967295) (h : H) (wf : Wf h) : (om Try.prog KK).call (.fn 65 [.agg [ii lo, ii hi], .int .u32 n]) h = .ok (ii (pk lo hi n)) h := by
  have hm := tmod_in (a := n) (m := hi - lo + 1) hn.1 (by omega)
  have hz : hi - lo + 1 ≠ 0 := by omega
  unfold pk
  refine WV_to (WV_call (fn := Try.f65) Try.func65 rfl rfl rfl rfl rfl ?_)
  simp only [argF]
  (repeat' (first
  | (with_reducible first | refine WC_seq ?_ | refine WC_skip ?_ | refine WC_label ?_ | refine WC_scope ?_ | refine WC_block ?_ | refine WC_ret ?_ | refine WC_exit ?_ | refine seqQ_norm ?_ | refine seqQ_ret ?_ | refine seqQ_exit ?_ | refine blkQ_norm ?_ | refine blkQ_ret ?_ | refine blkQ_here ?_ | refine gateK_yes ?_ | refine gateK_none ?_ | refine condK_tt ?_ | refine condK_ff ?_ | refine roundQ_exit ?_ | refine roundQ_ret ?_)
  | refine WC_region ?_ | refine blkQ_out rfl ?_ | refine WO_nil ?_ | refine WD_nil ?_
  | ((first | refine WD_gate rfl rfl rfl rfl rfl fun K_ hK_ => ?_ | refine WO_gate rfl rfl rfl rfl rfl fun K_ hK_ => ?_); simp only [upd_apply, asB_bool, asB_tup, ↓reduceIte, reduceCtorEq, Nat.reduceEqDiff, Bool.not_true, Bool.not_false]; refine hK_ _ ?_; clear hK_ K_)
  | refine gateK_no (by decide) ?_
  | ((try first | refine WO_op rfl rfl rfl ?_ | refine WO_op0 rfl rfl ?_ | refine WD_op rfl rfl rfl ?_ | refine WD_op0 rfl rfl ?_); (refine WV_gen fun Q_ hQ_ => ?_; simp (disch := first | omega | (simp only [List.length_cons, List.length_nil, List.length_append]; omega)) only [bb, bp, argF, ↓reduceIte, reduceCtorEq, Nat.reduceEqDiff, Nat.reduceLT, Nat.reduceLeDiff, Nat.reduceAdd, Nat.reduceMul, Nat.reduceSub, Nat.reduceBEq, Int.reduceToNat, cond_true, cond_false, eq_self, beq_self_eq_true, newPtr_X wf, load1_X wf, loadAgg_X wf, store1_X wf, writeCells_X wf, makeFunc_def, tEvD21, bsl_22, bsl_43, bsl_51, bsl_96, bsl_105, newSlice_X wf]; first | (refine dec_split (Q := Q_) (fun hp_ => ?_) (fun hp_ => ?_) <;> first | (exfalso; omega) | (refine hQ_ _ _ ?_; clear hQ_ Q_)) | (refine dec_splitn (Q := Q_) (fun hp_ => ?_) (fun hp_ => ?_) <;> first | (exfalso; omega) | (refine hQ_ _ _ ?_; clear hQ_ Q_)) | (refine hQ_ _ _ ?_; clear hQ_ Q_)))
  | (refine WC_cond fun K_ hK_ => ?_; simp (disch := omega) only [evT_tmp, upd_apply, WB_some, ↓reduceIte, reduceCtorEq, Nat.reduceEqDiff, Nat.reduceLT]; refine hK_ _ ?_; clear hK_ K_)))
  refine WC_drawnB (List.replicate 11 .no ++ [.full, .full]) (by kernel_rfl) ?_
  (repeat' (first
  | (with_reducible first | refine WC_seq ?_ | refine WC_skip ?_ | refine WC_label ?_ | refine WC_scope ?_ | refine WC_block ?_ | refine WC_ret ?_ | refine WC_exit ?_ | refine seqQ_norm ?_ | refine seqQ_ret ?_ | refine seqQ_exit ?_ | refine blkQ_norm ?_ | refine blkQ_ret ?_ | refine blkQ_here ?_ | refine gateK_yes ?_ | refine gateK_none ?_ | refine condK_tt ?_ | refine condK_ff ?_ | refine roundQ_exit ?_ | refine roundQ_ret ?_)
  | refine WC_region ?_ | refine blkQ_out rfl ?_ | refine WO_nil ?_ | refine WD_nil ?_
  | ((first | refine WD_gate rfl rfl rfl rfl rfl fun K_ hK_ => ?_ | refine WO_gate rfl rfl rfl rfl rfl fun K_ hK_ => ?_); simp only [upd_apply, asB_bool, asB_tup, ↓reduceIte, reduceCtorEq, Nat.reduceEqDiff, Bool.not_true, Bool.not_false]; refine hK_ _ ?_; clear hK_ K_)
  | refine gateK_no (by decide) ?_
  | ((try first | refine WO_op rfl rfl rfl ?_ | refine WO_op0 rfl rfl ?_ | refine WD_op rfl rfl rfl ?_ | refine WD_op0 rfl rfl ?_); (refine WV_gen fun Q_ hQ_ => ?_; simp (disch := first | omega | (simp only [List.length_cons, List.length_nil, List.length_append]; omega)) only [bb, bp, argF, ↓reduceIte, reduceCtorEq, Nat.reduceEqDiff, Nat.reduceLT, Nat.reduceLeDiff, Nat.reduceAdd, Nat.reduceMul, Nat.reduceSub, Nat.reduceBEq, Int.reduceToNat, cond_true, cond_false, eq_self, beq_self_eq_true, conv_u32 hn, b_rem hz, newPtr_X wf, load1_X wf, loadAgg_X wf, store1_X wf, writeCells_X wf, makeFunc_def, tEvD21, bsl_22, bsl_43, bsl_51, bsl_96, bsl_105, newSlice_X wf]; first | (refine dec_split (Q := Q_) (fun hp_ => ?_) (fun hp_ => ?_) <;> first | (exfalso; omega) | (refine hQ_ _ _ ?_; clear hQ_ Q_)) | (refine dec_splitn (Q := Q_) (fun hp_ => ?_) (fun hp_ => ?_) <;> first | (exfalso; omega) | (refine hQ_ _ _ ?_; clear hQ_ Q_)) | (refine hQ_ _ _ ?_; clear hQ_ Q_)))
  | (refine WC_cond fun K_ hK_ => ?_; simp (disch := omega) only [evT_tmp, upd_apply, WB_some, ↓reduceIte, reduceCtorEq, Nat.reduceEqDiff, Nat.reduceLT]; refine hK_ _ ?_; clear hK_ K_)))
  (refine endQ_ret _ _ rfl (ret1 (by decide)) ?_; simp only [upd_apply, ↓reduceIte, reduceCtorEq, Nat.reduceEqDiff]; refine WV_flat rfl (by omega) ?_)
  exact ⟨rfl, rfl⟩
def pkT (T : Te) (x : Tr) : Tr := ⟨pk T.f0 T.f1 x.f, pk T.t0 T.t1 x.t, pk T.s0 T.s1 x.s, pk T.o0 T.o1 x.o, pk T.b0 T.b1 x.b, pk T.r0 T.r1 x.r⟩
structure U6 (x : Tr) : Prop where
  f : 0 ≤ x.f ∧ x.f ≤ 4294967295
  t : 0 ≤ x.t ∧ x.t ≤ 4294967295
  s : 0 ≤ x.s ∧ x.s ≤ 4294967295
  o : 0 ≤ x.o ∧ x.o ≤ 4294967295
  b : 0 ≤ x.b ∧ x.b ≤ 4294967295
  r : 0 ≤ x.r ∧ x.r ≤ 4294967295
theorem pkT_is {T : Te} (k : okT T) {x : Tr} (u : U6 x) : isT T (pkT T x) :=
  ⟨pk_in k.f.2.1 u.f.1, pk_in k.t.2.1 u.t.1, pk_in k.s.2.1 u.s.1, pk_in k.o.2.1 u.o.1, pk_in k.b.2.1 u.b.1, pk_in k.r.2.1 u.r.1⟩
theorem True6 (T : Te) (k : okT T) (x : Tr) (u : U6 x) (h : H) (wf : Wf h) : (om Try.prog KK).call (.fn 33 [.agg [ii T.sp, ii T.lo, ii T.we, ii T.al, ii T.f0, ii T.f1, ii T.t0, ii T.t1, ii T.s0, ii T.s1, ii T.o0, ii T.o1, ii T.b0, ii T.b1, ii T.r0, ii T.r1], .agg [.int .u32 x.f, .int .u32 x.t, .int .u32 x.s, .int .u32 x.o, .int .u32 x.b, .int .u32 x.r]]) h =
    .ok (.agg [ii (pk T.f0 T.f1 x.f), ii (pk T.t0 T.t1 x.t), ii (pk T.s0 T.s1 x.s), ii (pk T.o0 T.o1 x.o), ii (pk T.b0 T.b1 x.b), ii (pk T.r0 T.r1 x.r)]) h := by
  have kf := k.f
  have kt := k.t
  have ks := k.s
  have ko := k.o
  have kb := k.b
  have kr := k.r
  obtain ⟨uf, ut, us, uo, ub, ur⟩ := u
  have c1 : ∀ lo hi n, (0 ≤ lo ∧ lo ≤ hi ∧ hi ≤ 1000000000) → (0 ≤ n ∧ n ≤ 4294967295) → ∀ l w, w ≤ h.clock + l.length → (om Try.prog KK).call (.fn 65 [.agg [ii lo, ii hi], .int .u32 n]) (X h l w) = .ok (ii (pk lo hi n)) (X h l w) := fun lo hi n h1 hn l w hw => pick lo hi n h1 hn _ (wf.X hw)
  have d1 := c1 T.f0 T.f1 x.f ⟨by omega, by omega, by omega⟩ uf
  have d2 := c1 T.t0 T.t1 x.t ⟨by omega, by omega, by omega⟩ ut
  have d3 := c1 T.s0 T.s1 x.s ⟨by omega, by omega, by omega⟩ us
  have d4 := c1 T.o0 T.o1 x.o ⟨by omega, by omega, by omega⟩ uo
  have d5 := c1 T.b0 T.b1 x.b ⟨by omega, by omega, by omega⟩ ub
  have d6 := c1 T.r0 T.r1 x.r ⟨by omega, by omega, by omega⟩ ur
  refine WV_to (WV_call (fn := Try.f33) Try.func33 rfl rfl rfl rfl rfl ?_)
  simp only [argF]
  (repeat' (first
  | (with_reducible first | refine WC_seq ?_ | refine WC_skip ?_ | refine WC_label ?_ | refine WC_scope ?_ | refine WC_block ?_ | refine WC_ret ?_ | refine WC_exit ?_ | refine seqQ_norm ?_ | refine seqQ_ret ?_ | refine seqQ_exit ?_ | refine blkQ_norm ?_ | refine blkQ_ret ?_ | refine blkQ_here ?_ | refine gateK_yes ?_ | refine gateK_none ?_ | refine condK_tt ?_ | refine condK_ff ?_ | refine roundQ_exit ?_ | refine roundQ_ret ?_)
  | refine WC_region ?_ | refine blkQ_out rfl ?_ | refine WO_nil ?_ | refine WD_nil ?_
  | ((first | refine WD_gate rfl rfl rfl rfl rfl fun K_ hK_ => ?_ | refine WO_gate rfl rfl rfl rfl rfl fun K_ hK_ => ?_); simp only [upd_apply, asB_bool, asB_tup, ↓reduceIte, reduceCtorEq, Nat.reduceEqDiff, Bool.not_true, Bool.not_false]; refine hK_ _ ?_; clear hK_ K_)
  | refine gateK_no (by decide) ?_
  | ((try first | refine WO_op rfl rfl rfl ?_ | refine WO_op0 rfl rfl ?_ | refine WD_op rfl rfl rfl ?_ | refine WD_op0 rfl rfl ?_); (refine WV_gen fun Q_ hQ_ => ?_; simp (disch := first | omega | (simp only [List.length_cons, List.length_nil, List.length_append]; omega)) only [bb, bp, argF, ↓reduceIte, reduceCtorEq, Nat.reduceEqDiff, Nat.reduceLT, Nat.reduceLeDiff, Nat.reduceAdd, Nat.reduceMul, Nat.reduceSub, Nat.reduceBEq, Int.reduceToNat, cond_true, cond_false, eq_self, beq_self_eq_true, indexAddrE_def (P := Try.prog) (t := 56), ik_56, newPtr_X wf, load1_X wf, loadAgg_X wf, store1_X wf, writeCells_X wf, makeFunc_def, tEvD21, bsl_22, bsl_43, bsl_51, bsl_96, bsl_105, newSlice_X wf]; first | (refine dec_split (Q := Q_) (fun hp_ => ?_) (fun hp_ => ?_) <;> first | (exfalso; omega) | (refine hQ_ _ _ ?_; clear hQ_ Q_)) | (refine dec_splitn (Q := Q_) (fun hp_ => ?_) (fun hp_ => ?_) <;> first | (exfalso; omega) | (refine hQ_ _ _ ?_; clear hQ_ Q_)) | (refine hQ_ _ _ ?_; clear hQ_ Q_)))
  | (refine WC_cond fun K_ hK_ => ?_; simp (disch := omega) only [evT_tmp, upd_apply, WB_some, ↓reduceIte, reduceCtorEq, Nat.reduceEqDiff, Nat.reduceLT]; refine hK_ _ ?_; clear hK_ K_)))
  refine WC_drawnB (List.replicate 29 .no ++ [.full, .full, .full]) (by kernel_rfl) ?_
  (repeat' (first
  | (with_reducible first | refine WC_seq ?_ | refine WC_skip ?_ | refine WC_label ?_ | refine WC_scope ?_ | refine WC_block ?_ | refine WC_ret ?_ | refine WC_exit ?_ | refine seqQ_norm ?_ | refine seqQ_ret ?_ | refine seqQ_exit ?_ | refine blkQ_norm ?_ | refine blkQ_ret ?_ | refine blkQ_here ?_ | refine gateK_yes ?_ | refine gateK_none ?_ | refine condK_tt ?_ | refine condK_ff ?_ | refine roundQ_exit ?_ | refine roundQ_ret ?_)
  | refine WC_region ?_ | refine blkQ_out rfl ?_ | refine WO_nil ?_ | refine WD_nil ?_
  | ((first | refine WD_gate rfl rfl rfl rfl rfl fun K_ hK_ => ?_ | refine WO_gate rfl rfl rfl rfl rfl fun K_ hK_ => ?_); simp only [upd_apply, asB_bool, asB_tup, ↓reduceIte, reduceCtorEq, Nat.reduceEqDiff, Bool.not_true, Bool.not_false]; refine hK_ _ ?_; clear hK_ K_)
  | refine gateK_no (by decide) ?_
  | ((try first | refine WO_op rfl rfl rfl ?_ | refine WO_op0 rfl rfl ?_ | refine WD_op rfl rfl rfl ?_ | refine WD_op0 rfl rfl ?_); (refine WV_gen fun Q_ hQ_ => ?_; simp (disch := first | omega | (simp only [List.length_cons, List.length_nil, List.length_append]; omega)) only [bb, bp, argF, ↓reduceIte, reduceCtorEq, Nat.reduceEqDiff, Nat.reduceLT, Nat.reduceLeDiff, Nat.reduceAdd, Nat.reduceMul, Nat.reduceSub, Nat.reduceBEq, Int.reduceToNat, cond_true, cond_false, eq_self, beq_self_eq_true, indexAddrE_def (P := Try.prog) (t := 56), ik_56, d1, d2, d3, d4, d5, d6, newPtr_X wf, load1_X wf, loadAgg_X wf, store1_X wf, writeCells_X wf, makeFunc_def, tEvD21, bsl_22, bsl_43, bsl_51, bsl_96, bsl_105, newSlice_X wf]; first | (refine dec_split (Q := Q_) (fun hp_ => ?_) (fun hp_ => ?_) <;> first | (exfalso; omega) | (refine hQ_ _ _ ?_; clear hQ_ Q_)) | (refine dec_splitn (Q := Q_) (fun hp_ => ?_) (fun hp_ => ?_) <;> first | (exfalso; omega) | (refine hQ_ _ _ ?_; clear hQ_ Q_)) | (refine hQ_ _ _ ?_; clear hQ_ Q_)))
  | (refine WC_cond fun K_ hK_ => ?_; simp (disch := omega) only [evT_tmp, upd_apply, WB_some, ↓reduceIte, reduceCtorEq, Nat.reduceEqDiff, Nat.reduceLT]; refine hK_ _ ?_; clear hK_ K_)))
  refine endQ_ret _ _ rfl (retc0 (by decide) (by simp (disch := first | omega | (simp only [List.length_cons, List.length_nil, List.length_append]; omega)) only [bb, bp, argF, ↓reduceIte, reduceCtorEq, Nat.reduceEqDiff, Nat.reduceLT, Nat.reduceLeDiff, Nat.reduceAdd, Nat.reduceMul, Nat.reduceSub, Nat.reduceBEq, Int.reduceToNat, cond_true, cond_false, eq_self, beq_self_eq_true, loadAgg_X wf, tEvD21, bsl_22, bsl_43, bsl_51, bsl_96, bsl_105, newSlice_X wf]; rfl)) ?_
  refine WV_flat rfl (by omega) ?_
  exact ⟨rfl, rfl⟩
end Go.Proofs.Ythaleckfgcgegaa
end

/- EvD24 -/
section
/-
  LAYER 4: limits that are held.
-/
namespace Go.Proofs.Ythaleckfgcgegaa
open Go.Ev
set_option maxRecDepth 100000
set_option linter.unusedSimpArgs false
set_option linter.unusedVariables false
set_option maxHeartbeats 2000000
theorem tEvD24 : type_of% (And.intro (And.intro (And.intro (And.intro (And.intro (And.intro (And.intro (@bs_24) (@bs_33)) (And.intro (@bs_35) (And.intro (@bs_37) (@bs_67)))) (And.intro (And.intro (@bs_76) (And.intro (@bs_87) (@bs_98))) (And.intro (@bs_117) (And.intro (@ia_2) (@sz_2))))) (And.intro (And.intro (And.intro (@ia_3) (@sz_3)) (And.intro (@ia_4) (And.intro (@sz_4) (@ia_22)))) (And.intro (And.intro (@sz_22) (And.intro (@ia_24) (@sz_24))) (And.intro (@ia_27) (And.intro (@sz_27) (@ia_33)))))) (And.intro (And.intro (And.intro (And.intro (@sz_33) (@ia_35)) (And.intro (@sz_35) (And.intro (@ia_37) (@sz_37)))) (And.intro (And.intro (@ia_43) (And.intro (@sz_43) (@ia_51))) (And.intro (@sz_51) (And.intro (@ia_55) (@sz_55))))) (And.intro (And.intro (And.intro (@ia_56) (And.intro (@sz_56) (@ia_67))) (And.intro (@sz_67) (And.intro (@ia_69) (@sz_69)))) (And.intro (And.intro (@ia_70) (And.intro (@sz_70) (@ia_73))) (And.intro (@sz_73) (And.intro (@ia_74) (@sz_74))))))) (And.intro (And.intro (And.intro (And.intro (And.intro (@ia_76) (@sz_76)) (And.intro (@ia_78) (And.intro (@sz_78) (@ia_87)))) (And.intro (And.intro (@sz_87) (And.intro (@ia_89) (@sz_89))) (And.intro (@ia_96) (And.intro (@sz_96) (@ia_98))))) (And.intro (And.intro (And.intro (@sz_98) (@ia_101)) (And.intro (@sz_101) (And.intro (@ia_105) (@sz_105)))) (And.intro (And.intro (@ia_107) (And.intro (@sz_107) (@ia_113))) (And.intro (@sz_113) (And.intro (@ia_114) (@sz_114)))))) (And.intro (And.intro (And.intro (And.intro (@ia_117) (@sz_117)) (And.intro (@ia_119) (And.intro (@sz_119) (@ze_2)))) (And.intro (And.intro (@ze_3) (And.intro (@ze_4) (@ze_24))) (And.intro (@ze_27) (And.intro (@ze_33) (@ze_35))))) (And.intro (And.intro (And.intro (@ze_37) (And.intro (@ze_67) (@ze_69))) (And.intro (@ze_76) (And.intro (@ze_87) (@ze_98)))) (And.intro (And.intro (@ze_117) (And.intro (@fo_24_0) (@fo_24_1))) (And.intro (@fo_33_0) (And.intro (@fo_33_1) (@fo_35_0)))))))) (And.intro (And.intro (And.intro (And.intro (And.intro (And.intro (@fo_35_1) (@fo_35_2)) (And.intro (@fo_35_3) (And.intro (@fo_35_4) (@fo_35_5)))) (And.intro (And.intro (@fo_35_6) (And.intro (@fo_35_7) (@fo_35_8))) (And.intro (@fo_35_9) (And.intro (@fo_37_0) (@fo_37_1))))) (And.intro (And.intro (And.intro (@fo_37_2) (@fo_37_3)) (And.intro (@fo_37_4) (And.intro (@fo_37_5) (@fo_67_0)))) (And.intro (And.intro (@fo_76_0) (And.intro (@fo_76_1) (@fo_87_0))) (And.intro (@fo_87_1) (And.intro (@fo_87_2) (@fo_98_0)))))) (And.intro (And.intro (And.intro (And.intro (@fo_98_1) (@pb_13)) (And.intro (@pb_14) (And.intro (@pb_15) (@pb_16)))) (And.intro (And.intro (@pb_17) (And.intro (@pb_18) (@pb_19))) (And.intro (@pb_20) (And.intro (@pb_21) (@pb_22))))) (And.intro (And.intro (And.intro (@pb_23) (And.intro (@pb_24) (@pb_25))) (And.intro (@pb_26) (And.intro (@pb_27) (@pb_28)))) (And.intro (And.intro (@pb_29) (And.intro (@pb_30) (@pb_31))) (And.intro (@pb_32) (And.intro (@pb_33) (@pb_34))))))) (And.intro (And.intro (And.intro (And.intro (And.intro (@pb_35) (@pb_36)) (And.intro (@pb_37) (And.intro (@pb_38) (@pb_39)))) (And.intro (And.intro (@pb_40) (And.intro (@pb_41) (@pb_42))) (And.intro (@pb_43) (And.intro (@pb_44) (@pb_45))))) (And.intro (And.intro (And.intro (@pb_46) (@pb_47)) (And.intro (@pb_48) (And.intro (@pb_49) (@pb_50)))) (And.intro (And.intro (@pb_51) (And.intro (@pb_52) (@pb_53))) (And.intro (@pb_54) (And.intro (@pb_55) (@pb_56)))))) (And.intro (And.intro (And.intro (And.intro (@pb_57) (@pb_58)) (And.intro (@pb_59) (And.intro (@pb_60) (@pb_61)))) (And.intro (And.intro (@pb_62) (And.intro (@pb_63) (@pb_64))) (And.intro (@pb_65) (And.intro (@pb_66) (@pb_67))))) (And.intro (And.intro (And.intro (@pb_68) (And.intro (@pb_69) (@pb_70))) (And.intro (@pb_71) (And.intro (@pb_72) (@pb_73)))) (And.intro (And.intro (@pb_74) (And.intro (@pb_75) (@pb_76))) (And.intro (@pb_77) (And.intro (@pb_78) (@pb_79))))))))) := And.intro (And.intro (And.intro (And.intro (And.intro (And.intro (And.intro (@bs_24) (@bs_33)) (And.intro (@bs_35) (And.intro (@bs_37) (@bs_67)))) (And.intro (And.intro (@bs_76) (And.intro (@bs_87) (@bs_98))) (And.intro (@bs_117) (And.intro (@ia_2) (@sz_2))))) (And.intro (And.intro (And.intro (@ia_3) (@sz_3)) (And.intro (@ia_4) (And.intro (@sz_4) (@ia_22)))) (And.intro (And.intro (@sz_22) (And.intro (@ia_24) (@sz_24))) (And.intro (@ia_27) (And.intro (@sz_27) (@ia_33)))))) (And.intro (And.intro (And.intro (And.intro (@sz_33) (@ia_35)) (And.intro (@sz_35) (And.intro (@ia_37) (@sz_37)))) (And.intro (And.intro (@ia_43) (And.intro (@sz_43) (@ia_51))) (And.intro (@sz_51) (And.intro (@ia_55) (@sz_55))))) (And.intro (And.intro (And.intro (@ia_56) (And.intro (@sz_56) (@ia_67))) (And.intro (@sz_67) (And.intro (@ia_69) (@sz_69)))) (And.intro (And.intro (@ia_70) (And.intro (@sz_70) (@ia_73))) (And.intro (@sz_73) (And.intro (@ia_74) (@sz_74))))))) (And.intro (And.intro (And.intro (And.intro (And.intro (@ia_76) (@sz_76)) (And.intro (@ia_78) (And.intro (@sz_78) (@ia_87)))) (And.intro (And.intro (@sz_87) (And.intro (@ia_89) (@sz_89))) (And.intro (@ia_96) (And.intro (@sz_96) (@ia_98))))) (And.intro (And.intro (And.intro (@sz_98) (@ia_101)) (And.intro (@sz_101) (And.intro (@ia_105) (@sz_105)))) (And.intro (And.intro (@ia_107) (And.intro (@sz_107) (@ia_113))) (And.intro (@sz_113) (And.intro (@ia_114) (@sz_114)))))) (And.intro (And.intro (And.intro (And.intro (@ia_117) (@sz_117)) (And.intro (@ia_119) (And.intro (@sz_119) (@ze_2)))) (And.intro (And.intro (@ze_3) (And.intro (@ze_4) (@ze_24))) (And.intro (@ze_27) (And.intro (@ze_33) (@ze_35))))) (And.intro (And.intro (And.intro (@ze_37) (And.intro (@ze_67) (@ze_69))) (And.intro (@ze_76) (And.intro (@ze_87) (@ze_98)))) (And.intro (And.intro (@ze_117) (And.intro (@fo_24_0) (@fo_24_1))) (And.intro (@fo_33_0) (And.intro (@fo_33_1) (@fo_35_0)))))))) (And.intro (And.intro (And.intro (And.intro (And.intro (And.intro (@fo_35_1) (@fo_35_2)) (And.intro (@fo_35_3) (And.intro (@fo_35_4) (@fo_35_5)))) (And.intro (And.intro (@fo_35_6) (And.intro (@fo_35_7) (@fo_35_8))) (And.intro (@fo_35_9) (And.intro (@fo_37_0) (@fo_37_1))))) (And.intro (And.intro (And.intro (@fo_37_2) (@fo_37_3)) (And.intro (@fo_37_4) (And.intro (@fo_37_5) (@fo_67_0)))) (And.intro (And.intro (@fo_76_0) (And.intro (@fo_76_1) (@fo_87_0))) (And.intro (@fo_87_1) (And.intro (@fo_87_2) (@fo_98_0)))))) (And.intro (And.intro (And.intro (And.intro (@fo_98_1) (@pb_13)) (And.intro (@pb_14) (And.intro (@pb_15) (@pb_16)))) (And.intro (And.intro (@pb_17) (And.intro (@pb_18) (@pb_19))) (And.intro (@pb_20) (And.intro (@pb_21) (@pb_22))))) (And.intro (And.intro (And.intro (@pb_23) (And.intro (@pb_24) (@pb_25))) (And.intro (@pb_26) (And.intro (@pb_27) (@pb_28)))) (And.intro (And.intro (@pb_29) (And.intro (@pb_30) (@pb_31))) (And.intro (@pb_32) (And.intro (@pb_33) (@pb_34))))))) (And.intro (And.intro (And.intro (And.intro (And.intro (@pb_35) (@pb_36)) (And.intro (@pb_37) (And.intro (@pb_38) (@pb_39)))) (And.intro (And.intro (@pb_40) (And.intro (@pb_41) (@pb_42))) (And.intro (@pb_43) (And.intro (@pb_44) (@pb_45))))) (And.intro (And.intro (And.intro (@pb_46) (@pb_47)) (And.intro (@pb_48) (And.intro (@pb_49) (@pb_50)))) (And.intro (And.intro (@pb_51) (And.intro (@pb_52) (@pb_53))) (And.intro (@pb_54) (And.intro (@pb_55) (@pb_56)))))) (And.intro (And.intro (And.intro (And.intro (@pb_57) (@pb_58)) (And.intro (@pb_59) (And.intro (@pb_60) (@pb_61)))) (And.intro (And.intro (@pb_62) (And.intro (@pb_63) (@pb_64))) (And.intro (@pb_65) (And.intro (@pb_66) (@pb_67))))) (And.intro (And.intro (And.intro (@pb_68) (And.intro (@pb_69) (@pb_70))) (And.intro (@pb_71) (And.intro (@pb_72) (@pb_73)))) (And.intro (And.intro (@pb_74) (And.intro (@pb_75) (@pb_76))) (And.intro (@pb_77) (And.intro (@pb_78) (@pb_79))))))))
/-- Tests side by side in a heap. -/
def teC (T : Te) : List AV := [ii T.sp, ii T.lo, ii T.we, ii T.al, ii T.f0, ii T.f1, ii T.t0, ii T.t1, ii T.s0, ii T.s1, ii T.o0, ii T.o1, ii T.b0, ii T.b1, ii T.r0, ii T.r1]
theorem teC_length (T : Te) : (teC T).length = 16 := rfl
structure TestsR (h : H) (s : AV) (ts : List Te) : Prop where
  wf : Wf h
  sl : Sl h s 16 ts.length (ts.flatMap teC)
theorem TestsR.up {h : H} {s : AV} {ts : List Te} (x : TestsR h s ts) (l : List AO) (w : Nat) (hw : w ≤ h.clock + l.length) : TestsR (X h l w) s ts := ⟨x.wf.X hw, x.sl.up x.wf l w⟩
theorem TestsR.at {h : H} {s : AV} {ts : List Te} (x : TestsR h s ts) {i : Nat} (hi : i < ts.length) : ∃ id off, indexAddrE Try.prog 51 s (.int .i64 (i : Int)) = some (.ptr id off) ∧ (∀ J w, loadAgg id off (some 16) (X h J w) = some (.agg (teC ts[i]))) := by
  obtain ⟨id, off, h1, h2⟩ := x.sl.at x.wf hi ik_51
  refine ⟨id, off, h1, fun J w => ?_⟩
  rw [(h2 J w).2, flat_at teC_length hi]
def rgC (p : Int × Int) : List AV := [ii p.1, ii p.2]
theorem rgC_length (p : Int × Int) : (rgC p).length = 2 := rfl
/-- How many first numbers hold their limits. -/
def holdN : List Int → List Int → Nat
  | v :: vs, m :: ms => if v ≤ m then holdN vs ms + 1 else 0
  | _, _ => 0
theorem holdN_at : ∀ {vs ms : List Int} {i : Nat}, i < vs.length → vs.length ≤ ms.length → (∀ j, j < i → vs.getD j 0 ≤ ms.getD j 0) → ms.getD i 0 < vs.getD i 0 → holdN vs ms = i
  | v :: vs, m :: ms, 0, _, _, _, h => by
    have h' : m < v := h
    show (if v ≤ m then _ else 0) = 0
    rw [if_neg (by omega)]
  | v :: vs, m :: ms, i + 1, h1, h2, h3, h => by
    have h0 : v ≤ m := h3 0 (by omega)
    have := holdN_at (vs := vs) (ms := ms) (i := i) (by simpa using h1) (by simpa using h2) (fun j hj => h3 (j + 1) (by omega)) h
    show (if v ≤ m then holdN vs ms + 1 else 0) = i + 1
    rw [if_pos h0, this]
  | v :: vs, [], i, h1, h2, _, _ => by simp at h2
  | [], _, i, h1, _, _, _ => by simp at h1
theorem holdN_all : ∀ {vs ms : List Int}, vs.length ≤ ms.length → (∀ j, j < vs.length → vs.getD j 0 ≤ ms.getD j 0) → holdN vs ms = vs.length
  | [], ms, _, _ => by cases ms <;> rfl
  | v :: vs, m :: ms, h2, h3 => by
    have h0 : v ≤ m := h3 0 (by simp)
    have := holdN_all (vs := vs) (ms := ms) (by simpa using h2) (fun j hj => h3 (j + 1) (by simpa using hj))
    show (if v ≤ m then holdN vs ms + 1 else 0) = vs.length + 1
    rw [if_pos h0, this]
  | v :: vs, [], h2, _ => by simp at h2

theorem hiOf (u v : Int) (h : H) (wf : Wf h) : (om Try.prog KK).call (.fn 63 [.agg [ii u, ii v]]) h = .ok (ii v) h := by
  refine WV_to (WV_call (fn := Try.f63) Try.func63 rfl rfl rfl rfl rfl ?_)
  simp only [argF]
  (repeat' (first
  | (with_reducible first | refine WC_seq ?_ | refine WC_skip ?_ | refine WC_label ?_ | refine WC_scope ?_ | refine WC_block ?_ | refine WC_ret ?_ | refine WC_exit ?_ | refine seqQ_norm ?_ | refine seqQ_ret ?_ | refine seqQ_exit ?_ | refine blkQ_norm ?_ | refine blkQ_ret ?_ | refine blkQ_here ?_ | refine gateK_yes ?_ | refine gateK_none ?_ | refine condK_tt ?_ | refine condK_ff ?_ | refine roundQ_exit ?_ | refine roundQ_ret ?_)
  | refine WC_region ?_ | refine blkQ_out rfl ?_ | refine WO_nil ?_ | refine WD_nil ?_
  | ((first | refine WD_gate rfl rfl rfl rfl rfl fun K_ hK_ => ?_ | refine WO_gate rfl rfl rfl rfl rfl fun K_ hK_ => ?_); simp only [upd_apply, asB_bool, asB_tup, ↓reduceIte, reduceCtorEq, Nat.reduceEqDiff, Bool.not_true, Bool.not_false]; refine hK_ _ ?_; clear hK_ K_)
  | refine gateK_no (by decide) ?_
  | ((try first | refine WO_op rfl rfl rfl ?_ | refine WO_op0 rfl rfl ?_ | refine WD_op rfl rfl rfl ?_ | refine WD_op0 rfl rfl ?_); (refine WV_gen fun Q_ hQ_ => ?_; simp (disch := first | omega | (simp only [List.length_cons, List.length_nil, List.length_append]; omega)) only [bb, bp, argF, ↓reduceIte, reduceCtorEq, Nat.reduceEqDiff, Nat.reduceLT, Nat.reduceLeDiff, Nat.reduceAdd, Nat.reduceMul, Nat.reduceSub, Nat.reduceBEq, Int.reduceToNat, cond_true, cond_false, eq_self, beq_self_eq_true, newPtr_X wf, load1_X wf, loadAgg_X wf, store1_X wf, writeCells_X wf, makeFunc_def, tEvD24, bsl_22, bsl_43, bsl_51, bsl_96, bsl_105, newSlice_X wf]; first | (refine dec_split (Q := Q_) (fun hp_ => ?_) (fun hp_ => ?_) <;> first | (exfalso; omega) | (refine hQ_ _ _ ?_; clear hQ_ Q_)) | (refine dec_splitn (Q := Q_) (fun hp_ => ?_) (fun hp_ => ?_) <;> first | (exfalso; omega) | (refine hQ_ _ _ ?_; clear hQ_ Q_)) | (refine hQ_ _ _ ?_; clear hQ_ Q_)))
  | (refine WC_cond fun K_ hK_ => ?_; simp (disch := omega) only [evT_tmp, upd_apply, WB_some, ↓reduceIte, reduceCtorEq, Nat.reduceEqDiff, Nat.reduceLT]; refine hK_ _ ?_; clear hK_ K_)))
  (refine endQ_ret _ _ rfl (ret1 (by decide)) ?_; simp only [upd_apply, ↓reduceIte, reduceCtorEq, Nat.reduceEqDiff]; refine WV_flat rfl (by omega) ?_)
  exact ⟨rfl, rfl⟩
theorem loOf (u v : Int) (h : H) (wf : Wf h) : (om Try.prog KK).call (.fn 64 [.agg [ii u, ii v]]) h = .ok (ii u) h := by
  refine WV_to (WV_call (fn := Try.f64) Try.func64 rfl rfl rfl rfl rfl ?_)
  simp only [argF]
  (repeat' (first
  | (with_reducible first | refine WC_seq ?_ | refine WC_skip ?_ | refine WC_label ?_ | refine WC_scope ?_ | refine WC_block ?_ | refine WC_ret ?_ | refine WC_exit ?_ | refine seqQ_norm ?_ | refine seqQ_ret ?_ | refine seqQ_exit ?_ | refine blkQ_norm ?_ | refine blkQ_ret ?_ | refine blkQ_here ?_ | refine gateK_yes ?_ | refine gateK_none ?_ | refine condK_tt ?_ | refine condK_ff ?_ | refine roundQ_exit ?_ | refine roundQ_ret ?_)
  | refine WC_region ?_ | refine blkQ_out rfl ?_ | refine WO_nil ?_ | refine WD_nil ?_
  | ((first | refine WD_gate rfl rfl rfl rfl rfl fun K_ hK_ => ?_ | refine WO_gate rfl rfl rfl rfl rfl fun K_ hK_ => ?_); simp only [upd_apply, asB_bool, asB_tup, ↓reduceIte, reduceCtorEq, Nat.reduceEqDiff, Bool.not_true, Bool.not_false]; refine hK_ _ ?_; clear hK_ K_)
  | refine gateK_no (by decide) ?_
  | ((try first | refine WO_op rfl rfl rfl ?_ | refine WO_op0 rfl rfl ?_ | refine WD_op rfl rfl rfl ?_ | refine WD_op0 rfl rfl ?_); (refine WV_gen fun Q_ hQ_ => ?_; simp (disch := first | omega | (simp only [List.length_cons, List.length_nil, List.length_append]; omega)) only [bb, bp, argF, ↓reduceIte, reduceCtorEq, Nat.reduceEqDiff, Nat.reduceLT, Nat.reduceLeDiff, Nat.reduceAdd, Nat.reduceMul, Nat.reduceSub, Nat.reduceBEq, Int.reduceToNat, cond_true, cond_false, eq_self, beq_self_eq_true, newPtr_X wf, load1_X wf, loadAgg_X wf, store1_X wf, writeCells_X wf, makeFunc_def, tEvD24, bsl_22, bsl_43, bsl_51, bsl_96, bsl_105, newSlice_X wf]; first | (refine dec_split (Q := Q_) (fun hp_ => ?_) (fun hp_ => ?_) <;> first | (exfalso; omega) | (refine hQ_ _ _ ?_; clear hQ_ Q_)) | (refine dec_splitn (Q := Q_) (fun hp_ => ?_) (fun hp_ => ?_) <;> first | (exfalso; omega) | (refine hQ_ _ _ ?_; clear hQ_ Q_)) | (refine hQ_ _ _ ?_; clear hQ_ Q_)))
  | (refine WC_cond fun K_ hK_ => ?_; simp (disch := omega) only [evT_tmp, upd_apply, WB_some, ↓reduceIte, reduceCtorEq, Nat.reduceEqDiff, Nat.reduceLT]; refine hK_ _ ?_; clear hK_ K_)))
  (refine endQ_ret _ _ rfl (ret1 (by decide)) ?_; simp only [upd_apply, ↓reduceIte, reduceCtorEq, Nat.reduceEqDiff]; refine WV_flat rfl (by omega) ?_)
  exact ⟨rfl, rfl⟩
theorem held (g : Nat) (hg : g = 63 ∨ g = 64) (m p : AV) (ms : List Int) (ps : List (Int × Int)) (hlen : ps.length = ms.length) (hn : ms.length ≤ 1000) (h : H) (wf : Wf h) (hm : Sl h m 1 ms.length (ms.map ii)) (hp : Sl h p 2 ps.length (ps.flatMap rgC)) (fm : AV.cells m = [m] ∧ oneB m = true) (fp : AV.cells p = [p] ∧ oneB p = true) :
    (om Try.prog KK).call (.fn 62 [.agg [m, p], .fn g [] []]) h = .ok (ii (holdN (ps.map fun q => if g = 63 then q.2 else q.1) ms : Nat)) h := by
  obtain ⟨f1, f2⟩ := fm
  obtain ⟨f3, f4⟩ := fp
  have hl : ∀ h', lenE Try.prog 96 p h' = some (ii (ps.length : Int)) := fun h' => hp.len un_96
  have hpb : plainB Try.prog g = true := by rcases hg with rfl | rfl <;> first | exact pb_63 | exact pb_64
  have cg : ∀ u v l w, w ≤ h.clock + l.length → (om Try.prog KK).call (.fn g [.agg [ii u, ii v]]) (X h l w) = .ok (ii (if g = 63 then v else u)) (X h l w) := fun u v l w hw => by
    rcases hg with rfl | rfl
    · exact hiOf u v _ (wf.X hw)
    · exact loOf u v _ (wf.X hw)
  have vl : (ps.map fun q => if g = 63 then q.2 else q.1).length = ps.length := by simp
  have vg : ∀ j (hj : j < ps.length), (ps.map fun q => if g = 63 then q.2 else q.1).getD j 0 = if g = 63 then ps[j].2 else ps[j].1 := fun j hj => by simp [List.getD, hj]
  generalize (ps.map fun q => if g = 63 then q.2 else q.1) = vs at *
  refine WV_to (WV_call (fn := Try.f62) Try.func62 rfl rfl rfl rfl rfl ?_)
  simp only [argF]
  (repeat' (first
  | (with_reducible first | refine WC_seq ?_ | refine WC_skip ?_ | refine WC_label ?_ | refine WC_scope ?_ | refine WC_block ?_ | refine WC_ret ?_ | refine WC_exit ?_ | refine seqQ_norm ?_ | refine seqQ_ret ?_ | refine seqQ_exit ?_ | refine blkQ_norm ?_ | refine blkQ_ret ?_ | refine blkQ_here ?_ | refine gateK_yes ?_ | refine gateK_none ?_ | refine condK_tt ?_ | refine condK_ff ?_ | refine roundQ_exit ?_ | refine roundQ_ret ?_)
  | refine WC_region ?_ | refine blkQ_out rfl ?_ | refine WO_nil ?_ | refine WD_nil ?_
  | ((first | refine WD_gate rfl rfl rfl rfl rfl fun K_ hK_ => ?_ | refine WO_gate rfl rfl rfl rfl rfl fun K_ hK_ => ?_); simp only [upd_apply, asB_bool, asB_tup, ↓reduceIte, reduceCtorEq, Nat.reduceEqDiff, Bool.not_true, Bool.not_false]; refine hK_ _ ?_; clear hK_ K_)
  | refine gateK_no (by decide) ?_
  | ((try first | refine WO_op rfl rfl rfl ?_ | refine WO_op0 rfl rfl ?_ | refine WD_op rfl rfl rfl ?_ | refine WD_op0 rfl rfl ?_); (refine WV_gen fun Q_ hQ_ => ?_; simp (disch := first | omega | (simp only [List.length_cons, List.length_nil, List.length_append]; omega)) only [bb, bp, argF, ↓reduceIte, reduceCtorEq, Nat.reduceEqDiff, Nat.reduceLT, Nat.reduceLeDiff, Nat.reduceAdd, Nat.reduceMul, Nat.reduceSub, Nat.reduceBEq, Int.reduceToNat, cond_true, cond_false, eq_self, beq_self_eq_true, hl, f1, f2, f3, f4, newPtr_X wf, load1_X wf, loadAgg_X wf, store1_X wf, writeCells_X wf, makeFunc_def, tEvD24, bsl_22, bsl_43, bsl_51, bsl_96, bsl_105, newSlice_X wf]; first | (refine dec_split (Q := Q_) (fun hp_ => ?_) (fun hp_ => ?_) <;> first | (exfalso; omega) | (refine hQ_ _ _ ?_; clear hQ_ Q_)) | (refine dec_splitn (Q := Q_) (fun hp_ => ?_) (fun hp_ => ?_) <;> first | (exfalso; omega) | (refine hQ_ _ _ ?_; clear hQ_ Q_)) | (refine hQ_ _ _ ?_; clear hQ_ Q_)))
  | (refine WC_cond fun K_ hK_ => ?_; simp (disch := omega) only [evT_tmp, upd_apply, WB_some, ↓reduceIte, reduceCtorEq, Nat.reduceEqDiff, Nat.reduceLT]; refine hK_ _ ?_; clear hK_ K_)))
  refine WC_loop (fun (i : Nat) f d h' => i ≤ ps.length ∧ (∀ j, j < i → vs.getD j 0 ≤ ms.getD j 0) ∧ f 1 = .fn g [] [] ∧ f 2 = .ptr (nx h 0) 0 ∧ f 8 = p ∧ f 9 = ii (ps.length : Int) ∧ f 10 = ii (i : Int) ∧ d = [] ∧ ∃ G, h' = X h (.cells (mkCells [m, p]) 98 :: G) h.clock) (fun i => ps.length - i) ?_ (ps.length + 1) 0 (by omega) ?_
  · rintro i f d h' ⟨hi, hall, g1, g2, g8, g9, g10, rfl, G, rfl⟩
    by_cases hlt : i < ps.length
    · obtain ⟨id, off, hix, hld⟩ := hp.at wf hlt ik_96
      have hrow : ∀ l w, loadAgg id off (some 2) (X h l w) = some (.agg [ii ps[i].1, ii ps[i].2]) := fun l w => by rw [(hld l w).2, flat_at rgC_length hlt]; rfl
      obtain ⟨ie, oe, hxe, hle⟩ := hm.at1 wf (i := i) (by omega) ik_22
      have hle' : ∀ J w, load1 ie oe (X h J w) = some (ii (ms.getD i 0)) := fun J w => by
        rw [hle, List.getElem?_map]; simp [List.getD, show i < ms.length by omega]
      have hv := vg i hlt
      generalize ps[i].1 = p1 at *
      generalize ps[i].2 = p2 at *
      generalize hmi : ms.getD i 0 = mi at *
      have cgi := cg p1 p2
      rw [← hv] at cgi
      generalize hvi : vs.getD i 0 = vi at *
      (repeat' (first
  | (with_reducible first | refine WC_seq ?_ | refine WC_skip ?_ | refine WC_label ?_ | refine WC_scope ?_ | refine WC_block ?_ | refine WC_ret ?_ | refine WC_exit ?_ | refine seqQ_norm ?_ | refine seqQ_ret ?_ | refine seqQ_exit ?_ | refine blkQ_norm ?_ | refine blkQ_ret ?_ | refine blkQ_here ?_ | refine gateK_yes ?_ | refine gateK_none ?_ | refine condK_tt ?_ | refine condK_ff ?_ | refine roundQ_exit ?_ | refine roundQ_ret ?_)
  | refine WC_region ?_ | refine blkQ_out rfl ?_ | refine WO_nil ?_ | refine WD_nil ?_
  | ((first | refine WD_gate rfl rfl rfl rfl rfl fun K_ hK_ => ?_ | refine WO_gate rfl rfl rfl rfl rfl fun K_ hK_ => ?_); simp only [upd_apply, asB_bool, asB_tup, ↓reduceIte, reduceCtorEq, Nat.reduceEqDiff, Bool.not_true, Bool.not_false]; refine hK_ _ ?_; clear hK_ K_)
  | refine gateK_no (by decide) ?_
  | ((try first | refine WO_op rfl rfl rfl ?_ | refine WO_op0 rfl rfl ?_ | refine WD_op rfl rfl rfl ?_ | refine WD_op0 rfl rfl ?_); (refine WV_gen fun Q_ hQ_ => ?_; simp (disch := first | omega | (simp only [List.length_cons, List.length_nil, List.length_append]; omega)) only [bb, bp, argF, ↓reduceIte, reduceCtorEq, Nat.reduceEqDiff, Nat.reduceLT, Nat.reduceLeDiff, Nat.reduceAdd, Nat.reduceMul, Nat.reduceSub, Nat.reduceBEq, Int.reduceToNat, cond_true, cond_false, eq_self, beq_self_eq_true, g1, g2, g8, g9, g10, hix, hrow, newPtr_X wf, load1_X wf, loadAgg_X wf, store1_X wf, writeCells_X wf, makeFunc_def, tEvD24, bsl_22, bsl_43, bsl_51, bsl_96, bsl_105, newSlice_X wf]; first | (refine dec_split (Q := Q_) (fun hp_ => ?_) (fun hp_ => ?_) <;> first | (exfalso; omega) | (refine hQ_ _ _ ?_; clear hQ_ Q_)) | (refine dec_splitn (Q := Q_) (fun hp_ => ?_) (fun hp_ => ?_) <;> first | (exfalso; omega) | (refine hQ_ _ _ ?_; clear hQ_ Q_)) | (refine hQ_ _ _ ?_; clear hQ_ Q_)))
  | (refine WC_cond fun K_ hK_ => ?_; simp (disch := omega) only [evT_tmp, upd_apply, WB_some, ↓reduceIte, reduceCtorEq, Nat.reduceEqDiff, Nat.reduceLT]; refine hK_ _ ?_; clear hK_ K_)))
      refine WC_drawnB (List.replicate 8 .no ++ [.full]) (by kernel_rfl) ?_
      (repeat' (first
  | (with_reducible first | refine WC_seq ?_ | refine WC_skip ?_ | refine WC_label ?_ | refine WC_scope ?_ | refine WC_block ?_ | refine WC_ret ?_ | refine WC_exit ?_ | refine seqQ_norm ?_ | refine seqQ_ret ?_ | refine seqQ_exit ?_ | refine blkQ_norm ?_ | refine blkQ_ret ?_ | refine blkQ_here ?_ | refine gateK_yes ?_ | refine gateK_none ?_ | refine condK_tt ?_ | refine condK_ff ?_ | refine roundQ_exit ?_ | refine roundQ_ret ?_)
  | refine WC_region ?_ | refine blkQ_out rfl ?_ | refine WO_nil ?_ | refine WD_nil ?_
  | ((first | refine WD_gate rfl rfl rfl rfl rfl fun K_ hK_ => ?_ | refine WO_gate rfl rfl rfl rfl rfl fun K_ hK_ => ?_); simp only [upd_apply, asB_bool, asB_tup, ↓reduceIte, reduceCtorEq, Nat.reduceEqDiff, Bool.not_true, Bool.not_false]; refine hK_ _ ?_; clear hK_ K_)
  | refine gateK_no (by decide) ?_
  | ((try first | refine WO_op rfl rfl rfl ?_ | refine WO_op0 rfl rfl ?_ | refine WD_op rfl rfl rfl ?_ | refine WD_op0 rfl rfl ?_); (refine WV_gen fun Q_ hQ_ => ?_; simp (disch := first | omega | (simp only [List.length_cons, List.length_nil, List.length_append]; omega)) only [bb, bp, argF, ↓reduceIte, reduceCtorEq, Nat.reduceEqDiff, Nat.reduceLT, Nat.reduceLeDiff, Nat.reduceAdd, Nat.reduceMul, Nat.reduceSub, Nat.reduceBEq, Int.reduceToNat, cond_true, cond_false, eq_self, beq_self_eq_true, g1, g2, g8, g9, g10, hpb, callV_fn, cgi, hxe, hle', f1, f2, f3, f4, newPtr_X wf, load1_X wf, loadAgg_X wf, store1_X wf, writeCells_X wf, makeFunc_def, tEvD24, bsl_22, bsl_43, bsl_51, bsl_96, bsl_105, newSlice_X wf]; first | (refine dec_split (Q := Q_) (fun hp_ => ?_) (fun hp_ => ?_) <;> first | (exfalso; omega) | (refine hQ_ _ _ ?_; clear hQ_ Q_)) | (refine dec_splitn (Q := Q_) (fun hp_ => ?_) (fun hp_ => ?_) <;> first | (exfalso; omega) | (refine hQ_ _ _ ?_; clear hQ_ Q_)) | (refine hQ_ _ _ ?_; clear hQ_ Q_)))
  | (refine WC_cond fun K_ hK_ => ?_; simp (disch := omega) only [evT_tmp, upd_apply, WB_some, ↓reduceIte, reduceCtorEq, Nat.reduceEqDiff, Nat.reduceLT]; refine hK_ _ ?_; clear hK_ K_)))
      · (refine endQ_ret _ _ rfl (ret1 (by decide)) ?_; simp only [upd_apply, ↓reduceIte, reduceCtorEq, Nat.reduceEqDiff]; refine WV_flat rfl (by omega) ?_)
        exact ⟨by rw [holdN_at (vs := vs) (ms := ms) (i := i) (by omega) (by omega) hall (by omega)], rfl⟩
      · refine roundQ_again (i + 1) (by omega) ⟨hlt, fun j hj => ?_, by simp only [upd_apply, ↓reduceIte, reduceCtorEq, Nat.reduceEqDiff]; exact g1, by simp only [upd_apply, ↓reduceIte, reduceCtorEq, Nat.reduceEqDiff]; exact g2, by simp only [upd_apply, ↓reduceIte, reduceCtorEq, Nat.reduceEqDiff]; exact g8, by simp only [upd_apply, ↓reduceIte, reduceCtorEq, Nat.reduceEqDiff]; exact g9, by simp only [upd_apply, ↓reduceIte, reduceCtorEq, Nat.reduceEqDiff]; rfl, rfl, _, rfl⟩
        by_cases hji : j = i
        · rw [hji, hvi, hmi]; omega
        · exact hall j (by omega)
    · have hie : i = ps.length := by omega
      (repeat' (first
  | (with_reducible first | refine WC_seq ?_ | refine WC_skip ?_ | refine WC_label ?_ | refine WC_scope ?_ | refine WC_block ?_ | refine WC_ret ?_ | refine WC_exit ?_ | refine seqQ_norm ?_ | refine seqQ_ret ?_ | refine seqQ_exit ?_ | refine blkQ_norm ?_ | refine blkQ_ret ?_ | refine blkQ_here ?_ | refine gateK_yes ?_ | refine gateK_none ?_ | refine condK_tt ?_ | refine condK_ff ?_ | refine roundQ_exit ?_ | refine roundQ_ret ?_)
  | refine WC_region ?_ | refine blkQ_out rfl ?_ | refine WO_nil ?_ | refine WD_nil ?_
  | ((first | refine WD_gate rfl rfl rfl rfl rfl fun K_ hK_ => ?_ | refine WO_gate rfl rfl rfl rfl rfl fun K_ hK_ => ?_); simp only [upd_apply, asB_bool, asB_tup, ↓reduceIte, reduceCtorEq, Nat.reduceEqDiff, Bool.not_true, Bool.not_false]; refine hK_ _ ?_; clear hK_ K_)
  | refine gateK_no (by decide) ?_
  | ((try first | refine WO_op rfl rfl rfl ?_ | refine WO_op0 rfl rfl ?_ | refine WD_op rfl rfl rfl ?_ | refine WD_op0 rfl rfl ?_); (refine WV_gen fun Q_ hQ_ => ?_; simp (disch := first | omega | (simp only [List.length_cons, List.length_nil, List.length_append]; omega)) only [bb, bp, argF, ↓reduceIte, reduceCtorEq, Nat.reduceEqDiff, Nat.reduceLT, Nat.reduceLeDiff, Nat.reduceAdd, Nat.reduceMul, Nat.reduceSub, Nat.reduceBEq, Int.reduceToNat, cond_true, cond_false, eq_self, beq_self_eq_true, g1, g2, g8, g9, g10, hl, newPtr_X wf, load1_X wf, loadAgg_X wf, store1_X wf, writeCells_X wf, makeFunc_def, tEvD24, bsl_22, bsl_43, bsl_51, bsl_96, bsl_105, newSlice_X wf]; first | (refine dec_split (Q := Q_) (fun hp_ => ?_) (fun hp_ => ?_) <;> first | (exfalso; omega) | (refine hQ_ _ _ ?_; clear hQ_ Q_)) | (refine dec_splitn (Q := Q_) (fun hp_ => ?_) (fun hp_ => ?_) <;> first | (exfalso; omega) | (refine hQ_ _ _ ?_; clear hQ_ Q_)) | (refine hQ_ _ _ ?_; clear hQ_ Q_)))
  | (refine WC_cond fun K_ hK_ => ?_; simp (disch := omega) only [evT_tmp, upd_apply, WB_some, ↓reduceIte, reduceCtorEq, Nat.reduceEqDiff, Nat.reduceLT]; refine hK_ _ ?_; clear hK_ K_)))
      (refine endQ_ret _ _ rfl (ret1 (by decide)) ?_; simp only [upd_apply, ↓reduceIte, reduceCtorEq, Nat.reduceEqDiff]; refine WV_flat rfl (by omega) ?_)
      exact ⟨by rw [holdN_all (vs := vs) (ms := ms) (by omega) (fun j hj => hall j (by omega)), vl], rfl⟩
  · exact ⟨Nat.zero_le _, fun j hj => absurd hj (Nat.not_lt_zero j), by simp only [upd_apply, ↓reduceIte, reduceCtorEq, Nat.reduceEqDiff], by simp only [upd_apply, ↓reduceIte, reduceCtorEq, Nat.reduceEqDiff], by simp only [upd_apply, ↓reduceIte, reduceCtorEq, Nat.reduceEqDiff], by simp only [upd_apply, ↓reduceIte, reduceCtorEq, Nat.reduceEqDiff], by first | (simp only [upd_apply, ↓reduceIte, reduceCtorEq, Nat.reduceEqDiff]; done) | (simp only [upd_apply, ↓reduceIte, reduceCtorEq, Nat.reduceEqDiff]; rfl), rfl, [], rfl⟩
end Go.Proofs.Ythaleckfgcgegaa
end

/- EvDq -/
section
/-
  LAYER 4: lists of lines, of tests and of limits that come in.
-/
namespace Go.Proofs.Ythaleckfgcgegaa
open Go.ChangeShapes Go.WideShapes Go.ChangeAt Go.RowKit Go.Ev
set_option maxRecDepth 100000
set_option maxHeartbeats 0
instance : Inhabited Ln := ⟨⟨.nils, .nils, [], []⟩⟩
instance : Inhabited Te := ⟨⟨0, 0, 0, 0, 0, 0, 0, 0, 0, 0, 0, 0, 0, 0, 0, 0⟩⟩
section
variable {H : Type} {enc : TypeId × Value → H} {r : Reach} {bs : Nat}
theorem lines_in {W : World} {v : Value} {fuel : Nat} {x : DataW H × List MemPlace} (hval : Cell.okWide Try.prog W r bs 43 v) (h : DataW.trod enc Try.prog W 0 (fun _ => true) true fuel 43 [v] = some x) :
    ∃ (a : AV) (ls : List Ln), VR (startWR W) a v ∧ CapU 2 a ∧ LinesR (startW W) a ls := by
  obtain ⟨f0, f1, hu, o0, o1, t0, t1⟩ := under24
  obtain ⟨ls, b, h1, h2, h3, h4⟩ := open_elems (f := lnC) (R := fun l => LineR (startW W) l.a l.b l.re l.cf) Try.underlying43 cells24 (by decide) lnC_length hval h (fun cs n y hl hy => by
    obtain ⟨xs, k, _, _, _, hxl, hf⟩ := DataW.trod_struct hu hy
    have g0 := hf 0 f0 rfl
    have g1 := hf 1 f1 rfl
    rw [o0, t0, cells22] at g0
    rw [o1, t1, cells22] at g1
    have hl2 : xs.length = 2 := hxl
    rw [List.getElem?_eq_getElem (by omega)] at g0 g1
    match cs, hl with
    | [u, w], _ =>
      obtain ⟨re, a, q1, _, q3⟩ := open_row_ints Try.underlying22 Try.underlying2 cells2 g0
      obtain ⟨cf, b, q4, _, q6⟩ := open_row_ints Try.underlying22 Try.underlying2 cells2 g1
      refine ⟨⟨a, b, re, cf⟩, fun k hk => ?_, startW_wf W, q3, q6⟩
      match k, hk with
      | 0, _ => exact q1
      | 1, _ => exact q4)
  exact ⟨b, ls, h1, h2.capu 2, startW_wf W, h3, h4⟩
end
end Go.Proofs.Ythaleckfgcgegaa
end

/- EvD25 -/
section
/-
  LAYER 4: limits.
-/
namespace Go.Proofs.Ythaleckfgcgegaa
open Go.Ev
set_option maxRecDepth 100000
set_option linter.unusedSimpArgs false
set_option linter.unusedVariables false
set_option maxHeartbeats 2000000
theorem tEvD25 : type_of% (And.intro (And.intro (And.intro (And.intro (And.intro (And.intro (And.intro (@bs_24) (@bs_33)) (And.intro (@bs_35) (And.intro (@bs_37) (@bs_67)))) (And.intro (And.intro (@bs_76) (And.intro (@bs_87) (@bs_98))) (And.intro (@bs_117) (And.intro (@ia_2) (@sz_2))))) (And.intro (And.intro (And.intro (@ia_3) (@sz_3)) (And.intro (@ia_4) (And.intro (@sz_4) (@ia_22)))) (And.intro (And.intro (@sz_22) (And.intro (@ia_24) (@sz_24))) (And.intro (@ia_27) (And.intro (@sz_27) (@ia_33)))))) (And.intro (And.intro (And.intro (And.intro (@sz_33) (@ia_35)) (And.intro (@sz_35) (And.intro (@ia_37) (@sz_37)))) (And.intro (And.intro (@ia_43) (And.intro (@sz_43) (@ia_51))) (And.intro (@sz_51) (And.intro (@ia_55) (@sz_55))))) (And.intro (And.intro (And.intro (@ia_56) (And.intro (@sz_56) (@ia_67))) (And.intro (@sz_67) (And.intro (@ia_69) (@sz_69)))) (And.intro (And.intro (@ia_70) (And.intro (@sz_70) (@ia_73))) (And.intro (@sz_73) (And.intro (@ia_74) (@sz_74))))))) (And.intro (And.intro (And.intro (And.intro (And.intro (@ia_76) (@sz_76)) (And.intro (@ia_78) (And.intro (@sz_78) (@ia_87)))) (And.intro (And.intro (@sz_87) (And.intro (@ia_89) (@sz_89))) (And.intro (@ia_96) (And.intro (@sz_96) (@ia_98))))) (And.intro (And.intro (And.intro (@sz_98) (@ia_101)) (And.intro (@sz_101) (And.intro (@ia_105) (@sz_105)))) (And.intro (And.intro (@ia_107) (And.intro (@sz_107) (@ia_113))) (And.intro (@sz_113) (And.intro (@ia_114) (@sz_114)))))) (And.intro (And.intro (And.intro (And.intro (@ia_117) (@sz_117)) (And.intro (@ia_119) (And.intro (@sz_119) (@ze_2)))) (And.intro (And.intro (@ze_3) (And.intro (@ze_4) (@ze_24))) (And.intro (@ze_27) (And.intro (@ze_33) (@ze_35))))) (And.intro (And.intro (And.intro (@ze_37) (And.intro (@ze_67) (@ze_69))) (And.intro (@ze_76) (And.intro (@ze_87) (@ze_98)))) (And.intro (And.intro (@ze_117) (And.intro (@fo_24_0) (@fo_24_1))) (And.intro (@fo_33_0) (And.intro (@fo_33_1) (@fo_35_0)))))))) (And.intro (And.intro (And.intro (And.intro (And.intro (And.intro (@fo_35_1) (@fo_35_2)) (And.intro (@fo_35_3) (And.intro (@fo_35_4) (@fo_35_5)))) (And.intro (And.intro (@fo_35_6) (And.intro (@fo_35_7) (@fo_35_8))) (And.intro (@fo_35_9) (And.intro (@fo_37_0) (@fo_37_1))))) (And.intro (And.intro (And.intro (@fo_37_2) (@fo_37_3)) (And.intro (@fo_37_4) (And.intro (@fo_37_5) (@fo_67_0)))) (And.intro (And.intro (@fo_76_0) (And.intro (@fo_76_1) (@fo_87_0))) (And.intro (@fo_87_1) (And.intro (@fo_87_2) (@fo_98_0)))))) (And.intro (And.intro (And.intro (And.intro (@fo_98_1) (@pb_13)) (And.intro (@pb_14) (And.intro (@pb_15) (@pb_16)))) (And.intro (And.intro (@pb_17) (And.intro (@pb_18) (@pb_19))) (And.intro (@pb_20) (And.intro (@pb_21) (@pb_22))))) (And.intro (And.intro (And.intro (@pb_23) (And.intro (@pb_24) (@pb_25))) (And.intro (@pb_26) (And.intro (@pb_27) (@pb_28)))) (And.intro (And.intro (@pb_29) (And.intro (@pb_30) (@pb_31))) (And.intro (@pb_32) (And.intro (@pb_33) (@pb_34))))))) (And.intro (And.intro (And.intro (And.intro (And.intro (@pb_35) (@pb_36)) (And.intro (@pb_37) (And.intro (@pb_38) (@pb_39)))) (And.intro (And.intro (@pb_40) (And.intro (@pb_41) (@pb_42))) (And.intro (@pb_43) (And.intro (@pb_44) (@pb_45))))) (And.intro (And.intro (And.intro (@pb_46) (@pb_47)) (And.intro (@pb_48) (And.intro (@pb_49) (@pb_50)))) (And.intro (And.intro (@pb_51) (And.intro (@pb_52) (@pb_53))) (And.intro (@pb_54) (And.intro (@pb_55) (@pb_56)))))) (And.intro (And.intro (And.intro (And.intro (@pb_57) (@pb_58)) (And.intro (@pb_59) (And.intro (@pb_60) (@pb_61)))) (And.intro (And.intro (@pb_62) (And.intro (@pb_63) (@pb_64))) (And.intro (@pb_65) (And.intro (@pb_66) (@pb_67))))) (And.intro (And.intro (And.intro (@pb_68) (And.intro (@pb_69) (@pb_70))) (And.intro (@pb_71) (And.intro (@pb_72) (@pb_73)))) (And.intro (And.intro (@pb_74) (And.intro (@pb_75) (@pb_76))) (And.intro (@pb_77) (And.intro (@pb_78) (@pb_79))))))))) := And.intro (And.intro (And.intro (And.intro (And.intro (And.intro (And.intro (@bs_24) (@bs_33)) (And.intro (@bs_35) (And.intro (@bs_37) (@bs_67)))) (And.intro (And.intro (@bs_76) (And.intro (@bs_87) (@bs_98))) (And.intro (@bs_117) (And.intro (@ia_2) (@sz_2))))) (And.intro (And.intro (And.intro (@ia_3) (@sz_3)) (And.intro (@ia_4) (And.intro (@sz_4) (@ia_22)))) (And.intro (And.intro (@sz_22) (And.intro (@ia_24) (@sz_24))) (And.intro (@ia_27) (And.intro (@sz_27) (@ia_33)))))) (And.intro (And.intro (And.intro (And.intro (@sz_33) (@ia_35)) (And.intro (@sz_35) (And.intro (@ia_37) (@sz_37)))) (And.intro (And.intro (@ia_43) (And.intro (@sz_43) (@ia_51))) (And.intro (@sz_51) (And.intro (@ia_55) (@sz_55))))) (And.intro (And.intro (And.intro (@ia_56) (And.intro (@sz_56) (@ia_67))) (And.intro (@sz_67) (And.intro (@ia_69) (@sz_69)))) (And.intro (And.intro (@ia_70) (And.intro (@sz_70) (@ia_73))) (And.intro (@sz_73) (And.intro (@ia_74) (@sz_74))))))) (And.intro (And.intro (And.intro (And.intro (And.intro (@ia_76) (@sz_76)) (And.intro (@ia_78) (And.intro (@sz_78) (@ia_87)))) (And.intro (And.intro (@sz_87) (And.intro (@ia_89) (@sz_89))) (And.intro (@ia_96) (And.intro (@sz_96) (@ia_98))))) (And.intro (And.intro (And.intro (@sz_98) (@ia_101)) (And.intro (@sz_101) (And.intro (@ia_105) (@sz_105)))) (And.intro (And.intro (@ia_107) (And.intro (@sz_107) (@ia_113))) (And.intro (@sz_113) (And.intro (@ia_114) (@sz_114)))))) (And.intro (And.intro (And.intro (And.intro (@ia_117) (@sz_117)) (And.intro (@ia_119) (And.intro (@sz_119) (@ze_2)))) (And.intro (And.intro (@ze_3) (And.intro (@ze_4) (@ze_24))) (And.intro (@ze_27) (And.intro (@ze_33) (@ze_35))))) (And.intro (And.intro (And.intro (@ze_37) (And.intro (@ze_67) (@ze_69))) (And.intro (@ze_76) (And.intro (@ze_87) (@ze_98)))) (And.intro (And.intro (@ze_117) (And.intro (@fo_24_0) (@fo_24_1))) (And.intro (@fo_33_0) (And.intro (@fo_33_1) (@fo_35_0)))))))) (And.intro (And.intro (And.intro (And.intro (And.intro (And.intro (@fo_35_1) (@fo_35_2)) (And.intro (@fo_35_3) (And.intro (@fo_35_4) (@fo_35_5)))) (And.intro (And.intro (@fo_35_6) (And.intro (@fo_35_7) (@fo_35_8))) (And.intro (@fo_35_9) (And.intro (@fo_37_0) (@fo_37_1))))) (And.intro (And.intro (And.intro (@fo_37_2) (@fo_37_3)) (And.intro (@fo_37_4) (And.intro (@fo_37_5) (@fo_67_0)))) (And.intro (And.intro (@fo_76_0) (And.intro (@fo_76_1) (@fo_87_0))) (And.intro (@fo_87_1) (And.intro (@fo_87_2) (@fo_98_0)))))) (And.intro (And.intro (And.intro (And.intro (@fo_98_1) (@pb_13)) (And.intro (@pb_14) (And.intro (@pb_15) (@pb_16)))) (And.intro (And.intro (@pb_17) (And.intro (@pb_18) (@pb_19))) (And.intro (@pb_20) (And.intro (@pb_21) (@pb_22))))) (And.intro (And.intro (And.intro (@pb_23) (And.intro (@pb_24) (@pb_25))) (And.intro (@pb_26) (And.intro (@pb_27) (@pb_28)))) (And.intro (And.intro (@pb_29) (And.intro (@pb_30) (@pb_31))) (And.intro (@pb_32) (And.intro (@pb_33) (@pb_34))))))) (And.intro (And.intro (And.intro (And.intro (And.intro (@pb_35) (@pb_36)) (And.intro (@pb_37) (And.intro (@pb_38) (@pb_39)))) (And.intro (And.intro (@pb_40) (And.intro (@pb_41) (@pb_42))) (And.intro (@pb_43) (And.intro (@pb_44) (@pb_45))))) (And.intro (And.intro (And.intro (@pb_46) (@pb_47)) (And.intro (@pb_48) (And.intro (@pb_49) (@pb_50)))) (And.intro (And.intro (@pb_51) (And.intro (@pb_52) (@pb_53))) (And.intro (@pb_54) (And.intro (@pb_55) (@pb_56)))))) (And.intro (And.intro (And.intro (And.intro (@pb_57) (@pb_58)) (And.intro (@pb_59) (And.intro (@pb_60) (@pb_61)))) (And.intro (And.intro (@pb_62) (And.intro (@pb_63) (@pb_64))) (And.intro (@pb_65) (And.intro (@pb_66) (@pb_67))))) (And.intro (And.intro (And.intro (@pb_68) (And.intro (@pb_69) (@pb_70))) (And.intro (@pb_71) (And.intro (@pb_72) (@pb_73)))) (And.intro (And.intro (@pb_74) (And.intro (@pb_75) (@pb_76))) (And.intro (@pb_77) (And.intro (@pb_78) (@pb_79))))))))
theorem copyE_none {P : Program} {t e : TypeId} {size len off esz : Nat} {id : Pos} {cap : Option Nat} {x : AV} {cs : List AV} {h : H} (hu : P.underlying t = some (.slice e)) (hz : sizeE P e = some size) (hs : srcCells h size x = some (0, cs)) :
    copyE P t (.sl id off len cap esz) x h = .ok (.int .i64 0) h := by
  unfold copyE
  rw [hu]
  dsimp only
  rw [hz]
  dsimp only
  rw [hs]
  dsimp only
  rw [forceNat_eq, Nat.ble_eq_true_of_le (Nat.zero_le len)]
  rfl
theorem limitsOf (q : AV) (hcap : Capd q) (ms : List Int) (hn : ms.length ≤ 1000) (h : H) (wf : Wf h) (hq : Sl h q 1 ms.length (ms.map ii)) (L : List AO) (w : Nat) (hw : w ≤ h.clock + L.length) :
    (om Try.prog KK).call (.fn 61 [q]) (X h L w) = .ok (.agg [.sl (nx h (L.length + 1)) 0 ms.length (some ms.length) 1, .nils]) (X h (L ++ [.cells (mkCells [.sl (nx h (L.length + 1)) 0 ms.length (some ms.length) 1, .nils]) 98, .cells (mkCells (ms.map ii)) 2, .cells (mkCells [.sl (nx h (L.length + 1)) 0 ms.length (some ms.length) 1, .nils]) 98]) w) := by
  have key : ∀ hb, Wf hb → Sl hb q 1 ms.length (ms.map ii) → (om Try.prog KK).call (.fn 61 [q]) hb = .ok (.agg [.sl (nx hb 1) 0 ms.length (some ms.length) 1, .nils]) (X hb [.cells (mkCells [.sl (nx hb 1) 0 ms.length (some ms.length) 1, .nils]) 98, .cells (mkCells (ms.map ii)) 2, .cells (mkCells [.sl (nx hb 1) 0 ms.length (some ms.length) 1, .nils]) 98] hb.w) := by
    clear hq wf hw
    intro h wf hq
    have hl : ∀ h', lenE Try.prog 22 q h' = some (ii (ms.length : Int)) := fun h' => hq.len un_22
    have hmk : ∀ l w, makeSliceE Try.prog 22 (.int .i64 (ms.length : Int)) (.int .i64 (ms.length : Int)) (X h l w) = .ok (.sl (nx h l.length) 0 ms.length (some ms.length) 1) (X h (l ++ [.cells (mkCells (List.replicate ms.length (ii 0))) 2]) w) :=
      fun l w => makeSlice_X wf un_22 sz_2 el_2 hn (by decide) rfl
    have hcp : ∀ c0 c2, copyE Try.prog 22 (.sl (nx h 1) 0 ms.length (some ms.length) 1) (reszT Try.prog 22 q) (X h [c0, .cells (mkCells (List.replicate ms.length (ii 0))) 2, c2] h.clock) = .ok (ii (ms.length : Int)) (X h [c0, .cells (mkCells (ms.map ii)) 2, c2] h.clock) := fun c0 c2 => by
      have hs := (hq.up wf [c0, .cells (mkCells (List.replicate ms.length (ii 0))) 2, c2] h.clock).src hcap un_22 sz_2
      by_cases h0 : ms.length = 0
      · have e : ms = [] := List.eq_nil_of_length_eq_zero h0
        subst e
        exact copyE_none un_22 sz_2 hs
      · rw [copyE_X wf un_22 sz_2 hs h0 (Nat.le_refl _) (by simp) (k := 1) (ee := 2) (old := List.replicate ms.length (ii 0)) rfl (by simp) (allOne_map (fun _ => rfl) _)]
        rw [splice_all (by simp), Nat.min_eq_right (by omega)]
        rfl
    refine WV_to (WV_call (fn := Try.f61) Try.func61 rfl rfl rfl rfl rfl ?_)
    simp only [argF]
    (repeat' (first
  | (with_reducible first | refine WC_seq ?_ | refine WC_skip ?_ | refine WC_label ?_ | refine WC_scope ?_ | refine WC_block ?_ | refine WC_ret ?_ | refine WC_exit ?_ | refine seqQ_norm ?_ | refine seqQ_ret ?_ | refine seqQ_exit ?_ | refine blkQ_norm ?_ | refine blkQ_ret ?_ | refine blkQ_here ?_ | refine gateK_yes ?_ | refine gateK_none ?_ | refine condK_tt ?_ | refine condK_ff ?_ | refine roundQ_exit ?_ | refine roundQ_ret ?_)
  | refine WC_region ?_ | refine blkQ_out rfl ?_ | refine WO_nil ?_ | refine WD_nil ?_
  | ((first | refine WD_gate rfl rfl rfl rfl rfl fun K_ hK_ => ?_ | refine WO_gate rfl rfl rfl rfl rfl fun K_ hK_ => ?_); simp only [upd_apply, asB_bool, asB_tup, ↓reduceIte, reduceCtorEq, Nat.reduceEqDiff, Bool.not_true, Bool.not_false]; refine hK_ _ ?_; clear hK_ K_)
  | refine gateK_no (by decide) ?_
  | ((try first | refine WO_op rfl rfl rfl ?_ | refine WO_op0 rfl rfl ?_ | refine WD_op rfl rfl rfl ?_ | refine WD_op0 rfl rfl ?_); (refine WV_gen fun Q_ hQ_ => ?_; simp (disch := first | omega | (simp only [List.length_cons, List.length_nil, List.length_append]; omega)) only [bb, bp, argF, ↓reduceIte, reduceCtorEq, Nat.reduceEqDiff, Nat.reduceLT, Nat.reduceLeDiff, Nat.reduceAdd, Nat.reduceMul, Nat.reduceSub, Nat.reduceBEq, Int.reduceToNat, cond_true, cond_false, eq_self, beq_self_eq_true, hl, hmk, newPtr_X wf, load1_X wf, loadAgg_X wf, store1_X wf, writeCells_X wf, makeFunc_def, tEvD25, bsl_22, bsl_43, bsl_51, bsl_96, bsl_105, newSlice_X wf]; first | (refine dec_split (Q := Q_) (fun hp_ => ?_) (fun hp_ => ?_) <;> first | (exfalso; omega) | (refine hQ_ _ _ ?_; clear hQ_ Q_)) | (refine dec_splitn (Q := Q_) (fun hp_ => ?_) (fun hp_ => ?_) <;> first | (exfalso; omega) | (refine hQ_ _ _ ?_; clear hQ_ Q_)) | (refine hQ_ _ _ ?_; clear hQ_ Q_)))
  | (refine WC_cond fun K_ hK_ => ?_; simp (disch := omega) only [evT_tmp, upd_apply, WB_some, ↓reduceIte, reduceCtorEq, Nat.reduceEqDiff, Nat.reduceLT]; refine hK_ _ ?_; clear hK_ K_)))
    (repeat' (first
  | (with_reducible first | refine WC_seq ?_ | refine WC_skip ?_ | refine WC_label ?_ | refine WC_scope ?_ | refine WC_block ?_ | refine WC_ret ?_ | refine WC_exit ?_ | refine seqQ_norm ?_ | refine seqQ_ret ?_ | refine seqQ_exit ?_ | refine blkQ_norm ?_ | refine blkQ_ret ?_ | refine blkQ_here ?_ | refine gateK_yes ?_ | refine gateK_none ?_ | refine condK_tt ?_ | refine condK_ff ?_ | refine roundQ_exit ?_ | refine roundQ_ret ?_)
  | refine WC_region ?_ | refine blkQ_out rfl ?_ | refine WO_nil ?_ | refine WD_nil ?_
  | ((first | refine WD_gate rfl rfl rfl rfl rfl fun K_ hK_ => ?_ | refine WO_gate rfl rfl rfl rfl rfl fun K_ hK_ => ?_); simp only [upd_apply, asB_bool, asB_tup, ↓reduceIte, reduceCtorEq, Nat.reduceEqDiff, Bool.not_true, Bool.not_false]; refine hK_ _ ?_; clear hK_ K_)
  | refine gateK_no (by decide) ?_
  | ((try first | refine WO_op rfl rfl rfl ?_ | refine WO_op0 rfl rfl ?_ | refine WD_op rfl rfl rfl ?_ | refine WD_op0 rfl rfl ?_); (refine WV_gen fun Q_ hQ_ => ?_; simp (disch := first | omega | (simp only [List.length_cons, List.length_nil, List.length_append]; omega)) only [bb, bp, argF, ↓reduceIte, reduceCtorEq, Nat.reduceEqDiff, Nat.reduceLT, Nat.reduceLeDiff, Nat.reduceAdd, Nat.reduceMul, Nat.reduceSub, Nat.reduceBEq, Int.reduceToNat, cond_true, cond_false, eq_self, beq_self_eq_true, hcp, newPtr_X wf, load1_X wf, loadAgg_X wf, store1_X wf, writeCells_X wf, makeFunc_def, tEvD25, bsl_22, bsl_43, bsl_51, bsl_96, bsl_105, newSlice_X wf]; first | (refine dec_split (Q := Q_) (fun hp_ => ?_) (fun hp_ => ?_) <;> first | (exfalso; omega) | (refine hQ_ _ _ ?_; clear hQ_ Q_)) | (refine dec_splitn (Q := Q_) (fun hp_ => ?_) (fun hp_ => ?_) <;> first | (exfalso; omega) | (refine hQ_ _ _ ?_; clear hQ_ Q_)) | (refine hQ_ _ _ ?_; clear hQ_ Q_)))
  | (refine WC_cond fun K_ hK_ => ?_; simp (disch := omega) only [evT_tmp, upd_apply, WB_some, ↓reduceIte, reduceCtorEq, Nat.reduceEqDiff, Nat.reduceLT]; refine hK_ _ ?_; clear hK_ K_)))
    refine endQ_ret _ _ rfl (retc0 (by decide) (by simp (disch := first | omega | (simp only [List.length_cons, List.length_nil, List.length_append]; omega)) only [bb, bp, argF, ↓reduceIte, reduceCtorEq, Nat.reduceEqDiff, Nat.reduceLT, Nat.reduceLeDiff, Nat.reduceAdd, Nat.reduceMul, Nat.reduceSub, Nat.reduceBEq, Int.reduceToNat, cond_true, cond_false, eq_self, beq_self_eq_true, loadAgg_X wf, tEvD25, bsl_22, bsl_43, bsl_51, bsl_96, bsl_105, newSlice_X wf]; rfl)) ?_
    refine WV_ext (by exact Bool.and_false _) ?_
    refine ⟨rfl, ?_⟩
    rw [Nat.min_eq_left wf.wle]
  rw [key _ (wf.X hw) (hq.up wf L w), X_X, nx_X, X_w]

def holdsErr (ts : List Te) (ls : List Ln) (n : Nat) : Int := if 20 < ts.length then 6 else if ¬ ∀ t ∈ ts, okT t then 2 else if linesErr ls ≠ 0 then linesErr ls else if n ≠ ts.length then 15 else if ∀ t ∈ ts, rk t ls then 0 else 19
def spansOf (ts : List Te) (ls : List Ln) : List (Int × Int) := ts.map fun t => (spanV t ls false, spanV t ls true)
theorem Holds2 (s lv q : AV) (hcap : Capd q) (ts : List Te) (ls : List Ln) (ms : List Int) (h : H) (xt : TestsR h s ts) (xl : LinesR h lv ls) (hq : Sl h q 1 ms.length (ms.map ii)) (hn : ts.length ≤ 20) (hok : ∀ t ∈ ts, okT t) (hk : okLs ls) (hnm : ms.length = ts.length) (hr : ∀ t ∈ ts, rk t ls) :
    (om Try.prog KK).call (.fn 30 [s, lv, q]) h = .ok (.tup [ii (holdN ((spansOf ts ls).map (·.2)) ms : Nat), ii (holdN ((spansOf ts ls).map (·.1)) ms : Nat), ii 0]) h := by
  have wf := xt.wf
  obtain ⟨fl1, fl2⟩ := xl.flat
  have hls : ∀ h', lenE Try.prog 51 s h' = some (ii (ts.length : Int)) := fun h' => xt.sl.len un_51
  have hlq : ∀ h', lenE Try.prog 22 q h' = some (ii (ms.length : Int)) := fun h' => hq.len un_22
  have hz := linesErr_zero.2 hk
  refine WV_to (WV_call (fn := Try.f30) Try.func30 rfl rfl rfl rfl rfl ?_)
  simp only [argF]
  (repeat' (first
  | (with_reducible first | refine WC_seq ?_ | refine WC_skip ?_ | refine WC_label ?_ | refine WC_scope ?_ | refine WC_block ?_ | refine WC_ret ?_ | refine WC_exit ?_ | refine seqQ_norm ?_ | refine seqQ_ret ?_ | refine seqQ_exit ?_ | refine blkQ_norm ?_ | refine blkQ_ret ?_ | refine blkQ_here ?_ | refine gateK_yes ?_ | refine gateK_none ?_ | refine condK_tt ?_ | refine condK_ff ?_ | refine roundQ_exit ?_ | refine roundQ_ret ?_)
  | refine WC_region ?_ | refine blkQ_out rfl ?_ | refine WO_nil ?_ | refine WD_nil ?_
  | ((first | refine WD_gate rfl rfl rfl rfl rfl fun K_ hK_ => ?_ | refine WO_gate rfl rfl rfl rfl rfl fun K_ hK_ => ?_); simp only [upd_apply, asB_bool, asB_tup, ↓reduceIte, reduceCtorEq, Nat.reduceEqDiff, Bool.not_true, Bool.not_false]; refine hK_ _ ?_; clear hK_ K_)
  | refine gateK_no (by decide) ?_
  | ((try first | refine WO_op rfl rfl rfl ?_ | refine WO_op0 rfl rfl ?_ | refine WD_op rfl rfl rfl ?_ | refine WD_op0 rfl rfl ?_); (refine WV_gen fun Q_ hQ_ => ?_; simp (disch := first | omega | (simp only [List.length_cons, List.length_nil, List.length_append]; omega)) only [bb, bp, argF, ↓reduceIte, reduceCtorEq, Nat.reduceEqDiff, Nat.reduceLT, Nat.reduceLeDiff, Nat.reduceAdd, Nat.reduceMul, Nat.reduceSub, Nat.reduceBEq, Int.reduceToNat, cond_true, cond_false, eq_self, beq_self_eq_true, hls, newPtr_X wf, load1_X wf, loadAgg_X wf, store1_X wf, writeCells_X wf, makeFunc_def, tEvD25, bsl_22, bsl_43, bsl_51, bsl_96, bsl_105, newSlice_X wf]; first | (refine dec_split (Q := Q_) (fun hp_ => ?_) (fun hp_ => ?_) <;> first | (exfalso; omega) | (refine hQ_ _ _ ?_; clear hQ_ Q_)) | (refine dec_splitn (Q := Q_) (fun hp_ => ?_) (fun hp_ => ?_) <;> first | (exfalso; omega) | (refine hQ_ _ _ ?_; clear hQ_ Q_)) | (refine hQ_ _ _ ?_; clear hQ_ Q_)))
  | (refine WC_cond fun K_ hK_ => ?_; simp (disch := omega) only [evT_tmp, upd_apply, WB_some, ↓reduceIte, reduceCtorEq, Nat.reduceEqDiff, Nat.reduceLT]; refine hK_ _ ?_; clear hK_ K_)))
  refine WC_loop (fun (i : Nat) f d h' => i ≤ ts.length ∧ f 0 = s ∧ f 1 = lv ∧ f 2 = q ∧ f 23 = s ∧ f 24 = ii (ts.length : Int) ∧ f 25 = ii (i : Int) ∧ d = [] ∧ ∃ G, h' = X h G h.clock) (fun i => ts.length - i) ?_ (ts.length + 1) 0 (by omega) ?_
  · rintro i f d h' ⟨hi, g0, g1, g2, g23, g24, g25, rfl, G, rfl⟩
    by_cases hlt : i < ts.length
    · obtain ⟨id, off, hix, hld⟩ := xt.at hlt
      simp only [teC] at hld
      have e0 := testErr_ok (hok _ (List.getElem_mem hlt))
      generalize ts[i] = T at *
      (repeat' (first
  | (with_reducible first | refine WC_seq ?_ | refine WC_skip ?_ | refine WC_label ?_ | refine WC_scope ?_ | refine WC_block ?_ | refine WC_ret ?_ | refine WC_exit ?_ | refine seqQ_norm ?_ | refine seqQ_ret ?_ | refine seqQ_exit ?_ | refine blkQ_norm ?_ | refine blkQ_ret ?_ | refine blkQ_here ?_ | refine gateK_yes ?_ | refine gateK_none ?_ | refine condK_tt ?_ | refine condK_ff ?_ | refine roundQ_exit ?_ | refine roundQ_ret ?_)
  | refine WC_region ?_ | refine blkQ_out rfl ?_ | refine WO_nil ?_ | refine WD_nil ?_
  | ((first | refine WD_gate rfl rfl rfl rfl rfl fun K_ hK_ => ?_ | refine WO_gate rfl rfl rfl rfl rfl fun K_ hK_ => ?_); simp only [upd_apply, asB_bool, asB_tup, ↓reduceIte, reduceCtorEq, Nat.reduceEqDiff, Bool.not_true, Bool.not_false]; refine hK_ _ ?_; clear hK_ K_)
  | refine gateK_no (by decide) ?_
  | ((try first | refine WO_op rfl rfl rfl ?_ | refine WO_op0 rfl rfl ?_ | refine WD_op rfl rfl rfl ?_ | refine WD_op0 rfl rfl ?_); (refine WV_gen fun Q_ hQ_ => ?_; simp (disch := first | omega | (simp only [List.length_cons, List.length_nil, List.length_append]; omega)) only [bb, bp, argF, ↓reduceIte, reduceCtorEq, Nat.reduceEqDiff, Nat.reduceLT, Nat.reduceLeDiff, Nat.reduceAdd, Nat.reduceMul, Nat.reduceSub, Nat.reduceBEq, Int.reduceToNat, cond_true, cond_false, eq_self, beq_self_eq_true, g0, g1, g2, g23, g24, g25, hix, hld, newPtr_X wf, load1_X wf, loadAgg_X wf, store1_X wf, writeCells_X wf, makeFunc_def, tEvD25, bsl_22, bsl_43, bsl_51, bsl_96, bsl_105, newSlice_X wf]; first | (refine dec_split (Q := Q_) (fun hp_ => ?_) (fun hp_ => ?_) <;> first | (exfalso; omega) | (refine hQ_ _ _ ?_; clear hQ_ Q_)) | (refine dec_splitn (Q := Q_) (fun hp_ => ?_) (fun hp_ => ?_) <;> first | (exfalso; omega) | (refine hQ_ _ _ ?_; clear hQ_ Q_)) | (refine hQ_ _ _ ?_; clear hQ_ Q_) | (refine WV_eq ((CheckTest T _ (wf.X (by first | omega | (simp only [List.length_append, List.length_cons, List.length_nil]; omega)))).trans (by rw [e0])) ?_; refine hQ_ _ _ ?_; clear hQ_ Q_)))
  | (refine WC_cond fun K_ hK_ => ?_; simp (disch := omega) only [evT_tmp, upd_apply, WB_some, ↓reduceIte, reduceCtorEq, Nat.reduceEqDiff, Nat.reduceLT]; refine hK_ _ ?_; clear hK_ K_)))
      refine roundQ_again (i + 1) (by omega) ⟨hlt, by simp only [upd_apply, ↓reduceIte, reduceCtorEq, Nat.reduceEqDiff]; exact g0, by simp only [upd_apply, ↓reduceIte, reduceCtorEq, Nat.reduceEqDiff]; exact g1, by simp only [upd_apply, ↓reduceIte, reduceCtorEq, Nat.reduceEqDiff]; exact g2, by simp only [upd_apply, ↓reduceIte, reduceCtorEq, Nat.reduceEqDiff]; exact g23, by simp only [upd_apply, ↓reduceIte, reduceCtorEq, Nat.reduceEqDiff]; exact g24, by simp only [upd_apply, ↓reduceIte, reduceCtorEq, Nat.reduceEqDiff]; rfl, rfl, _, rfl⟩
    · have hie : i = ts.length := by omega
      have hms : ms.length ≤ 1000 := by omega
      have hnm' : (ms.length : Int) = (ts.length : Int) := by omega
      have hlim := limitsOf q hcap ms hms h wf hq
      (repeat' (first
  | (with_reducible first | refine WC_seq ?_ | refine WC_skip ?_ | refine WC_label ?_ | refine WC_scope ?_ | refine WC_block ?_ | refine WC_ret ?_ | refine WC_exit ?_ | refine seqQ_norm ?_ | refine seqQ_ret ?_ | refine seqQ_exit ?_ | refine blkQ_norm ?_ | refine blkQ_ret ?_ | refine blkQ_here ?_ | refine gateK_yes ?_ | refine gateK_none ?_ | refine condK_tt ?_ | refine condK_ff ?_ | refine roundQ_exit ?_ | refine roundQ_ret ?_)
  | refine WC_region ?_ | refine blkQ_out rfl ?_ | refine WO_nil ?_ | refine WD_nil ?_
  | ((first | refine WD_gate rfl rfl rfl rfl rfl fun K_ hK_ => ?_ | refine WO_gate rfl rfl rfl rfl rfl fun K_ hK_ => ?_); simp only [upd_apply, asB_bool, asB_tup, ↓reduceIte, reduceCtorEq, Nat.reduceEqDiff, Bool.not_true, Bool.not_false]; refine hK_ _ ?_; clear hK_ K_)
  | refine gateK_no (by decide) ?_
  | ((try first | refine WO_op rfl rfl rfl ?_ | refine WO_op0 rfl rfl ?_ | refine WD_op rfl rfl rfl ?_ | refine WD_op0 rfl rfl ?_); (refine WV_gen fun Q_ hQ_ => ?_; simp (disch := first | omega | (simp only [List.length_cons, List.length_nil, List.length_append]; omega)) only [bb, bp, argF, ↓reduceIte, reduceCtorEq, Nat.reduceEqDiff, Nat.reduceLT, Nat.reduceLeDiff, Nat.reduceAdd, Nat.reduceMul, Nat.reduceSub, Nat.reduceBEq, Int.reduceToNat, cond_true, cond_false, eq_self, beq_self_eq_true, g0, g1, g2, g23, g24, g25, hls, hlq, newPtr_X wf, load1_X wf, loadAgg_X wf, store1_X wf, writeCells_X wf, makeFunc_def, tEvD25, bsl_22, bsl_43, bsl_51, bsl_96, bsl_105, newSlice_X wf]; first | (refine dec_split (Q := Q_) (fun hp_ => ?_) (fun hp_ => ?_) <;> first | (exfalso; omega) | (refine hQ_ _ _ ?_; clear hQ_ Q_)) | (refine dec_splitn (Q := Q_) (fun hp_ => ?_) (fun hp_ => ?_) <;> first | (exfalso; omega) | (refine hQ_ _ _ ?_; clear hQ_ Q_)) | (refine hQ_ _ _ ?_; clear hQ_ Q_) | (refine WV_eq ((checkLines lv ls _ (xl.up _ _ (by first | omega | (simp only [List.length_append, List.length_cons, List.length_nil]; omega)))).trans (by rw [hz])) ?_; refine hQ_ _ _ ?_; clear hQ_ Q_) | (refine WV_eq (hlim _ _ (by first | omega | (simp only [List.length_append, List.length_cons, List.length_nil]; omega))) ?_; refine hQ_ _ _ ?_; clear hQ_ Q_)))
  | (refine WC_cond fun K_ hK_ => ?_; simp (disch := omega) only [evT_tmp, upd_apply, WB_some, ↓reduceIte, reduceCtorEq, Nat.reduceEqDiff, Nat.reduceLT]; refine hK_ _ ?_; clear hK_ K_)))
      generalize hsm : AV.sl (nx h (G.length + 1)) 0 ms.length (some ms.length) 1 = slm at *
      have fsm : AV.cells slm = [slm] ∧ oneB slm = true := by rw [← hsm]; exact ⟨rfl, rfl⟩
      obtain ⟨fs1, fs2⟩ := fsm
      have hsl : ∀ (L : List AO) (w : Nat), L[G.length + 1]? = some (.cells (mkCells (ms.map ii)) 2) → Sl (X h L w) slm 1 ms.length (ms.map ii) := fun L w hL => by rw [← hsm]; exact Sl.new wf (by simp) hL
      refine WC_loop (fun (i : Nat) f d h' => i ≤ ts.length ∧ f 0 = s ∧ f 1 = lv ∧ f 2 = q ∧ f 13 = .ptr (nx h (G.length + 3)) 0 ∧ f 47 = s ∧ f 48 = ii (ts.length : Int) ∧ f 49 = ii (i : Int) ∧ d = [] ∧
        ∃ L0 G2 v, L0.length = G.length + 4 ∧ L0[G.length + 1]? = some (.cells (mkCells (ms.map ii)) 2) ∧ L0[G.length + 3]? = some (.cells (mkCells [slm, v]) 98) ∧ Grow h L0 G2 v 2 33 i (((spansOf ts ls).take i).flatMap rgC) ∧ h' = X h (L0 ++ G2) h.clock) (fun i => ts.length - i) ?_ (ts.length + 1) 0 (by omega) ?_
      · clear g0 g1 g2 g23 g24 g25
        rintro i f d h' ⟨hi, g0, g1, g2, g13, g47, g48, g49, rfl, L0, G2, v, hL0, hLm, hLl, hgr, rfl⟩
        obtain ⟨fv1, fv2⟩ := hgr.flat
        have hlt13 := lt_of_get hLl
        have ld1 : ∀ J w, load1 (nx h (G.length + 3)) 1 (X h (L0 ++ J) w) = some v := fun J w => by rw [load1_X wf, List.getElem?_append_left hlt13, hLl]; rfl
        have lda : ∀ J w, loadAgg (nx h (G.length + 3)) 0 (some 2) (X h (L0 ++ J) w) = some (.agg [slm, v]) := fun J w => by rw [loadAgg_X wf, List.getElem?_append_left hlt13, hLl, aggAt_cells (by decide)]; rfl
        by_cases hlt : i < ts.length
        · obtain ⟨id, off, hix, hld⟩ := xt.at hlt
          simp only [teC] at hld
          have hTok := hok _ (List.getElem_mem hlt)
          have hTr := hr _ (List.getElem_mem hlt)
          have hsp : (spansOf ts ls).take (i + 1) = (spansOf ts ls).take i ++ [(spanV ts[i] ls false, spanV ts[i] ls true)] := by
            rw [List.take_succ_eq_append_getElem (by unfold spansOf; simpa using hlt)]
            simp [spansOf]
          generalize ts[i] = T at *
          obtain ⟨M, lv', hc, hcap', hlr⟩ := reckoned T lv ls hTok hk hTr h xl (L0 ++ (G2 ++ [.cells (mkCells [ii T.sp, ii T.lo, ii T.we, ii T.al, ii T.f0, ii T.f1, ii T.t0, ii T.t1, ii T.s0, ii T.s1, ii T.o0, ii T.o1, ii T.b0, ii T.b1, ii T.r0, ii T.r1]) 35])) h.clock (by omega)
          simp only [List.append_assoc, List.cons_append, List.nil_append, List.length_append, List.length_cons, List.length_nil] at hc hlr
          obtain ⟨f1, f2⟩ := (hlr [] h.clock (by omega)).flat
          have sc := fun R w hw => span T hTok lv' hcap' ls hk hTr _ (hlr R w hw)
          have hr3 := hgr.resz (P := Try.prog) 96
          obtain ⟨v', G', hg', happ, _⟩ := (hgr.more (.cells (mkCells [ii T.sp, ii T.lo, ii T.we, ii T.al, ii T.f0, ii T.f1, ii T.t0, ii T.t1, ii T.s0, ii T.s1, ii T.o0, ii T.o1, ii T.b0, ii T.b1, ii T.r0, ii T.r1]) 35 :: (M ++ [.cells (mkCells [ii T.sp, ii T.lo, ii T.we, ii T.al, ii T.f0, ii T.f1, ii T.t0, ii T.t1, ii T.s0, ii T.s1, ii T.o0, ii T.o1, ii T.b0, ii T.b1, ii T.r0, ii T.r1, lv']) 76]))).appendD (P := Try.prog) wf un_96 sz_33 el_33 (n := 1) (new := [ii (spanV T ls false), ii (spanV T ls true)]) (by omega) (by omega) (by omega) rfl rfl
          obtain ⟨fw1, fw2⟩ := hg'.flat
          simp only [List.append_assoc, List.cons_append, List.nil_append, List.length_append, List.length_cons, List.length_nil, Nat.zero_add] at happ
          have hst : ∀ w, store1 (nx h (G.length + 3)) 1 v' (X h (L0 ++ G') w) = some (X h (L0.set (G.length + 3) (.cells (mkCells [slm, v']) 98) ++ G') (min (h.clock + (G.length + 3)) w)) := fun w => by
            have e : storeAt (some (.cells (mkCells [slm, v]) 98)) 1 v' = some (.cells (mkCells [slm, v']) 98) := by
              rw [storeAt_cells, fw2, cond_true]; rfl
            rw [store1_X wf, List.getElem?_append_left hlt13, hLl, e]
            show some (X h ((L0 ++ G').set (G.length + 3) _) _) = _
            rw [List.set_append_left _ _ hlt13]
          (repeat' (first
  | (with_reducible first | refine WC_seq ?_ | refine WC_skip ?_ | refine WC_label ?_ | refine WC_scope ?_ | refine WC_block ?_ | refine WC_ret ?_ | refine WC_exit ?_ | refine seqQ_norm ?_ | refine seqQ_ret ?_ | refine seqQ_exit ?_ | refine blkQ_norm ?_ | refine blkQ_ret ?_ | refine blkQ_here ?_ | refine gateK_yes ?_ | refine gateK_none ?_ | refine condK_tt ?_ | refine condK_ff ?_ | refine roundQ_exit ?_ | refine roundQ_ret ?_)
  | refine WC_region ?_ | refine blkQ_out rfl ?_ | refine WO_nil ?_ | refine WD_nil ?_
  | ((first | refine WD_gate rfl rfl rfl rfl rfl fun K_ hK_ => ?_ | refine WO_gate rfl rfl rfl rfl rfl fun K_ hK_ => ?_); simp only [upd_apply, asB_bool, asB_tup, ↓reduceIte, reduceCtorEq, Nat.reduceEqDiff, Bool.not_true, Bool.not_false]; refine hK_ _ ?_; clear hK_ K_)
  | refine gateK_no (by decide) ?_
  | ((try first | refine WO_op rfl rfl rfl ?_ | refine WO_op0 rfl rfl ?_ | refine WD_op rfl rfl rfl ?_ | refine WD_op0 rfl rfl ?_); (refine WV_gen fun Q_ hQ_ => ?_; simp (disch := first | omega | (simp only [List.length_cons, List.length_nil, List.length_append]; omega)) only [bb, bp, argF, ↓reduceIte, reduceCtorEq, Nat.reduceEqDiff, Nat.reduceLT, Nat.reduceLeDiff, Nat.reduceAdd, Nat.reduceMul, Nat.reduceSub, Nat.reduceBEq, Int.reduceToNat, cond_true, cond_false, eq_self, beq_self_eq_true, g0, g1, g2, g13, g47, g48, g49, hix, hld, newPtr_X wf, load1_X wf, loadAgg_X wf, store1_X wf, writeCells_X wf, makeFunc_def, tEvD25, bsl_22, bsl_43, bsl_51, bsl_96, bsl_105, newSlice_X wf]; first | (refine dec_split (Q := Q_) (fun hp_ => ?_) (fun hp_ => ?_) <;> first | (exfalso; omega) | (refine hQ_ _ _ ?_; clear hQ_ Q_)) | (refine dec_splitn (Q := Q_) (fun hp_ => ?_) (fun hp_ => ?_) <;> first | (exfalso; omega) | (refine hQ_ _ _ ?_; clear hQ_ Q_)) | (refine hQ_ _ _ ?_; clear hQ_ Q_) | (refine WV_eq (hc) ?_; refine hQ_ _ _ ?_; clear hQ_ Q_)))
  | (refine WC_cond fun K_ hK_ => ?_; simp (disch := omega) only [evT_tmp, upd_apply, WB_some, ↓reduceIte, reduceCtorEq, Nat.reduceEqDiff, Nat.reduceLT]; refine hK_ _ ?_; clear hK_ K_)))
          (repeat' (first
  | (with_reducible first | refine WC_seq ?_ | refine WC_skip ?_ | refine WC_label ?_ | refine WC_scope ?_ | refine WC_block ?_ | refine WC_ret ?_ | refine WC_exit ?_ | refine seqQ_norm ?_ | refine seqQ_ret ?_ | refine seqQ_exit ?_ | refine blkQ_norm ?_ | refine blkQ_ret ?_ | refine blkQ_here ?_ | refine gateK_yes ?_ | refine gateK_none ?_ | refine condK_tt ?_ | refine condK_ff ?_ | refine roundQ_exit ?_ | refine roundQ_ret ?_)
  | refine WC_region ?_ | refine blkQ_out rfl ?_ | refine WO_nil ?_ | refine WD_nil ?_
  | ((first | refine WD_gate rfl rfl rfl rfl rfl fun K_ hK_ => ?_ | refine WO_gate rfl rfl rfl rfl rfl fun K_ hK_ => ?_); simp only [upd_apply, asB_bool, asB_tup, ↓reduceIte, reduceCtorEq, Nat.reduceEqDiff, Bool.not_true, Bool.not_false]; refine hK_ _ ?_; clear hK_ K_)
  | refine gateK_no (by decide) ?_
  | ((try first | refine WO_op rfl rfl rfl ?_ | refine WO_op0 rfl rfl ?_ | refine WD_op rfl rfl rfl ?_ | refine WD_op0 rfl rfl ?_); (refine WV_gen fun Q_ hQ_ => ?_; simp (disch := first | omega | (simp only [List.length_cons, List.length_nil, List.length_append]; omega)) only [bb, bp, argF, ↓reduceIte, reduceCtorEq, Nat.reduceEqDiff, Nat.reduceLT, Nat.reduceLeDiff, Nat.reduceAdd, Nat.reduceMul, Nat.reduceSub, Nat.reduceBEq, Int.reduceToNat, cond_true, cond_false, eq_self, beq_self_eq_true, g0, g1, g2, g13, g47, g48, g49, f1, f2, newPtr_X wf, load1_X wf, loadAgg_X wf, store1_X wf, writeCells_X wf, makeFunc_def, tEvD25, bsl_22, bsl_43, bsl_51, bsl_96, bsl_105, newSlice_X wf]; first | (refine dec_split (Q := Q_) (fun hp_ => ?_) (fun hp_ => ?_) <;> first | (exfalso; omega) | (refine hQ_ _ _ ?_; clear hQ_ Q_)) | (refine dec_splitn (Q := Q_) (fun hp_ => ?_) (fun hp_ => ?_) <;> first | (exfalso; omega) | (refine hQ_ _ _ ?_; clear hQ_ Q_)) | (refine hQ_ _ _ ?_; clear hQ_ Q_)))
  | (refine WC_cond fun K_ hK_ => ?_; simp (disch := omega) only [evT_tmp, upd_apply, WB_some, ↓reduceIte, reduceCtorEq, Nat.reduceEqDiff, Nat.reduceLT]; refine hK_ _ ?_; clear hK_ K_)))
          refine WC_drawnB [.no, .no, .no, .no, .no, .full, .full, .full] (by kernel_rfl) ?_
          (repeat' (first
  | (with_reducible first | refine WC_seq ?_ | refine WC_skip ?_ | refine WC_label ?_ | refine WC_scope ?_ | refine WC_block ?_ | refine WC_ret ?_ | refine WC_exit ?_ | refine seqQ_norm ?_ | refine seqQ_ret ?_ | refine seqQ_exit ?_ | refine blkQ_norm ?_ | refine blkQ_ret ?_ | refine blkQ_here ?_ | refine gateK_yes ?_ | refine gateK_none ?_ | refine condK_tt ?_ | refine condK_ff ?_ | refine roundQ_exit ?_ | refine roundQ_ret ?_)
  | refine WC_region ?_ | refine blkQ_out rfl ?_ | refine WO_nil ?_ | refine WD_nil ?_
  | ((first | refine WD_gate rfl rfl rfl rfl rfl fun K_ hK_ => ?_ | refine WO_gate rfl rfl rfl rfl rfl fun K_ hK_ => ?_); simp only [upd_apply, asB_bool, asB_tup, ↓reduceIte, reduceCtorEq, Nat.reduceEqDiff, Bool.not_true, Bool.not_false]; refine hK_ _ ?_; clear hK_ K_)
  | refine gateK_no (by decide) ?_
  | ((try first | refine WO_op rfl rfl rfl ?_ | refine WO_op0 rfl rfl ?_ | refine WD_op rfl rfl rfl ?_ | refine WD_op0 rfl rfl ?_); (refine WV_gen fun Q_ hQ_ => ?_; simp (disch := first | omega | (simp only [List.length_cons, List.length_nil, List.length_append]; omega)) only [bb, bp, argF, ↓reduceIte, reduceCtorEq, Nat.reduceEqDiff, Nat.reduceLT, Nat.reduceLeDiff, Nat.reduceAdd, Nat.reduceMul, Nat.reduceSub, Nat.reduceBEq, Int.reduceToNat, cond_true, cond_false, eq_self, beq_self_eq_true, g0, g1, g2, g13, g47, g48, g49, f1, f2, ld1, sc, newPtr_X wf, load1_X wf, loadAgg_X wf, store1_X wf, writeCells_X wf, makeFunc_def, tEvD25, bsl_22, bsl_43, bsl_51, bsl_96, bsl_105, newSlice_X wf]; first | (refine dec_split (Q := Q_) (fun hp_ => ?_) (fun hp_ => ?_) <;> first | (exfalso; omega) | (refine hQ_ _ _ ?_; clear hQ_ Q_)) | (refine dec_splitn (Q := Q_) (fun hp_ => ?_) (fun hp_ => ?_) <;> first | (exfalso; omega) | (refine hQ_ _ _ ?_; clear hQ_ Q_)) | (refine hQ_ _ _ ?_; clear hQ_ Q_)))
  | (refine WC_cond fun K_ hK_ => ?_; simp (disch := omega) only [evT_tmp, upd_apply, WB_some, ↓reduceIte, reduceCtorEq, Nat.reduceEqDiff, Nat.reduceLT]; refine hK_ _ ?_; clear hK_ K_)))
          (repeat' (first
  | (with_reducible first | refine WC_seq ?_ | refine WC_skip ?_ | refine WC_label ?_ | refine WC_scope ?_ | refine WC_block ?_ | refine WC_ret ?_ | refine WC_exit ?_ | refine seqQ_norm ?_ | refine seqQ_ret ?_ | refine seqQ_exit ?_ | refine blkQ_norm ?_ | refine blkQ_ret ?_ | refine blkQ_here ?_ | refine gateK_yes ?_ | refine gateK_none ?_ | refine condK_tt ?_ | refine condK_ff ?_ | refine roundQ_exit ?_ | refine roundQ_ret ?_)
  | refine WC_region ?_ | refine blkQ_out rfl ?_ | refine WO_nil ?_ | refine WD_nil ?_
  | ((first | refine WD_gate rfl rfl rfl rfl rfl fun K_ hK_ => ?_ | refine WO_gate rfl rfl rfl rfl rfl fun K_ hK_ => ?_); simp only [upd_apply, asB_bool, asB_tup, ↓reduceIte, reduceCtorEq, Nat.reduceEqDiff, Bool.not_true, Bool.not_false]; refine hK_ _ ?_; clear hK_ K_)
  | refine gateK_no (by decide) ?_
  | ((try first | refine WO_op rfl rfl rfl ?_ | refine WO_op0 rfl rfl ?_ | refine WD_op rfl rfl rfl ?_ | refine WD_op0 rfl rfl ?_); (refine WV_gen fun Q_ hQ_ => ?_; simp (disch := first | omega | (simp only [List.length_cons, List.length_nil, List.length_append]; omega)) only [bb, bp, argF, ↓reduceIte, reduceCtorEq, Nat.reduceEqDiff, Nat.reduceLT, Nat.reduceLeDiff, Nat.reduceAdd, Nat.reduceMul, Nat.reduceSub, Nat.reduceBEq, Int.reduceToNat, cond_true, cond_false, eq_self, beq_self_eq_true, ni_96, hr3, happ, reszT_some un_96 sz_33, g13, g49, fw1, fw2, hst, tEvD25, bsl_22, bsl_43, bsl_51, bsl_96, bsl_105, newSlice_X wf]; first | (refine dec_split (Q := Q_) (fun hp_ => ?_) (fun hp_ => ?_) <;> first | (exfalso; omega) | (refine hQ_ _ _ ?_; clear hQ_ Q_)) | (refine dec_splitn (Q := Q_) (fun hp_ => ?_) (fun hp_ => ?_) <;> first | (exfalso; omega) | (refine hQ_ _ _ ?_; clear hQ_ Q_)) | (refine hQ_ _ _ ?_; clear hQ_ Q_)))
  | (refine WC_cond fun K_ hK_ => ?_; simp (disch := omega) only [evT_tmp, upd_apply, WB_some, ↓reduceIte, reduceCtorEq, Nat.reduceEqDiff, Nat.reduceLT]; refine hK_ _ ?_; clear hK_ K_)))
          refine roundQ_again (i + 1) (by omega) ⟨hlt, by simp only [upd_apply, ↓reduceIte, reduceCtorEq, Nat.reduceEqDiff]; exact g0, by simp only [upd_apply, ↓reduceIte, reduceCtorEq, Nat.reduceEqDiff]; exact g1, by simp only [upd_apply, ↓reduceIte, reduceCtorEq, Nat.reduceEqDiff]; exact g2, by simp only [upd_apply, ↓reduceIte, reduceCtorEq, Nat.reduceEqDiff]; exact g13, by simp only [upd_apply, ↓reduceIte, reduceCtorEq, Nat.reduceEqDiff]; exact g47, by simp only [upd_apply, ↓reduceIte, reduceCtorEq, Nat.reduceEqDiff]; exact g48, by simp only [upd_apply, ↓reduceIte, reduceCtorEq, Nat.reduceEqDiff]; rfl, rfl, L0.set (G.length + 3) (.cells (mkCells [slm, v']) 98), G', v', by rw [List.length_set, hL0], by rw [List.getElem?_set_ne (by omega)]; exact hLm, by rw [List.getElem?_set_self hlt13], ?_, ?_⟩
          · rw [hsp, List.flatMap_append]
            exact hg'.front (List.length_set ..)
          · congr 1
        · have hie : i = ts.length := by omega
          have hsl2 : (spansOf ts ls).length = ts.length := by unfold spansOf; simp
          have htk : (spansOf ts ls).take i = spansOf ts ls := List.take_of_length_le (by omega)
          rw [htk] at hgr
          have hgs := hgr.sl wf h.clock
          rw [hie, ← hsl2] at hgs
          have h63 := held 63 (.inl rfl) slm v ms (spansOf ts ls) (by omega) hms _ (wf.X (by first | omega | (simp only [List.length_append, List.length_cons, List.length_nil]; omega))) (hsl (L0 ++ G2) h.clock (by rw [List.getElem?_append_left (lt_of_get hLm)]; exact hLm)) hgs ⟨fs1, fs2⟩ ⟨fv1, fv2⟩
          have h64 := held 64 (.inr rfl) slm v ms (spansOf ts ls) (by omega) hms _ (wf.X (by first | omega | (simp only [List.length_append, List.length_cons, List.length_nil]; omega))) (hsl (L0 ++ G2) h.clock (by rw [List.getElem?_append_left (lt_of_get hLm)]; exact hLm)) hgs ⟨fs1, fs2⟩ ⟨fv1, fv2⟩
          simp only [↓reduceIte, Nat.reduceEqDiff] at h63 h64
          (repeat' (first
  | (with_reducible first | refine WC_seq ?_ | refine WC_skip ?_ | refine WC_label ?_ | refine WC_scope ?_ | refine WC_block ?_ | refine WC_ret ?_ | refine WC_exit ?_ | refine seqQ_norm ?_ | refine seqQ_ret ?_ | refine seqQ_exit ?_ | refine blkQ_norm ?_ | refine blkQ_ret ?_ | refine blkQ_here ?_ | refine gateK_yes ?_ | refine gateK_none ?_ | refine condK_tt ?_ | refine condK_ff ?_ | refine roundQ_exit ?_ | refine roundQ_ret ?_)
  | refine WC_region ?_ | refine blkQ_out rfl ?_ | refine WO_nil ?_ | refine WD_nil ?_
  | ((first | refine WD_gate rfl rfl rfl rfl rfl fun K_ hK_ => ?_ | refine WO_gate rfl rfl rfl rfl rfl fun K_ hK_ => ?_); simp only [upd_apply, asB_bool, asB_tup, ↓reduceIte, reduceCtorEq, Nat.reduceEqDiff, Bool.not_true, Bool.not_false]; refine hK_ _ ?_; clear hK_ K_)
  | refine gateK_no (by decide) ?_
  | ((try first | refine WO_op rfl rfl rfl ?_ | refine WO_op0 rfl rfl ?_ | refine WD_op rfl rfl rfl ?_ | refine WD_op0 rfl rfl ?_); (refine WV_gen fun Q_ hQ_ => ?_; simp (disch := first | omega | (simp only [List.length_cons, List.length_nil, List.length_append]; omega)) only [bb, bp, argF, ↓reduceIte, reduceCtorEq, Nat.reduceEqDiff, Nat.reduceLT, Nat.reduceLeDiff, Nat.reduceAdd, Nat.reduceMul, Nat.reduceSub, Nat.reduceBEq, Int.reduceToNat, cond_true, cond_false, eq_self, beq_self_eq_true, g0, g1, g2, g13, g47, g48, g49, lda, tEvD25, bsl_22, bsl_43, bsl_51, bsl_96, bsl_105, newSlice_X wf]; first | (refine dec_split (Q := Q_) (fun hp_ => ?_) (fun hp_ => ?_) <;> first | (exfalso; omega) | (refine hQ_ _ _ ?_; clear hQ_ Q_)) | (refine dec_splitn (Q := Q_) (fun hp_ => ?_) (fun hp_ => ?_) <;> first | (exfalso; omega) | (refine hQ_ _ _ ?_; clear hQ_ Q_)) | (refine hQ_ _ _ ?_; clear hQ_ Q_) | (refine WV_eq (h63) ?_; refine hQ_ _ _ ?_; clear hQ_ Q_) | (refine WV_eq (h64) ?_; refine hQ_ _ _ ?_; clear hQ_ Q_)))
  | (refine WC_cond fun K_ hK_ => ?_; simp (disch := omega) only [evT_tmp, upd_apply, WB_some, ↓reduceIte, reduceCtorEq, Nat.reduceEqDiff, Nat.reduceLT]; refine hK_ _ ?_; clear hK_ K_)))
          (refine endQ_ret _ _ rfl (ret3 (by decide) (by decide) (by decide)) ?_; simp only [upd_apply, ↓reduceIte, reduceCtorEq, Nat.reduceEqDiff]; refine WV_flat rfl (by omega) ?_)
          exact ⟨rfl, rfl⟩
      · refine ⟨Nat.zero_le _, by simp only [upd_apply, ↓reduceIte, reduceCtorEq, Nat.reduceEqDiff]; exact g0, by simp only [upd_apply, ↓reduceIte, reduceCtorEq, Nat.reduceEqDiff]; exact g1, by simp only [upd_apply, ↓reduceIte, reduceCtorEq, Nat.reduceEqDiff]; exact g2, by simp only [upd_apply, ↓reduceIte, reduceCtorEq, Nat.reduceEqDiff], by simp only [upd_apply, ↓reduceIte, reduceCtorEq, Nat.reduceEqDiff], by simp only [upd_apply, ↓reduceIte, reduceCtorEq, Nat.reduceEqDiff], by first | (simp only [upd_apply, ↓reduceIte, reduceCtorEq, Nat.reduceEqDiff]; done) | (simp only [upd_apply, ↓reduceIte, reduceCtorEq, Nat.reduceEqDiff]; rfl), rfl, _, [], .nils, ?_, ?_, ?_, Grow.nil h _ [] 2 33, by rw [List.append_nil]⟩
        · simp
        · rw [app_len]; rfl
        · rw [app_len]; rfl
  · exact ⟨Nat.zero_le _, by simp only [upd_apply, ↓reduceIte, reduceCtorEq, Nat.reduceEqDiff], by simp only [upd_apply, ↓reduceIte, reduceCtorEq, Nat.reduceEqDiff], by simp only [upd_apply, ↓reduceIte, reduceCtorEq, Nat.reduceEqDiff], by simp only [upd_apply, ↓reduceIte, reduceCtorEq, Nat.reduceEqDiff], by simp only [upd_apply, ↓reduceIte, reduceCtorEq, Nat.reduceEqDiff], by first | (simp only [upd_apply, ↓reduceIte, reduceCtorEq, Nat.reduceEqDiff]; done) | (simp only [upd_apply, ↓reduceIte, reduceCtorEq, Nat.reduceEqDiff]; rfl), rfl, [], rfl⟩
end Go.Proofs.Ythaleckfgcgegaa
end

/- EvD13 -/
section
/-
  LAYER 4: the law of ships.
-/
namespace Go.Proofs.Ythaleckfgcgegaa
open Go.Ev
set_option maxRecDepth 100000
set_option linter.unusedSimpArgs false
set_option linter.unusedVariables false
set_option maxHeartbeats 2000000
end Go.Proofs.Ythaleckfgcgegaa
end

/- EvD22 -/
section
/-
  LAYER 4: the same water.
-/
namespace Go.Proofs.Ythaleckfgcgegaa
open Go.Ev
set_option maxRecDepth 100000
set_option linter.unusedSimpArgs false
set_option linter.unusedVariables false
set_option maxHeartbeats 2000000
theorem fineT (T : Te) (s : AV) (ls : List Ln) (hf : Fine T ls) (h : H) (x : LinesR h s ls) : (om Try.prog KK).call (.fn 32 [.agg [ii T.sp, ii T.lo, ii T.we, ii T.al, ii T.f0, ii T.f1, ii T.t0, ii T.t1, ii T.s0, ii T.s1, ii T.o0, ii T.o1, ii T.b0, ii T.b1, ii T.r0, ii T.r1], s]) h = .ok (.bool true) h := by
  obtain ⟨t, ht, hc⟩ := fine T s ls h x
  rw [hc, ht.2 hf]
theorem fineF (T : Te) (s : AV) (ls : List Ln) (hf : ¬ Fine T ls) (h : H) (x : LinesR h s ls) : (om Try.prog KK).call (.fn 32 [.agg [ii T.sp, ii T.lo, ii T.we, ii T.al, ii T.f0, ii T.f1, ii T.t0, ii T.t1, ii T.s0, ii T.s1, ii T.o0, ii T.o1, ii T.b0, ii T.b1, ii T.r0, ii T.r1], s]) h = .ok (.bool false) h := by
  obtain ⟨t, ht, hc⟩ := fine T s ls h x
  rw [hc]
  cases t
  · rfl
  · exact absurd (ht.1 rfl) hf
theorem Fine.e {T : Te} {ls : List Ln} (f : Fine T ls) : reckErr T ls = 0 := reck4 f.k (linesErr_zero.2 f.l) f.r
theorem spanOK {T : Te} {ls : List Ln} (f : Fine T ls) (s : AV) (h : H) (x : LinesR h s ls) : (om Try.prog KK).call (.fn 27 [.agg [ii T.sp, ii T.lo, ii T.we, ii T.al, ii T.f0, ii T.f1, ii T.t0, ii T.t1, ii T.s0, ii T.s1, ii T.o0, ii T.o1, ii T.b0, ii T.b1, ii T.r0, ii T.r1], s]) h = .ok (.tup [.agg [ii (spanV T ls false), ii (spanV T ls true)], ii 0]) h := by
  rw [Span T s ls h x, f.e, show spanErrA T ls false = _ from if_pos f.e, show spanErrA T ls true = _ from if_pos f.e]
theorem shipOK {T : Te} {ls : List Ln} (f : Fine T ls) {l : Ln} (hl : l ∈ ls) {x : Tr} (kx : isT T x) : shipErr T l.re l.cf x = 0 ∧ shipVal T l.re l.cf x = coef T l.re l.cf x :=
  ship5 f.k (lineErr_zero.2 (f.l.ok _ hl)) kx (inAll_of f.k (f.r _ hl) kx)
/-- A line on its own. -/
theorem LineR.alone {h : H} {a b : AV} {re cf : List Int} (x : LineR h a b re cf) {L : List AO} {w k e : Nat} (hw : w ≤ h.clock + L.length) (hk : L[k]? = some (.cells (mkCells [a, b]) e)) : LinesR (X h L w) (.sl (nx h k) 0 1 (some 1) 2) [⟨a, b, re, cf⟩] :=
  ⟨x.wf.X hw, Sl.new x.wf rfl hk, fun l hl => by rw [List.mem_singleton.1 hl]; exact x.up L w hw⟩
end Go.Proofs.Ythaleckfgcgegaa
end

/- EvD26 -/
section
/-
  LAYER 4: the stage.
-/
namespace Go.Proofs.Ythaleckfgcgegaa
open Go.Ev
set_option maxRecDepth 100000
set_option linter.unusedSimpArgs false
set_option linter.unusedVariables false
set_option maxHeartbeats 2000000
theorem tEvD26 : type_of% (And.intro (And.intro (And.intro (And.intro (And.intro (And.intro (And.intro (@bs_24) (@bs_33)) (And.intro (@bs_35) (And.intro (@bs_37) (@bs_67)))) (And.intro (And.intro (@bs_76) (And.intro (@bs_87) (@bs_98))) (And.intro (@bs_117) (And.intro (@ia_2) (@sz_2))))) (And.intro (And.intro (And.intro (@ia_3) (@sz_3)) (And.intro (@ia_4) (And.intro (@sz_4) (@ia_22)))) (And.intro (And.intro (@sz_22) (And.intro (@ia_24) (@sz_24))) (And.intro (@ia_27) (And.intro (@sz_27) (@ia_33)))))) (And.intro (And.intro (And.intro (And.intro (@sz_33) (@ia_35)) (And.intro (@sz_35) (And.intro (@ia_37) (@sz_37)))) (And.intro (And.intro (@ia_43) (And.intro (@sz_43) (@ia_51))) (And.intro (@sz_51) (And.intro (@ia_55) (@sz_55))))) (And.intro (And.intro (And.intro (@ia_56) (And.intro (@sz_56) (@ia_67))) (And.intro (@sz_67) (And.intro (@ia_69) (@sz_69)))) (And.intro (And.intro (@ia_70) (And.intro (@sz_70) (@ia_73))) (And.intro (@sz_73) (And.intro (@ia_74) (@sz_74))))))) (And.intro (And.intro (And.intro (And.intro (And.intro (@ia_76) (@sz_76)) (And.intro (@ia_78) (And.intro (@sz_78) (@ia_87)))) (And.intro (And.intro (@sz_87) (And.intro (@ia_89) (@sz_89))) (And.intro (@ia_96) (And.intro (@sz_96) (@ia_98))))) (And.intro (And.intro (And.intro (@sz_98) (@ia_101)) (And.intro (@sz_101) (And.intro (@ia_105) (@sz_105)))) (And.intro (And.intro (@ia_107) (And.intro (@sz_107) (@ia_113))) (And.intro (@sz_113) (And.intro (@ia_114) (@sz_114)))))) (And.intro (And.intro (And.intro (And.intro (@ia_117) (@sz_117)) (And.intro (@ia_119) (And.intro (@sz_119) (@ze_2)))) (And.intro (And.intro (@ze_3) (And.intro (@ze_4) (@ze_24))) (And.intro (@ze_27) (And.intro (@ze_33) (@ze_35))))) (And.intro (And.intro (And.intro (@ze_37) (And.intro (@ze_67) (@ze_69))) (And.intro (@ze_76) (And.intro (@ze_87) (@ze_98)))) (And.intro (And.intro (@ze_117) (And.intro (@fo_24_0) (@fo_24_1))) (And.intro (@fo_33_0) (And.intro (@fo_33_1) (@fo_35_0)))))))) (And.intro (And.intro (And.intro (And.intro (And.intro (And.intro (@fo_35_1) (@fo_35_2)) (And.intro (@fo_35_3) (And.intro (@fo_35_4) (@fo_35_5)))) (And.intro (And.intro (@fo_35_6) (And.intro (@fo_35_7) (@fo_35_8))) (And.intro (@fo_35_9) (And.intro (@fo_37_0) (@fo_37_1))))) (And.intro (And.intro (And.intro (@fo_37_2) (@fo_37_3)) (And.intro (@fo_37_4) (And.intro (@fo_37_5) (@fo_67_0)))) (And.intro (And.intro (@fo_76_0) (And.intro (@fo_76_1) (@fo_87_0))) (And.intro (@fo_87_1) (And.intro (@fo_87_2) (@fo_98_0)))))) (And.intro (And.intro (And.intro (And.intro (@fo_98_1) (@pb_13)) (And.intro (@pb_14) (And.intro (@pb_15) (@pb_16)))) (And.intro (And.intro (@pb_17) (And.intro (@pb_18) (@pb_19))) (And.intro (@pb_20) (And.intro (@pb_21) (@pb_22))))) (And.intro (And.intro (And.intro (@pb_23) (And.intro (@pb_24) (@pb_25))) (And.intro (@pb_26) (And.intro (@pb_27) (@pb_28)))) (And.intro (And.intro (@pb_29) (And.intro (@pb_30) (@pb_31))) (And.intro (@pb_32) (And.intro (@pb_33) (@pb_34))))))) (And.intro (And.intro (And.intro (And.intro (And.intro (@pb_35) (@pb_36)) (And.intro (@pb_37) (And.intro (@pb_38) (@pb_39)))) (And.intro (And.intro (@pb_40) (And.intro (@pb_41) (@pb_42))) (And.intro (@pb_43) (And.intro (@pb_44) (@pb_45))))) (And.intro (And.intro (And.intro (@pb_46) (@pb_47)) (And.intro (@pb_48) (And.intro (@pb_49) (@pb_50)))) (And.intro (And.intro (@pb_51) (And.intro (@pb_52) (@pb_53))) (And.intro (@pb_54) (And.intro (@pb_55) (@pb_56)))))) (And.intro (And.intro (And.intro (And.intro (@pb_57) (@pb_58)) (And.intro (@pb_59) (And.intro (@pb_60) (@pb_61)))) (And.intro (And.intro (@pb_62) (And.intro (@pb_63) (@pb_64))) (And.intro (@pb_65) (And.intro (@pb_66) (@pb_67))))) (And.intro (And.intro (And.intro (@pb_68) (And.intro (@pb_69) (@pb_70))) (And.intro (@pb_71) (And.intro (@pb_72) (@pb_73)))) (And.intro (And.intro (@pb_74) (And.intro (@pb_75) (@pb_76))) (And.intro (@pb_77) (And.intro (@pb_78) (@pb_79))))))))) := And.intro (And.intro (And.intro (And.intro (And.intro (And.intro (And.intro (@bs_24) (@bs_33)) (And.intro (@bs_35) (And.intro (@bs_37) (@bs_67)))) (And.intro (And.intro (@bs_76) (And.intro (@bs_87) (@bs_98))) (And.intro (@bs_117) (And.intro (@ia_2) (@sz_2))))) (And.intro (And.intro (And.intro (@ia_3) (@sz_3)) (And.intro (@ia_4) (And.intro (@sz_4) (@ia_22)))) (And.intro (And.intro (@sz_22) (And.intro (@ia_24) (@sz_24))) (And.intro (@ia_27) (And.intro (@sz_27) (@ia_33)))))) (And.intro (And.intro (And.intro (And.intro (@sz_33) (@ia_35)) (And.intro (@sz_35) (And.intro (@ia_37) (@sz_37)))) (And.intro (And.intro (@ia_43) (And.intro (@sz_43) (@ia_51))) (And.intro (@sz_51) (And.intro (@ia_55) (@sz_55))))) (And.intro (And.intro (And.intro (@ia_56) (And.intro (@sz_56) (@ia_67))) (And.intro (@sz_67) (And.intro (@ia_69) (@sz_69)))) (And.intro (And.intro (@ia_70) (And.intro (@sz_70) (@ia_73))) (And.intro (@sz_73) (And.intro (@ia_74) (@sz_74))))))) (And.intro (And.intro (And.intro (And.intro (And.intro (@ia_76) (@sz_76)) (And.intro (@ia_78) (And.intro (@sz_78) (@ia_87)))) (And.intro (And.intro (@sz_87) (And.intro (@ia_89) (@sz_89))) (And.intro (@ia_96) (And.intro (@sz_96) (@ia_98))))) (And.intro (And.intro (And.intro (@sz_98) (@ia_101)) (And.intro (@sz_101) (And.intro (@ia_105) (@sz_105)))) (And.intro (And.intro (@ia_107) (And.intro (@sz_107) (@ia_113))) (And.intro (@sz_113) (And.intro (@ia_114) (@sz_114)))))) (And.intro (And.intro (And.intro (And.intro (@ia_117) (@sz_117)) (And.intro (@ia_119) (And.intro (@sz_119) (@ze_2)))) (And.intro (And.intro (@ze_3) (And.intro (@ze_4) (@ze_24))) (And.intro (@ze_27) (And.intro (@ze_33) (@ze_35))))) (And.intro (And.intro (And.intro (@ze_37) (And.intro (@ze_67) (@ze_69))) (And.intro (@ze_76) (And.intro (@ze_87) (@ze_98)))) (And.intro (And.intro (@ze_117) (And.intro (@fo_24_0) (@fo_24_1))) (And.intro (@fo_33_0) (And.intro (@fo_33_1) (@fo_35_0)))))))) (And.intro (And.intro (And.intro (And.intro (And.intro (And.intro (@fo_35_1) (@fo_35_2)) (And.intro (@fo_35_3) (And.intro (@fo_35_4) (@fo_35_5)))) (And.intro (And.intro (@fo_35_6) (And.intro (@fo_35_7) (@fo_35_8))) (And.intro (@fo_35_9) (And.intro (@fo_37_0) (@fo_37_1))))) (And.intro (And.intro (And.intro (@fo_37_2) (@fo_37_3)) (And.intro (@fo_37_4) (And.intro (@fo_37_5) (@fo_67_0)))) (And.intro (And.intro (@fo_76_0) (And.intro (@fo_76_1) (@fo_87_0))) (And.intro (@fo_87_1) (And.intro (@fo_87_2) (@fo_98_0)))))) (And.intro (And.intro (And.intro (And.intro (@fo_98_1) (@pb_13)) (And.intro (@pb_14) (And.intro (@pb_15) (@pb_16)))) (And.intro (And.intro (@pb_17) (And.intro (@pb_18) (@pb_19))) (And.intro (@pb_20) (And.intro (@pb_21) (@pb_22))))) (And.intro (And.intro (And.intro (@pb_23) (And.intro (@pb_24) (@pb_25))) (And.intro (@pb_26) (And.intro (@pb_27) (@pb_28)))) (And.intro (And.intro (@pb_29) (And.intro (@pb_30) (@pb_31))) (And.intro (@pb_32) (And.intro (@pb_33) (@pb_34))))))) (And.intro (And.intro (And.intro (And.intro (And.intro (@pb_35) (@pb_36)) (And.intro (@pb_37) (And.intro (@pb_38) (@pb_39)))) (And.intro (And.intro (@pb_40) (And.intro (@pb_41) (@pb_42))) (And.intro (@pb_43) (And.intro (@pb_44) (@pb_45))))) (And.intro (And.intro (And.intro (@pb_46) (@pb_47)) (And.intro (@pb_48) (And.intro (@pb_49) (@pb_50)))) (And.intro (And.intro (@pb_51) (And.intro (@pb_52) (@pb_53))) (And.intro (@pb_54) (And.intro (@pb_55) (@pb_56)))))) (And.intro (And.intro (And.intro (And.intro (@pb_57) (@pb_58)) (And.intro (@pb_59) (And.intro (@pb_60) (@pb_61)))) (And.intro (And.intro (@pb_62) (And.intro (@pb_63) (@pb_64))) (And.intro (@pb_65) (And.intro (@pb_66) (@pb_67))))) (And.intro (And.intro (And.intro (@pb_68) (And.intro (@pb_69) (@pb_70))) (And.intro (@pb_71) (And.intro (@pb_72) (@pb_73)))) (And.intro (And.intro (@pb_74) (And.intro (@pb_75) (@pb_76))) (And.intro (@pb_77) (And.intro (@pb_78) (@pb_79))))))))
theorem conv_u8 {n : Int} (hn : 0 ≤ n ∧ n ≤ 255) : convE Try.prog 5 3 (.int .u8 n) = some (.int .i64 n) := by
  rw [c_int Try.underlying5 Try.underlying3]
  rw [wrap_in _ (by omega) (by omega)]
theorem lawBoxed (T : Te) (s : AV) (ls : List Ln) (n : Int) (hnn : 0 ≤ n ∧ n ≤ 255) (x : Tr) (u : U6 x) (lim : Int) (h : H) (z : LinesR h s ls) : (om Try.prog KK).call (.fn 7 [.agg [ii T.sp, ii T.lo, ii T.we, ii T.al, ii T.f0, ii T.f1, ii T.t0, ii T.t1, ii T.s0, ii T.s1, ii T.o0, ii T.o1, ii T.b0, ii T.b1, ii T.r0, ii T.r1], s, .int .u8 n, .agg [.int .u32 x.f, .int .u32 x.t, .int .u32 x.s, .int .u32 x.o, .int .u32 x.b, .int .u32 x.r], ii lim]) h = .ok (.bool true) h := by
  have wf := z.wf
  have hl : ∀ h', lenE Try.prog 43 s h' = some (ii (ls.length : Int)) := fun h' => z.sl.len un_43
  have heb : ∀ x y a b, binE Try.prog .eql 4 x y (.bool a) (.bool b) = some (.bool (a == b)) := fun x y a b => b_eqlB un_4
  refine WV_to (WV_call (fn := Try.f7) Try.func7 rfl rfl rfl rfl rfl ?_)
  simp only [argF]
  by_cases hf : Fine T ls
  · have k := hf.k
    have hn4 := hf.l.n
    have hS := fun l w hw => fineT _ _ _ hf _ (z.up l w hw)
    have hm := tmod_in (a := n) (m := (ls.length : Int)) hnn.1 (by omega)
    have hz : (ls.length : Int) ≠ 0 := by omega
    obtain ⟨i, hi⟩ : ∃ i : Nat, n.tmod (ls.length : Int) = (i : Int) := ⟨(n.tmod (ls.length : Int)).toNat, by omega⟩
    rw [hi] at hm
    have hlt : i < ls.length := by omega
    obtain ⟨id, off, hix, hld, hln⟩ := z.at ik_43 hlt
    obtain ⟨⟨fa, fa'⟩, ⟨fb, fb'⟩⟩ := hln.flats
    have kA : isT T ⟨pk T.f0 T.f1 x.f, pk T.t0 T.t1 x.t, pk T.s0 T.s1 x.s, pk T.o0 T.o1 x.o, pk T.b0 T.b1 x.b, pk T.r0 T.r1 x.r⟩ := pkT_is k u
    have t1 := fun (l : List AO) (w : Nat) (hw : w ≤ h.clock + l.length) => True6 T k x u _ (wf.X hw)
    have p1 := fun l w hw => spanOK hf _ _ (z.up l w hw)
    obtain ⟨s1, s2⟩ := shipOK hf (List.getElem_mem hlt) kA
    have sC := fun l w hw => (Ship T ls[i].a ls[i].b ls[i].re ls[i].cf ⟨pk T.f0 T.f1 x.f, pk T.t0 T.t1 x.t, pk T.s0 T.s1 x.s, pk T.o0 T.o1 x.o, pk T.b0 T.b1 x.b, pk T.r0 T.r1 x.r⟩ _ (hln.up l w hw)).trans (by rw [s1, s2])
    have hbox := span_box k hf.l hf.r (List.getElem_mem hlt) kA
    have hH : ∀ c0 c1 c2 c3 w, w ≤ h.clock + 6 → (om Try.prog KK).call (.fn 30 [.sl (nx h 4) 0 1 (some 1) 16, s, .sl (nx h 5) 0 1 (some 1) 1]) (X h [c0, c1, c2, c3, .cells (mkCells [ii T.sp, ii T.lo, ii T.we, ii T.al, ii T.f0, ii T.f1, ii T.t0, ii T.t1, ii T.s0, ii T.s1, ii T.o0, ii T.o1, ii T.b0, ii T.b1, ii T.r0, ii T.r1]) 35, .cells (mkCells [ii lim]) 2] w) = .ok (.tup [ii (holdN [spanV T ls true] [lim] : Nat), ii (holdN [spanV T ls false] [lim] : Nat), ii 0]) (X h [c0, c1, c2, c3, .cells (mkCells [ii T.sp, ii T.lo, ii T.we, ii T.al, ii T.f0, ii T.f1, ii T.t0, ii T.t1, ii T.s0, ii T.s1, ii T.o0, ii T.o1, ii T.b0, ii T.b1, ii T.r0, ii T.r1]) 35, .cells (mkCells [ii lim]) 2] w) := fun c0 c1 c2 c3 w hw =>
      Holds2 _ s _ (capd_sl (Nat.le_refl 1)) [T] ls [lim] _ ⟨wf.X hw, Sl.new (k := 4) wf rfl rfl⟩ (z.up _ _ hw) (Sl.new (k := 5) wf rfl rfl) (by simp) (fun t ht => by rw [List.mem_singleton.1 ht]; exact k) hf.l rfl (fun t ht => by rw [List.mem_singleton.1 ht]; exact hf.r)
    have hN : ∀ v : Int, holdN [v] [lim] = if v ≤ lim then 1 else 0 := fun v => by
      show (if v ≤ lim then holdN [] [] + 1 else 0) = _
      rfl
    rw [hN, hN] at hH
    generalize coef T ls[i].re ls[i].cf ⟨pk T.f0 T.f1 x.f, pk T.t0 T.t1 x.t, pk T.s0 T.s1 x.s, pk T.o0 T.o1 x.o, pk T.b0 T.b1 x.b, pk T.r0 T.r1 x.r⟩ = C at *
    generalize spanV T ls false = S0 at *
    generalize spanV T ls true = S1 at *
    (repeat' (first
  | (with_reducible first | refine WC_seq ?_ | refine WC_skip ?_ | refine WC_label ?_ | refine WC_scope ?_ | refine WC_block ?_ | refine WC_ret ?_ | refine WC_exit ?_ | refine seqQ_norm ?_ | refine seqQ_ret ?_ | refine seqQ_exit ?_ | refine blkQ_norm ?_ | refine blkQ_ret ?_ | refine blkQ_here ?_ | refine gateK_yes ?_ | refine gateK_none ?_ | refine condK_tt ?_ | refine condK_ff ?_ | refine roundQ_exit ?_ | refine roundQ_ret ?_)
  | refine WC_region ?_ | refine blkQ_out rfl ?_ | refine WO_nil ?_ | refine WD_nil ?_
  | ((first | refine WD_gate rfl rfl rfl rfl rfl fun K_ hK_ => ?_ | refine WO_gate rfl rfl rfl rfl rfl fun K_ hK_ => ?_); simp only [upd_apply, asB_bool, asB_tup, ↓reduceIte, reduceCtorEq, Nat.reduceEqDiff, Bool.not_true, Bool.not_false]; refine hK_ _ ?_; clear hK_ K_)
  | refine gateK_no (by decide) ?_
  | ((try first | refine WO_op rfl rfl rfl ?_ | refine WO_op0 rfl rfl ?_ | refine WD_op rfl rfl rfl ?_ | refine WD_op0 rfl rfl ?_); (refine WV_gen fun Q_ hQ_ => ?_; simp (disch := first | omega | (simp only [List.length_cons, List.length_nil, List.length_append]; omega)) only [bb, bp, argF, ↓reduceIte, reduceCtorEq, Nat.reduceEqDiff, Nat.reduceLT, Nat.reduceLeDiff, Nat.reduceAdd, Nat.reduceMul, Nat.reduceSub, Nat.reduceBEq, Int.reduceToNat, cond_true, cond_false, eq_self, beq_self_eq_true, newPtr_X wf, load1_X wf, loadAgg_X wf, store1_X wf, writeCells_X wf, makeFunc_def, tEvD26, bsl_22, bsl_43, bsl_51, bsl_96, bsl_105, newSlice_X wf]; first | (refine dec_split (Q := Q_) (fun hp_ => ?_) (fun hp_ => ?_) <;> first | (exfalso; omega) | (refine hQ_ _ _ ?_; clear hQ_ Q_)) | (refine dec_splitn (Q := Q_) (fun hp_ => ?_) (fun hp_ => ?_) <;> first | (exfalso; omega) | (refine hQ_ _ _ ?_; clear hQ_ Q_)) | (refine hQ_ _ _ ?_; clear hQ_ Q_) | (refine WV_eq (hS _ _ (by first | omega | (simp only [List.length_append, List.length_cons, List.length_nil]; omega))) ?_; refine hQ_ _ _ ?_; clear hQ_ Q_)))
  | (refine WC_cond fun K_ hK_ => ?_; simp (disch := omega) only [evT_tmp, upd_apply, WB_some, ↓reduceIte, reduceCtorEq, Nat.reduceEqDiff, Nat.reduceLT]; refine hK_ _ ?_; clear hK_ K_)))
    (repeat' (first
  | (with_reducible first | refine WC_seq ?_ | refine WC_skip ?_ | refine WC_label ?_ | refine WC_scope ?_ | refine WC_block ?_ | refine WC_ret ?_ | refine WC_exit ?_ | refine seqQ_norm ?_ | refine seqQ_ret ?_ | refine seqQ_exit ?_ | refine blkQ_norm ?_ | refine blkQ_ret ?_ | refine blkQ_here ?_ | refine gateK_yes ?_ | refine gateK_none ?_ | refine condK_tt ?_ | refine condK_ff ?_ | refine roundQ_exit ?_ | refine roundQ_ret ?_)
  | refine WC_region ?_ | refine blkQ_out rfl ?_ | refine WO_nil ?_ | refine WD_nil ?_
  | ((first | refine WD_gate rfl rfl rfl rfl rfl fun K_ hK_ => ?_ | refine WO_gate rfl rfl rfl rfl rfl fun K_ hK_ => ?_); simp only [upd_apply, asB_bool, asB_tup, ↓reduceIte, reduceCtorEq, Nat.reduceEqDiff, Bool.not_true, Bool.not_false]; refine hK_ _ ?_; clear hK_ K_)
  | refine gateK_no (by decide) ?_
  | ((try first | refine WO_op rfl rfl rfl ?_ | refine WO_op0 rfl rfl ?_ | refine WD_op rfl rfl rfl ?_ | refine WD_op0 rfl rfl ?_); (refine WV_gen fun Q_ hQ_ => ?_; simp (disch := first | omega | (simp only [List.length_cons, List.length_nil, List.length_append]; omega)) only [bb, bp, argF, ↓reduceIte, reduceCtorEq, Nat.reduceEqDiff, Nat.reduceLT, Nat.reduceLeDiff, Nat.reduceAdd, Nat.reduceMul, Nat.reduceSub, Nat.reduceBEq, Int.reduceToNat, cond_true, cond_false, eq_self, beq_self_eq_true, hl, conv_u8 hnn, b_rem hz, hi, hix, hld, fa, fb, fa', fb', newPtr_X wf, load1_X wf, loadAgg_X wf, store1_X wf, writeCells_X wf, makeFunc_def, tEvD26, bsl_22, bsl_43, bsl_51, bsl_96, bsl_105, newSlice_X wf]; first | (refine dec_split (Q := Q_) (fun hp_ => ?_) (fun hp_ => ?_) <;> first | (exfalso; omega) | (refine hQ_ _ _ ?_; clear hQ_ Q_)) | (refine dec_splitn (Q := Q_) (fun hp_ => ?_) (fun hp_ => ?_) <;> first | (exfalso; omega) | (refine hQ_ _ _ ?_; clear hQ_ Q_)) | (refine hQ_ _ _ ?_; clear hQ_ Q_) | (refine WV_eq (p1 _ _ (by first | omega | (simp only [List.length_append, List.length_cons, List.length_nil]; omega))) ?_; refine hQ_ _ _ ?_; clear hQ_ Q_)))
  | (refine WC_cond fun K_ hK_ => ?_; simp (disch := omega) only [evT_tmp, upd_apply, WB_some, ↓reduceIte, reduceCtorEq, Nat.reduceEqDiff, Nat.reduceLT]; refine hK_ _ ?_; clear hK_ K_)))
    refine WC_drawnB [.no, .no, .no, .no, .no, .full, .full, .full, .full, .full, .full] (by kernel_rfl) ?_
    (repeat' (first
  | (with_reducible first | refine WC_seq ?_ | refine WC_skip ?_ | refine WC_label ?_ | refine WC_scope ?_ | refine WC_block ?_ | refine WC_ret ?_ | refine WC_exit ?_ | refine seqQ_norm ?_ | refine seqQ_ret ?_ | refine seqQ_exit ?_ | refine blkQ_norm ?_ | refine blkQ_ret ?_ | refine blkQ_here ?_ | refine gateK_yes ?_ | refine gateK_none ?_ | refine condK_tt ?_ | refine condK_ff ?_ | refine roundQ_exit ?_ | refine roundQ_ret ?_)
  | refine WC_region ?_ | refine blkQ_out rfl ?_ | refine WO_nil ?_ | refine WD_nil ?_
  | ((first | refine WD_gate rfl rfl rfl rfl rfl fun K_ hK_ => ?_ | refine WO_gate rfl rfl rfl rfl rfl fun K_ hK_ => ?_); simp only [upd_apply, asB_bool, asB_tup, ↓reduceIte, reduceCtorEq, Nat.reduceEqDiff, Bool.not_true, Bool.not_false]; refine hK_ _ ?_; clear hK_ K_)
  | refine gateK_no (by decide) ?_
  | ((try first | refine WO_op rfl rfl rfl ?_ | refine WO_op0 rfl rfl ?_ | refine WD_op rfl rfl rfl ?_ | refine WD_op0 rfl rfl ?_); (refine WV_gen fun Q_ hQ_ => ?_; simp (disch := first | omega | (simp only [List.length_cons, List.length_nil, List.length_append]; omega)) only [bb, bp, argF, ↓reduceIte, reduceCtorEq, Nat.reduceEqDiff, Nat.reduceLT, Nat.reduceLeDiff, Nat.reduceAdd, Nat.reduceMul, Nat.reduceSub, Nat.reduceBEq, Int.reduceToNat, cond_true, cond_false, eq_self, beq_self_eq_true, t1, sC, fa, fb, fa', fb', newPtr_X wf, load1_X wf, loadAgg_X wf, store1_X wf, writeCells_X wf, makeFunc_def, tEvD26, bsl_22, bsl_43, bsl_51, bsl_96, bsl_105, newSlice_X wf]; first | (refine dec_split (Q := Q_) (fun hp_ => ?_) (fun hp_ => ?_) <;> first | (exfalso; omega) | (refine hQ_ _ _ ?_; clear hQ_ Q_)) | (refine dec_splitn (Q := Q_) (fun hp_ => ?_) (fun hp_ => ?_) <;> first | (exfalso; omega) | (refine hQ_ _ _ ?_; clear hQ_ Q_)) | (refine hQ_ _ _ ?_; clear hQ_ Q_)))
  | (refine WC_cond fun K_ hK_ => ?_; simp (disch := omega) only [evT_tmp, upd_apply, WB_some, ↓reduceIte, reduceCtorEq, Nat.reduceEqDiff, Nat.reduceLT]; refine hK_ _ ?_; clear hK_ K_)))
    rcases (by omega : (S1 ≤ lim ∧ S0 ≤ lim) ∨ (¬ S1 ≤ lim ∧ S0 ≤ lim) ∨ (¬ S1 ≤ lim ∧ ¬ S0 ≤ lim)) with ⟨q1, q2⟩ | ⟨q1, q2⟩ | ⟨q1, q2⟩
    · rw [if_pos q1, if_pos q2] at hH
      (repeat' (first
  | (with_reducible first | refine WC_seq ?_ | refine WC_skip ?_ | refine WC_label ?_ | refine WC_scope ?_ | refine WC_block ?_ | refine WC_ret ?_ | refine WC_exit ?_ | refine seqQ_norm ?_ | refine seqQ_ret ?_ | refine seqQ_exit ?_ | refine blkQ_norm ?_ | refine blkQ_ret ?_ | refine blkQ_here ?_ | refine gateK_yes ?_ | refine gateK_none ?_ | refine condK_tt ?_ | refine condK_ff ?_ | refine roundQ_exit ?_ | refine roundQ_ret ?_)
  | refine WC_region ?_ | refine blkQ_out rfl ?_ | refine WO_nil ?_ | refine WD_nil ?_
  | ((first | refine WD_gate rfl rfl rfl rfl rfl fun K_ hK_ => ?_ | refine WO_gate rfl rfl rfl rfl rfl fun K_ hK_ => ?_); simp only [upd_apply, asB_bool, asB_tup, ↓reduceIte, reduceCtorEq, Nat.reduceEqDiff, Bool.not_true, Bool.not_false]; refine hK_ _ ?_; clear hK_ K_)
  | refine gateK_no (by decide) ?_
  | ((try first | refine WO_op rfl rfl rfl ?_ | refine WO_op0 rfl rfl ?_ | refine WD_op rfl rfl rfl ?_ | refine WD_op0 rfl rfl ?_); (refine WV_gen fun Q_ hQ_ => ?_; simp (disch := first | omega | (simp only [List.length_cons, List.length_nil, List.length_append]; omega)) only [bb, bp, argF, ↓reduceIte, reduceCtorEq, Nat.reduceEqDiff, Nat.reduceLT, Nat.reduceLeDiff, Nat.reduceAdd, Nat.reduceMul, Nat.reduceSub, Nat.reduceBEq, Int.reduceToNat, cond_true, cond_false, eq_self, beq_self_eq_true, heb, newPtr_X wf, load1_X wf, loadAgg_X wf, store1_X wf, writeCells_X wf, makeFunc_def, tEvD26, bsl_22, bsl_43, bsl_51, bsl_96, bsl_105, newSlice_X wf]; first | (refine dec_split (Q := Q_) (fun hp_ => ?_) (fun hp_ => ?_) <;> first | (exfalso; omega) | (refine hQ_ _ _ ?_; clear hQ_ Q_)) | (refine dec_splitn (Q := Q_) (fun hp_ => ?_) (fun hp_ => ?_) <;> first | (exfalso; omega) | (refine hQ_ _ _ ?_; clear hQ_ Q_)) | (refine hQ_ _ _ ?_; clear hQ_ Q_) | (refine WV_eq (hH _ _ _ _ _ (by first | omega | (simp only [List.length_append, List.length_cons, List.length_nil]; omega))) ?_; refine hQ_ _ _ ?_; clear hQ_ Q_) | (refine WV_eq (works _) ?_; refine hQ_ _ _ ?_; clear hQ_ Q_)))
  | (refine WC_cond fun K_ hK_ => ?_; simp (disch := omega) only [evT_tmp, upd_apply, WB_some, ↓reduceIte, reduceCtorEq, Nat.reduceEqDiff, Nat.reduceLT]; refine hK_ _ ?_; clear hK_ K_)))
      (refine endQ_ret _ _ rfl (ret1 (by decide)) ?_; simp only [upd_apply, ↓reduceIte, reduceCtorEq, Nat.reduceEqDiff]; refine WV_flat rfl (by omega) ?_)
      exact ⟨rfl, rfl⟩
    · rw [if_neg q1, if_pos q2] at hH
      (repeat' (first
  | (with_reducible first | refine WC_seq ?_ | refine WC_skip ?_ | refine WC_label ?_ | refine WC_scope ?_ | refine WC_block ?_ | refine WC_ret ?_ | refine WC_exit ?_ | refine seqQ_norm ?_ | refine seqQ_ret ?_ | refine seqQ_exit ?_ | refine blkQ_norm ?_ | refine blkQ_ret ?_ | refine blkQ_here ?_ | refine gateK_yes ?_ | refine gateK_none ?_ | refine condK_tt ?_ | refine condK_ff ?_ | refine roundQ_exit ?_ | refine roundQ_ret ?_)
  | refine WC_region ?_ | refine blkQ_out rfl ?_ | refine WO_nil ?_ | refine WD_nil ?_
  | ((first | refine WD_gate rfl rfl rfl rfl rfl fun K_ hK_ => ?_ | refine WO_gate rfl rfl rfl rfl rfl fun K_ hK_ => ?_); simp only [upd_apply, asB_bool, asB_tup, ↓reduceIte, reduceCtorEq, Nat.reduceEqDiff, Bool.not_true, Bool.not_false]; refine hK_ _ ?_; clear hK_ K_)
  | refine gateK_no (by decide) ?_
  | ((try first | refine WO_op rfl rfl rfl ?_ | refine WO_op0 rfl rfl ?_ | refine WD_op rfl rfl rfl ?_ | refine WD_op0 rfl rfl ?_); (refine WV_gen fun Q_ hQ_ => ?_; simp (disch := first | omega | (simp only [List.length_cons, List.length_nil, List.length_append]; omega)) only [bb, bp, argF, ↓reduceIte, reduceCtorEq, Nat.reduceEqDiff, Nat.reduceLT, Nat.reduceLeDiff, Nat.reduceAdd, Nat.reduceMul, Nat.reduceSub, Nat.reduceBEq, Int.reduceToNat, cond_true, cond_false, eq_self, beq_self_eq_true, heb, newPtr_X wf, load1_X wf, loadAgg_X wf, store1_X wf, writeCells_X wf, makeFunc_def, tEvD26, bsl_22, bsl_43, bsl_51, bsl_96, bsl_105, newSlice_X wf]; first | (refine dec_split (Q := Q_) (fun hp_ => ?_) (fun hp_ => ?_) <;> first | (exfalso; omega) | (refine hQ_ _ _ ?_; clear hQ_ Q_)) | (refine dec_splitn (Q := Q_) (fun hp_ => ?_) (fun hp_ => ?_) <;> first | (exfalso; omega) | (refine hQ_ _ _ ?_; clear hQ_ Q_)) | (refine hQ_ _ _ ?_; clear hQ_ Q_) | (refine WV_eq (hH _ _ _ _ _ (by first | omega | (simp only [List.length_append, List.length_cons, List.length_nil]; omega))) ?_; refine hQ_ _ _ ?_; clear hQ_ Q_) | (refine WV_eq (works _) ?_; refine hQ_ _ _ ?_; clear hQ_ Q_)))
  | (refine WC_cond fun K_ hK_ => ?_; simp (disch := omega) only [evT_tmp, upd_apply, WB_some, ↓reduceIte, reduceCtorEq, Nat.reduceEqDiff, Nat.reduceLT]; refine hK_ _ ?_; clear hK_ K_)))
      (refine endQ_ret _ _ rfl (ret1 (by decide)) ?_; simp only [upd_apply, ↓reduceIte, reduceCtorEq, Nat.reduceEqDiff]; refine WV_flat rfl (by omega) ?_)
      exact ⟨rfl, rfl⟩
    · rw [if_neg q1, if_neg q2] at hH
      (repeat' (first
  | (with_reducible first | refine WC_seq ?_ | refine WC_skip ?_ | refine WC_label ?_ | refine WC_scope ?_ | refine WC_block ?_ | refine WC_ret ?_ | refine WC_exit ?_ | refine seqQ_norm ?_ | refine seqQ_ret ?_ | refine seqQ_exit ?_ | refine blkQ_norm ?_ | refine blkQ_ret ?_ | refine blkQ_here ?_ | refine gateK_yes ?_ | refine gateK_none ?_ | refine condK_tt ?_ | refine condK_ff ?_ | refine roundQ_exit ?_ | refine roundQ_ret ?_)
  | refine WC_region ?_ | refine blkQ_out rfl ?_ | refine WO_nil ?_ | refine WD_nil ?_
  | ((first | refine WD_gate rfl rfl rfl rfl rfl fun K_ hK_ => ?_ | refine WO_gate rfl rfl rfl rfl rfl fun K_ hK_ => ?_); simp only [upd_apply, asB_bool, asB_tup, ↓reduceIte, reduceCtorEq, Nat.reduceEqDiff, Bool.not_true, Bool.not_false]; refine hK_ _ ?_; clear hK_ K_)
  | refine gateK_no (by decide) ?_
  | ((try first | refine WO_op rfl rfl rfl ?_ | refine WO_op0 rfl rfl ?_ | refine WD_op rfl rfl rfl ?_ | refine WD_op0 rfl rfl ?_); (refine WV_gen fun Q_ hQ_ => ?_; simp (disch := first | omega | (simp only [List.length_cons, List.length_nil, List.length_append]; omega)) only [bb, bp, argF, ↓reduceIte, reduceCtorEq, Nat.reduceEqDiff, Nat.reduceLT, Nat.reduceLeDiff, Nat.reduceAdd, Nat.reduceMul, Nat.reduceSub, Nat.reduceBEq, Int.reduceToNat, cond_true, cond_false, eq_self, beq_self_eq_true, heb, newPtr_X wf, load1_X wf, loadAgg_X wf, store1_X wf, writeCells_X wf, makeFunc_def, tEvD26, bsl_22, bsl_43, bsl_51, bsl_96, bsl_105, newSlice_X wf]; first | (refine dec_split (Q := Q_) (fun hp_ => ?_) (fun hp_ => ?_) <;> first | (exfalso; omega) | (refine hQ_ _ _ ?_; clear hQ_ Q_)) | (refine dec_splitn (Q := Q_) (fun hp_ => ?_) (fun hp_ => ?_) <;> first | (exfalso; omega) | (refine hQ_ _ _ ?_; clear hQ_ Q_)) | (refine hQ_ _ _ ?_; clear hQ_ Q_) | (refine WV_eq (hH _ _ _ _ _ (by first | omega | (simp only [List.length_append, List.length_cons, List.length_nil]; omega))) ?_; refine hQ_ _ _ ?_; clear hQ_ Q_) | (refine WV_eq (works _) ?_; refine hQ_ _ _ ?_; clear hQ_ Q_)))
  | (refine WC_cond fun K_ hK_ => ?_; simp (disch := omega) only [evT_tmp, upd_apply, WB_some, ↓reduceIte, reduceCtorEq, Nat.reduceEqDiff, Nat.reduceLT]; refine hK_ _ ?_; clear hK_ K_)))
      (refine endQ_ret _ _ rfl (ret1 (by decide)) ?_; simp only [upd_apply, ↓reduceIte, reduceCtorEq, Nat.reduceEqDiff]; refine WV_flat rfl (by omega) ?_)
      exact ⟨rfl, rfl⟩
  · have hS := fun l w hw => fineF _ _ _ hf _ (z.up l w hw)
    (repeat' (first
  | (with_reducible first | refine WC_seq ?_ | refine WC_skip ?_ | refine WC_label ?_ | refine WC_scope ?_ | refine WC_block ?_ | refine WC_ret ?_ | refine WC_exit ?_ | refine seqQ_norm ?_ | refine seqQ_ret ?_ | refine seqQ_exit ?_ | refine blkQ_norm ?_ | refine blkQ_ret ?_ | refine blkQ_here ?_ | refine gateK_yes ?_ | refine gateK_none ?_ | refine condK_tt ?_ | refine condK_ff ?_ | refine roundQ_exit ?_ | refine roundQ_ret ?_)
  | refine WC_region ?_ | refine blkQ_out rfl ?_ | refine WO_nil ?_ | refine WD_nil ?_
  | ((first | refine WD_gate rfl rfl rfl rfl rfl fun K_ hK_ => ?_ | refine WO_gate rfl rfl rfl rfl rfl fun K_ hK_ => ?_); simp only [upd_apply, asB_bool, asB_tup, ↓reduceIte, reduceCtorEq, Nat.reduceEqDiff, Bool.not_true, Bool.not_false]; refine hK_ _ ?_; clear hK_ K_)
  | refine gateK_no (by decide) ?_
  | ((try first | refine WO_op rfl rfl rfl ?_ | refine WO_op0 rfl rfl ?_ | refine WD_op rfl rfl rfl ?_ | refine WD_op0 rfl rfl ?_); (refine WV_gen fun Q_ hQ_ => ?_; simp (disch := first | omega | (simp only [List.length_cons, List.length_nil, List.length_append]; omega)) only [bb, bp, argF, ↓reduceIte, reduceCtorEq, Nat.reduceEqDiff, Nat.reduceLT, Nat.reduceLeDiff, Nat.reduceAdd, Nat.reduceMul, Nat.reduceSub, Nat.reduceBEq, Int.reduceToNat, cond_true, cond_false, eq_self, beq_self_eq_true, newPtr_X wf, load1_X wf, loadAgg_X wf, store1_X wf, writeCells_X wf, makeFunc_def, tEvD26, bsl_22, bsl_43, bsl_51, bsl_96, bsl_105, newSlice_X wf]; first | (refine dec_split (Q := Q_) (fun hp_ => ?_) (fun hp_ => ?_) <;> first | (exfalso; omega) | (refine hQ_ _ _ ?_; clear hQ_ Q_)) | (refine dec_splitn (Q := Q_) (fun hp_ => ?_) (fun hp_ => ?_) <;> first | (exfalso; omega) | (refine hQ_ _ _ ?_; clear hQ_ Q_)) | (refine hQ_ _ _ ?_; clear hQ_ Q_) | (refine WV_eq (hS _ _ (by first | omega | (simp only [List.length_append, List.length_cons, List.length_nil]; omega))) ?_; refine hQ_ _ _ ?_; clear hQ_ Q_) | (refine WV_eq (works _) ?_; refine hQ_ _ _ ?_; clear hQ_ Q_)))
  | (refine WC_cond fun K_ hK_ => ?_; simp (disch := omega) only [evT_tmp, upd_apply, WB_some, ↓reduceIte, reduceCtorEq, Nat.reduceEqDiff, Nat.reduceLT]; refine hK_ _ ?_; clear hK_ K_)))
    (refine endQ_ret _ _ rfl (ret1 (by decide)) ?_; simp only [upd_apply, ↓reduceIte, reduceCtorEq, Nat.reduceEqDiff]; refine WV_flat rfl (by omega) ?_)
    exact ⟨rfl, rfl⟩
end Go.Proofs.Ythaleckfgcgegaa
end

/- EvDc6 -/
section
/- The statement DragBoxed of layer 4: whatever the truth is, and whichever of the lines is right, the coefficient of the ship is in the span, and limits that are surely held are held, for all tests, lines, truths by numbers and limits; no condition. -/
namespace Go.Proofs.Ythaleckfgcgegaa.dragBoxed
open Go.ChangeShapes Go.WideShapes Go.ChangeAt Go.RowKit Go.Ev
set_option maxRecDepth 100000
set_option maxHeartbeats 0

theorem contract (H : Type) (enc : TypeId × Value → H) (W : World) (base : Nat) (args : Array Value) (ds gs : List (DataW H)) (before : List MemPlace) (hval : ∀ (j : Nat) t v, Try.f7.params[j]? = some t → args[j]? = some v → Value.okWide Try.prog W .any base t v)
    (hW : DataW.Whole enc Try.prog Try.f7.params.toList Rows.dragBoxedSpec.vars false W args.toList ds gs before) :
    Calls Try.prog 7 args W fun e W' => ∃ v, e = .returned v ∧ Rows.dragBoxedSpec.post enc Try.prog Try.f7 false true false false W args v W' := by
  have hW' := hW
  obtain ⟨p, q, hA0, hV, rfl, hfz, hnd⟩ := hW
  have hA : DataW.TrodAll enc Try.prog W 0 (fun _ => true) true Try.f7.params.toList args.toList ds p := hA0
  rw [Try.params7] at hA hval
  obtain ⟨v0, v1, v2, v3, v4, d0, d1, d2, d3, d4, p0, p1, p2, p3, p4, rfl, rfl, rfl, ⟨n0, h0⟩, ⟨n1, h1⟩, ⟨n2, h2⟩, ⟨n3, h3⟩, ⟨n4, h4⟩⟩ := trodAll_five hA
  obtain ⟨T0, w0⟩ := test_in (hval 0 35 v0 rfl rfl)
  have k1 := (okWide_cell (P := Try.prog) Try.underlying43 (fun _ e => by cases e) (fun _ _ e => by cases e) (hval 1 43 v1 rfl rfl))
  rw [slice_cells Try.underlying43 k1] at h1
  obtain ⟨a1, ls1, w1, q1, x1⟩ := lines_in k1 h1
  obtain ⟨r2, hz2, hr2⟩ := okWideIntIn Try.underlying5 (okWide_cell (P := Try.prog) Try.underlying5 (fun _ e => by cases e) (fun _ _ e => by cases e) (hval 2 5 v2 rfl rfl))
  subst hz2
  obtain ⟨x3, w3, hr3⟩ := by_in (hval 3 56 v3 rfl rfl)
  obtain ⟨r4, hz4⟩ := okWideInt Try.underlying2 (okWide_cell (P := Try.prog) Try.underlying2 (fun _ e => by cases e) (fun _ _ e => by cases e) (hval 4 2 v4 rfl rfl))
  subst hz4
  have walk := lawBoxed T0 a1 ls1 r2 hr2 x3 ⟨hr3.1, hr3.2.1, hr3.2.2.1, hr3.2.2.2.1, hr3.2.2.2.2.1, hr3.2.2.2.2.2⟩ r4 (startW W) x1
  have hargs : VL (startWR W) [.agg [ii T0.sp, ii T0.lo, ii T0.we, ii T0.al, ii T0.f0, ii T0.f1, ii T0.t0, ii T0.t1, ii T0.s0, ii T0.s1, ii T0.o0, ii T0.o1, ii T0.b0, ii T0.b1, ii T0.r0, ii T0.r1], a1, .int .u8 r2, .agg [.int .u32 x3.f, .int .u32 x3.t, .int .u32 x3.s, .int .u32 x3.o, .int .u32 x3.b, .int .u32 x3.r], ii r4] (#[v0, v1, .int .u8 r2, v3, .int .i64 r4] : Array Value).toList := (.cons _ _ _ _ w0 (.cons _ _ _ _ w1 (.cons _ _ _ _ (.int _ _) (.cons _ _ _ _ w3 (.cons _ _ _ _ (.int _ _) .nil)))))
  refine (startW_true (P := Try.prog) mixed (K := KK) (fun c hc => by
    have : c = cW := List.mem_singleton.1 hc
    rw [this]; exact cW_ok) walk hargs).mono fun e W' ⟨he, hgr, hs⟩ => ?_
  subst he
  refine ⟨_, rfl, law_post laidOut (by
    rw [Try.params7]
    intro t ht
    rcases List.mem_cons.1 ht with rfl | ht
    · exact ⟨by kernel_rfl, of_decide_eq_true (by kernel_rfl)⟩
    rcases List.mem_cons.1 ht with rfl | ht
    · exact ⟨by kernel_rfl, of_decide_eq_true (by kernel_rfl)⟩
    rcases List.mem_cons.1 ht with rfl | ht
    · exact ⟨by kernel_rfl, of_decide_eq_true (by kernel_rfl)⟩
    rcases List.mem_cons.1 ht with rfl | ht
    · exact ⟨by kernel_rfl, of_decide_eq_true (by kernel_rfl)⟩
    rcases List.mem_cons.1 ht with rfl | ht
    · exact ⟨by kernel_rfl, of_decide_eq_true (by kernel_rfl)⟩
    cases ht) rfl (by kernel_rfl) Try.underlying4 (fun gs' ⟨q', hq⟩ => ?_) hW' hgr hs⟩
  obtain ⟨rfl, _⟩ := trodVars_none hq
  exact ⟨rfl, rfl, rfl⟩

theorem lifted (os : Os) (started : os.Started) (H : Type) (enc : TypeId × Value → H) :
    ReturnsInHanded {} Try.checked os 7 .any (Rows.dragBoxedSpec.pre6 enc Try.prog Try.f7 Rows.dragBoxedRow.domain false) (Rows.dragBoxedSpec.post enc Try.prog Try.f7 false true false false) := by
  refine returnsInHanded_of_change (C := Try.checked) own started (by kernel_rfl) Try.func7
    (ChangeSpec.witness6 (enc := enc) (C := Try.checked) false ⟨#[], #[.agg #[.int .i64 0, .int .i64 0, .int .i64 0, .int .i64 0, .int .i64 0, .int .i64 0, .int .i64 0, .int .i64 0, .int .i64 0, .int .i64 0, .int .i64 0, .int .i64 0, .int .i64 0, .int .i64 0, .int .i64 0, .int .i64 0], .slice none 0 0, .int .u8 0, .agg #[.int .u32 0, .int .u32 0, .int .u32 0, .int .u32 0, .int .u32 0, .int .u32 0], .int .i64 0], []⟩ 8 (by kernel_rfl) (by kernel_rfl) (by kernel_rfl) (by kernel_rfl)) ?_
  intro W base args ds gs before hval hW _ _
  exact contract H enc W base args ds gs before hval hW

theorem holds : Rows.DragBoxedSaid :=
  OpenClaim.holds_of_wide 7 Try.f7 rfl rfl rfl rfl rfl rfl rfl ⟨rfl, rfl, rfl, rfl, rfl⟩ rfl rfl rfl rfl rfl (by kernel_rfl) Try.func7 (by kernel_rfl)
    (of_decide_eq_true (by kernel_rfl)) (by unfold Func.isWrapper; first | (rw [if_pos (by decide +kernel)]; kernel_rfl) | (rw [if_neg (by decide +kernel)]; exact ⟨rfl, rfl⟩))
    (fun os started H enc _ => lifted os started H enc)
end Go.Proofs.Ythaleckfgcgegaa.dragBoxed
end
