/- The statement DragFalls of layer 4: the friction of a line does not become greater with a greater Reynolds number, lies between the values of its points, and there is none outside of the line, for all lines and numbers; no condition. -/
import Derived.Test.YthaleckfgcgegaaFalM4
import Derived.Test.YthaleckfgcgegaaRows
import Derived.WalkKit
import Derived.ProofKit
import Derived.OpenShut
set_option linter.all false
/- EvD14 -/
section
/-
  LAYER 4: friction falls.
-/
namespace Go.Proofs.Ythaleckfgcgegaa
open Go.Ev
set_option maxRecDepth 100000
set_option linter.unusedSimpArgs false
set_option linter.unusedVariables false
set_option maxHeartbeats 2000000
theorem tEvD14 : type_of% (And.intro (And.intro (And.intro (And.intro (And.intro (And.intro (And.intro (@bs_24) (@bs_33)) (And.intro (@bs_35) (And.intro (@bs_37) (@bs_67)))) (And.intro (And.intro (@bs_76) (And.intro (@bs_87) (@bs_98))) (And.intro (@bs_117) (And.intro (@ia_2) (@sz_2))))) (And.intro (And.intro (And.intro (@ia_3) (@sz_3)) (And.intro (@ia_4) (And.intro (@sz_4) (@ia_22)))) (And.intro (And.intro (@sz_22) (And.intro (@ia_24) (@sz_24))) (And.intro (@ia_27) (And.intro (@sz_27) (@ia_33)))))) (And.intro (And.intro (And.intro (And.intro (@sz_33) (@ia_35)) (And.intro (@sz_35) (And.intro (@ia_37) (@sz_37)))) (And.intro (And.intro (@ia_43) (And.intro (@sz_43) (@ia_51))) (And.intro (@sz_51) (And.intro (@ia_55) (@sz_55))))) (And.intro (And.intro (And.intro (@ia_56) (@sz_56)) (And.intro (@ia_67) (And.intro (@sz_67) (@ia_69)))) (And.intro (And.intro (@sz_69) (And.intro (@ia_70) (@sz_70))) (And.intro (@ia_73) (And.intro (@sz_73) (@ia_74))))))) (And.intro (And.intro (And.intro (And.intro (And.intro (@sz_74) (@ia_76)) (And.intro (@sz_76) (And.intro (@ia_78) (@sz_78)))) (And.intro (And.intro (@ia_87) (And.intro (@sz_87) (@ia_89))) (And.intro (@sz_89) (And.intro (@ia_96) (@sz_96))))) (And.intro (And.intro (And.intro (@ia_98) (@sz_98)) (And.intro (@ia_101) (And.intro (@sz_101) (@ia_105)))) (And.intro (And.intro (@sz_105) (And.intro (@ia_107) (@sz_107))) (And.intro (@ia_113) (And.intro (@sz_113) (@ia_114)))))) (And.intro (And.intro (And.intro (And.intro (@sz_114) (@ia_117)) (And.intro (@sz_117) (And.intro (@ia_119) (@sz_119)))) (And.intro (And.intro (@ze_2) (And.intro (@ze_3) (@ze_4))) (And.intro (@ze_24) (And.intro (@ze_27) (@ze_33))))) (And.intro (And.intro (And.intro (@ze_35) (And.intro (@ze_37) (@ze_67))) (And.intro (@ze_76) (And.intro (@ze_87) (@ze_98)))) (And.intro (And.intro (@ze_117) (And.intro (@fo_24_0) (@fo_24_1))) (And.intro (@fo_33_0) (And.intro (@fo_33_1) (@fo_35_0)))))))) (And.intro (And.intro (And.intro (And.intro (And.intro (And.intro (@fo_35_1) (@fo_35_2)) (And.intro (@fo_35_3) (And.intro (@fo_35_4) (@fo_35_5)))) (And.intro (And.intro (@fo_35_6) (And.intro (@fo_35_7) (@fo_35_8))) (And.intro (@fo_35_9) (And.intro (@fo_37_0) (@fo_37_1))))) (And.intro (And.intro (And.intro (@fo_37_2) (@fo_37_3)) (And.intro (@fo_37_4) (And.intro (@fo_37_5) (@fo_67_0)))) (And.intro (And.intro (@fo_76_0) (And.intro (@fo_76_1) (@fo_87_0))) (And.intro (@fo_87_1) (And.intro (@fo_87_2) (@fo_98_0)))))) (And.intro (And.intro (And.intro (And.intro (@fo_98_1) (@pb_13)) (And.intro (@pb_14) (And.intro (@pb_15) (@pb_16)))) (And.intro (And.intro (@pb_17) (And.intro (@pb_18) (@pb_19))) (And.intro (@pb_20) (And.intro (@pb_21) (@pb_22))))) (And.intro (And.intro (And.intro (@pb_23) (And.intro (@pb_24) (@pb_25))) (And.intro (@pb_26) (And.intro (@pb_27) (@pb_28)))) (And.intro (And.intro (@pb_29) (And.intro (@pb_30) (@pb_31))) (And.intro (@pb_32) (And.intro (@pb_33) (@pb_34))))))) (And.intro (And.intro (And.intro (And.intro (And.intro (@pb_35) (@pb_36)) (And.intro (@pb_37) (And.intro (@pb_38) (@pb_39)))) (And.intro (And.intro (@pb_40) (And.intro (@pb_41) (@pb_42))) (And.intro (@pb_43) (And.intro (@pb_44) (@pb_45))))) (And.intro (And.intro (And.intro (@pb_46) (@pb_47)) (And.intro (@pb_48) (And.intro (@pb_49) (@pb_50)))) (And.intro (And.intro (@pb_51) (And.intro (@pb_52) (@pb_53))) (And.intro (@pb_54) (And.intro (@pb_55) (@pb_56)))))) (And.intro (And.intro (And.intro (And.intro (@pb_57) (@pb_58)) (And.intro (@pb_59) (And.intro (@pb_60) (@pb_61)))) (And.intro (And.intro (@pb_62) (And.intro (@pb_63) (@pb_64))) (And.intro (@pb_65) (And.intro (@pb_66) (@pb_67))))) (And.intro (And.intro (And.intro (@pb_68) (And.intro (@pb_69) (@pb_70))) (And.intro (@pb_71) (And.intro (@pb_72) (@pb_73)))) (And.intro (And.intro (@pb_74) (And.intro (@pb_75) (@pb_76))) (And.intro (@pb_77) (And.intro (@pb_78) (@pb_79))))))))) := And.intro (And.intro (And.intro (And.intro (And.intro (And.intro (And.intro (@bs_24) (@bs_33)) (And.intro (@bs_35) (And.intro (@bs_37) (@bs_67)))) (And.intro (And.intro (@bs_76) (And.intro (@bs_87) (@bs_98))) (And.intro (@bs_117) (And.intro (@ia_2) (@sz_2))))) (And.intro (And.intro (And.intro (@ia_3) (@sz_3)) (And.intro (@ia_4) (And.intro (@sz_4) (@ia_22)))) (And.intro (And.intro (@sz_22) (And.intro (@ia_24) (@sz_24))) (And.intro (@ia_27) (And.intro (@sz_27) (@ia_33)))))) (And.intro (And.intro (And.intro (And.intro (@sz_33) (@ia_35)) (And.intro (@sz_35) (And.intro (@ia_37) (@sz_37)))) (And.intro (And.intro (@ia_43) (And.intro (@sz_43) (@ia_51))) (And.intro (@sz_51) (And.intro (@ia_55) (@sz_55))))) (And.intro (And.intro (And.intro (@ia_56) (@sz_56)) (And.intro (@ia_67) (And.intro (@sz_67) (@ia_69)))) (And.intro (And.intro (@sz_69) (And.intro (@ia_70) (@sz_70))) (And.intro (@ia_73) (And.intro (@sz_73) (@ia_74))))))) (And.intro (And.intro (And.intro (And.intro (And.intro (@sz_74) (@ia_76)) (And.intro (@sz_76) (And.intro (@ia_78) (@sz_78)))) (And.intro (And.intro (@ia_87) (And.intro (@sz_87) (@ia_89))) (And.intro (@sz_89) (And.intro (@ia_96) (@sz_96))))) (And.intro (And.intro (And.intro (@ia_98) (@sz_98)) (And.intro (@ia_101) (And.intro (@sz_101) (@ia_105)))) (And.intro (And.intro (@sz_105) (And.intro (@ia_107) (@sz_107))) (And.intro (@ia_113) (And.intro (@sz_113) (@ia_114)))))) (And.intro (And.intro (And.intro (And.intro (@sz_114) (@ia_117)) (And.intro (@sz_117) (And.intro (@ia_119) (@sz_119)))) (And.intro (And.intro (@ze_2) (And.intro (@ze_3) (@ze_4))) (And.intro (@ze_24) (And.intro (@ze_27) (@ze_33))))) (And.intro (And.intro (And.intro (@ze_35) (And.intro (@ze_37) (@ze_67))) (And.intro (@ze_76) (And.intro (@ze_87) (@ze_98)))) (And.intro (And.intro (@ze_117) (And.intro (@fo_24_0) (@fo_24_1))) (And.intro (@fo_33_0) (And.intro (@fo_33_1) (@fo_35_0)))))))) (And.intro (And.intro (And.intro (And.intro (And.intro (And.intro (@fo_35_1) (@fo_35_2)) (And.intro (@fo_35_3) (And.intro (@fo_35_4) (@fo_35_5)))) (And.intro (And.intro (@fo_35_6) (And.intro (@fo_35_7) (@fo_35_8))) (And.intro (@fo_35_9) (And.intro (@fo_37_0) (@fo_37_1))))) (And.intro (And.intro (And.intro (@fo_37_2) (@fo_37_3)) (And.intro (@fo_37_4) (And.intro (@fo_37_5) (@fo_67_0)))) (And.intro (And.intro (@fo_76_0) (And.intro (@fo_76_1) (@fo_87_0))) (And.intro (@fo_87_1) (And.intro (@fo_87_2) (@fo_98_0)))))) (And.intro (And.intro (And.intro (And.intro (@fo_98_1) (@pb_13)) (And.intro (@pb_14) (And.intro (@pb_15) (@pb_16)))) (And.intro (And.intro (@pb_17) (And.intro (@pb_18) (@pb_19))) (And.intro (@pb_20) (And.intro (@pb_21) (@pb_22))))) (And.intro (And.intro (And.intro (@pb_23) (And.intro (@pb_24) (@pb_25))) (And.intro (@pb_26) (And.intro (@pb_27) (@pb_28)))) (And.intro (And.intro (@pb_29) (And.intro (@pb_30) (@pb_31))) (And.intro (@pb_32) (And.intro (@pb_33) (@pb_34))))))) (And.intro (And.intro (And.intro (And.intro (And.intro (@pb_35) (@pb_36)) (And.intro (@pb_37) (And.intro (@pb_38) (@pb_39)))) (And.intro (And.intro (@pb_40) (And.intro (@pb_41) (@pb_42))) (And.intro (@pb_43) (And.intro (@pb_44) (@pb_45))))) (And.intro (And.intro (And.intro (@pb_46) (@pb_47)) (And.intro (@pb_48) (And.intro (@pb_49) (@pb_50)))) (And.intro (And.intro (@pb_51) (And.intro (@pb_52) (@pb_53))) (And.intro (@pb_54) (And.intro (@pb_55) (@pb_56)))))) (And.intro (And.intro (And.intro (And.intro (@pb_57) (@pb_58)) (And.intro (@pb_59) (And.intro (@pb_60) (@pb_61)))) (And.intro (And.intro (@pb_62) (And.intro (@pb_63) (@pb_64))) (And.intro (@pb_65) (And.intro (@pb_66) (@pb_67))))) (And.intro (And.intro (And.intro (@pb_68) (And.intro (@pb_69) (@pb_70))) (And.intro (@pb_71) (And.intro (@pb_72) (@pb_73)))) (And.intro (And.intro (@pb_74) (And.intro (@pb_75) (@pb_76))) (And.intro (@pb_77) (And.intro (@pb_78) (@pb_79))))))))
theorem fr_le {re cf : List Int} (k : okL re cf) {r : Int} (hh : has re r) {j : Nat} (hj : j < re.length) (h : re.getD j 0 ≤ r) : fr re cf r ≤ cf.getD j 0 := by
  have hn := k.n
  rcases beh_cases k hh with ⟨e, e2⟩ | ⟨i, e, h0, hi, h1, h2⟩
  · unfold fr; rw [if_pos e]; exact k.le (by omega) (by omega)
  · unfold fr; rw [e, if_neg (by omega)]
    have hji : j < i := by
      rcases Nat.lt_or_ge j i with q | q
      · exact q
      · rcases Nat.lt_or_ge i j with q2 | q2
        · have := k.lt q2 hj; omega
        · have : j = i := by omega
          rw [this] at h; omega
    have h3 := (mid_in k h0 hi h1 h2).2.2
    have h4 := k.le (i := j) (j := i - 1) (by omega) (by omega)
    omega
theorem fr_ge {re cf : List Int} (k : okL re cf) {r : Int} (hh : has re r) {j : Nat} (hj : j < re.length) (h : r ≤ re.getD j 0) : cf.getD j 0 ≤ fr re cf r := by
  have hn := k.n
  rcases beh_cases k hh with ⟨e, e2⟩ | ⟨i, e, h0, hi, h1, h2⟩
  · unfold fr; rw [if_pos e]
    have : j = re.length - 1 := by
      rcases Nat.lt_or_ge j (re.length - 1) with q | q
      · have := k.lt q (by omega); omega
      · omega
    rw [this]; exact Int.le_refl _
  · unfold fr; rw [e, if_neg (by omega)]
    have hm := mid_in k h0 hi h1 h2
    rcases Nat.lt_or_ge j i with q | q
    · have e3 : j = i - 1 := by
        rcases Nat.lt_or_ge j (i - 1) with q2 | q2
        · have := k.lt q2 (by omega); omega
        · omega
      have e4 : r = re.getD (i - 1) 0 := by rw [e3] at h; omega
      rw [e3]
      unfold mid
      rw [e4, Int.sub_self, Int.mul_zero, Int.zero_ediv, Int.sub_zero]; exact Int.le_refl _
    · have := k.le (i := i) (j := j) q hj
      omega
theorem fr_pt {re cf : List Int} (k : okL re cf) {j : Nat} (hj : j < re.length) : has re (re.getD j 0) ∧ fr re cf (re.getD j 0) = cf.getD j 0 := by
  have hn := k.n
  have hh : has re (re.getD j 0) := by
    constructor
    · rcases Nat.eq_zero_or_pos j with e | e
      · rw [e]; exact Int.le_refl _
      · have := k.lt e hj; omega
    · rcases Nat.lt_or_ge j (re.length - 1) with q | q
      · have := k.lt q (by omega); omega
      · have : j = re.length - 1 := by omega
        rw [← this]; exact Int.le_refl _
  have h1 := fr_le k hh hj (Int.le_refl _)
  have h2 := fr_ge k hh hj (Int.le_refl _)
  exact ⟨hh, by omega⟩
theorem fr_mono {re cf : List Int} (k : okL re cf) {r r' : Int} (hh : has re r) (hh' : has re r') (h : r ≤ r') : fr re cf r' ≤ fr re cf r := by
  have hn := k.n
  rcases beh_cases k hh' with ⟨e, e2⟩ | ⟨i, e, h0, hi, h1, h2⟩
  · have := fr_ge k hh (j := re.length - 1) (by omega) hh.2
    unfold fr at this ⊢
    rw [if_pos e]; exact this
  · rcases Int.le_total r (re.getD (i - 1) 0) with q | q
    · have h3 := fr_ge k hh (j := i - 1) (by omega) q
      have h4 := fr_le k hh' (j := i - 1) (by omega) h1
      omega
    · have hb : beh re r = i := beh_at hi (by omega) fun j hj => by
        rcases Nat.lt_or_ge j (i - 1) with q2 | q2
        · have := k.lt q2 (by omega); omega
        · have : j = i - 1 := by omega
          rw [this]; exact q
      unfold fr
      rw [e, hb, if_neg (by omega)]
      unfold mid
      have h5 := k.le (i := i - 1) (j := i) (by omega) hi
      have h6 := k.lt (i := i - 1) (j := i) (by omega) hi
      have h7 : (cf.getD (i - 1) 0 - cf.getD i 0) * (r - re.getD (i - 1) 0) ≤ (cf.getD (i - 1) 0 - cf.getD i 0) * (r' - re.getD (i - 1) 0) := Int.mul_le_mul_of_nonneg_left (by omega) (by omega)
      have h8 := Int.ediv_le_ediv (show 0 < re.getD i 0 - re.getD (i - 1) 0 by omega) h7
      omega

theorem conv_u32 {n : Int} (hn : 0 ≤ n ∧ n ≤ 4294967295) : convE Try.prog 55 2 (.int .u32 n) = some (.int .i64 n) := by
  rw [c_int Try.underlying55 Try.underlying2]
  rw [wrap_in _ (by omega) (by omega)]
theorem tmod_in {a m : Int} (ha : 0 ≤ a) (hm : 0 < m) : 0 ≤ a.tmod m ∧ a.tmod m < m := by
  rw [Int.tmod_eq_emod_of_nonneg ha]
  exact ⟨Int.emod_nonneg _ (by omega), Int.emod_lt_of_pos _ hm⟩

theorem lawFalls (a b : AV) (re cf : List Int) (u v : Int) (hu : 0 ≤ u ∧ u ≤ 4294967295) (hv : 0 ≤ v ∧ v ≤ 4294967295) (h : H) (x : LineR h a b re cf) : (om Try.prog KK).call (.fn 10 [.agg [a, b], .int .u32 u, .int .u32 v]) h = .ok (.bool true) h := by
  have wf := x.wf
  obtain ⟨⟨fa, fa'⟩, ⟨fb, fb'⟩⟩ := x.flats
  have ha : ∀ h', lenE Try.prog 22 a h' = some (ii (re.length : Int)) := fun h' => x.re.len un_22
  refine WV_to (WV_call (fn := Try.f10) Try.func10 rfl rfl rfl rfl rfl ?_)
  simp only [argF]
  by_cases hg : 20 < re.length ∨ 20 < cf.length
  · have hgd : decide (20 < re.length ∨ 20 < cf.length) = true := decide_eq_true hg
    (repeat' (first
  | (with_reducible first | refine WC_seq ?_ | refine WC_skip ?_ | refine WC_label ?_ | refine WC_scope ?_ | refine WC_block ?_ | refine WC_ret ?_ | refine WC_exit ?_ | refine seqQ_norm ?_ | refine seqQ_ret ?_ | refine seqQ_exit ?_ | refine blkQ_norm ?_ | refine blkQ_ret ?_ | refine blkQ_here ?_ | refine gateK_yes ?_ | refine gateK_none ?_ | refine condK_tt ?_ | refine condK_ff ?_ | refine roundQ_exit ?_ | refine roundQ_ret ?_)
  | refine WC_region ?_ | refine blkQ_out rfl ?_ | refine WO_nil ?_ | refine WD_nil ?_
  | ((first | refine WD_gate rfl rfl rfl rfl rfl fun K_ hK_ => ?_ | refine WO_gate rfl rfl rfl rfl rfl fun K_ hK_ => ?_); simp only [upd_apply, asB_bool, asB_tup, ↓reduceIte, reduceCtorEq, Nat.reduceEqDiff, Bool.not_true, Bool.not_false]; refine hK_ _ ?_; clear hK_ K_)
  | refine gateK_no (by decide) ?_
  | ((try first | refine WO_op rfl rfl rfl ?_ | refine WO_op0 rfl rfl ?_ | refine WD_op rfl rfl rfl ?_ | refine WD_op0 rfl rfl ?_); (refine WV_gen fun Q_ hQ_ => ?_; simp (disch := first | omega | (simp only [List.length_cons, List.length_nil, List.length_append]; omega)) only [bb, bp, argF, ↓reduceIte, reduceCtorEq, Nat.reduceEqDiff, Nat.reduceLT, Nat.reduceLeDiff, Nat.reduceAdd, Nat.reduceMul, Nat.reduceSub, Nat.reduceBEq, Int.reduceToNat, cond_true, cond_false, eq_self, beq_self_eq_true, fa, fb, fa', fb', newPtr_X wf, load1_X wf, loadAgg_X wf, store1_X wf, writeCells_X wf, makeFunc_def, tEvD14, bsl_22, bsl_43, bsl_51, bsl_96, bsl_105, newSlice_X wf]; first | (refine dec_split (Q := Q_) (fun hp_ => ?_) (fun hp_ => ?_) <;> first | (exfalso; omega) | (refine hQ_ _ _ ?_; clear hQ_ Q_)) | (refine dec_splitn (Q := Q_) (fun hp_ => ?_) (fun hp_ => ?_) <;> first | (exfalso; omega) | (refine hQ_ _ _ ?_; clear hQ_ Q_)) | (refine hQ_ _ _ ?_; clear hQ_ Q_) | (refine WV_eq ((great a b re cf _ (x.up _ _ (by simp only [List.length_append, List.length_cons, List.length_nil]; omega))).trans (by rw [hgd])) ?_; refine hQ_ _ _ ?_; clear hQ_ Q_) | (refine WV_eq (works _) ?_; refine hQ_ _ _ ?_; clear hQ_ Q_)))
  | (refine WC_cond fun K_ hK_ => ?_; simp (disch := omega) only [evT_tmp, upd_apply, WB_some, ↓reduceIte, reduceCtorEq, Nat.reduceEqDiff, Nat.reduceLT]; refine hK_ _ ?_; clear hK_ K_)))
    (refine endQ_ret _ _ rfl (ret1 (by decide)) ?_; simp only [upd_apply, ↓reduceIte, reduceCtorEq, Nat.reduceEqDiff]; refine WV_flat rfl (by omega) ?_)
    exact ⟨rfl, rfl⟩
  have hgd : decide (20 < re.length ∨ 20 < cf.length) = false := decide_eq_false hg
  by_cases hz : lineErr re cf = 0
  · have k := lineErr_zero.1 hz
    have hn := k.n
    obtain ⟨ia, oa, hxa, hla⟩ := ints_at wf x.re (i := 0) (by omega)
    obtain ⟨ib, ob, hxb, hlb⟩ := ints_at wf x.re (i := re.length - 1) (by omega)
    rw [show ((re.length - 1 : Nat) : Int) = (re.length : Int) - 1 from by omega] at hxb
    have hxa' : indexAddrE Try.prog 22 a (.int .i64 0) = some (.ptr ia oa) := hxa
    have b1 := k.re_in (i := 0) (by omega)
    have b2 := k.re_in (i := re.length - 1) (by omega)
    have b3 := k.lt (i := 0) (j := re.length - 1) (by omega) (by omega)
    have hd : ∀ r, has re r ↔ (re.getD 0 0 ≤ r ∧ r ≤ re.getD (re.length - 1) 0) := fun r => Iff.rfl
    generalize re.getD 0 0 = p at *
    generalize re.getD (re.length - 1) 0 = q at *
    have m1 := tmod_in (a := u) (m := q - p + 1) hu.1 (by omega)
    have m2 := tmod_in (a := v) (m := q - p + 1) hv.1 (by omega)
    have hzq : q - p + 1 ≠ 0 := by omega
    generalize hx1 : u.tmod (q - p + 1) = du at *
    generalize hx2 : v.tmod (q - p + 1) = dv at *
    have hmin : has re (min (p + du) (p + dv)) := (hd _).2 (by omega)
    have hmax : has re (max (p + du) (p + dv)) := (hd _).2 (by omega)
    have ho1 : ¬ has re (p - 1 - u) := fun hh => by have := (hd _).1 hh; omega
    have ho2 : ¬ has re (q + 1 + v) := fun hh => by have := (hd _).1 hh; omega
    have hmono := fr_mono k hmin hmax (by omega)
    (repeat' (first
  | (with_reducible first | refine WC_seq ?_ | refine WC_skip ?_ | refine WC_label ?_ | refine WC_scope ?_ | refine WC_block ?_ | refine WC_ret ?_ | refine WC_exit ?_ | refine seqQ_norm ?_ | refine seqQ_ret ?_ | refine seqQ_exit ?_ | refine blkQ_norm ?_ | refine blkQ_ret ?_ | refine blkQ_here ?_ | refine gateK_yes ?_ | refine gateK_none ?_ | refine condK_tt ?_ | refine condK_ff ?_ | refine roundQ_exit ?_ | refine roundQ_ret ?_)
  | refine WC_region ?_ | refine blkQ_out rfl ?_ | refine WO_nil ?_ | refine WD_nil ?_
  | ((first | refine WD_gate rfl rfl rfl rfl rfl fun K_ hK_ => ?_ | refine WO_gate rfl rfl rfl rfl rfl fun K_ hK_ => ?_); simp only [upd_apply, asB_bool, asB_tup, ↓reduceIte, reduceCtorEq, Nat.reduceEqDiff, Bool.not_true, Bool.not_false]; refine hK_ _ ?_; clear hK_ K_)
  | refine gateK_no (by decide) ?_
  | ((try first | refine WO_op rfl rfl rfl ?_ | refine WO_op0 rfl rfl ?_ | refine WD_op rfl rfl rfl ?_ | refine WD_op0 rfl rfl ?_); (refine WV_gen fun Q_ hQ_ => ?_; simp (disch := first | omega | (simp only [List.length_cons, List.length_nil, List.length_append]; omega)) only [bb, bp, argF, ↓reduceIte, reduceCtorEq, Nat.reduceEqDiff, Nat.reduceLT, Nat.reduceLeDiff, Nat.reduceAdd, Nat.reduceMul, Nat.reduceSub, Nat.reduceBEq, Int.reduceToNat, cond_true, cond_false, eq_self, beq_self_eq_true, fa, fb, fa', fb', newPtr_X wf, load1_X wf, loadAgg_X wf, store1_X wf, writeCells_X wf, makeFunc_def, tEvD14, bsl_22, bsl_43, bsl_51, bsl_96, bsl_105, newSlice_X wf]; first | (refine dec_split (Q := Q_) (fun hp_ => ?_) (fun hp_ => ?_) <;> first | (exfalso; omega) | (refine hQ_ _ _ ?_; clear hQ_ Q_)) | (refine dec_splitn (Q := Q_) (fun hp_ => ?_) (fun hp_ => ?_) <;> first | (exfalso; omega) | (refine hQ_ _ _ ?_; clear hQ_ Q_)) | (refine hQ_ _ _ ?_; clear hQ_ Q_) | (refine WV_eq ((great a b re cf _ (x.up _ _ (by simp only [List.length_append, List.length_cons, List.length_nil]; omega))).trans (by rw [hgd])) ?_; refine hQ_ _ _ ?_; clear hQ_ Q_) | (refine WV_eq ((refCheckLine a b re cf _ (x.up _ _ (by simp only [List.length_append, List.length_cons, List.length_nil]; omega))).trans (by rw [hz])) ?_; refine hQ_ _ _ ?_; clear hQ_ Q_)))
  | (refine WC_cond fun K_ hK_ => ?_; simp (disch := omega) only [evT_tmp, upd_apply, WB_some, ↓reduceIte, reduceCtorEq, Nat.reduceEqDiff, Nat.reduceLT]; refine hK_ _ ?_; clear hK_ K_)))
    refine WC_drawnB (List.replicate 13 .no ++ [.full]) (by kernel_rfl) ?_
    (repeat' (first
  | (with_reducible first | refine WC_seq ?_ | refine WC_skip ?_ | refine WC_label ?_ | refine WC_scope ?_ | refine WC_block ?_ | refine WC_ret ?_ | refine WC_exit ?_ | refine seqQ_norm ?_ | refine seqQ_ret ?_ | refine seqQ_exit ?_ | refine blkQ_norm ?_ | refine blkQ_ret ?_ | refine blkQ_here ?_ | refine gateK_yes ?_ | refine gateK_none ?_ | refine condK_tt ?_ | refine condK_ff ?_ | refine roundQ_exit ?_ | refine roundQ_ret ?_)
  | refine WC_region ?_ | refine blkQ_out rfl ?_ | refine WO_nil ?_ | refine WD_nil ?_
  | ((first | refine WD_gate rfl rfl rfl rfl rfl fun K_ hK_ => ?_ | refine WO_gate rfl rfl rfl rfl rfl fun K_ hK_ => ?_); simp only [upd_apply, asB_bool, asB_tup, ↓reduceIte, reduceCtorEq, Nat.reduceEqDiff, Bool.not_true, Bool.not_false]; refine hK_ _ ?_; clear hK_ K_)
  | refine gateK_no (by decide) ?_
  | ((try first | refine WO_op rfl rfl rfl ?_ | refine WO_op0 rfl rfl ?_ | refine WD_op rfl rfl rfl ?_ | refine WD_op0 rfl rfl ?_); (refine WV_gen fun Q_ hQ_ => ?_; simp (disch := first | omega | (simp only [List.length_cons, List.length_nil, List.length_append]; omega)) only [bb, bp, argF, ↓reduceIte, reduceCtorEq, Nat.reduceEqDiff, Nat.reduceLT, Nat.reduceLeDiff, Nat.reduceAdd, Nat.reduceMul, Nat.reduceSub, Nat.reduceBEq, Int.reduceToNat, cond_true, cond_false, eq_self, beq_self_eq_true, ha, fa, fb, fa', fb', hxa', hla, hxb, hlb, newPtr_X wf, load1_X wf, loadAgg_X wf, store1_X wf, writeCells_X wf, makeFunc_def, tEvD14, bsl_22, bsl_43, bsl_51, bsl_96, bsl_105, newSlice_X wf]; first | (refine dec_split (Q := Q_) (fun hp_ => ?_) (fun hp_ => ?_) <;> first | (exfalso; omega) | (refine hQ_ _ _ ?_; clear hQ_ Q_)) | (refine dec_splitn (Q := Q_) (fun hp_ => ?_) (fun hp_ => ?_) <;> first | (exfalso; omega) | (refine hQ_ _ _ ?_; clear hQ_ Q_)) | (refine hQ_ _ _ ?_; clear hQ_ Q_)))
  | (refine WC_cond fun K_ hK_ => ?_; simp (disch := omega) only [evT_tmp, upd_apply, WB_some, ↓reduceIte, reduceCtorEq, Nat.reduceEqDiff, Nat.reduceLT]; refine hK_ _ ?_; clear hK_ K_)))
    (repeat' (first
  | (with_reducible first | refine WC_seq ?_ | refine WC_skip ?_ | refine WC_label ?_ | refine WC_scope ?_ | refine WC_block ?_ | refine WC_ret ?_ | refine WC_exit ?_ | refine seqQ_norm ?_ | refine seqQ_ret ?_ | refine seqQ_exit ?_ | refine blkQ_norm ?_ | refine blkQ_ret ?_ | refine blkQ_here ?_ | refine gateK_yes ?_ | refine gateK_none ?_ | refine condK_tt ?_ | refine condK_ff ?_ | refine roundQ_exit ?_ | refine roundQ_ret ?_)
  | refine WC_region ?_ | refine blkQ_out rfl ?_ | refine WO_nil ?_ | refine WD_nil ?_
  | ((first | refine WD_gate rfl rfl rfl rfl rfl fun K_ hK_ => ?_ | refine WO_gate rfl rfl rfl rfl rfl fun K_ hK_ => ?_); simp only [upd_apply, asB_bool, asB_tup, ↓reduceIte, reduceCtorEq, Nat.reduceEqDiff, Bool.not_true, Bool.not_false]; refine hK_ _ ?_; clear hK_ K_)
  | refine gateK_no (by decide) ?_
  | ((try first | refine WO_op rfl rfl rfl ?_ | refine WO_op0 rfl rfl ?_ | refine WD_op rfl rfl rfl ?_ | refine WD_op0 rfl rfl ?_); (refine WV_gen fun Q_ hQ_ => ?_; simp (disch := first | omega | (simp only [List.length_cons, List.length_nil, List.length_append]; omega)) only [bb, bp, argF, ↓reduceIte, reduceCtorEq, Nat.reduceEqDiff, Nat.reduceLT, Nat.reduceLeDiff, Nat.reduceAdd, Nat.reduceMul, Nat.reduceSub, Nat.reduceBEq, Int.reduceToNat, cond_true, cond_false, eq_self, beq_self_eq_true, ha, fa, fb, fa', fb', conv_u32 hu, conv_u32 hv, b_rem hzq, hx1, hx2, bi_min, bi_max, newPtr_X wf, load1_X wf, loadAgg_X wf, store1_X wf, writeCells_X wf, makeFunc_def, tEvD14, bsl_22, bsl_43, bsl_51, bsl_96, bsl_105, newSlice_X wf]; first | (refine dec_split (Q := Q_) (fun hp_ => ?_) (fun hp_ => ?_) <;> first | (exfalso; omega) | (refine hQ_ _ _ ?_; clear hQ_ Q_)) | (refine dec_splitn (Q := Q_) (fun hp_ => ?_) (fun hp_ => ?_) <;> first | (exfalso; omega) | (refine hQ_ _ _ ?_; clear hQ_ Q_)) | (refine hQ_ _ _ ?_; clear hQ_ Q_) | (refine WV_eq ((Friction a b re cf (min (p + du) (p + dv)) _ (x.up _ _ (by simp only [List.length_append, List.length_cons, List.length_nil]; omega))).trans (by rw [(fric_has k hmin).1, (fric_has k hmin).2])) ?_; refine hQ_ _ _ ?_; clear hQ_ Q_) | (refine WV_eq ((Friction a b re cf (max (p + du) (p + dv)) _ (x.up _ _ (by simp only [List.length_append, List.length_cons, List.length_nil]; omega))).trans (by rw [(fric_has k hmax).1, (fric_has k hmax).2])) ?_; refine hQ_ _ _ ?_; clear hQ_ Q_) | (refine WV_eq ((Friction a b re cf (p - 1 - u) _ (x.up _ _ (by simp only [List.length_append, List.length_cons, List.length_nil]; omega))).trans (by rw [(fric_out k ho1).1, (fric_out k ho1).2])) ?_; refine hQ_ _ _ ?_; clear hQ_ Q_) | (refine WV_eq ((Friction a b re cf (q + 1 + v) _ (x.up _ _ (by simp only [List.length_append, List.length_cons, List.length_nil]; omega))).trans (by rw [(fric_out k ho2).1, (fric_out k ho2).2])) ?_; refine hQ_ _ _ ?_; clear hQ_ Q_)))
  | (refine WC_cond fun K_ hK_ => ?_; simp (disch := omega) only [evT_tmp, upd_apply, WB_some, ↓reduceIte, reduceCtorEq, Nat.reduceEqDiff, Nat.reduceLT]; refine hK_ _ ?_; clear hK_ K_)))
    refine WC_loop (fun (i : Nat) f d h' => i ≤ re.length ∧ f 3 = .ptr (nx h 0) 0 ∧ f 9 = ii (p + du) ∧ f 10 = ii (p + dv) ∧ f 11 = ii (fr re cf (min (p + du) (p + dv))) ∧ f 19 = ii (i : Int) ∧ d = [] ∧ h' = X h [.cells (mkCells [a, b]) 24] h.clock) (fun i => re.length - i) ?_ (re.length + 1) 0 (by omega) ?_
    · rintro i f d h' ⟨hi, g3, g9, g10, g11, g19, rfl, rfl⟩
      by_cases hlt : i < re.length
      · obtain ⟨ic, oc, hxc, hlc⟩ := ints_at wf x.re (i := i) hlt
        obtain ⟨id, od, hxd, hld⟩ := ints_at wf x.cf (i := i) (by have := k.e; omega)
        have hle := fun e => fr_le k hmin hlt e
        have hge := fun e => fr_ge k hmin hlt e
        obtain ⟨hpt, hpv⟩ := fr_pt k hlt
        have hfc := (fun l w hw => (Friction a b re cf (re.getD i 0) _ (x.up l w hw)).trans (by rw [(fric_has k hpt).1, (fric_has k hpt).2, hpv]) : ∀ l w, w ≤ h.clock + l.length → (om Try.prog KK).call (.fn 15 [.agg [a, b], ii (re.getD i 0)]) (X h l w) = .ok (.tup [ii (cf.getD i 0), ii 0]) (X h l w))
        generalize re.getD i 0 = rc at *
        generalize cf.getD i 0 = cc at *
        generalize fr re cf (min (p + du) (p + dv)) = F at *
        (repeat' (first
  | (with_reducible first | refine WC_seq ?_ | refine WC_skip ?_ | refine WC_label ?_ | refine WC_scope ?_ | refine WC_block ?_ | refine WC_ret ?_ | refine WC_exit ?_ | refine seqQ_norm ?_ | refine seqQ_ret ?_ | refine seqQ_exit ?_ | refine blkQ_norm ?_ | refine blkQ_ret ?_ | refine blkQ_here ?_ | refine gateK_yes ?_ | refine gateK_none ?_ | refine condK_tt ?_ | refine condK_ff ?_ | refine roundQ_exit ?_ | refine roundQ_ret ?_)
  | refine WC_region ?_ | refine blkQ_out rfl ?_ | refine WO_nil ?_ | refine WD_nil ?_
  | ((first | refine WD_gate rfl rfl rfl rfl rfl fun K_ hK_ => ?_ | refine WO_gate rfl rfl rfl rfl rfl fun K_ hK_ => ?_); simp only [upd_apply, asB_bool, asB_tup, ↓reduceIte, reduceCtorEq, Nat.reduceEqDiff, Bool.not_true, Bool.not_false]; refine hK_ _ ?_; clear hK_ K_)
  | refine gateK_no (by decide) ?_
  | ((try first | refine WO_op rfl rfl rfl ?_ | refine WO_op0 rfl rfl ?_ | refine WD_op rfl rfl rfl ?_ | refine WD_op0 rfl rfl ?_); (refine WV_gen fun Q_ hQ_ => ?_; simp (disch := first | omega | (simp only [List.length_cons, List.length_nil, List.length_append]; omega)) only [bb, bp, argF, ↓reduceIte, reduceCtorEq, Nat.reduceEqDiff, Nat.reduceLT, Nat.reduceLeDiff, Nat.reduceAdd, Nat.reduceMul, Nat.reduceSub, Nat.reduceBEq, Int.reduceToNat, cond_true, cond_false, eq_self, beq_self_eq_true, g3, g9, g10, g11, g19, ha, hxc, hlc, hxd, hld, bi_min, newPtr_X wf, load1_X wf, loadAgg_X wf, store1_X wf, writeCells_X wf, makeFunc_def, tEvD14, bsl_22, bsl_43, bsl_51, bsl_96, bsl_105, newSlice_X wf]; first | (refine dec_split (Q := Q_) (fun hp_ => ?_) (fun hp_ => ?_) <;> first | (exfalso; omega) | (refine hQ_ _ _ ?_; clear hQ_ Q_)) | (refine dec_splitn (Q := Q_) (fun hp_ => ?_) (fun hp_ => ?_) <;> first | (exfalso; omega) | (refine hQ_ _ _ ?_; clear hQ_ Q_)) | (refine hQ_ _ _ ?_; clear hQ_ Q_)))
  | (refine WC_cond fun K_ hK_ => ?_; simp (disch := omega) only [evT_tmp, upd_apply, WB_some, ↓reduceIte, reduceCtorEq, Nat.reduceEqDiff, Nat.reduceLT]; refine hK_ _ ?_; clear hK_ K_)))
        all_goals (refine WC_drawnB [.no, .no, .no, .no, .no, .no, .full, .full, .full, .full, .full, .full] (by kernel_rfl) ?_)
        all_goals ((repeat' (first
  | (with_reducible first | refine WC_seq ?_ | refine WC_skip ?_ | refine WC_label ?_ | refine WC_scope ?_ | refine WC_block ?_ | refine WC_ret ?_ | refine WC_exit ?_ | refine seqQ_norm ?_ | refine seqQ_ret ?_ | refine seqQ_exit ?_ | refine blkQ_norm ?_ | refine blkQ_ret ?_ | refine blkQ_here ?_ | refine gateK_yes ?_ | refine gateK_none ?_ | refine condK_tt ?_ | refine condK_ff ?_ | refine roundQ_exit ?_ | refine roundQ_ret ?_)
  | refine WC_region ?_ | refine blkQ_out rfl ?_ | refine WO_nil ?_ | refine WD_nil ?_
  | ((first | refine WD_gate rfl rfl rfl rfl rfl fun K_ hK_ => ?_ | refine WO_gate rfl rfl rfl rfl rfl fun K_ hK_ => ?_); simp only [upd_apply, asB_bool, asB_tup, ↓reduceIte, reduceCtorEq, Nat.reduceEqDiff, Bool.not_true, Bool.not_false]; refine hK_ _ ?_; clear hK_ K_)
  | refine gateK_no (by decide) ?_
  | ((try first | refine WO_op rfl rfl rfl ?_ | refine WO_op0 rfl rfl ?_ | refine WD_op rfl rfl rfl ?_ | refine WD_op0 rfl rfl ?_); (refine WV_gen fun Q_ hQ_ => ?_; simp (disch := first | omega | (simp only [List.length_cons, List.length_nil, List.length_append]; omega)) only [bb, bp, argF, ↓reduceIte, reduceCtorEq, Nat.reduceEqDiff, Nat.reduceLT, Nat.reduceLeDiff, Nat.reduceAdd, Nat.reduceMul, Nat.reduceSub, Nat.reduceBEq, Int.reduceToNat, cond_true, cond_false, eq_self, beq_self_eq_true, g3, g9, g10, g11, g19, fa, fb, fa', fb', ha, hxc, hlc, hxd, hld, hfc, newPtr_X wf, load1_X wf, loadAgg_X wf, store1_X wf, writeCells_X wf, makeFunc_def, tEvD14, bsl_22, bsl_43, bsl_51, bsl_96, bsl_105, newSlice_X wf]; first | (refine dec_split (Q := Q_) (fun hp_ => ?_) (fun hp_ => ?_) <;> first | (exfalso; omega) | (refine hQ_ _ _ ?_; clear hQ_ Q_)) | (refine dec_splitn (Q := Q_) (fun hp_ => ?_) (fun hp_ => ?_) <;> first | (exfalso; omega) | (refine hQ_ _ _ ?_; clear hQ_ Q_)) | (refine hQ_ _ _ ?_; clear hQ_ Q_)))
  | (refine WC_cond fun K_ hK_ => ?_; simp (disch := omega) only [evT_tmp, upd_apply, WB_some, ↓reduceIte, reduceCtorEq, Nat.reduceEqDiff, Nat.reduceLT]; refine hK_ _ ?_; clear hK_ K_))))
        all_goals (refine roundQ_again (i + 1) (by omega) ⟨hlt, by simp only [upd_apply, ↓reduceIte, reduceCtorEq, Nat.reduceEqDiff]; exact g3, by simp only [upd_apply, ↓reduceIte, reduceCtorEq, Nat.reduceEqDiff]; exact g9, by simp only [upd_apply, ↓reduceIte, reduceCtorEq, Nat.reduceEqDiff]; exact g10, by simp only [upd_apply, ↓reduceIte, reduceCtorEq, Nat.reduceEqDiff]; exact g11, by simp only [upd_apply, ↓reduceIte, reduceCtorEq, Nat.reduceEqDiff]; rfl, rfl, rfl⟩)
      · have hie : i = re.length := by omega
        subst hie
        (repeat' (first
  | (with_reducible first | refine WC_seq ?_ | refine WC_skip ?_ | refine WC_label ?_ | refine WC_scope ?_ | refine WC_block ?_ | refine WC_ret ?_ | refine WC_exit ?_ | refine seqQ_norm ?_ | refine seqQ_ret ?_ | refine seqQ_exit ?_ | refine blkQ_norm ?_ | refine blkQ_ret ?_ | refine blkQ_here ?_ | refine gateK_yes ?_ | refine gateK_none ?_ | refine condK_tt ?_ | refine condK_ff ?_ | refine roundQ_exit ?_ | refine roundQ_ret ?_)
  | refine WC_region ?_ | refine blkQ_out rfl ?_ | refine WO_nil ?_ | refine WD_nil ?_
  | ((first | refine WD_gate rfl rfl rfl rfl rfl fun K_ hK_ => ?_ | refine WO_gate rfl rfl rfl rfl rfl fun K_ hK_ => ?_); simp only [upd_apply, asB_bool, asB_tup, ↓reduceIte, reduceCtorEq, Nat.reduceEqDiff, Bool.not_true, Bool.not_false]; refine hK_ _ ?_; clear hK_ K_)
  | refine gateK_no (by decide) ?_
  | ((try first | refine WO_op rfl rfl rfl ?_ | refine WO_op0 rfl rfl ?_ | refine WD_op rfl rfl rfl ?_ | refine WD_op0 rfl rfl ?_); (refine WV_gen fun Q_ hQ_ => ?_; simp (disch := first | omega | (simp only [List.length_cons, List.length_nil, List.length_append]; omega)) only [bb, bp, argF, ↓reduceIte, reduceCtorEq, Nat.reduceEqDiff, Nat.reduceLT, Nat.reduceLeDiff, Nat.reduceAdd, Nat.reduceMul, Nat.reduceSub, Nat.reduceBEq, Int.reduceToNat, cond_true, cond_false, eq_self, beq_self_eq_true, g3, g9, g10, g11, g19, ha, newPtr_X wf, load1_X wf, loadAgg_X wf, store1_X wf, writeCells_X wf, makeFunc_def, tEvD14, bsl_22, bsl_43, bsl_51, bsl_96, bsl_105, newSlice_X wf]; first | (refine dec_split (Q := Q_) (fun hp_ => ?_) (fun hp_ => ?_) <;> first | (exfalso; omega) | (refine hQ_ _ _ ?_; clear hQ_ Q_)) | (refine dec_splitn (Q := Q_) (fun hp_ => ?_) (fun hp_ => ?_) <;> first | (exfalso; omega) | (refine hQ_ _ _ ?_; clear hQ_ Q_)) | (refine hQ_ _ _ ?_; clear hQ_ Q_) | (refine WV_eq (works _) ?_; refine hQ_ _ _ ?_; clear hQ_ Q_)))
  | (refine WC_cond fun K_ hK_ => ?_; simp (disch := omega) only [evT_tmp, upd_apply, WB_some, ↓reduceIte, reduceCtorEq, Nat.reduceEqDiff, Nat.reduceLT]; refine hK_ _ ?_; clear hK_ K_)))
        (refine endQ_ret _ _ rfl (ret1 (by decide)) ?_; simp only [upd_apply, ↓reduceIte, reduceCtorEq, Nat.reduceEqDiff]; refine WV_flat rfl (by omega) ?_)
        exact ⟨rfl, rfl⟩
    · exact ⟨Nat.zero_le _, by simp only [upd_apply, ↓reduceIte, reduceCtorEq, Nat.reduceEqDiff], by simp only [upd_apply, ↓reduceIte, reduceCtorEq, Nat.reduceEqDiff], by simp only [upd_apply, ↓reduceIte, reduceCtorEq, Nat.reduceEqDiff], by simp only [upd_apply, ↓reduceIte, reduceCtorEq, Nat.reduceEqDiff], by simp only [upd_apply, ↓reduceIte, reduceCtorEq, Nat.reduceEqDiff]; rfl, rfl, rfl⟩
  · (repeat' (first
  | (with_reducible first | refine WC_seq ?_ | refine WC_skip ?_ | refine WC_label ?_ | refine WC_scope ?_ | refine WC_block ?_ | refine WC_ret ?_ | refine WC_exit ?_ | refine seqQ_norm ?_ | refine seqQ_ret ?_ | refine seqQ_exit ?_ | refine blkQ_norm ?_ | refine blkQ_ret ?_ | refine blkQ_here ?_ | refine gateK_yes ?_ | refine gateK_none ?_ | refine condK_tt ?_ | refine condK_ff ?_ | refine roundQ_exit ?_ | refine roundQ_ret ?_)
  | refine WC_region ?_ | refine blkQ_out rfl ?_ | refine WO_nil ?_ | refine WD_nil ?_
  | ((first | refine WD_gate rfl rfl rfl rfl rfl fun K_ hK_ => ?_ | refine WO_gate rfl rfl rfl rfl rfl fun K_ hK_ => ?_); simp only [upd_apply, asB_bool, asB_tup, ↓reduceIte, reduceCtorEq, Nat.reduceEqDiff, Bool.not_true, Bool.not_false]; refine hK_ _ ?_; clear hK_ K_)
  | refine gateK_no (by decide) ?_
  | ((try first | refine WO_op rfl rfl rfl ?_ | refine WO_op0 rfl rfl ?_ | refine WD_op rfl rfl rfl ?_ | refine WD_op0 rfl rfl ?_); (refine WV_gen fun Q_ hQ_ => ?_; simp (disch := first | omega | (simp only [List.length_cons, List.length_nil, List.length_append]; omega)) only [bb, bp, argF, ↓reduceIte, reduceCtorEq, Nat.reduceEqDiff, Nat.reduceLT, Nat.reduceLeDiff, Nat.reduceAdd, Nat.reduceMul, Nat.reduceSub, Nat.reduceBEq, Int.reduceToNat, cond_true, cond_false, eq_self, beq_self_eq_true, fa, fb, fa', fb', newPtr_X wf, load1_X wf, loadAgg_X wf, store1_X wf, writeCells_X wf, makeFunc_def, tEvD14, bsl_22, bsl_43, bsl_51, bsl_96, bsl_105, newSlice_X wf]; first | (refine dec_split (Q := Q_) (fun hp_ => ?_) (fun hp_ => ?_) <;> first | (exfalso; omega) | (refine hQ_ _ _ ?_; clear hQ_ Q_)) | (refine dec_splitn (Q := Q_) (fun hp_ => ?_) (fun hp_ => ?_) <;> first | (exfalso; omega) | (refine hQ_ _ _ ?_; clear hQ_ Q_)) | (refine hQ_ _ _ ?_; clear hQ_ Q_) | (refine WV_eq ((great a b re cf _ (x.up _ _ (by simp only [List.length_append, List.length_cons, List.length_nil]; omega))).trans (by rw [hgd])) ?_; refine hQ_ _ _ ?_; clear hQ_ Q_) | (refine WV_eq (refCheckLine a b re cf _ (x.up _ _ (by simp only [List.length_append, List.length_cons, List.length_nil]; omega))) ?_; refine hQ_ _ _ ?_; clear hQ_ Q_) | (refine WV_eq (works _) ?_; refine hQ_ _ _ ?_; clear hQ_ Q_)))
  | (refine WC_cond fun K_ hK_ => ?_; simp (disch := omega) only [evT_tmp, upd_apply, WB_some, ↓reduceIte, reduceCtorEq, Nat.reduceEqDiff, Nat.reduceLT]; refine hK_ _ ?_; clear hK_ K_)))
    (refine endQ_ret _ _ rfl (ret1 (by decide)) ?_; simp only [upd_apply, ↓reduceIte, reduceCtorEq, Nat.reduceEqDiff]; refine WV_flat rfl (by omega) ?_)
    exact ⟨rfl, rfl⟩
end Go.Proofs.Ythaleckfgcgegaa
end

/- EvDc3 -/
section
/- The statement DragFalls of layer 4: the friction of a line does not become greater with a greater Reynolds number, lies between the values of its points, and there is none outside of the line, for all lines and numbers; no condition. -/
namespace Go.Proofs.Ythaleckfgcgegaa.dragFalls
open Go.ChangeShapes Go.WideShapes Go.ChangeAt Go.RowKit Go.Ev
set_option maxRecDepth 100000
set_option maxHeartbeats 0

theorem contract (H : Type) (enc : TypeId × Value → H) (W : World) (base : Nat) (args : Array Value) (ds gs : List (DataW H)) (before : List MemPlace) (hval : ∀ (j : Nat) t v, Try.f10.params[j]? = some t → args[j]? = some v → Value.okWide Try.prog W .any base t v)
    (hW : DataW.Whole enc Try.prog Try.f10.params.toList Rows.dragFallsSpec.vars false W args.toList ds gs before) :
    Calls Try.prog 10 args W fun e W' => ∃ v, e = .returned v ∧ Rows.dragFallsSpec.post enc Try.prog Try.f10 false true false false W args v W' := by
  have hW' := hW
  obtain ⟨p, q, hA0, hV, rfl, hfz, hnd⟩ := hW
  have hA : DataW.TrodAll enc Try.prog W 0 (fun _ => true) true Try.f10.params.toList args.toList ds p := hA0
  rw [Try.params10] at hA hval
  obtain ⟨v0, v1, v2, d0, d1, d2, p0, p1, p2, rfl, rfl, rfl, ⟨n0, h0⟩, ⟨n1, h1⟩, ⟨n2, h2⟩⟩ := trodAll_three hA
  obtain ⟨a0, b0, re0, cf0, w0, x0⟩ := line_in (hval 0 24 v0 rfl rfl) h0
  obtain ⟨r1, hz1, hr1⟩ := okWideIntIn Try.underlying55 (okWide_cell (P := Try.prog) Try.underlying55 (fun _ e => by cases e) (fun _ _ e => by cases e) (hval 1 55 v1 rfl rfl))
  subst hz1
  obtain ⟨r2, hz2, hr2⟩ := okWideIntIn Try.underlying55 (okWide_cell (P := Try.prog) Try.underlying55 (fun _ e => by cases e) (fun _ _ e => by cases e) (hval 2 55 v2 rfl rfl))
  subst hz2
  have walk := lawFalls a0 b0 re0 cf0 r1 r2 hr1 hr2 (startW W) x0
  have hargs : VL (startWR W) [.agg [a0, b0], .int .u32 r1, .int .u32 r2] (#[v0, .int .u32 r1, .int .u32 r2] : Array Value).toList := (.cons _ _ _ _ w0 (.cons _ _ _ _ (.int _ _) (.cons _ _ _ _ (.int _ _) .nil)))
  refine (startW_true (P := Try.prog) mixed (K := KK) (fun c hc => by
    have : c = cW := List.mem_singleton.1 hc
    rw [this]; exact cW_ok) walk hargs).mono fun e W' ⟨he, hgr, hs⟩ => ?_
  subst he
  refine ⟨_, rfl, law_post laidOut (by
    rw [Try.params10]
    intro t ht
    rcases List.mem_cons.1 ht with rfl | ht
    · exact ⟨by kernel_rfl, of_decide_eq_true (by kernel_rfl)⟩
    rcases List.mem_cons.1 ht with rfl | ht
    · exact ⟨by kernel_rfl, of_decide_eq_true (by kernel_rfl)⟩
    rcases List.mem_cons.1 ht with rfl | ht
    · exact ⟨by kernel_rfl, of_decide_eq_true (by kernel_rfl)⟩
    cases ht) rfl (by kernel_rfl) Try.underlying4 (fun gs' ⟨q', hq⟩ => ?_) hW' hgr hs⟩
  obtain ⟨rfl, _⟩ := trodVars_none hq
  exact ⟨rfl, rfl, rfl⟩

theorem lifted (os : Os) (started : os.Started) (H : Type) (enc : TypeId × Value → H) :
    ReturnsInHanded {} Try.checked os 10 .any (Rows.dragFallsSpec.pre6 enc Try.prog Try.f10 Rows.dragFallsRow.domain false) (Rows.dragFallsSpec.post enc Try.prog Try.f10 false true false false) := by
  refine returnsInHanded_of_change (C := Try.checked) own started (by kernel_rfl) Try.func10
    (ChangeSpec.witness6 (enc := enc) (C := Try.checked) false ⟨#[], #[.agg #[.slice none 0 0, .slice none 0 0], .int .u32 0, .int .u32 0], []⟩ 8 (by kernel_rfl) (by kernel_rfl) (by kernel_rfl) (by kernel_rfl)) ?_
  intro W base args ds gs before hval hW _ _
  exact contract H enc W base args ds gs before hval hW

theorem holds : Rows.DragFallsSaid :=
  OpenClaim.holds_of_wide 10 Try.f10 rfl rfl rfl rfl rfl rfl rfl ⟨rfl, rfl, rfl, rfl, rfl⟩ rfl rfl rfl rfl rfl (by kernel_rfl) Try.func10 (by kernel_rfl)
    (of_decide_eq_true (by kernel_rfl)) (by unfold Func.isWrapper; first | (rw [if_pos (by decide +kernel)]; kernel_rfl) | (rw [if_neg (by decide +kernel)]; exact ⟨rfl, rfl⟩))
    (fun os started H enc _ => lifted os started H enc)
end Go.Proofs.Ythaleckfgcgegaa.dragFalls
end
