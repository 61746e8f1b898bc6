/- The statement DragLines of layer 4: which friction lines are valid, and the friction of a line, are what the definitions say, or the error, for all lines and numbers; no condition. -/
import Derived.Test.YthaleckfgcgegaaLinM4
import Derived.Test.YthaleckfgcgegaaRows
import Derived.WalkKit
import Derived.ProofKit
import Derived.OpenShut
set_option linter.all false
/- EvD6 -/
section
/-
  LAYER 4: the friction of a line in the reference.
-/
namespace Go.Proofs.Ythaleckfgcgegaa
open Go.Ev
set_option maxRecDepth 100000
set_option linter.unusedSimpArgs false
set_option linter.unusedVariables false
set_option maxHeartbeats 2000000
theorem tEvD6 : type_of% (And.intro (And.intro (And.intro (And.intro (And.intro (And.intro (And.intro (@bs_24) (@bs_33)) (And.intro (@bs_35) (And.intro (@bs_37) (@bs_67)))) (And.intro (And.intro (@bs_76) (And.intro (@bs_87) (@bs_98))) (And.intro (@bs_117) (And.intro (@ia_2) (@sz_2))))) (And.intro (And.intro (And.intro (@ia_3) (@sz_3)) (And.intro (@ia_4) (And.intro (@sz_4) (@ia_22)))) (And.intro (And.intro (@sz_22) (And.intro (@ia_24) (@sz_24))) (And.intro (@ia_27) (And.intro (@sz_27) (@ia_33)))))) (And.intro (And.intro (And.intro (And.intro (@sz_33) (@ia_35)) (And.intro (@sz_35) (And.intro (@ia_37) (@sz_37)))) (And.intro (And.intro (@ia_43) (And.intro (@sz_43) (@ia_51))) (And.intro (@sz_51) (And.intro (@ia_55) (@sz_55))))) (And.intro (And.intro (And.intro (@ia_56) (@sz_56)) (And.intro (@ia_67) (And.intro (@sz_67) (@ia_69)))) (And.intro (And.intro (@sz_69) (And.intro (@ia_70) (@sz_70))) (And.intro (@ia_73) (And.intro (@sz_73) (@ia_74))))))) (And.intro (And.intro (And.intro (And.intro (And.intro (@sz_74) (@ia_76)) (And.intro (@sz_76) (And.intro (@ia_78) (@sz_78)))) (And.intro (And.intro (@ia_87) (And.intro (@sz_87) (@ia_89))) (And.intro (@sz_89) (And.intro (@ia_96) (@sz_96))))) (And.intro (And.intro (And.intro (@ia_98) (@sz_98)) (And.intro (@ia_101) (And.intro (@sz_101) (@ia_105)))) (And.intro (And.intro (@sz_105) (And.intro (@ia_107) (@sz_107))) (And.intro (@ia_113) (And.intro (@sz_113) (@ia_114)))))) (And.intro (And.intro (And.intro (And.intro (@sz_114) (@ia_117)) (And.intro (@sz_117) (And.intro (@ia_119) (@sz_119)))) (And.intro (And.intro (@ze_2) (And.intro (@ze_3) (@ze_4))) (And.intro (@ze_24) (And.intro (@ze_27) (@ze_33))))) (And.intro (And.intro (And.intro (@ze_35) (And.intro (@ze_37) (@ze_67))) (And.intro (@ze_76) (And.intro (@ze_87) (@ze_98)))) (And.intro (And.intro (@ze_117) (And.intro (@fo_24_0) (@fo_24_1))) (And.intro (@fo_33_0) (And.intro (@fo_33_1) (@fo_35_0)))))))) (And.intro (And.intro (And.intro (And.intro (And.intro (And.intro (@fo_35_1) (@fo_35_2)) (And.intro (@fo_35_3) (And.intro (@fo_35_4) (@fo_35_5)))) (And.intro (And.intro (@fo_35_6) (And.intro (@fo_35_7) (@fo_35_8))) (And.intro (@fo_35_9) (And.intro (@fo_37_0) (@fo_37_1))))) (And.intro (And.intro (And.intro (@fo_37_2) (@fo_37_3)) (And.intro (@fo_37_4) (And.intro (@fo_37_5) (@fo_67_0)))) (And.intro (And.intro (@fo_76_0) (And.intro (@fo_76_1) (@fo_87_0))) (And.intro (@fo_87_1) (And.intro (@fo_87_2) (@fo_98_0)))))) (And.intro (And.intro (And.intro (And.intro (@fo_98_1) (@pb_13)) (And.intro (@pb_14) (And.intro (@pb_15) (@pb_16)))) (And.intro (And.intro (@pb_17) (And.intro (@pb_18) (@pb_19))) (And.intro (@pb_20) (And.intro (@pb_21) (@pb_22))))) (And.intro (And.intro (And.intro (@pb_23) (And.intro (@pb_24) (@pb_25))) (And.intro (@pb_26) (And.intro (@pb_27) (@pb_28)))) (And.intro (And.intro (@pb_29) (And.intro (@pb_30) (@pb_31))) (And.intro (@pb_32) (And.intro (@pb_33) (@pb_34))))))) (And.intro (And.intro (And.intro (And.intro (And.intro (@pb_35) (@pb_36)) (And.intro (@pb_37) (And.intro (@pb_38) (@pb_39)))) (And.intro (And.intro (@pb_40) (And.intro (@pb_41) (@pb_42))) (And.intro (@pb_43) (And.intro (@pb_44) (@pb_45))))) (And.intro (And.intro (And.intro (@pb_46) (@pb_47)) (And.intro (@pb_48) (And.intro (@pb_49) (@pb_50)))) (And.intro (And.intro (@pb_51) (And.intro (@pb_52) (@pb_53))) (And.intro (@pb_54) (And.intro (@pb_55) (@pb_56)))))) (And.intro (And.intro (And.intro (And.intro (@pb_57) (@pb_58)) (And.intro (@pb_59) (And.intro (@pb_60) (@pb_61)))) (And.intro (And.intro (@pb_62) (And.intro (@pb_63) (@pb_64))) (And.intro (@pb_65) (And.intro (@pb_66) (@pb_67))))) (And.intro (And.intro (And.intro (@pb_68) (And.intro (@pb_69) (@pb_70))) (And.intro (@pb_71) (And.intro (@pb_72) (@pb_73)))) (And.intro (And.intro (@pb_74) (And.intro (@pb_75) (@pb_76))) (And.intro (@pb_77) (And.intro (@pb_78) (@pb_79))))))))) := And.intro (And.intro (And.intro (And.intro (And.intro (And.intro (And.intro (@bs_24) (@bs_33)) (And.intro (@bs_35) (And.intro (@bs_37) (@bs_67)))) (And.intro (And.intro (@bs_76) (And.intro (@bs_87) (@bs_98))) (And.intro (@bs_117) (And.intro (@ia_2) (@sz_2))))) (And.intro (And.intro (And.intro (@ia_3) (@sz_3)) (And.intro (@ia_4) (And.intro (@sz_4) (@ia_22)))) (And.intro (And.intro (@sz_22) (And.intro (@ia_24) (@sz_24))) (And.intro (@ia_27) (And.intro (@sz_27) (@ia_33)))))) (And.intro (And.intro (And.intro (And.intro (@sz_33) (@ia_35)) (And.intro (@sz_35) (And.intro (@ia_37) (@sz_37)))) (And.intro (And.intro (@ia_43) (And.intro (@sz_43) (@ia_51))) (And.intro (@sz_51) (And.intro (@ia_55) (@sz_55))))) (And.intro (And.intro (And.intro (@ia_56) (@sz_56)) (And.intro (@ia_67) (And.intro (@sz_67) (@ia_69)))) (And.intro (And.intro (@sz_69) (And.intro (@ia_70) (@sz_70))) (And.intro (@ia_73) (And.intro (@sz_73) (@ia_74))))))) (And.intro (And.intro (And.intro (And.intro (And.intro (@sz_74) (@ia_76)) (And.intro (@sz_76) (And.intro (@ia_78) (@sz_78)))) (And.intro (And.intro (@ia_87) (And.intro (@sz_87) (@ia_89))) (And.intro (@sz_89) (And.intro (@ia_96) (@sz_96))))) (And.intro (And.intro (And.intro (@ia_98) (@sz_98)) (And.intro (@ia_101) (And.intro (@sz_101) (@ia_105)))) (And.intro (And.intro (@sz_105) (And.intro (@ia_107) (@sz_107))) (And.intro (@ia_113) (And.intro (@sz_113) (@ia_114)))))) (And.intro (And.intro (And.intro (And.intro (@sz_114) (@ia_117)) (And.intro (@sz_117) (And.intro (@ia_119) (@sz_119)))) (And.intro (And.intro (@ze_2) (And.intro (@ze_3) (@ze_4))) (And.intro (@ze_24) (And.intro (@ze_27) (@ze_33))))) (And.intro (And.intro (And.intro (@ze_35) (And.intro (@ze_37) (@ze_67))) (And.intro (@ze_76) (And.intro (@ze_87) (@ze_98)))) (And.intro (And.intro (@ze_117) (And.intro (@fo_24_0) (@fo_24_1))) (And.intro (@fo_33_0) (And.intro (@fo_33_1) (@fo_35_0)))))))) (And.intro (And.intro (And.intro (And.intro (And.intro (And.intro (@fo_35_1) (@fo_35_2)) (And.intro (@fo_35_3) (And.intro (@fo_35_4) (@fo_35_5)))) (And.intro (And.intro (@fo_35_6) (And.intro (@fo_35_7) (@fo_35_8))) (And.intro (@fo_35_9) (And.intro (@fo_37_0) (@fo_37_1))))) (And.intro (And.intro (And.intro (@fo_37_2) (@fo_37_3)) (And.intro (@fo_37_4) (And.intro (@fo_37_5) (@fo_67_0)))) (And.intro (And.intro (@fo_76_0) (And.intro (@fo_76_1) (@fo_87_0))) (And.intro (@fo_87_1) (And.intro (@fo_87_2) (@fo_98_0)))))) (And.intro (And.intro (And.intro (And.intro (@fo_98_1) (@pb_13)) (And.intro (@pb_14) (And.intro (@pb_15) (@pb_16)))) (And.intro (And.intro (@pb_17) (And.intro (@pb_18) (@pb_19))) (And.intro (@pb_20) (And.intro (@pb_21) (@pb_22))))) (And.intro (And.intro (And.intro (@pb_23) (And.intro (@pb_24) (@pb_25))) (And.intro (@pb_26) (And.intro (@pb_27) (@pb_28)))) (And.intro (And.intro (@pb_29) (And.intro (@pb_30) (@pb_31))) (And.intro (@pb_32) (And.intro (@pb_33) (@pb_34))))))) (And.intro (And.intro (And.intro (And.intro (And.intro (@pb_35) (@pb_36)) (And.intro (@pb_37) (And.intro (@pb_38) (@pb_39)))) (And.intro (And.intro (@pb_40) (And.intro (@pb_41) (@pb_42))) (And.intro (@pb_43) (And.intro (@pb_44) (@pb_45))))) (And.intro (And.intro (And.intro (@pb_46) (@pb_47)) (And.intro (@pb_48) (And.intro (@pb_49) (@pb_50)))) (And.intro (And.intro (@pb_51) (And.intro (@pb_52) (@pb_53))) (And.intro (@pb_54) (And.intro (@pb_55) (@pb_56)))))) (And.intro (And.intro (And.intro (And.intro (@pb_57) (@pb_58)) (And.intro (@pb_59) (And.intro (@pb_60) (@pb_61)))) (And.intro (And.intro (@pb_62) (And.intro (@pb_63) (@pb_64))) (And.intro (@pb_65) (And.intro (@pb_66) (@pb_67))))) (And.intro (And.intro (And.intro (@pb_68) (And.intro (@pb_69) (@pb_70))) (And.intro (@pb_71) (And.intro (@pb_72) (@pb_73)))) (And.intro (And.intro (@pb_74) (And.intro (@pb_75) (@pb_76))) (And.intro (@pb_77) (And.intro (@pb_78) (@pb_79))))))))
theorem refFric (a b : AV) (re cf : List Int) (r : Int) (h : H) (x : LineR h a b re cf) (k : okL re cf) : (om Try.prog KK).call (.fn 40 [.agg [a, b], ii r]) h = .ok (.tup [ii (if has re r then fr re cf r else 0), .bool (decide (has re r))]) h := by
  have wf := x.wf
  have hn := k.n
  have hce := k.e
  obtain ⟨⟨fa, fa'⟩, ⟨fb, fb'⟩⟩ := x.flats
  have ha : ∀ h', lenE Try.prog 22 a h' = some (ii (re.length : Int)) := fun h' => x.re.len un_22
  refine WV_to (WV_call (fn := Try.f40) Try.func40 rfl rfl rfl rfl rfl ?_)
  simp only [argF]
  (repeat' (first
  | (with_reducible first | refine WC_seq ?_ | refine WC_skip ?_ | refine WC_label ?_ | refine WC_scope ?_ | refine WC_block ?_ | refine WC_ret ?_ | refine WC_exit ?_ | refine seqQ_norm ?_ | refine seqQ_ret ?_ | refine seqQ_exit ?_ | refine blkQ_norm ?_ | refine blkQ_ret ?_ | refine blkQ_here ?_ | refine gateK_yes ?_ | refine gateK_none ?_ | refine condK_tt ?_ | refine condK_ff ?_ | refine roundQ_exit ?_ | refine roundQ_ret ?_)
  | refine WC_region ?_ | refine blkQ_out rfl ?_ | refine WO_nil ?_ | refine WD_nil ?_
  | ((first | refine WD_gate rfl rfl rfl rfl rfl fun K_ hK_ => ?_ | refine WO_gate rfl rfl rfl rfl rfl fun K_ hK_ => ?_); simp only [upd_apply, asB_bool, asB_tup, ↓reduceIte, reduceCtorEq, Nat.reduceEqDiff, Bool.not_true, Bool.not_false]; refine hK_ _ ?_; clear hK_ K_)
  | refine gateK_no (by decide) ?_
  | ((try first | refine WO_op rfl rfl rfl ?_ | refine WO_op0 rfl rfl ?_ | refine WD_op rfl rfl rfl ?_ | refine WD_op0 rfl rfl ?_); (refine WV_gen fun Q_ hQ_ => ?_; simp (disch := first | omega | (simp only [List.length_cons, List.length_nil, List.length_append]; omega)) only [bb, bp, argF, ↓reduceIte, reduceCtorEq, Nat.reduceEqDiff, Nat.reduceLT, Nat.reduceLeDiff, Nat.reduceAdd, Nat.reduceMul, Nat.reduceSub, Nat.reduceBEq, Int.reduceToNat, cond_true, cond_false, eq_self, beq_self_eq_true, fa, fb, fa', fb', newPtr_X wf, load1_X wf, loadAgg_X wf, store1_X wf, writeCells_X wf, makeFunc_def, tEvD6, bsl_22, bsl_43, bsl_51, bsl_96, bsl_105, newSlice_X wf]; first | (refine dec_split (Q := Q_) (fun hp_ => ?_) (fun hp_ => ?_) <;> first | (exfalso; omega) | (refine hQ_ _ _ ?_; clear hQ_ Q_)) | (refine dec_splitn (Q := Q_) (fun hp_ => ?_) (fun hp_ => ?_) <;> first | (exfalso; omega) | (refine hQ_ _ _ ?_; clear hQ_ Q_)) | (refine hQ_ _ _ ?_; clear hQ_ Q_)))
  | (refine WC_cond fun K_ hK_ => ?_; simp (disch := omega) only [evT_tmp, upd_apply, WB_some, ↓reduceIte, reduceCtorEq, Nat.reduceEqDiff, Nat.reduceLT]; refine hK_ _ ?_; clear hK_ K_)))
  refine WC_loop (fun (i : Nat) f d h' => i ≤ re.length ∧ (i = 0 ∨ r < re.getD 0 0 ∨ re.getD (i - 1) 0 < r) ∧ f 1 = ii r ∧ f 2 = .ptr (nx h 0) 0 ∧ f 6 = ii (i : Int) ∧ d = [] ∧ h' = X h [.cells (mkCells [a, b]) 24] h.clock) (fun i => re.length - i) ?_ (re.length + 1) 0 (by omega) ?_
  · rintro i f d h' ⟨hi, hinv, g1, g2, g6, rfl, rfl⟩
    by_cases hlt : i < re.length
    · obtain ⟨ia, oa, hxa, hla⟩ := ints_at wf x.re hlt
      obtain ⟨ib, ob, hxb, hlb⟩ := ints_at wf x.cf (i := i) (by omega)
      have b1 := k.re_in (i := i) hlt
      by_cases heq : re.getD i 0 = r
      · have hh : has re r := by
          refine ⟨?_, ?_⟩
          · rcases Nat.eq_zero_or_pos i with e | e
            · rw [← heq, e]; exact Int.le_refl _
            · have := k.lt (i := 0) (j := i) e hlt; omega
          · by_cases e : i = re.length - 1
            · rw [← e]; omega
            · have := k.lt (i := i) (j := re.length - 1) (by omega) (by omega); omega
        have hfr : fr re cf r = cf.getD i 0 := by
          unfold fr
          by_cases e : i = re.length - 1
          · rw [if_pos (beh_end fun j hj => ?_), e]
            by_cases e2 : j = i
            · rw [e2]; omega
            · have := k.lt (i := j) (j := i) (by omega) hlt; omega
          · have h1 := k.lt (i := i) (j := i + 1) (by omega) (by omega)
            have hb : beh re r = i + 1 := beh_at (by omega) (by omega) fun j hj => by
              by_cases e2 : j = i
              · rw [e2]; omega
              · have := k.lt (i := j) (j := i) (by omega) hlt; omega
            rw [hb, if_neg (by omega)]
            unfold mid
            rw [Nat.add_sub_cancel, heq, Int.sub_self, Int.mul_zero, Int.zero_ediv, Int.sub_zero]
        have hd1 : decide (has re r) = true := decide_eq_true hh
        rw [if_pos hh, hd1, hfr]
        (repeat' (first
  | (with_reducible first | refine WC_seq ?_ | refine WC_skip ?_ | refine WC_label ?_ | refine WC_scope ?_ | refine WC_block ?_ | refine WC_ret ?_ | refine WC_exit ?_ | refine seqQ_norm ?_ | refine seqQ_ret ?_ | refine seqQ_exit ?_ | refine blkQ_norm ?_ | refine blkQ_ret ?_ | refine blkQ_here ?_ | refine gateK_yes ?_ | refine gateK_none ?_ | refine condK_tt ?_ | refine condK_ff ?_ | refine roundQ_exit ?_ | refine roundQ_ret ?_)
  | refine WC_region ?_ | refine blkQ_out rfl ?_ | refine WO_nil ?_ | refine WD_nil ?_
  | ((first | refine WD_gate rfl rfl rfl rfl rfl fun K_ hK_ => ?_ | refine WO_gate rfl rfl rfl rfl rfl fun K_ hK_ => ?_); simp only [upd_apply, asB_bool, asB_tup, ↓reduceIte, reduceCtorEq, Nat.reduceEqDiff, Bool.not_true, Bool.not_false]; refine hK_ _ ?_; clear hK_ K_)
  | refine gateK_no (by decide) ?_
  | ((try first | refine WO_op rfl rfl rfl ?_ | refine WO_op0 rfl rfl ?_ | refine WD_op rfl rfl rfl ?_ | refine WD_op0 rfl rfl ?_); (refine WV_gen fun Q_ hQ_ => ?_; simp (disch := first | omega | (simp only [List.length_cons, List.length_nil, List.length_append]; omega)) only [bb, bp, argF, ↓reduceIte, reduceCtorEq, Nat.reduceEqDiff, Nat.reduceLT, Nat.reduceLeDiff, Nat.reduceAdd, Nat.reduceMul, Nat.reduceSub, Nat.reduceBEq, Int.reduceToNat, cond_true, cond_false, eq_self, beq_self_eq_true, g1, g2, g6, ha, hxa, hla, hxb, hlb, newPtr_X wf, load1_X wf, loadAgg_X wf, store1_X wf, writeCells_X wf, makeFunc_def, tEvD6, bsl_22, bsl_43, bsl_51, bsl_96, bsl_105, newSlice_X wf]; first | (refine dec_split (Q := Q_) (fun hp_ => ?_) (fun hp_ => ?_) <;> first | (exfalso; omega) | (refine hQ_ _ _ ?_; clear hQ_ Q_)) | (refine dec_splitn (Q := Q_) (fun hp_ => ?_) (fun hp_ => ?_) <;> first | (exfalso; omega) | (refine hQ_ _ _ ?_; clear hQ_ Q_)) | (refine hQ_ _ _ ?_; clear hQ_ Q_)))
  | (refine WC_cond fun K_ hK_ => ?_; simp (disch := omega) only [evT_tmp, upd_apply, WB_some, ↓reduceIte, reduceCtorEq, Nat.reduceEqDiff, Nat.reduceLT]; refine hK_ _ ?_; clear hK_ K_)))
        (refine endQ_ret _ _ rfl (ret2 (by decide) (by decide)) ?_; simp only [upd_apply, ↓reduceIte, reduceCtorEq, Nat.reduceEqDiff]; refine WV_flat rfl (by omega) ?_)
        exact ⟨rfl, rfl⟩
      · by_cases hi0 : 0 < i
        · obtain ⟨ip, op, hxp, hlp⟩ := ints_at wf x.re (i := i - 1) (by omega)
          obtain ⟨iq, oq, hxq, hlq⟩ := ints_at wf x.cf (i := i - 1) (by omega)
          rw [show ((i - 1 : Nat) : Int) = (i : Int) - 1 from by omega] at hxp hxq
          by_cases hbt : re.getD (i - 1) 0 < r ∧ r < re.getD i 0
          · have hh : has re r := by
              refine ⟨?_, ?_⟩
              · by_cases e : i - 1 = 0
                · rw [← e]; omega
                · have := k.lt (i := 0) (j := i - 1) (by omega) (by omega); omega
              · by_cases e : i = re.length - 1
                · rw [← e]; omega
                · have := k.lt (i := i) (j := re.length - 1) (by omega) (by omega); omega
            have hb : beh re r = i := beh_at hlt hbt.2 fun j hj => by
              by_cases e2 : j = i - 1
              · rw [e2]; omega
              · have := k.lt (i := j) (j := i - 1) (by omega) (by omega); omega
            have hfr : fr re cf r = mid re cf i r := by unfold fr; rw [hb, if_neg (by omega)]
            have hd1 : decide (has re r) = true := decide_eq_true hh
            have hm := mid_in k hi0 hlt (by omega) hbt.2
            have b2 := k.re_in (i := i - 1) (by omega)
            have b3 := k.cf_in (i := i) hlt
            have b4 := k.cf_in (i := i - 1) (by omega)
            have b5 := k.le (i := i - 1) (j := i) (by omega) hlt
            rw [if_pos hh, hd1, hfr]
            unfold mid at hm ⊢
            clear hfr
            generalize re.getD (i - 1) 0 = p at *
            generalize re.getD i 0 = q at *
            generalize cf.getD (i - 1) 0 = c at *
            generalize cf.getD i 0 = d at *
            have hz : q - p ≠ 0 := by omega
            have hdv := div_in (n := (c - d) * (r - p)) (g := q - p) ⟨hm.1.1, by omega⟩ (by omega)
            (repeat' (first
  | (with_reducible first | refine WC_seq ?_ | refine WC_skip ?_ | refine WC_label ?_ | refine WC_scope ?_ | refine WC_block ?_ | refine WC_ret ?_ | refine WC_exit ?_ | refine seqQ_norm ?_ | refine seqQ_ret ?_ | refine seqQ_exit ?_ | refine blkQ_norm ?_ | refine blkQ_ret ?_ | refine blkQ_here ?_ | refine gateK_yes ?_ | refine gateK_none ?_ | refine condK_tt ?_ | refine condK_ff ?_ | refine roundQ_exit ?_ | refine roundQ_ret ?_)
  | refine WC_region ?_ | refine blkQ_out rfl ?_ | refine WO_nil ?_ | refine WD_nil ?_
  | ((first | refine WD_gate rfl rfl rfl rfl rfl fun K_ hK_ => ?_ | refine WO_gate rfl rfl rfl rfl rfl fun K_ hK_ => ?_); simp only [upd_apply, asB_bool, asB_tup, ↓reduceIte, reduceCtorEq, Nat.reduceEqDiff, Bool.not_true, Bool.not_false]; refine hK_ _ ?_; clear hK_ K_)
  | refine gateK_no (by decide) ?_
  | ((try first | refine WO_op rfl rfl rfl ?_ | refine WO_op0 rfl rfl ?_ | refine WD_op rfl rfl rfl ?_ | refine WD_op0 rfl rfl ?_); (refine WV_gen fun Q_ hQ_ => ?_; simp (disch := first | omega | (simp only [List.length_cons, List.length_nil, List.length_append]; omega)) only [bb, bp, argF, ↓reduceIte, reduceCtorEq, Nat.reduceEqDiff, Nat.reduceLT, Nat.reduceLeDiff, Nat.reduceAdd, Nat.reduceMul, Nat.reduceSub, Nat.reduceBEq, Int.reduceToNat, cond_true, cond_false, eq_self, beq_self_eq_true, g1, g2, g6, ha, hxa, hla, hxb, hlb, hxp, hlp, hxq, hlq, newPtr_X wf, load1_X wf, loadAgg_X wf, store1_X wf, writeCells_X wf, makeFunc_def, tEvD6, bsl_22, bsl_43, bsl_51, bsl_96, bsl_105, newSlice_X wf]; first | (refine dec_split (Q := Q_) (fun hp_ => ?_) (fun hp_ => ?_) <;> first | (exfalso; omega) | (refine hQ_ _ _ ?_; clear hQ_ Q_)) | (refine dec_splitn (Q := Q_) (fun hp_ => ?_) (fun hp_ => ?_) <;> first | (exfalso; omega) | (refine hQ_ _ _ ?_; clear hQ_ Q_)) | (refine hQ_ _ _ ?_; clear hQ_ Q_)))
  | (refine WC_cond fun K_ hK_ => ?_; simp (disch := omega) only [evT_tmp, upd_apply, WB_some, ↓reduceIte, reduceCtorEq, Nat.reduceEqDiff, Nat.reduceLT]; refine hK_ _ ?_; clear hK_ K_)))
            refine WC_drawnB (List.replicate 25 .no ++ [.full]) (by kernel_rfl) ?_
            (repeat' (first
  | (with_reducible first | refine WC_seq ?_ | refine WC_skip ?_ | refine WC_label ?_ | refine WC_scope ?_ | refine WC_block ?_ | refine WC_ret ?_ | refine WC_exit ?_ | refine seqQ_norm ?_ | refine seqQ_ret ?_ | refine seqQ_exit ?_ | refine blkQ_norm ?_ | refine blkQ_ret ?_ | refine blkQ_here ?_ | refine gateK_yes ?_ | refine gateK_none ?_ | refine condK_tt ?_ | refine condK_ff ?_ | refine roundQ_exit ?_ | refine roundQ_ret ?_)
  | refine WC_region ?_ | refine blkQ_out rfl ?_ | refine WO_nil ?_ | refine WD_nil ?_
  | ((first | refine WD_gate rfl rfl rfl rfl rfl fun K_ hK_ => ?_ | refine WO_gate rfl rfl rfl rfl rfl fun K_ hK_ => ?_); simp only [upd_apply, asB_bool, asB_tup, ↓reduceIte, reduceCtorEq, Nat.reduceEqDiff, Bool.not_true, Bool.not_false]; refine hK_ _ ?_; clear hK_ K_)
  | refine gateK_no (by decide) ?_
  | ((try first | refine WO_op rfl rfl rfl ?_ | refine WO_op0 rfl rfl ?_ | refine WD_op rfl rfl rfl ?_ | refine WD_op0 rfl rfl ?_); (refine WV_gen fun Q_ hQ_ => ?_; simp (disch := first | omega | (simp only [List.length_cons, List.length_nil, List.length_append]; omega)) only [bb, bp, argF, ↓reduceIte, reduceCtorEq, Nat.reduceEqDiff, Nat.reduceLT, Nat.reduceLeDiff, Nat.reduceAdd, Nat.reduceMul, Nat.reduceSub, Nat.reduceBEq, Int.reduceToNat, cond_true, cond_false, eq_self, beq_self_eq_true, g1, g2, g6, ha, hxa, hla, hxb, hlb, hxp, hlp, hxq, hlq, b_quo hz, hdv, newPtr_X wf, load1_X wf, loadAgg_X wf, store1_X wf, writeCells_X wf, makeFunc_def, tEvD6, bsl_22, bsl_43, bsl_51, bsl_96, bsl_105, newSlice_X wf]; first | (refine dec_split (Q := Q_) (fun hp_ => ?_) (fun hp_ => ?_) <;> first | (exfalso; omega) | (refine hQ_ _ _ ?_; clear hQ_ Q_)) | (refine dec_splitn (Q := Q_) (fun hp_ => ?_) (fun hp_ => ?_) <;> first | (exfalso; omega) | (refine hQ_ _ _ ?_; clear hQ_ Q_)) | (refine hQ_ _ _ ?_; clear hQ_ Q_)))
  | (refine WC_cond fun K_ hK_ => ?_; simp (disch := omega) only [evT_tmp, upd_apply, WB_some, ↓reduceIte, reduceCtorEq, Nat.reduceEqDiff, Nat.reduceLT]; refine hK_ _ ?_; clear hK_ K_)))
            (refine endQ_ret _ _ rfl (ret2 (by decide) (by decide)) ?_; simp only [upd_apply, ↓reduceIte, reduceCtorEq, Nat.reduceEqDiff]; refine WV_flat rfl (by omega) ?_)
            exact ⟨rfl, rfl⟩
          · (repeat' (first
  | (with_reducible first | refine WC_seq ?_ | refine WC_skip ?_ | refine WC_label ?_ | refine WC_scope ?_ | refine WC_block ?_ | refine WC_ret ?_ | refine WC_exit ?_ | refine seqQ_norm ?_ | refine seqQ_ret ?_ | refine seqQ_exit ?_ | refine blkQ_norm ?_ | refine blkQ_ret ?_ | refine blkQ_here ?_ | refine gateK_yes ?_ | refine gateK_none ?_ | refine condK_tt ?_ | refine condK_ff ?_ | refine roundQ_exit ?_ | refine roundQ_ret ?_)
  | refine WC_region ?_ | refine blkQ_out rfl ?_ | refine WO_nil ?_ | refine WD_nil ?_
  | ((first | refine WD_gate rfl rfl rfl rfl rfl fun K_ hK_ => ?_ | refine WO_gate rfl rfl rfl rfl rfl fun K_ hK_ => ?_); simp only [upd_apply, asB_bool, asB_tup, ↓reduceIte, reduceCtorEq, Nat.reduceEqDiff, Bool.not_true, Bool.not_false]; refine hK_ _ ?_; clear hK_ K_)
  | refine gateK_no (by decide) ?_
  | ((try first | refine WO_op rfl rfl rfl ?_ | refine WO_op0 rfl rfl ?_ | refine WD_op rfl rfl rfl ?_ | refine WD_op0 rfl rfl ?_); (refine WV_gen fun Q_ hQ_ => ?_; simp (disch := first | omega | (simp only [List.length_cons, List.length_nil, List.length_append]; omega)) only [bb, bp, argF, ↓reduceIte, reduceCtorEq, Nat.reduceEqDiff, Nat.reduceLT, Nat.reduceLeDiff, Nat.reduceAdd, Nat.reduceMul, Nat.reduceSub, Nat.reduceBEq, Int.reduceToNat, cond_true, cond_false, eq_self, beq_self_eq_true, g1, g2, g6, ha, hxa, hla, hxb, hlb, hxp, hlp, hxq, hlq, newPtr_X wf, load1_X wf, loadAgg_X wf, store1_X wf, writeCells_X wf, makeFunc_def, tEvD6, bsl_22, bsl_43, bsl_51, bsl_96, bsl_105, newSlice_X wf]; first | (refine dec_split (Q := Q_) (fun hp_ => ?_) (fun hp_ => ?_) <;> first | (exfalso; omega) | (refine hQ_ _ _ ?_; clear hQ_ Q_)) | (refine dec_splitn (Q := Q_) (fun hp_ => ?_) (fun hp_ => ?_) <;> first | (exfalso; omega) | (refine hQ_ _ _ ?_; clear hQ_ Q_)) | (refine hQ_ _ _ ?_; clear hQ_ Q_)))
  | (refine WC_cond fun K_ hK_ => ?_; simp (disch := omega) only [evT_tmp, upd_apply, WB_some, ↓reduceIte, reduceCtorEq, Nat.reduceEqDiff, Nat.reduceLT]; refine hK_ _ ?_; clear hK_ K_)))
            all_goals (refine roundQ_again (i + 1) (by omega) ⟨hlt, .inr ?_, by simp only [upd_apply, ↓reduceIte, reduceCtorEq, Nat.reduceEqDiff]; exact g1, by simp only [upd_apply, ↓reduceIte, reduceCtorEq, Nat.reduceEqDiff]; exact g2, by simp only [upd_apply, ↓reduceIte, reduceCtorEq, Nat.reduceEqDiff]; rfl, rfl, rfl⟩)
            all_goals (rw [Nat.add_sub_cancel]; omega)
        · have e0 : i = 0 := by omega
          (repeat' (first
  | (with_reducible first | refine WC_seq ?_ | refine WC_skip ?_ | refine WC_label ?_ | refine WC_scope ?_ | refine WC_block ?_ | refine WC_ret ?_ | refine WC_exit ?_ | refine seqQ_norm ?_ | refine seqQ_ret ?_ | refine seqQ_exit ?_ | refine blkQ_norm ?_ | refine blkQ_ret ?_ | refine blkQ_here ?_ | refine gateK_yes ?_ | refine gateK_none ?_ | refine condK_tt ?_ | refine condK_ff ?_ | refine roundQ_exit ?_ | refine roundQ_ret ?_)
  | refine WC_region ?_ | refine blkQ_out rfl ?_ | refine WO_nil ?_ | refine WD_nil ?_
  | ((first | refine WD_gate rfl rfl rfl rfl rfl fun K_ hK_ => ?_ | refine WO_gate rfl rfl rfl rfl rfl fun K_ hK_ => ?_); simp only [upd_apply, asB_bool, asB_tup, ↓reduceIte, reduceCtorEq, Nat.reduceEqDiff, Bool.not_true, Bool.not_false]; refine hK_ _ ?_; clear hK_ K_)
  | refine gateK_no (by decide) ?_
  | ((try first | refine WO_op rfl rfl rfl ?_ | refine WO_op0 rfl rfl ?_ | refine WD_op rfl rfl rfl ?_ | refine WD_op0 rfl rfl ?_); (refine WV_gen fun Q_ hQ_ => ?_; simp (disch := first | omega | (simp only [List.length_cons, List.length_nil, List.length_append]; omega)) only [bb, bp, argF, ↓reduceIte, reduceCtorEq, Nat.reduceEqDiff, Nat.reduceLT, Nat.reduceLeDiff, Nat.reduceAdd, Nat.reduceMul, Nat.reduceSub, Nat.reduceBEq, Int.reduceToNat, cond_true, cond_false, eq_self, beq_self_eq_true, g1, g2, g6, ha, hxa, hla, hxb, hlb, newPtr_X wf, load1_X wf, loadAgg_X wf, store1_X wf, writeCells_X wf, makeFunc_def, tEvD6, bsl_22, bsl_43, bsl_51, bsl_96, bsl_105, newSlice_X wf]; first | (refine dec_split (Q := Q_) (fun hp_ => ?_) (fun hp_ => ?_) <;> first | (exfalso; omega) | (refine hQ_ _ _ ?_; clear hQ_ Q_)) | (refine dec_splitn (Q := Q_) (fun hp_ => ?_) (fun hp_ => ?_) <;> first | (exfalso; omega) | (refine hQ_ _ _ ?_; clear hQ_ Q_)) | (refine hQ_ _ _ ?_; clear hQ_ Q_)))
  | (refine WC_cond fun K_ hK_ => ?_; simp (disch := omega) only [evT_tmp, upd_apply, WB_some, ↓reduceIte, reduceCtorEq, Nat.reduceEqDiff, Nat.reduceLT]; refine hK_ _ ?_; clear hK_ K_)))
          refine roundQ_again (i + 1) (by omega) ⟨hlt, .inr ?_, by simp only [upd_apply, ↓reduceIte, reduceCtorEq, Nat.reduceEqDiff]; exact g1, by simp only [upd_apply, ↓reduceIte, reduceCtorEq, Nat.reduceEqDiff]; exact g2, by simp only [upd_apply, ↓reduceIte, reduceCtorEq, Nat.reduceEqDiff]; rfl, rfl, rfl⟩
          rw [Nat.add_sub_cancel]
          rw [e0] at heq ⊢
          omega
    · have hie : i = re.length := by omega
      have hh : ¬ has re r := fun hh => by
        have h1 := hh.1
        have h2 := hh.2
        rw [hie] at hinv
        omega
      have hd1 : decide (has re r) = false := decide_eq_false hh
      rw [if_neg hh, hd1]
      (repeat' (first
  | (with_reducible first | refine WC_seq ?_ | refine WC_skip ?_ | refine WC_label ?_ | refine WC_scope ?_ | refine WC_block ?_ | refine WC_ret ?_ | refine WC_exit ?_ | refine seqQ_norm ?_ | refine seqQ_ret ?_ | refine seqQ_exit ?_ | refine blkQ_norm ?_ | refine blkQ_ret ?_ | refine blkQ_here ?_ | refine gateK_yes ?_ | refine gateK_none ?_ | refine condK_tt ?_ | refine condK_ff ?_ | refine roundQ_exit ?_ | refine roundQ_ret ?_)
  | refine WC_region ?_ | refine blkQ_out rfl ?_ | refine WO_nil ?_ | refine WD_nil ?_
  | ((first | refine WD_gate rfl rfl rfl rfl rfl fun K_ hK_ => ?_ | refine WO_gate rfl rfl rfl rfl rfl fun K_ hK_ => ?_); simp only [upd_apply, asB_bool, asB_tup, ↓reduceIte, reduceCtorEq, Nat.reduceEqDiff, Bool.not_true, Bool.not_false]; refine hK_ _ ?_; clear hK_ K_)
  | refine gateK_no (by decide) ?_
  | ((try first | refine WO_op rfl rfl rfl ?_ | refine WO_op0 rfl rfl ?_ | refine WD_op rfl rfl rfl ?_ | refine WD_op0 rfl rfl ?_); (refine WV_gen fun Q_ hQ_ => ?_; simp (disch := first | omega | (simp only [List.length_cons, List.length_nil, List.length_append]; omega)) only [bb, bp, argF, ↓reduceIte, reduceCtorEq, Nat.reduceEqDiff, Nat.reduceLT, Nat.reduceLeDiff, Nat.reduceAdd, Nat.reduceMul, Nat.reduceSub, Nat.reduceBEq, Int.reduceToNat, cond_true, cond_false, eq_self, beq_self_eq_true, g1, g2, g6, ha, newPtr_X wf, load1_X wf, loadAgg_X wf, store1_X wf, writeCells_X wf, makeFunc_def, tEvD6, bsl_22, bsl_43, bsl_51, bsl_96, bsl_105, newSlice_X wf]; first | (refine dec_split (Q := Q_) (fun hp_ => ?_) (fun hp_ => ?_) <;> first | (exfalso; omega) | (refine hQ_ _ _ ?_; clear hQ_ Q_)) | (refine dec_splitn (Q := Q_) (fun hp_ => ?_) (fun hp_ => ?_) <;> first | (exfalso; omega) | (refine hQ_ _ _ ?_; clear hQ_ Q_)) | (refine hQ_ _ _ ?_; clear hQ_ Q_)))
  | (refine WC_cond fun K_ hK_ => ?_; simp (disch := omega) only [evT_tmp, upd_apply, WB_some, ↓reduceIte, reduceCtorEq, Nat.reduceEqDiff, Nat.reduceLT]; refine hK_ _ ?_; clear hK_ K_)))
      (refine endQ_ret _ _ rfl (ret2 (by decide) (by decide)) ?_; simp only [upd_apply, ↓reduceIte, reduceCtorEq, Nat.reduceEqDiff]; refine WV_flat rfl (by omega) ?_)
      exact ⟨rfl, rfl⟩
  · exact ⟨Nat.zero_le _, .inl rfl, by simp only [upd_apply, ↓reduceIte, reduceCtorEq, Nat.reduceEqDiff], by simp only [upd_apply, ↓reduceIte, reduceCtorEq, Nat.reduceEqDiff], by simp only [upd_apply, ↓reduceIte, reduceCtorEq, Nat.reduceEqDiff]; rfl, rfl, rfl⟩

theorem refFriction (a b : AV) (re cf : List Int) (r : Int) (h : H) (x : LineR h a b re cf) : (om Try.prog KK).call (.fn 16 [.agg [a, b], ii r]) h = .ok (.tup [ii (fricVal re cf r), ii (fricErr re cf r)]) h := by
  have wf := x.wf
  obtain ⟨⟨fa, fa'⟩, ⟨fb, fb'⟩⟩ := x.flats
  refine WV_to (WV_call (fn := Try.f16) Try.func16 rfl rfl rfl rfl rfl ?_)
  simp only [argF]
  by_cases hz : lineErr re cf = 0
  · have k := lineErr_zero.1 hz
    by_cases hh : has re r
    · (repeat' (first
  | (with_reducible first | refine WC_seq ?_ | refine WC_skip ?_ | refine WC_label ?_ | refine WC_scope ?_ | refine WC_block ?_ | refine WC_ret ?_ | refine WC_exit ?_ | refine seqQ_norm ?_ | refine seqQ_ret ?_ | refine seqQ_exit ?_ | refine blkQ_norm ?_ | refine blkQ_ret ?_ | refine blkQ_here ?_ | refine gateK_yes ?_ | refine gateK_none ?_ | refine condK_tt ?_ | refine condK_ff ?_ | refine roundQ_exit ?_ | refine roundQ_ret ?_)
  | refine WC_region ?_ | refine blkQ_out rfl ?_ | refine WO_nil ?_ | refine WD_nil ?_
  | ((first | refine WD_gate rfl rfl rfl rfl rfl fun K_ hK_ => ?_ | refine WO_gate rfl rfl rfl rfl rfl fun K_ hK_ => ?_); simp only [upd_apply, asB_bool, asB_tup, ↓reduceIte, reduceCtorEq, Nat.reduceEqDiff, Bool.not_true, Bool.not_false]; refine hK_ _ ?_; clear hK_ K_)
  | refine gateK_no (by decide) ?_
  | ((try first | refine WO_op rfl rfl rfl ?_ | refine WO_op0 rfl rfl ?_ | refine WD_op rfl rfl rfl ?_ | refine WD_op0 rfl rfl ?_); (refine WV_gen fun Q_ hQ_ => ?_; simp (disch := first | omega | (simp only [List.length_cons, List.length_nil, List.length_append]; omega)) only [bb, bp, argF, ↓reduceIte, reduceCtorEq, Nat.reduceEqDiff, Nat.reduceLT, Nat.reduceLeDiff, Nat.reduceAdd, Nat.reduceMul, Nat.reduceSub, Nat.reduceBEq, Int.reduceToNat, cond_true, cond_false, eq_self, beq_self_eq_true, fa, fb, fa', fb', newPtr_X wf, load1_X wf, loadAgg_X wf, store1_X wf, writeCells_X wf, makeFunc_def, tEvD6, bsl_22, bsl_43, bsl_51, bsl_96, bsl_105, newSlice_X wf]; first | (refine dec_split (Q := Q_) (fun hp_ => ?_) (fun hp_ => ?_) <;> first | (exfalso; omega) | (refine hQ_ _ _ ?_; clear hQ_ Q_)) | (refine dec_splitn (Q := Q_) (fun hp_ => ?_) (fun hp_ => ?_) <;> first | (exfalso; omega) | (refine hQ_ _ _ ?_; clear hQ_ Q_)) | (refine hQ_ _ _ ?_; clear hQ_ Q_) | (refine WV_eq (refCheckLine a b re cf _ (x.up _ _ (by simp only [List.length_append, List.length_cons, List.length_nil]; omega))) ?_; refine hQ_ _ _ ?_; clear hQ_ Q_) | (refine WV_eq ((refFric a b re cf r _ (x.up _ _ (by simp only [List.length_append, List.length_cons, List.length_nil]; omega)) k).trans (by rw [decide_eq_true hh, if_pos hh])) ?_; refine hQ_ _ _ ?_; clear hQ_ Q_)))
  | (refine WC_cond fun K_ hK_ => ?_; simp (disch := omega) only [evT_tmp, upd_apply, WB_some, ↓reduceIte, reduceCtorEq, Nat.reduceEqDiff, Nat.reduceLT]; refine hK_ _ ?_; clear hK_ K_)))
      (refine endQ_ret _ _ rfl (ret2 (by decide) (by decide)) ?_; simp only [upd_apply, ↓reduceIte, reduceCtorEq, Nat.reduceEqDiff]; refine WV_flat rfl (by omega) ?_)
      refine ⟨?_, rfl⟩
      rw [(fric_has k hh).1, (fric_has k hh).2]
    · (repeat' (first
  | (with_reducible first | refine WC_seq ?_ | refine WC_skip ?_ | refine WC_label ?_ | refine WC_scope ?_ | refine WC_block ?_ | refine WC_ret ?_ | refine WC_exit ?_ | refine seqQ_norm ?_ | refine seqQ_ret ?_ | refine seqQ_exit ?_ | refine blkQ_norm ?_ | refine blkQ_ret ?_ | refine blkQ_here ?_ | refine gateK_yes ?_ | refine gateK_none ?_ | refine condK_tt ?_ | refine condK_ff ?_ | refine roundQ_exit ?_ | refine roundQ_ret ?_)
  | refine WC_region ?_ | refine blkQ_out rfl ?_ | refine WO_nil ?_ | refine WD_nil ?_
  | ((first | refine WD_gate rfl rfl rfl rfl rfl fun K_ hK_ => ?_ | refine WO_gate rfl rfl rfl rfl rfl fun K_ hK_ => ?_); simp only [upd_apply, asB_bool, asB_tup, ↓reduceIte, reduceCtorEq, Nat.reduceEqDiff, Bool.not_true, Bool.not_false]; refine hK_ _ ?_; clear hK_ K_)
  | refine gateK_no (by decide) ?_
  | ((try first | refine WO_op rfl rfl rfl ?_ | refine WO_op0 rfl rfl ?_ | refine WD_op rfl rfl rfl ?_ | refine WD_op0 rfl rfl ?_); (refine WV_gen fun Q_ hQ_ => ?_; simp (disch := first | omega | (simp only [List.length_cons, List.length_nil, List.length_append]; omega)) only [bb, bp, argF, ↓reduceIte, reduceCtorEq, Nat.reduceEqDiff, Nat.reduceLT, Nat.reduceLeDiff, Nat.reduceAdd, Nat.reduceMul, Nat.reduceSub, Nat.reduceBEq, Int.reduceToNat, cond_true, cond_false, eq_self, beq_self_eq_true, fa, fb, fa', fb', newPtr_X wf, load1_X wf, loadAgg_X wf, store1_X wf, writeCells_X wf, makeFunc_def, tEvD6, bsl_22, bsl_43, bsl_51, bsl_96, bsl_105, newSlice_X wf]; first | (refine dec_split (Q := Q_) (fun hp_ => ?_) (fun hp_ => ?_) <;> first | (exfalso; omega) | (refine hQ_ _ _ ?_; clear hQ_ Q_)) | (refine dec_splitn (Q := Q_) (fun hp_ => ?_) (fun hp_ => ?_) <;> first | (exfalso; omega) | (refine hQ_ _ _ ?_; clear hQ_ Q_)) | (refine hQ_ _ _ ?_; clear hQ_ Q_) | (refine WV_eq (refCheckLine a b re cf _ (x.up _ _ (by simp only [List.length_append, List.length_cons, List.length_nil]; omega))) ?_; refine hQ_ _ _ ?_; clear hQ_ Q_) | (refine WV_eq ((refFric a b re cf r _ (x.up _ _ (by simp only [List.length_append, List.length_cons, List.length_nil]; omega)) k).trans (by rw [decide_eq_false hh, if_neg hh])) ?_; refine hQ_ _ _ ?_; clear hQ_ Q_)))
  | (refine WC_cond fun K_ hK_ => ?_; simp (disch := omega) only [evT_tmp, upd_apply, WB_some, ↓reduceIte, reduceCtorEq, Nat.reduceEqDiff, Nat.reduceLT]; refine hK_ _ ?_; clear hK_ K_)))
      (refine endQ_ret _ _ rfl (ret2 (by decide) (by decide)) ?_; simp only [upd_apply, ↓reduceIte, reduceCtorEq, Nat.reduceEqDiff]; refine WV_flat rfl (by omega) ?_)
      refine ⟨?_, rfl⟩
      rw [(fric_out k hh).1, (fric_out k hh).2]
  · (repeat' (first
  | (with_reducible first | refine WC_seq ?_ | refine WC_skip ?_ | refine WC_label ?_ | refine WC_scope ?_ | refine WC_block ?_ | refine WC_ret ?_ | refine WC_exit ?_ | refine seqQ_norm ?_ | refine seqQ_ret ?_ | refine seqQ_exit ?_ | refine blkQ_norm ?_ | refine blkQ_ret ?_ | refine blkQ_here ?_ | refine gateK_yes ?_ | refine gateK_none ?_ | refine condK_tt ?_ | refine condK_ff ?_ | refine roundQ_exit ?_ | refine roundQ_ret ?_)
  | refine WC_region ?_ | refine blkQ_out rfl ?_ | refine WO_nil ?_ | refine WD_nil ?_
  | ((first | refine WD_gate rfl rfl rfl rfl rfl fun K_ hK_ => ?_ | refine WO_gate rfl rfl rfl rfl rfl fun K_ hK_ => ?_); simp only [upd_apply, asB_bool, asB_tup, ↓reduceIte, reduceCtorEq, Nat.reduceEqDiff, Bool.not_true, Bool.not_false]; refine hK_ _ ?_; clear hK_ K_)
  | refine gateK_no (by decide) ?_
  | ((try first | refine WO_op rfl rfl rfl ?_ | refine WO_op0 rfl rfl ?_ | refine WD_op rfl rfl rfl ?_ | refine WD_op0 rfl rfl ?_); (refine WV_gen fun Q_ hQ_ => ?_; simp (disch := first | omega | (simp only [List.length_cons, List.length_nil, List.length_append]; omega)) only [bb, bp, argF, ↓reduceIte, reduceCtorEq, Nat.reduceEqDiff, Nat.reduceLT, Nat.reduceLeDiff, Nat.reduceAdd, Nat.reduceMul, Nat.reduceSub, Nat.reduceBEq, Int.reduceToNat, cond_true, cond_false, eq_self, beq_self_eq_true, fa, fb, fa', fb', newPtr_X wf, load1_X wf, loadAgg_X wf, store1_X wf, writeCells_X wf, makeFunc_def, tEvD6, bsl_22, bsl_43, bsl_51, bsl_96, bsl_105, newSlice_X wf]; first | (refine dec_split (Q := Q_) (fun hp_ => ?_) (fun hp_ => ?_) <;> first | (exfalso; omega) | (refine hQ_ _ _ ?_; clear hQ_ Q_)) | (refine dec_splitn (Q := Q_) (fun hp_ => ?_) (fun hp_ => ?_) <;> first | (exfalso; omega) | (refine hQ_ _ _ ?_; clear hQ_ Q_)) | (refine hQ_ _ _ ?_; clear hQ_ Q_) | (refine WV_eq (refCheckLine a b re cf _ (x.up _ _ (by simp only [List.length_append, List.length_cons, List.length_nil]; omega))) ?_; refine hQ_ _ _ ?_; clear hQ_ Q_)))
  | (refine WC_cond fun K_ hK_ => ?_; simp (disch := omega) only [evT_tmp, upd_apply, WB_some, ↓reduceIte, reduceCtorEq, Nat.reduceEqDiff, Nat.reduceLT]; refine hK_ _ ?_; clear hK_ K_)))
    (refine endQ_ret _ _ rfl (ret2 (by decide) (by decide)) ?_; simp only [upd_apply, ↓reduceIte, reduceCtorEq, Nat.reduceEqDiff]; refine WV_flat rfl (by omega) ?_)
    refine ⟨?_, rfl⟩
    rw [(fric_err hz).1, (fric_err hz).2]
end Go.Proofs.Ythaleckfgcgegaa
end

/- EvD7 -/
section
/-
  LAYER 4: the law of lines.
-/
namespace Go.Proofs.Ythaleckfgcgegaa
open Go.Ev
set_option maxRecDepth 100000
set_option linter.unusedSimpArgs false
set_option linter.unusedVariables false
set_option maxHeartbeats 2000000
theorem tEvD7 : type_of% (And.intro (And.intro (And.intro (And.intro (And.intro (And.intro (And.intro (@bs_24) (@bs_33)) (And.intro (@bs_35) (And.intro (@bs_37) (@bs_67)))) (And.intro (And.intro (@bs_76) (And.intro (@bs_87) (@bs_98))) (And.intro (@bs_117) (And.intro (@ia_2) (@sz_2))))) (And.intro (And.intro (And.intro (@ia_3) (@sz_3)) (And.intro (@ia_4) (And.intro (@sz_4) (@ia_22)))) (And.intro (And.intro (@sz_22) (And.intro (@ia_24) (@sz_24))) (And.intro (@ia_27) (And.intro (@sz_27) (@ia_33)))))) (And.intro (And.intro (And.intro (And.intro (@sz_33) (@ia_35)) (And.intro (@sz_35) (And.intro (@ia_37) (@sz_37)))) (And.intro (And.intro (@ia_43) (And.intro (@sz_43) (@ia_51))) (And.intro (@sz_51) (And.intro (@ia_55) (@sz_55))))) (And.intro (And.intro (And.intro (@ia_56) (@sz_56)) (And.intro (@ia_67) (And.intro (@sz_67) (@ia_69)))) (And.intro (And.intro (@sz_69) (And.intro (@ia_70) (@sz_70))) (And.intro (@ia_73) (And.intro (@sz_73) (@ia_74))))))) (And.intro (And.intro (And.intro (And.intro (And.intro (@sz_74) (@ia_76)) (And.intro (@sz_76) (And.intro (@ia_78) (@sz_78)))) (And.intro (And.intro (@ia_87) (And.intro (@sz_87) (@ia_89))) (And.intro (@sz_89) (And.intro (@ia_96) (@sz_96))))) (And.intro (And.intro (And.intro (@ia_98) (@sz_98)) (And.intro (@ia_101) (And.intro (@sz_101) (@ia_105)))) (And.intro (And.intro (@sz_105) (And.intro (@ia_107) (@sz_107))) (And.intro (@ia_113) (And.intro (@sz_113) (@ia_114)))))) (And.intro (And.intro (And.intro (And.intro (@sz_114) (@ia_117)) (And.intro (@sz_117) (And.intro (@ia_119) (@sz_119)))) (And.intro (And.intro (@ze_2) (And.intro (@ze_3) (@ze_4))) (And.intro (@ze_24) (And.intro (@ze_27) (@ze_33))))) (And.intro (And.intro (And.intro (@ze_35) (And.intro (@ze_37) (@ze_67))) (And.intro (@ze_76) (And.intro (@ze_87) (@ze_98)))) (And.intro (And.intro (@ze_117) (And.intro (@fo_24_0) (@fo_24_1))) (And.intro (@fo_33_0) (And.intro (@fo_33_1) (@fo_35_0)))))))) (And.intro (And.intro (And.intro (And.intro (And.intro (And.intro (@fo_35_1) (@fo_35_2)) (And.intro (@fo_35_3) (And.intro (@fo_35_4) (@fo_35_5)))) (And.intro (And.intro (@fo_35_6) (And.intro (@fo_35_7) (@fo_35_8))) (And.intro (@fo_35_9) (And.intro (@fo_37_0) (@fo_37_1))))) (And.intro (And.intro (And.intro (@fo_37_2) (@fo_37_3)) (And.intro (@fo_37_4) (And.intro (@fo_37_5) (@fo_67_0)))) (And.intro (And.intro (@fo_76_0) (And.intro (@fo_76_1) (@fo_87_0))) (And.intro (@fo_87_1) (And.intro (@fo_87_2) (@fo_98_0)))))) (And.intro (And.intro (And.intro (And.intro (@fo_98_1) (@pb_13)) (And.intro (@pb_14) (And.intro (@pb_15) (@pb_16)))) (And.intro (And.intro (@pb_17) (And.intro (@pb_18) (@pb_19))) (And.intro (@pb_20) (And.intro (@pb_21) (@pb_22))))) (And.intro (And.intro (And.intro (@pb_23) (And.intro (@pb_24) (@pb_25))) (And.intro (@pb_26) (And.intro (@pb_27) (@pb_28)))) (And.intro (And.intro (@pb_29) (And.intro (@pb_30) (@pb_31))) (And.intro (@pb_32) (And.intro (@pb_33) (@pb_34))))))) (And.intro (And.intro (And.intro (And.intro (And.intro (@pb_35) (@pb_36)) (And.intro (@pb_37) (And.intro (@pb_38) (@pb_39)))) (And.intro (And.intro (@pb_40) (And.intro (@pb_41) (@pb_42))) (And.intro (@pb_43) (And.intro (@pb_44) (@pb_45))))) (And.intro (And.intro (And.intro (@pb_46) (@pb_47)) (And.intro (@pb_48) (And.intro (@pb_49) (@pb_50)))) (And.intro (And.intro (@pb_51) (And.intro (@pb_52) (@pb_53))) (And.intro (@pb_54) (And.intro (@pb_55) (@pb_56)))))) (And.intro (And.intro (And.intro (And.intro (@pb_57) (@pb_58)) (And.intro (@pb_59) (And.intro (@pb_60) (@pb_61)))) (And.intro (And.intro (@pb_62) (And.intro (@pb_63) (@pb_64))) (And.intro (@pb_65) (And.intro (@pb_66) (@pb_67))))) (And.intro (And.intro (And.intro (@pb_68) (And.intro (@pb_69) (@pb_70))) (And.intro (@pb_71) (And.intro (@pb_72) (@pb_73)))) (And.intro (And.intro (@pb_74) (And.intro (@pb_75) (@pb_76))) (And.intro (@pb_77) (And.intro (@pb_78) (@pb_79))))))))) := And.intro (And.intro (And.intro (And.intro (And.intro (And.intro (And.intro (@bs_24) (@bs_33)) (And.intro (@bs_35) (And.intro (@bs_37) (@bs_67)))) (And.intro (And.intro (@bs_76) (And.intro (@bs_87) (@bs_98))) (And.intro (@bs_117) (And.intro (@ia_2) (@sz_2))))) (And.intro (And.intro (And.intro (@ia_3) (@sz_3)) (And.intro (@ia_4) (And.intro (@sz_4) (@ia_22)))) (And.intro (And.intro (@sz_22) (And.intro (@ia_24) (@sz_24))) (And.intro (@ia_27) (And.intro (@sz_27) (@ia_33)))))) (And.intro (And.intro (And.intro (And.intro (@sz_33) (@ia_35)) (And.intro (@sz_35) (And.intro (@ia_37) (@sz_37)))) (And.intro (And.intro (@ia_43) (And.intro (@sz_43) (@ia_51))) (And.intro (@sz_51) (And.intro (@ia_55) (@sz_55))))) (And.intro (And.intro (And.intro (@ia_56) (@sz_56)) (And.intro (@ia_67) (And.intro (@sz_67) (@ia_69)))) (And.intro (And.intro (@sz_69) (And.intro (@ia_70) (@sz_70))) (And.intro (@ia_73) (And.intro (@sz_73) (@ia_74))))))) (And.intro (And.intro (And.intro (And.intro (And.intro (@sz_74) (@ia_76)) (And.intro (@sz_76) (And.intro (@ia_78) (@sz_78)))) (And.intro (And.intro (@ia_87) (And.intro (@sz_87) (@ia_89))) (And.intro (@sz_89) (And.intro (@ia_96) (@sz_96))))) (And.intro (And.intro (And.intro (@ia_98) (@sz_98)) (And.intro (@ia_101) (And.intro (@sz_101) (@ia_105)))) (And.intro (And.intro (@sz_105) (And.intro (@ia_107) (@sz_107))) (And.intro (@ia_113) (And.intro (@sz_113) (@ia_114)))))) (And.intro (And.intro (And.intro (And.intro (@sz_114) (@ia_117)) (And.intro (@sz_117) (And.intro (@ia_119) (@sz_119)))) (And.intro (And.intro (@ze_2) (And.intro (@ze_3) (@ze_4))) (And.intro (@ze_24) (And.intro (@ze_27) (@ze_33))))) (And.intro (And.intro (And.intro (@ze_35) (And.intro (@ze_37) (@ze_67))) (And.intro (@ze_76) (And.intro (@ze_87) (@ze_98)))) (And.intro (And.intro (@ze_117) (And.intro (@fo_24_0) (@fo_24_1))) (And.intro (@fo_33_0) (And.intro (@fo_33_1) (@fo_35_0)))))))) (And.intro (And.intro (And.intro (And.intro (And.intro (And.intro (@fo_35_1) (@fo_35_2)) (And.intro (@fo_35_3) (And.intro (@fo_35_4) (@fo_35_5)))) (And.intro (And.intro (@fo_35_6) (And.intro (@fo_35_7) (@fo_35_8))) (And.intro (@fo_35_9) (And.intro (@fo_37_0) (@fo_37_1))))) (And.intro (And.intro (And.intro (@fo_37_2) (@fo_37_3)) (And.intro (@fo_37_4) (And.intro (@fo_37_5) (@fo_67_0)))) (And.intro (And.intro (@fo_76_0) (And.intro (@fo_76_1) (@fo_87_0))) (And.intro (@fo_87_1) (And.intro (@fo_87_2) (@fo_98_0)))))) (And.intro (And.intro (And.intro (And.intro (@fo_98_1) (@pb_13)) (And.intro (@pb_14) (And.intro (@pb_15) (@pb_16)))) (And.intro (And.intro (@pb_17) (And.intro (@pb_18) (@pb_19))) (And.intro (@pb_20) (And.intro (@pb_21) (@pb_22))))) (And.intro (And.intro (And.intro (@pb_23) (And.intro (@pb_24) (@pb_25))) (And.intro (@pb_26) (And.intro (@pb_27) (@pb_28)))) (And.intro (And.intro (@pb_29) (And.intro (@pb_30) (@pb_31))) (And.intro (@pb_32) (And.intro (@pb_33) (@pb_34))))))) (And.intro (And.intro (And.intro (And.intro (And.intro (@pb_35) (@pb_36)) (And.intro (@pb_37) (And.intro (@pb_38) (@pb_39)))) (And.intro (And.intro (@pb_40) (And.intro (@pb_41) (@pb_42))) (And.intro (@pb_43) (And.intro (@pb_44) (@pb_45))))) (And.intro (And.intro (And.intro (@pb_46) (@pb_47)) (And.intro (@pb_48) (And.intro (@pb_49) (@pb_50)))) (And.intro (And.intro (@pb_51) (And.intro (@pb_52) (@pb_53))) (And.intro (@pb_54) (And.intro (@pb_55) (@pb_56)))))) (And.intro (And.intro (And.intro (And.intro (@pb_57) (@pb_58)) (And.intro (@pb_59) (And.intro (@pb_60) (@pb_61)))) (And.intro (And.intro (@pb_62) (And.intro (@pb_63) (@pb_64))) (And.intro (@pb_65) (And.intro (@pb_66) (@pb_67))))) (And.intro (And.intro (And.intro (@pb_68) (And.intro (@pb_69) (@pb_70))) (And.intro (@pb_71) (And.intro (@pb_72) (@pb_73)))) (And.intro (And.intro (@pb_74) (And.intro (@pb_75) (@pb_76))) (And.intro (@pb_77) (And.intro (@pb_78) (@pb_79))))))))
theorem works (h : H) : (om Try.prog KK).call (.fn 14 []) h = .ok (.bool true) h := by
  refine om_con (c := cW) (r := []) ?_
  rfl
theorem lawLines (a b : AV) (re cf : List Int) (r : Int) (h : H) (x : LineR h a b re cf) : (om Try.prog KK).call (.fn 3 [.agg [a, b], ii r]) h = .ok (.bool true) h := by
  have wf := x.wf
  obtain ⟨⟨fa, fa'⟩, ⟨fb, fb'⟩⟩ := x.flats
  refine WV_to (WV_call (fn := Try.f3) Try.func3 rfl rfl rfl rfl rfl ?_)
  simp only [argF]
  by_cases hg : 20 < re.length ∨ 20 < cf.length
  · have hgd : decide (20 < re.length ∨ 20 < cf.length) = true := decide_eq_true hg
    (repeat' (first
  | (with_reducible first | refine WC_seq ?_ | refine WC_skip ?_ | refine WC_label ?_ | refine WC_scope ?_ | refine WC_block ?_ | refine WC_ret ?_ | refine WC_exit ?_ | refine seqQ_norm ?_ | refine seqQ_ret ?_ | refine seqQ_exit ?_ | refine blkQ_norm ?_ | refine blkQ_ret ?_ | refine blkQ_here ?_ | refine gateK_yes ?_ | refine gateK_none ?_ | refine condK_tt ?_ | refine condK_ff ?_ | refine roundQ_exit ?_ | refine roundQ_ret ?_)
  | refine WC_region ?_ | refine blkQ_out rfl ?_ | refine WO_nil ?_ | refine WD_nil ?_
  | ((first | refine WD_gate rfl rfl rfl rfl rfl fun K_ hK_ => ?_ | refine WO_gate rfl rfl rfl rfl rfl fun K_ hK_ => ?_); simp only [upd_apply, asB_bool, asB_tup, ↓reduceIte, reduceCtorEq, Nat.reduceEqDiff, Bool.not_true, Bool.not_false]; refine hK_ _ ?_; clear hK_ K_)
  | refine gateK_no (by decide) ?_
  | ((try first | refine WO_op rfl rfl rfl ?_ | refine WO_op0 rfl rfl ?_ | refine WD_op rfl rfl rfl ?_ | refine WD_op0 rfl rfl ?_); (refine WV_gen fun Q_ hQ_ => ?_; simp (disch := first | omega | (simp only [List.length_cons, List.length_nil, List.length_append]; omega)) only [bb, bp, argF, ↓reduceIte, reduceCtorEq, Nat.reduceEqDiff, Nat.reduceLT, Nat.reduceLeDiff, Nat.reduceAdd, Nat.reduceMul, Nat.reduceSub, Nat.reduceBEq, Int.reduceToNat, cond_true, cond_false, eq_self, beq_self_eq_true, fa, fb, fa', fb', newPtr_X wf, load1_X wf, loadAgg_X wf, store1_X wf, writeCells_X wf, makeFunc_def, tEvD7, bsl_22, bsl_43, bsl_51, bsl_96, bsl_105, newSlice_X wf]; first | (refine dec_split (Q := Q_) (fun hp_ => ?_) (fun hp_ => ?_) <;> first | (exfalso; omega) | (refine hQ_ _ _ ?_; clear hQ_ Q_)) | (refine dec_splitn (Q := Q_) (fun hp_ => ?_) (fun hp_ => ?_) <;> first | (exfalso; omega) | (refine hQ_ _ _ ?_; clear hQ_ Q_)) | (refine hQ_ _ _ ?_; clear hQ_ Q_) | (refine WV_eq ((great a b re cf _ (x.up _ _ (by simp only [List.length_append, List.length_cons, List.length_nil]; omega))).trans (by rw [hgd])) ?_; refine hQ_ _ _ ?_; clear hQ_ Q_) | (refine WV_eq (works _) ?_; refine hQ_ _ _ ?_; clear hQ_ Q_)))
  | (refine WC_cond fun K_ hK_ => ?_; simp (disch := omega) only [evT_tmp, upd_apply, WB_some, ↓reduceIte, reduceCtorEq, Nat.reduceEqDiff, Nat.reduceLT]; refine hK_ _ ?_; clear hK_ K_)))
    (refine endQ_ret _ _ rfl (ret1 (by decide)) ?_; simp only [upd_apply, ↓reduceIte, reduceCtorEq, Nat.reduceEqDiff]; refine WV_flat rfl (by omega) ?_)
    exact ⟨rfl, rfl⟩
  · have hgd : decide (20 < re.length ∨ 20 < cf.length) = false := decide_eq_false hg
    (repeat' (first
  | (with_reducible first | refine WC_seq ?_ | refine WC_skip ?_ | refine WC_label ?_ | refine WC_scope ?_ | refine WC_block ?_ | refine WC_ret ?_ | refine WC_exit ?_ | refine seqQ_norm ?_ | refine seqQ_ret ?_ | refine seqQ_exit ?_ | refine blkQ_norm ?_ | refine blkQ_ret ?_ | refine blkQ_here ?_ | refine gateK_yes ?_ | refine gateK_none ?_ | refine condK_tt ?_ | refine condK_ff ?_ | refine roundQ_exit ?_ | refine roundQ_ret ?_)
  | refine WC_region ?_ | refine blkQ_out rfl ?_ | refine WO_nil ?_ | refine WD_nil ?_
  | ((first | refine WD_gate rfl rfl rfl rfl rfl fun K_ hK_ => ?_ | refine WO_gate rfl rfl rfl rfl rfl fun K_ hK_ => ?_); simp only [upd_apply, asB_bool, asB_tup, ↓reduceIte, reduceCtorEq, Nat.reduceEqDiff, Bool.not_true, Bool.not_false]; refine hK_ _ ?_; clear hK_ K_)
  | refine gateK_no (by decide) ?_
  | ((try first | refine WO_op rfl rfl rfl ?_ | refine WO_op0 rfl rfl ?_ | refine WD_op rfl rfl rfl ?_ | refine WD_op0 rfl rfl ?_); (refine WV_gen fun Q_ hQ_ => ?_; simp (disch := first | omega | (simp only [List.length_cons, List.length_nil, List.length_append]; omega)) only [bb, bp, argF, ↓reduceIte, reduceCtorEq, Nat.reduceEqDiff, Nat.reduceLT, Nat.reduceLeDiff, Nat.reduceAdd, Nat.reduceMul, Nat.reduceSub, Nat.reduceBEq, Int.reduceToNat, cond_true, cond_false, eq_self, beq_self_eq_true, fa, fb, fa', fb', newPtr_X wf, load1_X wf, loadAgg_X wf, store1_X wf, writeCells_X wf, makeFunc_def, tEvD7, bsl_22, bsl_43, bsl_51, bsl_96, bsl_105, newSlice_X wf]; first | (refine dec_split (Q := Q_) (fun hp_ => ?_) (fun hp_ => ?_) <;> first | (exfalso; omega) | (refine hQ_ _ _ ?_; clear hQ_ Q_)) | (refine dec_splitn (Q := Q_) (fun hp_ => ?_) (fun hp_ => ?_) <;> first | (exfalso; omega) | (refine hQ_ _ _ ?_; clear hQ_ Q_)) | (refine hQ_ _ _ ?_; clear hQ_ Q_) | (refine WV_eq ((great a b re cf _ (x.up _ _ (by simp only [List.length_append, List.length_cons, List.length_nil]; omega))).trans (by rw [hgd])) ?_; refine hQ_ _ _ ?_; clear hQ_ Q_) | (refine WV_eq (Friction a b re cf r _ (x.up _ _ (by simp only [List.length_append, List.length_cons, List.length_nil]; omega))) ?_; refine hQ_ _ _ ?_; clear hQ_ Q_) | (refine WV_eq (refFriction a b re cf r _ (x.up _ _ (by simp only [List.length_append, List.length_cons, List.length_nil]; omega))) ?_; refine hQ_ _ _ ?_; clear hQ_ Q_)))
  | (refine WC_cond fun K_ hK_ => ?_; simp (disch := omega) only [evT_tmp, upd_apply, WB_some, ↓reduceIte, reduceCtorEq, Nat.reduceEqDiff, Nat.reduceLT]; refine hK_ _ ?_; clear hK_ K_)))
    refine WC_drawnB ([.no, .no, .no] ++ List.replicate 16 .full) (by kernel_rfl) ?_
    have c1 : ∀ l w, w ≤ h.clock + l.length → (om Try.prog KK).call (.fn 17 [.agg [a, b]]) (X h l w) = .ok (ii (lineErr re cf)) (X h l w) := fun l w hw => CheckLine a b re cf _ (x.up _ _ hw)
    have c2 : ∀ l w, w ≤ h.clock + l.length → (om Try.prog KK).call (.fn 18 [.agg [a, b]]) (X h l w) = .ok (ii (lineErr re cf)) (X h l w) := fun l w hw => refCheckLine a b re cf _ (x.up _ _ hw)
    have c3 : ∀ l w, (om Try.prog KK).call (.fn 14 []) (X h l w) = .ok (.bool true) (X h l w) := fun l w => works _
    (repeat' (first
  | (with_reducible first | refine WC_seq ?_ | refine WC_skip ?_ | refine WC_label ?_ | refine WC_scope ?_ | refine WC_block ?_ | refine WC_ret ?_ | refine WC_exit ?_ | refine seqQ_norm ?_ | refine seqQ_ret ?_ | refine seqQ_exit ?_ | refine blkQ_norm ?_ | refine blkQ_ret ?_ | refine blkQ_here ?_ | refine gateK_yes ?_ | refine gateK_none ?_ | refine condK_tt ?_ | refine condK_ff ?_ | refine roundQ_exit ?_ | refine roundQ_ret ?_)
  | refine WC_region ?_ | refine blkQ_out rfl ?_ | refine WO_nil ?_ | refine WD_nil ?_
  | ((first | refine WD_gate rfl rfl rfl rfl rfl fun K_ hK_ => ?_ | refine WO_gate rfl rfl rfl rfl rfl fun K_ hK_ => ?_); simp only [upd_apply, asB_bool, asB_tup, ↓reduceIte, reduceCtorEq, Nat.reduceEqDiff, Bool.not_true, Bool.not_false]; refine hK_ _ ?_; clear hK_ K_)
  | refine gateK_no (by decide) ?_
  | ((try first | refine WO_op rfl rfl rfl ?_ | refine WO_op0 rfl rfl ?_ | refine WD_op rfl rfl rfl ?_ | refine WD_op0 rfl rfl ?_); (refine WV_gen fun Q_ hQ_ => ?_; simp (disch := first | omega | (simp only [List.length_cons, List.length_nil, List.length_append]; omega)) only [bb, bp, argF, ↓reduceIte, reduceCtorEq, Nat.reduceEqDiff, Nat.reduceLT, Nat.reduceLeDiff, Nat.reduceAdd, Nat.reduceMul, Nat.reduceSub, Nat.reduceBEq, Int.reduceToNat, cond_true, cond_false, eq_self, beq_self_eq_true, fa, fb, fa', fb', c1, c2, c3, newPtr_X wf, load1_X wf, loadAgg_X wf, store1_X wf, writeCells_X wf, makeFunc_def, tEvD7, bsl_22, bsl_43, bsl_51, bsl_96, bsl_105, newSlice_X wf]; first | (refine dec_split (Q := Q_) (fun hp_ => ?_) (fun hp_ => ?_) <;> first | (exfalso; omega) | (refine hQ_ _ _ ?_; clear hQ_ Q_)) | (refine dec_splitn (Q := Q_) (fun hp_ => ?_) (fun hp_ => ?_) <;> first | (exfalso; omega) | (refine hQ_ _ _ ?_; clear hQ_ Q_)) | (refine hQ_ _ _ ?_; clear hQ_ Q_)))
  | (refine WC_cond fun K_ hK_ => ?_; simp (disch := omega) only [evT_tmp, upd_apply, WB_some, ↓reduceIte, reduceCtorEq, Nat.reduceEqDiff, Nat.reduceLT]; refine hK_ _ ?_; clear hK_ K_)))
    (refine endQ_ret _ _ rfl (ret1 (by decide)) ?_; simp only [upd_apply, ↓reduceIte, reduceCtorEq, Nat.reduceEqDiff]; refine WV_flat rfl (by omega) ?_)
    exact ⟨rfl, rfl⟩
end Go.Proofs.Ythaleckfgcgegaa
end

/- EvDc1 -/
section
/- The statement DragLines of layer 4: which friction lines are valid, and the friction of a line, are what the definitions say, or the error, for all lines and numbers; no condition. -/
namespace Go.Proofs.Ythaleckfgcgegaa.dragLines
open Go.ChangeShapes Go.WideShapes Go.ChangeAt Go.RowKit Go.Ev
set_option maxRecDepth 100000
set_option maxHeartbeats 0

theorem contract (H : Type) (enc : TypeId × Value → H) (W : World) (base : Nat) (args : Array Value) (ds gs : List (DataW H)) (before : List MemPlace) (hval : ∀ (j : Nat) t v, Try.f3.params[j]? = some t → args[j]? = some v → Value.okWide Try.prog W .any base t v)
    (hW : DataW.Whole enc Try.prog Try.f3.params.toList Rows.dragLinesSpec.vars false W args.toList ds gs before) :
    Calls Try.prog 3 args W fun e W' => ∃ v, e = .returned v ∧ Rows.dragLinesSpec.post enc Try.prog Try.f3 false true false false W args v W' := by
  have hW' := hW
  obtain ⟨p, q, hA0, hV, rfl, hfz, hnd⟩ := hW
  have hA : DataW.TrodAll enc Try.prog W 0 (fun _ => true) true Try.f3.params.toList args.toList ds p := hA0
  rw [Try.params3] at hA hval
  obtain ⟨v0, v1, d0, d1, p0, p1, rfl, rfl, rfl, ⟨n0, h0⟩, ⟨n1, h1⟩⟩ := trodAll_two hA
  obtain ⟨a0, b0, re0, cf0, w0, x0⟩ := line_in (hval 0 24 v0 rfl rfl) h0
  obtain ⟨r1, hz1⟩ := okWideInt Try.underlying2 (okWide_cell (P := Try.prog) Try.underlying2 (fun _ e => by cases e) (fun _ _ e => by cases e) (hval 1 2 v1 rfl rfl))
  subst hz1
  have walk := lawLines a0 b0 re0 cf0 r1 (startW W) x0
  have hargs : VL (startWR W) [.agg [a0, b0], ii r1] (#[v0, .int .i64 r1] : Array Value).toList := (.cons _ _ _ _ w0 (.cons _ _ _ _ (.int _ _) .nil))
  refine (startW_true (P := Try.prog) mixed (K := KK) (fun c hc => by
    have : c = cW := List.mem_singleton.1 hc
    rw [this]; exact cW_ok) walk hargs).mono fun e W' ⟨he, hgr, hs⟩ => ?_
  subst he
  refine ⟨_, rfl, law_post laidOut (by
    rw [Try.params3]
    intro t ht
    rcases List.mem_cons.1 ht with rfl | ht
    · exact ⟨by kernel_rfl, of_decide_eq_true (by kernel_rfl)⟩
    rcases List.mem_cons.1 ht with rfl | ht
    · exact ⟨by kernel_rfl, of_decide_eq_true (by kernel_rfl)⟩
    cases ht) rfl (by kernel_rfl) Try.underlying4 (fun gs' ⟨q', hq⟩ => ?_) hW' hgr hs⟩
  obtain ⟨rfl, _⟩ := trodVars_none hq
  exact ⟨rfl, rfl, rfl⟩

theorem lifted (os : Os) (started : os.Started) (H : Type) (enc : TypeId × Value → H) :
    ReturnsInHanded {} Try.checked os 3 .any (Rows.dragLinesSpec.pre6 enc Try.prog Try.f3 Rows.dragLinesRow.domain false) (Rows.dragLinesSpec.post enc Try.prog Try.f3 false true false false) := by
  refine returnsInHanded_of_change (C := Try.checked) own started (by kernel_rfl) Try.func3
    (ChangeSpec.witness6 (enc := enc) (C := Try.checked) false ⟨#[], #[.agg #[.slice none 0 0, .slice none 0 0], .int .i64 0], []⟩ 8 (by kernel_rfl) (by kernel_rfl) (by kernel_rfl) (by kernel_rfl)) ?_
  intro W base args ds gs before hval hW _ _
  exact contract H enc W base args ds gs before hval hW

theorem holds : Rows.DragLinesSaid :=
  OpenClaim.holds_of_wide 3 Try.f3 rfl rfl rfl rfl rfl rfl rfl ⟨rfl, rfl, rfl, rfl, rfl⟩ rfl rfl rfl rfl rfl (by kernel_rfl) Try.func3 (by kernel_rfl)
    (of_decide_eq_true (by kernel_rfl)) (by unfold Func.isWrapper; first | (rw [if_pos (by decide +kernel)]; kernel_rfl) | (rw [if_neg (by decide +kernel)]; exact ⟨rfl, rfl⟩))
    (fun os started H enc _ => lifted os started H enc)
end Go.Proofs.Ythaleckfgcgegaa.dragLines
end
