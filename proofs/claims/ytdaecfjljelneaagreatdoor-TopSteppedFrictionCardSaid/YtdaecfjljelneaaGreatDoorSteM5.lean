import Derived.Test.YtdaecfjljelneaaGreatDoorSteM4
set_option linter.all false
/- EvsD4 -/
section
/-
  LAYER 4: lines.
-/
namespace Go.Proofs.YtdaecfjljelneaaGreatDoor
open Go.Ev
set_option maxRecDepth 100000
set_option linter.unusedSimpArgs false
set_option linter.unusedVariables false
set_option maxHeartbeats 2000000
theorem tEvsD4 : type_of% (And.intro (And.intro (And.intro (And.intro (And.intro (And.intro (And.intro (@bs_27) (@bs_44)) (And.intro (@bs_46) (And.intro (@bs_53) (@bs_82)))) (And.intro (And.intro (@bs_92) (@bs_179)) (And.intro (@bs_250) (And.intro (@bs_254) (@ia_2))))) (And.intro (And.intro (And.intro (@sz_2) (@ia_3)) (And.intro (@sz_3) (And.intro (@ia_4) (@sz_4)))) (And.intro (And.intro (@ia_25) (@sz_25)) (And.intro (@ia_27) (And.intro (@sz_27) (@ia_28)))))) (And.intro (And.intro (And.intro (And.intro (@sz_28) (@ia_44)) (And.intro (@sz_44) (And.intro (@ia_46) (@sz_46)))) (And.intro (And.intro (@ia_53) (@sz_53)) (And.intro (@ia_36) (And.intro (@sz_36) (@ia_35))))) (And.intro (And.intro (And.intro (@sz_35) (@ia_37)) (And.intro (@sz_37) (And.intro (@ia_38) (@sz_38)))) (And.intro (And.intro (@ia_82) (@sz_82)) (And.intro (@ia_84) (And.intro (@sz_84) (@ia_118))))))) (And.intro (And.intro (And.intro (And.intro (And.intro (@sz_118) (@ia_90)) (And.intro (@sz_90) (And.intro (@ia_92) (@sz_92)))) (And.intro (And.intro (@ia_85) (@sz_85)) (And.intro (@ia_179) (And.intro (@sz_179) (@ia_93))))) (And.intro (And.intro (And.intro (@sz_93) (@ia_40)) (And.intro (@sz_40) (And.intro (@ia_250) (@sz_250)))) (And.intro (And.intro (@ia_253) (@sz_253)) (And.intro (@ia_259) (And.intro (@sz_259) (@ia_261)))))) (And.intro (And.intro (And.intro (And.intro (@sz_261) (@ia_256)) (And.intro (@sz_256) (And.intro (@ia_257) (@sz_257)))) (And.intro (And.intro (@ia_254) (@sz_254)) (And.intro (@ia_278) (And.intro (@sz_278) (@ze_2))))) (And.intro (And.intro (And.intro (@ze_3) (@ze_4)) (And.intro (@ze_27) (And.intro (@ze_28) (@ze_44)))) (And.intro (And.intro (@ze_46) (@ze_53)) (And.intro (@ze_82) (And.intro (@ze_92) (@ze_179)))))))) (And.intro (And.intro (And.intro (And.intro (And.intro (And.intro (@ze_250) (@ze_254)) (And.intro (@fo_27_0) (And.intro (@fo_27_1) (@fo_44_0)))) (And.intro (And.intro (@fo_44_1) (@fo_46_0)) (And.intro (@fo_46_1) (And.intro (@fo_46_2) (@fo_46_3))))) (And.intro (And.intro (And.intro (@fo_46_4) (@fo_46_5)) (And.intro (@fo_46_6) (And.intro (@fo_46_7) (@fo_46_8)))) (And.intro (And.intro (@fo_46_9) (@fo_53_0)) (And.intro (@fo_53_1) (And.intro (@fo_53_2) (@fo_53_3)))))) (And.intro (And.intro (And.intro (And.intro (@fo_53_4) (@fo_53_5)) (And.intro (@fo_82_0) (And.intro (@fo_92_0) (@fo_92_1)))) (And.intro (And.intro (@fo_179_0) (@fo_179_1)) (And.intro (@fo_179_2) (And.intro (@fo_250_0) (@fo_250_1))))) (And.intro (And.intro (And.intro (@pb_29) (@pb_8)) (And.intro (@pb_31) (And.intro (@pb_7) (@pb_19)))) (And.intro (And.intro (@pb_38) (@pb_14)) (And.intro (@pb_42) (And.intro (@pb_11) (@pb_13))))))) (And.intro (And.intro (And.intro (And.intro (And.intro (@pb_95) (@pb_15)) (And.intro (@pb_92) (And.intro (@pb_93) (@pb_94)))) (And.intro (And.intro (@pb_32) (@pb_33)) (And.intro (@pb_96) (And.intro (@pb_30) (@pb_57))))) (And.intro (And.intro (And.intro (@pb_100) (@pb_43)) (And.intro (@pb_44) (And.intro (@pb_45) (@pb_46)))) (And.intro (And.intro (@pb_105) (@pb_106)) (And.intro (@pb_37) (And.intro (@pb_40) (@pb_41)))))) (And.intro (And.intro (And.intro (And.intro (@pb_36) (@pb_12)) (And.intro (@pb_101) (And.intro (@pb_158) (@pb_159)))) (And.intro (And.intro (@pb_160) (@pb_161)) (And.intro (@pb_47) (And.intro (@pb_97) (@pb_107))))) (And.intro (And.intro (And.intro (@pb_108) (@pb_165)) (And.intro (@pb_102) (And.intro (@pb_103) (@pb_104)))) (And.intro (And.intro (@pb_39) (And.intro (@pb_164) (@pb_192))) (And.intro (@pb_163) (And.intro (@pb_190) (@pb_191))))))))) := And.intro (And.intro (And.intro (And.intro (And.intro (And.intro (And.intro (@bs_27) (@bs_44)) (And.intro (@bs_46) (And.intro (@bs_53) (@bs_82)))) (And.intro (And.intro (@bs_92) (@bs_179)) (And.intro (@bs_250) (And.intro (@bs_254) (@ia_2))))) (And.intro (And.intro (And.intro (@sz_2) (@ia_3)) (And.intro (@sz_3) (And.intro (@ia_4) (@sz_4)))) (And.intro (And.intro (@ia_25) (@sz_25)) (And.intro (@ia_27) (And.intro (@sz_27) (@ia_28)))))) (And.intro (And.intro (And.intro (And.intro (@sz_28) (@ia_44)) (And.intro (@sz_44) (And.intro (@ia_46) (@sz_46)))) (And.intro (And.intro (@ia_53) (@sz_53)) (And.intro (@ia_36) (And.intro (@sz_36) (@ia_35))))) (And.intro (And.intro (And.intro (@sz_35) (@ia_37)) (And.intro (@sz_37) (And.intro (@ia_38) (@sz_38)))) (And.intro (And.intro (@ia_82) (@sz_82)) (And.intro (@ia_84) (And.intro (@sz_84) (@ia_118))))))) (And.intro (And.intro (And.intro (And.intro (And.intro (@sz_118) (@ia_90)) (And.intro (@sz_90) (And.intro (@ia_92) (@sz_92)))) (And.intro (And.intro (@ia_85) (@sz_85)) (And.intro (@ia_179) (And.intro (@sz_179) (@ia_93))))) (And.intro (And.intro (And.intro (@sz_93) (@ia_40)) (And.intro (@sz_40) (And.intro (@ia_250) (@sz_250)))) (And.intro (And.intro (@ia_253) (@sz_253)) (And.intro (@ia_259) (And.intro (@sz_259) (@ia_261)))))) (And.intro (And.intro (And.intro (And.intro (@sz_261) (@ia_256)) (And.intro (@sz_256) (And.intro (@ia_257) (@sz_257)))) (And.intro (And.intro (@ia_254) (@sz_254)) (And.intro (@ia_278) (And.intro (@sz_278) (@ze_2))))) (And.intro (And.intro (And.intro (@ze_3) (@ze_4)) (And.intro (@ze_27) (And.intro (@ze_28) (@ze_44)))) (And.intro (And.intro (@ze_46) (@ze_53)) (And.intro (@ze_82) (And.intro (@ze_92) (@ze_179)))))))) (And.intro (And.intro (And.intro (And.intro (And.intro (And.intro (@ze_250) (@ze_254)) (And.intro (@fo_27_0) (And.intro (@fo_27_1) (@fo_44_0)))) (And.intro (And.intro (@fo_44_1) (@fo_46_0)) (And.intro (@fo_46_1) (And.intro (@fo_46_2) (@fo_46_3))))) (And.intro (And.intro (And.intro (@fo_46_4) (@fo_46_5)) (And.intro (@fo_46_6) (And.intro (@fo_46_7) (@fo_46_8)))) (And.intro (And.intro (@fo_46_9) (@fo_53_0)) (And.intro (@fo_53_1) (And.intro (@fo_53_2) (@fo_53_3)))))) (And.intro (And.intro (And.intro (And.intro (@fo_53_4) (@fo_53_5)) (And.intro (@fo_82_0) (And.intro (@fo_92_0) (@fo_92_1)))) (And.intro (And.intro (@fo_179_0) (@fo_179_1)) (And.intro (@fo_179_2) (And.intro (@fo_250_0) (@fo_250_1))))) (And.intro (And.intro (And.intro (@pb_29) (@pb_8)) (And.intro (@pb_31) (And.intro (@pb_7) (@pb_19)))) (And.intro (And.intro (@pb_38) (@pb_14)) (And.intro (@pb_42) (And.intro (@pb_11) (@pb_13))))))) (And.intro (And.intro (And.intro (And.intro (And.intro (@pb_95) (@pb_15)) (And.intro (@pb_92) (And.intro (@pb_93) (@pb_94)))) (And.intro (And.intro (@pb_32) (@pb_33)) (And.intro (@pb_96) (And.intro (@pb_30) (@pb_57))))) (And.intro (And.intro (And.intro (@pb_100) (@pb_43)) (And.intro (@pb_44) (And.intro (@pb_45) (@pb_46)))) (And.intro (And.intro (@pb_105) (@pb_106)) (And.intro (@pb_37) (And.intro (@pb_40) (@pb_41)))))) (And.intro (And.intro (And.intro (And.intro (@pb_36) (@pb_12)) (And.intro (@pb_101) (And.intro (@pb_158) (@pb_159)))) (And.intro (And.intro (@pb_160) (@pb_161)) (And.intro (@pb_47) (And.intro (@pb_97) (@pb_107))))) (And.intro (And.intro (And.intro (@pb_108) (@pb_165)) (And.intro (@pb_102) (And.intro (@pb_103) (@pb_104)))) (And.intro (And.intro (@pb_39) (And.intro (@pb_164) (@pb_192))) (And.intro (@pb_163) (And.intro (@pb_190) (@pb_191))))))))
/-- The points of a line are in their bounds and in their order, up to one. -/
def ptOk (re cf : List Int) (i : Nat) : Prop := (1 ≤ re.getD i 0 ∧ re.getD i 0 ≤ 1000000000) ∧ (0 ≤ cf.getD i 0 ∧ cf.getD i 0 ≤ 100000) ∧ (0 < i → re.getD (i - 1) 0 < re.getD i 0 ∧ cf.getD i 0 ≤ cf.getD (i - 1) 0)
instance (re cf : List Int) (i : Nat) : Decidable (ptOk re cf i) := by unfold ptOk; infer_instance
structure okL (re cf : List Int) : Prop where
  n : 2 ≤ re.length ∧ re.length ≤ 12
  e : cf.length = re.length
  pt : ∀ i, i < re.length → ptOk re cf i
/-- What is wrong with a line. -/
def lineErr (re cf : List Int) : Int := if re.length < 2 ∨ 12 < re.length then 6 else if cf.length ≠ re.length then 15 else if ∀ i, i < re.length → ptOk re cf i then 0 else 2
theorem lineErr_zero {re cf : List Int} : lineErr re cf = 0 ↔ okL re cf := by
  unfold lineErr
  constructor
  · intro h
    split at h
    · cases h
    split at h
    · cases h
    split at h
    · exact ⟨by omega, by omega, by assumption⟩
    · cases h
  · rintro ⟨h1, h2, h3⟩
    rw [if_neg (by omega), if_neg (by omega), if_pos h3]
/-- A line in a heap. -/
structure LineR (h : H) (a b : AV) (re cf : List Int) : Prop where
  wf : Wf h
  re : Row h a 1 re.length (re.map ii)
  cf : Row h b 1 cf.length (cf.map ii)
theorem LineR.up {h : H} {a b : AV} {re cf : List Int} (x : LineR h a b re cf) (l : List AO) (w : Nat) (hw : w ≤ h.clock + l.length) : LineR (X h l w) a b re cf := ⟨x.wf.X hw, x.re.up x.wf l w, x.cf.up x.wf l w⟩
theorem LineR.flats {h : H} {a b : AV} {re cf : List Int} (x : LineR h a b re cf) : (AV.cells a = [a] ∧ oneB a = true) ∧ (AV.cells b = [b] ∧ oneB b = true) := ⟨x.re.flat, x.cf.flat⟩
theorem ints_at {h : H} (wf : Wf h) {a : AV} {l : List Int} (r : Row h a 1 l.length (l.map ii)) {i : Nat} (hi : i < l.length) : ∃ id off, indexAddrE Tryz.prog 25 a (.int .i64 (i : Int)) = some (.ptr id off) ∧ ∀ J w, load1 id off (X h J w) = some (ii (l.getD i 0)) := by
  obtain ⟨id, off, h1, h2⟩ := (r.sl (by omega)).at1 wf hi ik_25
  refine ⟨id, off, h1, fun J w => ?_⟩
  rw [h2, List.getElem?_map]
  simp [List.getD, hi]

theorem arePoints (a b : AV) (re cf : List Int) (h : H) (x : LineR h a b re cf) (hn : re.length ≤ 12) (he : cf.length = re.length) :
    (om Tryz.prog KK).call (.fn 96 [.agg [a, b]]) h = .ok (.bool (decide (∀ i, i < re.length → ptOk re cf i))) h := by
  have wf := x.wf
  obtain ⟨⟨fa, fa'⟩, ⟨fb, fb'⟩⟩ := x.flats
  have ha : ∀ h', lenE Tryz.prog 25 a h' = some (ii (re.length : Int)) := fun h' => x.re.len un_25
  refine WV_to (WV_call (fn := Tryz.f96) Tryz.func96 rfl rfl rfl rfl rfl ?_)
  simp only [argF]
  (repeat' (first
  | (with_reducible first | refine WC_seq ?_ | refine WC_skip ?_ | refine WC_label ?_ | refine WC_scope ?_ | refine WC_block ?_ | refine WC_ret ?_ | refine WC_exit ?_ | refine seqQ_norm ?_ | refine seqQ_ret ?_ | refine seqQ_exit ?_ | refine blkQ_norm ?_ | refine blkQ_ret ?_ | refine blkQ_here ?_ | refine gateK_yes ?_ | refine gateK_none ?_ | refine condK_tt ?_ | refine condK_ff ?_ | refine roundQ_exit ?_ | refine roundQ_ret ?_)
  | refine WC_region ?_ | refine blkQ_out rfl ?_ | refine WO_nil ?_ | refine WD_nil ?_
  | ((first | refine WD_gate rfl rfl rfl rfl rfl fun K_ hK_ => ?_ | refine WO_gate rfl rfl rfl rfl rfl fun K_ hK_ => ?_); simp only [upd_apply, asB_bool, asB_tup, ↓reduceIte, reduceCtorEq, Nat.reduceEqDiff, Bool.not_true, Bool.not_false]; refine hK_ _ ?_; clear hK_ K_)
  | refine gateK_no (by decide) ?_
  | ((try first | refine WO_op rfl rfl rfl ?_ | refine WO_op0 rfl rfl ?_ | refine WD_op rfl rfl rfl ?_ | refine WD_op0 rfl rfl ?_); (refine WV_gen fun Q_ hQ_ => ?_; simp (disch := first | omega | (simp only [List.length_cons, List.length_nil, List.length_append]; omega)) only [bb, bp, argF, ↓reduceIte, reduceCtorEq, Nat.reduceEqDiff, Nat.reduceLT, Nat.reduceLeDiff, Nat.reduceAdd, Nat.reduceMul, Nat.reduceSub, Nat.reduceBEq, Int.reduceToNat, cond_true, cond_false, eq_self, beq_self_eq_true, ha, fa, fb, fa', fb', newPtr_X wf, load1_X wf, loadAgg_X wf, store1_X wf, writeCells_X wf, makeFunc_def, tEvsD4, bsl_25, bsl_36, bsl_35, bsl_40, bsl_259, newSlice_X wf]; first | (refine dec_split (Q := Q_) (fun hp_ => ?_) (fun hp_ => ?_) <;> first | (exfalso; omega) | (refine hQ_ _ _ ?_; clear hQ_ Q_)) | (refine dec_splitn (Q := Q_) (fun hp_ => ?_) (fun hp_ => ?_) <;> first | (exfalso; omega) | (refine hQ_ _ _ ?_; clear hQ_ Q_)) | (refine hQ_ _ _ ?_; clear hQ_ Q_)))
  | (refine WC_cond fun K_ hK_ => ?_; simp (disch := omega) only [evT_tmp, upd_apply, WB_some, ↓reduceIte, reduceCtorEq, Nat.reduceEqDiff, Nat.reduceLT]; refine hK_ _ ?_; clear hK_ K_)))
  refine WC_loop (fun (i : Nat) f d h' => i ≤ re.length ∧ (∀ j, j < i → ptOk re cf j) ∧ f 1 = .ptr (nx h 0) 0 ∧ f 6 = ii (re.length : Int) ∧ f 7 = ii (i : Int) ∧ d = [] ∧
    ∃ G, h' = X h (.cells (mkCells [a, b]) 27 :: G) h.clock) (fun i => re.length - i) ?_ (re.length + 1) 0 (by omega) ?_
  · rintro i f d h' ⟨hi, hall, g1, g6, g7, rfl, G, rfl⟩
    by_cases hlt : i < re.length
    · obtain ⟨ia, oa, hxa, hla⟩ := ints_at wf x.re hlt
      obtain ⟨ib, ob, hxb, hlb⟩ := ints_at wf x.cf (i := i) (by omega)
      have hpt : ptOk re cf i ↔ ((1 ≤ re.getD i 0 ∧ re.getD i 0 ≤ 1000000000) ∧ (0 ≤ cf.getD i 0 ∧ cf.getD i 0 ≤ 100000) ∧ (0 < i → re.getD (i - 1) 0 < re.getD i 0 ∧ cf.getD i 0 ≤ cf.getD (i - 1) 0)) := Iff.rfl
      generalize hri : re.getD i 0 = r at *
      generalize hci : cf.getD i 0 = c at *
      (repeat' (first
  | (with_reducible first | refine WC_seq ?_ | refine WC_skip ?_ | refine WC_label ?_ | refine WC_scope ?_ | refine WC_block ?_ | refine WC_ret ?_ | refine WC_exit ?_ | refine seqQ_norm ?_ | refine seqQ_ret ?_ | refine seqQ_exit ?_ | refine blkQ_norm ?_ | refine blkQ_ret ?_ | refine blkQ_here ?_ | refine gateK_yes ?_ | refine gateK_none ?_ | refine condK_tt ?_ | refine condK_ff ?_ | refine roundQ_exit ?_ | refine roundQ_ret ?_)
  | refine WC_region ?_ | refine blkQ_out rfl ?_ | refine WO_nil ?_ | refine WD_nil ?_
  | ((first | refine WD_gate rfl rfl rfl rfl rfl fun K_ hK_ => ?_ | refine WO_gate rfl rfl rfl rfl rfl fun K_ hK_ => ?_); simp only [upd_apply, asB_bool, asB_tup, ↓reduceIte, reduceCtorEq, Nat.reduceEqDiff, Bool.not_true, Bool.not_false]; refine hK_ _ ?_; clear hK_ K_)
  | refine gateK_no (by decide) ?_
  | ((try first | refine WO_op rfl rfl rfl ?_ | refine WO_op0 rfl rfl ?_ | refine WD_op rfl rfl rfl ?_ | refine WD_op0 rfl rfl ?_); (refine WV_gen fun Q_ hQ_ => ?_; simp (disch := first | omega | (simp only [List.length_cons, List.length_nil, List.length_append]; omega)) only [bb, bp, argF, ↓reduceIte, reduceCtorEq, Nat.reduceEqDiff, Nat.reduceLT, Nat.reduceLeDiff, Nat.reduceAdd, Nat.reduceMul, Nat.reduceSub, Nat.reduceBEq, Int.reduceToNat, cond_true, cond_false, eq_self, beq_self_eq_true, g1, g6, g7, newPtr_X wf, load1_X wf, loadAgg_X wf, store1_X wf, writeCells_X wf, makeFunc_def, tEvsD4, bsl_25, bsl_36, bsl_35, bsl_40, bsl_259, newSlice_X wf]; first | (refine dec_split (Q := Q_) (fun hp_ => ?_) (fun hp_ => ?_) <;> first | (exfalso; omega) | (refine hQ_ _ _ ?_; clear hQ_ Q_)) | (refine dec_splitn (Q := Q_) (fun hp_ => ?_) (fun hp_ => ?_) <;> first | (exfalso; omega) | (refine hQ_ _ _ ?_; clear hQ_ Q_)) | (refine hQ_ _ _ ?_; clear hQ_ Q_)))
  | (refine WC_cond fun K_ hK_ => ?_; simp (disch := omega) only [evT_tmp, upd_apply, WB_some, ↓reduceIte, reduceCtorEq, Nat.reduceEqDiff, Nat.reduceLT]; refine hK_ _ ?_; clear hK_ K_)))
      refine WC_drawnB [.no, .no, .no, .no, .no, .no, .no, .no, .no, .no, .no, .no, .full, .full, .full, .full, .full] (by kernel_rfl) ?_
      have c1 : ∀ n l w, w ≤ h.clock + l.length → (om Tryz.prog KK).call (.fn 106 [ii n]) (X h l w) = .ok (.agg [ii n, ii n]) (X h l w) := fun n l w hw => one n _ (wf.X hw)
      have c2 : ∀ w, w ≤ h.clock + (G.length + 1 + 1) → (om Tryz.prog KK).call (.fn 105 [.sl (nx h (G.length + 1)) 0 2 (some 2) 4]) (X h (.cells (mkCells [a, b]) 27 :: (G ++ [.cells (mkCells [ii r, ii r, ii 1, ii 1000000000, ii c, ii c, ii 0, ii 100000]) 179])) w) = .ok (.bool (decide ((1 ≤ r ∧ r ≤ 1000000000) ∧ (0 ≤ c ∧ c ≤ 100000)))) (X h (.cells (mkCells [a, b]) 27 :: (G ++ [.cells (mkCells [ii r, ii r, ii 1, ii 1000000000, ii c, ii c, ii 0, ii 100000]) 179])) w) := fun w hw => by
        refine (areKept _ [(r, r, 1, 1000000000), (c, c, 0, 100000)] (by simp) _ (wf.X (by simp only [List.length_append, List.length_cons, List.length_nil]; omega)) (Sl.new (cells := [ii r, ii r, ii 1, ii 1000000000, ii c, ii c, ii 0, ii 100000]) wf (k := G.length + 1) rfl (by rw [List.getElem?_cons_succ, app_len0]; rfl))).trans ?_
        congr 2
        apply decide_eq_decide.2
        simp only [List.mem_cons, List.not_mem_nil, or_false, forall_eq_or_imp, forall_eq, kept]
        omega
      (repeat' (first
  | (with_reducible first | refine WC_seq ?_ | refine WC_skip ?_ | refine WC_label ?_ | refine WC_scope ?_ | refine WC_block ?_ | refine WC_ret ?_ | refine WC_exit ?_ | refine seqQ_norm ?_ | refine seqQ_ret ?_ | refine seqQ_exit ?_ | refine blkQ_norm ?_ | refine blkQ_ret ?_ | refine blkQ_here ?_ | refine gateK_yes ?_ | refine gateK_none ?_ | refine condK_tt ?_ | refine condK_ff ?_ | refine roundQ_exit ?_ | refine roundQ_ret ?_)
  | refine WC_region ?_ | refine blkQ_out rfl ?_ | refine WO_nil ?_ | refine WD_nil ?_
  | ((first | refine WD_gate rfl rfl rfl rfl rfl fun K_ hK_ => ?_ | refine WO_gate rfl rfl rfl rfl rfl fun K_ hK_ => ?_); simp only [upd_apply, asB_bool, asB_tup, ↓reduceIte, reduceCtorEq, Nat.reduceEqDiff, Bool.not_true, Bool.not_false]; refine hK_ _ ?_; clear hK_ K_)
  | refine gateK_no (by decide) ?_
  | ((try first | refine WO_op rfl rfl rfl ?_ | refine WO_op0 rfl rfl ?_ | refine WD_op rfl rfl rfl ?_ | refine WD_op0 rfl rfl ?_); (refine WV_gen fun Q_ hQ_ => ?_; simp (disch := first | omega | (simp only [List.length_cons, List.length_nil, List.length_append]; omega)) only [bb, bp, argF, ↓reduceIte, reduceCtorEq, Nat.reduceEqDiff, Nat.reduceLT, Nat.reduceLeDiff, Nat.reduceAdd, Nat.reduceMul, Nat.reduceSub, Nat.reduceBEq, Int.reduceToNat, cond_true, cond_false, eq_self, beq_self_eq_true, g1, g6, g7, hxa, hla, hxb, hlb, c1, c2, newPtr_X wf, load1_X wf, loadAgg_X wf, store1_X wf, writeCells_X wf, makeFunc_def, tEvsD4, bsl_25, bsl_36, bsl_35, bsl_40, bsl_259, newSlice_X wf]; first | (refine dec_split (Q := Q_) (fun hp_ => ?_) (fun hp_ => ?_) <;> first | (exfalso; omega) | (refine hQ_ _ _ ?_; clear hQ_ Q_)) | (refine dec_splitn (Q := Q_) (fun hp_ => ?_) (fun hp_ => ?_) <;> first | (exfalso; omega) | (refine hQ_ _ _ ?_; clear hQ_ Q_)) | (refine hQ_ _ _ ?_; clear hQ_ Q_)))
  | (refine WC_cond fun K_ hK_ => ?_; simp (disch := omega) only [evT_tmp, upd_apply, WB_some, ↓reduceIte, reduceCtorEq, Nat.reduceEqDiff, Nat.reduceLT]; refine hK_ _ ?_; clear hK_ K_)))
      · have hp : (1 ≤ r ∧ r ≤ 1000000000) ∧ 0 ≤ c ∧ c ≤ 100000 := by assumption
        by_cases hi0 : 0 < i
        · obtain ⟨ip, op, hxp, hlp⟩ := ints_at wf x.re (i := i - 1) (by omega)
          obtain ⟨iq, oq, hxq, hlq⟩ := ints_at wf x.cf (i := i - 1) (by omega)
          rw [show ((i - 1 : Nat) : Int) = (i : Int) - 1 from by omega] at hxp hxq
          generalize hrp : re.getD (i - 1) 0 = rp at *
          generalize hcp : cf.getD (i - 1) 0 = cp at *
          refine WC_drawnB [.full, .full, .full, .no, .no, .no, .no, .no, .no, .no, .no, .no, .no, .no, .full, .full, .no, .no, .no, .no, .no, .no, .no, .no, .no, .no, .no, .full, .full, .full] (by kernel_rfl) ?_
          (repeat' (first
  | (with_reducible first | refine WC_seq ?_ | refine WC_skip ?_ | refine WC_label ?_ | refine WC_scope ?_ | refine WC_block ?_ | refine WC_ret ?_ | refine WC_exit ?_ | refine seqQ_norm ?_ | refine seqQ_ret ?_ | refine seqQ_exit ?_ | refine blkQ_norm ?_ | refine blkQ_ret ?_ | refine blkQ_here ?_ | refine gateK_yes ?_ | refine gateK_none ?_ | refine condK_tt ?_ | refine condK_ff ?_ | refine roundQ_exit ?_ | refine roundQ_ret ?_)
  | refine WC_region ?_ | refine blkQ_out rfl ?_ | refine WO_nil ?_ | refine WD_nil ?_
  | ((first | refine WD_gate rfl rfl rfl rfl rfl fun K_ hK_ => ?_ | refine WO_gate rfl rfl rfl rfl rfl fun K_ hK_ => ?_); simp only [upd_apply, asB_bool, asB_tup, ↓reduceIte, reduceCtorEq, Nat.reduceEqDiff, Bool.not_true, Bool.not_false]; refine hK_ _ ?_; clear hK_ K_)
  | refine gateK_no (by decide) ?_
  | ((try first | refine WO_op rfl rfl rfl ?_ | refine WO_op0 rfl rfl ?_ | refine WD_op rfl rfl rfl ?_ | refine WD_op0 rfl rfl ?_); (refine WV_gen fun Q_ hQ_ => ?_; simp (disch := first | omega | (simp only [List.length_cons, List.length_nil, List.length_append]; omega)) only [bb, bp, argF, ↓reduceIte, reduceCtorEq, Nat.reduceEqDiff, Nat.reduceLT, Nat.reduceLeDiff, Nat.reduceAdd, Nat.reduceMul, Nat.reduceSub, Nat.reduceBEq, Int.reduceToNat, cond_true, cond_false, eq_self, beq_self_eq_true, g1, g6, g7, hxa, hla, hxb, hlb, hxp, hlp, hxq, hlq, newPtr_X wf, load1_X wf, loadAgg_X wf, store1_X wf, writeCells_X wf, makeFunc_def, tEvsD4, bsl_25, bsl_36, bsl_35, bsl_40, bsl_259, newSlice_X wf]; first | (refine dec_split (Q := Q_) (fun hp_ => ?_) (fun hp_ => ?_) <;> first | (exfalso; omega) | (refine hQ_ _ _ ?_; clear hQ_ Q_)) | (refine dec_splitn (Q := Q_) (fun hp_ => ?_) (fun hp_ => ?_) <;> first | (exfalso; omega) | (refine hQ_ _ _ ?_; clear hQ_ Q_)) | (refine hQ_ _ _ ?_; clear hQ_ Q_)))
  | (refine WC_cond fun K_ hK_ => ?_; simp (disch := omega) only [evT_tmp, upd_apply, WB_some, ↓reduceIte, reduceCtorEq, Nat.reduceEqDiff, Nat.reduceLT]; refine hK_ _ ?_; clear hK_ K_)))
          · (refine endQ_ret _ _ rfl (ret1 (by decide)) ?_; simp only [upd_apply, ↓reduceIte, reduceCtorEq, Nat.reduceEqDiff]; refine WV_flat rfl (by omega) ?_)
            exact ⟨by rw [decide_eq_false]; intro hh; have := hpt.1 (hh i hlt); omega, rfl⟩
          · (refine endQ_ret _ _ rfl (ret1 (by decide)) ?_; simp only [upd_apply, ↓reduceIte, reduceCtorEq, Nat.reduceEqDiff]; refine WV_flat rfl (by omega) ?_)
            exact ⟨by rw [decide_eq_false]; intro hh; have := hpt.1 (hh i hlt); omega, rfl⟩
          · refine roundQ_again (i + 1) (by omega) ⟨hlt, fun j hj => ?_, by simp only [upd_apply, ↓reduceIte, reduceCtorEq, Nat.reduceEqDiff]; exact g1, by simp only [upd_apply, ↓reduceIte, reduceCtorEq, Nat.reduceEqDiff]; exact g6, by simp only [upd_apply, ↓reduceIte, reduceCtorEq, Nat.reduceEqDiff]; rfl, rfl, _, rfl⟩
            by_cases hji : j = i
            · rw [hji]; exact hpt.2 ⟨hp.1, hp.2, fun _ => by omega⟩
            · exact hall j (by omega)
        · refine WC_drawnB [.full, .full, .full, .no, .no, .no, .no, .no, .no, .no, .no, .no, .no, .no, .full, .full, .no, .no, .no, .no, .no, .no, .no, .no, .no, .no, .no, .full, .full, .full] (by kernel_rfl) ?_
          (repeat' (first
  | (with_reducible first | refine WC_seq ?_ | refine WC_skip ?_ | refine WC_label ?_ | refine WC_scope ?_ | refine WC_block ?_ | refine WC_ret ?_ | refine WC_exit ?_ | refine seqQ_norm ?_ | refine seqQ_ret ?_ | refine seqQ_exit ?_ | refine blkQ_norm ?_ | refine blkQ_ret ?_ | refine blkQ_here ?_ | refine gateK_yes ?_ | refine gateK_none ?_ | refine condK_tt ?_ | refine condK_ff ?_ | refine roundQ_exit ?_ | refine roundQ_ret ?_)
  | refine WC_region ?_ | refine blkQ_out rfl ?_ | refine WO_nil ?_ | refine WD_nil ?_
  | ((first | refine WD_gate rfl rfl rfl rfl rfl fun K_ hK_ => ?_ | refine WO_gate rfl rfl rfl rfl rfl fun K_ hK_ => ?_); simp only [upd_apply, asB_bool, asB_tup, ↓reduceIte, reduceCtorEq, Nat.reduceEqDiff, Bool.not_true, Bool.not_false]; refine hK_ _ ?_; clear hK_ K_)
  | refine gateK_no (by decide) ?_
  | ((try first | refine WO_op rfl rfl rfl ?_ | refine WO_op0 rfl rfl ?_ | refine WD_op rfl rfl rfl ?_ | refine WD_op0 rfl rfl ?_); (refine WV_gen fun Q_ hQ_ => ?_; simp (disch := first | omega | (simp only [List.length_cons, List.length_nil, List.length_append]; omega)) only [bb, bp, argF, ↓reduceIte, reduceCtorEq, Nat.reduceEqDiff, Nat.reduceLT, Nat.reduceLeDiff, Nat.reduceAdd, Nat.reduceMul, Nat.reduceSub, Nat.reduceBEq, Int.reduceToNat, cond_true, cond_false, eq_self, beq_self_eq_true, g1, g6, g7, hxa, hla, hxb, hlb, newPtr_X wf, load1_X wf, loadAgg_X wf, store1_X wf, writeCells_X wf, makeFunc_def, tEvsD4, bsl_25, bsl_36, bsl_35, bsl_40, bsl_259, newSlice_X wf]; first | (refine dec_split (Q := Q_) (fun hp_ => ?_) (fun hp_ => ?_) <;> first | (exfalso; omega) | (refine hQ_ _ _ ?_; clear hQ_ Q_)) | (refine dec_splitn (Q := Q_) (fun hp_ => ?_) (fun hp_ => ?_) <;> first | (exfalso; omega) | (refine hQ_ _ _ ?_; clear hQ_ Q_)) | (refine hQ_ _ _ ?_; clear hQ_ Q_)))
  | (refine WC_cond fun K_ hK_ => ?_; simp (disch := omega) only [evT_tmp, upd_apply, WB_some, ↓reduceIte, reduceCtorEq, Nat.reduceEqDiff, Nat.reduceLT]; refine hK_ _ ?_; clear hK_ K_)))
          refine roundQ_again (i + 1) (by omega) ⟨hlt, fun j hj => ?_, by simp only [upd_apply, ↓reduceIte, reduceCtorEq, Nat.reduceEqDiff]; exact g1, by simp only [upd_apply, ↓reduceIte, reduceCtorEq, Nat.reduceEqDiff]; exact g6, by simp only [upd_apply, ↓reduceIte, reduceCtorEq, Nat.reduceEqDiff]; rfl, rfl, _, rfl⟩
          by_cases hji : j = i
          · rw [hji]; exact hpt.2 ⟨hp.1, hp.2, fun h => absurd h hi0⟩
          · exact hall j (by omega)
      · (refine endQ_ret _ _ rfl (ret1 (by decide)) ?_; simp only [upd_apply, ↓reduceIte, reduceCtorEq, Nat.reduceEqDiff]; refine WV_flat rfl (by omega) ?_)
        exact ⟨by rw [decide_eq_false]; intro hh; have := hpt.1 (hh i hlt); omega, rfl⟩
    · have hie : i = re.length := by omega
      subst hie
      (repeat' (first
  | (with_reducible first | refine WC_seq ?_ | refine WC_skip ?_ | refine WC_label ?_ | refine WC_scope ?_ | refine WC_block ?_ | refine WC_ret ?_ | refine WC_exit ?_ | refine seqQ_norm ?_ | refine seqQ_ret ?_ | refine seqQ_exit ?_ | refine blkQ_norm ?_ | refine blkQ_ret ?_ | refine blkQ_here ?_ | refine gateK_yes ?_ | refine gateK_none ?_ | refine condK_tt ?_ | refine condK_ff ?_ | refine roundQ_exit ?_ | refine roundQ_ret ?_)
  | refine WC_region ?_ | refine blkQ_out rfl ?_ | refine WO_nil ?_ | refine WD_nil ?_
  | ((first | refine WD_gate rfl rfl rfl rfl rfl fun K_ hK_ => ?_ | refine WO_gate rfl rfl rfl rfl rfl fun K_ hK_ => ?_); simp only [upd_apply, asB_bool, asB_tup, ↓reduceIte, reduceCtorEq, Nat.reduceEqDiff, Bool.not_true, Bool.not_false]; refine hK_ _ ?_; clear hK_ K_)
  | refine gateK_no (by decide) ?_
  | ((try first | refine WO_op rfl rfl rfl ?_ | refine WO_op0 rfl rfl ?_ | refine WD_op rfl rfl rfl ?_ | refine WD_op0 rfl rfl ?_); (refine WV_gen fun Q_ hQ_ => ?_; simp (disch := first | omega | (simp only [List.length_cons, List.length_nil, List.length_append]; omega)) only [bb, bp, argF, ↓reduceIte, reduceCtorEq, Nat.reduceEqDiff, Nat.reduceLT, Nat.reduceLeDiff, Nat.reduceAdd, Nat.reduceMul, Nat.reduceSub, Nat.reduceBEq, Int.reduceToNat, cond_true, cond_false, eq_self, beq_self_eq_true, g1, g6, g7, newPtr_X wf, load1_X wf, loadAgg_X wf, store1_X wf, writeCells_X wf, makeFunc_def, tEvsD4, bsl_25, bsl_36, bsl_35, bsl_40, bsl_259, newSlice_X wf]; first | (refine dec_split (Q := Q_) (fun hp_ => ?_) (fun hp_ => ?_) <;> first | (exfalso; omega) | (refine hQ_ _ _ ?_; clear hQ_ Q_)) | (refine dec_splitn (Q := Q_) (fun hp_ => ?_) (fun hp_ => ?_) <;> first | (exfalso; omega) | (refine hQ_ _ _ ?_; clear hQ_ Q_)) | (refine hQ_ _ _ ?_; clear hQ_ Q_)))
  | (refine WC_cond fun K_ hK_ => ?_; simp (disch := omega) only [evT_tmp, upd_apply, WB_some, ↓reduceIte, reduceCtorEq, Nat.reduceEqDiff, Nat.reduceLT]; refine hK_ _ ?_; clear hK_ K_)))
      (refine endQ_ret _ _ rfl (ret1 (by decide)) ?_; simp only [upd_apply, ↓reduceIte, reduceCtorEq, Nat.reduceEqDiff]; refine WV_flat rfl (by omega) ?_)
      exact ⟨by rw [decide_eq_true hall], rfl⟩
  · exact ⟨Nat.zero_le _, fun j hj => absurd hj (Nat.not_lt_zero j), by simp only [upd_apply, ↓reduceIte, reduceCtorEq, Nat.reduceEqDiff], by simp only [upd_apply, ↓reduceIte, reduceCtorEq, Nat.reduceEqDiff], by simp only [upd_apply, ↓reduceIte, reduceCtorEq, Nat.reduceEqDiff]; rfl, rfl, [], rfl⟩

theorem CheckLine (a b : AV) (re cf : List Int) (h : H) (x : LineR h a b re cf) : (om Tryz.prog KK).call (.fn 31 [.agg [a, b]]) h = .ok (ii (lineErr re cf)) h := by
  have wf := x.wf
  obtain ⟨⟨fa, fa'⟩, ⟨fb, fb'⟩⟩ := x.flats
  have ha : ∀ h', lenE Tryz.prog 25 a h' = some (ii (re.length : Int)) := fun h' => x.re.len un_25
  have hb : ∀ h', lenE Tryz.prog 25 b h' = some (ii (cf.length : Int)) := fun h' => x.cf.len un_25
  refine WV_to (WV_call (fn := Tryz.f31) Tryz.func31 rfl rfl rfl rfl rfl ?_)
  simp only [argF]
  (repeat' (first
  | (with_reducible first | refine WC_seq ?_ | refine WC_skip ?_ | refine WC_label ?_ | refine WC_scope ?_ | refine WC_block ?_ | refine WC_ret ?_ | refine WC_exit ?_ | refine seqQ_norm ?_ | refine seqQ_ret ?_ | refine seqQ_exit ?_ | refine blkQ_norm ?_ | refine blkQ_ret ?_ | refine blkQ_here ?_ | refine gateK_yes ?_ | refine gateK_none ?_ | refine condK_tt ?_ | refine condK_ff ?_ | refine roundQ_exit ?_ | refine roundQ_ret ?_)
  | refine WC_region ?_ | refine blkQ_out rfl ?_ | refine WO_nil ?_ | refine WD_nil ?_
  | ((first | refine WD_gate rfl rfl rfl rfl rfl fun K_ hK_ => ?_ | refine WO_gate rfl rfl rfl rfl rfl fun K_ hK_ => ?_); simp only [upd_apply, asB_bool, asB_tup, ↓reduceIte, reduceCtorEq, Nat.reduceEqDiff, Bool.not_true, Bool.not_false]; refine hK_ _ ?_; clear hK_ K_)
  | refine gateK_no (by decide) ?_
  | ((try first | refine WO_op rfl rfl rfl ?_ | refine WO_op0 rfl rfl ?_ | refine WD_op rfl rfl rfl ?_ | refine WD_op0 rfl rfl ?_); (refine WV_gen fun Q_ hQ_ => ?_; simp (disch := first | omega | (simp only [List.length_cons, List.length_nil, List.length_append]; omega)) only [bb, bp, argF, ↓reduceIte, reduceCtorEq, Nat.reduceEqDiff, Nat.reduceLT, Nat.reduceLeDiff, Nat.reduceAdd, Nat.reduceMul, Nat.reduceSub, Nat.reduceBEq, Int.reduceToNat, cond_true, cond_false, eq_self, beq_self_eq_true, ha, hb, fa, fb, fa', fb', newPtr_X wf, load1_X wf, loadAgg_X wf, store1_X wf, writeCells_X wf, makeFunc_def, tEvsD4, bsl_25, bsl_36, bsl_35, bsl_40, bsl_259, newSlice_X wf]; first | (refine dec_split (Q := Q_) (fun hp_ => ?_) (fun hp_ => ?_) <;> first | (exfalso; omega) | (refine hQ_ _ _ ?_; clear hQ_ Q_)) | (refine dec_splitn (Q := Q_) (fun hp_ => ?_) (fun hp_ => ?_) <;> first | (exfalso; omega) | (refine hQ_ _ _ ?_; clear hQ_ Q_)) | (refine hQ_ _ _ ?_; clear hQ_ Q_) | (refine WV_eq (arePoints a b re cf _ (x.up _ _ (by simp only [List.length_append, List.length_cons, List.length_nil]; omega)) (by omega) (by omega)) ?_; refine hQ_ _ _ ?_; clear hQ_ Q_)))
  | (refine WC_cond fun K_ hK_ => ?_; simp (disch := omega) only [evT_tmp, upd_apply, WB_some, ↓reduceIte, reduceCtorEq, Nat.reduceEqDiff, Nat.reduceLT]; refine hK_ _ ?_; clear hK_ K_)))
  all_goals (refine endQ_ret _ _ rfl (ret1 (by decide)) ?_; simp only [upd_apply, ↓reduceIte, reduceCtorEq, Nat.reduceEqDiff]; refine WV_flat rfl (by omega) ?_)
  all_goals refine ⟨congrArg ii ?_, rfl⟩
  all_goals (unfold lineErr; repeat' split)
  all_goals first | rfl | (exfalso; omega) | contradiction

theorem refCheckLine (a b : AV) (re cf : List Int) (h : H) (x : LineR h a b re cf) : (om Tryz.prog KK).call (.fn 7 [.agg [a, b]]) h = .ok (ii (lineErr re cf)) h := by
  have wf := x.wf
  obtain ⟨⟨fa, fa'⟩, ⟨fb, fb'⟩⟩ := x.flats
  have ha : ∀ h', lenE Tryz.prog 25 a h' = some (ii (re.length : Int)) := fun h' => x.re.len un_25
  have hb : ∀ h', lenE Tryz.prog 25 b h' = some (ii (cf.length : Int)) := fun h' => x.cf.len un_25
  refine WV_to (WV_call (fn := Tryz.f7) Tryz.func7 rfl rfl rfl rfl rfl ?_)
  simp only [argF]
  (repeat' (first
  | (with_reducible first | refine WC_seq ?_ | refine WC_skip ?_ | refine WC_label ?_ | refine WC_scope ?_ | refine WC_block ?_ | refine WC_ret ?_ | refine WC_exit ?_ | refine seqQ_norm ?_ | refine seqQ_ret ?_ | refine seqQ_exit ?_ | refine blkQ_norm ?_ | refine blkQ_ret ?_ | refine blkQ_here ?_ | refine gateK_yes ?_ | refine gateK_none ?_ | refine condK_tt ?_ | refine condK_ff ?_ | refine roundQ_exit ?_ | refine roundQ_ret ?_)
  | refine WC_region ?_ | refine blkQ_out rfl ?_ | refine WO_nil ?_ | refine WD_nil ?_
  | ((first | refine WD_gate rfl rfl rfl rfl rfl fun K_ hK_ => ?_ | refine WO_gate rfl rfl rfl rfl rfl fun K_ hK_ => ?_); simp only [upd_apply, asB_bool, asB_tup, ↓reduceIte, reduceCtorEq, Nat.reduceEqDiff, Bool.not_true, Bool.not_false]; refine hK_ _ ?_; clear hK_ K_)
  | refine gateK_no (by decide) ?_
  | ((try first | refine WO_op rfl rfl rfl ?_ | refine WO_op0 rfl rfl ?_ | refine WD_op rfl rfl rfl ?_ | refine WD_op0 rfl rfl ?_); (refine WV_gen fun Q_ hQ_ => ?_; simp (disch := first | omega | (simp only [List.length_cons, List.length_nil, List.length_append]; omega)) only [bb, bp, argF, ↓reduceIte, reduceCtorEq, Nat.reduceEqDiff, Nat.reduceLT, Nat.reduceLeDiff, Nat.reduceAdd, Nat.reduceMul, Nat.reduceSub, Nat.reduceBEq, Int.reduceToNat, cond_true, cond_false, eq_self, beq_self_eq_true, ha, hb, fa, fb, fa', fb', newPtr_X wf, load1_X wf, loadAgg_X wf, store1_X wf, writeCells_X wf, makeFunc_def, tEvsD4, bsl_25, bsl_36, bsl_35, bsl_40, bsl_259, newSlice_X wf]; first | (refine dec_split (Q := Q_) (fun hp_ => ?_) (fun hp_ => ?_) <;> first | (exfalso; omega) | (refine hQ_ _ _ ?_; clear hQ_ Q_)) | (refine dec_splitn (Q := Q_) (fun hp_ => ?_) (fun hp_ => ?_) <;> first | (exfalso; omega) | (refine hQ_ _ _ ?_; clear hQ_ Q_)) | (refine hQ_ _ _ ?_; clear hQ_ Q_)))
  | (refine WC_cond fun K_ hK_ => ?_; simp (disch := omega) only [evT_tmp, upd_apply, WB_some, ↓reduceIte, reduceCtorEq, Nat.reduceEqDiff, Nat.reduceLT]; refine hK_ _ ?_; clear hK_ K_)))
  · (refine endQ_ret _ _ rfl (ret1 (by decide)) ?_; simp only [upd_apply, ↓reduceIte, reduceCtorEq, Nat.reduceEqDiff]; refine WV_flat rfl (by omega) ?_)
    refine ⟨congrArg ii ?_, rfl⟩
    unfold lineErr
    rw [if_pos (by omega)]
  · (refine endQ_ret _ _ rfl (ret1 (by decide)) ?_; simp only [upd_apply, ↓reduceIte, reduceCtorEq, Nat.reduceEqDiff]; refine WV_flat rfl (by omega) ?_)
    refine ⟨congrArg ii ?_, rfl⟩
    unfold lineErr
    rw [if_pos (by omega)]
  · refine WC_loop (fun (i : Nat) f d h' => i ≤ re.length ∧ (∀ j, j < i → ptOk re cf j) ∧ f 1 = .ptr (nx h 0) 0 ∧ f 3 = ii (i : Int) ∧ d = [] ∧
      h' = X h [.cells (mkCells [a, b]) 27] h.clock) (fun i => re.length - i) ?_ (re.length + 1) 0 (by omega) ?_
    · rintro i f d h' ⟨hi, hall, g1, g3, rfl, rfl⟩
      by_cases hlt : i < re.length
      · obtain ⟨ia, oa, hxa, hla⟩ := ints_at wf x.re hlt
        obtain ⟨ib, ob, hxb, hlb⟩ := ints_at wf x.cf (i := i) (by omega)
        have hpt : ptOk re cf i ↔ ((1 ≤ re.getD i 0 ∧ re.getD i 0 ≤ 1000000000) ∧ (0 ≤ cf.getD i 0 ∧ cf.getD i 0 ≤ 100000) ∧ (0 < i → re.getD (i - 1) 0 < re.getD i 0 ∧ cf.getD i 0 ≤ cf.getD (i - 1) 0)) := Iff.rfl
        generalize hri : re.getD i 0 = r at *
        generalize hci : cf.getD i 0 = c at *
        have c1 : ∀ n u v l w, w ≤ h.clock + l.length → (om Tryz.prog KK).call (.fn 30 [ii n, ii u, ii v]) (X h l w) = .ok (.bool (decide (u ≤ n ∧ n ≤ v))) (X h l w) := fun n u v l w hw => between n u v _ (wf.X hw)
        by_cases hi0 : 0 < i
        · obtain ⟨ip, op, hxp, hlp⟩ := ints_at wf x.re (i := i - 1) (by omega)
          obtain ⟨iq, oq, hxq, hlq⟩ := ints_at wf x.cf (i := i - 1) (by omega)
          rw [show ((i - 1 : Nat) : Int) = (i : Int) - 1 from by omega] at hxp hxq
          generalize hrp : re.getD (i - 1) 0 = rp at *
          generalize hcp : cf.getD (i - 1) 0 = cp at *
          (repeat' (first
  | (with_reducible first | refine WC_seq ?_ | refine WC_skip ?_ | refine WC_label ?_ | refine WC_scope ?_ | refine WC_block ?_ | refine WC_ret ?_ | refine WC_exit ?_ | refine seqQ_norm ?_ | refine seqQ_ret ?_ | refine seqQ_exit ?_ | refine blkQ_norm ?_ | refine blkQ_ret ?_ | refine blkQ_here ?_ | refine gateK_yes ?_ | refine gateK_none ?_ | refine condK_tt ?_ | refine condK_ff ?_ | refine roundQ_exit ?_ | refine roundQ_ret ?_)
  | refine WC_region ?_ | refine blkQ_out rfl ?_ | refine WO_nil ?_ | refine WD_nil ?_
  | ((first | refine WD_gate rfl rfl rfl rfl rfl fun K_ hK_ => ?_ | refine WO_gate rfl rfl rfl rfl rfl fun K_ hK_ => ?_); simp only [upd_apply, asB_bool, asB_tup, ↓reduceIte, reduceCtorEq, Nat.reduceEqDiff, Bool.not_true, Bool.not_false]; refine hK_ _ ?_; clear hK_ K_)
  | refine gateK_no (by decide) ?_
  | ((try first | refine WO_op rfl rfl rfl ?_ | refine WO_op0 rfl rfl ?_ | refine WD_op rfl rfl rfl ?_ | refine WD_op0 rfl rfl ?_); (refine WV_gen fun Q_ hQ_ => ?_; simp (disch := first | omega | (simp only [List.length_cons, List.length_nil, List.length_append]; omega)) only [bb, bp, argF, ↓reduceIte, reduceCtorEq, Nat.reduceEqDiff, Nat.reduceLT, Nat.reduceLeDiff, Nat.reduceAdd, Nat.reduceMul, Nat.reduceSub, Nat.reduceBEq, Int.reduceToNat, cond_true, cond_false, eq_self, beq_self_eq_true, g1, g3, ha, newPtr_X wf, load1_X wf, loadAgg_X wf, store1_X wf, writeCells_X wf, makeFunc_def, tEvsD4, bsl_25, bsl_36, bsl_35, bsl_40, bsl_259, newSlice_X wf]; first | (refine dec_split (Q := Q_) (fun hp_ => ?_) (fun hp_ => ?_) <;> first | (exfalso; omega) | (refine hQ_ _ _ ?_; clear hQ_ Q_)) | (refine dec_splitn (Q := Q_) (fun hp_ => ?_) (fun hp_ => ?_) <;> first | (exfalso; omega) | (refine hQ_ _ _ ?_; clear hQ_ Q_)) | (refine hQ_ _ _ ?_; clear hQ_ Q_)))
  | (refine WC_cond fun K_ hK_ => ?_; simp (disch := omega) only [evT_tmp, upd_apply, WB_some, ↓reduceIte, reduceCtorEq, Nat.reduceEqDiff, Nat.reduceLT]; refine hK_ _ ?_; clear hK_ K_)))
          refine WC_drawnB [.full, .full, .no, .full, .full, .full, .full, .full, .full, .full, .no, .full, .full, .full, .full, .full, .full, .full, .full, .full, .no, .no, .no, .no, .no, .no, .no, .no, .no, .no, .no, .full, .full, .no, .no, .no, .no, .no, .no, .no, .no, .no, .no, .no, .full, .full, .full, .full] (by kernel_rfl) ?_
          (repeat' (first
  | (with_reducible first | refine WC_seq ?_ | refine WC_skip ?_ | refine WC_label ?_ | refine WC_scope ?_ | refine WC_block ?_ | refine WC_ret ?_ | refine WC_exit ?_ | refine seqQ_norm ?_ | refine seqQ_ret ?_ | refine seqQ_exit ?_ | refine blkQ_norm ?_ | refine blkQ_ret ?_ | refine blkQ_here ?_ | refine gateK_yes ?_ | refine gateK_none ?_ | refine condK_tt ?_ | refine condK_ff ?_ | refine roundQ_exit ?_ | refine roundQ_ret ?_)
  | refine WC_region ?_ | refine blkQ_out rfl ?_ | refine WO_nil ?_ | refine WD_nil ?_
  | ((first | refine WD_gate rfl rfl rfl rfl rfl fun K_ hK_ => ?_ | refine WO_gate rfl rfl rfl rfl rfl fun K_ hK_ => ?_); simp only [upd_apply, asB_bool, asB_tup, ↓reduceIte, reduceCtorEq, Nat.reduceEqDiff, Bool.not_true, Bool.not_false]; refine hK_ _ ?_; clear hK_ K_)
  | refine gateK_no (by decide) ?_
  | ((try first | refine WO_op rfl rfl rfl ?_ | refine WO_op0 rfl rfl ?_ | refine WD_op rfl rfl rfl ?_ | refine WD_op0 rfl rfl ?_); (refine WV_gen fun Q_ hQ_ => ?_; simp (disch := first | omega | (simp only [List.length_cons, List.length_nil, List.length_append]; omega)) only [bb, bp, argF, ↓reduceIte, reduceCtorEq, Nat.reduceEqDiff, Nat.reduceLT, Nat.reduceLeDiff, Nat.reduceAdd, Nat.reduceMul, Nat.reduceSub, Nat.reduceBEq, Int.reduceToNat, cond_true, cond_false, eq_self, beq_self_eq_true, g1, g3, hxa, hla, hxb, hlb, hxp, hlp, hxq, hlq, c1, newPtr_X wf, load1_X wf, loadAgg_X wf, store1_X wf, writeCells_X wf, makeFunc_def, tEvsD4, bsl_25, bsl_36, bsl_35, bsl_40, bsl_259, newSlice_X wf]; first | (refine dec_split (Q := Q_) (fun hp_ => ?_) (fun hp_ => ?_) <;> first | (exfalso; omega) | (refine hQ_ _ _ ?_; clear hQ_ Q_)) | (refine dec_splitn (Q := Q_) (fun hp_ => ?_) (fun hp_ => ?_) <;> first | (exfalso; omega) | (refine hQ_ _ _ ?_; clear hQ_ Q_)) | (refine hQ_ _ _ ?_; clear hQ_ Q_)))
  | (refine WC_cond fun K_ hK_ => ?_; simp (disch := omega) only [evT_tmp, upd_apply, WB_some, ↓reduceIte, reduceCtorEq, Nat.reduceEqDiff, Nat.reduceLT]; refine hK_ _ ?_; clear hK_ K_)))
          all_goals first
            | (refine roundQ_again (i + 1) (by omega) ⟨hlt, fun j hj => ?_, by simp only [upd_apply, ↓reduceIte, reduceCtorEq, Nat.reduceEqDiff]; exact g1, by simp only [upd_apply, ↓reduceIte, reduceCtorEq, Nat.reduceEqDiff]; rfl, rfl, rfl⟩
               by_cases hji : j = i
               · rw [hji]; exact hpt.2 (by omega)
               · exact hall j (by omega))
            | ((refine endQ_ret _ _ rfl (ret1 (by decide)) ?_; simp only [upd_apply, ↓reduceIte, reduceCtorEq, Nat.reduceEqDiff]; refine WV_flat rfl (by omega) ?_)
               refine ⟨congrArg ii ?_, rfl⟩
               unfold lineErr
               rw [if_neg (by omega), if_neg (by omega), if_neg (fun hh => by have := hpt.1 (hh i hlt); omega)])
        · (repeat' (first
  | (with_reducible first | refine WC_seq ?_ | refine WC_skip ?_ | refine WC_label ?_ | refine WC_scope ?_ | refine WC_block ?_ | refine WC_ret ?_ | refine WC_exit ?_ | refine seqQ_norm ?_ | refine seqQ_ret ?_ | refine seqQ_exit ?_ | refine blkQ_norm ?_ | refine blkQ_ret ?_ | refine blkQ_here ?_ | refine gateK_yes ?_ | refine gateK_none ?_ | refine condK_tt ?_ | refine condK_ff ?_ | refine roundQ_exit ?_ | refine roundQ_ret ?_)
  | refine WC_region ?_ | refine blkQ_out rfl ?_ | refine WO_nil ?_ | refine WD_nil ?_
  | ((first | refine WD_gate rfl rfl rfl rfl rfl fun K_ hK_ => ?_ | refine WO_gate rfl rfl rfl rfl rfl fun K_ hK_ => ?_); simp only [upd_apply, asB_bool, asB_tup, ↓reduceIte, reduceCtorEq, Nat.reduceEqDiff, Bool.not_true, Bool.not_false]; refine hK_ _ ?_; clear hK_ K_)
  | refine gateK_no (by decide) ?_
  | ((try first | refine WO_op rfl rfl rfl ?_ | refine WO_op0 rfl rfl ?_ | refine WD_op rfl rfl rfl ?_ | refine WD_op0 rfl rfl ?_); (refine WV_gen fun Q_ hQ_ => ?_; simp (disch := first | omega | (simp only [List.length_cons, List.length_nil, List.length_append]; omega)) only [bb, bp, argF, ↓reduceIte, reduceCtorEq, Nat.reduceEqDiff, Nat.reduceLT, Nat.reduceLeDiff, Nat.reduceAdd, Nat.reduceMul, Nat.reduceSub, Nat.reduceBEq, Int.reduceToNat, cond_true, cond_false, eq_self, beq_self_eq_true, g1, g3, ha, newPtr_X wf, load1_X wf, loadAgg_X wf, store1_X wf, writeCells_X wf, makeFunc_def, tEvsD4, bsl_25, bsl_36, bsl_35, bsl_40, bsl_259, newSlice_X wf]; first | (refine dec_split (Q := Q_) (fun hp_ => ?_) (fun hp_ => ?_) <;> first | (exfalso; omega) | (refine hQ_ _ _ ?_; clear hQ_ Q_)) | (refine dec_splitn (Q := Q_) (fun hp_ => ?_) (fun hp_ => ?_) <;> first | (exfalso; omega) | (refine hQ_ _ _ ?_; clear hQ_ Q_)) | (refine hQ_ _ _ ?_; clear hQ_ Q_)))
  | (refine WC_cond fun K_ hK_ => ?_; simp (disch := omega) only [evT_tmp, upd_apply, WB_some, ↓reduceIte, reduceCtorEq, Nat.reduceEqDiff, Nat.reduceLT]; refine hK_ _ ?_; clear hK_ K_)))
          refine WC_drawnB [.full, .full, .no, .full, .full, .full, .full, .full, .full, .full, .no, .full, .full, .full, .full, .full, .full, .full, .full, .full, .no, .no, .no, .no, .no, .no, .no, .no, .no, .no, .no, .full, .full, .no, .no, .no, .no, .no, .no, .no, .no, .no, .no, .no, .full, .full, .full, .full] (by kernel_rfl) ?_
          (repeat' (first
  | (with_reducible first | refine WC_seq ?_ | refine WC_skip ?_ | refine WC_label ?_ | refine WC_scope ?_ | refine WC_block ?_ | refine WC_ret ?_ | refine WC_exit ?_ | refine seqQ_norm ?_ | refine seqQ_ret ?_ | refine seqQ_exit ?_ | refine blkQ_norm ?_ | refine blkQ_ret ?_ | refine blkQ_here ?_ | refine gateK_yes ?_ | refine gateK_none ?_ | refine condK_tt ?_ | refine condK_ff ?_ | refine roundQ_exit ?_ | refine roundQ_ret ?_)
  | refine WC_region ?_ | refine blkQ_out rfl ?_ | refine WO_nil ?_ | refine WD_nil ?_
  | ((first | refine WD_gate rfl rfl rfl rfl rfl fun K_ hK_ => ?_ | refine WO_gate rfl rfl rfl rfl rfl fun K_ hK_ => ?_); simp only [upd_apply, asB_bool, asB_tup, ↓reduceIte, reduceCtorEq, Nat.reduceEqDiff, Bool.not_true, Bool.not_false]; refine hK_ _ ?_; clear hK_ K_)
  | refine gateK_no (by decide) ?_
  | ((try first | refine WO_op rfl rfl rfl ?_ | refine WO_op0 rfl rfl ?_ | refine WD_op rfl rfl rfl ?_ | refine WD_op0 rfl rfl ?_); (refine WV_gen fun Q_ hQ_ => ?_; simp (disch := first | omega | (simp only [List.length_cons, List.length_nil, List.length_append]; omega)) only [bb, bp, argF, ↓reduceIte, reduceCtorEq, Nat.reduceEqDiff, Nat.reduceLT, Nat.reduceLeDiff, Nat.reduceAdd, Nat.reduceMul, Nat.reduceSub, Nat.reduceBEq, Int.reduceToNat, cond_true, cond_false, eq_self, beq_self_eq_true, g1, g3, hxa, hla, hxb, hlb, c1, newPtr_X wf, load1_X wf, loadAgg_X wf, store1_X wf, writeCells_X wf, makeFunc_def, tEvsD4, bsl_25, bsl_36, bsl_35, bsl_40, bsl_259, newSlice_X wf]; first | (refine dec_split (Q := Q_) (fun hp_ => ?_) (fun hp_ => ?_) <;> first | (exfalso; omega) | (refine hQ_ _ _ ?_; clear hQ_ Q_)) | (refine dec_splitn (Q := Q_) (fun hp_ => ?_) (fun hp_ => ?_) <;> first | (exfalso; omega) | (refine hQ_ _ _ ?_; clear hQ_ Q_)) | (refine hQ_ _ _ ?_; clear hQ_ Q_)))
  | (refine WC_cond fun K_ hK_ => ?_; simp (disch := omega) only [evT_tmp, upd_apply, WB_some, ↓reduceIte, reduceCtorEq, Nat.reduceEqDiff, Nat.reduceLT]; refine hK_ _ ?_; clear hK_ K_)))
          all_goals first
            | (refine roundQ_again (i + 1) (by omega) ⟨hlt, fun j hj => ?_, by simp only [upd_apply, ↓reduceIte, reduceCtorEq, Nat.reduceEqDiff]; exact g1, by simp only [upd_apply, ↓reduceIte, reduceCtorEq, Nat.reduceEqDiff]; rfl, rfl, rfl⟩
               by_cases hji : j = i
               · rw [hji]; exact hpt.2 (by omega)
               · exact hall j (by omega))
            | ((refine endQ_ret _ _ rfl (ret1 (by decide)) ?_; simp only [upd_apply, ↓reduceIte, reduceCtorEq, Nat.reduceEqDiff]; refine WV_flat rfl (by omega) ?_)
               refine ⟨congrArg ii ?_, rfl⟩
               unfold lineErr
               rw [if_neg (by omega), if_neg (by omega), if_neg (fun hh => by have := hpt.1 (hh i hlt); omega)])
      · have hie : i = re.length := by omega
        subst hie
        (repeat' (first
  | (with_reducible first | refine WC_seq ?_ | refine WC_skip ?_ | refine WC_label ?_ | refine WC_scope ?_ | refine WC_block ?_ | refine WC_ret ?_ | refine WC_exit ?_ | refine seqQ_norm ?_ | refine seqQ_ret ?_ | refine seqQ_exit ?_ | refine blkQ_norm ?_ | refine blkQ_ret ?_ | refine blkQ_here ?_ | refine gateK_yes ?_ | refine gateK_none ?_ | refine condK_tt ?_ | refine condK_ff ?_ | refine roundQ_exit ?_ | refine roundQ_ret ?_)
  | refine WC_region ?_ | refine blkQ_out rfl ?_ | refine WO_nil ?_ | refine WD_nil ?_
  | ((first | refine WD_gate rfl rfl rfl rfl rfl fun K_ hK_ => ?_ | refine WO_gate rfl rfl rfl rfl rfl fun K_ hK_ => ?_); simp only [upd_apply, asB_bool, asB_tup, ↓reduceIte, reduceCtorEq, Nat.reduceEqDiff, Bool.not_true, Bool.not_false]; refine hK_ _ ?_; clear hK_ K_)
  | refine gateK_no (by decide) ?_
  | ((try first | refine WO_op rfl rfl rfl ?_ | refine WO_op0 rfl rfl ?_ | refine WD_op rfl rfl rfl ?_ | refine WD_op0 rfl rfl ?_); (refine WV_gen fun Q_ hQ_ => ?_; simp (disch := first | omega | (simp only [List.length_cons, List.length_nil, List.length_append]; omega)) only [bb, bp, argF, ↓reduceIte, reduceCtorEq, Nat.reduceEqDiff, Nat.reduceLT, Nat.reduceLeDiff, Nat.reduceAdd, Nat.reduceMul, Nat.reduceSub, Nat.reduceBEq, Int.reduceToNat, cond_true, cond_false, eq_self, beq_self_eq_true, g1, g3, ha, newPtr_X wf, load1_X wf, loadAgg_X wf, store1_X wf, writeCells_X wf, makeFunc_def, tEvsD4, bsl_25, bsl_36, bsl_35, bsl_40, bsl_259, newSlice_X wf]; first | (refine dec_split (Q := Q_) (fun hp_ => ?_) (fun hp_ => ?_) <;> first | (exfalso; omega) | (refine hQ_ _ _ ?_; clear hQ_ Q_)) | (refine dec_splitn (Q := Q_) (fun hp_ => ?_) (fun hp_ => ?_) <;> first | (exfalso; omega) | (refine hQ_ _ _ ?_; clear hQ_ Q_)) | (refine hQ_ _ _ ?_; clear hQ_ Q_)))
  | (refine WC_cond fun K_ hK_ => ?_; simp (disch := omega) only [evT_tmp, upd_apply, WB_some, ↓reduceIte, reduceCtorEq, Nat.reduceEqDiff, Nat.reduceLT]; refine hK_ _ ?_; clear hK_ K_)))
        (refine endQ_ret _ _ rfl (ret1 (by decide)) ?_; simp only [upd_apply, ↓reduceIte, reduceCtorEq, Nat.reduceEqDiff]; refine WV_flat rfl (by omega) ?_)
        refine ⟨congrArg ii ?_, rfl⟩
        unfold lineErr
        rw [if_neg (by omega), if_neg (by omega), if_pos hall]
    · exact ⟨Nat.zero_le _, fun j hj => absurd hj (Nat.not_lt_zero j), by simp only [upd_apply, ↓reduceIte, reduceCtorEq, Nat.reduceEqDiff], by simp only [upd_apply, ↓reduceIte, reduceCtorEq, Nat.reduceEqDiff]; rfl, rfl, rfl⟩
  · (refine endQ_ret _ _ rfl (ret1 (by decide)) ?_; simp only [upd_apply, ↓reduceIte, reduceCtorEq, Nat.reduceEqDiff]; refine WV_flat rfl (by omega) ?_)
    refine ⟨congrArg ii ?_, rfl⟩
    unfold lineErr
    rw [if_neg (by omega), if_pos (by omega)]
end Go.Proofs.YtdaecfjljelneaaGreatDoor
end

/- EvsD5 -/
section
/-
  LAYER 4: the friction of a line.
-/
namespace Go.Proofs.YtdaecfjljelneaaGreatDoor
open Go.Ev
set_option maxRecDepth 100000
set_option linter.unusedSimpArgs false
set_option linter.unusedVariables false
set_option maxHeartbeats 2000000
theorem tEvsD5 : type_of% (And.intro (And.intro (And.intro (And.intro (And.intro (And.intro (And.intro (@bs_27) (@bs_44)) (And.intro (@bs_46) (And.intro (@bs_53) (@bs_82)))) (And.intro (And.intro (@bs_92) (@bs_179)) (And.intro (@bs_250) (And.intro (@bs_254) (@ia_2))))) (And.intro (And.intro (And.intro (@sz_2) (@ia_3)) (And.intro (@sz_3) (And.intro (@ia_4) (@sz_4)))) (And.intro (And.intro (@ia_25) (@sz_25)) (And.intro (@ia_27) (And.intro (@sz_27) (@ia_28)))))) (And.intro (And.intro (And.intro (And.intro (@sz_28) (@ia_44)) (And.intro (@sz_44) (And.intro (@ia_46) (@sz_46)))) (And.intro (And.intro (@ia_53) (@sz_53)) (And.intro (@ia_36) (And.intro (@sz_36) (@ia_35))))) (And.intro (And.intro (And.intro (@sz_35) (@ia_37)) (And.intro (@sz_37) (And.intro (@ia_38) (@sz_38)))) (And.intro (And.intro (@ia_82) (@sz_82)) (And.intro (@ia_84) (And.intro (@sz_84) (@ia_118))))))) (And.intro (And.intro (And.intro (And.intro (And.intro (@sz_118) (@ia_90)) (And.intro (@sz_90) (And.intro (@ia_92) (@sz_92)))) (And.intro (And.intro (@ia_85) (@sz_85)) (And.intro (@ia_179) (And.intro (@sz_179) (@ia_93))))) (And.intro (And.intro (And.intro (@sz_93) (@ia_40)) (And.intro (@sz_40) (And.intro (@ia_250) (@sz_250)))) (And.intro (And.intro (@ia_253) (@sz_253)) (And.intro (@ia_259) (And.intro (@sz_259) (@ia_261)))))) (And.intro (And.intro (And.intro (And.intro (@sz_261) (@ia_256)) (And.intro (@sz_256) (And.intro (@ia_257) (@sz_257)))) (And.intro (And.intro (@ia_254) (@sz_254)) (And.intro (@ia_278) (And.intro (@sz_278) (@ze_2))))) (And.intro (And.intro (And.intro (@ze_3) (@ze_4)) (And.intro (@ze_27) (And.intro (@ze_28) (@ze_44)))) (And.intro (And.intro (@ze_46) (@ze_53)) (And.intro (@ze_82) (And.intro (@ze_92) (@ze_179)))))))) (And.intro (And.intro (And.intro (And.intro (And.intro (And.intro (@ze_250) (@ze_254)) (And.intro (@fo_27_0) (And.intro (@fo_27_1) (@fo_44_0)))) (And.intro (And.intro (@fo_44_1) (@fo_46_0)) (And.intro (@fo_46_1) (And.intro (@fo_46_2) (@fo_46_3))))) (And.intro (And.intro (And.intro (@fo_46_4) (@fo_46_5)) (And.intro (@fo_46_6) (And.intro (@fo_46_7) (@fo_46_8)))) (And.intro (And.intro (@fo_46_9) (@fo_53_0)) (And.intro (@fo_53_1) (And.intro (@fo_53_2) (@fo_53_3)))))) (And.intro (And.intro (And.intro (And.intro (@fo_53_4) (@fo_53_5)) (And.intro (@fo_82_0) (And.intro (@fo_92_0) (@fo_92_1)))) (And.intro (And.intro (@fo_179_0) (@fo_179_1)) (And.intro (@fo_179_2) (And.intro (@fo_250_0) (@fo_250_1))))) (And.intro (And.intro (And.intro (@pb_29) (@pb_8)) (And.intro (@pb_31) (And.intro (@pb_7) (@pb_19)))) (And.intro (And.intro (@pb_38) (@pb_14)) (And.intro (@pb_42) (And.intro (@pb_11) (@pb_13))))))) (And.intro (And.intro (And.intro (And.intro (And.intro (@pb_95) (@pb_15)) (And.intro (@pb_92) (And.intro (@pb_93) (@pb_94)))) (And.intro (And.intro (@pb_32) (@pb_33)) (And.intro (@pb_96) (And.intro (@pb_30) (@pb_57))))) (And.intro (And.intro (And.intro (@pb_100) (@pb_43)) (And.intro (@pb_44) (And.intro (@pb_45) (@pb_46)))) (And.intro (And.intro (@pb_105) (@pb_106)) (And.intro (@pb_37) (And.intro (@pb_40) (@pb_41)))))) (And.intro (And.intro (And.intro (And.intro (@pb_36) (@pb_12)) (And.intro (@pb_101) (And.intro (@pb_158) (@pb_159)))) (And.intro (And.intro (@pb_160) (@pb_161)) (And.intro (@pb_47) (And.intro (@pb_97) (@pb_107))))) (And.intro (And.intro (And.intro (@pb_108) (@pb_165)) (And.intro (@pb_102) (And.intro (@pb_103) (@pb_104)))) (And.intro (And.intro (@pb_39) (And.intro (@pb_164) (@pb_192))) (And.intro (@pb_163) (And.intro (@pb_190) (@pb_191))))))))) := And.intro (And.intro (And.intro (And.intro (And.intro (And.intro (And.intro (@bs_27) (@bs_44)) (And.intro (@bs_46) (And.intro (@bs_53) (@bs_82)))) (And.intro (And.intro (@bs_92) (@bs_179)) (And.intro (@bs_250) (And.intro (@bs_254) (@ia_2))))) (And.intro (And.intro (And.intro (@sz_2) (@ia_3)) (And.intro (@sz_3) (And.intro (@ia_4) (@sz_4)))) (And.intro (And.intro (@ia_25) (@sz_25)) (And.intro (@ia_27) (And.intro (@sz_27) (@ia_28)))))) (And.intro (And.intro (And.intro (And.intro (@sz_28) (@ia_44)) (And.intro (@sz_44) (And.intro (@ia_46) (@sz_46)))) (And.intro (And.intro (@ia_53) (@sz_53)) (And.intro (@ia_36) (And.intro (@sz_36) (@ia_35))))) (And.intro (And.intro (And.intro (@sz_35) (@ia_37)) (And.intro (@sz_37) (And.intro (@ia_38) (@sz_38)))) (And.intro (And.intro (@ia_82) (@sz_82)) (And.intro (@ia_84) (And.intro (@sz_84) (@ia_118))))))) (And.intro (And.intro (And.intro (And.intro (And.intro (@sz_118) (@ia_90)) (And.intro (@sz_90) (And.intro (@ia_92) (@sz_92)))) (And.intro (And.intro (@ia_85) (@sz_85)) (And.intro (@ia_179) (And.intro (@sz_179) (@ia_93))))) (And.intro (And.intro (And.intro (@sz_93) (@ia_40)) (And.intro (@sz_40) (And.intro (@ia_250) (@sz_250)))) (And.intro (And.intro (@ia_253) (@sz_253)) (And.intro (@ia_259) (And.intro (@sz_259) (@ia_261)))))) (And.intro (And.intro (And.intro (And.intro (@sz_261) (@ia_256)) (And.intro (@sz_256) (And.intro (@ia_257) (@sz_257)))) (And.intro (And.intro (@ia_254) (@sz_254)) (And.intro (@ia_278) (And.intro (@sz_278) (@ze_2))))) (And.intro (And.intro (And.intro (@ze_3) (@ze_4)) (And.intro (@ze_27) (And.intro (@ze_28) (@ze_44)))) (And.intro (And.intro (@ze_46) (@ze_53)) (And.intro (@ze_82) (And.intro (@ze_92) (@ze_179)))))))) (And.intro (And.intro (And.intro (And.intro (And.intro (And.intro (@ze_250) (@ze_254)) (And.intro (@fo_27_0) (And.intro (@fo_27_1) (@fo_44_0)))) (And.intro (And.intro (@fo_44_1) (@fo_46_0)) (And.intro (@fo_46_1) (And.intro (@fo_46_2) (@fo_46_3))))) (And.intro (And.intro (And.intro (@fo_46_4) (@fo_46_5)) (And.intro (@fo_46_6) (And.intro (@fo_46_7) (@fo_46_8)))) (And.intro (And.intro (@fo_46_9) (@fo_53_0)) (And.intro (@fo_53_1) (And.intro (@fo_53_2) (@fo_53_3)))))) (And.intro (And.intro (And.intro (And.intro (@fo_53_4) (@fo_53_5)) (And.intro (@fo_82_0) (And.intro (@fo_92_0) (@fo_92_1)))) (And.intro (And.intro (@fo_179_0) (@fo_179_1)) (And.intro (@fo_179_2) (And.intro (@fo_250_0) (@fo_250_1))))) (And.intro (And.intro (And.intro (@pb_29) (@pb_8)) (And.intro (@pb_31) (And.intro (@pb_7) (@pb_19)))) (And.intro (And.intro (@pb_38) (@pb_14)) (And.intro (@pb_42) (And.intro (@pb_11) (@pb_13))))))) (And.intro (And.intro (And.intro (And.intro (And.intro (@pb_95) (@pb_15)) (And.intro (@pb_92) (And.intro (@pb_93) (@pb_94)))) (And.intro (And.intro (@pb_32) (@pb_33)) (And.intro (@pb_96) (And.intro (@pb_30) (@pb_57))))) (And.intro (And.intro (And.intro (@pb_100) (@pb_43)) (And.intro (@pb_44) (And.intro (@pb_45) (@pb_46)))) (And.intro (And.intro (@pb_105) (@pb_106)) (And.intro (@pb_37) (And.intro (@pb_40) (@pb_41)))))) (And.intro (And.intro (And.intro (And.intro (@pb_36) (@pb_12)) (And.intro (@pb_101) (And.intro (@pb_158) (@pb_159)))) (And.intro (And.intro (@pb_160) (@pb_161)) (And.intro (@pb_47) (And.intro (@pb_97) (@pb_107))))) (And.intro (And.intro (And.intro (@pb_108) (@pb_165)) (And.intro (@pb_102) (And.intro (@pb_103) (@pb_104)))) (And.intro (And.intro (@pb_39) (And.intro (@pb_164) (@pb_192))) (And.intro (@pb_163) (And.intro (@pb_190) (@pb_191))))))))
theorem gd {l : List Int} {i : Nat} (hi : i < l.length) : l.getD i 0 = l[i] := by simp [List.getD, hi]
theorem okL.lt {re cf : List Int} (k : okL re cf) {i : Nat} : ∀ {j : Nat}, i < j → j < re.length → re.getD i 0 < re.getD j 0
  | j + 1, h1, h2 => by
    have h3 := ((k.pt (j + 1) h2).2.2 (by omega)).1
    rw [Nat.add_sub_cancel] at h3
    by_cases e : i = j
    · rw [e]; exact h3
    · have := k.lt (i := i) (j := j) (by omega) (by omega); omega
theorem okL.le {re cf : List Int} (k : okL re cf) {i : Nat} : ∀ {j : Nat}, i ≤ j → j < re.length → cf.getD j 0 ≤ cf.getD i 0
  | 0, h1, h2 => by rw [Nat.le_zero.1 h1]; exact Int.le_refl _
  | j + 1, h1, h2 => by
    have h3 := ((k.pt (j + 1) h2).2.2 (by omega)).2
    rw [Nat.add_sub_cancel] at h3
    by_cases e : i = j + 1
    · rw [e]; exact Int.le_refl _
    · have := k.le (i := i) (j := j) (by omega) (by omega); omega
theorem okL.re_in {re cf : List Int} (k : okL re cf) {i : Nat} (hi : i < re.length) : 1 ≤ re.getD i 0 ∧ re.getD i 0 ≤ 1000000000 := (k.pt i hi).1
theorem okL.cf_in {re cf : List Int} (k : okL re cf) {i : Nat} (hi : i < re.length) : 0 ≤ cf.getD i 0 ∧ cf.getD i 0 ≤ 100000 := (k.pt i hi).2.1
/-- The first number above another one. -/
def beh (re : List Int) (r : Int) : Nat := re.findIdx fun y => decide (r < y)
theorem beh_at {re : List Int} {r : Int} {i : Nat} (hi : i < re.length) (h1 : r < re.getD i 0) (h2 : ∀ j, j < i → re.getD j 0 ≤ r) : beh re r = i := by
  unfold beh
  rw [List.findIdx_eq hi]
  refine ⟨decide_eq_true (by simpa [List.getD, hi] using h1), fun j hj => decide_eq_false (by
    have := h2 j hj
    simp [List.getD, show j < re.length by omega] at this; omega)⟩
theorem beh_end {re : List Int} {r : Int} (h2 : ∀ j, j < re.length → re.getD j 0 ≤ r) : beh re r = re.length := by
  unfold beh
  rw [List.findIdx_eq_length]
  intro x hx
  obtain ⟨i, hi, e⟩ := List.getElem_of_mem hx
  have := h2 i hi
  simp [List.getD, hi, e] at this
  exact decide_eq_false (by omega)
def has (re : List Int) (r : Int) : Prop := re.getD 0 0 ≤ r ∧ r ≤ re.getD (re.length - 1) 0
instance (re : List Int) (r : Int) : Decidable (has re r) := by unfold has; infer_instance
/-- The friction between two points. -/
def mid (re cf : List Int) (i : Nat) (r : Int) : Int := cf.getD (i - 1) 0 - (cf.getD (i - 1) 0 - cf.getD i 0) * (r - re.getD (i - 1) 0) / (re.getD i 0 - re.getD (i - 1) 0)
def fr (re cf : List Int) (r : Int) : Int := if beh re r = re.length then cf.getD (re.length - 1) 0 else mid re cf (beh re r) r
/-- Where a number is that is not outside. -/
theorem beh_cases {re cf : List Int} (k : okL re cf) {r : Int} (hh : has re r) :
    (beh re r = re.length ∧ r = re.getD (re.length - 1) 0) ∨ ∃ i, beh re r = i ∧ 0 < i ∧ i < re.length ∧ re.getD (i - 1) 0 ≤ r ∧ r < re.getD i 0 := by
  have hn := k.n
  by_cases h : r = re.getD (re.length - 1) 0
  · left
    refine ⟨beh_end fun j hj => ?_, h⟩
    by_cases e : j = re.length - 1
    · rw [e, ← h]; exact Int.le_refl _
    · have := k.lt (i := j) (j := re.length - 1) (by omega) (by omega); omega
  · right
    have hlt : r < re.getD (re.length - 1) 0 := by have := hh.2; omega
    have hb : beh re r < re.length := by
      unfold beh
      rw [List.findIdx_lt_length]
      refine ⟨re[re.length - 1]'(by omega), List.getElem_mem _, decide_eq_true (by simpa [List.getD, show re.length - 1 < re.length by omega] using hlt)⟩
    have h1 := List.findIdx_getElem (xs := re) (p := fun y => decide (r < y)) (w := hb)
    have h1' : r < re.getD (beh re r) 0 := by
      rw [gd hb]; exact of_decide_eq_true h1
    have h0 : 0 < beh re r := by
      rcases Nat.eq_zero_or_pos (beh re r) with e | e
      · rw [e] at h1'; have := hh.1; omega
      · exact e
    refine ⟨_, rfl, h0, hb, ?_, h1'⟩
    have h2 := List.not_of_lt_findIdx (xs := re) (p := fun y => decide (r < y)) (i := beh re r - 1) (by show beh re r - 1 < beh re r; omega)
    have h3 := of_decide_eq_false h2
    have h4 : re.getD (beh re r - 1) 0 = re[beh re r - 1]'(by omega) := by simp [List.getD, show beh re r - 1 < re.length by omega]
    rw [h4]; omega
theorem mid_in {re cf : List Int} (k : okL re cf) {r : Int} {i : Nat} (h0 : 0 < i) (hi : i < re.length) (h1 : re.getD (i - 1) 0 ≤ r) (h2 : r < re.getD i 0) :
    (0 ≤ (cf.getD (i - 1) 0 - cf.getD i 0) * (r - re.getD (i - 1) 0) ∧ (cf.getD (i - 1) 0 - cf.getD i 0) * (r - re.getD (i - 1) 0) ≤ 100000000000000) ∧ cf.getD i 0 ≤ mid re cf i r ∧ mid re cf i r ≤ cf.getD (i - 1) 0 := by
  have a1 := k.re_in hi
  have a2 := k.re_in (i := i - 1) (by omega)
  have a3 := k.cf_in hi
  have a4 := k.cf_in (i := i - 1) (by omega)
  have a5 := k.le (i := i - 1) (j := i) (by omega) hi
  have hp := mul_bd (a := cf.getD (i - 1) 0 - cf.getD i 0) (b := r - re.getD (i - 1) 0) (x := 100000) (y := 1000000000) ⟨by omega, by omega⟩ ⟨by omega, by omega⟩
  refine ⟨⟨hp.1, by omega⟩, ?_⟩
  have hd : 0 < re.getD i 0 - re.getD (i - 1) 0 := by omega
  have q1 := Int.ediv_nonneg hp.1 (show 0 ≤ re.getD i 0 - re.getD (i - 1) 0 by omega)
  have q2 : (cf.getD (i - 1) 0 - cf.getD i 0) * (r - re.getD (i - 1) 0) / (re.getD i 0 - re.getD (i - 1) 0) ≤ cf.getD (i - 1) 0 - cf.getD i 0 := by
    have h3 : (cf.getD (i - 1) 0 - cf.getD i 0) * (r - re.getD (i - 1) 0) ≤ (cf.getD (i - 1) 0 - cf.getD i 0) * (re.getD i 0 - re.getD (i - 1) 0) := Int.mul_le_mul_of_nonneg_left (by omega) (by omega)
    have := Int.ediv_le_ediv hd h3
    rwa [Int.mul_ediv_cancel _ (by omega)] at this
  unfold mid
  omega
theorem fr_in {re cf : List Int} (k : okL re cf) {r : Int} (hh : has re r) : 0 ≤ fr re cf r ∧ fr re cf r ≤ 100000 := by
  have hn := k.n
  rcases beh_cases k hh with ⟨e, _⟩ | ⟨i, e, h0, hi, h1, h2⟩
  · unfold fr
    rw [if_pos e]
    exact k.cf_in (by omega)
  · unfold fr
    rw [e, if_neg (by omega)]
    have := mid_in k h0 hi h1 h2
    have := k.cf_in hi
    have := k.cf_in (i := i - 1) (by omega)
    omega

theorem behind (a b : AV) (re cf : List Int) (r : Int) (h : H) (x : LineR h a b re cf) (hn : re.length ≤ 12) : (om Tryz.prog KK).call (.fn 97 [a, ii r]) h = .ok (ii (beh re r : Nat)) h := by
  have wf := x.wf
  obtain ⟨⟨fa, fa'⟩, ⟨fb, fb'⟩⟩ := x.flats
  have ha : ∀ h', lenE Tryz.prog 25 a h' = some (ii (re.length : Int)) := fun h' => x.re.len un_25
  refine WV_to (WV_call (fn := Tryz.f97) Tryz.func97 rfl rfl rfl rfl rfl ?_)
  simp only [argF]
  (repeat' (first
  | (with_reducible first | refine WC_seq ?_ | refine WC_skip ?_ | refine WC_label ?_ | refine WC_scope ?_ | refine WC_block ?_ | refine WC_ret ?_ | refine WC_exit ?_ | refine seqQ_norm ?_ | refine seqQ_ret ?_ | refine seqQ_exit ?_ | refine blkQ_norm ?_ | refine blkQ_ret ?_ | refine blkQ_here ?_ | refine gateK_yes ?_ | refine gateK_none ?_ | refine condK_tt ?_ | refine condK_ff ?_ | refine roundQ_exit ?_ | refine roundQ_ret ?_)
  | refine WC_region ?_ | refine blkQ_out rfl ?_ | refine WO_nil ?_ | refine WD_nil ?_
  | ((first | refine WD_gate rfl rfl rfl rfl rfl fun K_ hK_ => ?_ | refine WO_gate rfl rfl rfl rfl rfl fun K_ hK_ => ?_); simp only [upd_apply, asB_bool, asB_tup, ↓reduceIte, reduceCtorEq, Nat.reduceEqDiff, Bool.not_true, Bool.not_false]; refine hK_ _ ?_; clear hK_ K_)
  | refine gateK_no (by decide) ?_
  | ((try first | refine WO_op rfl rfl rfl ?_ | refine WO_op0 rfl rfl ?_ | refine WD_op rfl rfl rfl ?_ | refine WD_op0 rfl rfl ?_); (refine WV_gen fun Q_ hQ_ => ?_; simp (disch := first | omega | (simp only [List.length_cons, List.length_nil, List.length_append]; omega)) only [bb, bp, argF, ↓reduceIte, reduceCtorEq, Nat.reduceEqDiff, Nat.reduceLT, Nat.reduceLeDiff, Nat.reduceAdd, Nat.reduceMul, Nat.reduceSub, Nat.reduceBEq, Int.reduceToNat, cond_true, cond_false, eq_self, beq_self_eq_true, ha, newPtr_X wf, load1_X wf, loadAgg_X wf, store1_X wf, writeCells_X wf, makeFunc_def, tEvsD5, bsl_25, bsl_36, bsl_35, bsl_40, bsl_259, newSlice_X wf]; first | (refine dec_split (Q := Q_) (fun hp_ => ?_) (fun hp_ => ?_) <;> first | (exfalso; omega) | (refine hQ_ _ _ ?_; clear hQ_ Q_)) | (refine dec_splitn (Q := Q_) (fun hp_ => ?_) (fun hp_ => ?_) <;> first | (exfalso; omega) | (refine hQ_ _ _ ?_; clear hQ_ Q_)) | (refine hQ_ _ _ ?_; clear hQ_ Q_)))
  | (refine WC_cond fun K_ hK_ => ?_; simp (disch := omega) only [evT_tmp, upd_apply, WB_some, ↓reduceIte, reduceCtorEq, Nat.reduceEqDiff, Nat.reduceLT]; refine hK_ _ ?_; clear hK_ K_)))
  refine WC_loop (fun (i : Nat) f d h' => i ≤ re.length ∧ (∀ j, j < i → re.getD j 0 ≤ r) ∧ f 0 = a ∧ f 1 = ii r ∧ f 7 = a ∧ f 8 = ii (re.length : Int) ∧ f 9 = ii (i : Int) ∧ d = [] ∧ h' = X h [] h.clock) (fun i => re.length - i) ?_ (re.length + 1) 0 (by omega) ?_
  · rintro i f d h' ⟨hi, hall, g0, g1, g7, g8, g9, rfl, rfl⟩
    by_cases hlt : i < re.length
    · obtain ⟨ia, oa, hxa, hla⟩ := ints_at wf x.re hlt
      (repeat' (first
  | (with_reducible first | refine WC_seq ?_ | refine WC_skip ?_ | refine WC_label ?_ | refine WC_scope ?_ | refine WC_block ?_ | refine WC_ret ?_ | refine WC_exit ?_ | refine seqQ_norm ?_ | refine seqQ_ret ?_ | refine seqQ_exit ?_ | refine blkQ_norm ?_ | refine blkQ_ret ?_ | refine blkQ_here ?_ | refine gateK_yes ?_ | refine gateK_none ?_ | refine condK_tt ?_ | refine condK_ff ?_ | refine roundQ_exit ?_ | refine roundQ_ret ?_)
  | refine WC_region ?_ | refine blkQ_out rfl ?_ | refine WO_nil ?_ | refine WD_nil ?_
  | ((first | refine WD_gate rfl rfl rfl rfl rfl fun K_ hK_ => ?_ | refine WO_gate rfl rfl rfl rfl rfl fun K_ hK_ => ?_); simp only [upd_apply, asB_bool, asB_tup, ↓reduceIte, reduceCtorEq, Nat.reduceEqDiff, Bool.not_true, Bool.not_false]; refine hK_ _ ?_; clear hK_ K_)
  | refine gateK_no (by decide) ?_
  | ((try first | refine WO_op rfl rfl rfl ?_ | refine WO_op0 rfl rfl ?_ | refine WD_op rfl rfl rfl ?_ | refine WD_op0 rfl rfl ?_); (refine WV_gen fun Q_ hQ_ => ?_; simp (disch := first | omega | (simp only [List.length_cons, List.length_nil, List.length_append]; omega)) only [bb, bp, argF, ↓reduceIte, reduceCtorEq, Nat.reduceEqDiff, Nat.reduceLT, Nat.reduceLeDiff, Nat.reduceAdd, Nat.reduceMul, Nat.reduceSub, Nat.reduceBEq, Int.reduceToNat, cond_true, cond_false, eq_self, beq_self_eq_true, g0, g1, g7, g8, g9, hxa, hla, newPtr_X wf, load1_X wf, loadAgg_X wf, store1_X wf, writeCells_X wf, makeFunc_def, tEvsD5, bsl_25, bsl_36, bsl_35, bsl_40, bsl_259, newSlice_X wf]; first | (refine dec_split (Q := Q_) (fun hp_ => ?_) (fun hp_ => ?_) <;> first | (exfalso; omega) | (refine hQ_ _ _ ?_; clear hQ_ Q_)) | (refine dec_splitn (Q := Q_) (fun hp_ => ?_) (fun hp_ => ?_) <;> first | (exfalso; omega) | (refine hQ_ _ _ ?_; clear hQ_ Q_)) | (refine hQ_ _ _ ?_; clear hQ_ Q_)))
  | (refine WC_cond fun K_ hK_ => ?_; simp (disch := omega) only [evT_tmp, upd_apply, WB_some, ↓reduceIte, reduceCtorEq, Nat.reduceEqDiff, Nat.reduceLT]; refine hK_ _ ?_; clear hK_ K_)))
      · (refine endQ_ret _ _ rfl (ret1 (by decide)) ?_; simp only [upd_apply, ↓reduceIte, reduceCtorEq, Nat.reduceEqDiff]; refine WV_flat rfl (by omega) ?_)
        exact ⟨by rw [beh_at hlt (by assumption) hall], rfl⟩
      · refine roundQ_again (i + 1) (by omega) ⟨hlt, fun j hj => ?_, by simp only [upd_apply, ↓reduceIte, reduceCtorEq, Nat.reduceEqDiff]; exact g0, by simp only [upd_apply, ↓reduceIte, reduceCtorEq, Nat.reduceEqDiff]; exact g1, by simp only [upd_apply, ↓reduceIte, reduceCtorEq, Nat.reduceEqDiff]; exact g7, by simp only [upd_apply, ↓reduceIte, reduceCtorEq, Nat.reduceEqDiff]; exact g8, by simp only [upd_apply, ↓reduceIte, reduceCtorEq, Nat.reduceEqDiff]; rfl, rfl, rfl⟩
        by_cases hji : j = i
        · rw [hji]; omega
        · exact hall j (by omega)
    · have hie : i = re.length := by omega
      subst hie
      (repeat' (first
  | (with_reducible first | refine WC_seq ?_ | refine WC_skip ?_ | refine WC_label ?_ | refine WC_scope ?_ | refine WC_block ?_ | refine WC_ret ?_ | refine WC_exit ?_ | refine seqQ_norm ?_ | refine seqQ_ret ?_ | refine seqQ_exit ?_ | refine blkQ_norm ?_ | refine blkQ_ret ?_ | refine blkQ_here ?_ | refine gateK_yes ?_ | refine gateK_none ?_ | refine condK_tt ?_ | refine condK_ff ?_ | refine roundQ_exit ?_ | refine roundQ_ret ?_)
  | refine WC_region ?_ | refine blkQ_out rfl ?_ | refine WO_nil ?_ | refine WD_nil ?_
  | ((first | refine WD_gate rfl rfl rfl rfl rfl fun K_ hK_ => ?_ | refine WO_gate rfl rfl rfl rfl rfl fun K_ hK_ => ?_); simp only [upd_apply, asB_bool, asB_tup, ↓reduceIte, reduceCtorEq, Nat.reduceEqDiff, Bool.not_true, Bool.not_false]; refine hK_ _ ?_; clear hK_ K_)
  | refine gateK_no (by decide) ?_
  | ((try first | refine WO_op rfl rfl rfl ?_ | refine WO_op0 rfl rfl ?_ | refine WD_op rfl rfl rfl ?_ | refine WD_op0 rfl rfl ?_); (refine WV_gen fun Q_ hQ_ => ?_; simp (disch := first | omega | (simp only [List.length_cons, List.length_nil, List.length_append]; omega)) only [bb, bp, argF, ↓reduceIte, reduceCtorEq, Nat.reduceEqDiff, Nat.reduceLT, Nat.reduceLeDiff, Nat.reduceAdd, Nat.reduceMul, Nat.reduceSub, Nat.reduceBEq, Int.reduceToNat, cond_true, cond_false, eq_self, beq_self_eq_true, g0, g1, g7, g8, g9, ha, newPtr_X wf, load1_X wf, loadAgg_X wf, store1_X wf, writeCells_X wf, makeFunc_def, tEvsD5, bsl_25, bsl_36, bsl_35, bsl_40, bsl_259, newSlice_X wf]; first | (refine dec_split (Q := Q_) (fun hp_ => ?_) (fun hp_ => ?_) <;> first | (exfalso; omega) | (refine hQ_ _ _ ?_; clear hQ_ Q_)) | (refine dec_splitn (Q := Q_) (fun hp_ => ?_) (fun hp_ => ?_) <;> first | (exfalso; omega) | (refine hQ_ _ _ ?_; clear hQ_ Q_)) | (refine hQ_ _ _ ?_; clear hQ_ Q_)))
  | (refine WC_cond fun K_ hK_ => ?_; simp (disch := omega) only [evT_tmp, upd_apply, WB_some, ↓reduceIte, reduceCtorEq, Nat.reduceEqDiff, Nat.reduceLT]; refine hK_ _ ?_; clear hK_ K_)))
      (refine endQ_ret _ _ rfl (ret1 (by decide)) ?_; simp only [upd_apply, ↓reduceIte, reduceCtorEq, Nat.reduceEqDiff]; refine WV_flat rfl (by omega) ?_)
      exact ⟨by rw [beh_end hall], rfl⟩
  · exact ⟨Nat.zero_le _, fun j hj => absurd hj (Nat.not_lt_zero j), by simp only [upd_apply, ↓reduceIte, reduceCtorEq, Nat.reduceEqDiff], by simp only [upd_apply, ↓reduceIte, reduceCtorEq, Nat.reduceEqDiff], by simp only [upd_apply, ↓reduceIte, reduceCtorEq, Nat.reduceEqDiff], by simp only [upd_apply, ↓reduceIte, reduceCtorEq, Nat.reduceEqDiff], by simp only [upd_apply, ↓reduceIte, reduceCtorEq, Nat.reduceEqDiff]; rfl, rfl, rfl⟩

theorem hasC (a b : AV) (re cf : List Int) (r : Int) (h : H) (x : LineR h a b re cf) (hn : 2 ≤ re.length ∧ re.length ≤ 12) : (om Tryz.prog KK).call (.fn 32 [.agg [a, b], ii r]) h = .ok (.bool (decide (has re r))) h := by
  have wf := x.wf
  obtain ⟨⟨fa, fa'⟩, ⟨fb, fb'⟩⟩ := x.flats
  have ha : ∀ h', lenE Tryz.prog 25 a h' = some (ii (re.length : Int)) := fun h' => x.re.len un_25
  obtain ⟨ia, oa, hxa, hla⟩ := ints_at wf x.re (i := 0) (by omega)
  obtain ⟨ib, ob, hxb, hlb⟩ := ints_at wf x.re (i := re.length - 1) (by omega)
  rw [show ((re.length - 1 : Nat) : Int) = (re.length : Int) - 1 from by omega] at hxb
  have hxa' : indexAddrE Tryz.prog 25 a (.int .i64 0) = some (.ptr ia oa) := hxa
  have hd : has re r ↔ (re.getD 0 0 ≤ r ∧ r ≤ re.getD (re.length - 1) 0) := Iff.rfl
  generalize re.getD 0 0 = u at *
  generalize re.getD (re.length - 1) 0 = v at *
  refine WV_to (WV_call (fn := Tryz.f32) Tryz.func32 rfl rfl rfl rfl rfl ?_)
  simp only [argF]
  (repeat' (first
  | (with_reducible first | refine WC_seq ?_ | refine WC_skip ?_ | refine WC_label ?_ | refine WC_scope ?_ | refine WC_block ?_ | refine WC_ret ?_ | refine WC_exit ?_ | refine seqQ_norm ?_ | refine seqQ_ret ?_ | refine seqQ_exit ?_ | refine blkQ_norm ?_ | refine blkQ_ret ?_ | refine blkQ_here ?_ | refine gateK_yes ?_ | refine gateK_none ?_ | refine condK_tt ?_ | refine condK_ff ?_ | refine roundQ_exit ?_ | refine roundQ_ret ?_)
  | refine WC_region ?_ | refine blkQ_out rfl ?_ | refine WO_nil ?_ | refine WD_nil ?_
  | ((first | refine WD_gate rfl rfl rfl rfl rfl fun K_ hK_ => ?_ | refine WO_gate rfl rfl rfl rfl rfl fun K_ hK_ => ?_); simp only [upd_apply, asB_bool, asB_tup, ↓reduceIte, reduceCtorEq, Nat.reduceEqDiff, Bool.not_true, Bool.not_false]; refine hK_ _ ?_; clear hK_ K_)
  | refine gateK_no (by decide) ?_
  | ((try first | refine WO_op rfl rfl rfl ?_ | refine WO_op0 rfl rfl ?_ | refine WD_op rfl rfl rfl ?_ | refine WD_op0 rfl rfl ?_); (refine WV_gen fun Q_ hQ_ => ?_; simp (disch := first | omega | (simp only [List.length_cons, List.length_nil, List.length_append]; omega)) only [bb, bp, argF, ↓reduceIte, reduceCtorEq, Nat.reduceEqDiff, Nat.reduceLT, Nat.reduceLeDiff, Nat.reduceAdd, Nat.reduceMul, Nat.reduceSub, Nat.reduceBEq, Int.reduceToNat, cond_true, cond_false, eq_self, beq_self_eq_true, ha, fa, fb, fa', fb', hxa', hla, hxb, hlb, newPtr_X wf, load1_X wf, loadAgg_X wf, store1_X wf, writeCells_X wf, makeFunc_def, tEvsD5, bsl_25, bsl_36, bsl_35, bsl_40, bsl_259, newSlice_X wf]; first | (refine dec_split (Q := Q_) (fun hp_ => ?_) (fun hp_ => ?_) <;> first | (exfalso; omega) | (refine hQ_ _ _ ?_; clear hQ_ Q_)) | (refine dec_splitn (Q := Q_) (fun hp_ => ?_) (fun hp_ => ?_) <;> first | (exfalso; omega) | (refine hQ_ _ _ ?_; clear hQ_ Q_)) | (refine hQ_ _ _ ?_; clear hQ_ Q_)))
  | (refine WC_cond fun K_ hK_ => ?_; simp (disch := omega) only [evT_tmp, upd_apply, WB_some, ↓reduceIte, reduceCtorEq, Nat.reduceEqDiff, Nat.reduceLT]; refine hK_ _ ?_; clear hK_ K_)))
  all_goals (refine endQ_ret _ _ rfl (ret1 (by decide)) ?_; simp only [upd_apply, ↓reduceIte, reduceCtorEq, Nat.reduceEqDiff]; refine WV_flat rfl (by omega) ?_)
  all_goals exact ⟨by congr 1; first | (rw [decide_eq_true]; apply hd.2; omega) | (rw [decide_eq_false]; intro hh; have := hd.1 hh; omega), rfl⟩

theorem friction (a b : AV) (re cf : List Int) (r : Int) (h : H) (x : LineR h a b re cf) (k : okL re cf) (hh : has re r) : (om Tryz.prog KK).call (.fn 33 [.agg [a, b], ii r]) h = .ok (ii (fr re cf r)) h := by
  have wf := x.wf
  have hn := k.n
  have hce := k.e
  obtain ⟨⟨fa, fa'⟩, ⟨fb, fb'⟩⟩ := x.flats
  have ha : ∀ h', lenE Tryz.prog 25 a h' = some (ii (re.length : Int)) := fun h' => x.re.len un_25
  refine WV_to (WV_call (fn := Tryz.f33) Tryz.func33 rfl rfl rfl rfl rfl ?_)
  simp only [argF]
  rcases beh_cases k hh with ⟨e, he⟩ | ⟨i, e, h0, hi, h1, h2⟩
  · obtain ⟨ib, ob, hxb, hlb⟩ := ints_at wf x.cf (i := re.length - 1) (by omega)
    rw [show ((re.length - 1 : Nat) : Int) = (re.length : Int) - 1 from by omega] at hxb
    (repeat' (first
  | (with_reducible first | refine WC_seq ?_ | refine WC_skip ?_ | refine WC_label ?_ | refine WC_scope ?_ | refine WC_block ?_ | refine WC_ret ?_ | refine WC_exit ?_ | refine seqQ_norm ?_ | refine seqQ_ret ?_ | refine seqQ_exit ?_ | refine blkQ_norm ?_ | refine blkQ_ret ?_ | refine blkQ_here ?_ | refine gateK_yes ?_ | refine gateK_none ?_ | refine condK_tt ?_ | refine condK_ff ?_ | refine roundQ_exit ?_ | refine roundQ_ret ?_)
  | refine WC_region ?_ | refine blkQ_out rfl ?_ | refine WO_nil ?_ | refine WD_nil ?_
  | ((first | refine WD_gate rfl rfl rfl rfl rfl fun K_ hK_ => ?_ | refine WO_gate rfl rfl rfl rfl rfl fun K_ hK_ => ?_); simp only [upd_apply, asB_bool, asB_tup, ↓reduceIte, reduceCtorEq, Nat.reduceEqDiff, Bool.not_true, Bool.not_false]; refine hK_ _ ?_; clear hK_ K_)
  | refine gateK_no (by decide) ?_
  | ((try first | refine WO_op rfl rfl rfl ?_ | refine WO_op0 rfl rfl ?_ | refine WD_op rfl rfl rfl ?_ | refine WD_op0 rfl rfl ?_); (refine WV_gen fun Q_ hQ_ => ?_; simp (disch := first | omega | (simp only [List.length_cons, List.length_nil, List.length_append]; omega)) only [bb, bp, argF, ↓reduceIte, reduceCtorEq, Nat.reduceEqDiff, Nat.reduceLT, Nat.reduceLeDiff, Nat.reduceAdd, Nat.reduceMul, Nat.reduceSub, Nat.reduceBEq, Int.reduceToNat, cond_true, cond_false, eq_self, beq_self_eq_true, ha, e, fa, fb, fa', fb', hxb, hlb, newPtr_X wf, load1_X wf, loadAgg_X wf, store1_X wf, writeCells_X wf, makeFunc_def, tEvsD5, bsl_25, bsl_36, bsl_35, bsl_40, bsl_259, newSlice_X wf]; first | (refine dec_split (Q := Q_) (fun hp_ => ?_) (fun hp_ => ?_) <;> first | (exfalso; omega) | (refine hQ_ _ _ ?_; clear hQ_ Q_)) | (refine dec_splitn (Q := Q_) (fun hp_ => ?_) (fun hp_ => ?_) <;> first | (exfalso; omega) | (refine hQ_ _ _ ?_; clear hQ_ Q_)) | (refine hQ_ _ _ ?_; clear hQ_ Q_) | (refine WV_eq (behind a b re cf r _ (x.up _ _ (by simp only [List.length_append, List.length_cons, List.length_nil]; omega)) hn.2) ?_; refine hQ_ _ _ ?_; clear hQ_ Q_)))
  | (refine WC_cond fun K_ hK_ => ?_; simp (disch := omega) only [evT_tmp, upd_apply, WB_some, ↓reduceIte, reduceCtorEq, Nat.reduceEqDiff, Nat.reduceLT]; refine hK_ _ ?_; clear hK_ K_)))
    (refine endQ_ret _ _ rfl (ret1 (by decide)) ?_; simp only [upd_apply, ↓reduceIte, reduceCtorEq, Nat.reduceEqDiff]; refine WV_flat rfl (by omega) ?_)
    exact ⟨by unfold fr; rw [if_pos e], rfl⟩
  · obtain ⟨ia, oa, hxa, hla⟩ := ints_at wf x.re (i := i) (by omega)
    obtain ⟨ib, ob, hxb, hlb⟩ := ints_at wf x.cf (i := i) (by omega)
    obtain ⟨ip, op, hxp, hlp⟩ := ints_at wf x.re (i := i - 1) (by omega)
    obtain ⟨iq, oq, hxq, hlq⟩ := ints_at wf x.cf (i := i - 1) (by omega)
    rw [show ((i - 1 : Nat) : Int) = (i : Int) - 1 from by omega] at hxp hxq
    have hm := (mid_in k h0 hi h1 h2)
    have hfr : fr re cf r = mid re cf i r := by unfold fr; rw [e, if_neg (by omega)]
    have b1 := k.re_in (i := i) hi
    have b2 := k.re_in (i := i - 1) (by omega)
    have b3 := k.cf_in (i := i) hi
    have b4 := k.cf_in (i := i - 1) (by omega)
    have b5 := k.le (i := i - 1) (j := i) (by omega) hi
    rw [hfr]
    unfold mid at hm ⊢
    clear hfr
    generalize re.getD (i - 1) 0 = p at *
    generalize re.getD i 0 = q at *
    generalize cf.getD (i - 1) 0 = c at *
    generalize cf.getD i 0 = d at *
    have hz : q - p ≠ 0 := by omega
    have hdv := div_in (n := (c - d) * (r - p)) (g := q - p) ⟨hm.1.1, by omega⟩ (by omega)
    (repeat' (first
  | (with_reducible first | refine WC_seq ?_ | refine WC_skip ?_ | refine WC_label ?_ | refine WC_scope ?_ | refine WC_block ?_ | refine WC_ret ?_ | refine WC_exit ?_ | refine seqQ_norm ?_ | refine seqQ_ret ?_ | refine seqQ_exit ?_ | refine blkQ_norm ?_ | refine blkQ_ret ?_ | refine blkQ_here ?_ | refine gateK_yes ?_ | refine gateK_none ?_ | refine condK_tt ?_ | refine condK_ff ?_ | refine roundQ_exit ?_ | refine roundQ_ret ?_)
  | refine WC_region ?_ | refine blkQ_out rfl ?_ | refine WO_nil ?_ | refine WD_nil ?_
  | ((first | refine WD_gate rfl rfl rfl rfl rfl fun K_ hK_ => ?_ | refine WO_gate rfl rfl rfl rfl rfl fun K_ hK_ => ?_); simp only [upd_apply, asB_bool, asB_tup, ↓reduceIte, reduceCtorEq, Nat.reduceEqDiff, Bool.not_true, Bool.not_false]; refine hK_ _ ?_; clear hK_ K_)
  | refine gateK_no (by decide) ?_
  | ((try first | refine WO_op rfl rfl rfl ?_ | refine WO_op0 rfl rfl ?_ | refine WD_op rfl rfl rfl ?_ | refine WD_op0 rfl rfl ?_); (refine WV_gen fun Q_ hQ_ => ?_; simp (disch := first | omega | (simp only [List.length_cons, List.length_nil, List.length_append]; omega)) only [bb, bp, argF, ↓reduceIte, reduceCtorEq, Nat.reduceEqDiff, Nat.reduceLT, Nat.reduceLeDiff, Nat.reduceAdd, Nat.reduceMul, Nat.reduceSub, Nat.reduceBEq, Int.reduceToNat, cond_true, cond_false, eq_self, beq_self_eq_true, ha, e, fa, fb, fa', fb', newPtr_X wf, load1_X wf, loadAgg_X wf, store1_X wf, writeCells_X wf, makeFunc_def, tEvsD5, bsl_25, bsl_36, bsl_35, bsl_40, bsl_259, newSlice_X wf]; first | (refine dec_split (Q := Q_) (fun hp_ => ?_) (fun hp_ => ?_) <;> first | (exfalso; omega) | (refine hQ_ _ _ ?_; clear hQ_ Q_)) | (refine dec_splitn (Q := Q_) (fun hp_ => ?_) (fun hp_ => ?_) <;> first | (exfalso; omega) | (refine hQ_ _ _ ?_; clear hQ_ Q_)) | (refine hQ_ _ _ ?_; clear hQ_ Q_) | (refine WV_eq (behind a b re cf r _ (x.up _ _ (by simp only [List.length_append, List.length_cons, List.length_nil]; omega)) hn.2) ?_; refine hQ_ _ _ ?_; clear hQ_ Q_)))
  | (refine WC_cond fun K_ hK_ => ?_; simp (disch := omega) only [evT_tmp, upd_apply, WB_some, ↓reduceIte, reduceCtorEq, Nat.reduceEqDiff, Nat.reduceLT]; refine hK_ _ ?_; clear hK_ K_)))
    refine WC_drawnB [.no, .no, .no, .no, .no, .no, .no, .no, .no, .no, .no, .no, .no, .no, .full] (by kernel_rfl) ?_
    (repeat' (first
  | (with_reducible first | refine WC_seq ?_ | refine WC_skip ?_ | refine WC_label ?_ | refine WC_scope ?_ | refine WC_block ?_ | refine WC_ret ?_ | refine WC_exit ?_ | refine seqQ_norm ?_ | refine seqQ_ret ?_ | refine seqQ_exit ?_ | refine blkQ_norm ?_ | refine blkQ_ret ?_ | refine blkQ_here ?_ | refine gateK_yes ?_ | refine gateK_none ?_ | refine condK_tt ?_ | refine condK_ff ?_ | refine roundQ_exit ?_ | refine roundQ_ret ?_)
  | refine WC_region ?_ | refine blkQ_out rfl ?_ | refine WO_nil ?_ | refine WD_nil ?_
  | ((first | refine WD_gate rfl rfl rfl rfl rfl fun K_ hK_ => ?_ | refine WO_gate rfl rfl rfl rfl rfl fun K_ hK_ => ?_); simp only [upd_apply, asB_bool, asB_tup, ↓reduceIte, reduceCtorEq, Nat.reduceEqDiff, Bool.not_true, Bool.not_false]; refine hK_ _ ?_; clear hK_ K_)
  | refine gateK_no (by decide) ?_
  | ((try first | refine WO_op rfl rfl rfl ?_ | refine WO_op0 rfl rfl ?_ | refine WD_op rfl rfl rfl ?_ | refine WD_op0 rfl rfl ?_); (refine WV_gen fun Q_ hQ_ => ?_; simp (disch := first | omega | (simp only [List.length_cons, List.length_nil, List.length_append]; omega)) only [bb, bp, argF, ↓reduceIte, reduceCtorEq, Nat.reduceEqDiff, Nat.reduceLT, Nat.reduceLeDiff, Nat.reduceAdd, Nat.reduceMul, Nat.reduceSub, Nat.reduceBEq, Int.reduceToNat, cond_true, cond_false, eq_self, beq_self_eq_true, ha, e, fa, fb, fa', fb', hxa, hla, hxp, hlp, newPtr_X wf, load1_X wf, loadAgg_X wf, store1_X wf, writeCells_X wf, makeFunc_def, tEvsD5, bsl_25, bsl_36, bsl_35, bsl_40, bsl_259, newSlice_X wf]; first | (refine dec_split (Q := Q_) (fun hp_ => ?_) (fun hp_ => ?_) <;> first | (exfalso; omega) | (refine hQ_ _ _ ?_; clear hQ_ Q_)) | (refine dec_splitn (Q := Q_) (fun hp_ => ?_) (fun hp_ => ?_) <;> first | (exfalso; omega) | (refine hQ_ _ _ ?_; clear hQ_ Q_)) | (refine hQ_ _ _ ?_; clear hQ_ Q_)))
  | (refine WC_cond fun K_ hK_ => ?_; simp (disch := omega) only [evT_tmp, upd_apply, WB_some, ↓reduceIte, reduceCtorEq, Nat.reduceEqDiff, Nat.reduceLT]; refine hK_ _ ?_; clear hK_ K_)))
    refine WC_drawnB [.no, .no, .no, .no, .no, .no, .no, .no, .no, .no, .no, .no, .no, .no, .full] (by kernel_rfl) ?_
    (repeat' (first
  | (with_reducible first | refine WC_seq ?_ | refine WC_skip ?_ | refine WC_label ?_ | refine WC_scope ?_ | refine WC_block ?_ | refine WC_ret ?_ | refine WC_exit ?_ | refine seqQ_norm ?_ | refine seqQ_ret ?_ | refine seqQ_exit ?_ | refine blkQ_norm ?_ | refine blkQ_ret ?_ | refine blkQ_here ?_ | refine gateK_yes ?_ | refine gateK_none ?_ | refine condK_tt ?_ | refine condK_ff ?_ | refine roundQ_exit ?_ | refine roundQ_ret ?_)
  | refine WC_region ?_ | refine blkQ_out rfl ?_ | refine WO_nil ?_ | refine WD_nil ?_
  | ((first | refine WD_gate rfl rfl rfl rfl rfl fun K_ hK_ => ?_ | refine WO_gate rfl rfl rfl rfl rfl fun K_ hK_ => ?_); simp only [upd_apply, asB_bool, asB_tup, ↓reduceIte, reduceCtorEq, Nat.reduceEqDiff, Bool.not_true, Bool.not_false]; refine hK_ _ ?_; clear hK_ K_)
  | refine gateK_no (by decide) ?_
  | ((try first | refine WO_op rfl rfl rfl ?_ | refine WO_op0 rfl rfl ?_ | refine WD_op rfl rfl rfl ?_ | refine WD_op0 rfl rfl ?_); (refine WV_gen fun Q_ hQ_ => ?_; simp (disch := first | omega | (simp only [List.length_cons, List.length_nil, List.length_append]; omega)) only [bb, bp, argF, ↓reduceIte, reduceCtorEq, Nat.reduceEqDiff, Nat.reduceLT, Nat.reduceLeDiff, Nat.reduceAdd, Nat.reduceMul, Nat.reduceSub, Nat.reduceBEq, Int.reduceToNat, cond_true, cond_false, eq_self, beq_self_eq_true, ha, e, fa, fb, fa', fb', hxb, hlb, hxq, hlq, b_quo hz, hdv, newPtr_X wf, load1_X wf, loadAgg_X wf, store1_X wf, writeCells_X wf, makeFunc_def, tEvsD5, bsl_25, bsl_36, bsl_35, bsl_40, bsl_259, newSlice_X wf]; first | (refine dec_split (Q := Q_) (fun hp_ => ?_) (fun hp_ => ?_) <;> first | (exfalso; omega) | (refine hQ_ _ _ ?_; clear hQ_ Q_)) | (refine dec_splitn (Q := Q_) (fun hp_ => ?_) (fun hp_ => ?_) <;> first | (exfalso; omega) | (refine hQ_ _ _ ?_; clear hQ_ Q_)) | (refine hQ_ _ _ ?_; clear hQ_ Q_)))
  | (refine WC_cond fun K_ hK_ => ?_; simp (disch := omega) only [evT_tmp, upd_apply, WB_some, ↓reduceIte, reduceCtorEq, Nat.reduceEqDiff, Nat.reduceLT]; refine hK_ _ ?_; clear hK_ K_)))
    (refine endQ_ret _ _ rfl (ret1 (by decide)) ?_; simp only [upd_apply, ↓reduceIte, reduceCtorEq, Nat.reduceEqDiff]; refine WV_flat rfl (by omega) ?_)
    exact ⟨rfl, rfl⟩

/-- What the friction of a line at a number is, or the error. -/
def fricErr (re cf : List Int) (r : Int) : Int := if lineErr re cf ≠ 0 then lineErr re cf else if has re r then 0 else 19
def fricVal (re cf : List Int) (r : Int) : Int := if lineErr re cf ≠ 0 then 0 else if has re r then fr re cf r else 0
theorem fric_has {re cf : List Int} {r : Int} (k : okL re cf) (hh : has re r) : fricVal re cf r = fr re cf r ∧ fricErr re cf r = 0 := by
  have hz := lineErr_zero.2 k
  simp [fricVal, fricErr, hz, hh]
theorem fric_out {re cf : List Int} {r : Int} (k : okL re cf) (hh : ¬ has re r) : fricVal re cf r = 0 ∧ fricErr re cf r = 19 := by
  have hz := lineErr_zero.2 k
  simp [fricVal, fricErr, hz, hh]
theorem fric_err {re cf : List Int} {r : Int} (k : ¬ lineErr re cf = 0) : fricVal re cf r = 0 ∧ fricErr re cf r = lineErr re cf := by
  simp [fricVal, fricErr, k]
theorem Friction (a b : AV) (re cf : List Int) (r : Int) (h : H) (x : LineR h a b re cf) : (om Tryz.prog KK).call (.fn 8 [.agg [a, b], ii r]) h = .ok (.tup [ii (fricVal re cf r), ii (fricErr re cf r)]) h := by
  have wf := x.wf
  obtain ⟨⟨fa, fa'⟩, ⟨fb, fb'⟩⟩ := x.flats
  refine WV_to (WV_call (fn := Tryz.f8) Tryz.func8 rfl rfl rfl rfl rfl ?_)
  simp only [argF]
  by_cases hz : lineErr re cf = 0
  · have k := lineErr_zero.1 hz
    by_cases hh : has re r
    · have hhd : decide (has re r) = true := decide_eq_true hh
      (repeat' (first
  | (with_reducible first | refine WC_seq ?_ | refine WC_skip ?_ | refine WC_label ?_ | refine WC_scope ?_ | refine WC_block ?_ | refine WC_ret ?_ | refine WC_exit ?_ | refine seqQ_norm ?_ | refine seqQ_ret ?_ | refine seqQ_exit ?_ | refine blkQ_norm ?_ | refine blkQ_ret ?_ | refine blkQ_here ?_ | refine gateK_yes ?_ | refine gateK_none ?_ | refine condK_tt ?_ | refine condK_ff ?_ | refine roundQ_exit ?_ | refine roundQ_ret ?_)
  | refine WC_region ?_ | refine blkQ_out rfl ?_ | refine WO_nil ?_ | refine WD_nil ?_
  | ((first | refine WD_gate rfl rfl rfl rfl rfl fun K_ hK_ => ?_ | refine WO_gate rfl rfl rfl rfl rfl fun K_ hK_ => ?_); simp only [upd_apply, asB_bool, asB_tup, ↓reduceIte, reduceCtorEq, Nat.reduceEqDiff, Bool.not_true, Bool.not_false]; refine hK_ _ ?_; clear hK_ K_)
  | refine gateK_no (by decide) ?_
  | ((try first | refine WO_op rfl rfl rfl ?_ | refine WO_op0 rfl rfl ?_ | refine WD_op rfl rfl rfl ?_ | refine WD_op0 rfl rfl ?_); (refine WV_gen fun Q_ hQ_ => ?_; simp (disch := first | omega | (simp only [List.length_cons, List.length_nil, List.length_append]; omega)) only [bb, bp, argF, ↓reduceIte, reduceCtorEq, Nat.reduceEqDiff, Nat.reduceLT, Nat.reduceLeDiff, Nat.reduceAdd, Nat.reduceMul, Nat.reduceSub, Nat.reduceBEq, Int.reduceToNat, cond_true, cond_false, eq_self, beq_self_eq_true, fa, fb, fa', fb', hhd, newPtr_X wf, load1_X wf, loadAgg_X wf, store1_X wf, writeCells_X wf, makeFunc_def, tEvsD5, bsl_25, bsl_36, bsl_35, bsl_40, bsl_259, newSlice_X wf]; first | (refine dec_split (Q := Q_) (fun hp_ => ?_) (fun hp_ => ?_) <;> first | (exfalso; omega) | (refine hQ_ _ _ ?_; clear hQ_ Q_)) | (refine dec_splitn (Q := Q_) (fun hp_ => ?_) (fun hp_ => ?_) <;> first | (exfalso; omega) | (refine hQ_ _ _ ?_; clear hQ_ Q_)) | (refine hQ_ _ _ ?_; clear hQ_ Q_) | (refine WV_eq (CheckLine a b re cf _ (x.up _ _ (by simp only [List.length_append, List.length_cons, List.length_nil]; omega))) ?_; refine hQ_ _ _ ?_; clear hQ_ Q_) | (refine WV_eq ((hasC a b re cf r _ (x.up _ _ (by simp only [List.length_append, List.length_cons, List.length_nil]; omega)) k.n).trans (by rw [hhd])) ?_; refine hQ_ _ _ ?_; clear hQ_ Q_) | (refine WV_eq (friction a b re cf r _ (x.up _ _ (by simp only [List.length_append, List.length_cons, List.length_nil]; omega)) k hh) ?_; refine hQ_ _ _ ?_; clear hQ_ Q_)))
  | (refine WC_cond fun K_ hK_ => ?_; simp (disch := omega) only [evT_tmp, upd_apply, WB_some, ↓reduceIte, reduceCtorEq, Nat.reduceEqDiff, Nat.reduceLT]; refine hK_ _ ?_; clear hK_ K_)))
      (refine endQ_ret _ _ rfl (ret2 (by decide) (by decide)) ?_; simp only [upd_apply, ↓reduceIte, reduceCtorEq, Nat.reduceEqDiff]; refine WV_flat rfl (by omega) ?_)
      refine ⟨?_, rfl⟩
      rw [(fric_has k hh).1, (fric_has k hh).2]
    · have hhd : decide (has re r) = false := decide_eq_false hh
      (repeat' (first
  | (with_reducible first | refine WC_seq ?_ | refine WC_skip ?_ | refine WC_label ?_ | refine WC_scope ?_ | refine WC_block ?_ | refine WC_ret ?_ | refine WC_exit ?_ | refine seqQ_norm ?_ | refine seqQ_ret ?_ | refine seqQ_exit ?_ | refine blkQ_norm ?_ | refine blkQ_ret ?_ | refine blkQ_here ?_ | refine gateK_yes ?_ | refine gateK_none ?_ | refine condK_tt ?_ | refine condK_ff ?_ | refine roundQ_exit ?_ | refine roundQ_ret ?_)
  | refine WC_region ?_ | refine blkQ_out rfl ?_ | refine WO_nil ?_ | refine WD_nil ?_
  | ((first | refine WD_gate rfl rfl rfl rfl rfl fun K_ hK_ => ?_ | refine WO_gate rfl rfl rfl rfl rfl fun K_ hK_ => ?_); simp only [upd_apply, asB_bool, asB_tup, ↓reduceIte, reduceCtorEq, Nat.reduceEqDiff, Bool.not_true, Bool.not_false]; refine hK_ _ ?_; clear hK_ K_)
  | refine gateK_no (by decide) ?_
  | ((try first | refine WO_op rfl rfl rfl ?_ | refine WO_op0 rfl rfl ?_ | refine WD_op rfl rfl rfl ?_ | refine WD_op0 rfl rfl ?_); (refine WV_gen fun Q_ hQ_ => ?_; simp (disch := first | omega | (simp only [List.length_cons, List.length_nil, List.length_append]; omega)) only [bb, bp, argF, ↓reduceIte, reduceCtorEq, Nat.reduceEqDiff, Nat.reduceLT, Nat.reduceLeDiff, Nat.reduceAdd, Nat.reduceMul, Nat.reduceSub, Nat.reduceBEq, Int.reduceToNat, cond_true, cond_false, eq_self, beq_self_eq_true, fa, fb, fa', fb', hhd, newPtr_X wf, load1_X wf, loadAgg_X wf, store1_X wf, writeCells_X wf, makeFunc_def, tEvsD5, bsl_25, bsl_36, bsl_35, bsl_40, bsl_259, newSlice_X wf]; first | (refine dec_split (Q := Q_) (fun hp_ => ?_) (fun hp_ => ?_) <;> first | (exfalso; omega) | (refine hQ_ _ _ ?_; clear hQ_ Q_)) | (refine dec_splitn (Q := Q_) (fun hp_ => ?_) (fun hp_ => ?_) <;> first | (exfalso; omega) | (refine hQ_ _ _ ?_; clear hQ_ Q_)) | (refine hQ_ _ _ ?_; clear hQ_ Q_) | (refine WV_eq (CheckLine a b re cf _ (x.up _ _ (by simp only [List.length_append, List.length_cons, List.length_nil]; omega))) ?_; refine hQ_ _ _ ?_; clear hQ_ Q_) | (refine WV_eq ((hasC a b re cf r _ (x.up _ _ (by simp only [List.length_append, List.length_cons, List.length_nil]; omega)) k.n).trans (by rw [hhd])) ?_; refine hQ_ _ _ ?_; clear hQ_ Q_)))
  | (refine WC_cond fun K_ hK_ => ?_; simp (disch := omega) only [evT_tmp, upd_apply, WB_some, ↓reduceIte, reduceCtorEq, Nat.reduceEqDiff, Nat.reduceLT]; refine hK_ _ ?_; clear hK_ K_)))
      (refine endQ_ret _ _ rfl (ret2 (by decide) (by decide)) ?_; simp only [upd_apply, ↓reduceIte, reduceCtorEq, Nat.reduceEqDiff]; refine WV_flat rfl (by omega) ?_)
      refine ⟨?_, rfl⟩
      rw [(fric_out k hh).1, (fric_out k hh).2]
  · (repeat' (first
  | (with_reducible first | refine WC_seq ?_ | refine WC_skip ?_ | refine WC_label ?_ | refine WC_scope ?_ | refine WC_block ?_ | refine WC_ret ?_ | refine WC_exit ?_ | refine seqQ_norm ?_ | refine seqQ_ret ?_ | refine seqQ_exit ?_ | refine blkQ_norm ?_ | refine blkQ_ret ?_ | refine blkQ_here ?_ | refine gateK_yes ?_ | refine gateK_none ?_ | refine condK_tt ?_ | refine condK_ff ?_ | refine roundQ_exit ?_ | refine roundQ_ret ?_)
  | refine WC_region ?_ | refine blkQ_out rfl ?_ | refine WO_nil ?_ | refine WD_nil ?_
  | ((first | refine WD_gate rfl rfl rfl rfl rfl fun K_ hK_ => ?_ | refine WO_gate rfl rfl rfl rfl rfl fun K_ hK_ => ?_); simp only [upd_apply, asB_bool, asB_tup, ↓reduceIte, reduceCtorEq, Nat.reduceEqDiff, Bool.not_true, Bool.not_false]; refine hK_ _ ?_; clear hK_ K_)
  | refine gateK_no (by decide) ?_
  | ((try first | refine WO_op rfl rfl rfl ?_ | refine WO_op0 rfl rfl ?_ | refine WD_op rfl rfl rfl ?_ | refine WD_op0 rfl rfl ?_); (refine WV_gen fun Q_ hQ_ => ?_; simp (disch := first | omega | (simp only [List.length_cons, List.length_nil, List.length_append]; omega)) only [bb, bp, argF, ↓reduceIte, reduceCtorEq, Nat.reduceEqDiff, Nat.reduceLT, Nat.reduceLeDiff, Nat.reduceAdd, Nat.reduceMul, Nat.reduceSub, Nat.reduceBEq, Int.reduceToNat, cond_true, cond_false, eq_self, beq_self_eq_true, fa, fb, fa', fb', newPtr_X wf, load1_X wf, loadAgg_X wf, store1_X wf, writeCells_X wf, makeFunc_def, tEvsD5, bsl_25, bsl_36, bsl_35, bsl_40, bsl_259, newSlice_X wf]; first | (refine dec_split (Q := Q_) (fun hp_ => ?_) (fun hp_ => ?_) <;> first | (exfalso; omega) | (refine hQ_ _ _ ?_; clear hQ_ Q_)) | (refine dec_splitn (Q := Q_) (fun hp_ => ?_) (fun hp_ => ?_) <;> first | (exfalso; omega) | (refine hQ_ _ _ ?_; clear hQ_ Q_)) | (refine hQ_ _ _ ?_; clear hQ_ Q_) | (refine WV_eq (CheckLine a b re cf _ (x.up _ _ (by simp only [List.length_append, List.length_cons, List.length_nil]; omega))) ?_; refine hQ_ _ _ ?_; clear hQ_ Q_)))
  | (refine WC_cond fun K_ hK_ => ?_; simp (disch := omega) only [evT_tmp, upd_apply, WB_some, ↓reduceIte, reduceCtorEq, Nat.reduceEqDiff, Nat.reduceLT]; refine hK_ _ ?_; clear hK_ K_)))
    (refine endQ_ret _ _ rfl (ret2 (by decide) (by decide)) ?_; simp only [upd_apply, ↓reduceIte, reduceCtorEq, Nat.reduceEqDiff]; refine WV_flat rfl (by omega) ?_)
    refine ⟨?_, rfl⟩
    rw [(fric_err hz).1, (fric_err hz).2]
end Go.Proofs.YtdaecfjljelneaaGreatDoor
end

/- EvE1 -/
section
/-
  LISTS ALONE: how often a sequence of numbers turns and how much it bends; a line
  that is drawn finer, number by number, between points that lie m apart, turns as
  often, and its points bend m times as much.
-/
namespace Go.Ev

def nS (s d : Int) : Int := if 0 < d then 1 else if d < 0 then 2 else s
def cG (s d : Int) : Int := if s ≠ 0 ∧ s ≠ nS s d then 1 else 0
structure Bt where
  s : Int
  ch : Int
  be : Int
def dSt (t : Bt) (d : Int) : Bt := ⟨nS t.s d, t.ch + cG t.s d, t.be + max d (0 - d)⟩
def GF (F : Nat → Int) : Nat → Bt
  | 0 => ⟨0, 0, 0⟩
  | k + 1 => dSt (GF F k) (F k - 2 * F (k + 1) + F (k + 2))

theorem nS_zero (s : Int) : nS s 0 = s := by simp [nS]
theorem dSt_zero (t : Bt) : dSt t 0 = t := by
  unfold dSt cG
  rw [nS_zero]
  simp
theorem nS_scale {m : Int} (hm : 0 < m) (s d : Int) : nS s (m * d) = nS s d := by
  unfold nS
  have h1 : (0 < m * d) ↔ 0 < d := ⟨fun h => by
    by_cases hd : 0 < d
    · exact hd
    · exact absurd (Int.mul_nonpos_of_nonneg_of_nonpos (by omega : 0 ≤ m) (by omega : d ≤ 0)) (by omega), fun h => Int.mul_pos hm h⟩
  have h2 : (m * d < 0) ↔ d < 0 := ⟨fun h => by
    by_cases hd : d < 0
    · exact hd
    · exact absurd (Int.mul_nonneg (by omega : 0 ≤ m) (by omega : 0 ≤ d)) (by omega), fun h => Int.mul_neg_of_pos_of_neg hm h⟩
  simp only [h1, h2]
theorem max_scale {m : Int} (hm : 0 < m) (d : Int) : max (m * d) (0 - m * d) = m * max d (0 - d) := by
  by_cases hd : 0 ≤ d
  · have h := Int.mul_nonneg (by omega : 0 ≤ m) hd
    rw [show max d (0 - d) = d by omega]; omega
  · have h := Int.mul_nonpos_of_nonneg_of_nonpos (by omega : 0 ≤ m) (by omega : d ≤ 0)
    rw [show max d (0 - d) = 0 - d by omega, Int.mul_sub]; omega
theorem dSt_scale {m : Int} (hm : 0 < m) (t : Bt) (d : Int) : dSt ⟨t.s, t.ch, m * t.be⟩ (m * d) = ⟨(dSt t d).s, (dSt t d).ch, m * (dSt t d).be⟩ := by
  unfold dSt cG
  simp only [nS_scale hm, max_scale hm, Int.mul_add]

theorem fine_coarse {m n : Nat} (hm : 0 < m) {v C F : Nat → Int} (hC : ∀ j, j < n → C (j + 1) = C j - (m : Int) * v j)
    (hF : ∀ j i : Nat, j < n → i ≤ m → F (m * j + i) = C j - v j * (i : Int)) :
    ∀ k, k < m * n → GF C (k / m) = ⟨(GF F k).s, (GF F k).ch, (m : Int) * (GF F k).be⟩
  | 0, _ => by simp [GF]
  | k + 1, hk => by
    have ih := fine_coarse hm hC hF k (by omega)
    generalize hj : k / m = j at ih
    have hdm := Nat.div_add_mod k m
    rw [hj] at hdm
    generalize hi : k % m = i at hdm
    have him : i < m := hi ▸ Nat.mod_lt _ hm
    have hjn : j < n := Nat.lt_of_mul_lt_mul_left (a := m) (by omega)
    have e0 : F k = C j - v j * (i : Int) := by rw [← hdm]; exact hF j i hjn (by omega)
    have e1 : F (k + 1) = C j - v j * ((i : Int) + 1) := by
      have := hF j (i + 1) hjn (by omega)
      rw [show m * j + (i + 1) = k + 1 by omega] at this
      rw [this]; push_cast; rfl
    by_cases hl : i + 1 < m
    · have hd : (k + 1) / m = j := by
        rw [show k + 1 = m * j + (i + 1) by omega, Nat.mul_add_div hm, Nat.div_eq_of_lt hl]; omega
      have e2 : F (k + 2) = C j - v j * ((i : Int) + 2) := by
        have := hF j (i + 2) hjn (by omega)
        rw [show m * j + (i + 2) = k + 2 by omega] at this
        rw [this]; push_cast; rfl
      have hz : F k - 2 * F (k + 1) + F (k + 2) = 0 := by
        rw [e0, e1, e2, Int.mul_add, Int.mul_add]; omega
      rw [hd, ih]
      show _ = (⟨(dSt (GF F k) _).s, (dSt (GF F k) _).ch, _ * (dSt (GF F k) _).be⟩ : Bt)
      rw [hz, dSt_zero]
    · have him1 : i + 1 = m := by omega
      have hmj : m * (j + 1) = k + 1 := by rw [Nat.mul_add]; omega
      have hd : (k + 1) / m = j + 1 := by rw [← hmj, Nat.mul_div_cancel_left _ hm]
      have hjn1 : j + 1 < n := Nat.lt_of_mul_lt_mul_left (a := m) (by omega)
      have c1 := hC j hjn
      have c2 := hC (j + 1) hjn1
      have e2 : F (k + 2) = C (j + 1) - v (j + 1) := by
        have := hF (j + 1) 1 hjn1 (by omega)
        rw [hmj] at this
        rw [this]; simp
      have hi1 : (i : Int) = (m : Int) - 1 := by omega
      have hz : F k - 2 * F (k + 1) + F (k + 2) = v j - v (j + 1) := by
        rw [e0, e1, e2, c1, hi1, Int.mul_comm (m : Int)]; simp only [Int.mul_sub, Int.mul_add, Int.mul_one]; omega
      have hzc : C j - 2 * C (j + 1) + C (j + 2) = (m : Int) * (v j - v (j + 1)) := by
        rw [c2, c1]; simp only [Int.mul_sub]; omega
      rw [hd]
      show dSt (GF C j) _ = (⟨(dSt (GF F k) _).s, (dSt (GF F k) _).ch, _ * (dSt (GF F k) _).be⟩ : Bt)
      rw [hz, hzc, ih, dSt_scale (by omega)]
end Go.Ev
end

/- EvsE3 -/
section
/-
  LAYER 4: the friction between points that are as far from each other.
-/
namespace Go.Proofs.YtdaecfjljelneaaGreatDoor
open Go.Ev
set_option maxRecDepth 100000
set_option linter.unusedSimpArgs false
set_option linter.unusedVariables false
set_option maxHeartbeats 2000000
/-- Points as far from each other. -/
def reS (f m n : Nat) : List Int := (List.range (n + 1)).map fun j => ((f + m * j : Nat) : Int)
def cfS (C : Nat → Int) (n : Nat) : List Int := (List.range (n + 1)).map C
theorem reS_len (f m n : Nat) : (reS f m n).length = n + 1 := by simp [reS]
theorem cfS_len (C : Nat → Int) (n : Nat) : (cfS C n).length = n + 1 := by simp [cfS]
theorem reS_at {f m n j : Nat} (h : j ≤ n) : (reS f m n).getD j 0 = ((f + m * j : Nat) : Int) := by
  rw [gd (by rw [reS_len]; omega)]; simp [reS]
theorem cfS_at {C : Nat → Int} {n j : Nat} (h : j ≤ n) : (cfS C n).getD j 0 = C j := by
  rw [gd (by rw [cfS_len]; omega)]; simp [cfS]
theorem fr_fine {f m n : Nat} (hm : 0 < m) {v C : Nat → Int} (hC : ∀ j, j < n → C (j + 1) = C j - (m : Int) * v j) {j i : Nat} (hj : j < n) (hi : i ≤ m) :
    fr (reS f m n) (cfS C n) ((f + (m * j + i) : Nat) : Int) = C j - v j * (i : Int) := by
  have low : ∀ {j i : Nat}, j < n → i < m → fr (reS f m n) (cfS C n) ((f + (m * j + i) : Nat) : Int) = C j - v j * (i : Int) := by
    intro j i hj hi
    have hb : beh (reS f m n) ((f + (m * j + i) : Nat) : Int) = j + 1 := by
      refine beh_at (by rw [reS_len]; omega) ?_ fun j' hj' => ?_
      · rw [reS_at (by omega), Nat.mul_add]; omega
      · rw [reS_at (by omega)]
        have := Nat.mul_le_mul_left m (show j' ≤ j by omega)
        omega
    unfold fr
    rw [hb, if_neg (by rw [reS_len]; omega)]
    unfold mid
    rw [Nat.add_sub_cancel, reS_at (by omega), reS_at (by omega), cfS_at (by omega), cfS_at (by omega), hC j hj, Nat.mul_add]
    have e1 : C j - (C j - (m : Int) * v j) = (m : Int) * v j := by omega
    have e2 : ((f + (m * j + i) : Nat) : Int) - ((f + m * j : Nat) : Int) = (i : Int) := by omega
    have e3 : ((f + (m * j + m * 1) : Nat) : Int) - ((f + m * j : Nat) : Int) = (m : Int) := by omega
    rw [e1, e2, e3, Int.mul_assoc, Int.mul_ediv_cancel_left _ (by omega)]
  by_cases e : i < m
  · exact low hj e
  · have ei : i = m := by omega
    subst ei
    by_cases ej : j + 1 < n
    · have := low (j := j + 1) (i := 0) ej hm
      rw [Nat.mul_add, Nat.mul_one, Nat.add_zero] at this
      rw [this, hC j hj, Int.mul_comm]; simp
    · have ej' : j + 1 = n := by omega
      have hb : beh (reS f i n) ((f + (i * j + i) : Nat) : Int) = (reS f i n).length := by
        refine beh_end fun j' hj' => ?_
        rw [reS_len] at hj'
        rw [reS_at (by omega)]
        have := Nat.mul_le_mul_left i (show j' ≤ j + 1 by omega)
        rw [Nat.mul_add] at this
        omega
      unfold fr
      rw [if_pos hb, reS_len, Nat.add_sub_cancel, cfS_at (Nat.le_refl _), ← ej', hC j hj, Int.mul_comm]
end Go.Proofs.YtdaecfjljelneaaGreatDoor
end

/- EvsE2 -/
section
/-
  LAYERS 1 AND 4: what a fine line measures.
-/
namespace Go.Proofs.YtdaecfjljelneaaGreatDoor
open Go.Ev
set_option maxRecDepth 100000
set_option linter.unusedSimpArgs false
set_option linter.unusedVariables false
set_option maxHeartbeats 4000000
theorem gf_mfold (F : Nat → Int) : ∀ k, mfold (F 0) (F 1) ((List.range k).map fun i => F (i + 2)) = ⟨F k, F (k + 1), (GF F k).s, (GF F k).ch, (GF F k).be⟩
  | 0 => rfl
  | k + 1 => by
    rw [List.range_succ, List.map_append, List.map_cons, List.map_nil, mfold_snoc, gf_mfold F k]; rfl
theorem measOf_range (F : Nat → Int) (n : Nat) : measOf ((List.range (n + 2)).map F) = ((GF F n).ch, (GF F n).be) := by
  have e : (List.range (n + 2)).map F = F 0 :: F 1 :: (List.range n).map fun i => F (i + 2) := by
    rw [List.range_succ_eq_map, List.range_succ_eq_map]
    simp [Function.comp_def]
  rw [e]
  show ((mfold _ _ _).ch, (mfold _ _ _).be) = _
  rw [gf_mfold]
/-- A line drawn number by number turns as often as its points, which bend so many times as much. -/
theorem meas_fine {f m n : Nat} (hm : 0 < m) (hn : 0 < n) {v C : Nat → Int} (hC : ∀ j, j < n → C (j + 1) = C j - (m : Int) * v j) :
    measOf (cfS C n) = ((measOf ((List.range (m * n + 1)).map fun k => fr (reS f m n) (cfS C n) ((f + k : Nat) : Int))).1, (m : Int) * (measOf ((List.range (m * n + 1)).map fun k => fr (reS f m n) (cfS C n) ((f + k : Nat) : Int))).2) := by
  obtain ⟨p, rfl⟩ : ∃ p, n = p + 1 := ⟨n - 1, by omega⟩
  have hmn : 0 < m * (p + 1) := Nat.mul_pos hm (by omega)
  obtain ⟨q, hq⟩ : ∃ q, m * (p + 1) = q + 1 := ⟨m * (p + 1) - 1, by omega⟩
  have h := fine_coarse (F := fun k => fr (reS f m (p + 1)) (cfS C (p + 1)) ((f + k : Nat) : Int)) hm hC (fun j i hj hi => fr_fine hm hC hj hi) q (by omega)
  have hd : q / m = p := by
    have hq' : q = m * p + (m - 1) := by rw [Nat.mul_add] at hq; omega
    rw [hq', Nat.mul_add_div hm, Nat.div_eq_of_lt (by omega)]; omega
  rw [hd] at h
  rw [hq, show cfS C (p + 1) = (List.range (p + 2)).map C from rfl, measOf_range, measOf_range, h]
  rfl
end Go.Proofs.YtdaecfjljelneaaGreatDoor
end

/- EvsE5 -/
section
/-
  LAYERS 1 TO 4: the closed parts.
-/
namespace Go.Proofs.YtdaecfjljelneaaGreatDoor
open Go.Ev
set_option maxRecDepth 100000
set_option linter.unusedSimpArgs false
set_option linter.unusedVariables false
set_option maxHeartbeats 4000000
theorem tEvsE5 : type_of% (And.intro (And.intro (And.intro (And.intro (And.intro (And.intro (And.intro (@bs_27) (@bs_44)) (And.intro (@bs_46) (And.intro (@bs_53) (@bs_82)))) (And.intro (And.intro (@bs_92) (@bs_179)) (And.intro (@bs_250) (And.intro (@bs_254) (@ia_2))))) (And.intro (And.intro (And.intro (@sz_2) (@ia_3)) (And.intro (@sz_3) (And.intro (@ia_4) (@sz_4)))) (And.intro (And.intro (@ia_25) (@sz_25)) (And.intro (@ia_27) (And.intro (@sz_27) (@ia_28)))))) (And.intro (And.intro (And.intro (And.intro (@sz_28) (@ia_44)) (And.intro (@sz_44) (And.intro (@ia_46) (@sz_46)))) (And.intro (And.intro (@ia_53) (@sz_53)) (And.intro (@ia_36) (And.intro (@sz_36) (@ia_35))))) (And.intro (And.intro (And.intro (@sz_35) (@ia_37)) (And.intro (@sz_37) (And.intro (@ia_38) (@sz_38)))) (And.intro (And.intro (@ia_82) (@sz_82)) (And.intro (@ia_84) (And.intro (@sz_84) (@ia_118))))))) (And.intro (And.intro (And.intro (And.intro (And.intro (@sz_118) (@ia_90)) (And.intro (@sz_90) (And.intro (@ia_92) (@sz_92)))) (And.intro (And.intro (@ia_85) (@sz_85)) (And.intro (@ia_179) (And.intro (@sz_179) (@ia_93))))) (And.intro (And.intro (And.intro (@sz_93) (@ia_40)) (And.intro (@sz_40) (And.intro (@ia_250) (@sz_250)))) (And.intro (And.intro (@ia_253) (@sz_253)) (And.intro (@ia_259) (And.intro (@sz_259) (@ia_261)))))) (And.intro (And.intro (And.intro (And.intro (@sz_261) (@ia_256)) (And.intro (@sz_256) (And.intro (@ia_257) (@sz_257)))) (And.intro (And.intro (@ia_254) (@sz_254)) (And.intro (@ia_278) (And.intro (@sz_278) (@ze_2))))) (And.intro (And.intro (And.intro (@ze_3) (@ze_4)) (And.intro (@ze_27) (And.intro (@ze_28) (@ze_44)))) (And.intro (And.intro (@ze_46) (@ze_53)) (And.intro (@ze_82) (And.intro (@ze_92) (@ze_179)))))))) (And.intro (And.intro (And.intro (And.intro (And.intro (And.intro (@ze_250) (@ze_254)) (And.intro (@fo_27_0) (And.intro (@fo_27_1) (@fo_44_0)))) (And.intro (And.intro (@fo_44_1) (@fo_46_0)) (And.intro (@fo_46_1) (And.intro (@fo_46_2) (@fo_46_3))))) (And.intro (And.intro (And.intro (@fo_46_4) (@fo_46_5)) (And.intro (@fo_46_6) (And.intro (@fo_46_7) (@fo_46_8)))) (And.intro (And.intro (@fo_46_9) (@fo_53_0)) (And.intro (@fo_53_1) (And.intro (@fo_53_2) (@fo_53_3)))))) (And.intro (And.intro (And.intro (And.intro (@fo_53_4) (@fo_53_5)) (And.intro (@fo_82_0) (And.intro (@fo_92_0) (@fo_92_1)))) (And.intro (And.intro (@fo_179_0) (@fo_179_1)) (And.intro (@fo_179_2) (And.intro (@fo_250_0) (@fo_250_1))))) (And.intro (And.intro (And.intro (@pb_29) (@pb_8)) (And.intro (@pb_31) (And.intro (@pb_7) (@pb_19)))) (And.intro (And.intro (@pb_38) (@pb_14)) (And.intro (@pb_42) (And.intro (@pb_11) (@pb_13))))))) (And.intro (And.intro (And.intro (And.intro (And.intro (@pb_95) (@pb_15)) (And.intro (@pb_92) (And.intro (@pb_93) (@pb_94)))) (And.intro (And.intro (@pb_32) (@pb_33)) (And.intro (@pb_96) (And.intro (@pb_30) (@pb_57))))) (And.intro (And.intro (And.intro (@pb_100) (@pb_43)) (And.intro (@pb_44) (And.intro (@pb_45) (@pb_46)))) (And.intro (And.intro (@pb_105) (@pb_106)) (And.intro (@pb_37) (And.intro (@pb_40) (@pb_41)))))) (And.intro (And.intro (And.intro (And.intro (@pb_36) (@pb_12)) (And.intro (@pb_101) (And.intro (@pb_158) (@pb_159)))) (And.intro (And.intro (@pb_160) (@pb_161)) (And.intro (@pb_47) (And.intro (@pb_97) (@pb_107))))) (And.intro (And.intro (And.intro (@pb_108) (@pb_165)) (And.intro (@pb_102) (And.intro (@pb_103) (@pb_104)))) (And.intro (And.intro (@pb_39) (And.intro (@pb_164) (@pb_192))) (And.intro (@pb_163) (And.intro (@pb_190) (@pb_191))))))))) := And.intro (And.intro (And.intro (And.intro (And.intro (And.intro (And.intro (@bs_27) (@bs_44)) (And.intro (@bs_46) (And.intro (@bs_53) (@bs_82)))) (And.intro (And.intro (@bs_92) (@bs_179)) (And.intro (@bs_250) (And.intro (@bs_254) (@ia_2))))) (And.intro (And.intro (And.intro (@sz_2) (@ia_3)) (And.intro (@sz_3) (And.intro (@ia_4) (@sz_4)))) (And.intro (And.intro (@ia_25) (@sz_25)) (And.intro (@ia_27) (And.intro (@sz_27) (@ia_28)))))) (And.intro (And.intro (And.intro (And.intro (@sz_28) (@ia_44)) (And.intro (@sz_44) (And.intro (@ia_46) (@sz_46)))) (And.intro (And.intro (@ia_53) (@sz_53)) (And.intro (@ia_36) (And.intro (@sz_36) (@ia_35))))) (And.intro (And.intro (And.intro (@sz_35) (@ia_37)) (And.intro (@sz_37) (And.intro (@ia_38) (@sz_38)))) (And.intro (And.intro (@ia_82) (@sz_82)) (And.intro (@ia_84) (And.intro (@sz_84) (@ia_118))))))) (And.intro (And.intro (And.intro (And.intro (And.intro (@sz_118) (@ia_90)) (And.intro (@sz_90) (And.intro (@ia_92) (@sz_92)))) (And.intro (And.intro (@ia_85) (@sz_85)) (And.intro (@ia_179) (And.intro (@sz_179) (@ia_93))))) (And.intro (And.intro (And.intro (@sz_93) (@ia_40)) (And.intro (@sz_40) (And.intro (@ia_250) (@sz_250)))) (And.intro (And.intro (@ia_253) (@sz_253)) (And.intro (@ia_259) (And.intro (@sz_259) (@ia_261)))))) (And.intro (And.intro (And.intro (And.intro (@sz_261) (@ia_256)) (And.intro (@sz_256) (And.intro (@ia_257) (@sz_257)))) (And.intro (And.intro (@ia_254) (@sz_254)) (And.intro (@ia_278) (And.intro (@sz_278) (@ze_2))))) (And.intro (And.intro (And.intro (@ze_3) (@ze_4)) (And.intro (@ze_27) (And.intro (@ze_28) (@ze_44)))) (And.intro (And.intro (@ze_46) (@ze_53)) (And.intro (@ze_82) (And.intro (@ze_92) (@ze_179)))))))) (And.intro (And.intro (And.intro (And.intro (And.intro (And.intro (@ze_250) (@ze_254)) (And.intro (@fo_27_0) (And.intro (@fo_27_1) (@fo_44_0)))) (And.intro (And.intro (@fo_44_1) (@fo_46_0)) (And.intro (@fo_46_1) (And.intro (@fo_46_2) (@fo_46_3))))) (And.intro (And.intro (And.intro (@fo_46_4) (@fo_46_5)) (And.intro (@fo_46_6) (And.intro (@fo_46_7) (@fo_46_8)))) (And.intro (And.intro (@fo_46_9) (@fo_53_0)) (And.intro (@fo_53_1) (And.intro (@fo_53_2) (@fo_53_3)))))) (And.intro (And.intro (And.intro (And.intro (@fo_53_4) (@fo_53_5)) (And.intro (@fo_82_0) (And.intro (@fo_92_0) (@fo_92_1)))) (And.intro (And.intro (@fo_179_0) (@fo_179_1)) (And.intro (@fo_179_2) (And.intro (@fo_250_0) (@fo_250_1))))) (And.intro (And.intro (And.intro (@pb_29) (@pb_8)) (And.intro (@pb_31) (And.intro (@pb_7) (@pb_19)))) (And.intro (And.intro (@pb_38) (@pb_14)) (And.intro (@pb_42) (And.intro (@pb_11) (@pb_13))))))) (And.intro (And.intro (And.intro (And.intro (And.intro (@pb_95) (@pb_15)) (And.intro (@pb_92) (And.intro (@pb_93) (@pb_94)))) (And.intro (And.intro (@pb_32) (@pb_33)) (And.intro (@pb_96) (And.intro (@pb_30) (@pb_57))))) (And.intro (And.intro (And.intro (@pb_100) (@pb_43)) (And.intro (@pb_44) (And.intro (@pb_45) (@pb_46)))) (And.intro (And.intro (@pb_105) (@pb_106)) (And.intro (@pb_37) (And.intro (@pb_40) (@pb_41)))))) (And.intro (And.intro (And.intro (And.intro (@pb_36) (@pb_12)) (And.intro (@pb_101) (And.intro (@pb_158) (@pb_159)))) (And.intro (And.intro (@pb_160) (@pb_161)) (And.intro (@pb_47) (And.intro (@pb_97) (@pb_107))))) (And.intro (And.intro (And.intro (@pb_108) (@pb_165)) (And.intro (@pb_102) (And.intro (@pb_103) (@pb_104)))) (And.intro (And.intro (@pb_39) (And.intro (@pb_164) (@pb_192))) (And.intro (@pb_163) (And.intro (@pb_190) (@pb_191))))))))
theorem om_conK {P : Program} {K : List Con} {g : FuncId} {args : List AV} {h h' : H} {v : AV} (e : ∀ f, tryCons f g args h K = .ok v h') : (om P K).call (.fn g args) h = .ok v h' := by
  refine om_call_of (.of fun n => ?_)
  exact e (evc P K n).call
theorem tryCons_skip {f : Tgt → H → RV} {c : Con} {g : FuncId} {args : List AV} {h : H} {r : List Con} (e : Nat.beq c.g g = false) : tryCons f g args h (c :: r) = tryCons f g args h r := by
  show (bif Nat.beq c.g g then _ else _) = _
  rw [e]; rfl
theorem tryCons_hit {f : Tgt → H → RV} {c : Con} {g : FuncId} {args : List AV} {h h' : H} {v : AV} {r : List Con} (e : Nat.beq c.g g = true) (a : applyCon c args h = .ok v h') : tryCons f g args h (c :: r) = .ok v h' := by
  show (bif Nat.beq c.g g then (match applyCon c args h with | .ok v h' => RV.ok v h' | .no => tryCons f g args h r) else _) = _
  rw [e, a]; rfl
noncomputable def farCells : List AV := [ii 1099511627776, ii 1099511627776, ii 1099511627776]
/-- The table of the package lies where it is laid. -/
def Tab (h : H) : Prop := ∃ f, Ev.getObj (posN 0) h = some (AO.ro f) ∧ f 0 = some (ii 1099511627776) ∧ f 1 = some (ii 1099511627776) ∧ f 2 = some (ii 1099511627776)
theorem Tab.up {h : H} (wf : Wf h) (t : Tab h) (l : List AO) (w : Nat) : Tab (X h l w) := let ⟨f, h1, h2⟩ := t; ⟨f, getObj_old wf h1 l w, h2⟩
theorem works1 (h : H) (t : Tab h) : (om Tryz.prog KK).call (.fn 26 []) h = .ok (.bool true) h := by
  refine om_con (c := cW) (r := [cW2, cW3, cW4]) ?_
  have h1 : holds1 h (posN 0) farCells = true := by
    obtain ⟨f, t1, t2, t3, t4⟩ := t
    unfold holds1
    rw [t1]
    show (match readM f 3 0 with | some vs => eqFL vs farCells | none => false) = true
    have e : readM f 3 0 = some farCells := by
      simp only [readM, Nat.succ_eq_add_one, Nat.zero_add, Nat.reduceAdd, t2, t3, t4]; rfl
    rw [e]
    rfl
  have h2 : (heldB cW.tb ((posN 0, posN 0) :: pairs cW.args []) h) = true := by
    show (holds1 h (posN 0) farCells && true) = true
    rw [h1]; rfl
  show (bif fits ((posN 0, posN 0) :: pairs cW.args []) cW.args [] && heldB cW.tb ((posN 0, posN 0) :: pairs cW.args []) h && apartB cW.tb ((posN 0, posN 0) :: pairs cW.args []) && knownB cW.tb ((posN 0, posN 0) :: pairs cW.args []) then
    (match adopt cW.news h with | some (n, h') => (match ren n cW.ret with | some v => RV.ok v h' | none => .no) | none => .no) else .no) = _
  rw [h2]
  rfl


theorem works2 (h : H) : (om Tryz.prog KK).call (.fn 27 []) h = .ok (.bool true) h :=
  om_conK fun f => (tryCons_skip rfl).trans (tryCons_hit rfl rfl)
theorem works3 (h : H) : (om Tryz.prog KK).call (.fn 28 []) h = .ok (.bool true) h :=
  om_conK fun f => (tryCons_skip rfl).trans ((tryCons_skip rfl).trans (tryCons_hit rfl rfl))
theorem works4 (h : H) : (om Tryz.prog KK).call (.fn 29 []) h = .ok (.bool true) h :=
  om_conK fun f => (tryCons_skip rfl).trans ((tryCons_skip rfl).trans ((tryCons_skip rfl).trans (tryCons_hit rfl rfl)))
theorem works04 (h : H) (wf : Wf h) (t : Tab h) : (om Tryz.prog KK).call (.fn 6 []) h = .ok (.bool true) h := by
  refine WV_to (WV_call (fn := Tryz.f6) Tryz.func6 rfl rfl rfl rfl rfl ?_)
  simp only [argF]
  (repeat' (first
  | (with_reducible first | refine WC_seq ?_ | refine WC_skip ?_ | refine WC_label ?_ | refine WC_scope ?_ | refine WC_block ?_ | refine WC_ret ?_ | refine WC_exit ?_ | refine seqQ_norm ?_ | refine seqQ_ret ?_ | refine seqQ_exit ?_ | refine blkQ_norm ?_ | refine blkQ_ret ?_ | refine blkQ_here ?_ | refine gateK_yes ?_ | refine gateK_none ?_ | refine condK_tt ?_ | refine condK_ff ?_ | refine roundQ_exit ?_ | refine roundQ_ret ?_)
  | refine WC_region ?_ | refine blkQ_out rfl ?_ | refine WO_nil ?_ | refine WD_nil ?_
  | ((first | refine WD_gate rfl rfl rfl rfl rfl fun K_ hK_ => ?_ | refine WO_gate rfl rfl rfl rfl rfl fun K_ hK_ => ?_); simp only [upd_apply, asB_bool, asB_tup, ↓reduceIte, reduceCtorEq, Nat.reduceEqDiff, Bool.not_true, Bool.not_false]; refine hK_ _ ?_; clear hK_ K_)
  | refine gateK_no (by decide) ?_
  | ((try first | refine WO_op rfl rfl rfl ?_ | refine WO_op0 rfl rfl ?_ | refine WD_op rfl rfl rfl ?_ | refine WD_op0 rfl rfl ?_); (refine WV_gen fun Q_ hQ_ => ?_; simp (disch := first | omega | (simp only [List.length_cons, List.length_nil, List.length_append]; omega)) only [bb, bp, argF, ↓reduceIte, reduceCtorEq, Nat.reduceEqDiff, Nat.reduceLT, Nat.reduceLeDiff, Nat.reduceAdd, Nat.reduceMul, Nat.reduceSub, Nat.reduceBEq, Int.reduceToNat, cond_true, cond_false, eq_self, beq_self_eq_true, newPtr_X wf, load1_X wf, loadAgg_X wf, store1_X wf, writeCells_X wf, makeFunc_def, tEvsE5, bsl_25, bsl_36, bsl_35, bsl_40, bsl_259, newSlice_X wf]; first | (refine dec_split (Q := Q_) (fun hp_ => ?_) (fun hp_ => ?_) <;> first | (exfalso; omega) | (refine hQ_ _ _ ?_; clear hQ_ Q_)) | (refine dec_splitn (Q := Q_) (fun hp_ => ?_) (fun hp_ => ?_) <;> first | (exfalso; omega) | (refine hQ_ _ _ ?_; clear hQ_ Q_)) | (refine hQ_ _ _ ?_; clear hQ_ Q_) | (refine WV_eq (works1 _ (t.up wf _ _)) ?_; refine hQ_ _ _ ?_; clear hQ_ Q_) | (refine WV_eq (works2 _) ?_; refine hQ_ _ _ ?_; clear hQ_ Q_) | (refine WV_eq (works3 _) ?_; refine hQ_ _ _ ?_; clear hQ_ Q_) | (refine WV_eq (works4 _) ?_; refine hQ_ _ _ ?_; clear hQ_ Q_)))
  | (refine WC_cond fun K_ hK_ => ?_; simp (disch := omega) only [evT_tmp, upd_apply, WB_some, ↓reduceIte, reduceCtorEq, Nat.reduceEqDiff, Nat.reduceLT]; refine hK_ _ ?_; clear hK_ K_)))
  (refine endQ_ret _ _ rfl (ret1 (by decide)) ?_; simp only [upd_apply, ↓reduceIte, reduceCtorEq, Nat.reduceEqDiff]; refine WV_flat rfl (by omega) ?_)
  exact ⟨rfl, rfl⟩
end Go.Proofs.YtdaecfjljelneaaGreatDoor
end

/- EvL21 -/
section
/-
  FUNCTIONS THAT YIELD A LIST, WITHIN LOOPS OVER OTHERS: how far back rounds reach.
-/
namespace Go.Ev
section
variable {P : Program} {K : List Con}
/-- What a round leaves: as YR; it has changed something before c, and w only goes down. -/
def YRC (lo c d : Nat) (hb : H) (J : List AO) (w : Nat) (I D : H → Prop) : AV → H → Prop := fun v h' => ∃ hb' J' w', h' = X hb' (J ++ J') w' ∧ Same hb hb' ∧ lo ≤ w' ∧ w' ≤ w ∧ (v = .bool true ∧ w' < c ∧ I hb' ∨ v = .bool false ∧ w' < d ∧ D hb')
def HandsC (P : Program) (K : List Con) (B : H → Prop) (fv : AV) (xs : List (List AV)) : Prop :=
  ∀ (l : Pos) (hb0 : H) (I : Nat → H → Prop) (D : H → Prop) (lo : Nat) (c : Nat → Nat) (d : Nat), lo ≤ hb0.w → hb0.w ≤ hb0.clock → (∀ k, c k ≤ hb0.clock) → d ≤ hb0.clock → (∀ i h, I i h → B h ∧ Same hb0 h) → (∀ h, D h → Wf h) →
    (∀ i x, xs[i]? = some x → ∀ hb J w, I i hb → lo ≤ w → w ≤ hb.clock + J.length → WV ((om P K).call (.yld l x) (X hb J w)) (YRC lo (c i) d hb J w (I (i + 1)) D)) →
    I 0 hb0 → WV (callV P (om P K) fv [.yld l] hb0) fun _ h' => ∃ hb J w, h' = X hb J w ∧ Same hb0 hb ∧ lo ≤ w ∧ w ≤ hb0.w ∧ (I xs.length hb ∧ (∀ k, k < xs.length → w < c k) ∨ D hb ∧ w < d)
theorem HandsC.mono {B B' : H → Prop} {fv : AV} {xs : List (List AV)} (hd : HandsC P K B fv xs) (k : ∀ h, B' h → B h) : HandsC P K B' fv xs :=
  fun l hb0 I D lo c d hlo hlw hc hdc hI hD hy h0 => hd l hb0 I D lo c d hlo hlw hc hdc (fun i h hi => ⟨k h (hI i h hi).1, (hI i h hi).2⟩) hD hy h0
/-- The least of some bounds. -/
def cmin (c : Nat → Nat) (b : Nat) : Nat → Nat
  | 0 => c b
  | n + 1 => min (cmin c b n) (c (b + (n + 1)))
end
end Go.Ev
namespace Go.Ev
end Go.Ev
end

/- EvL22 -/
section
/-
  FUNCTIONS THAT YIELD A LIST, TO LOOPS THAT MAKE OBJECTS OF THEIR OWN.
-/
namespace Go.Ev
/-- An object that holds no cells of type t. -/
def NotT (t : TypeId) (o : AO) : Prop := ∀ m, o ≠ .cells m t
/-- Some objects of cells of type t have changed, no others. -/
def Chg (t : TypeId) (J J2 : List AO) : Prop := J2.length = J.length ∧ ∀ (k : Nat) (o : AO), J[k]? = some o → NotT t o → J2[k]? = some o
/-- All objects of cells of type t are there still. -/
def Keep (t : TypeId) (J J2 : List AO) : Prop := ∀ (k : Nat) m, J[k]? = some (.cells m t) → J2[k]? = some (.cells m t)
theorem Chg.rfl' {t : TypeId} (J : List AO) : Chg t J J := ⟨rfl, fun _ _ h _ => h⟩
theorem Chg.trans {t : TypeId} {A B C : List AO} (x : Chg t A B) (y : Chg t B C) : Chg t A C := ⟨y.1.trans x.1, fun k o h n => y.2 k o (x.2 k o h n) n⟩
theorem Keep.rfl' {t : TypeId} (J : List AO) : Keep t J J := fun _ _ h => h
theorem Keep.trans {t : TypeId} {A B C : List AO} (x : Keep t A B) (y : Keep t B C) : Keep t A C := fun k m h => y k m (x k m h)
theorem notT_cells {t e : TypeId} {m : M AV} (h : e ≠ t) : NotT t (.cells m e) := fun m' e' => by cases e'; exact h rfl
theorem Chg.cons {t : TypeId} {o : AO} {L Z : List AO} (x : Chg t (o :: L) Z) (hn : NotT t o) : ∃ Z', Z = o :: Z' ∧ Chg t L Z' := by
  obtain ⟨hl, hk⟩ := x
  have h0 := hk 0 o rfl hn
  match Z, h0, hl, hk with
  | z :: Z, h0, hl, hk =>
    simp only [List.getElem?_cons_zero, Option.some.injEq] at h0
    subst h0
    exact ⟨Z, rfl, by simpa using hl, fun k o' h n => by have := hk (k + 1) o' (by simpa using h) n; simpa using this⟩
theorem Chg.app {t : TypeId} {A B Z : List AO} (x : Chg t (A ++ B) Z) : ∃ A' B', Z = A' ++ B' ∧ Chg t A A' ∧ Chg t B B' := by
  obtain ⟨hl, hk⟩ := x
  rw [List.length_append] at hl
  refine ⟨Z.take A.length, Z.drop A.length, (List.take_append_drop _ _).symm, ⟨by rw [List.length_take]; omega, fun k o h n => ?_⟩, ⟨by rw [List.length_drop]; omega, fun k o h n => ?_⟩⟩
  · have hlt := lt_of_get h
    rw [List.getElem?_take, if_pos hlt]
    exact hk k o (by rw [List.getElem?_append_left hlt]; exact h) n
  · rw [List.getElem?_drop]
    exact hk _ o (by rw [List.getElem?_append_right (by omega), show A.length + k - A.length = k from by omega]; exact h) n
theorem Keep.cons {t : TypeId} {o o' : AO} {L L' : List AO} (x : Keep t L L') (hn : NotT t o) : Keep t (o :: L) (o' :: L') := fun k m h => by
  cases k with
  | zero => simp only [List.getElem?_cons_zero, Option.some.injEq] at h; exact absurd h (hn m)
  | succ k => simp only [List.getElem?_cons_succ] at h ⊢; exact x k m h
theorem Keep.app {t : TypeId} {A A' B B' : List AO} (hl : A'.length = A.length) (x : Keep t A A') (y : Keep t B B') : Keep t (A ++ B) (A' ++ B') := fun k m h => by
  rcases Nat.lt_or_ge k A.length with hk | hk
  · rw [List.getElem?_append_left hk] at h
    rw [List.getElem?_append_left (by omega)]
    exact x k m h
  · rw [List.getElem?_append_right hk] at h
    rw [List.getElem?_append_right (by omega), hl]
    exact y _ m h
theorem Keep.more {t : TypeId} (J A : List AO) : Keep t J (J ++ A) := fun k m h => by rw [List.getElem?_append_left (lt_of_get h)]; exact h
theorem Keep.nil {t : TypeId} (A : List AO) : Keep t [] A := fun k m h => by simp at h
theorem Keep.set {t : TypeId} {L : List AO} {k : Nat} {o o' : AO} (h : L[k]? = some o) (hn : NotT t o) : Keep t L (L.set k o') := fun j m hj => by
  by_cases e : k = j
  · subst e; rw [h] at hj; cases hj; exact absurd rfl (hn m)
  · rw [List.getElem?_set_ne e]; exact hj
section
variable {P : Program} {K : List Con}
/-- What a round leaves. -/
def YRJ (t : TypeId) (lo c d : Nat) (hb : H) (J : List AO) (w : Nat) (I D : H → List AO → Prop) : AV → H → Prop := fun v h' => ∃ hb' J2 J' w', h' = X hb' (J2 ++ J') w' ∧ Same hb hb' ∧ Chg t J J2 ∧ lo ≤ w' ∧ w' ≤ w ∧ (v = .bool true ∧ w' < c ∧ I hb' (J2 ++ J') ∨ v = .bool false ∧ w' < d ∧ D hb' (J2 ++ J'))
def HandsJ (P : Program) (K : List Con) (t : TypeId) (B : H → Prop) (fv : AV) (xs : List (List AV)) : Prop :=
  ∀ (l : Pos) (hb0 : H) (I : Nat → H → List AO → Prop) (D : H → List AO → Prop) (lo : Nat) (c : Nat → Nat) (d : Nat), lo ≤ hb0.w → hb0.w ≤ hb0.clock → (∀ k, c k ≤ hb0.clock) → d ≤ hb0.clock → (∀ i h J, I i h J → B h ∧ Same hb0 h) → (∀ h J, D h J → Wf h) →
    (∀ i h J J2, I i h J → Keep t J J2 → I i h J2) → (∀ h J J2, D h J → Keep t J J2 → D h J2) →
    (∀ i x, xs[i]? = some x → ∀ hb J w, I i hb J → lo ≤ w → w ≤ hb.clock + J.length → WV ((om P K).call (.yld l x) (X hb J w)) (YRJ t lo (c i) d hb J w (I (i + 1)) D)) →
    I 0 hb0 [] → WV (callV P (om P K) fv [.yld l] hb0) fun _ h' => ∃ hb J w, h' = X hb J w ∧ Same hb0 hb ∧ lo ≤ w ∧ w ≤ hb0.w ∧ (I xs.length hb J ∧ (∀ k, k < xs.length → w < c k) ∨ D hb J ∧ w < d)
theorem HandsJ.mono {t : TypeId} {B B' : H → Prop} {fv : AV} {xs : List (List AV)} (hd : HandsJ P K t B fv xs) (k : ∀ h, B' h → B h) : HandsJ P K t B' fv xs :=
  fun l hb0 I D lo c d hlo hlw hc hdc hI hD mI mD hy h0 => hd l hb0 I D lo c d hlo hlw hc hdc (fun i h J hi => ⟨k h (hI i h J hi).1, (hI i h J hi).2⟩) hD mI mD hy h0
/-- A loop that makes no objects of cells of type t, or does not look at them. -/
theorem HandsJ.plain {t : TypeId} {B : H → Prop} {fv : AV} {xs : List (List AV)} (hd : HandsJ P K t B fv xs) : HandsC P K B fv xs :=
  fun l hb0 I D lo c d hlo hlw hc hdc hI hD hy h0 => hd l hb0 (fun i h _ => I i h) (fun h _ => D h) lo c d hlo hlw hc hdc (fun i h _ hi => hI i h hi) (fun h _ => hD h) (fun _ _ _ _ h _ => h) (fun _ _ _ h _ => h)
    (fun i x hx hb J w hi hlo hw => (hy i x hx hb J w hi hlo hw).mono fun v h' ⟨hb', J', w', e, s, h1, h2, hv⟩ => ⟨hb', J, J', w', e, s, Chg.rfl' _, h1, h2, hv⟩) h0
end
end Go.Ev
namespace Go.Ev
section
variable {P : Program}
end
end Go.Ev
namespace Go.Ev
theorem Grow.front {h : H} {L0 L1 G : List AO} {v : AV} {sz e len : Nat} {cs : List AV} (g : Grow h L0 G v sz e len cs) (hl : L1.length = L0.length) : Grow h L1 G v sz e len cs := by
  obtain ⟨hc, ⟨h0, rfl⟩ | ⟨idx, rfl, hg⟩⟩ := g
  · exact ⟨hc, .inl ⟨h0, rfl⟩⟩
  · exact ⟨hc, .inr ⟨idx, by rw [hl], hg⟩⟩
end Go.Ev
end

/- EvL27 -/
section
/-
  SEVERAL SLICES THAT GROW SIDE BY SIDE: each has its place.
-/
namespace Go.Ev
section
variable {P : Program}
/-- A slice that grows by append, with its place among the new objects (none while it is empty). -/
def SlAt (h : H) (G : List AO) (v : AV) (sz e len : Nat) (cs : List AV) (o : Option Nat) : Prop :=
  cs.length = len * sz ∧ match o with
    | none => len = 0 ∧ v = .nils
    | some idx => v = .sl (nx h idx) 0 len none sz ∧ G[idx]? = some (.cells (mkCells cs) e)
theorem SlAt.nil (h : H) (G : List AO) (sz e : Nat) : SlAt h G .nils sz e 0 [] none := ⟨by simp, rfl, rfl⟩
theorem SlAt.sl {h : H} (wf : Wf h) {G : List AO} {v : AV} {sz e len : Nat} {o : Option Nat} {cs : List AV} (x : SlAt h G v sz e len cs o) (w : Nat) : Sl (X h G w) v sz len cs := by
  cases o with
  | none =>
    obtain ⟨hl, rfl, rfl⟩ := x
    have : cs = [] := List.length_eq_zero_iff.1 (by simpa using hl)
    subst this
    exact Sl.nil _ _
  | some idx =>
    obtain ⟨hl, rfl, hg⟩ := x
    have g : Grow h [] G (.sl (nx h idx) 0 len none sz) sz e len cs := ⟨hl, .inr ⟨idx, by rw [List.length_nil, Nat.zero_add], hg⟩⟩
    exact g.sl wf w
theorem SlAt.resz {h : H} {G : List AO} {v : AV} {sz e len : Nat} {o : Option Nat} {cs : List AV} (x : SlAt h G v sz e len cs o) (t : TypeId) : reszT P t v = v := by
  cases o with
  | none => obtain ⟨_, _, rfl⟩ := x; exact reszT_nils
  | some idx => obtain ⟨_, rfl, _⟩ := x; exact reszT_none
theorem SlAt.flat {h : H} {G : List AO} {v : AV} {sz e len : Nat} {o : Option Nat} {cs : List AV} (x : SlAt h G v sz e len cs o) : AV.cells v = [v] ∧ oneB v = true := by
  cases o with
  | none => obtain ⟨_, _, rfl⟩ := x; exact ⟨rfl, rfl⟩
  | some idx => obtain ⟨_, rfl, _⟩ := x; exact ⟨rfl, rfl⟩
theorem SlAt.lt {h : H} {G : List AO} {v : AV} {sz e len idx : Nat} {cs : List AV} (x : SlAt h G v sz e len cs (some idx)) : idx < G.length := (List.getElem?_eq_some_iff.1 x.2.2).1
/-- What is kept at its place stays. -/
theorem SlAt.keep {h : H} {G G' : List AO} {v : AV} {sz e len : Nat} {o : Option Nat} {cs : List AV} (x : SlAt h G v sz e len cs o) (k : ∀ i ob, o = some i → G[i]? = some ob → G'[i]? = some ob) : SlAt h G' v sz e len cs o := by
  cases o with
  | none => exact x
  | some idx => exact ⟨x.1, x.2.1, k idx _ rfl x.2.2⟩
/-- New objects behind it. -/
theorem SlAt.more {h : H} {G : List AO} {v : AV} {sz e len : Nat} {o : Option Nat} {cs : List AV} (x : SlAt h G v sz e len cs o) (M : List AO) : SlAt h (G ++ M) v sz e len cs o :=
  x.keep fun i ob _ hq => by rw [List.getElem?_append_left (List.getElem?_eq_some_iff.1 hq).1]; exact hq
/-- An object elsewhere is changed. -/
theorem SlAt.set {h : H} {G : List AO} {v : AV} {sz e len : Nat} {o : Option Nat} {cs : List AV} (x : SlAt h G v sz e len cs o) {p : Nat} (hp : o ≠ some p) (ob : AO) : SlAt h (G.set p ob) v sz e len cs o :=
  x.keep fun i _ hi hq => by rw [List.getElem?_set_ne (fun e => hp (by rw [hi, e]))]; exact hq
/-- One element more: all but its own place is kept, and its new place is the last one. -/
theorem SlAt.app {h : H} (wf : Wf h) {G : List AO} {v : AV} {sz e len bytes : Nat} {o : Option Nat} {z : AV} {cs : List AV} (x : SlAt h G v sz e len cs o) {t : TypeId} (hu : P.underlying t = some (.slice e)) (hz : sizeE P e = some sz) (E : El P e sz bytes z)
    {new : List AV} (hn : len + 1 ≤ 10000000) (hb : bytes ≤ 100000) (hc : new.length = sz) (ho : allOne new = true) (c : Nat) (w : Nat) (hw : h.clock ≤ w) :
    ∃ v' G' w', SlAt h G' v' sz e (len + 1) (cs ++ new) (some (G.length + 1)) ∧ G'.length = G.length + 2 ∧ (∀ q ob, o ≠ some q → G[q]? = some ob → G'[q]? = some ob) ∧ h.clock ≤ w' ∧ w' ≤ w ∧
      appendE P t v (.sl (nx h G.length) 0 1 (some c) sz) (X h (G ++ [.cells (mkCells new) e]) w) = .ok v' (X h G' w') := by
  have hsrc : ∀ w, srcCells (X h (G ++ [.cells (mkCells new) e]) w) sz (.sl (nx h G.length) 0 1 (some c) sz) = some (1, new) := fun w => src_new (e := e) wf (by rw [app_len0]; rfl) (by rw [hc, Nat.one_mul])
  cases o with
  | none =>
    obtain ⟨hl, rfl, rfl⟩ := x
    have hcs : cs = [] := List.length_eq_zero_iff.1 (by simpa using hl)
    subst hcs
    have := append_nils (P := P) wf hu hz E (x := .sl (nx h G.length) 0 1 (some c) sz) (l := G ++ [.cells (mkCells new) e]) (w := w) (by decide) (by decide) hb (hsrc w) (by rw [hc, Nat.one_mul])
    rw [List.length_append, List.append_assoc] at this
    refine ⟨_, _, w, ⟨by rw [List.nil_append, hc]; omega, rfl, ?_⟩, by simp, fun q o _ hq => ?_, hw, Nat.le_refl w, this⟩
    · show (G ++ ([AO.cells (mkCells new) e] ++ [AO.cells (mkCells new) e]))[G.length + 1]? = _
      rw [app_len]; rfl
    · rw [List.getElem?_append_left (List.getElem?_eq_some_iff.1 hq).1]; exact hq
  | some idx =>
    have hi := x.lt
    obtain ⟨hl, rfl, hg⟩ := x
    have hgi : (G ++ [AO.cells (mkCells new) e])[idx]? = some (.cells (mkCells cs) e) := by rw [List.getElem?_append_left hi]; exact hg
    have := append_more (P := P) wf hu hz E (x := .sl (nx h G.length) 0 1 (some c) sz) (k := idx) (l := G ++ [.cells (mkCells new) e]) (w := w) hn (by decide) hb hgi hl (hsrc w) (by rw [hc, Nat.one_mul]) ho
    rw [List.length_append, List.set_append_left _ _ hi, List.append_assoc] at this
    refine ⟨_, _, _, ⟨by rw [List.length_append, hl, hc, Nat.add_mul, Nat.one_mul], rfl, ?_⟩, by simp, fun q o hne hq => ?_, by omega, Nat.min_le_right _ _, this⟩
    · show (G.set idx AO.dead ++ ([AO.cells (mkCells new) e] ++ [AO.cells (mkCells (cs ++ new)) e]))[G.length + 1]? = _
      have : (G.set idx AO.dead).length = G.length := List.length_set
      rw [← this, app_len]; rfl
    · have hq' := (List.getElem?_eq_some_iff.1 hq).1
      rw [List.getElem?_append_left (by rw [List.length_set]; exact hq'), List.getElem?_set_ne (fun e => hne (congrArg some e))]
      exact hq
end
end Go.Ev
end

/- EvL23 -/
section
/-
  SLICES OF WIDE ELEMENTS THAT ARE MADE; PARTS OF THEM.
-/
namespace Go.Ev
section
variable {P : Program}
end
end Go.Ev
end

/- EvL24 -/
section
/-
  A FULL SLICE GROWS; A LINE THAT GROWS.
-/
namespace Go.Ev
section
variable {P : Program}
theorem append_full {h0 : H} (wf : Wf h0) {t e size bytes k len : Nat} {z x : AV} (hu : P.underlying t = some (.slice e)) (hz : sizeE P e = some size) (E : El P e size bytes z) {n : Nat} {new old : List AV} {l : List AO} {w e' : Nat} (hn : len + n ≤ 10000000) (hn0 : n ≠ 0) (hb : bytes ≤ 100000)
    (hk : l[k]? = some (.cells (mkCells old) e')) (ho : old.length = len * size) (hs : srcCells (X h0 l w) size x = some (n, new)) (hc : new.length = n * size) : appendE P t (.sl (nx h0 k) 0 len (some len) size) x (X h0 l w) = .ok (.sl (nx h0 l.length) 0 (len + n) none size) (X h0 (l ++ [.cells (mkCells (old ++ new)) e]) w) := by
  unfold appendE
  rw [hu]; dsimp only; rw [hz]; dsimp only; rw [hs]; dsimp only
  rw [show Nat.beq n 0 = false from by cases hb : Nat.beq n 0 with | false => rfl | true => exact absurd (Nat.eq_of_beq_eq_true hb) hn0]
  show appendSome P e size n new (.sl (nx h0 k) 0 len (some len) size) (X h0 l w) = _
  unfold appendSome
  dsimp only
  rw [show Nat.beq size size = true from Nat.beq_refl size]
  dsimp only [cond]
  rw [show Nat.ble (Nat.add len n) len = false from by
    cases hb : Nat.ble (Nat.add len n) len with
    | false => rfl
    | true => exact absurd (Nat.le_of_ble_eq_true hb) (by show ¬ len + n ≤ len; omega)]
  dsimp only [cond]
  rw [show readCells (X h0 l w) (nx h0 k) 0 (len * size) = some old from by
    unfold readCells
    rw [getObj_new wf, hk]
    show readM _ (len * size) 0 = some old
    rw [readM_cells _ _ _ (by omega), List.drop_zero, List.take_of_length_le (by omega)]]
  dsimp only
  rw [forceNat_eq, show Nat.add len n = len + n from rfl]
  exact growE_X wf E hn hb (by rw [List.length_append, ho, hc, Nat.add_mul])
/-- A list that is a slice of all of an object. -/
def LineV (h : H) (L : List AO) (e : TypeId) (lv : AV) (cs : List AV) : Prop := ∃ idx c, lv = .sl (nx h idx) 0 cs.length c 1 ∧ L[idx]? = some (.cells (mkCells cs) e) ∧ (c = none ∨ c = some cs.length)
theorem LineV.flat {h : H} {L : List AO} {e : TypeId} {lv : AV} {cs : List AV} (x : LineV h L e lv cs) : AV.cells lv = [lv] ∧ oneB lv = true := by obtain ⟨_, _, rfl, _⟩ := x; exact ⟨rfl, rfl⟩
theorem LineV.resz {h : H} {L : List AO} {e : TypeId} {lv : AV} {cs : List AV} (x : LineV h L e lv cs) {t : TypeId} (hu : P.underlying t = some (.slice e)) (hz : sizeE P e = some 1) : reszT P t lv = lv := by
  obtain ⟨_, c, rfl, _, hc⟩ := x
  cases c with
  | none => exact reszT_none
  | some c => exact reszT_some hu hz
theorem LineV.sl {h : H} (wf : Wf h) {L : List AO} {e : TypeId} {lv : AV} {cs : List AV} (x : LineV h L e lv cs) (w : Nat) : Sl (X h L w) lv 1 cs.length cs := by
  obtain ⟨idx, c, rfl, hk, hc⟩ := x
  exact Sl.new wf (by rw [Nat.mul_one]) hk
/-- One number more. -/
theorem LineV.app {h : H} (wf : Wf h) {L : List AO} {e bytes : Nat} {z lv v : AV} {cs : List AV} (x : LineV h L e lv cs) {t : TypeId} (hu : P.underlying t = some (.slice e)) (hz : sizeE P e = some 1) (E : El P e 1 bytes z) (hn : cs.length ≤ 1000000) (hb : bytes ≤ 100000) (hv : oneB v = true) (c : Nat) (w : Nat) (hw : h.clock ≤ w) :
    ∃ lv' L' o w', Chg e L L' ∧ LineV h (L' ++ [.cells (mkCells [v]) e, o]) e lv' (cs ++ [v]) ∧ h.clock ≤ w' ∧ w' ≤ w ∧ appendE P t lv (.sl (nx h L.length) 0 1 (some c) 1) (X h (L ++ [.cells (mkCells [v]) e]) w) = .ok lv' (X h (L' ++ [.cells (mkCells [v]) e, o]) w') := by
  obtain ⟨idx, c0, rfl, hk, hc⟩ := x
  have hkl := lt_of_get hk
  have hk' : (L ++ [.cells (mkCells [v]) e])[idx]? = some (.cells (mkCells cs) e) := by rw [List.getElem?_append_left hkl]; exact hk
  have hs : srcCells (X h (L ++ [.cells (mkCells [v]) e]) w) 1 (.sl (nx h L.length) 0 1 (some c) 1) = some (1, [v]) := src_new (e := e) wf (by rw [app_len0]; rfl) rfl
  have hlen : (L ++ [AO.cells (mkCells [v]) e]).length = L.length + 1 := by rw [List.length_append]; rfl
  rcases hc with rfl | rfl
  · refine ⟨_, L.set idx .dead, .cells (mkCells (cs ++ [v])) e, min (h.clock + idx) w, ⟨by simp, fun k o hk2 hno => ?_⟩, ⟨L.length + 1, none, rfl, ?_, .inl rfl⟩, ?_, ?_, ?_⟩
    rotate_right 1
    · rw [append_more wf hu hz E (by omega) (by decide) hb hk' (by rw [Nat.mul_one]) hs rfl (by rw [allOne_cons, hv]; rfl), hlen, List.set_append_left _ _ hkl, List.append_assoc, List.length_append]
      rfl
    · have hne : idx ≠ k := fun e1 => by
        subst e1
        rw [hk] at hk2
        cases hk2
        exact hno _ rfl
      rw [List.getElem?_set_ne hne]; exact hk2
    · rw [List.getElem?_append_right (by simp), List.length_set, Nat.add_sub_cancel_left]; rfl
    · omega
    · omega
  · refine ⟨_, L, .cells (mkCells (cs ++ [v])) e, w, Chg.rfl' _, ⟨L.length + 1, none, rfl, ?_, .inl rfl⟩, ?_, ?_, ?_⟩
    rotate_right 1
    · rw [append_full wf hu hz E (by omega) (by decide) hb hk' (by rw [Nat.mul_one]) hs rfl, hlen, List.append_assoc, List.length_append]
      rfl
    · rw [List.getElem?_append_right (by omega), Nat.add_sub_cancel_left]; rfl
    · exact hw
    · exact Nat.le_refl _
end
end Go.Ev
namespace Go.Ev
theorem LineV.keep {h : H} {L L' : List AO} {e : TypeId} {lv : AV} {cs : List AV} (x : LineV h L e lv cs) (k : Keep e L L') : LineV h L' e lv cs := by
  obtain ⟨idx, c, rfl, hk, hc⟩ := x
  exact ⟨idx, c, rfl, k _ _ hk, hc⟩
end Go.Ev
namespace Go.Ev
theorem LineV.chg {h : H} {L L' : List AO} {e t : TypeId} {lv : AV} {cs : List AV} (x : LineV h L e lv cs) (k : Chg t L L') (hne : e ≠ t) : LineV h L' e lv cs := by
  obtain ⟨idx, c, rfl, hk, hc⟩ := x
  exact ⟨idx, c, rfl, k.2 _ _ hk (notT_cells hne), hc⟩
/-- As seen from a heap before. -/
theorem LineV.down {h : H} {G M : List AO} {w : Nat} {e : TypeId} {lv : AV} {cs : List AV} (x : LineV (X h G w) M e lv cs) : LineV h (G ++ M) e lv cs := by
  obtain ⟨idx, c, rfl, hk, hc⟩ := x
  exact ⟨G.length + idx, c, by rw [nx_X], by rw [List.getElem?_append_right (by omega), Nat.add_sub_cancel_left]; exact hk, hc⟩
/-- A list of lines. -/
def LV (h : H) (G : List AO) (vs : List AV) (ls : List (List Int)) : Prop := vs.length = ls.length ∧ ∀ (i : Nat) (u : AV) (l : List Int), vs[i]? = some u → ls[i]? = some l → LineV h G 2 u (l.map fun n => .int .i64 n)
theorem LV.nil (h : H) (G : List AO) : LV h G [] [] := ⟨rfl, fun i u l h1 _ => by simp at h1⟩
theorem LV.append {h : H} {G : List AO} {vs us : List AV} {ls ms : List (List Int)} (x : LV h G vs ls) (y : LV h G us ms) : LV h G (vs ++ us) (ls ++ ms) := by
  refine ⟨by rw [List.length_append, List.length_append, x.1, y.1], fun i u l h1 h2 => ?_⟩
  rcases Nat.lt_or_ge i vs.length with hi | hi
  · rw [List.getElem?_append_left hi] at h1
    rw [List.getElem?_append_left (by rw [← x.1]; exact hi)] at h2
    exact x.2 i u l h1 h2
  · rw [List.getElem?_append_right hi] at h1
    rw [List.getElem?_append_right (by rw [← x.1]; exact hi), ← x.1] at h2
    exact y.2 _ u l h1 h2
theorem LV.all {h : H} {G : List AO} {vs : List AV} {ls : List (List Int)} (x : LV h G vs ls) : allOne vs = true := by
  have key : ∀ vs : List AV, (∀ u ∈ vs, oneB u = true) → allOne vs = true := by
    intro vs
    induction vs with
    | nil => intro _; rfl
    | cons u vs ih => intro hu; rw [allOne_cons, hu u (by simp), ih fun w hw => hu w (by simp [hw])]; rfl
  refine key vs fun u hu => ?_
  obtain ⟨i, hi⟩ := List.getElem?_of_mem hu
  have hl := lt_of_get hi
  exact (x.2 i u _ hi (List.getElem?_eq_getElem (by rw [← x.1]; exact hl))).flat.2
theorem LV.mono {h : H} {G G' : List AO} {vs : List AV} {ls : List (List Int)} (x : LV h G vs ls) (k : ∀ u cs, LineV h G 2 u cs → LineV h G' 2 u cs) : LV h G' vs ls := ⟨x.1, fun i u l h1 h2 => k _ _ (x.2 i u l h1 h2)⟩
theorem LineV.more {h : H} {L : List AO} {e : TypeId} {lv : AV} {cs : List AV} (x : LineV h L e lv cs) (M : List AO) : LineV h (L ++ M) e lv cs := x.keep (Keep.more _ _)
end Go.Ev
namespace Go.Ev
end Go.Ev
end

/- EvL28 -/
section
/-
  TABLES OF WHAT LIES WHERE: each key's object has a place of its own among the new ones.
-/
namespace Go.Ev
abbrev KT := Nat → Option (Nat × AO)
def kt (T : KT) (k : Nat) (x : Option (Nat × AO)) : KT := fun i => if i = k then x else T i
theorem kt_apply {T : KT} {k : Nat} {x : Option (Nat × AO)} {i : Nat} : kt T k x i = if i = k then x else T i := rfl
structure Held (L : List AO) (T : KT) : Prop where
  at' : ∀ k p ob, T k = some (p, ob) → L[p]? = some ob
  inj : ∀ k k' p ob ob', T k = some (p, ob) → T k' = some (p, ob') → k = k'
section
variable {P : Program} {L : List AO} {T : KT}
theorem Held.get (x : Held L T) {k p : Nat} {ob : AO} (h : T k = some (p, ob)) : L[p]? = some ob := x.at' _ _ _ h
theorem Held.lt (x : Held L T) {k p : Nat} {ob : AO} (h : T k = some (p, ob)) : p < L.length := (List.getElem?_eq_some_iff.1 (x.get h)).1
theorem Held.push (x : Held L T) (M : List AO) : Held (L ++ M) T :=
  ⟨fun k p ob h => by rw [List.getElem?_append_left (x.lt h)]; exact x.get h, x.inj⟩
theorem Held.gets (x : Held L T) {k p : Nat} {ob : AO} (h : T k = some (p, ob)) (M : List AO) : (L ++ M)[p]? = some ob := (x.push M).get h
theorem Held.new (x : Held L T) (k : Nat) (ob : AO) (M : List AO) : Held (L ++ ob :: M) (kt T k (some (L.length, ob))) := by
  refine ⟨fun i p o h => ?_, fun i j p o o' h h' => ?_⟩
  · rw [kt_apply] at h
    by_cases hi : i = k
    · rw [if_pos hi] at h; cases h; exact app_len0
    · rw [if_neg hi] at h; exact (x.push _).get h
  · rw [kt_apply] at h h'
    by_cases hi : i = k
    · by_cases hj : j = k
      · rw [hi, hj]
      · rw [if_pos hi] at h; rw [if_neg hj] at h'; cases h; exact absurd (x.lt h') (Nat.lt_irrefl _)
    · by_cases hj : j = k
      · rw [if_neg hi] at h; rw [if_pos hj] at h'; cases h'; exact absurd (x.lt h) (Nat.lt_irrefl _)
      · rw [if_neg hi] at h; rw [if_neg hj] at h'; exact x.inj _ _ _ _ _ h h'
theorem Held.set (x : Held L T) {k p : Nat} {ob : AO} (hk : T k = some (p, ob)) (ob' : AO) : Held (L.set p ob') (kt T k (some (p, ob'))) := by
  refine ⟨fun i q o h => ?_, fun i j q o o' h h' => ?_⟩
  · rw [kt_apply] at h
    by_cases hi : i = k
    · rw [if_pos hi] at h; cases h
      rw [List.getElem?_set_self (x.lt hk)]
    · rw [if_neg hi] at h
      rw [List.getElem?_set_ne (fun e => hi (by subst e; exact x.inj _ _ _ _ _ h hk))]
      exact x.get h
  · rw [kt_apply] at h h'
    by_cases hi : i = k
    · by_cases hj : j = k
      · rw [hi, hj]
      · rw [if_pos hi] at h; rw [if_neg hj] at h'; cases h; exact absurd (x.inj _ _ _ _ _ h' hk) hj
    · by_cases hj : j = k
      · rw [if_neg hi] at h; rw [if_pos hj] at h'; cases h'; exact absurd (x.inj _ _ _ _ _ h hk) hi
      · rw [if_neg hi] at h; rw [if_neg hj] at h'; exact x.inj _ _ _ _ _ h h'
theorem Held.drop (x : Held L T) (k : Nat) : Held L (kt T k none) := by
  refine ⟨fun i p o h => ?_, fun i j p o o' h h' => ?_⟩
  · rw [kt_apply] at h
    by_cases hi : i = k
    · rw [if_pos hi] at h; cases h
    · rw [if_neg hi] at h; exact x.get h
  · rw [kt_apply] at h h'
    by_cases hi : i = k
    · rw [if_pos hi] at h; cases h
    · by_cases hj : j = k
      · rw [if_pos hj] at h'; cases h'
      · rw [if_neg hi] at h; rw [if_neg hj] at h'; exact x.inj _ _ _ _ _ h h'
theorem Held.empty (L : List AO) : Held L (fun _ => none) := ⟨fun _ _ _ h => (by cases h), fun _ _ _ _ _ h _ => (by cases h)⟩

/-- A slice that grows by append: what is at its key. -/
def SlK (h : H) (T : KT) (k : Nat) (v : AV) (sz e len : Nat) (cs : List AV) : Prop :=
  cs.length = len * sz ∧ ((len = 0 ∧ v = .nils ∧ T k = none) ∨ ∃ idx, v = .sl (nx h idx) 0 len none sz ∧ T k = some (idx, .cells (mkCells cs) e))
theorem SlK.nil (h : H) (T : KT) (k sz e : Nat) (hk : T k = none) : SlK h T k .nils sz e 0 [] := ⟨by simp, .inl ⟨rfl, rfl, hk⟩⟩
theorem SlK.keep {h : H} {T T' : KT} {k sz e len : Nat} {v : AV} {cs : List AV} (x : SlK h T k v sz e len cs) (e' : T' k = T k) : SlK h T' k v sz e len cs := by
  unfold SlK at *; rw [e']; exact x
theorem SlK.sl {h : H} (wf : Wf h) {k sz e len : Nat} {v : AV} {cs : List AV} (x : SlK h T k v sz e len cs) (hh : Held L T) (w : Nat) : Sl (X h L w) v sz len cs := by
  obtain ⟨hl, ⟨rfl, rfl, _⟩ | ⟨idx, rfl, hk⟩⟩ := x
  · have : cs = [] := List.length_eq_zero_iff.1 (by simpa using hl)
    subst this; exact Sl.nil _ _
  · exact Sl.new wf hl (hh.get hk)
theorem SlK.resz {h : H} {k sz e len : Nat} {v : AV} {cs : List AV} (x : SlK h T k v sz e len cs) (t : TypeId) : reszT P t v = v := by
  obtain ⟨hl, ⟨rfl, rfl, _⟩ | ⟨idx, rfl, hk⟩⟩ := x
  · exact reszT_nils
  · exact reszT_none
theorem SlK.flat {h : H} {k sz e len : Nat} {v : AV} {cs : List AV} (x : SlK h T k v sz e len cs) : AV.cells v = [v] ∧ oneB v = true := by
  obtain ⟨hl, ⟨rfl, rfl, _⟩ | ⟨idx, rfl, hk⟩⟩ := x <;> exact ⟨rfl, rfl⟩
theorem SlK.capu {h : H} {k sz e len : Nat} {v : AV} {cs : List AV} (x : SlK h T k v sz e len cs) (hm : len ≠ 0) : ∃ idx, v = .sl (nx h idx) 0 len none sz ∧ T k = some (idx, .cells (mkCells cs) e) := by
  obtain ⟨hl, ⟨rfl, rfl, _⟩ | h⟩ := x
  · exact absurd rfl hm
  · exact h
/-- One element more. -/
theorem SlK.app {h : H} (wf : Wf h) {k sz e len bytes : Nat} {z v : AV} {cs : List AV} (x : SlK h T k v sz e len cs) (hh : Held L T) {t : TypeId} (hu : P.underlying t = some (.slice e)) (hz : sizeE P e = some sz) (E : El P e sz bytes z)
    {new : List AV} (hn : len + 1 ≤ 10000000) (hb : bytes ≤ 100000) (hc : new.length = sz) (ho : allOne new = true) (c : Nat) (w : Nat) (hw : h.clock ≤ w) :
    ∃ v' L' w', SlK h (kt T k (some (L.length + 1, .cells (mkCells (cs ++ new)) e))) k v' sz e (len + 1) (cs ++ new) ∧ Held L' (kt T k (some (L.length + 1, .cells (mkCells (cs ++ new)) e))) ∧ L'.length = L.length + 2 ∧ h.clock ≤ w' ∧ w' ≤ w ∧
      appendE P t v (.sl (nx h L.length) 0 1 (some c) sz) (X h (L ++ [.cells (mkCells new) e]) w) = .ok v' (X h L' w') := by
  have sa : SlAt h L v sz e len cs ((T k).map (·.1)) := by
    obtain ⟨hl, ⟨rfl, rfl, hk⟩ | ⟨idx, rfl, hk⟩⟩ := x
    · rw [hk]; exact ⟨hl, rfl, rfl⟩
    · rw [hk]; exact ⟨hl, rfl, hh.get hk⟩
  obtain ⟨v', G', w', s', hl', keep, h1, h2, happ⟩ := sa.app (P := P) wf hu hz E hn hb hc ho c w hw
  refine ⟨v', G', w', ⟨s'.1, .inr ⟨_, s'.2.1, by rw [kt_apply, if_pos rfl]⟩⟩, ⟨fun i p o hi => ?_, fun i j p o o' hi hj => ?_⟩, hl', h1, h2, happ⟩
  · rw [kt_apply] at hi
    by_cases hik : i = k
    · rw [if_pos hik] at hi; cases hi; exact s'.2.2
    · rw [if_neg hik] at hi
      refine keep p o (fun he => ?_) (hh.get hi)
      cases hk : T k with
      | none => rw [hk] at he; cases he
      | some q =>
        obtain ⟨q, o2⟩ := q
        rw [hk] at he
        have : q = p := by simpa using he
        subst this
        exact hik (hh.inj _ _ _ _ _ hi hk)
  · rw [kt_apply] at hi hj
    by_cases hik : i = k
    · by_cases hjk : j = k
      · rw [hik, hjk]
      · rw [if_pos hik] at hi; rw [if_neg hjk] at hj; cases hi
        have := hh.lt hj
        omega
    · by_cases hjk : j = k
      · rw [if_neg hik] at hi; rw [if_pos hjk] at hj; cases hj
        have := hh.lt hi
        omega
      · rw [if_neg hik] at hi; rw [if_neg hjk] at hj; exact hh.inj _ _ _ _ _ hi hj
end
end Go.Ev
namespace Go.Ev
theorem Held.add {L : List AO} {T : KT} (x : Held L T) (k p : Nat) (ob : AO) (h : L[p]? = some ob) (hn : ∀ i o, T i ≠ some (p, o)) : Held L (kt T k (some (p, ob))) := by
  refine ⟨fun i q o hi => ?_, fun i j q o o' hi hj => ?_⟩
  · rw [kt_apply] at hi
    by_cases hk : i = k
    · rw [if_pos hk] at hi; cases hi; exact h
    · rw [if_neg hk] at hi; exact x.get hi
  · rw [kt_apply] at hi hj
    by_cases hik : i = k
    · by_cases hjk : j = k
      · rw [hik, hjk]
      · rw [if_pos hik] at hi; rw [if_neg hjk] at hj; cases hi; exact absurd hj (hn _ _)
    · by_cases hjk : j = k
      · rw [if_neg hik] at hi; rw [if_pos hjk] at hj; cases hj; exact absurd hi (hn _ _)
      · rw [if_neg hik] at hi; rw [if_neg hjk] at hj; exact x.inj _ _ _ _ _ hi hj
theorem kt_ne {T : KT} {k i : Nat} {x : Option (Nat × AO)} (h : i ≠ k) : kt T k x i = T i := by rw [kt_apply, if_neg h]
end Go.Ev
end

/- EvE4 -/
section
/-
  A LINE BEGUN AS A LIST OF ONE, THEN GROWN NUMBER BY NUMBER, BESIDE OTHERS.
-/
namespace Go.Ev
section
variable {P : Program} {L : List AO} {T : KT}
def SlB (h : H) (T : KT) (k : Nat) (v : AV) (e : TypeId) (cs : List AV) : Prop :=
  (∃ idx, v = .sl (nx h idx) 0 cs.length (some cs.length) 1 ∧ T k = some (idx, .cells (mkCells cs) e)) ∨ ∃ idx, v = .sl (nx h idx) 0 cs.length none 1 ∧ T k = some (idx, .cells (mkCells cs) e)
theorem SlB.keep {h : H} {T T' : KT} {k e : Nat} {v : AV} {cs : List AV} (x : SlB h T k v e cs) (e' : T' k = T k) : SlB h T' k v e cs := by
  unfold SlB at *; rw [e']; exact x
theorem SlB.sl {h : H} (wf : Wf h) {k e : Nat} {v : AV} {cs : List AV} (x : SlB h T k v e cs) (hh : Held L T) (w : Nat) : Sl (X h L w) v 1 cs.length cs := by
  obtain ⟨idx, rfl, hk⟩ | ⟨idx, rfl, hk⟩ := x
  · exact Sl.new wf (by rw [Nat.mul_one]) (hh.get hk)
  · exact Sl.new wf (by rw [Nat.mul_one]) (hh.get hk)
theorem SlB.resz {h : H} {k e : Nat} {v : AV} {cs : List AV} (x : SlB h T k v e cs) {t : TypeId} (hu : P.underlying t = some (.slice e)) (hz : sizeE P e = some 1) : reszT P t v = v := by
  obtain ⟨idx, rfl, hk⟩ | ⟨idx, rfl, hk⟩ := x
  · exact reszT_some hu hz
  · exact reszT_none
theorem SlB.flat {h : H} {k e : Nat} {v : AV} {cs : List AV} (x : SlB h T k v e cs) : AV.cells v = [v] ∧ oneB v = true := by
  obtain ⟨idx, rfl, hk⟩ | ⟨idx, rfl, hk⟩ := x <;> exact ⟨rfl, rfl⟩
theorem SlB.capU {h : H} {k e : Nat} {v : AV} {cs : List AV} (x : SlB h T k v e cs) : CapU 1 v := by
  obtain ⟨idx, rfl, hk⟩ | ⟨idx, rfl, hk⟩ := x
  · exact ⟨(by intro id off l c esz hv; cases hv; exact Nat.le_refl _), (by intro id off l esz hv; cases hv)⟩
  · exact ⟨(by intro id off l c esz hv; cases hv), (by intro id off l esz hv; cases hv; rfl)⟩
/-- One number more. -/
theorem SlB.app {h : H} (wf : Wf h) {k e bytes : Nat} {z v x0 : AV} {cs : List AV} (x : SlB h T k v e cs) (hh : Held L T) {t : TypeId} (hu : P.underlying t = some (.slice e)) (hz : sizeE P e = some 1) (E : El P e 1 bytes z)
    (hn : cs.length + 1 ≤ 10000000) (hb : bytes ≤ 100000) (ho : oneB x0 = true) (c : Nat) (w : Nat) (hw : h.clock ≤ w) :
    ∃ v' L' w', SlB h (kt T k (some (L.length + 1, .cells (mkCells (cs ++ [x0])) e))) k v' e (cs ++ [x0]) ∧ Held L' (kt T k (some (L.length + 1, .cells (mkCells (cs ++ [x0])) e))) ∧ L'.length = L.length + 2 ∧ h.clock ≤ w' ∧ w' ≤ w ∧
      appendE P t v (.sl (nx h L.length) 0 1 (some c) 1) (X h (L ++ [.cells (mkCells [x0]) e]) w) = .ok v' (X h L' w') := by
  obtain ⟨idx, rfl, hk⟩ | ⟨idx, rfl, hk⟩ := x
  · have hs : srcCells (X h (L ++ [.cells (mkCells [x0]) e]) w) 1 (.sl (nx h L.length) 0 1 (some c) 1) = some (1, [x0]) := src_new (e := e) wf (by rw [app_len0]; rfl) rfl
    have hlen : (L ++ [AO.cells (mkCells [x0]) e]).length = L.length + 1 := by rw [List.length_append]; rfl
    have happ := append_full (t := t) (w := w) wf hu hz E (n := 1) (by omega) (by decide) hb (k := idx) (e' := e) (hh.gets hk [.cells (mkCells [x0]) e]) (by rw [Nat.mul_one]) hs rfl
    rw [hlen] at happ
    refine ⟨_, _, w, .inr ⟨L.length + 1, by simp only [List.length_append, List.length_cons, List.length_nil, Nat.zero_add], by rw [kt_apply, if_pos rfl]⟩, ?_, ?_, hw, Nat.le_refl _, happ⟩
    · have := (hh.push [AO.cells (mkCells [x0]) e]).new k (.cells (mkCells (cs ++ [x0])) e) []
      rw [hlen] at this
      exact this
    · simp only [List.length_append, List.length_cons, List.length_nil]
  · have xk : SlK h T k (.sl (nx h idx) 0 cs.length none 1) 1 e cs.length cs := ⟨by rw [Nat.mul_one], .inr ⟨idx, rfl, hk⟩⟩
    obtain ⟨v', L', w', ⟨s1, s2⟩, hh', hl', h1, h2, happ⟩ := xk.app (P := P) wf hh hu hz E (new := [x0]) hn hb rfl (by rw [allOne_cons, ho]; rfl) c w hw
    refine ⟨v', L', w', .inr ?_, hh', hl', h1, h2, happ⟩
    obtain ⟨s3, _⟩ | ⟨i2, s3, s4⟩ := s2
    · omega
    · exact ⟨i2, by rw [s3, List.length_append]; rfl, s4⟩
end
end Go.Ev
end

/- EvsE6 -/
section
/-
  LAYER 4, TOP: the statement TopSteppedFriction, walked.
-/
namespace Go.Proofs.YtdaecfjljelneaaGreatDoor
open Go.Ev
set_option maxRecDepth 100000
set_option linter.unusedSimpArgs false
set_option linter.unusedVariables false
set_option maxHeartbeats 4000000
theorem tEvsE6 : type_of% (And.intro (And.intro (And.intro (And.intro (And.intro (And.intro (And.intro (@bs_27) (@bs_44)) (And.intro (@bs_46) (And.intro (@bs_53) (@bs_82)))) (And.intro (And.intro (@bs_92) (@bs_179)) (And.intro (@bs_250) (And.intro (@bs_254) (@ni_25))))) (And.intro (And.intro (And.intro (@ia_5) (@sz_5)) (And.intro (@ia_2) (And.intro (@sz_2) (@ia_3)))) (And.intro (And.intro (@sz_3) (@ia_4)) (And.intro (@sz_4) (And.intro (@ia_25) (@sz_25)))))) (And.intro (And.intro (And.intro (And.intro (@ia_27) (@sz_27)) (And.intro (@ia_28) (And.intro (@sz_28) (@ia_44)))) (And.intro (And.intro (@sz_44) (@ia_46)) (And.intro (@sz_46) (And.intro (@ia_53) (@sz_53))))) (And.intro (And.intro (And.intro (@ia_36) (@sz_36)) (And.intro (@ia_35) (And.intro (@sz_35) (@ia_37)))) (And.intro (And.intro (@sz_37) (And.intro (@ia_38) (@sz_38))) (And.intro (@ia_82) (And.intro (@sz_82) (@ia_84))))))) (And.intro (And.intro (And.intro (And.intro (And.intro (@sz_84) (@ia_118)) (And.intro (@sz_118) (And.intro (@ia_90) (@sz_90)))) (And.intro (And.intro (@ia_92) (@sz_92)) (And.intro (@ia_85) (And.intro (@sz_85) (@ia_179))))) (And.intro (And.intro (And.intro (@sz_179) (@ia_93)) (And.intro (@sz_93) (And.intro (@ia_40) (@sz_40)))) (And.intro (And.intro (@ia_250) (@sz_250)) (And.intro (@ia_253) (And.intro (@sz_253) (@ia_259)))))) (And.intro (And.intro (And.intro (And.intro (@sz_259) (@ia_261)) (And.intro (@sz_261) (And.intro (@ia_256) (@sz_256)))) (And.intro (And.intro (@ia_257) (@sz_257)) (And.intro (@ia_254) (And.intro (@sz_254) (@ia_278))))) (And.intro (And.intro (And.intro (@sz_278) (@ze_2)) (And.intro (@ze_3) (And.intro (@ze_4) (@ze_27)))) (And.intro (And.intro (@ze_28) (And.intro (@ze_44) (@ze_46))) (And.intro (@ze_53) (And.intro (@ze_82) (@ze_92)))))))) (And.intro (And.intro (And.intro (And.intro (And.intro (And.intro (@ze_179) (@ze_250)) (And.intro (@ze_254) (And.intro (@fo_27_0) (@fo_27_1)))) (And.intro (And.intro (@fo_44_0) (@fo_44_1)) (And.intro (@fo_46_0) (And.intro (@fo_46_1) (@fo_46_2))))) (And.intro (And.intro (And.intro (@fo_46_3) (@fo_46_4)) (And.intro (@fo_46_5) (And.intro (@fo_46_6) (@fo_46_7)))) (And.intro (And.intro (@fo_46_8) (@fo_46_9)) (And.intro (@fo_53_0) (And.intro (@fo_53_1) (@fo_53_2)))))) (And.intro (And.intro (And.intro (And.intro (@fo_53_3) (@fo_53_4)) (And.intro (@fo_53_5) (And.intro (@fo_82_0) (@fo_92_0)))) (And.intro (And.intro (@fo_92_1) (@fo_179_0)) (And.intro (@fo_179_1) (And.intro (@fo_179_2) (@fo_250_0))))) (And.intro (And.intro (And.intro (@fo_250_1) (@pb_29)) (And.intro (@pb_8) (And.intro (@pb_31) (@pb_7)))) (And.intro (And.intro (@pb_19) (And.intro (@pb_38) (@pb_14))) (And.intro (@pb_42) (And.intro (@pb_11) (@pb_13))))))) (And.intro (And.intro (And.intro (And.intro (And.intro (@pb_95) (@pb_15)) (And.intro (@pb_92) (And.intro (@pb_93) (@pb_94)))) (And.intro (And.intro (@pb_32) (@pb_33)) (And.intro (@pb_96) (And.intro (@pb_30) (@pb_57))))) (And.intro (And.intro (And.intro (@pb_100) (@pb_43)) (And.intro (@pb_44) (And.intro (@pb_45) (@pb_46)))) (And.intro (And.intro (@pb_105) (@pb_106)) (And.intro (@pb_37) (And.intro (@pb_40) (@pb_41)))))) (And.intro (And.intro (And.intro (And.intro (@pb_36) (@pb_12)) (And.intro (@pb_101) (And.intro (@pb_158) (@pb_159)))) (And.intro (And.intro (@pb_160) (@pb_161)) (And.intro (@pb_47) (And.intro (@pb_97) (@pb_107))))) (And.intro (And.intro (And.intro (@pb_108) (@pb_165)) (And.intro (@pb_102) (And.intro (@pb_103) (@pb_104)))) (And.intro (And.intro (@pb_39) (And.intro (@pb_164) (@pb_192))) (And.intro (@pb_163) (And.intro (@pb_190) (@pb_191))))))))) := And.intro (And.intro (And.intro (And.intro (And.intro (And.intro (And.intro (@bs_27) (@bs_44)) (And.intro (@bs_46) (And.intro (@bs_53) (@bs_82)))) (And.intro (And.intro (@bs_92) (@bs_179)) (And.intro (@bs_250) (And.intro (@bs_254) (@ni_25))))) (And.intro (And.intro (And.intro (@ia_5) (@sz_5)) (And.intro (@ia_2) (And.intro (@sz_2) (@ia_3)))) (And.intro (And.intro (@sz_3) (@ia_4)) (And.intro (@sz_4) (And.intro (@ia_25) (@sz_25)))))) (And.intro (And.intro (And.intro (And.intro (@ia_27) (@sz_27)) (And.intro (@ia_28) (And.intro (@sz_28) (@ia_44)))) (And.intro (And.intro (@sz_44) (@ia_46)) (And.intro (@sz_46) (And.intro (@ia_53) (@sz_53))))) (And.intro (And.intro (And.intro (@ia_36) (@sz_36)) (And.intro (@ia_35) (And.intro (@sz_35) (@ia_37)))) (And.intro (And.intro (@sz_37) (And.intro (@ia_38) (@sz_38))) (And.intro (@ia_82) (And.intro (@sz_82) (@ia_84))))))) (And.intro (And.intro (And.intro (And.intro (And.intro (@sz_84) (@ia_118)) (And.intro (@sz_118) (And.intro (@ia_90) (@sz_90)))) (And.intro (And.intro (@ia_92) (@sz_92)) (And.intro (@ia_85) (And.intro (@sz_85) (@ia_179))))) (And.intro (And.intro (And.intro (@sz_179) (@ia_93)) (And.intro (@sz_93) (And.intro (@ia_40) (@sz_40)))) (And.intro (And.intro (@ia_250) (@sz_250)) (And.intro (@ia_253) (And.intro (@sz_253) (@ia_259)))))) (And.intro (And.intro (And.intro (And.intro (@sz_259) (@ia_261)) (And.intro (@sz_261) (And.intro (@ia_256) (@sz_256)))) (And.intro (And.intro (@ia_257) (@sz_257)) (And.intro (@ia_254) (And.intro (@sz_254) (@ia_278))))) (And.intro (And.intro (And.intro (@sz_278) (@ze_2)) (And.intro (@ze_3) (And.intro (@ze_4) (@ze_27)))) (And.intro (And.intro (@ze_28) (And.intro (@ze_44) (@ze_46))) (And.intro (@ze_53) (And.intro (@ze_82) (@ze_92)))))))) (And.intro (And.intro (And.intro (And.intro (And.intro (And.intro (@ze_179) (@ze_250)) (And.intro (@ze_254) (And.intro (@fo_27_0) (@fo_27_1)))) (And.intro (And.intro (@fo_44_0) (@fo_44_1)) (And.intro (@fo_46_0) (And.intro (@fo_46_1) (@fo_46_2))))) (And.intro (And.intro (And.intro (@fo_46_3) (@fo_46_4)) (And.intro (@fo_46_5) (And.intro (@fo_46_6) (@fo_46_7)))) (And.intro (And.intro (@fo_46_8) (@fo_46_9)) (And.intro (@fo_53_0) (And.intro (@fo_53_1) (@fo_53_2)))))) (And.intro (And.intro (And.intro (And.intro (@fo_53_3) (@fo_53_4)) (And.intro (@fo_53_5) (And.intro (@fo_82_0) (@fo_92_0)))) (And.intro (And.intro (@fo_92_1) (@fo_179_0)) (And.intro (@fo_179_1) (And.intro (@fo_179_2) (@fo_250_0))))) (And.intro (And.intro (And.intro (@fo_250_1) (@pb_29)) (And.intro (@pb_8) (And.intro (@pb_31) (@pb_7)))) (And.intro (And.intro (@pb_19) (And.intro (@pb_38) (@pb_14))) (And.intro (@pb_42) (And.intro (@pb_11) (@pb_13))))))) (And.intro (And.intro (And.intro (And.intro (And.intro (@pb_95) (@pb_15)) (And.intro (@pb_92) (And.intro (@pb_93) (@pb_94)))) (And.intro (And.intro (@pb_32) (@pb_33)) (And.intro (@pb_96) (And.intro (@pb_30) (@pb_57))))) (And.intro (And.intro (And.intro (@pb_100) (@pb_43)) (And.intro (@pb_44) (And.intro (@pb_45) (@pb_46)))) (And.intro (And.intro (@pb_105) (@pb_106)) (And.intro (@pb_37) (And.intro (@pb_40) (@pb_41)))))) (And.intro (And.intro (And.intro (And.intro (@pb_36) (@pb_12)) (And.intro (@pb_101) (And.intro (@pb_158) (@pb_159)))) (And.intro (And.intro (@pb_160) (@pb_161)) (And.intro (@pb_47) (And.intro (@pb_97) (@pb_107))))) (And.intro (And.intro (And.intro (@pb_108) (@pb_165)) (And.intro (@pb_102) (And.intro (@pb_103) (@pb_104)))) (And.intro (And.intro (@pb_39) (And.intro (@pb_164) (@pb_192))) (And.intro (@pb_163) (And.intro (@pb_190) (@pb_191))))))))
abbrev uu (n : Int) : AV := .int .u8 n
def sV (v : Nat → Int) : Nat → Int
  | 0 => 0
  | k + 1 => sV v k + v k
theorem sV_in {v : Nat → Int} (hv : ∀ i, 0 ≤ v i ∧ v i ≤ 255) : ∀ k : Nat, 0 ≤ sV v k ∧ sV v k ≤ 255 * (k : Int)
  | 0 => by simp [sV]
  | k + 1 => by
    have := sV_in hv k
    have := hv k
    simp only [sV]; push_cast; omega
theorem _root_.Go.Ev.SlB.at {P : Program} {L : List AO} {T : KT} {h : H} (wf : Wf h) {k e : Nat} {v : AV} {cs : List AV} (x : SlB h T k v e cs) (hh : Held L T) {i : Nat} (hi : i < cs.length) {t : TypeId} (hk : idxKind P t = some (none, 1)) :
    ∃ id off, indexAddrE P t v (.int .i64 (i : Int)) = some (.ptr id off) ∧ ∀ M w, load1 id off (X h (L ++ M) w) = cs[i]? := by
  obtain ⟨id, off, h1, h2⟩ := (x.sl wf hh h.clock).at1 (wf.X (by omega)) hi hk
  exact ⟨id, off, h1, fun M w => by rw [← X_X (w := h.clock)]; exact h2 M w⟩
theorem len_map {α β : Type} {f : α → β} {l : List α} : (l.map f).length = l.length := List.length_map f
theorem reS_snoc (f m n : Nat) : reS f m (n + 1) = reS f m n ++ [((f + m * (n + 1) : Nat) : Int)] := by unfold reS; rw [List.range_succ, List.map_append]; rfl
theorem cfS_snoc (C : Nat → Int) (n : Nat) : cfS C (n + 1) = cfS C n ++ [C (n + 1)] := by unfold cfS; rw [List.range_succ, List.map_append]; rfl

def frL (F m n : Nat) (C : Nat → Int) (q : Nat) : List Int := (List.range q).map fun k => fr (reS F m n) (cfS C n) ((F + k : Nat) : Int)
theorem frL_snoc (F m n : Nat) (C : Nat → Int) (q : Nat) : frL F m n C (q + 1) = frL F m n C q ++ [fr (reS F m n) (cfS C n) ((F + q : Nat) : Int)] := by unfold frL; rw [List.range_succ, List.map_append]; rfl
theorem frL_len (F m n : Nat) (C : Nat → Int) (q : Nat) : (frL F m n C q).length = q := by simp [frL]
theorem measOf_in {xs : List Int} (hx : ∀ x ∈ xs, Off x) : 0 ≤ (measOf xs).1 ∧ (measOf xs).1 ≤ xs.length ∧ 0 ≤ (measOf xs).2 ∧ (measOf xs).2 ≤ 4000000 * xs.length := by
  match xs, hx with
  | [], _ => exact ⟨Int.le_refl 0, by simp [measOf], Int.le_refl 0, by simp [measOf]⟩
  | [x], _ => exact ⟨Int.le_refl 0, by simp [measOf], Int.le_refl 0, by simp [measOf]⟩
  | x :: y :: r, hx =>
    have h := mfold_in (hx x (by simp)) (hx y (by simp)) (fun z hz => hx z (by simp [hz])) r.length (Nat.le_refl _)
    rw [List.take_length] at h
    obtain ⟨_, _, c1, c2, c3, c4⟩ := h
    simp only [measOf, List.length_cons]
    push_cast
    omega

theorem lawStepped (first far : Int) (hf : 0 ≤ first ∧ first ≤ 65535) (hr : 0 ≤ far ∧ far ≤ 255) (b : AV) (bys : List Int) (hby : ∀ n ∈ bys, 0 ≤ n ∧ n ≤ 255) (h : H) (wf : Wf h) (t : Tab h) (sb : Sl h b 1 bys.length (bys.map uu)) :
    (om Tryz.prog KK).call (.fn 3 [.int .u16 first, uu far, b]) h = .ok (.bool true) h := by
  have hlen : ∀ h', lenE Tryz.prog 23 b h' = some (ii (bys.length : Int)) := fun h' => sb.len un_23
  have hwk : ∀ l w, w ≤ h.clock + l.length → (om Tryz.prog KK).call (.fn 6 []) (X h l w) = .ok (.bool true) (X h l w) := fun l w hw => works04 _ (wf.X hw) (t.up wf _ _)
  have hbo : AV.cells b = [b] ∧ oneB b = true := (show Row h b 1 bys.length (bys.map uu) from .inl sb).flat
  have hcf : convE Tryz.prog 22 2 (.int .u16 first) = some (ii first) := by rw [c_int un_22 un_2, wrap_in _ (by omega) (by omega)]
  have hcr : convE Tryz.prog 5 2 (uu far) = some (ii far) := by rw [c_int un_5 un_2, wrap_in _ (by omega) (by omega)]
  refine WV_to (WV_call (fn := Tryz.f3) Tryz.func3 rfl rfl rfl rfl rfl ?_)
  simp only [argF]
  by_cases hn : 1 ≤ bys.length ∧ bys.length < 12
  rotate_left 1
  · (repeat' (first
  | (with_reducible first | refine WC_seq ?_ | refine WC_skip ?_ | refine WC_label ?_ | refine WC_scope ?_ | refine WC_block ?_ | refine WC_ret ?_ | refine WC_exit ?_ | refine seqQ_norm ?_ | refine seqQ_ret ?_ | refine seqQ_exit ?_ | refine blkQ_norm ?_ | refine blkQ_ret ?_ | refine blkQ_here ?_ | refine gateK_yes ?_ | refine gateK_none ?_ | refine condK_tt ?_ | refine condK_ff ?_ | refine roundQ_exit ?_ | refine roundQ_ret ?_)
  | refine WC_region ?_ | refine blkQ_out rfl ?_ | refine WO_nil ?_ | refine WD_nil ?_
  | ((first | refine WD_gate rfl rfl rfl rfl rfl fun K_ hK_ => ?_ | refine WO_gate rfl rfl rfl rfl rfl fun K_ hK_ => ?_); simp only [upd_apply, asB_bool, asB_tup, ↓reduceIte, reduceCtorEq, Nat.reduceEqDiff, Bool.not_true, Bool.not_false]; refine hK_ _ ?_; clear hK_ K_)
  | refine gateK_no (by decide) ?_
  | ((try first | refine WO_op rfl rfl rfl ?_ | refine WO_op0 rfl rfl ?_ | refine WD_op rfl rfl rfl ?_ | refine WD_op0 rfl rfl ?_); (refine WV_gen fun Q_ hQ_ => ?_; simp (disch := first | omega | (simp only [List.length_cons, List.length_nil, List.length_append]; omega)) only [bb, bp, argF, ↓reduceIte, reduceCtorEq, Nat.reduceEqDiff, Nat.reduceLT, Nat.reduceLeDiff, Nat.reduceAdd, Nat.reduceMul, Nat.reduceSub, Nat.reduceBEq, Int.reduceToNat, cond_true, cond_false, eq_self, beq_self_eq_true, hlen, hbo.1, hbo.2, newPtr_X wf, load1_X wf, loadAgg_X wf, store1_X wf, writeCells_X wf, makeFunc_def, tEvsE6, bsl_25, bsl_36, bsl_35, bsl_40, bsl_259, newSlice_X wf]; first | (refine dec_split (Q := Q_) (fun hp_ => ?_) (fun hp_ => ?_) <;> first | (exfalso; omega) | (refine hQ_ _ _ ?_; clear hQ_ Q_)) | (refine dec_splitn (Q := Q_) (fun hp_ => ?_) (fun hp_ => ?_) <;> first | (exfalso; omega) | (refine hQ_ _ _ ?_; clear hQ_ Q_)) | (refine hQ_ _ _ ?_; clear hQ_ Q_) | (refine WV_eq (hwk _ _ (by simp only [List.length_append, List.length_cons, List.length_nil]; omega)) ?_; refine hQ_ _ _ ?_; clear hQ_ Q_)))
  | (refine WC_cond fun K_ hK_ => ?_; simp (disch := omega) only [evT_tmp, upd_apply, WB_some, ↓reduceIte, reduceCtorEq, Nat.reduceEqDiff, Nat.reduceLT]; refine hK_ _ ?_; clear hK_ K_)))
    all_goals (refine endQ_ret _ _ rfl (ret1 (by decide)) ?_; simp only [upd_apply, ↓reduceIte, reduceCtorEq, Nat.reduceEqDiff]; refine WV_flat rfl (by omega) ?_)
    all_goals exact ⟨rfl, rfl⟩
  obtain ⟨hn1, hn2⟩ := hn
  generalize hnn : bys.length = n at *
  obtain ⟨m, hm⟩ : ∃ m : Nat, (m : Int) = 1 + far.tmod 20 := ⟨(1 + far.tmod 20).toNat, by rw [Int.tmod_eq_emod_of_nonneg hr.1]; omega⟩
  have hm1 : 1 ≤ m ∧ m ≤ 20 := by rw [Int.tmod_eq_emod_of_nonneg hr.1] at hm; omega
  have hrem : binE Tryz.prog .rem 2 (.tmp 0) (.tmp 0) (ii far) (ii 20) = some (ii (far.tmod 20)) := b_rem (by decide)
  have htm : 0 ≤ far.tmod 20 ∧ far.tmod 20 ≤ 19 := by rw [Int.tmod_eq_emod_of_nonneg hr.1]; omega
  obtain ⟨v, hv⟩ : ∃ v : Nat → Int, v = fun j => bys.getD j 0 := ⟨_, rfl⟩
  have hvin : ∀ j, 0 ≤ v j ∧ v j ≤ 255 := fun j => by
    rw [hv]; dsimp only
    by_cases hj : j < bys.length
    · rw [gd hj]; exact hby _ (List.getElem_mem hj)
    · rw [List.getD, List.getElem?_eq_none (by omega)]; decide
  have hmv : ∀ j, 0 ≤ (m : Int) * v j ∧ (m : Int) * v j ≤ 5100 := fun j => by
    have := hvin j
    exact ⟨Int.mul_nonneg (by omega) (by omega), by have := Int.mul_le_mul (a := (m : Int)) (b := v j) (c := 20) (d := 255) (by omega) (by omega) (by omega) (by omega); omega⟩
  have hms : ∀ j : Nat, j ≤ n → 0 ≤ (m : Int) * sV v j ∧ (m : Int) * sV v j ≤ 56100 := fun j hj => by
    have := sV_in hvin j
    exact ⟨Int.mul_nonneg (by omega) (by omega), by have := Int.mul_le_mul (a := (m : Int)) (b := sV v j) (c := 20) (d := 2805) (by omega) (by omega) (by omega) (by omega); omega⟩
  have hms1 : ∀ j, (m : Int) * sV v (j + 1) = (m : Int) * sV v j + (m : Int) * v j := fun j => by show (m : Int) * (sV v j + v j) = _; rw [Int.mul_add]
  have hbat : ∀ {k : Nat}, k < n → ∃ id off, indexAddrE Tryz.prog 23 b (.int .i64 (k : Int)) = some (.ptr id off) ∧ ∀ l w, load1 id off (X h l w) = some (uu (v k)) := fun {k} hk => by
    obtain ⟨id, off, h1, h2⟩ := sb.at1 wf hk ik_23
    refine ⟨id, off, h1, fun l w => ?_⟩
    rw [h2 l w, hv]
    simp [List.getD, show k < bys.length by omega]
  have hcv : ∀ k, convE Tryz.prog 5 2 (uu (v k)) = some (ii (v k)) := fun k => by
    have := hvin k
    rw [c_int un_5 un_2, wrap_in _ (by omega) (by omega)]
  (repeat' (first
  | (with_reducible first | refine WC_seq ?_ | refine WC_skip ?_ | refine WC_label ?_ | refine WC_scope ?_ | refine WC_block ?_ | refine WC_ret ?_ | refine WC_exit ?_ | refine seqQ_norm ?_ | refine seqQ_ret ?_ | refine seqQ_exit ?_ | refine blkQ_norm ?_ | refine blkQ_ret ?_ | refine blkQ_here ?_ | refine gateK_yes ?_ | refine gateK_none ?_ | refine condK_tt ?_ | refine condK_ff ?_ | refine roundQ_exit ?_ | refine roundQ_ret ?_)
  | refine WC_region ?_ | refine blkQ_out rfl ?_ | refine WO_nil ?_ | refine WD_nil ?_
  | ((first | refine WD_gate rfl rfl rfl rfl rfl fun K_ hK_ => ?_ | refine WO_gate rfl rfl rfl rfl rfl fun K_ hK_ => ?_); simp only [upd_apply, asB_bool, asB_tup, ↓reduceIte, reduceCtorEq, Nat.reduceEqDiff, Bool.not_true, Bool.not_false]; refine hK_ _ ?_; clear hK_ K_)
  | refine gateK_no (by decide) ?_
  | ((try first | refine WO_op rfl rfl rfl ?_ | refine WO_op0 rfl rfl ?_ | refine WD_op rfl rfl rfl ?_ | refine WD_op0 rfl rfl ?_); (refine WV_gen fun Q_ hQ_ => ?_; simp (disch := first | omega | (simp only [List.length_cons, List.length_nil, List.length_append]; omega)) only [bb, bp, argF, ↓reduceIte, reduceCtorEq, Nat.reduceEqDiff, Nat.reduceLT, Nat.reduceLeDiff, Nat.reduceAdd, Nat.reduceMul, Nat.reduceSub, Nat.reduceBEq, Int.reduceToNat, cond_true, cond_false, eq_self, beq_self_eq_true, hlen, hcr, b_rem (show (20 : Int) ≠ 0 by decide), ← hm, hbo.1, hbo.2, newPtr_X wf, load1_X wf, loadAgg_X wf, store1_X wf, writeCells_X wf, makeFunc_def, tEvsE6, bsl_25, bsl_36, bsl_35, bsl_40, bsl_259, newSlice_X wf]; first | (refine dec_split (Q := Q_) (fun hp_ => ?_) (fun hp_ => ?_) <;> first | (exfalso; omega) | (refine hQ_ _ _ ?_; clear hQ_ Q_)) | (refine dec_splitn (Q := Q_) (fun hp_ => ?_) (fun hp_ => ?_) <;> first | (exfalso; omega) | (refine hQ_ _ _ ?_; clear hQ_ Q_)) | (refine hQ_ _ _ ?_; clear hQ_ Q_)))
  | (refine WC_cond fun K_ hK_ => ?_; simp (disch := omega) only [evT_tmp, upd_apply, WB_some, ↓reduceIte, reduceCtorEq, Nat.reduceEqDiff, Nat.reduceLT]; refine hK_ _ ?_; clear hK_ K_)))
  refine WC_loop (fun (k : Nat) f d h' => k ≤ n ∧ f 0 = .int .u16 first ∧ f 2 = b ∧ f 7 = ii (m : Int) ∧ f 8 = ii ((m : Int) * sV v k) ∧ f 9 = ii (k : Int) ∧ d = [] ∧ h' = X h [] h.clock) (fun k => n - k) ?_ (n + 1) 0 (by omega) ?_
  rotate_left 1
  · exact ⟨Nat.zero_le _, by simp only [upd_apply, ↓reduceIte, reduceCtorEq, Nat.reduceEqDiff], by simp only [upd_apply, ↓reduceIte, reduceCtorEq, Nat.reduceEqDiff], by simp only [upd_apply, ↓reduceIte, reduceCtorEq, Nat.reduceEqDiff], by (try simp only [upd_apply, ↓reduceIte, reduceCtorEq, Nat.reduceEqDiff]); simp [sV], by simp only [upd_apply, ↓reduceIte, reduceCtorEq, Nat.reduceEqDiff]; rfl, rfl, rfl⟩
  rintro k f d h' ⟨hk, g0, g2, g7, g8, g9, rfl, rfl⟩
  by_cases hlt : k < n
  · obtain ⟨id, off, hix, hld⟩ := hbat hlt
    have q1 := hmv k
    have q2 := hms k hk
    have q3 := hvin k
    have q4 := hms1 k
    have cvk := hcv k
    generalize v k = vk at *
    (repeat' (first
  | (with_reducible first | refine WC_seq ?_ | refine WC_skip ?_ | refine WC_label ?_ | refine WC_scope ?_ | refine WC_block ?_ | refine WC_ret ?_ | refine WC_exit ?_ | refine seqQ_norm ?_ | refine seqQ_ret ?_ | refine seqQ_exit ?_ | refine blkQ_norm ?_ | refine blkQ_ret ?_ | refine blkQ_here ?_ | refine gateK_yes ?_ | refine gateK_none ?_ | refine condK_tt ?_ | refine condK_ff ?_ | refine roundQ_exit ?_ | refine roundQ_ret ?_)
  | refine WC_region ?_ | refine blkQ_out rfl ?_ | refine WO_nil ?_ | refine WD_nil ?_
  | ((first | refine WD_gate rfl rfl rfl rfl rfl fun K_ hK_ => ?_ | refine WO_gate rfl rfl rfl rfl rfl fun K_ hK_ => ?_); simp only [upd_apply, asB_bool, asB_tup, ↓reduceIte, reduceCtorEq, Nat.reduceEqDiff, Bool.not_true, Bool.not_false]; refine hK_ _ ?_; clear hK_ K_)
  | refine gateK_no (by decide) ?_
  | ((try first | refine WO_op rfl rfl rfl ?_ | refine WO_op0 rfl rfl ?_ | refine WD_op rfl rfl rfl ?_ | refine WD_op0 rfl rfl ?_); (refine WV_gen fun Q_ hQ_ => ?_; simp (disch := first | omega | (simp only [List.length_cons, List.length_nil, List.length_append]; omega)) only [bb, bp, argF, ↓reduceIte, reduceCtorEq, Nat.reduceEqDiff, Nat.reduceLT, Nat.reduceLeDiff, Nat.reduceAdd, Nat.reduceMul, Nat.reduceSub, Nat.reduceBEq, Int.reduceToNat, cond_true, cond_false, eq_self, beq_self_eq_true, g0, g2, g7, g8, g9, hlen, hix, hld, cvk, newPtr_X wf, load1_X wf, loadAgg_X wf, store1_X wf, writeCells_X wf, makeFunc_def, tEvsE6, bsl_25, bsl_36, bsl_35, bsl_40, bsl_259, newSlice_X wf]; first | (refine dec_split (Q := Q_) (fun hp_ => ?_) (fun hp_ => ?_) <;> first | (exfalso; omega) | (refine hQ_ _ _ ?_; clear hQ_ Q_)) | (refine dec_splitn (Q := Q_) (fun hp_ => ?_) (fun hp_ => ?_) <;> first | (exfalso; omega) | (refine hQ_ _ _ ?_; clear hQ_ Q_)) | (refine hQ_ _ _ ?_; clear hQ_ Q_)))
  | (refine WC_cond fun K_ hK_ => ?_; simp (disch := omega) only [evT_tmp, upd_apply, WB_some, ↓reduceIte, reduceCtorEq, Nat.reduceEqDiff, Nat.reduceLT]; refine hK_ _ ?_; clear hK_ K_)))
    refine roundQ_again (k + 1) (by omega) ⟨hlt, by simp only [upd_apply, ↓reduceIte, reduceCtorEq, Nat.reduceEqDiff]; exact g0, by simp only [upd_apply, ↓reduceIte, reduceCtorEq, Nat.reduceEqDiff]; exact g2, by simp only [upd_apply, ↓reduceIte, reduceCtorEq, Nat.reduceEqDiff]; exact g7, by simp only [upd_apply, ↓reduceIte, reduceCtorEq, Nat.reduceEqDiff]; rw [q4], by simp only [upd_apply, ↓reduceIte, reduceCtorEq, Nat.reduceEqDiff]; rfl, rfl, rfl⟩
  have hkn : k = n := by omega
  subst hkn
  obtain ⟨F, hF⟩ : ∃ F : Nat, (F : Int) = 1 + first := ⟨(1 + first).toNat, by omega⟩
  have q2 := hms k (Nat.le_refl _)
  obtain ⟨C, hC⟩ : ∃ C : Nat → Int, C = fun j => (m : Int) * sV v k - (m : Int) * sV v j := ⟨_, rfl⟩
  have hC0 : (m : Int) * sV v k = C 0 := by rw [hC]; simp [sV]
  have hC1 : ∀ j, C (j + 1) = C j - (m : Int) * v j := fun j => by rw [hC]; dsimp only; rw [hms1]; omega
  have hCb : ∀ j : Nat, j ≤ k → -60000 ≤ C j ∧ C j ≤ 60000 := fun j hj => by have := hms j hj; rw [hC]; dsimp only; omega
  have hC0b := hCb 0 (by omega)
  rw [hC0] at g8
  generalize hc0 : C 0 = c0 at g8 hC0b
  (repeat' (first
  | (with_reducible first | refine WC_seq ?_ | refine WC_skip ?_ | refine WC_label ?_ | refine WC_scope ?_ | refine WC_block ?_ | refine WC_ret ?_ | refine WC_exit ?_ | refine seqQ_norm ?_ | refine seqQ_ret ?_ | refine seqQ_exit ?_ | refine blkQ_norm ?_ | refine blkQ_ret ?_ | refine blkQ_here ?_ | refine gateK_yes ?_ | refine gateK_none ?_ | refine condK_tt ?_ | refine condK_ff ?_ | refine roundQ_exit ?_ | refine roundQ_ret ?_)
  | refine WC_region ?_ | refine blkQ_out rfl ?_ | refine WO_nil ?_ | refine WD_nil ?_
  | ((first | refine WD_gate rfl rfl rfl rfl rfl fun K_ hK_ => ?_ | refine WO_gate rfl rfl rfl rfl rfl fun K_ hK_ => ?_); simp only [upd_apply, asB_bool, asB_tup, ↓reduceIte, reduceCtorEq, Nat.reduceEqDiff, Bool.not_true, Bool.not_false]; refine hK_ _ ?_; clear hK_ K_)
  | refine gateK_no (by decide) ?_
  | ((try first | refine WO_op rfl rfl rfl ?_ | refine WO_op0 rfl rfl ?_ | refine WD_op rfl rfl rfl ?_ | refine WD_op0 rfl rfl ?_); (refine WV_gen fun Q_ hQ_ => ?_; simp (disch := first | omega | (simp only [List.length_cons, List.length_nil, List.length_append]; omega)) only [bb, bp, argF, ↓reduceIte, reduceCtorEq, Nat.reduceEqDiff, Nat.reduceLT, Nat.reduceLeDiff, Nat.reduceAdd, Nat.reduceMul, Nat.reduceSub, Nat.reduceBEq, Int.reduceToNat, cond_true, cond_false, eq_self, beq_self_eq_true, g0, g2, g7, g8, g9, hlen, hcf, ← hF, newPtr_X wf, load1_X wf, loadAgg_X wf, store1_X wf, writeCells_X wf, makeFunc_def, tEvsE6, bsl_25, bsl_36, bsl_35, bsl_40, bsl_259, newSlice_X wf]; first | (refine dec_split (Q := Q_) (fun hp_ => ?_) (fun hp_ => ?_) <;> first | (exfalso; omega) | (refine hQ_ _ _ ?_; clear hQ_ Q_)) | (refine dec_splitn (Q := Q_) (fun hp_ => ?_) (fun hp_ => ?_) <;> first | (exfalso; omega) | (refine hQ_ _ _ ?_; clear hQ_ Q_)) | (refine hQ_ _ _ ?_; clear hQ_ Q_)))
  | (refine WC_cond fun K_ hK_ => ?_; simp (disch := omega) only [evT_tmp, upd_apply, WB_some, ↓reduceIte, reduceCtorEq, Nat.reduceEqDiff, Nat.reduceLT]; refine hK_ _ ?_; clear hK_ K_)))
  have hS1 : SlB h (kt (kt (kt (fun _ => none) 1 (some (0, .cells (mkCells [ii (F : Int)]) 2))) 2 (some (1, .cells (mkCells [ii c0]) 2))) 0 (some (2, .cells (mkCells [.sl (nx h 0) 0 1 (some 1) 1, .sl (nx h 1) 0 1 (some 1) 1]) 27))) 1 (.sl (nx h 0) 0 1 (some 1) 1) 2 ((reS F m 0).map ii) := .inl ⟨0, rfl, by simp [kt_apply, reS]⟩
  have hS2 : SlB h (kt (kt (kt (fun _ => none) 1 (some (0, .cells (mkCells [ii (F : Int)]) 2))) 2 (some (1, .cells (mkCells [ii c0]) 2))) 0 (some (2, .cells (mkCells [.sl (nx h 0) 0 1 (some 1) 1, .sl (nx h 1) 0 1 (some 1) 1]) 27))) 2 (.sl (nx h 1) 0 1 (some 1) 1) 2 ((cfS C 0).map ii) := .inl ⟨1, rfl, by simp [kt_apply, cfS, hc0]⟩
  have hT0 : Held [.cells (mkCells [ii (F : Int)]) 2, .cells (mkCells [ii c0]) 2, .cells (mkCells [.sl (nx h 0) 0 1 (some 1) 1, .sl (nx h 1) 0 1 (some 1) 1]) 27] (kt (kt (kt (fun _ => none) 1 (some (0, .cells (mkCells [ii (F : Int)]) 2))) 2 (some (1, .cells (mkCells [ii c0]) 2))) 0 (some (2, .cells (mkCells [.sl (nx h 0) 0 1 (some 1) 1, .sl (nx h 1) 0 1 (some 1) 1]) 27))) := by
    have := (((Held.empty []).new 1 (.cells (mkCells [ii (F : Int)]) 2) []).new 2 (.cells (mkCells [ii c0]) 2) []).new 0 (.cells (mkCells [.sl (nx h 0) 0 1 (some 1) 1, .sl (nx h 1) 0 1 (some 1) 1]) 27) []
    simpa using this
  have hz0 : (kt (kt (kt (fun _ => none) 1 (some (0, .cells (mkCells [ii (F : Int)]) 2))) 2 (some (1, .cells (mkCells [ii c0]) 2))) 0 (some (2, .cells (mkCells [.sl (nx h 0) 0 1 (some 1) 1, .sl (nx h 1) 0 1 (some 1) 1]) 27)) : KT) 0 = some (2, .cells (mkCells [.sl (nx h 0) 0 1 (some 1) 1, .sl (nx h 1) 0 1 (some 1) 1]) 27) := rfl
  have hz3 : (kt (kt (kt (fun _ => none) 1 (some (0, .cells (mkCells [ii (F : Int)]) 2))) 2 (some (1, .cells (mkCells [ii c0]) 2))) 0 (some (2, .cells (mkCells [.sl (nx h 0) 0 1 (some 1) 1, .sl (nx h 1) 0 1 (some 1) 1]) 27)) : KT) 3 = none := rfl
  generalize kt (kt (kt (fun _ => none) 1 (some (0, AO.cells (mkCells [ii (F : Int)]) 2))) 2 (some (1, .cells (mkCells [ii c0]) 2))) 0 (some (2, .cells (mkCells [.sl (nx h 0) 0 1 (some 1) 1, .sl (nx h 1) 0 1 (some 1) 1]) 27)) = Tz at *
  refine WC_loop (fun (i : Nat) f d h' => i ≤ k ∧ f 2 = b ∧ f 7 = ii (m : Int) ∧ f 10 = .ptr (nx h 2) 0 ∧ f 11 = ii (i : Int) ∧ d = [] ∧ ∃ (L : List AO) (w : Nat) (T : KT) (va vb : AV), h' = X h L w ∧ h.clock ≤ w ∧ w ≤ h.clock + L.length ∧ Held L T ∧ T 0 = some (2, .cells (mkCells [va, vb]) 27) ∧ SlB h T 1 va 2 ((reS F m i).map ii) ∧ SlB h T 2 vb 2 ((cfS C i).map ii) ∧ T 3 = none) (fun i => k - i) ?_ (k + 1) 0 (by omega) ?_
  rotate_left 1
  · exact ⟨Nat.zero_le _, by simp only [upd_apply, ↓reduceIte, reduceCtorEq, Nat.reduceEqDiff]; exact g2, by simp only [upd_apply, ↓reduceIte, reduceCtorEq, Nat.reduceEqDiff]; exact g7, by simp only [upd_apply, ↓reduceIte, reduceCtorEq, Nat.reduceEqDiff], by simp only [upd_apply, ↓reduceIte, reduceCtorEq, Nat.reduceEqDiff]; rfl, rfl, _, _, Tz, _, _, rfl, by omega, by omega, hT0, hz0, hS1, hS2, hz3⟩
  rintro i f d h' ⟨hi, g2, g7, g10, g11, rfl, L, w, T, va, vb, rfl, hw1, hw2, hT, t0, s1, s2, t3⟩
  have e0 := hT.get t0
  have e0' : ∀ M, (L ++ M)[2]? = some (.cells (mkCells [va, vb]) 27) := fun M => hT.gets t0 M
  have f1 := s1.flat
  have f2 := s2.flat
  by_cases hlt : i < k
  · have lr : ((reS F m i).map ii).length = i + 1 := by rw [len_map, reS_len]
    have lc : ((cfS C i).map ii).length = i + 1 := by rw [len_map, cfS_len]
    obtain ⟨id, off, hix, hld⟩ := s1.at wf hT (i := i) (by omega) ik_25
    have hre : ((reS F m i).map ii)[i]? = some (ii ((F + m * i : Nat) : Int)) := by simp [reS]
    rw [hre] at hld
    have hld0 : ∀ w, load1 id off (X h L w) = some (ii ((F + m * i : Nat) : Int)) := fun w => by have := hld [] w; rwa [List.append_nil] at this
    have hmi : m * i ≤ 220 := by have := Nat.mul_le_mul (show m ≤ 20 by omega) (show i ≤ 11 by omega); omega
    have rs25 : ∀ (id : Pos) (off len c esz : Nat), reszT Tryz.prog 25 (.sl id off len (some c) esz) = .sl id off len (some c) 1 := fun id off len c esz => reszT_some un_25 sz_2
    have rs1 := s1.resz (P := Tryz.prog) (t := 25) un_25 sz_2
    have rs2 := s2.resz (P := Tryz.prog) (t := 25) un_25 sz_2
    (repeat' (first
  | (with_reducible first | refine WC_seq ?_ | refine WC_skip ?_ | refine WC_label ?_ | refine WC_scope ?_ | refine WC_block ?_ | refine WC_ret ?_ | refine WC_exit ?_ | refine seqQ_norm ?_ | refine seqQ_ret ?_ | refine seqQ_exit ?_ | refine blkQ_norm ?_ | refine blkQ_ret ?_ | refine blkQ_here ?_ | refine gateK_yes ?_ | refine gateK_none ?_ | refine condK_tt ?_ | refine condK_ff ?_ | refine roundQ_exit ?_ | refine roundQ_ret ?_)
  | refine WC_region ?_ | refine blkQ_out rfl ?_ | refine WO_nil ?_ | refine WD_nil ?_
  | ((first | refine WD_gate rfl rfl rfl rfl rfl fun K_ hK_ => ?_ | refine WO_gate rfl rfl rfl rfl rfl fun K_ hK_ => ?_); simp only [upd_apply, asB_bool, asB_tup, ↓reduceIte, reduceCtorEq, Nat.reduceEqDiff, Bool.not_true, Bool.not_false]; refine hK_ _ ?_; clear hK_ K_)
  | refine gateK_no (by decide) ?_
  | ((try first | refine WO_op rfl rfl rfl ?_ | refine WO_op0 rfl rfl ?_ | refine WD_op rfl rfl rfl ?_ | refine WD_op0 rfl rfl ?_); (refine WV_gen fun Q_ hQ_ => ?_; simp (disch := first | omega | (simp only [List.length_cons, List.length_nil, List.length_append]; omega)) only [bb, bp, argF, ↓reduceIte, reduceCtorEq, Nat.reduceEqDiff, Nat.reduceLT, Nat.reduceLeDiff, Nat.reduceAdd, Nat.reduceMul, Nat.reduceSub, Nat.reduceBEq, Int.reduceToNat, cond_true, cond_false, eq_self, beq_self_eq_true, g2, g7, g10, g11, hlen, newPtr_X wf, load1_X wf, loadAgg_X wf, store1_X wf, writeCells_X wf, makeFunc_def, tEvsE6, bsl_25, bsl_36, bsl_35, bsl_40, bsl_259, newSlice_X wf]; first | (refine dec_split (Q := Q_) (fun hp_ => ?_) (fun hp_ => ?_) <;> first | (exfalso; omega) | (refine hQ_ _ _ ?_; clear hQ_ Q_)) | (refine dec_splitn (Q := Q_) (fun hp_ => ?_) (fun hp_ => ?_) <;> first | (exfalso; omega) | (refine hQ_ _ _ ?_; clear hQ_ Q_)) | (refine hQ_ _ _ ?_; clear hQ_ Q_)))
  | (refine WC_cond fun K_ hK_ => ?_; simp (disch := omega) only [evT_tmp, upd_apply, WB_some, ↓reduceIte, reduceCtorEq, Nat.reduceEqDiff, Nat.reduceLT]; refine hK_ _ ?_; clear hK_ K_)))
    refine WC_drawnB [.no, .no, .no, .no, .no, .no, .no, .no, .no, .no, .full, .full, .full] (by kernel_rfl) ?_
    obtain ⟨va', L1, w1, s1', hT1, hl1, ha1, hb1, happ1⟩ := s1.app wf hT (P := Tryz.prog) (t := 25) un_25 sz_2 el_2 (x0 := ii (((F + m * i : Nat) : Int) + (m : Int))) (by omega) (by decide) rfl 1 (h.clock + (L.length + 1)) (by omega)
    generalize hTn : kt T 1 (some (L.length + 1, AO.cells (mkCells ((reS F m i).map ii ++ [ii (((F + m * i : Nat) : Int) + (m : Int))])) 2)) = T1 at *
    have t0' : T1 0 = some (2, .cells (mkCells [va, vb]) 27) := by subst hTn; exact t0
    have t3' : T1 3 = none := by subst hTn; exact t3
    replace s2 := s2.keep (T' := T1) (by subst hTn; rfl)
    have fa' := s1'.flat
    have e1 := hT1.get t0'
    (repeat' (first
  | (with_reducible first | refine WC_seq ?_ | refine WC_skip ?_ | refine WC_label ?_ | refine WC_scope ?_ | refine WC_block ?_ | refine WC_ret ?_ | refine WC_exit ?_ | refine seqQ_norm ?_ | refine seqQ_ret ?_ | refine seqQ_exit ?_ | refine blkQ_norm ?_ | refine blkQ_ret ?_ | refine blkQ_here ?_ | refine gateK_yes ?_ | refine gateK_none ?_ | refine condK_tt ?_ | refine condK_ff ?_ | refine roundQ_exit ?_ | refine roundQ_ret ?_)
  | refine WC_region ?_ | refine blkQ_out rfl ?_ | refine WO_nil ?_ | refine WD_nil ?_
  | ((first | refine WD_gate rfl rfl rfl rfl rfl fun K_ hK_ => ?_ | refine WO_gate rfl rfl rfl rfl rfl fun K_ hK_ => ?_); simp only [upd_apply, asB_bool, asB_tup, ↓reduceIte, reduceCtorEq, Nat.reduceEqDiff, Bool.not_true, Bool.not_false]; refine hK_ _ ?_; clear hK_ K_)
  | refine gateK_no (by decide) ?_
  | ((try first | refine WO_op rfl rfl rfl ?_ | refine WO_op0 rfl rfl ?_ | refine WD_op rfl rfl rfl ?_ | refine WD_op0 rfl rfl ?_); (refine WV_gen fun Q_ hQ_ => ?_; simp (disch := first | omega | (simp only [List.length_cons, List.length_nil, List.length_append]; omega)) only [bb, bp, argF, ↓reduceIte, reduceCtorEq, Nat.reduceEqDiff, Nat.reduceLT, Nat.reduceLeDiff, Nat.reduceAdd, Nat.reduceMul, Nat.reduceSub, Nat.reduceBEq, Int.reduceToNat, cond_true, cond_false, eq_self, beq_self_eq_true, g2, g7, g10, g11, hix, hld0, e0, e1, happ1, f1.1, f1.2, f2.1, f2.2, fa'.1, fa'.2, rs1, rs2, rs25, newPtr_X wf, load1_X wf, loadAgg_X wf, store1_X wf, writeCells_X wf, makeFunc_def, tEvsE6, bsl_25, bsl_36, bsl_35, bsl_40, bsl_259, newSlice_X wf]; first | (refine dec_split (Q := Q_) (fun hp_ => ?_) (fun hp_ => ?_) <;> first | (exfalso; omega) | (refine hQ_ _ _ ?_; clear hQ_ Q_)) | (refine dec_splitn (Q := Q_) (fun hp_ => ?_) (fun hp_ => ?_) <;> first | (exfalso; omega) | (refine hQ_ _ _ ?_; clear hQ_ Q_)) | (refine hQ_ _ _ ?_; clear hQ_ Q_)))
  | (refine WC_cond fun K_ hK_ => ?_; simp (disch := omega) only [evT_tmp, upd_apply, WB_some, ↓reduceIte, reduceCtorEq, Nat.reduceEqDiff, Nat.reduceLT]; refine hK_ _ ?_; clear hK_ K_)))
    have hT2 := hT1.set t0' (.cells (mkCells [va', vb]) 27)
    generalize hTn2 : kt T1 0 (some (2, AO.cells (mkCells [va', vb]) 27)) = T2 at *
    have t0b : T2 0 = some (2, .cells (mkCells [va', vb]) 27) := by subst hTn2; rfl
    have t3b : T2 3 = none := by subst hTn2; exact t3'
    replace s1' := s1'.keep (T' := T2) (by subst hTn2; rfl)
    replace s2 := s2.keep (T' := T2) (by subst hTn2; rfl)
    have hl2 : (L1.set 2 (.cells (mkCells [va', vb]) 27)).length = L.length + 2 := by rw [List.length_set]; exact hl1
    generalize hLn : L1.set 2 (AO.cells (mkCells [va', vb]) 27) = L2 at *
    have e2 := hT2.get t0b
    have e2' : ∀ M, (L2 ++ M)[2]? = some (.cells (mkCells [va', vb]) 27) := fun M => hT2.gets t0b M
    clear e0 e0' e1 hix hld hld0 happ1
    obtain ⟨idc, offc, hixc, hldc⟩ := s2.at wf hT2 (i := i) (by omega) ik_25
    have hcf : ((cfS C i).map ii)[i]? = some (ii (C i)) := by simp [cfS]
    rw [hcf] at hldc
    have hldc0 : ∀ w, load1 idc offc (X h L2 w) = some (ii (C i)) := fun w => by have := hldc [] w; rwa [List.append_nil] at this
    obtain ⟨idb, offb, hixb, hldb⟩ := hbat hlt
    have q1 := hmv i
    have q3 := hvin i
    have cvk := hcv i
    have cb := hCb i (by omega)
    have cb1 := hCb (i + 1) (by omega)
    have c1 := hC1 i
    obtain ⟨vb', L3, w3, s2', hT3, hl3, ha3, hb3, happ3⟩ := s2.app wf hT2 (P := Tryz.prog) (t := 25) un_25 sz_2 el_2 (x0 := ii (C i - (m : Int) * v i)) (by omega) (by decide) rfl 1 (h.clock + (L2.length + 1)) (by omega)
    generalize hTn3 : kt T2 2 (some (L2.length + 1, AO.cells (mkCells ((cfS C i).map ii ++ [ii (C i - (m : Int) * v i)])) 2)) = T3 at *
    have t0c : T3 0 = some (2, .cells (mkCells [va', vb]) 27) := by subst hTn3; exact t0b
    have t3c : T3 3 = none := by subst hTn3; exact t3b
    replace s1' := s1'.keep (T' := T3) (by subst hTn3; rfl)
    have fb' := s2'.flat
    have e3 := hT3.get t0c
    refine WC_drawnB [.no, .no, .no, .no, .no, .no, .no, .no, .no, .no, .no, .no, .no, .no, .no, .no, .full, .full, .full] (by kernel_rfl) ?_
    (repeat' (first
  | (with_reducible first | refine WC_seq ?_ | refine WC_skip ?_ | refine WC_label ?_ | refine WC_scope ?_ | refine WC_block ?_ | refine WC_ret ?_ | refine WC_exit ?_ | refine seqQ_norm ?_ | refine seqQ_ret ?_ | refine seqQ_exit ?_ | refine blkQ_norm ?_ | refine blkQ_ret ?_ | refine blkQ_here ?_ | refine gateK_yes ?_ | refine gateK_none ?_ | refine condK_tt ?_ | refine condK_ff ?_ | refine roundQ_exit ?_ | refine roundQ_ret ?_)
  | refine WC_region ?_ | refine blkQ_out rfl ?_ | refine WO_nil ?_ | refine WD_nil ?_
  | ((first | refine WD_gate rfl rfl rfl rfl rfl fun K_ hK_ => ?_ | refine WO_gate rfl rfl rfl rfl rfl fun K_ hK_ => ?_); simp only [upd_apply, asB_bool, asB_tup, ↓reduceIte, reduceCtorEq, Nat.reduceEqDiff, Bool.not_true, Bool.not_false]; refine hK_ _ ?_; clear hK_ K_)
  | refine gateK_no (by decide) ?_
  | ((try first | refine WO_op rfl rfl rfl ?_ | refine WO_op0 rfl rfl ?_ | refine WD_op rfl rfl rfl ?_ | refine WD_op0 rfl rfl ?_); (refine WV_gen fun Q_ hQ_ => ?_; simp (disch := first | omega | (simp only [List.length_cons, List.length_nil, List.length_append]; omega)) only [bb, bp, argF, ↓reduceIte, reduceCtorEq, Nat.reduceEqDiff, Nat.reduceLT, Nat.reduceLeDiff, Nat.reduceAdd, Nat.reduceMul, Nat.reduceSub, Nat.reduceBEq, Int.reduceToNat, cond_true, cond_false, eq_self, beq_self_eq_true, g2, g7, g10, g11, hixc, hldc0, hixb, hldb, cvk, e2, e3, happ3, f1.1, f1.2, f2.1, f2.2, fa'.1, fa'.2, fb'.1, fb'.2, rs1, rs2, rs25, newPtr_X wf, load1_X wf, loadAgg_X wf, store1_X wf, writeCells_X wf, makeFunc_def, tEvsE6, bsl_25, bsl_36, bsl_35, bsl_40, bsl_259, newSlice_X wf]; first | (refine dec_split (Q := Q_) (fun hp_ => ?_) (fun hp_ => ?_) <;> first | (exfalso; omega) | (refine hQ_ _ _ ?_; clear hQ_ Q_)) | (refine dec_splitn (Q := Q_) (fun hp_ => ?_) (fun hp_ => ?_) <;> first | (exfalso; omega) | (refine hQ_ _ _ ?_; clear hQ_ Q_)) | (refine hQ_ _ _ ?_; clear hQ_ Q_)))
  | (refine WC_cond fun K_ hK_ => ?_; simp (disch := omega) only [evT_tmp, upd_apply, WB_some, ↓reduceIte, reduceCtorEq, Nat.reduceEqDiff, Nat.reduceLT]; refine hK_ _ ?_; clear hK_ K_)))
    have er : (reS F m (i + 1)).map ii = (reS F m i).map ii ++ [ii (((F + m * i : Nat) : Int) + (m : Int))] := by
      rw [reS_snoc, List.map_append, show ((F + m * (i + 1) : Nat) : Int) = ((F + m * i : Nat) : Int) + (m : Int) by rw [Nat.mul_add]; omega]; rfl
    have ec : (cfS C (i + 1)).map ii = (cfS C i).map ii ++ [ii (C i - (m : Int) * v i)] := by
      rw [cfS_snoc, List.map_append, c1]; rfl
    refine roundQ_again (i + 1) (by omega) ⟨hlt, by simp only [upd_apply, ↓reduceIte, reduceCtorEq, Nat.reduceEqDiff]; exact g2, by simp only [upd_apply, ↓reduceIte, reduceCtorEq, Nat.reduceEqDiff]; exact g7, by simp only [upd_apply, ↓reduceIte, reduceCtorEq, Nat.reduceEqDiff]; exact g10, by simp only [upd_apply, ↓reduceIte, reduceCtorEq, Nat.reduceEqDiff]; rfl, rfl, _, _, kt T3 0 (some (2, .cells (mkCells [va', vb']) 27)), va', vb', rfl, by omega, by (rw [List.length_set]; omega), hT3.set t0c _, rfl, ?_, ?_, by rw [kt_ne (by decide)]; exact t3c⟩
    · rw [er]; exact s1'.keep (kt_ne (by decide))
    · rw [ec]; exact s2'.keep (kt_ne (by decide))
  have hik : i = k := by omega
  subst hik
  have x : LineR (X h L w) va vb (reS F m i) (cfS C i) := ⟨wf.X hw2, .inl (by have := s1.sl wf hT w; rwa [len_map] at this), .inl (by have := s2.sl wf hT w; rwa [len_map] at this)⟩
  by_cases hle : lineErr (reS F m i) (cfS C i) = 0
  rotate_left 1
  · (repeat' (first
  | (with_reducible first | refine WC_seq ?_ | refine WC_skip ?_ | refine WC_label ?_ | refine WC_scope ?_ | refine WC_block ?_ | refine WC_ret ?_ | refine WC_exit ?_ | refine seqQ_norm ?_ | refine seqQ_ret ?_ | refine seqQ_exit ?_ | refine blkQ_norm ?_ | refine blkQ_ret ?_ | refine blkQ_here ?_ | refine gateK_yes ?_ | refine gateK_none ?_ | refine condK_tt ?_ | refine condK_ff ?_ | refine roundQ_exit ?_ | refine roundQ_ret ?_)
  | refine WC_region ?_ | refine blkQ_out rfl ?_ | refine WO_nil ?_ | refine WD_nil ?_
  | ((first | refine WD_gate rfl rfl rfl rfl rfl fun K_ hK_ => ?_ | refine WO_gate rfl rfl rfl rfl rfl fun K_ hK_ => ?_); simp only [upd_apply, asB_bool, asB_tup, ↓reduceIte, reduceCtorEq, Nat.reduceEqDiff, Bool.not_true, Bool.not_false]; refine hK_ _ ?_; clear hK_ K_)
  | refine gateK_no (by decide) ?_
  | ((try first | refine WO_op rfl rfl rfl ?_ | refine WO_op0 rfl rfl ?_ | refine WD_op rfl rfl rfl ?_ | refine WD_op0 rfl rfl ?_); (refine WV_gen fun Q_ hQ_ => ?_; simp (disch := first | omega | (simp only [List.length_cons, List.length_nil, List.length_append]; omega)) only [bb, bp, argF, ↓reduceIte, reduceCtorEq, Nat.reduceEqDiff, Nat.reduceLT, Nat.reduceLeDiff, Nat.reduceAdd, Nat.reduceMul, Nat.reduceSub, Nat.reduceBEq, Int.reduceToNat, cond_true, cond_false, eq_self, beq_self_eq_true, g2, g7, g10, g11, hlen, e0, f1.1, f1.2, f2.1, f2.2, newPtr_X wf, load1_X wf, loadAgg_X wf, store1_X wf, writeCells_X wf, makeFunc_def, tEvsE6, bsl_25, bsl_36, bsl_35, bsl_40, bsl_259, newSlice_X wf]; first | (refine dec_split (Q := Q_) (fun hp_ => ?_) (fun hp_ => ?_) <;> first | (exfalso; omega) | (refine hQ_ _ _ ?_; clear hQ_ Q_)) | (refine dec_splitn (Q := Q_) (fun hp_ => ?_) (fun hp_ => ?_) <;> first | (exfalso; omega) | (refine hQ_ _ _ ?_; clear hQ_ Q_)) | (refine hQ_ _ _ ?_; clear hQ_ Q_) | (refine WV_eq (refCheckLine va vb _ _ _ x) ?_; refine hQ_ _ _ ?_; clear hQ_ Q_) | (refine WV_eq (hwk L w hw2) ?_; refine hQ_ _ _ ?_; clear hQ_ Q_)))
  | (refine WC_cond fun K_ hK_ => ?_; simp (disch := omega) only [evT_tmp, upd_apply, WB_some, ↓reduceIte, reduceCtorEq, Nat.reduceEqDiff, Nat.reduceLT]; refine hK_ _ ?_; clear hK_ K_)))
    (refine endQ_ret _ _ rfl (ret1 (by decide)) ?_; simp only [upd_apply, ↓reduceIte, reduceCtorEq, Nat.reduceEqDiff]; refine WV_flat rfl (by omega) ?_)
    exact ⟨rfl, rfl⟩
  have hck := refCheckLine va vb _ _ _ x
  rw [hle] at hck
  have kk := lineErr_zero.1 hle
  obtain ⟨id, off, hix, hld⟩ := s1.at wf hT (i := 0) (by rw [len_map, reS_len]; omega) ik_25
  have hre : ((reS F m i).map ii)[0]? = some (ii (F : Int)) := by simp [reS]
  rw [hre] at hld
  have hld0 : ∀ w, load1 id off (X h L w) = some (ii (F : Int)) := fun w => by have := hld [] w; rwa [List.append_nil] at this
  have hix' : indexAddrE Tryz.prog 25 va (.int .i64 0) = some (.ptr id off) := hix
  (repeat' (first
  | (with_reducible first | refine WC_seq ?_ | refine WC_skip ?_ | refine WC_label ?_ | refine WC_scope ?_ | refine WC_block ?_ | refine WC_ret ?_ | refine WC_exit ?_ | refine seqQ_norm ?_ | refine seqQ_ret ?_ | refine seqQ_exit ?_ | refine blkQ_norm ?_ | refine blkQ_ret ?_ | refine blkQ_here ?_ | refine gateK_yes ?_ | refine gateK_none ?_ | refine condK_tt ?_ | refine condK_ff ?_ | refine roundQ_exit ?_ | refine roundQ_ret ?_)
  | refine WC_region ?_ | refine blkQ_out rfl ?_ | refine WO_nil ?_ | refine WD_nil ?_
  | ((first | refine WD_gate rfl rfl rfl rfl rfl fun K_ hK_ => ?_ | refine WO_gate rfl rfl rfl rfl rfl fun K_ hK_ => ?_); simp only [upd_apply, asB_bool, asB_tup, ↓reduceIte, reduceCtorEq, Nat.reduceEqDiff, Bool.not_true, Bool.not_false]; refine hK_ _ ?_; clear hK_ K_)
  | refine gateK_no (by decide) ?_
  | ((try first | refine WO_op rfl rfl rfl ?_ | refine WO_op0 rfl rfl ?_ | refine WD_op rfl rfl rfl ?_ | refine WD_op0 rfl rfl ?_); (refine WV_gen fun Q_ hQ_ => ?_; simp (disch := first | omega | (simp only [List.length_cons, List.length_nil, List.length_append]; omega)) only [bb, bp, argF, ↓reduceIte, reduceCtorEq, Nat.reduceEqDiff, Nat.reduceLT, Nat.reduceLeDiff, Nat.reduceAdd, Nat.reduceMul, Nat.reduceSub, Nat.reduceBEq, Int.reduceToNat, cond_true, cond_false, eq_self, beq_self_eq_true, g2, g7, g10, g11, hlen, e0, hix', hld0, f1.1, f1.2, f2.1, f2.2, newPtr_X wf, load1_X wf, loadAgg_X wf, store1_X wf, writeCells_X wf, makeFunc_def, tEvsE6, bsl_25, bsl_36, bsl_35, bsl_40, bsl_259, newSlice_X wf]; first | (refine dec_split (Q := Q_) (fun hp_ => ?_) (fun hp_ => ?_) <;> first | (exfalso; omega) | (refine hQ_ _ _ ?_; clear hQ_ Q_)) | (refine dec_splitn (Q := Q_) (fun hp_ => ?_) (fun hp_ => ?_) <;> first | (exfalso; omega) | (refine hQ_ _ _ ?_; clear hQ_ Q_)) | (refine hQ_ _ _ ?_; clear hQ_ Q_) | (refine WV_eq (hck) ?_; refine hQ_ _ _ ?_; clear hQ_ Q_)))
  | (refine WC_cond fun K_ hK_ => ?_; simp (disch := omega) only [evT_tmp, upd_apply, WB_some, ↓reduceIte, reduceCtorEq, Nat.reduceEqDiff, Nat.reduceLT]; refine hK_ _ ?_; clear hK_ K_)))
  clear hix' hix hld hld0 hck x e0'
  have hmi : m * i ≤ 220 := by have := Nat.mul_le_mul (show m ≤ 20 by omega) (show i ≤ 11 by omega); omega
  refine WC_loop (fun (q : Nat) f d h' => q ≤ m * i + 1 ∧ f 2 = b ∧ f 7 = ii (m : Int) ∧ f 10 = .ptr (nx h 2) 0 ∧ f 13 = ii ((F + q : Nat) : Int) ∧ d = [] ∧ ∃ (L : List AO) (w : Nat) (T : KT), h' = X h L w ∧ h.clock ≤ w ∧ w ≤ h.clock + L.length ∧ Held L T ∧ T 0 = some (2, .cells (mkCells [va, vb]) 27) ∧ SlB h T 1 va 2 ((reS F m i).map ii) ∧ SlB h T 2 vb 2 ((cfS C i).map ii) ∧ SlK h T 3 (f 12) 1 2 q ((frL F m i C q).map ii)) (fun q => m * i + 1 - q) ?_ (m * i + 2) 0 (by omega) ?_
  rotate_left 1
  · exact ⟨Nat.zero_le _, by simp only [upd_apply, ↓reduceIte, reduceCtorEq, Nat.reduceEqDiff]; exact g2, by simp only [upd_apply, ↓reduceIte, reduceCtorEq, Nat.reduceEqDiff]; exact g7, by simp only [upd_apply, ↓reduceIte, reduceCtorEq, Nat.reduceEqDiff]; exact g10, by simp only [upd_apply, ↓reduceIte, reduceCtorEq, Nat.reduceEqDiff]; rfl, rfl, _, _, T, rfl, hw1, hw2, hT, t0, s1, s2, by simp only [upd_apply, ↓reduceIte, reduceCtorEq, Nat.reduceEqDiff]; exact SlK.nil _ _ _ _ _ t3⟩
  clear hT t0 s1 s2 t3 e0 hw1 hw2 g2 g7 g10 g11
  rintro q f d h' ⟨hq, g2, g7, g10, g13, rfl, L, w, T, rfl, hw1, hw2, hT, t0, s1, s2, s3⟩
  have e0 := hT.get t0
  have x : LineR (X h L w) va vb (reS F m i) (cfS C i) := ⟨wf.X hw2, .inl (by have := s1.sl wf hT w; rwa [len_map] at this), .inl (by have := s2.sl wf hT w; rwa [len_map] at this)⟩
  obtain ⟨id, off, hix, hld⟩ := s1.at wf hT (i := i) (by rw [len_map, reS_len]; omega) ik_25
  have hre : ((reS F m i).map ii)[i]? = some (ii ((F + m * i : Nat) : Int)) := by simp [reS]
  rw [hre] at hld
  have hld0 : ∀ w, load1 id off (X h L w) = some (ii ((F + m * i : Nat) : Int)) := fun w => by have := hld [] w; rwa [List.append_nil] at this
  generalize g12 : f 12 = lv at *
  by_cases hlt : q ≤ m * i
  · have hh : has (reS F m i) ((F + q : Nat) : Int) := by
      unfold has
      rw [reS_len, Nat.add_sub_cancel, reS_at (Nat.zero_le _), reS_at (Nat.le_refl _)]
      omega
    have hfri := Friction va vb _ _ ((F + q : Nat) : Int) _ x
    rw [(fric_has kk hh).1, (fric_has kk hh).2] at hfri
    have hfin := fr_in kk hh
    have rs3 := s3.resz (P := Tryz.prog) 25
    have f3 := s3.flat
    generalize hy : fr (reS F m i) (cfS C i) ((F + q : Nat) : Int) = y at *
    obtain ⟨lv', L1, w1, s3', hT1, hl1, ha1, hb1, happ1⟩ := s3.app wf hT (P := Tryz.prog) (t := 25) un_25 sz_2 el_2 (new := [ii y]) (by omega) (by decide) rfl rfl 1 w hw1
    have rs25 : ∀ (id : Pos) (off len c esz : Nat), reszT Tryz.prog 25 (.sl id off len (some c) esz) = .sl id off len (some c) 1 := fun id off len c esz => reszT_some un_25 sz_2
    (repeat' (first
  | (with_reducible first | refine WC_seq ?_ | refine WC_skip ?_ | refine WC_label ?_ | refine WC_scope ?_ | refine WC_block ?_ | refine WC_ret ?_ | refine WC_exit ?_ | refine seqQ_norm ?_ | refine seqQ_ret ?_ | refine seqQ_exit ?_ | refine blkQ_norm ?_ | refine blkQ_ret ?_ | refine blkQ_here ?_ | refine gateK_yes ?_ | refine gateK_none ?_ | refine condK_tt ?_ | refine condK_ff ?_ | refine roundQ_exit ?_ | refine roundQ_ret ?_)
  | refine WC_region ?_ | refine blkQ_out rfl ?_ | refine WO_nil ?_ | refine WD_nil ?_
  | ((first | refine WD_gate rfl rfl rfl rfl rfl fun K_ hK_ => ?_ | refine WO_gate rfl rfl rfl rfl rfl fun K_ hK_ => ?_); simp only [upd_apply, asB_bool, asB_tup, ↓reduceIte, reduceCtorEq, Nat.reduceEqDiff, Bool.not_true, Bool.not_false]; refine hK_ _ ?_; clear hK_ K_)
  | refine gateK_no (by decide) ?_
  | ((try first | refine WO_op rfl rfl rfl ?_ | refine WO_op0 rfl rfl ?_ | refine WD_op rfl rfl rfl ?_ | refine WD_op0 rfl rfl ?_); (refine WV_gen fun Q_ hQ_ => ?_; simp (disch := first | omega | (simp only [List.length_cons, List.length_nil, List.length_append]; omega)) only [bb, bp, argF, ↓reduceIte, reduceCtorEq, Nat.reduceEqDiff, Nat.reduceLT, Nat.reduceLeDiff, Nat.reduceAdd, Nat.reduceMul, Nat.reduceSub, Nat.reduceBEq, Int.reduceToNat, cond_true, cond_false, eq_self, beq_self_eq_true, g2, g7, g10, g12, g13, hlen, e0, hix, hld0, f1.1, f1.2, f2.1, f2.2, f3.1, f3.2, rs3, rs25, happ1, newPtr_X wf, load1_X wf, loadAgg_X wf, store1_X wf, writeCells_X wf, makeFunc_def, tEvsE6, bsl_25, bsl_36, bsl_35, bsl_40, bsl_259, newSlice_X wf]; first | (refine dec_split (Q := Q_) (fun hp_ => ?_) (fun hp_ => ?_) <;> first | (exfalso; omega) | (refine hQ_ _ _ ?_; clear hQ_ Q_)) | (refine dec_splitn (Q := Q_) (fun hp_ => ?_) (fun hp_ => ?_) <;> first | (exfalso; omega) | (refine hQ_ _ _ ?_; clear hQ_ Q_)) | (refine hQ_ _ _ ?_; clear hQ_ Q_) | (refine WV_eq (hfri) ?_; refine hQ_ _ _ ?_; clear hQ_ Q_)))
  | (refine WC_cond fun K_ hK_ => ?_; simp (disch := omega) only [evT_tmp, upd_apply, WB_some, ↓reduceIte, reduceCtorEq, Nat.reduceEqDiff, Nat.reduceLT]; refine hK_ _ ?_; clear hK_ K_)))
    refine roundQ_again (q + 1) (by omega) ⟨by omega, by simp only [upd_apply, ↓reduceIte, reduceCtorEq, Nat.reduceEqDiff]; exact g2, by simp only [upd_apply, ↓reduceIte, reduceCtorEq, Nat.reduceEqDiff]; exact g7, by simp only [upd_apply, ↓reduceIte, reduceCtorEq, Nat.reduceEqDiff]; exact g10, by simp only [upd_apply, ↓reduceIte, reduceCtorEq, Nat.reduceEqDiff]; push_cast; rw [Int.add_assoc], rfl, L1, w1, _, rfl, ha1, by omega, hT1, by rw [kt_ne (by decide)]; exact t0, s1.keep (kt_ne (by decide)), s2.keep (kt_ne (by decide)), ?_⟩
    simp only [upd_apply, ↓reduceIte, reduceCtorEq, Nat.reduceEqDiff]
    rw [frL_snoc, List.map_append, hy]
    exact s3'
  have hqe : q = m * i + 1 := by omega
  subst hqe
  have hfl := frL_len F m i C (m * i + 1)
  have hfoff : ∀ x ∈ frL F m i C (m * i + 1), Off x := fun y hy => by
    unfold frL at hy
    obtain ⟨j, hj, rfl⟩ := List.mem_map.1 hy
    have hj' := List.mem_range.1 hj
    have hh : has (reS F m i) ((F + j : Nat) : Int) := by
      unfold has
      rw [reS_len, Nat.add_sub_cancel, reS_at (Nat.zero_le _), reS_at (Nat.le_refl _)]
      omega
    have := fr_in kk hh
    exact ⟨by omega, by omega⟩
  have hcoff : ∀ x ∈ cfS C i, Off x := fun y hy => by
    obtain ⟨j, hj, rfl⟩ := List.getElem_of_mem hy
    have hj' : j < (reS F m i).length := by rw [reS_len, ← cfS_len C i]; exact hj
    have := kk.cf_in hj'
    rw [gd hj] at this
    exact ⟨by omega, by omega⟩
  have hmf := meas_fine (f := F) (m := m) (n := i) (by omega) (by omega) (fun j _ => hC1 j)
  rw [show ((List.range (m * i + 1)).map fun k => fr (reS F m i) (cfS C i) ((F + k : Nat) : Int)) = frL F m i C (m * i + 1) from rfl] at hmf
  have b1 := measOf_in hfoff
  have b2 := measOf_in hcoff
  rw [hfl] at b1
  rw [cfS_len] at b2
  obtain ⟨ix, rfl, hix3⟩ := s3.capu (by omega)
  have M1 := Measure (frL F m i C (m * i + 1)) (.sl (nx h ix) 0 (m * i + 1) none 1) (by omega) ⟨(by intro id off l c esz hv; cases hv), (by intro id off l esz hv; cases hv; rfl)⟩ (X h L w) (wf.X hw2) (by have := s3.sl wf hT w; rwa [hfl])
  have M2 := Measure (cfS C i) vb (by rw [cfS_len]; omega) s2.capU (X h L w) (wf.X hw2) (by have := s2.sl wf hT w; rwa [len_map] at this)
  have m1 : measR (frL F m i C (m * i + 1)) = ((measOf (frL F m i C (m * i + 1))).1, (measOf (frL F m i C (m * i + 1))).2, 0) := by unfold measR; rw [if_neg (by omega), if_pos hfoff]
  have m2 : measR (cfS C i) = ((measOf (cfS C i)).1, (measOf (cfS C i)).2, 0) := by unfold measR; rw [if_neg (by rw [cfS_len]; omega), if_pos hcoff]
  rw [m1] at M1
  rw [m2] at M2
  rw [hmf] at M2 b2
  generalize (measOf (frL F m i C (m * i + 1))).1 = ch at *
  generalize (measOf (frL F m i C (m * i + 1))).2 = be at *
  dsimp only at M1 M2 b1 b2
  have hix' : indexAddrE Tryz.prog 25 va (.int .i64 (i : Int)) = some (.ptr id off) := hix
  (repeat' (first
  | (with_reducible first | refine WC_seq ?_ | refine WC_skip ?_ | refine WC_label ?_ | refine WC_scope ?_ | refine WC_block ?_ | refine WC_ret ?_ | refine WC_exit ?_ | refine seqQ_norm ?_ | refine seqQ_ret ?_ | refine seqQ_exit ?_ | refine blkQ_norm ?_ | refine blkQ_ret ?_ | refine blkQ_here ?_ | refine gateK_yes ?_ | refine gateK_none ?_ | refine condK_tt ?_ | refine condK_ff ?_ | refine roundQ_exit ?_ | refine roundQ_ret ?_)
  | refine WC_region ?_ | refine blkQ_out rfl ?_ | refine WO_nil ?_ | refine WD_nil ?_
  | ((first | refine WD_gate rfl rfl rfl rfl rfl fun K_ hK_ => ?_ | refine WO_gate rfl rfl rfl rfl rfl fun K_ hK_ => ?_); simp only [upd_apply, asB_bool, asB_tup, ↓reduceIte, reduceCtorEq, Nat.reduceEqDiff, Bool.not_true, Bool.not_false]; refine hK_ _ ?_; clear hK_ K_)
  | refine gateK_no (by decide) ?_
  | ((try first | refine WO_op rfl rfl rfl ?_ | refine WO_op0 rfl rfl ?_ | refine WD_op rfl rfl rfl ?_ | refine WD_op0 rfl rfl ?_); (refine WV_gen fun Q_ hQ_ => ?_; simp (disch := first | omega | (simp only [List.length_cons, List.length_nil, List.length_append]; omega)) only [bb, bp, argF, ↓reduceIte, reduceCtorEq, Nat.reduceEqDiff, Nat.reduceLT, Nat.reduceLeDiff, Nat.reduceAdd, Nat.reduceMul, Nat.reduceSub, Nat.reduceBEq, Int.reduceToNat, cond_true, cond_false, eq_self, beq_self_eq_true, g2, g7, g10, g12, g13, hlen, e0, hix', hld0, f1.1, f1.2, f2.1, f2.2, newPtr_X wf, load1_X wf, loadAgg_X wf, store1_X wf, writeCells_X wf, makeFunc_def, tEvsE6, bsl_25, bsl_36, bsl_35, bsl_40, bsl_259, newSlice_X wf]; first | (refine dec_split (Q := Q_) (fun hp_ => ?_) (fun hp_ => ?_) <;> first | (exfalso; omega) | (refine hQ_ _ _ ?_; clear hQ_ Q_)) | (refine dec_splitn (Q := Q_) (fun hp_ => ?_) (fun hp_ => ?_) <;> first | (exfalso; omega) | (refine hQ_ _ _ ?_; clear hQ_ Q_)) | (refine hQ_ _ _ ?_; clear hQ_ Q_) | (refine WV_eq (M1) ?_; refine hQ_ _ _ ?_; clear hQ_ Q_) | (refine WV_eq (M2) ?_; refine hQ_ _ _ ?_; clear hQ_ Q_) | (refine WV_eq (hwk L w hw2) ?_; refine hQ_ _ _ ?_; clear hQ_ Q_)))
  | (refine WC_cond fun K_ hK_ => ?_; simp (disch := omega) only [evT_tmp, upd_apply, WB_some, ↓reduceIte, reduceCtorEq, Nat.reduceEqDiff, Nat.reduceLT]; refine hK_ _ ?_; clear hK_ K_)))
  all_goals (refine endQ_ret _ _ rfl (ret1 (by decide)) ?_; simp only [upd_apply, ↓reduceIte, reduceCtorEq, Nat.reduceEqDiff]; refine WV_flat rfl (by omega) ?_)
  all_goals exact ⟨rfl, rfl⟩
end Go.Proofs.YtdaecfjljelneaaGreatDoor
end
