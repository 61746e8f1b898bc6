import Derived.Test.YtkmdidplmfdikaaDoorM5
set_option linter.all false
/- EvT10 -/
section
/-
  LAYER 1: how a line goes on from a state.
-/
namespace Go.Proofs.YtkmdidplmfdikaaDoor
open Go.Ev
set_option maxRecDepth 100000
set_option linter.unusedSimpArgs false
set_option linter.unusedVariables false
set_option maxHeartbeats 2000000

theorem tEvT10 : type_of% (And.intro (And.intro (And.intro (And.intro (And.intro (@bs_71) (And.intro (@ia_2) (@sz_2))) (And.intro (And.intro (@ze_2) (@ia_3)) (And.intro (@sz_3) (@ia_27)))) (And.intro (And.intro (@ia_51) (And.intro (@sz_51) (@ze_51))) (And.intro (And.intro (@ia_71) (@sz_71)) (And.intro (@ze_71) (@ia_64))))) (And.intro (And.intro (And.intro (@sz_64) (And.intro (@ia_24) (@sz_24))) (And.intro (And.intro (@ia_22) (@sz_22)) (And.intro (@ia_25) (@ia_65)))) (And.intro (And.intro (@ia_81) (And.intro (@sz_81) (@ia_67))) (And.intro (And.intro (@sz_67) (@ia_103)) (And.intro (@sz_103) (@ia_101)))))) (And.intro (And.intro (And.intro (And.intro (@sz_101) (And.intro (@ia_4) (@sz_4))) (And.intro (And.intro (@ze_4) (@fo_67_0)) (And.intro (@fo_67_1) (@fo_71_0)))) (And.intro (And.intro (@fo_71_1) (And.intro (@fo_71_2) (@fo_71_3))) (And.intro (And.intro (@fo_51_0) (@fo_51_1)) (And.intro (@fo_64_0) (@fo_24_0))))) (And.intro (And.intro (And.intro (@fo_24_1) (And.intro (@ze_51) (@ia_107))) (And.intro (And.intro (@sz_107) (@pb_60)) (And.intro (@pb_61) (@pb_40)))) (And.intro (And.intro (And.intro (@pb_36) (@pb_43)) (And.intro (@pb_66) (@pb_71))) (And.intro (And.intro (@pb_44) (@pb_69)) (And.intro (@pb_70) (@ni_81))))))) := And.intro (And.intro (And.intro (And.intro (And.intro (@bs_71) (And.intro (@ia_2) (@sz_2))) (And.intro (And.intro (@ze_2) (@ia_3)) (And.intro (@sz_3) (@ia_27)))) (And.intro (And.intro (@ia_51) (And.intro (@sz_51) (@ze_51))) (And.intro (And.intro (@ia_71) (@sz_71)) (And.intro (@ze_71) (@ia_64))))) (And.intro (And.intro (And.intro (@sz_64) (And.intro (@ia_24) (@sz_24))) (And.intro (And.intro (@ia_22) (@sz_22)) (And.intro (@ia_25) (@ia_65)))) (And.intro (And.intro (@ia_81) (And.intro (@sz_81) (@ia_67))) (And.intro (And.intro (@sz_67) (@ia_103)) (And.intro (@sz_103) (@ia_101)))))) (And.intro (And.intro (And.intro (And.intro (@sz_101) (And.intro (@ia_4) (@sz_4))) (And.intro (And.intro (@ze_4) (@fo_67_0)) (And.intro (@fo_67_1) (@fo_71_0)))) (And.intro (And.intro (@fo_71_1) (And.intro (@fo_71_2) (@fo_71_3))) (And.intro (And.intro (@fo_51_0) (@fo_51_1)) (And.intro (@fo_64_0) (@fo_24_0))))) (And.intro (And.intro (And.intro (@fo_24_1) (And.intro (@ze_51) (@ia_107))) (And.intro (And.intro (@sz_107) (@pb_60)) (And.intro (@pb_61) (@pb_40)))) (And.intro (And.intro (And.intro (@pb_36) (@pb_43)) (And.intro (@pb_66) (@pb_71))) (And.intro (And.intro (@pb_44) (@pb_69)) (And.intro (@pb_70) (@ni_81))))))
def onwS (pf : Int → Int → Int → Int → Int) (sp : List (Int × Int)) (x : Stt) : Int × Int := onw pf (sp.drop (x.i + 1)) x.a x.b x.s
def dueS (pf : Int → Int → Int → Int → Int) (sp : List (Int × Int)) (x : Stt) : Int := (onwS pf sp x).2
theorem drop_spot {sp : List (Int × Int)} {i : Nat} (hi : i < sp.length) : sp.drop i = spot sp i :: sp.drop (i + 1) := by rw [List.drop_eq_getElem_cons hi, spot_get hi]
theorem onwS_step {pf : Int → Int → Int → Int → Int} {sp : List (Int × Int)} {x : Stt} (hi : x.i + 1 < sp.length) (hr : (spot sp (x.i + 1)).1 ≤ (spot sp (x.i + 1)).2) : bst (fun c => pf x.a x.b x.s c + dueS pf sp (nxt x c)) (offs (spot sp (x.i + 1))) = some (onwS pf sp x) := by
  obtain ⟨b, e, _⟩ := bst_spec (fun c => pf x.a x.b x.s c + dueS pf sp (nxt x c)) (offs (spot sp (x.i + 1))) (offs_ne hr)
  have e2 : onwS pf sp x = (bst (fun c => pf x.a x.b x.s c + dueS pf sp (nxt x c)) (offs (spot sp (x.i + 1)))).getD (0, 0) := by
    show onw pf (sp.drop (x.i + 1)) x.a x.b x.s = _
    rw [drop_spot hi]
    show (bst (fun c => pf x.a x.b x.s c + (onw pf (sp.drop (x.i + 1 + 1)) x.b c (nsg x.s (x.a - 2 * x.b + c))).2) (offs (spot sp (x.i + 1)))).getD (0, 0) = _
    congr 1
    refine bst_congr fun c _ => ?_
    show _ = pf x.a x.b x.s c + (onw pf (sp.drop (x.i + 1 + 1)) x.b c ((nxt x c).s : Int)).2
    rw [nxt_s]; rfl
  rw [e2, e]; rfl
theorem onwS_last {pf : Int → Int → Int → Int → Int} {sp : List (Int × Int)} {x : Stt} (hi : x.i + 1 = sp.length) : onwS pf sp x = (0, 0) := by
  show onw pf (sp.drop (x.i + 1)) x.a x.b x.s = _
  rw [hi, List.drop_length]; rfl

theorem onward {byv : AV} {pf : Int → Int → Int → Int → Int} (S : StepOK byv pf) (sp : List (Int × Int)) (hsp : SpotsOK sp) (a : AV) (turn : Int) (q : Pos) (Tb : List Int) (hTl : Tb.length = (sp.length - 1) * 75) (hTb : ∀ n, -1000000000000000 ≤ Tb.getD n 0 ∧ Tb.getD n 0 ≤ 1000000000000000)
    (x : Stt) (hx : x.Ok sp) (hgood : ∀ c, x.i + 1 < sp.length → (spot sp (x.i + 1)).1 ≤ c → c ≤ (spot sp (x.i + 1)).2 → Tb.getD ((nxt x c).ix sp) 0 = dueS pf sp (nxt x c)) (h : H) (wf : Wf h) (hs : Sl h a 2 sp.length (spotCells sp)) (ht : TabIn h q Tb) :
    (om Tryd.prog KK).call (.fn 45 [prv a turn q (sp.length - 1), stv x, byv]) h = .ok (.tup [ii (onwS pf sp x).1, ii (onwS pf sp x).2]) h := by
  have hx' := hx
  obtain ⟨⟨k1, k2⟩, k3, k4, k5⟩ := hx'
  have n24 := hsp.n24
  have hla : ∀ l w, w ≤ h.clock + l.length → (om Tryd.prog KK).call (.fn 44 [.agg [a, ii turn]]) (X h l w) = .ok (ii ((sp.length - 1 : Nat) : Int)) (X h l w) := fun l w hw => last a turn sp (by omega) _ (wf.X hw) (hs.up wf _ _)
  have hby := S.flat
  by_cases hl : x.i + 1 = sp.length
  · rw [onwS_last hl]
    refine WV_to (WV_call (fn := Tryd.f45) Tryd.func45 rfl rfl rfl rfl rfl ?_)
    simp only [argF]
    unfold stv prv
    (repeat' (first
  | (with_reducible first | refine WC_seq ?_ | refine WC_skip ?_ | refine WC_label ?_ | refine WC_scope ?_ | refine WC_block ?_ | refine WC_ret ?_ | refine WC_exit ?_ | refine seqQ_norm ?_ | refine seqQ_ret ?_ | refine seqQ_exit ?_ | refine blkQ_norm ?_ | refine blkQ_ret ?_ | refine blkQ_here ?_ | refine gateK_yes ?_ | refine gateK_none ?_ | refine condK_tt ?_ | refine condK_ff ?_ | refine roundQ_exit ?_ | refine roundQ_ret ?_)
  | refine WC_region ?_ | refine blkQ_out rfl ?_ | refine WO_nil ?_ | refine WD_nil ?_
  | ((first | refine WD_gate rfl rfl rfl rfl rfl fun K_ hK_ => ?_ | refine WO_gate rfl rfl rfl rfl rfl fun K_ hK_ => ?_); simp only [upd_apply, asB_bool, asB_tup, ↓reduceIte, reduceCtorEq, Nat.reduceEqDiff, Bool.not_true, Bool.not_false]; refine hK_ _ ?_; clear hK_ K_)
  | refine gateK_no (by decide) ?_
  | ((try first | refine WO_op rfl rfl rfl ?_ | refine WO_op0 rfl rfl ?_ | refine WD_op rfl rfl rfl ?_ | refine WD_op0 rfl rfl ?_); (refine WV_gen fun Q_ hQ_ => ?_; simp (disch := first | omega | (simp only [List.length_cons, List.length_nil, List.length_append]; omega)) only [bb, bp, argF, ↓reduceIte, reduceCtorEq, Nat.reduceEqDiff, Nat.reduceLT, Nat.reduceLeDiff, Nat.reduceAdd, Nat.reduceMul, Nat.reduceSub, Nat.reduceBEq, Int.reduceToNat, cond_true, cond_false, eq_self, beq_self_eq_true, hby.1, hby.2, newPtr_X wf, load1_X wf, loadAgg_X wf, store1_X wf, writeCells_X wf, makeFunc_def, tEvT10, bsl_25, bsl_81, newSlice_X wf]; first | (refine dec_split (Q := Q_) (fun hp_ => ?_) (fun hp_ => ?_) <;> first | (exfalso; omega) | (refine hQ_ _ _ ?_; clear hQ_ Q_)) | (refine dec_splitn (Q := Q_) (fun hp_ => ?_) (fun hp_ => ?_) <;> first | (exfalso; omega) | (refine hQ_ _ _ ?_; clear hQ_ Q_)) | (refine hQ_ _ _ ?_; clear hQ_ Q_)))
  | (refine WC_cond fun K_ hK_ => ?_; simp (disch := omega) only [evT_tmp, upd_apply, WB_some, ↓reduceIte, reduceCtorEq, Nat.reduceEqDiff, Nat.reduceLT]; refine hK_ _ ?_; clear hK_ K_)))
    refine WC_drawnB [.no, .no, .no, .no, .no, .full] (by kernel_rfl) ?_
    (repeat' (first
  | (with_reducible first | refine WC_seq ?_ | refine WC_skip ?_ | refine WC_label ?_ | refine WC_scope ?_ | refine WC_block ?_ | refine WC_ret ?_ | refine WC_exit ?_ | refine seqQ_norm ?_ | refine seqQ_ret ?_ | refine seqQ_exit ?_ | refine blkQ_norm ?_ | refine blkQ_ret ?_ | refine blkQ_here ?_ | refine gateK_yes ?_ | refine gateK_none ?_ | refine condK_tt ?_ | refine condK_ff ?_ | refine roundQ_exit ?_ | refine roundQ_ret ?_)
  | refine WC_region ?_ | refine blkQ_out rfl ?_ | refine WO_nil ?_ | refine WD_nil ?_
  | ((first | refine WD_gate rfl rfl rfl rfl rfl fun K_ hK_ => ?_ | refine WO_gate rfl rfl rfl rfl rfl fun K_ hK_ => ?_); simp only [upd_apply, asB_bool, asB_tup, ↓reduceIte, reduceCtorEq, Nat.reduceEqDiff, Bool.not_true, Bool.not_false]; refine hK_ _ ?_; clear hK_ K_)
  | refine gateK_no (by decide) ?_
  | ((try first | refine WO_op rfl rfl rfl ?_ | refine WO_op0 rfl rfl ?_ | refine WD_op rfl rfl rfl ?_ | refine WD_op0 rfl rfl ?_); (refine WV_gen fun Q_ hQ_ => ?_; simp (disch := first | omega | (simp only [List.length_cons, List.length_nil, List.length_append]; omega)) only [bb, bp, argF, ↓reduceIte, reduceCtorEq, Nat.reduceEqDiff, Nat.reduceLT, Nat.reduceLeDiff, Nat.reduceAdd, Nat.reduceMul, Nat.reduceSub, Nat.reduceBEq, Int.reduceToNat, cond_true, cond_false, eq_self, beq_self_eq_true, hla, newPtr_X wf, load1_X wf, loadAgg_X wf, store1_X wf, writeCells_X wf, makeFunc_def, tEvT10, bsl_25, bsl_81, newSlice_X wf]; first | (refine dec_split (Q := Q_) (fun hp_ => ?_) (fun hp_ => ?_) <;> first | (exfalso; omega) | (refine hQ_ _ _ ?_; clear hQ_ Q_)) | (refine dec_splitn (Q := Q_) (fun hp_ => ?_) (fun hp_ => ?_) <;> first | (exfalso; omega) | (refine hQ_ _ _ ?_; clear hQ_ Q_)) | (refine hQ_ _ _ ?_; clear hQ_ Q_)))
  | (refine WC_cond fun K_ hK_ => ?_; simp (disch := omega) only [evT_tmp, upd_apply, WB_some, ↓reduceIte, reduceCtorEq, Nat.reduceEqDiff, Nat.reduceLT]; refine hK_ _ ?_; clear hK_ K_)))
    (refine endQ_ret _ _ rfl (ret2 (by decide) (by decide)) ?_; simp only [upd_apply, ↓reduceIte, reduceCtorEq, Nat.reduceEqDiff]; refine WV_flat rfl (by omega) ?_)
    exact ⟨rfl, rfl⟩
  · have hi : x.i + 1 < sp.length := by omega
    obtain ⟨c1, c2, c3, c4⟩ := hsp.at hi
    obtain ⟨id0, off0, hix0, hld0⟩ := hs.at wf hi ik_22
    have hr0 : ∀ l w, loadAgg id0 off0 (some 2) (X h l w) = some (.agg [ii (spot sp (x.i + 1)).1, ii (spot sp (x.i + 1)).2]) := fun l w => by rw [(hld0 l w).2, spotCells_at hi, spot_get hi]
    have e1 : ((x.i : Int) + 1) = ((x.i + 1 : Nat) : Int) := by omega
    have hleast : ∀ w, w ≤ h.clock + 4 → (om Tryd.prog KK).call (.fn 69 [.fn 82 [] [.ptr (nx h 3) 0], .fn 71 [] [.ptr (nx h 2) 0, .ptr (nx h 1) 0, .ptr (nx h 0) 0]]) (X h [.cells (mkCells [a, ii turn, .sl q 0 (sp.length - 1) (some (sp.length - 1)) 75]) 67, .cells (mkCells [ii (x.i : Int), ii x.a, ii x.b, ii (x.s : Int)]) 71, .cells (mkCells [byv]) 103, .cells (mkCells [ii (spot sp (x.i + 1)).1, ii (spot sp (x.i + 1)).2]) 51] w) = .ok (.tup [ii (onwS pf sp x).1, ii (onwS pf sp x).2]) (X h [.cells (mkCells [a, ii turn, .sl q 0 (sp.length - 1) (some (sp.length - 1)) 75]) 67, .cells (mkCells [ii (x.i : Int), ii x.a, ii x.b, ii (x.s : Int)]) 71, .cells (mkCells [byv]) 103, .cells (mkCells [ii (spot sp (x.i + 1)).1, ii (spot sp (x.i + 1)).2]) 51] w) := fun w hw => by
      refine leastInt (f := fun c => pf x.a x.b x.s c + dueS pf sp (nxt x c)) (ys := offs (spot sp (x.i + 1))) (offsets1 (t := 71) (nx h 3) (spot sp (x.i + 1)) ⟨c1, c2, c3⟩).plain ⟨rfl, rfl⟩ (by rw [offs_length]; omega) _ (wf.X hw) (fun L w2 hw2 => ?_) (fun y hy L w2 hw2 => ?_) _ (onwS_step hi c3)
      · rw [X_X]
        have hw3 : w2 ≤ h.clock + 4 + L.length := hw2
        exact RangeIn.of wf (k := 3) (by simp only [List.length_append, List.length_cons, List.length_nil]; omega) rfl
      · obtain ⟨y1, y2⟩ := mem_offs.1 hy
        rw [callV_fn, pb_71]
        show (om Tryd.prog KK).call (.fn 71 [ii y, .ptr (nx h 2) 0, .ptr (nx h 1) 0, .ptr (nx h 0) 0]) _ = .ok (ii (pf x.a x.b x.s y + dueS pf sp (nxt x y))) _
        rw [← hgood y hi y1 y2, X_X]
        have hw3 : w2 ≤ h.clock + 4 + L.length := hw2
        refine onward1 S sp hsp a turn q Tb hTl hTb x y hx hi ⟨y1, y2⟩ _ (wf.X (by simp only [List.length_append, List.length_cons, List.length_nil]; omega)) (hs.up wf _ _) (ht.up _ _) _ _ _ (fun J w => ?_) (fun J w => ?_) (fun J w => ?_)
        · rw [X_X, load1_X wf]; rfl
        · rw [X_X, loadAgg_X wf]
          show aggAt (some (.cells (mkCells [ii (x.i : Int), ii x.a, ii x.b, ii (x.s : Int)]) 71)) 0 4 = _
          rw [aggAt_cells (by decide)]; rfl
        · rw [X_X, loadAgg_X wf]
          show aggAt (some (.cells (mkCells [a, ii turn, .sl q 0 (sp.length - 1) (some (sp.length - 1)) 75]) 67)) 0 3 = _
          rw [aggAt_cells (by decide)]; rfl
    refine WV_to (WV_call (fn := Tryd.f45) Tryd.func45 rfl rfl rfl rfl rfl ?_)
    simp only [argF]
    unfold stv prv
    (repeat' (first
  | (with_reducible first | refine WC_seq ?_ | refine WC_skip ?_ | refine WC_label ?_ | refine WC_scope ?_ | refine WC_block ?_ | refine WC_ret ?_ | refine WC_exit ?_ | refine seqQ_norm ?_ | refine seqQ_ret ?_ | refine seqQ_exit ?_ | refine blkQ_norm ?_ | refine blkQ_ret ?_ | refine blkQ_here ?_ | refine gateK_yes ?_ | refine gateK_none ?_ | refine condK_tt ?_ | refine condK_ff ?_ | refine roundQ_exit ?_ | refine roundQ_ret ?_)
  | refine WC_region ?_ | refine blkQ_out rfl ?_ | refine WO_nil ?_ | refine WD_nil ?_
  | ((first | refine WD_gate rfl rfl rfl rfl rfl fun K_ hK_ => ?_ | refine WO_gate rfl rfl rfl rfl rfl fun K_ hK_ => ?_); simp only [upd_apply, asB_bool, asB_tup, ↓reduceIte, reduceCtorEq, Nat.reduceEqDiff, Bool.not_true, Bool.not_false]; refine hK_ _ ?_; clear hK_ K_)
  | refine gateK_no (by decide) ?_
  | ((try first | refine WO_op rfl rfl rfl ?_ | refine WO_op0 rfl rfl ?_ | refine WD_op rfl rfl rfl ?_ | refine WD_op0 rfl rfl ?_); (refine WV_gen fun Q_ hQ_ => ?_; simp (disch := first | omega | (simp only [List.length_cons, List.length_nil, List.length_append]; omega)) only [bb, bp, argF, ↓reduceIte, reduceCtorEq, Nat.reduceEqDiff, Nat.reduceLT, Nat.reduceLeDiff, Nat.reduceAdd, Nat.reduceMul, Nat.reduceSub, Nat.reduceBEq, Int.reduceToNat, cond_true, cond_false, eq_self, beq_self_eq_true, hby.1, hby.2, newPtr_X wf, load1_X wf, loadAgg_X wf, store1_X wf, writeCells_X wf, makeFunc_def, tEvT10, bsl_25, bsl_81, newSlice_X wf]; first | (refine dec_split (Q := Q_) (fun hp_ => ?_) (fun hp_ => ?_) <;> first | (exfalso; omega) | (refine hQ_ _ _ ?_; clear hQ_ Q_)) | (refine dec_splitn (Q := Q_) (fun hp_ => ?_) (fun hp_ => ?_) <;> first | (exfalso; omega) | (refine hQ_ _ _ ?_; clear hQ_ Q_)) | (refine hQ_ _ _ ?_; clear hQ_ Q_)))
  | (refine WC_cond fun K_ hK_ => ?_; simp (disch := omega) only [evT_tmp, upd_apply, WB_some, ↓reduceIte, reduceCtorEq, Nat.reduceEqDiff, Nat.reduceLT]; refine hK_ _ ?_; clear hK_ K_)))
    refine WC_drawnB [.no, .no, .no, .no, .no, .full] (by kernel_rfl) ?_
    (repeat' (first
  | (with_reducible first | refine WC_seq ?_ | refine WC_skip ?_ | refine WC_label ?_ | refine WC_scope ?_ | refine WC_block ?_ | refine WC_ret ?_ | refine WC_exit ?_ | refine seqQ_norm ?_ | refine seqQ_ret ?_ | refine seqQ_exit ?_ | refine blkQ_norm ?_ | refine blkQ_ret ?_ | refine blkQ_here ?_ | refine gateK_yes ?_ | refine gateK_none ?_ | refine condK_tt ?_ | refine condK_ff ?_ | refine roundQ_exit ?_ | refine roundQ_ret ?_)
  | refine WC_region ?_ | refine blkQ_out rfl ?_ | refine WO_nil ?_ | refine WD_nil ?_
  | ((first | refine WD_gate rfl rfl rfl rfl rfl fun K_ hK_ => ?_ | refine WO_gate rfl rfl rfl rfl rfl fun K_ hK_ => ?_); simp only [upd_apply, asB_bool, asB_tup, ↓reduceIte, reduceCtorEq, Nat.reduceEqDiff, Bool.not_true, Bool.not_false]; refine hK_ _ ?_; clear hK_ K_)
  | refine gateK_no (by decide) ?_
  | ((try first | refine WO_op rfl rfl rfl ?_ | refine WO_op0 rfl rfl ?_ | refine WD_op rfl rfl rfl ?_ | refine WD_op0 rfl rfl ?_); (refine WV_gen fun Q_ hQ_ => ?_; simp (disch := first | omega | (simp only [List.length_cons, List.length_nil, List.length_append]; omega)) only [bb, bp, argF, ↓reduceIte, reduceCtorEq, Nat.reduceEqDiff, Nat.reduceLT, Nat.reduceLeDiff, Nat.reduceAdd, Nat.reduceMul, Nat.reduceSub, Nat.reduceBEq, Int.reduceToNat, cond_true, cond_false, eq_self, beq_self_eq_true, hla, e1, hix0, hr0, hleast, newPtr_X wf, load1_X wf, loadAgg_X wf, store1_X wf, writeCells_X wf, makeFunc_def, tEvT10, bsl_25, bsl_81, newSlice_X wf]; first | (refine dec_split (Q := Q_) (fun hp_ => ?_) (fun hp_ => ?_) <;> first | (exfalso; omega) | (refine hQ_ _ _ ?_; clear hQ_ Q_)) | (refine dec_splitn (Q := Q_) (fun hp_ => ?_) (fun hp_ => ?_) <;> first | (exfalso; omega) | (refine hQ_ _ _ ?_; clear hQ_ Q_)) | (refine hQ_ _ _ ?_; clear hQ_ Q_) | (refine WV_eq (offsets _ _ h wf _ _ (by simp only [List.length_append, List.length_cons, List.length_nil]; omega)) ?_; refine hQ_ _ _ ?_; clear hQ_ Q_)))
  | (refine WC_cond fun K_ hK_ => ?_; simp (disch := omega) only [evT_tmp, upd_apply, WB_some, ↓reduceIte, reduceCtorEq, Nat.reduceEqDiff, Nat.reduceLT]; refine hK_ _ ?_; clear hK_ K_)))
    (refine endQ_ret _ _ rfl (ret2 (by decide) (by decide)) ?_; simp only [upd_apply, ↓reduceIte, reduceCtorEq, Nat.reduceEqDiff]; refine WV_flat rfl (by omega) ?_)
    exact ⟨rfl, rfl⟩
end Go.Proofs.YtkmdidplmfdikaaDoor
end

/- EvT11 -/
section
/-
  LAYER 1: tables of states to which one does not come.
-/
namespace Go.Proofs.YtkmdidplmfdikaaDoor
open Go.Ev
set_option maxRecDepth 100000
set_option linter.unusedSimpArgs false
set_option linter.unusedVariables false
set_option maxHeartbeats 2000000

theorem tEvT11 : type_of% (And.intro (And.intro (And.intro (And.intro (And.intro (@bs_71) (@ia_2)) (And.intro (@sz_2) (And.intro (@ze_2) (@ia_3)))) (And.intro (And.intro (@sz_3) (@ia_27)) (And.intro (@ia_51) (And.intro (@sz_51) (@ze_51))))) (And.intro (And.intro (And.intro (@ia_71) (@sz_71)) (And.intro (@ze_71) (And.intro (@ia_64) (@sz_64)))) (And.intro (And.intro (@ia_24) (And.intro (@sz_24) (@ia_22))) (And.intro (@sz_22) (And.intro (@ia_25) (@ia_65)))))) (And.intro (And.intro (And.intro (And.intro (@sz_65) (@ia_112)) (And.intro (@sz_112) (And.intro (@ia_109) (@sz_109)))) (And.intro (And.intro (@ia_123) (And.intro (@sz_123) (@ia_129))) (And.intro (@sz_129) (And.intro (@ia_67) (@sz_67))))) (And.intro (And.intro (And.intro (@ze_67) (@fo_67_0)) (And.intro (@fo_67_1) (And.intro (@fo_64_0) (@fo_24_0)))) (And.intro (And.intro (@fo_24_1) (And.intro (@pb_83) (@pb_85))) (And.intro (@pb_79) (And.intro (@pb_44) (@ni_65))))))) := And.intro (And.intro (And.intro (And.intro (And.intro (@bs_71) (@ia_2)) (And.intro (@sz_2) (And.intro (@ze_2) (@ia_3)))) (And.intro (And.intro (@sz_3) (@ia_27)) (And.intro (@ia_51) (And.intro (@sz_51) (@ze_51))))) (And.intro (And.intro (And.intro (@ia_71) (@sz_71)) (And.intro (@ze_71) (And.intro (@ia_64) (@sz_64)))) (And.intro (And.intro (@ia_24) (And.intro (@sz_24) (@ia_22))) (And.intro (@sz_22) (And.intro (@ia_25) (@ia_65)))))) (And.intro (And.intro (And.intro (And.intro (@sz_65) (@ia_112)) (And.intro (@sz_112) (And.intro (@ia_109) (@sz_109)))) (And.intro (And.intro (@ia_123) (And.intro (@sz_123) (@ia_129))) (And.intro (@sz_129) (And.intro (@ia_67) (@sz_67))))) (And.intro (And.intro (And.intro (@ze_67) (@fo_67_0)) (And.intro (@fo_67_1) (And.intro (@fo_64_0) (@fo_24_0)))) (And.intro (And.intro (@fo_24_1) (And.intro (@pb_83) (@pb_85))) (And.intro (@pb_79) (And.intro (@pb_44) (@ni_65))))))
abbrev u6 (n : Nat) : AV := .int .u64 (n : Int)
theorem c24 {p : Nat → Prop} {k : Nat} (hk : k < 24) (h : p 0 ∧ p 1 ∧ p 2 ∧ p 3 ∧ p 4 ∧ p 5 ∧ p 6 ∧ p 7 ∧ p 8 ∧ p 9 ∧ p 10 ∧ p 11 ∧ p 12 ∧ p 13 ∧ p 14 ∧ p 15 ∧ p 16 ∧ p 17 ∧ p 18 ∧ p 19 ∧ p 20 ∧ p 21 ∧ p 22 ∧ p 23) : p k := by
  obtain ⟨h0, h1, h2, h3, h4, h5, h6, h7, h8, h9, h10, h11, h12, h13, h14, h15, h16, h17, h18, h19, h20, h21, h22, h23⟩ := h
  have : k = 0 ∨ k = 1 ∨ k = 2 ∨ k = 3 ∨ k = 4 ∨ k = 5 ∨ k = 6 ∨ k = 7 ∨ k = 8 ∨ k = 9 ∨ k = 10 ∨ k = 11 ∨ k = 12 ∨ k = 13 ∨ k = 14 ∨ k = 15 ∨ k = 16 ∨ k = 17 ∨ k = 18 ∨ k = 19 ∨ k = 20 ∨ k = 21 ∨ k = 22 ∨ k = 23 := by omega
  rcases this with rfl | rfl | rfl | rfl | rfl | rfl | rfl | rfl | rfl | rfl | rfl | rfl | rfl | rfl | rfl | rfl | rfl | rfl | rfl | rfl | rfl | rfl | rfl | rfl
  · exact h0
  · exact h1
  · exact h2
  · exact h3
  · exact h4
  · exact h5
  · exact h6
  · exact h7
  · exact h8
  · exact h9
  · exact h10
  · exact h11
  · exact h12
  · exact h13
  · exact h14
  · exact h15
  · exact h16
  · exact h17
  · exact h18
  · exact h19
  · exact h20
  · exact h21
  · exact h22
  · exact h23
theorem m_and {k : Nat} (hk : k < 24) {x y : Operand} : binE Tryd.prog .and 129 x y (u6 k) (.int .u64 4294967295) = some (u6 k) := c24 (p := fun k => binE Tryd.prog .and 129 x y (u6 k) (.int .u64 4294967295) = some (u6 k)) hk ⟨rfl, rfl, rfl, rfl, rfl, rfl, rfl, rfl, rfl, rfl, rfl, rfl, rfl, rfl, rfl, rfl, rfl, rfl, rfl, rfl, rfl, rfl, rfl, rfl⟩
theorem m_shr {k : Nat} (hk : k < 24) {x y : Operand} : binE Tryd.prog .shr 129 x y (u6 k) (.int .u64 32) = some (.int .u64 0) := c24 (p := fun k => binE Tryd.prog .shr 129 x y (u6 k) (.int .u64 32) = some (.int .u64 0)) hk ⟨rfl, rfl, rfl, rfl, rfl, rfl, rfl, rfl, rfl, rfl, rfl, rfl, rfl, rfl, rfl, rfl, rfl, rfl, rfl, rfl, rfl, rfl, rfl, rfl⟩
theorem m_mul1 {k : Nat} (hk : k < 24) {x y : Operand} : binE Tryd.prog .mul 129 x y (.int .u64 1) (u6 k) = some (u6 k) := c24 (p := fun k => binE Tryd.prog .mul 129 x y (.int .u64 1) (u6 k) = some (u6 k)) hk ⟨rfl, rfl, rfl, rfl, rfl, rfl, rfl, rfl, rfl, rfl, rfl, rfl, rfl, rfl, rfl, rfl, rfl, rfl, rfl, rfl, rfl, rfl, rfl, rfl⟩
theorem m_mul0 {k : Nat} (hk : k < 24) {x y : Operand} : binE Tryd.prog .mul 129 x y (.int .u64 0) (u6 k) = some (.int .u64 0) := c24 (p := fun k => binE Tryd.prog .mul 129 x y (.int .u64 0) (u6 k) = some (.int .u64 0)) hk ⟨rfl, rfl, rfl, rfl, rfl, rfl, rfl, rfl, rfl, rfl, rfl, rfl, rfl, rfl, rfl, rfl, rfl, rfl, rfl, rfl, rfl, rfl, rfl, rfl⟩
theorem m_gtr {k : Nat} (hk : k < 24) {x y : Operand} : binE Tryd.prog .gtr 123 x y (u6 k) (.int .u64 9223372036854775807) = some (.bool false) := c24 (p := fun k => binE Tryd.prog .gtr 123 x y (u6 k) (.int .u64 9223372036854775807) = some (.bool false)) hk ⟨rfl, rfl, rfl, rfl, rfl, rfl, rfl, rfl, rfl, rfl, rfl, rfl, rfl, rfl, rfl, rfl, rfl, rfl, rfl, rfl, rfl, rfl, rfl, rfl⟩
theorem k_and1 {x y : Operand} : binE Tryd.prog .and 129 x y (.int .u64 1) (.int .u64 4294967295) = some (.int .u64 1) := rfl
theorem k_and0 {x y : Operand} : binE Tryd.prog .and 129 x y (.int .u64 0) (.int .u64 4294967295) = some (.int .u64 0) := rfl
theorem k_shr1 {x y : Operand} : binE Tryd.prog .shr 129 x y (.int .u64 1) (.int .u64 32) = some (.int .u64 0) := rfl
theorem k_shr0 {x y : Operand} : binE Tryd.prog .shr 129 x y (.int .u64 0) (.int .u64 32) = some (.int .u64 0) := rfl
theorem k_mul00 {x y : Operand} : binE Tryd.prog .mul 129 x y (.int .u64 0) (.int .u64 0) = some (.int .u64 0) := rfl
theorem k_mul10 {x y : Operand} : binE Tryd.prog .mul 129 x y (.int .u64 1) (.int .u64 0) = some (.int .u64 0) := rfl
theorem k_add00 {x y : Operand} : binE Tryd.prog .add 129 x y (.int .u64 0) (.int .u64 0) = some (.int .u64 0) := rfl
theorem k_gtr0 {x y : Operand} : binE Tryd.prog .gtr 123 x y (.int .u64 0) (.int .u64 0) = some (.bool false) := rfl
theorem cv_in {k : Nat} (hk : k < 24) : convE Tryd.prog 3 123 (.int .i64 (k : Int)) = some (u6 k) := c24 (p := fun k => convE Tryd.prog 3 123 (.int .i64 (k : Int)) = some (u6 k)) hk ⟨rfl, rfl, rfl, rfl, rfl, rfl, rfl, rfl, rfl, rfl, rfl, rfl, rfl, rfl, rfl, rfl, rfl, rfl, rfl, rfl, rfl, rfl, rfl, rfl⟩
theorem cv_in1 : convE Tryd.prog 3 123 (.int .i64 1) = some (.int .u64 1) := rfl
theorem cv_out {k : Nat} (hk : k < 24) : convE Tryd.prog 123 3 (u6 k) = some (ii (k : Int)) := c24 (p := fun k => convE Tryd.prog 123 3 (u6 k) = some (ii (k : Int))) hk ⟨rfl, rfl, rfl, rfl, rfl, rfl, rfl, rfl, rfl, rfl, rfl, rfl, rfl, rfl, rfl, rfl, rfl, rfl, rfl, rfl, rfl, rfl, rfl, rfl⟩

theorem mul64 {k : Nat} (hk : k < 24) (h : H) (wf : Wf h) : (om Tryd.prog KK).call (.fn 85 [.int .u64 1, u6 k]) h = .ok (.tup [.int .u64 0, u6 k]) h := by
  refine WV_to (WV_call (fn := Tryd.f85) Tryd.func85 rfl rfl rfl rfl rfl ?_)
  simp only [argF]
  have q1 := fun x y => m_and hk (x := x) (y := y)
  have q2 := fun x y => m_shr hk (x := x) (y := y)
  have q3 := fun x y => m_mul1 hk (x := x) (y := y)
  have q4 := fun x y => m_mul0 hk (x := x) (y := y)
  (repeat' (first
  | (with_reducible first | refine WC_seq ?_ | refine WC_skip ?_ | refine WC_label ?_ | refine WC_scope ?_ | refine WC_block ?_ | refine WC_ret ?_ | refine WC_exit ?_ | refine seqQ_norm ?_ | refine seqQ_ret ?_ | refine seqQ_exit ?_ | refine blkQ_norm ?_ | refine blkQ_ret ?_ | refine blkQ_here ?_ | refine gateK_yes ?_ | refine gateK_none ?_ | refine condK_tt ?_ | refine condK_ff ?_ | refine roundQ_exit ?_ | refine roundQ_ret ?_)
  | refine WC_region ?_ | refine blkQ_out rfl ?_ | refine WO_nil ?_ | refine WD_nil ?_
  | ((first | refine WD_gate rfl rfl rfl rfl rfl fun K_ hK_ => ?_ | refine WO_gate rfl rfl rfl rfl rfl fun K_ hK_ => ?_); simp only [upd_apply, asB_bool, asB_tup, ↓reduceIte, reduceCtorEq, Nat.reduceEqDiff, Bool.not_true, Bool.not_false]; refine hK_ _ ?_; clear hK_ K_)
  | refine gateK_no (by decide) ?_
  | ((try first | refine WO_op rfl rfl rfl ?_ | refine WO_op0 rfl rfl ?_ | refine WD_op rfl rfl rfl ?_ | refine WD_op0 rfl rfl ?_); (refine WV_gen fun Q_ hQ_ => ?_; simp (disch := first | omega | (simp only [List.length_cons, List.length_nil, List.length_append]; omega)) only [bb, bp, argF, ↓reduceIte, reduceCtorEq, Nat.reduceEqDiff, Nat.reduceLT, Nat.reduceLeDiff, Nat.reduceAdd, Nat.reduceMul, Nat.reduceSub, Nat.reduceBEq, Int.reduceToNat, cond_true, cond_false, eq_self, beq_self_eq_true, q1, q2, q3, q4, k_and1, k_and0, k_shr1, k_shr0, k_mul00, k_mul10, k_add00, tEvT11, bsl_25, bsl_81, newSlice_X wf]; first | (refine dec_split (Q := Q_) (fun hp_ => ?_) (fun hp_ => ?_) <;> first | (exfalso; omega) | (refine hQ_ _ _ ?_; clear hQ_ Q_)) | (refine dec_splitn (Q := Q_) (fun hp_ => ?_) (fun hp_ => ?_) <;> first | (exfalso; omega) | (refine hQ_ _ _ ?_; clear hQ_ Q_)) | (refine hQ_ _ _ ?_; clear hQ_ Q_)))
  | (refine WC_cond fun K_ hK_ => ?_; simp (disch := omega) only [evT_tmp, upd_apply, WB_some, ↓reduceIte, reduceCtorEq, Nat.reduceEqDiff, Nat.reduceLT]; refine hK_ _ ?_; clear hK_ K_)))
  (refine endQ_ret _ _ rfl (ret2 (by decide) (by decide)) ?_; simp only [upd_apply, ↓reduceIte, reduceCtorEq, Nat.reduceEqDiff]; refine WV_flat rfl (by omega) ?_)
  exact ⟨rfl, rfl⟩
theorem mul {k : Nat} (hk : k < 24) (h : H) (wf : Wf h) : (om Tryd.prog KK).call (.fn 83 [.int .u64 1, u6 k]) h = .ok (.tup [.int .u64 0, u6 k]) h := by
  refine WV_to (WV_call (fn := Tryd.f83) Tryd.func83 rfl rfl rfl rfl rfl ?_)
  simp only [argF]
  (repeat' (first
  | (with_reducible first | refine WC_seq ?_ | refine WC_skip ?_ | refine WC_label ?_ | refine WC_scope ?_ | refine WC_block ?_ | refine WC_ret ?_ | refine WC_exit ?_ | refine seqQ_norm ?_ | refine seqQ_ret ?_ | refine seqQ_exit ?_ | refine blkQ_norm ?_ | refine blkQ_ret ?_ | refine blkQ_here ?_ | refine gateK_yes ?_ | refine gateK_none ?_ | refine condK_tt ?_ | refine condK_ff ?_ | refine roundQ_exit ?_ | refine roundQ_ret ?_)
  | refine WC_region ?_ | refine blkQ_out rfl ?_ | refine WO_nil ?_ | refine WD_nil ?_
  | ((first | refine WD_gate rfl rfl rfl rfl rfl fun K_ hK_ => ?_ | refine WO_gate rfl rfl rfl rfl rfl fun K_ hK_ => ?_); simp only [upd_apply, asB_bool, asB_tup, ↓reduceIte, reduceCtorEq, Nat.reduceEqDiff, Bool.not_true, Bool.not_false]; refine hK_ _ ?_; clear hK_ K_)
  | refine gateK_no (by decide) ?_
  | ((try first | refine WO_op rfl rfl rfl ?_ | refine WO_op0 rfl rfl ?_ | refine WD_op rfl rfl rfl ?_ | refine WD_op0 rfl rfl ?_); (refine WV_gen fun Q_ hQ_ => ?_; simp (disch := first | omega | (simp only [List.length_cons, List.length_nil, List.length_append]; omega)) only [bb, bp, argF, ↓reduceIte, reduceCtorEq, Nat.reduceEqDiff, Nat.reduceLT, Nat.reduceLeDiff, Nat.reduceAdd, Nat.reduceMul, Nat.reduceSub, Nat.reduceBEq, Int.reduceToNat, cond_true, cond_false, eq_self, beq_self_eq_true, tEvT11, bsl_25, bsl_81, newSlice_X wf]; first | (refine dec_split (Q := Q_) (fun hp_ => ?_) (fun hp_ => ?_) <;> first | (exfalso; omega) | (refine hQ_ _ _ ?_; clear hQ_ Q_)) | (refine dec_splitn (Q := Q_) (fun hp_ => ?_) (fun hp_ => ?_) <;> first | (exfalso; omega) | (refine hQ_ _ _ ?_; clear hQ_ Q_)) | (refine hQ_ _ _ ?_; clear hQ_ Q_)))
  | (refine WC_cond fun K_ hK_ => ?_; simp (disch := omega) only [evT_tmp, upd_apply, WB_some, ↓reduceIte, reduceCtorEq, Nat.reduceEqDiff, Nat.reduceLT]; refine hK_ _ ?_; clear hK_ K_)))
  refine WC_cond fun K_ hK_ => ?_
  simp only [evT_bool, WB_some]
  refine hK_ _ (condK_ff ?_)
  clear hK_ K_
  (repeat' (first
  | (with_reducible first | refine WC_seq ?_ | refine WC_skip ?_ | refine WC_label ?_ | refine WC_scope ?_ | refine WC_block ?_ | refine WC_ret ?_ | refine WC_exit ?_ | refine seqQ_norm ?_ | refine seqQ_ret ?_ | refine seqQ_exit ?_ | refine blkQ_norm ?_ | refine blkQ_ret ?_ | refine blkQ_here ?_ | refine gateK_yes ?_ | refine gateK_none ?_ | refine condK_tt ?_ | refine condK_ff ?_ | refine roundQ_exit ?_ | refine roundQ_ret ?_)
  | refine WC_region ?_ | refine blkQ_out rfl ?_ | refine WO_nil ?_ | refine WD_nil ?_
  | ((first | refine WD_gate rfl rfl rfl rfl rfl fun K_ hK_ => ?_ | refine WO_gate rfl rfl rfl rfl rfl fun K_ hK_ => ?_); simp only [upd_apply, asB_bool, asB_tup, ↓reduceIte, reduceCtorEq, Nat.reduceEqDiff, Bool.not_true, Bool.not_false]; refine hK_ _ ?_; clear hK_ K_)
  | refine gateK_no (by decide) ?_
  | ((try first | refine WO_op rfl rfl rfl ?_ | refine WO_op0 rfl rfl ?_ | refine WD_op rfl rfl rfl ?_ | refine WD_op0 rfl rfl ?_); (refine WV_gen fun Q_ hQ_ => ?_; simp (disch := first | omega | (simp only [List.length_cons, List.length_nil, List.length_append]; omega)) only [bb, bp, argF, ↓reduceIte, reduceCtorEq, Nat.reduceEqDiff, Nat.reduceLT, Nat.reduceLeDiff, Nat.reduceAdd, Nat.reduceMul, Nat.reduceSub, Nat.reduceBEq, Int.reduceToNat, cond_true, cond_false, eq_self, beq_self_eq_true, tEvT11, bsl_25, bsl_81, newSlice_X wf]; first | (refine dec_split (Q := Q_) (fun hp_ => ?_) (fun hp_ => ?_) <;> first | (exfalso; omega) | (refine hQ_ _ _ ?_; clear hQ_ Q_)) | (refine dec_splitn (Q := Q_) (fun hp_ => ?_) (fun hp_ => ?_) <;> first | (exfalso; omega) | (refine hQ_ _ _ ?_; clear hQ_ Q_)) | (refine hQ_ _ _ ?_; clear hQ_ Q_) | (refine WV_eq (mul64 hk _ (wf.X (by first | omega | (simp only [List.length_append, List.length_cons, List.length_nil]; omega)))) ?_; refine hQ_ _ _ ?_; clear hQ_ Q_)))
  | (refine WC_cond fun K_ hK_ => ?_; simp (disch := omega) only [evT_tmp, upd_apply, WB_some, ↓reduceIte, reduceCtorEq, Nat.reduceEqDiff, Nat.reduceLT]; refine hK_ _ ?_; clear hK_ K_)))
  (refine endQ_ret _ _ rfl (ret2 (by decide) (by decide)) ?_; simp only [upd_apply, ↓reduceIte, reduceCtorEq, Nat.reduceEqDiff]; refine WV_flat rfl (by omega) ?_)
  exact ⟨rfl, rfl⟩

def FF : AV := .int .i64 1099511627776
def fz (n m : Nat) : List AV := List.replicate (m * 75) FF ++ List.replicate ((n - m) * 75) (.int .i64 0)
theorem fz_len {n m : Nat} (hm : m ≤ n) : (fz n m).length = n * 75 := by unfold fz; rw [List.length_append, List.length_replicate, List.length_replicate, ← Nat.add_mul]; congr 1; omega
theorem fz_splice {n m j : Nat} (hj : m + j ≤ n) : splice (fz n m) (m * 75) (List.replicate (j * 75) FF) = fz n (m + j) := by
  unfold splice fz
  rw [List.length_replicate, List.take_append_of_le_length (by rw [List.length_replicate]; exact Nat.le_refl _), List.take_of_length_le (by rw [List.length_replicate]; exact Nat.le_refl _), List.replicate_append_replicate, List.drop_append, List.length_replicate,
    List.drop_of_length_le (by rw [List.length_replicate]; omega), List.nil_append, List.drop_replicate, ← Nat.add_mul, show (n - m) * 75 - ((m + j) * 75 - m * 75) = (n - (m + j)) * 75 from by omega]
theorem fz_done (n : Nat) : fz n n = List.replicate (n * 75) FF := by unfold fz; rw [Nat.sub_self, Nat.zero_mul]; simp
theorem allOne_rep (k : Nat) : allOne (List.replicate k FF) = true := by
  have := allOne_map (f := fun (_ : Unit) => FF) (fun _ => rfl) (List.replicate k ())
  rwa [List.map_replicate] at this
theorem rs_65 (id : Pos) (off len c esz : Nat) : reszT Tryd.prog 65 (.sl id off len (some c) esz) = .sl id off len (some c) 75 := reszT_some Tryd.underlying65 sz_112
theorem len_65 {q : Pos} {h' : H} {n c : Nat} : lenE Tryd.prog 65 (.sl q 0 n (some c) 75) h' = some (.int .i64 (n : Int)) := by
  unfold lenE; rw [Tryd.underlying65]; rfl
theorem zero_112 : AV.cells (.agg (List.replicate 75 (.int .i64 0))) = List.replicate 75 (.int .i64 0) := rfl
theorem el112 : El Tryd.prog 112 75 600 (.agg (List.replicate 75 (.int .i64 0))) := el_112
theorem repeat_ {n : Nat} (hn : 1 ≤ n ∧ n < 24) (h : H) (wf : Wf h) (L : List AO) (k w : Nat) (hk : L[k]? = some (.cells (mkCells (List.replicate 75 FF)) 112)) (hw : w ≤ h.clock + L.length) :
    (om Tryd.prog KK).call (.fn 79 [.sl (nx h k) 0 1 (some 1) 75, ii (n : Int)]) (X h L w) = .ok (.sl (nx h L.length) 0 n (some n) 75) (X h (L ++ [.cells (mkCells (List.replicate (n * 75) FF)) 112]) w) := by
  have hmk := makeSlice_wide (P := Tryd.prog) (n := n) (l := L) (w := h.clock + L.length) wf Tryd.underlying65 sz_112 el112 (by omega) (by decide) zero_112
  have hf0 : fz n 0 = List.replicate (n * 75) (.int .i64 0) := by unfold fz; simp
  rw [← hf0] at hmk
  have hcp : copyE Tryd.prog 65 (.sl (nx h L.length) 0 n (some n) 75) (.sl (nx h k) 0 1 (some 1) 75) (X h (L ++ [.cells (mkCells (fz n 0)) 112]) (h.clock + L.length)) = .ok (.int .i64 1) (X h (L ++ [.cells (mkCells (fz n 1)) 112]) (h.clock + L.length)) := by
    have := copyE_X (P := Tryd.prog) (n := 1) (off := 0) (len := n) (esz := 75) (cap := some n) (k := L.length) (old := fz n 0) (ee := 112) (l := L ++ [.cells (mkCells (fz n 0)) 112]) (w := h.clock + L.length) wf Tryd.underlying65 sz_112 (src_new (e := 112) (cap := some 1) wf (by rw [List.getElem?_append_left (lt_of_get hk)]; exact hk) (by rw [List.length_replicate])) (by decide) hn.1 (by rw [List.length_replicate]) (by rw [app_len0]; rfl) (by rw [fz_len (Nat.zero_le n), List.length_replicate]; omega) (allOne_rep _)
    rw [set_app_len0, List.set_cons_zero, Nat.min_self] at this
    rw [this]
    have e := fz_splice (n := n) (m := 0) (j := 1) (by omega)
    rw [Nat.zero_mul, Nat.one_mul, Nat.zero_add] at e
    rw [e]; rfl
  have hmul : ∀ l w, w ≤ h.clock + l.length → (om Tryd.prog KK).call (.fn 83 [.int .u64 1, u6 n]) (X h l w) = .ok (.tup [.int .u64 0, u6 n]) (X h l w) := fun l w hw => mul (by omega) _ (wf.X hw)
  have hlen1 : ∀ h', lenE Tryd.prog 65 (.sl (nx h k) 0 1 (some 1) 75) h' = some (ii 1) := fun h' => len_65
  have hlen2 : ∀ h', lenE Tryd.prog 65 (.sl (nx h L.length) 0 n (some n) 75) h' = some (ii (n : Int)) := fun h' => len_65
  have q1 := cv_in hn.2
  have q2 := cv_out hn.2
  have q3 := fun x y => m_gtr hn.2 (x := x) (y := y)
  refine WV_to (WV_call (fn := Tryd.f79) Tryd.func79 rfl rfl rfl rfl rfl ?_)
  simp only [argF]
  (repeat' (first
  | (with_reducible first | refine WC_seq ?_ | refine WC_skip ?_ | refine WC_label ?_ | refine WC_scope ?_ | refine WC_block ?_ | refine WC_ret ?_ | refine WC_exit ?_ | refine seqQ_norm ?_ | refine seqQ_ret ?_ | refine seqQ_exit ?_ | refine blkQ_norm ?_ | refine blkQ_ret ?_ | refine blkQ_here ?_ | refine gateK_yes ?_ | refine gateK_none ?_ | refine condK_tt ?_ | refine condK_ff ?_ | refine roundQ_exit ?_ | refine roundQ_ret ?_)
  | refine WC_region ?_ | refine blkQ_out rfl ?_ | refine WO_nil ?_ | refine WD_nil ?_
  | ((first | refine WD_gate rfl rfl rfl rfl rfl fun K_ hK_ => ?_ | refine WO_gate rfl rfl rfl rfl rfl fun K_ hK_ => ?_); simp only [upd_apply, asB_bool, asB_tup, ↓reduceIte, reduceCtorEq, Nat.reduceEqDiff, Bool.not_true, Bool.not_false]; refine hK_ _ ?_; clear hK_ K_)
  | refine gateK_no (by decide) ?_
  | ((try first | refine WO_op rfl rfl rfl ?_ | refine WO_op0 rfl rfl ?_ | refine WD_op rfl rfl rfl ?_ | refine WD_op0 rfl rfl ?_); (refine WV_gen fun Q_ hQ_ => ?_; simp (disch := first | omega | (simp only [List.length_cons, List.length_nil, List.length_append]; omega)) only [bb, bp, argF, ↓reduceIte, reduceCtorEq, Nat.reduceEqDiff, Nat.reduceLT, Nat.reduceLeDiff, Nat.reduceAdd, Nat.reduceMul, Nat.reduceSub, Nat.reduceBEq, Int.reduceToNat, cond_true, cond_false, eq_self, beq_self_eq_true, X_X, X_clock, hlen1, hlen2, q1, q2, q3, cv_in1, k_gtr0, hmul, hmk, hcp, rs_65, newPtr_X wf, load1_X wf, loadAgg_X wf, store1_X wf, writeCells_X wf, makeFunc_def, tEvT11, bsl_25, bsl_81, newSlice_X wf]; first | (refine dec_split (Q := Q_) (fun hp_ => ?_) (fun hp_ => ?_) <;> first | (exfalso; omega) | (refine hQ_ _ _ ?_; clear hQ_ Q_)) | (refine dec_splitn (Q := Q_) (fun hp_ => ?_) (fun hp_ => ?_) <;> first | (exfalso; omega) | (refine hQ_ _ _ ?_; clear hQ_ Q_)) | (refine hQ_ _ _ ?_; clear hQ_ Q_)))
  | (refine WC_cond fun K_ hK_ => ?_; simp (disch := omega) only [evT_tmp, upd_apply, WB_some, ↓reduceIte, reduceCtorEq, Nat.reduceEqDiff, Nat.reduceLT]; refine hK_ _ ?_; clear hK_ K_)))
  refine WC_loop (fun (m : Nat) f d h' => 1 ≤ m ∧ m ≤ n ∧ f 7 = .sl (nx h L.length) 0 n (some n) 75 ∧ f 8 = ii (m : Int) ∧ d = [] ∧ h' = X h (L ++ [.cells (mkCells (fz n m)) 112]) (h.clock + L.length)) (fun m => n - m) ?_ (n + 1) 1 (by omega) ?_
  · rintro m f d h' ⟨m1, mn, g7, g8, rfl, rfl⟩
    by_cases hlt : m < n
    · have s1 := slice_from (P := Tryd.prog) (id := nx h L.length) (len := n) (m := m) Tryd.underlying65 sz_112 hlt
      have s2 := slice_to (P := Tryd.prog) (id := nx h L.length) (len := n) (m := m) Tryd.underlying65 sz_112 mn (by omega)
      have hsrc : srcCells (X h (L ++ [.cells (mkCells (fz n m)) 112]) (h.clock + (L.length + 1))) 75 (.sl (nx h L.length) 0 m (some n) 75) = some (m, List.replicate (m * 75) FF) := by
        refine src_sl (o := .cells (mkCells (fz n m)) 112) (by rw [getObj_new wf, app_len0]; rfl) rfl ?_ rfl
        rw [readM_cells _ _ _ (by rw [fz_len mn, Nat.zero_add]; exact Nat.mul_le_mul_right _ mn), List.drop_zero]
        unfold fz
        rw [List.take_append_of_le_length (by rw [List.length_replicate]; exact Nat.le_refl _), List.take_of_length_le (by rw [List.length_replicate]; exact Nat.le_refl _)]
      have hcopy : ∃ j : Nat, 1 ≤ j ∧ m + j ≤ n ∧ copyE Tryd.prog 65 (.sl (nx h L.length) (m * 75) (n - m) (some (n - m)) 75) (.sl (nx h L.length) 0 m (some n) 75) (X h (L ++ [.cells (mkCells (fz n m)) 112]) (h.clock + (L.length + 1))) = .ok (ii (j : Int)) (X h (L ++ [.cells (mkCells (fz n (m + j))) 112]) (h.clock + L.length)) := by
        by_cases hm2 : m ≤ n - m
        · refine ⟨m, m1, by omega, ?_⟩
          rw [copyE_X (P := Tryd.prog) (old := fz n m) (ee := 112) wf Tryd.underlying65 sz_112 hsrc (by omega) hm2 (by rw [List.length_replicate]) (by rw [app_len0]; rfl) (by rw [fz_len mn, List.length_replicate, ← Nat.add_mul]; exact Nat.mul_le_mul_right _ (by omega)) (allOne_rep _), set_app_len0, List.set_cons_zero, fz_splice (by omega), Nat.min_eq_left (by omega)]
        · have ht : (List.replicate (m * 75) FF).take ((n - m) * 75) = List.replicate ((n - m) * 75) FF := by rw [List.take_replicate, Nat.min_eq_left (Nat.mul_le_mul_right _ (by omega))]
          refine ⟨n - m, by omega, by omega, ?_⟩
          rw [copyE_min (P := Tryd.prog) (old := fz n m) (ee := 112) wf Tryd.underlying65 sz_112 hsrc (by omega) (by omega) (by rw [List.length_replicate]) (by rw [app_len0]; rfl) (by rw [fz_len mn, ← Nat.add_mul]; exact Nat.mul_le_mul_right _ (by omega)) (by rw [ht]; exact allOne_rep _), ht, set_app_len0, List.set_cons_zero, fz_splice (by omega), Nat.min_eq_left (by omega)]
      obtain ⟨j, j1, j2, hcopy⟩ := hcopy
      have e5 : (m : Int) + (j : Int) = ((m + j : Nat) : Int) := by omega
      (repeat' (first
  | (with_reducible first | refine WC_seq ?_ | refine WC_skip ?_ | refine WC_label ?_ | refine WC_scope ?_ | refine WC_block ?_ | refine WC_ret ?_ | refine WC_exit ?_ | refine seqQ_norm ?_ | refine seqQ_ret ?_ | refine seqQ_exit ?_ | refine blkQ_norm ?_ | refine blkQ_ret ?_ | refine blkQ_here ?_ | refine gateK_yes ?_ | refine gateK_none ?_ | refine condK_tt ?_ | refine condK_ff ?_ | refine roundQ_exit ?_ | refine roundQ_ret ?_)
  | refine WC_region ?_ | refine blkQ_out rfl ?_ | refine WO_nil ?_ | refine WD_nil ?_
  | ((first | refine WD_gate rfl rfl rfl rfl rfl fun K_ hK_ => ?_ | refine WO_gate rfl rfl rfl rfl rfl fun K_ hK_ => ?_); simp only [upd_apply, asB_bool, asB_tup, ↓reduceIte, reduceCtorEq, Nat.reduceEqDiff, Bool.not_true, Bool.not_false]; refine hK_ _ ?_; clear hK_ K_)
  | refine gateK_no (by decide) ?_
  | ((try first | refine WO_op rfl rfl rfl ?_ | refine WO_op0 rfl rfl ?_ | refine WD_op rfl rfl rfl ?_ | refine WD_op0 rfl rfl ?_); (refine WV_gen fun Q_ hQ_ => ?_; simp (disch := first | omega | (simp only [List.length_cons, List.length_nil, List.length_append]; omega)) only [bb, bp, argF, ↓reduceIte, reduceCtorEq, Nat.reduceEqDiff, Nat.reduceLT, Nat.reduceLeDiff, Nat.reduceAdd, Nat.reduceMul, Nat.reduceSub, Nat.reduceBEq, Int.reduceToNat, cond_true, cond_false, eq_self, beq_self_eq_true, g7, g8, hlen2, rs_65, newPtr_X wf, load1_X wf, loadAgg_X wf, store1_X wf, writeCells_X wf, makeFunc_def, tEvT11, bsl_25, bsl_81, newSlice_X wf]; first | (refine dec_split (Q := Q_) (fun hp_ => ?_) (fun hp_ => ?_) <;> first | (exfalso; omega) | (refine hQ_ _ _ ?_; clear hQ_ Q_)) | (refine dec_splitn (Q := Q_) (fun hp_ => ?_) (fun hp_ => ?_) <;> first | (exfalso; omega) | (refine hQ_ _ _ ?_; clear hQ_ Q_)) | (refine hQ_ _ _ ?_; clear hQ_ Q_)))
  | (refine WC_cond fun K_ hK_ => ?_; simp (disch := omega) only [evT_tmp, upd_apply, WB_some, ↓reduceIte, reduceCtorEq, Nat.reduceEqDiff, Nat.reduceLT]; refine hK_ _ ?_; clear hK_ K_)))
      refine WC_drawnB [.no, .full, .full, .full, .full, .full, .full, .full, .full, .full] (by kernel_rfl) ?_
      (repeat' (first
  | (with_reducible first | refine WC_seq ?_ | refine WC_skip ?_ | refine WC_label ?_ | refine WC_scope ?_ | refine WC_block ?_ | refine WC_ret ?_ | refine WC_exit ?_ | refine seqQ_norm ?_ | refine seqQ_ret ?_ | refine seqQ_exit ?_ | refine blkQ_norm ?_ | refine blkQ_ret ?_ | refine blkQ_here ?_ | refine gateK_yes ?_ | refine gateK_none ?_ | refine condK_tt ?_ | refine condK_ff ?_ | refine roundQ_exit ?_ | refine roundQ_ret ?_)
  | refine WC_region ?_ | refine blkQ_out rfl ?_ | refine WO_nil ?_ | refine WD_nil ?_
  | ((first | refine WD_gate rfl rfl rfl rfl rfl fun K_ hK_ => ?_ | refine WO_gate rfl rfl rfl rfl rfl fun K_ hK_ => ?_); simp only [upd_apply, asB_bool, asB_tup, ↓reduceIte, reduceCtorEq, Nat.reduceEqDiff, Bool.not_true, Bool.not_false]; refine hK_ _ ?_; clear hK_ K_)
  | refine gateK_no (by decide) ?_
  | ((try first | refine WO_op rfl rfl rfl ?_ | refine WO_op0 rfl rfl ?_ | refine WD_op rfl rfl rfl ?_ | refine WD_op0 rfl rfl ?_); (refine WV_gen fun Q_ hQ_ => ?_; simp (disch := first | omega | (simp only [List.length_cons, List.length_nil, List.length_append]; omega)) only [bb, bp, argF, ↓reduceIte, reduceCtorEq, Nat.reduceEqDiff, Nat.reduceLT, Nat.reduceLeDiff, Nat.reduceAdd, Nat.reduceMul, Nat.reduceSub, Nat.reduceBEq, Int.reduceToNat, cond_true, cond_false, eq_self, beq_self_eq_true, g7, g8, hlen2, rs_65, s1, s2, hcopy, e5, newPtr_X wf, load1_X wf, loadAgg_X wf, store1_X wf, writeCells_X wf, makeFunc_def, tEvT11, bsl_25, bsl_81, newSlice_X wf]; first | (refine dec_split (Q := Q_) (fun hp_ => ?_) (fun hp_ => ?_) <;> first | (exfalso; omega) | (refine hQ_ _ _ ?_; clear hQ_ Q_)) | (refine dec_splitn (Q := Q_) (fun hp_ => ?_) (fun hp_ => ?_) <;> first | (exfalso; omega) | (refine hQ_ _ _ ?_; clear hQ_ Q_)) | (refine hQ_ _ _ ?_; clear hQ_ Q_)))
  | (refine WC_cond fun K_ hK_ => ?_; simp (disch := omega) only [evT_tmp, upd_apply, WB_some, ↓reduceIte, reduceCtorEq, Nat.reduceEqDiff, Nat.reduceLT]; refine hK_ _ ?_; clear hK_ K_)))
      exact roundQ_again (m + j) (by omega) ⟨by omega, j2, by simp only [upd_apply, ↓reduceIte, reduceCtorEq, Nat.reduceEqDiff]; exact g7, by simp only [upd_apply, ↓reduceIte, reduceCtorEq, Nat.reduceEqDiff], rfl, rfl⟩
    · have hme : m = n := by omega
      subst hme
      (repeat' (first
  | (with_reducible first | refine WC_seq ?_ | refine WC_skip ?_ | refine WC_label ?_ | refine WC_scope ?_ | refine WC_block ?_ | refine WC_ret ?_ | refine WC_exit ?_ | refine seqQ_norm ?_ | refine seqQ_ret ?_ | refine seqQ_exit ?_ | refine blkQ_norm ?_ | refine blkQ_ret ?_ | refine blkQ_here ?_ | refine gateK_yes ?_ | refine gateK_none ?_ | refine condK_tt ?_ | refine condK_ff ?_ | refine roundQ_exit ?_ | refine roundQ_ret ?_)
  | refine WC_region ?_ | refine blkQ_out rfl ?_ | refine WO_nil ?_ | refine WD_nil ?_
  | ((first | refine WD_gate rfl rfl rfl rfl rfl fun K_ hK_ => ?_ | refine WO_gate rfl rfl rfl rfl rfl fun K_ hK_ => ?_); simp only [upd_apply, asB_bool, asB_tup, ↓reduceIte, reduceCtorEq, Nat.reduceEqDiff, Bool.not_true, Bool.not_false]; refine hK_ _ ?_; clear hK_ K_)
  | refine gateK_no (by decide) ?_
  | ((try first | refine WO_op rfl rfl rfl ?_ | refine WO_op0 rfl rfl ?_ | refine WD_op rfl rfl rfl ?_ | refine WD_op0 rfl rfl ?_); (refine WV_gen fun Q_ hQ_ => ?_; simp (disch := first | omega | (simp only [List.length_cons, List.length_nil, List.length_append]; omega)) only [bb, bp, argF, ↓reduceIte, reduceCtorEq, Nat.reduceEqDiff, Nat.reduceLT, Nat.reduceLeDiff, Nat.reduceAdd, Nat.reduceMul, Nat.reduceSub, Nat.reduceBEq, Int.reduceToNat, cond_true, cond_false, eq_self, beq_self_eq_true, g7, g8, hlen2, rs_65, newPtr_X wf, load1_X wf, loadAgg_X wf, store1_X wf, writeCells_X wf, makeFunc_def, tEvT11, bsl_25, bsl_81, newSlice_X wf]; first | (refine dec_split (Q := Q_) (fun hp_ => ?_) (fun hp_ => ?_) <;> first | (exfalso; omega) | (refine hQ_ _ _ ?_; clear hQ_ Q_)) | (refine dec_splitn (Q := Q_) (fun hp_ => ?_) (fun hp_ => ?_) <;> first | (exfalso; omega) | (refine hQ_ _ _ ?_; clear hQ_ Q_)) | (refine hQ_ _ _ ?_; clear hQ_ Q_)))
  | (refine WC_cond fun K_ hK_ => ?_; simp (disch := omega) only [evT_tmp, upd_apply, WB_some, ↓reduceIte, reduceCtorEq, Nat.reduceEqDiff, Nat.reduceLT]; refine hK_ _ ?_; clear hK_ K_)))
      refine endQ_ret _ _ rfl (ret1 (by decide)) ?_
      simp only [upd_apply, ↓reduceIte, reduceCtorEq, Nat.reduceEqDiff, fz_done]
      have e : X h (L ++ [.cells (mkCells (List.replicate (m * 75) FF)) 112]) (h.clock + L.length) = X (X h L w) [.cells (mkCells (List.replicate (m * 75) FF)) 112] (h.clock + L.length) := by rw [X_X]
      rw [e]
      refine WV_ext (by
        show (_ && flat (.sl _ 0 _ _ 75)) = false
        exact Bool.and_false _) ⟨rfl, ?_⟩
      rw [X_X, X_w, Nat.min_eq_left hw]
  · exact ⟨Nat.le_refl _, hn.1, by simp only [upd_apply, ↓reduceIte, reduceCtorEq, Nat.reduceEqDiff], by simp only [upd_apply, ↓reduceIte, reduceCtorEq, Nat.reduceEqDiff]; rfl, rfl, rfl⟩
end Go.Proofs.YtkmdidplmfdikaaDoor
end

/- EvT12 -/
section
/-
  LAYER 1: tables of states to which one does not come, for spots.
-/
namespace Go.Proofs.YtkmdidplmfdikaaDoor
open Go.Ev
set_option maxRecDepth 100000
set_option linter.unusedSimpArgs false
set_option linter.unusedVariables false
set_option maxHeartbeats 2000000

theorem tEvT12 : type_of% (And.intro (And.intro (And.intro (And.intro (And.intro (@bs_71) (@bs_64)) (And.intro (@bs_67) (And.intro (@ia_2) (@sz_2)))) (And.intro (And.intro (@ze_2) (And.intro (@ia_3) (@sz_3))) (And.intro (@ia_27) (And.intro (@ia_51) (@sz_51))))) (And.intro (And.intro (And.intro (@ze_51) (And.intro (@ia_71) (@sz_71))) (And.intro (@ze_71) (And.intro (@ia_64) (@sz_64)))) (And.intro (And.intro (@ia_24) (And.intro (@sz_24) (@ia_22))) (And.intro (@sz_22) (And.intro (@ia_25) (@ia_65)))))) (And.intro (And.intro (And.intro (And.intro (@sz_65) (@ia_112)) (And.intro (@sz_112) (And.intro (@ze_112) (@ia_109)))) (And.intro (And.intro (@sz_109) (And.intro (@ia_123) (@sz_123))) (And.intro (@ia_129) (And.intro (@sz_129) (@ia_67))))) (And.intro (And.intro (And.intro (@sz_67) (And.intro (@ze_67) (@fo_67_0))) (And.intro (@fo_67_1) (And.intro (@fo_64_0) (@fo_24_0)))) (And.intro (And.intro (@fo_24_1) (And.intro (@pb_83) (@pb_85))) (And.intro (@pb_79) (And.intro (@pb_44) (@ni_65))))))) := And.intro (And.intro (And.intro (And.intro (And.intro (@bs_71) (@bs_64)) (And.intro (@bs_67) (And.intro (@ia_2) (@sz_2)))) (And.intro (And.intro (@ze_2) (And.intro (@ia_3) (@sz_3))) (And.intro (@ia_27) (And.intro (@ia_51) (@sz_51))))) (And.intro (And.intro (And.intro (@ze_51) (And.intro (@ia_71) (@sz_71))) (And.intro (@ze_71) (And.intro (@ia_64) (@sz_64)))) (And.intro (And.intro (@ia_24) (And.intro (@sz_24) (@ia_22))) (And.intro (@sz_22) (And.intro (@ia_25) (@ia_65)))))) (And.intro (And.intro (And.intro (And.intro (@sz_65) (@ia_112)) (And.intro (@sz_112) (And.intro (@ze_112) (@ia_109)))) (And.intro (And.intro (@sz_109) (And.intro (@ia_123) (@sz_123))) (And.intro (@ia_129) (And.intro (@sz_129) (@ia_67))))) (And.intro (And.intro (And.intro (@sz_67) (And.intro (@ze_67) (@fo_67_0))) (And.intro (@fo_67_1) (And.intro (@fo_64_0) (@fo_24_0)))) (And.intro (And.intro (@fo_24_1) (And.intro (@pb_83) (@pb_85))) (And.intro (@pb_79) (And.intro (@pb_44) (@ni_65))))))
/-- The table of the package lies where it is laid. -/
def TabF (h : H) : Prop := ∃ f, Ev.getObj (posN 0) h = some (AO.ro f) ∧ f 0 = some FF ∧ f 1 = some FF ∧ f 2 = some FF
theorem TabF.up {h : H} (wf : Wf h) (t : TabF h) (l : List AO) (w : Nat) : TabF (X h l w) := let ⟨f, h1, h2⟩ := t; ⟨f, getObj_old wf h1 l w, h2⟩
theorem TabF.load {h : H} (t : TabF h) : loadAgg (posN 0) 0 (some 3) h = some (.agg [FF, FF, FF]) := by
  obtain ⟨f, t1, t2, t3, t4⟩ := t
  unfold loadAgg readCells
  dsimp only
  rw [t1]
  have e : readM f 3 0 = some [FF, FF, FF] := by
    simp only [readM, Nat.succ_eq_add_one, Nat.zero_add, Nat.reduceAdd, t2, t3, t4]
  dsimp only [cellsOf]
  rw [e]
def gz (q : Nat) : List AV := List.replicate q FF ++ List.replicate (75 - q) (.int .i64 0)
theorem gz_len {q : Nat} (hq : q ≤ 75) : (gz q).length = 75 := by unfold gz; rw [List.length_append, List.length_replicate, List.length_replicate]; omega
theorem gz_splice {q : Nat} (hq : q + 3 ≤ 75) : splice (gz q) q [FF, FF, FF] = gz (q + 3) := by
  unfold splice gz
  show List.take q _ ++ List.replicate 3 FF ++ List.drop (q + 3) _ = _
  rw [List.take_append_of_le_length (by rw [List.length_replicate]; exact Nat.le_refl _), List.take_of_length_le (by rw [List.length_replicate]; exact Nat.le_refl _), List.replicate_append_replicate, List.drop_append, List.length_replicate,
    List.drop_of_length_le (by rw [List.length_replicate]; omega), List.nil_append, List.drop_replicate, show 75 - q - (q + 3 - q) = 75 - (q + 3) from by omega]
theorem bs_65 {h : H} (wf : Wf h) (l : List AO) (w : Nat) : buildSliceE Tryd.prog 65 1 [(0, .agg (List.replicate 75 FF))] (X h l w) = .ok (.sl (nx h l.length) 0 1 (some 1) 75) (X h (l ++ [.cells (mkCells (List.replicate 75 FF)) 112]) w) := by
  show newSlice 112 (List.replicate 75 FF) 1 1 75 (X h l w) = _
  exact newSlice_X wf

theorem flat_prv {h : H} {a : AV} {m len : Nat} {cells : List AV} (hs : Sl h a m len cells) (turn : Int) (q : Pos) (n : Nat) : flat (prv a turn q n) = false := by
  obtain ⟨_, ⟨rfl, _⟩ | ⟨_, _, _, _, _, _, rfl, _⟩⟩ := hs <;> rfl
theorem evT_global {tm : M AV} : evT tm (.global 0) = some (.ptr (posN 0) 0) := rfl
theorem ix_arr {h : H} {k a b : Nat} (ha : a < 5) (hb : b < 5) : indexAddrE Tryd.prog 112 (.ptr (nx h k) 0) (.int .i64 (a : Int)) = some (.ptr (nx h k) (0 + a * 15)) ∧ indexAddrE Tryd.prog 110 (.ptr (nx h k) (0 + a * 15)) (.int .i64 (b : Int)) = some (.ptr (nx h k) (a * 15 + b * 3)) := by
  refine ⟨ix_112 ha, ?_⟩
  rw [ix_110 hb, Nat.zero_add]
theorem unpriced (sp : List (Int × Int)) (hsp : SpotsOK sp) (a : AV) (turn : Int) (h : H) (wf : Wf h) (ht : TabF h) (hs : Sl h a 2 sp.length (spotCells sp)) :
    WV ((om Tryd.prog KK).call (.fn 64 [.agg [a, ii turn]]) h) fun v h' => ∃ M, v = prv a turn (nx h 4) (sp.length - 1) ∧ h' = X h M h.w ∧ M[4]? = some (.cells (mkCells (List.replicate ((sp.length - 1) * 75) FF)) 112) := by
  have n2 := hsp.n2
  have n24 := hsp.n24
  have hG : ∀ l w, loadAgg (posN 0) 0 (some 3) (X h l w) = some (.agg [FF, FF, FF]) := fun l w => (ht.up wf l w).load
  have ha1 : oneB a = true ∧ AV.cells a = [a] := by obtain ⟨_, ⟨rfl, _⟩ | ⟨_, _, _, _, _, _, rfl, _⟩⟩ := hs <;> exact ⟨rfl, rfl⟩
  have hst : ∀ (o1 o2 : AO) (q w : Nat), q + 3 ≤ 75 → writeCells (nx h 2) q [FF, FF, FF] (X h [o1, o2, .cells (mkCells (gz q)) 112] w) = some (X h [o1, o2, .cells (mkCells (gz (q + 3))) 112] (min (h.clock + 2) w)) := fun o1 o2 q w hq => by
    rw [writeCells_X wf]
    show (match writeAt (some (.cells (mkCells (gz q)) 112)) q [FF, FF, FF] with | some o => some (X h ([o1, o2, .cells (mkCells (gz q)) 112].set 2 o) (min (h.clock + 2) w)) | none => none) = _
    rw [writeAt_cells, if_pos (by rw [gz_len (by omega)]; exact hq), gz_splice hq]
    rfl
  have hg0 : gz 0 = AV.cells (.agg (List.replicate 75 (.int .i64 0))) := rfl
  refine WV_call (fn := Tryd.f64) Tryd.func64 rfl rfl rfl rfl rfl ?_
  simp only [argF]
  (repeat' (first
  | (with_reducible first | refine WC_seq ?_ | refine WC_skip ?_ | refine WC_label ?_ | refine WC_scope ?_ | refine WC_block ?_ | refine WC_ret ?_ | refine WC_exit ?_ | refine seqQ_norm ?_ | refine seqQ_ret ?_ | refine seqQ_exit ?_ | refine blkQ_norm ?_ | refine blkQ_ret ?_ | refine blkQ_here ?_ | refine gateK_yes ?_ | refine gateK_none ?_ | refine condK_tt ?_ | refine condK_ff ?_ | refine roundQ_exit ?_ | refine roundQ_ret ?_)
  | refine WC_region ?_ | refine blkQ_out rfl ?_ | refine WO_nil ?_ | refine WD_nil ?_
  | ((first | refine WD_gate rfl rfl rfl rfl rfl fun K_ hK_ => ?_ | refine WO_gate rfl rfl rfl rfl rfl fun K_ hK_ => ?_); simp only [upd_apply, asB_bool, asB_tup, ↓reduceIte, reduceCtorEq, Nat.reduceEqDiff, Bool.not_true, Bool.not_false]; refine hK_ _ ?_; clear hK_ K_)
  | refine gateK_no (by decide) ?_
  | ((try first | refine WO_op rfl rfl rfl ?_ | refine WO_op0 rfl rfl ?_ | refine WD_op rfl rfl rfl ?_ | refine WD_op0 rfl rfl ?_); (refine WV_gen fun Q_ hQ_ => ?_; simp (disch := first | omega | (simp only [List.length_cons, List.length_nil, List.length_append]; omega)) only [bb, bp, argF, ↓reduceIte, reduceCtorEq, Nat.reduceEqDiff, Nat.reduceLT, Nat.reduceLeDiff, Nat.reduceAdd, Nat.reduceMul, Nat.reduceSub, Nat.reduceBEq, Int.reduceToNat, cond_true, cond_false, eq_self, beq_self_eq_true, ha1.1, ha1.2, newPtr_X wf, load1_X wf, loadAgg_X wf, store1_X wf, writeCells_X wf, makeFunc_def, tEvT12, bsl_25, bsl_81, newSlice_X wf]; first | (refine dec_split (Q := Q_) (fun hp_ => ?_) (fun hp_ => ?_) <;> first | (exfalso; omega) | (refine hQ_ _ _ ?_; clear hQ_ Q_)) | (refine dec_splitn (Q := Q_) (fun hp_ => ?_) (fun hp_ => ?_) <;> first | (exfalso; omega) | (refine hQ_ _ _ ?_; clear hQ_ Q_)) | (refine hQ_ _ _ ?_; clear hQ_ Q_)))
  | (refine WC_cond fun K_ hK_ => ?_; simp (disch := omega) only [evT_tmp, upd_apply, WB_some, ↓reduceIte, reduceCtorEq, Nat.reduceEqDiff, Nat.reduceLT]; refine hK_ _ ?_; clear hK_ K_)))
  refine WC_loop (fun (u : Nat) f d h' => u ≤ 5 ∧ f 1 = .ptr (nx h 0) 0 ∧ f 2 = .ptr (nx h 1) 0 ∧ f 3 = .ptr (nx h 2) 0 ∧ f 6 = ii (u : Int) ∧ d = [] ∧ ∃ w, h' = X h [.cells (mkCells [a, ii turn]) 64, .cells (mkCells [.nils, .int .i64 0, .nils]) 67, .cells (mkCells (gz (u * 15))) 112] w ∧ h.clock ≤ w ∧ w ≤ h.clock + 3) (fun u => 5 - u) ?_ (5 + 1) 0 (by omega) ?_
  · rintro u f d h' ⟨hu, g1, g2, g3, g6, rfl, w, rfl, hw1, hw2⟩
    by_cases hlt : u < 5
    · (repeat' (first
  | (with_reducible first | refine WC_seq ?_ | refine WC_skip ?_ | refine WC_label ?_ | refine WC_scope ?_ | refine WC_block ?_ | refine WC_ret ?_ | refine WC_exit ?_ | refine seqQ_norm ?_ | refine seqQ_ret ?_ | refine seqQ_exit ?_ | refine blkQ_norm ?_ | refine blkQ_ret ?_ | refine blkQ_here ?_ | refine gateK_yes ?_ | refine gateK_none ?_ | refine condK_tt ?_ | refine condK_ff ?_ | refine roundQ_exit ?_ | refine roundQ_ret ?_)
  | refine WC_region ?_ | refine blkQ_out rfl ?_ | refine WO_nil ?_ | refine WD_nil ?_
  | ((first | refine WD_gate rfl rfl rfl rfl rfl fun K_ hK_ => ?_ | refine WO_gate rfl rfl rfl rfl rfl fun K_ hK_ => ?_); simp only [upd_apply, asB_bool, asB_tup, ↓reduceIte, reduceCtorEq, Nat.reduceEqDiff, Bool.not_true, Bool.not_false]; refine hK_ _ ?_; clear hK_ K_)
  | refine gateK_no (by decide) ?_
  | ((try first | refine WO_op rfl rfl rfl ?_ | refine WO_op0 rfl rfl ?_ | refine WD_op rfl rfl rfl ?_ | refine WD_op0 rfl rfl ?_); (refine WV_gen fun Q_ hQ_ => ?_; simp (disch := first | omega | (simp only [List.length_cons, List.length_nil, List.length_append]; omega)) only [bb, bp, argF, ↓reduceIte, reduceCtorEq, Nat.reduceEqDiff, Nat.reduceLT, Nat.reduceLeDiff, Nat.reduceAdd, Nat.reduceMul, Nat.reduceSub, Nat.reduceBEq, Int.reduceToNat, cond_true, cond_false, eq_self, beq_self_eq_true, g1, g2, g3, g6, newPtr_X wf, load1_X wf, loadAgg_X wf, store1_X wf, writeCells_X wf, makeFunc_def, tEvT12, bsl_25, bsl_81, newSlice_X wf]; first | (refine dec_split (Q := Q_) (fun hp_ => ?_) (fun hp_ => ?_) <;> first | (exfalso; omega) | (refine hQ_ _ _ ?_; clear hQ_ Q_)) | (refine dec_splitn (Q := Q_) (fun hp_ => ?_) (fun hp_ => ?_) <;> first | (exfalso; omega) | (refine hQ_ _ _ ?_; clear hQ_ Q_)) | (refine hQ_ _ _ ?_; clear hQ_ Q_)))
  | (refine WC_cond fun K_ hK_ => ?_; simp (disch := omega) only [evT_tmp, upd_apply, WB_some, ↓reduceIte, reduceCtorEq, Nat.reduceEqDiff, Nat.reduceLT]; refine hK_ _ ?_; clear hK_ K_)))
      refine WC_loop (fun (v : Nat) f d h' => v ≤ 5 ∧ f 1 = .ptr (nx h 0) 0 ∧ f 2 = .ptr (nx h 1) 0 ∧ f 3 = .ptr (nx h 2) 0 ∧ f 6 = ii (u : Int) ∧ f 4 = ii (u : Int) ∧ f 9 = ii (v : Int) ∧ d = [] ∧ ∃ w, h' = X h [.cells (mkCells [a, ii turn]) 64, .cells (mkCells [.nils, .int .i64 0, .nils]) 67, .cells (mkCells (gz (u * 15 + v * 3))) 112] w ∧ h.clock ≤ w ∧ w ≤ h.clock + 3) (fun v => 5 - v) ?_ (5 + 1) 0 (by omega) ?_
      · clear g1 g2 g3 g6 hw1 hw2
        rintro v f d h' ⟨hv, g1, g2, g3, g6, g4, g9, rfl, w, rfl, hw1, hw2⟩
        by_cases hlv : v < 5
        · obtain ⟨j1, j2⟩ := ix_arr (h := h) (k := 2) hlt hlv
          have hs1 := hst (.cells (mkCells [a, ii turn]) 64) (.cells (mkCells [.nils, .int .i64 0, .nils]) 67) (u * 15 + v * 3)
          rw [Nat.zero_add] at j1 j2
          have hs1' := fun w => hs1 w (by omega)
          (repeat' (first
  | (with_reducible first | refine WC_seq ?_ | refine WC_skip ?_ | refine WC_label ?_ | refine WC_scope ?_ | refine WC_block ?_ | refine WC_ret ?_ | refine WC_exit ?_ | refine seqQ_norm ?_ | refine seqQ_ret ?_ | refine seqQ_exit ?_ | refine blkQ_norm ?_ | refine blkQ_ret ?_ | refine blkQ_here ?_ | refine gateK_yes ?_ | refine gateK_none ?_ | refine condK_tt ?_ | refine condK_ff ?_ | refine roundQ_exit ?_ | refine roundQ_ret ?_)
  | refine WC_region ?_ | refine blkQ_out rfl ?_ | refine WO_nil ?_ | refine WD_nil ?_
  | ((first | refine WD_gate rfl rfl rfl rfl rfl fun K_ hK_ => ?_ | refine WO_gate rfl rfl rfl rfl rfl fun K_ hK_ => ?_); simp only [upd_apply, asB_bool, asB_tup, ↓reduceIte, reduceCtorEq, Nat.reduceEqDiff, Bool.not_true, Bool.not_false]; refine hK_ _ ?_; clear hK_ K_)
  | refine gateK_no (by decide) ?_
  | ((try first | refine WO_op rfl rfl rfl ?_ | refine WO_op0 rfl rfl ?_ | refine WD_op rfl rfl rfl ?_ | refine WD_op0 rfl rfl ?_); (refine WV_gen fun Q_ hQ_ => ?_; simp (disch := first | omega | (simp only [List.length_cons, List.length_nil, List.length_append]; omega)) only [bb, bp, argF, ↓reduceIte, reduceCtorEq, Nat.reduceEqDiff, Nat.reduceLT, Nat.reduceLeDiff, Nat.reduceAdd, Nat.reduceMul, Nat.reduceSub, Nat.reduceBEq, Int.reduceToNat, cond_true, cond_false, eq_self, beq_self_eq_true, g1, g2, g3, g6, g4, g9, newPtr_X wf, load1_X wf, loadAgg_X wf, store1_X wf, writeCells_X wf, makeFunc_def, tEvT12, bsl_25, bsl_81, newSlice_X wf]; first | (refine dec_split (Q := Q_) (fun hp_ => ?_) (fun hp_ => ?_) <;> first | (exfalso; omega) | (refine hQ_ _ _ ?_; clear hQ_ Q_)) | (refine dec_splitn (Q := Q_) (fun hp_ => ?_) (fun hp_ => ?_) <;> first | (exfalso; omega) | (refine hQ_ _ _ ?_; clear hQ_ Q_)) | (refine hQ_ _ _ ?_; clear hQ_ Q_)))
  | (refine WC_cond fun K_ hK_ => ?_; simp (disch := omega) only [evT_tmp, upd_apply, WB_some, ↓reduceIte, reduceCtorEq, Nat.reduceEqDiff, Nat.reduceLT]; refine hK_ _ ?_; clear hK_ K_)))
          refine WC_drawnB [.no, .no, .full, .no, .full, .full] (by kernel_rfl) ?_
          (repeat' (first
  | (with_reducible first | refine WC_seq ?_ | refine WC_skip ?_ | refine WC_label ?_ | refine WC_scope ?_ | refine WC_block ?_ | refine WC_ret ?_ | refine WC_exit ?_ | refine seqQ_norm ?_ | refine seqQ_ret ?_ | refine seqQ_exit ?_ | refine blkQ_norm ?_ | refine blkQ_ret ?_ | refine blkQ_here ?_ | refine gateK_yes ?_ | refine gateK_none ?_ | refine condK_tt ?_ | refine condK_ff ?_ | refine roundQ_exit ?_ | refine roundQ_ret ?_)
  | refine WC_region ?_ | refine blkQ_out rfl ?_ | refine WO_nil ?_ | refine WD_nil ?_
  | ((first | refine WD_gate rfl rfl rfl rfl rfl fun K_ hK_ => ?_ | refine WO_gate rfl rfl rfl rfl rfl fun K_ hK_ => ?_); simp only [upd_apply, asB_bool, asB_tup, ↓reduceIte, reduceCtorEq, Nat.reduceEqDiff, Bool.not_true, Bool.not_false]; refine hK_ _ ?_; clear hK_ K_)
  | refine gateK_no (by decide) ?_
  | ((try first | refine WO_op rfl rfl rfl ?_ | refine WO_op0 rfl rfl ?_ | refine WD_op rfl rfl rfl ?_ | refine WD_op0 rfl rfl ?_); (refine WV_gen fun Q_ hQ_ => ?_; simp (disch := first | omega | (simp only [List.length_cons, List.length_nil, List.length_append]; omega)) only [bb, bp, argF, ↓reduceIte, reduceCtorEq, Nat.reduceEqDiff, Nat.reduceLT, Nat.reduceLeDiff, Nat.reduceAdd, Nat.reduceMul, Nat.reduceSub, Nat.reduceBEq, Int.reduceToNat, cond_true, cond_false, eq_self, beq_self_eq_true, g1, g2, g3, g6, g4, g9, evT_global, hG, j1, j2, hs1', newPtr_X wf, load1_X wf, loadAgg_X wf, store1_X wf, writeCells_X wf, makeFunc_def, tEvT12, bsl_25, bsl_81, newSlice_X wf]; first | (refine dec_split (Q := Q_) (fun hp_ => ?_) (fun hp_ => ?_) <;> first | (exfalso; omega) | (refine hQ_ _ _ ?_; clear hQ_ Q_)) | (refine dec_splitn (Q := Q_) (fun hp_ => ?_) (fun hp_ => ?_) <;> first | (exfalso; omega) | (refine hQ_ _ _ ?_; clear hQ_ Q_)) | (refine hQ_ _ _ ?_; clear hQ_ Q_)))
  | (refine WC_cond fun K_ hK_ => ?_; simp (disch := omega) only [evT_tmp, upd_apply, WB_some, ↓reduceIte, reduceCtorEq, Nat.reduceEqDiff, Nat.reduceLT]; refine hK_ _ ?_; clear hK_ K_)))
          exact roundQ_again (v + 1) (by omega) ⟨hlv, by simp only [upd_apply, ↓reduceIte, reduceCtorEq, Nat.reduceEqDiff]; exact g1, by simp only [upd_apply, ↓reduceIte, reduceCtorEq, Nat.reduceEqDiff]; exact g2, by simp only [upd_apply, ↓reduceIte, reduceCtorEq, Nat.reduceEqDiff]; exact g3, by simp only [upd_apply, ↓reduceIte, reduceCtorEq, Nat.reduceEqDiff]; exact g6, by simp only [upd_apply, ↓reduceIte, reduceCtorEq, Nat.reduceEqDiff]; exact g4, by simp only [upd_apply, ↓reduceIte, reduceCtorEq, Nat.reduceEqDiff]; rfl, rfl, _, by rw [show u * 15 + (v + 1) * 3 = u * 15 + v * 3 + 3 from by omega], by omega, by omega⟩
        · have hve : v = 5 := by omega
          subst hve
          (repeat' (first
  | (with_reducible first | refine WC_seq ?_ | refine WC_skip ?_ | refine WC_label ?_ | refine WC_scope ?_ | refine WC_block ?_ | refine WC_ret ?_ | refine WC_exit ?_ | refine seqQ_norm ?_ | refine seqQ_ret ?_ | refine seqQ_exit ?_ | refine blkQ_norm ?_ | refine blkQ_ret ?_ | refine blkQ_here ?_ | refine gateK_yes ?_ | refine gateK_none ?_ | refine condK_tt ?_ | refine condK_ff ?_ | refine roundQ_exit ?_ | refine roundQ_ret ?_)
  | refine WC_region ?_ | refine blkQ_out rfl ?_ | refine WO_nil ?_ | refine WD_nil ?_
  | ((first | refine WD_gate rfl rfl rfl rfl rfl fun K_ hK_ => ?_ | refine WO_gate rfl rfl rfl rfl rfl fun K_ hK_ => ?_); simp only [upd_apply, asB_bool, asB_tup, ↓reduceIte, reduceCtorEq, Nat.reduceEqDiff, Bool.not_true, Bool.not_false]; refine hK_ _ ?_; clear hK_ K_)
  | refine gateK_no (by decide) ?_
  | ((try first | refine WO_op rfl rfl rfl ?_ | refine WO_op0 rfl rfl ?_ | refine WD_op rfl rfl rfl ?_ | refine WD_op0 rfl rfl ?_); (refine WV_gen fun Q_ hQ_ => ?_; simp (disch := first | omega | (simp only [List.length_cons, List.length_nil, List.length_append]; omega)) only [bb, bp, argF, ↓reduceIte, reduceCtorEq, Nat.reduceEqDiff, Nat.reduceLT, Nat.reduceLeDiff, Nat.reduceAdd, Nat.reduceMul, Nat.reduceSub, Nat.reduceBEq, Int.reduceToNat, cond_true, cond_false, eq_self, beq_self_eq_true, g1, g2, g3, g6, g4, g9, newPtr_X wf, load1_X wf, loadAgg_X wf, store1_X wf, writeCells_X wf, makeFunc_def, tEvT12, bsl_25, bsl_81, newSlice_X wf]; first | (refine dec_split (Q := Q_) (fun hp_ => ?_) (fun hp_ => ?_) <;> first | (exfalso; omega) | (refine hQ_ _ _ ?_; clear hQ_ Q_)) | (refine dec_splitn (Q := Q_) (fun hp_ => ?_) (fun hp_ => ?_) <;> first | (exfalso; omega) | (refine hQ_ _ _ ?_; clear hQ_ Q_)) | (refine hQ_ _ _ ?_; clear hQ_ Q_)))
  | (refine WC_cond fun K_ hK_ => ?_; simp (disch := omega) only [evT_tmp, upd_apply, WB_some, ↓reduceIte, reduceCtorEq, Nat.reduceEqDiff, Nat.reduceLT]; refine hK_ _ ?_; clear hK_ K_)))
          exact roundQ_again (u + 1) (by omega) ⟨hlt, by simp only [upd_apply, ↓reduceIte, reduceCtorEq, Nat.reduceEqDiff]; exact g1, by simp only [upd_apply, ↓reduceIte, reduceCtorEq, Nat.reduceEqDiff]; exact g2, by simp only [upd_apply, ↓reduceIte, reduceCtorEq, Nat.reduceEqDiff]; exact g3, by simp only [upd_apply, ↓reduceIte, reduceCtorEq, Nat.reduceEqDiff]; rfl, rfl, _, by rw [show (u + 1) * 15 = u * 15 + 5 * 3 from by omega], hw1, hw2⟩
      · exact ⟨Nat.zero_le _, by simp only [upd_apply, ↓reduceIte, reduceCtorEq, Nat.reduceEqDiff]; exact g1, by simp only [upd_apply, ↓reduceIte, reduceCtorEq, Nat.reduceEqDiff]; exact g2, by simp only [upd_apply, ↓reduceIte, reduceCtorEq, Nat.reduceEqDiff]; exact g3, by simp only [upd_apply, ↓reduceIte, reduceCtorEq, Nat.reduceEqDiff]; exact g6, by simp only [upd_apply, ↓reduceIte, reduceCtorEq, Nat.reduceEqDiff], by simp only [upd_apply, ↓reduceIte, reduceCtorEq, Nat.reduceEqDiff]; rfl, rfl, _, rfl, hw1, hw2⟩
    · have hue : u = 5 := by omega
      subst hue
      have hgz : gz (5 * 15) = List.replicate 75 FF := by unfold gz; simp
      rw [hgz]
      have hld : ∀ (o1 o2 : AO) (l : List AO) w, loadAgg (nx h 2) 0 (some 75) (X h (o1 :: o2 :: .cells (mkCells (List.replicate 75 FF)) 112 :: l) w) = some (.agg (List.replicate 75 FF)) := fun o1 o2 l w => by
        rw [loadAgg_X wf]
        show aggAt (some (.cells (mkCells (List.replicate 75 FF)) 112)) 0 75 = _
        rw [aggAt_cells (by decide)]; rfl
      have hla : ∀ l w, w ≤ h.clock + l.length → (om Tryd.prog KK).call (.fn 44 [.agg [a, ii turn]]) (X h l w) = .ok (ii ((sp.length - 1 : Nat) : Int)) (X h l w) := fun l w hw => last a turn sp (by omega) _ (wf.X hw) (hs.up wf _ _)
      have hrep : ∀ (o1 o2 o3 : AO) w, w ≤ h.clock + 4 → (om Tryd.prog KK).call (.fn 79 [.sl (nx h 3) 0 1 (some 1) 75, ii ((sp.length - 1 : Nat) : Int)]) (X h [o1, o2, o3, .cells (mkCells (List.replicate 75 FF)) 112] w) = .ok (.sl (nx h 4) 0 (sp.length - 1) (some (sp.length - 1)) 75) (X h [o1, o2, o3, .cells (mkCells (List.replicate 75 FF)) 112, .cells (mkCells (List.replicate ((sp.length - 1) * 75) FF)) 112] w) := fun o1 o2 o3 w hw => repeat_ (by omega) h wf [o1, o2, o3, .cells (mkCells (List.replicate 75 FF)) 112] 3 w rfl hw
      have hbs := fun l w => bs_65 wf l w
      have hl64 : ∀ (l : List AO) w, loadAgg (nx h 0) 0 (some 2) (X h (.cells (mkCells [a, ii turn]) 64 :: l) w) = some (.agg [a, ii turn]) := fun l w => by
        rw [loadAgg_X wf]
        show aggAt (some (.cells (mkCells [a, ii turn]) 64)) 0 2 = _
        rw [aggAt_cells (by decide)]; rfl
      (repeat' (first
  | (with_reducible first | refine WC_seq ?_ | refine WC_skip ?_ | refine WC_label ?_ | refine WC_scope ?_ | refine WC_block ?_ | refine WC_ret ?_ | refine WC_exit ?_ | refine seqQ_norm ?_ | refine seqQ_ret ?_ | refine seqQ_exit ?_ | refine blkQ_norm ?_ | refine blkQ_ret ?_ | refine blkQ_here ?_ | refine gateK_yes ?_ | refine gateK_none ?_ | refine condK_tt ?_ | refine condK_ff ?_ | refine roundQ_exit ?_ | refine roundQ_ret ?_)
  | refine WC_region ?_ | refine blkQ_out rfl ?_ | refine WO_nil ?_ | refine WD_nil ?_
  | ((first | refine WD_gate rfl rfl rfl rfl rfl fun K_ hK_ => ?_ | refine WO_gate rfl rfl rfl rfl rfl fun K_ hK_ => ?_); simp only [upd_apply, asB_bool, asB_tup, ↓reduceIte, reduceCtorEq, Nat.reduceEqDiff, Bool.not_true, Bool.not_false]; refine hK_ _ ?_; clear hK_ K_)
  | refine gateK_no (by decide) ?_
  | ((try first | refine WO_op rfl rfl rfl ?_ | refine WO_op0 rfl rfl ?_ | refine WD_op rfl rfl rfl ?_ | refine WD_op0 rfl rfl ?_); (refine WV_gen fun Q_ hQ_ => ?_; simp (disch := first | omega | (simp only [List.length_cons, List.length_nil, List.length_append]; omega)) only [bb, bp, argF, ↓reduceIte, reduceCtorEq, Nat.reduceEqDiff, Nat.reduceLT, Nat.reduceLeDiff, Nat.reduceAdd, Nat.reduceMul, Nat.reduceSub, Nat.reduceBEq, Int.reduceToNat, cond_true, cond_false, eq_self, beq_self_eq_true, g1, g2, g3, g6, newPtr_X wf, load1_X wf, loadAgg_X wf, store1_X wf, writeCells_X wf, makeFunc_def, tEvT12, bsl_25, bsl_81, newSlice_X wf]; first | (refine dec_split (Q := Q_) (fun hp_ => ?_) (fun hp_ => ?_) <;> first | (exfalso; omega) | (refine hQ_ _ _ ?_; clear hQ_ Q_)) | (refine dec_splitn (Q := Q_) (fun hp_ => ?_) (fun hp_ => ?_) <;> first | (exfalso; omega) | (refine hQ_ _ _ ?_; clear hQ_ Q_)) | (refine hQ_ _ _ ?_; clear hQ_ Q_)))
  | (refine WC_cond fun K_ hK_ => ?_; simp (disch := omega) only [evT_tmp, upd_apply, WB_some, ↓reduceIte, reduceCtorEq, Nat.reduceEqDiff, Nat.reduceLT]; refine hK_ _ ?_; clear hK_ K_)))
      refine WC_drawnB [.no, .no, .no, .no, .no, .no, .full, .full] (by kernel_rfl) ?_
      (repeat' (first
  | (with_reducible first | refine WC_seq ?_ | refine WC_skip ?_ | refine WC_label ?_ | refine WC_scope ?_ | refine WC_block ?_ | refine WC_ret ?_ | refine WC_exit ?_ | refine seqQ_norm ?_ | refine seqQ_ret ?_ | refine seqQ_exit ?_ | refine blkQ_norm ?_ | refine blkQ_ret ?_ | refine blkQ_here ?_ | refine gateK_yes ?_ | refine gateK_none ?_ | refine condK_tt ?_ | refine condK_ff ?_ | refine roundQ_exit ?_ | refine roundQ_ret ?_)
  | refine WC_region ?_ | refine blkQ_out rfl ?_ | refine WO_nil ?_ | refine WD_nil ?_
  | ((first | refine WD_gate rfl rfl rfl rfl rfl fun K_ hK_ => ?_ | refine WO_gate rfl rfl rfl rfl rfl fun K_ hK_ => ?_); simp only [upd_apply, asB_bool, asB_tup, ↓reduceIte, reduceCtorEq, Nat.reduceEqDiff, Bool.not_true, Bool.not_false]; refine hK_ _ ?_; clear hK_ K_)
  | refine gateK_no (by decide) ?_
  | ((try first | refine WO_op rfl rfl rfl ?_ | refine WO_op0 rfl rfl ?_ | refine WD_op rfl rfl rfl ?_ | refine WD_op0 rfl rfl ?_); (refine WV_gen fun Q_ hQ_ => ?_; simp (disch := first | omega | (simp only [List.length_cons, List.length_nil, List.length_append]; omega)) only [bb, bp, argF, ↓reduceIte, reduceCtorEq, Nat.reduceEqDiff, Nat.reduceLT, Nat.reduceLeDiff, Nat.reduceAdd, Nat.reduceMul, Nat.reduceSub, Nat.reduceBEq, Int.reduceToNat, cond_true, cond_false, eq_self, beq_self_eq_true, g1, g2, g3, g6, hld, hl64, hla, hrep, hbs, ha1.1, ha1.2, newPtr_X wf, load1_X wf, store1_X wf, writeCells_X wf, tEvT12, bsl_25, bsl_81, newSlice_X wf]; first | (refine dec_split (Q := Q_) (fun hp_ => ?_) (fun hp_ => ?_) <;> first | (exfalso; omega) | (refine hQ_ _ _ ?_; clear hQ_ Q_)) | (refine dec_splitn (Q := Q_) (fun hp_ => ?_) (fun hp_ => ?_) <;> first | (exfalso; omega) | (refine hQ_ _ _ ?_; clear hQ_ Q_)) | (refine hQ_ _ _ ?_; clear hQ_ Q_)))
  | (refine WC_cond fun K_ hK_ => ?_; simp (disch := omega) only [evT_tmp, upd_apply, WB_some, ↓reduceIte, reduceCtorEq, Nat.reduceEqDiff, Nat.reduceLT]; refine hK_ _ ?_; clear hK_ K_)))
      refine endQ_ret _ _ rfl (retc0 (by decide) (by simp (disch := first | omega | (simp only [List.length_cons, List.length_nil, List.length_append]; omega)) only [bb, bp, argF, ↓reduceIte, reduceCtorEq, Nat.reduceEqDiff, Nat.reduceLT, Nat.reduceLeDiff, Nat.reduceAdd, Nat.reduceMul, Nat.reduceSub, Nat.reduceBEq, Int.reduceToNat, cond_true, cond_false, eq_self, beq_self_eq_true, g2, loadAgg_X wf, tEvT12, bsl_25, bsl_81, newSlice_X wf]; rfl)) ?_
      refine WV_ext (by
        show (_ && flat (prv a turn _ _)) = false
        rw [flat_prv hs]; exact Bool.and_false _) ?_
      have hmin : ∀ w', h.clock ≤ w' → min h.w w' = h.w := fun w' h' => by have := wf.wle; omega
      rw [hmin _ (by omega)]
      exact ⟨_, rfl, rfl, rfl⟩
  · exact ⟨Nat.zero_le _, by simp only [upd_apply, ↓reduceIte, reduceCtorEq, Nat.reduceEqDiff], by simp only [upd_apply, ↓reduceIte, reduceCtorEq, Nat.reduceEqDiff], by simp only [upd_apply, ↓reduceIte, reduceCtorEq, Nat.reduceEqDiff], by simp only [upd_apply, ↓reduceIte, reduceCtorEq, Nat.reduceEqDiff]; rfl, rfl, _, by rw [hg0]; rfl, Nat.le_refl _ , by omega⟩
end Go.Proofs.YtkmdidplmfdikaaDoor
end

/- EvT13 -/
section
/-
  LAYER 1: what the rest of a line costs at least, from each state on.
-/
namespace Go.Proofs.YtkmdidplmfdikaaDoor
open Go.Ev
set_option maxRecDepth 100000
set_option linter.unusedSimpArgs false
set_option linter.unusedVariables false
set_option maxHeartbeats 2000000

theorem tEvT13 : type_of% (And.intro (And.intro (And.intro (And.intro (And.intro (@bs_71) (@bs_64)) (And.intro (@bs_67) (And.intro (@ia_2) (@sz_2)))) (And.intro (And.intro (@ze_2) (@ia_3)) (And.intro (@sz_3) (And.intro (@ia_27) (@ia_51))))) (And.intro (And.intro (And.intro (@sz_51) (@ze_51)) (And.intro (@ia_71) (And.intro (@sz_71) (@ze_71)))) (And.intro (And.intro (@ia_64) (And.intro (@sz_64) (@ia_24))) (And.intro (@sz_24) (And.intro (@ia_22) (@sz_22)))))) (And.intro (And.intro (And.intro (And.intro (@ia_25) (@ia_65)) (And.intro (@sz_65) (And.intro (@ia_81) (@sz_81)))) (And.intro (And.intro (@ia_103) (@ia_67)) (And.intro (@sz_67) (And.intro (@ze_67) (@fo_67_0))))) (And.intro (And.intro (And.intro (@fo_67_1) (@fo_64_0)) (And.intro (@fo_24_0) (And.intro (@fo_24_1) (@pb_64)))) (And.intro (And.intro (@pb_48) (And.intro (@pb_47) (@pb_65))) (And.intro (@pb_45) (And.intro (@pb_66) (@ni_65))))))) := And.intro (And.intro (And.intro (And.intro (And.intro (@bs_71) (@bs_64)) (And.intro (@bs_67) (And.intro (@ia_2) (@sz_2)))) (And.intro (And.intro (@ze_2) (@ia_3)) (And.intro (@sz_3) (And.intro (@ia_27) (@ia_51))))) (And.intro (And.intro (And.intro (@sz_51) (@ze_51)) (And.intro (@ia_71) (And.intro (@sz_71) (@ze_71)))) (And.intro (And.intro (@ia_64) (And.intro (@sz_64) (@ia_24))) (And.intro (@sz_24) (And.intro (@ia_22) (@sz_22)))))) (And.intro (And.intro (And.intro (And.intro (@ia_25) (@ia_65)) (And.intro (@sz_65) (And.intro (@ia_81) (@sz_81)))) (And.intro (And.intro (@ia_103) (@ia_67)) (And.intro (@sz_67) (And.intro (@ze_67) (@fo_67_0))))) (And.intro (And.intro (And.intro (@fo_67_1) (@fo_64_0)) (And.intro (@fo_24_0) (And.intro (@fo_24_1) (@pb_64)))) (And.intro (And.intro (@pb_48) (And.intro (@pb_47) (@pb_65))) (And.intro (@pb_45) (And.intro (@pb_66) (@ni_65))))))
theorem due_in {pf : Int → Int → Int → Int → Int} (hpf : ∀ (a b s c : Int), Off a → Off b → Off c → 0 ≤ pf a b s c ∧ pf a b s c ≤ 5000000) : ∀ (R : List (Int × Int)) (a b s : Int), (∀ r ∈ R, SpotOK r) → Off a → Off b → 0 ≤ dueI pf R a b s ∧ dueI pf R a b s ≤ 5000000 * (R.length : Int)
  | [], a, b, s, _, _, _ => by rw [dueI_nil]; simp
  | r :: R, a, b, s, hR, ha, hb => by
    obtain ⟨r1, r2, r3, r4⟩ := hR r (by simp)
    obtain ⟨c, e, hf⟩ := onw_cons (turn := pf) (R := R) r3 a b s
    have hc := mem_offs.1 hf.mem
    have h1 := hpf a b s c ha hb (by omega)
    have h2 := due_in hpf R b c (nsg s (a - 2 * b + c)) (fun r hr => hR r (by simp [hr])) hb (by omega)
    have e2 : dueI pf (r :: R) a b s = pf a b s c + dueI pf R b c (nsg s (a - 2 * b + c)) := by show (onw pf (r :: R) a b s).2 = _; rw [e]
    rw [e2, List.length_cons]
    push_cast
    omega
theorem dueS_in {byv : AV} {pf : Int → Int → Int → Int → Int} (S : StepOK byv pf) {sp : List (Int × Int)} (hsp : SpotsOK sp) {x : Stt} (hx : x.Ok sp) : 0 ≤ dueS pf sp x ∧ dueS pf sp x ≤ 1000000000 := by
  obtain ⟨⟨h1, h2⟩, h3, h4, h5⟩ := hx
  obtain ⟨a1, a2, a3, a4⟩ := hsp.at (i := x.i - 1) (by omega)
  obtain ⟨b1, b2, b3, b4⟩ := hsp.at h2
  have := due_in S.le (sp.drop (x.i + 1)) x.a x.b x.s (fun r hr => hsp.ok r (List.mem_of_mem_drop hr)) (by omega) (by omega)
  have n24 := hsp.n24
  rw [List.length_drop] at this
  have e : dueS pf sp x = dueI pf (sp.drop (x.i + 1)) x.a x.b x.s := rfl
  rw [e]
  omega
/-- The table is right for the first j states, from the end on. -/
def GoodT (pf : Int → Int → Int → Int → Int) (sp : List (Int × Int)) (Tb : List Int) (j : Nat) : Prop := ∀ (i : Nat) (x : Stt), i < j → (sts sp).reverse[i]? = some x → Tb.getD (x.ix sp) 0 = dueS pf sp x
theorem rs_ok {sp : List (Int × Int)} {j : Nat} {x : Stt} (hx : (sts sp).reverse[j]? = some x) : x.Ok sp := mem_sts.1 (List.mem_reverse.1 (List.mem_of_getElem? hx))
theorem rs_lt {sp : List (Int × Int)} (hn : Narrow sp) {i j : Nat} {x y : Stt} (hij : i < j) (hx : (sts sp).reverse[i]? = some x) (hy : (sts sp).reverse[j]? = some y) : y.ix sp < x.ix sp := by
  have hp : (sts sp).reverse.Pairwise fun x y => y.ix sp < x.ix sp := List.pairwise_reverse.2 (sts_sorted hn)
  obtain ⟨hi, rfl⟩ := List.getElem?_eq_some_iff.1 hx
  obtain ⟨hj, rfl⟩ := List.getElem?_eq_some_iff.1 hy
  exact List.pairwise_iff_getElem.1 hp i j hi hj hij
theorem good_next {pf : Int → Int → Int → Int → Int} {sp : List (Int × Int)} (hsp : SpotsOK sp) {Tb : List Int} {j : Nat} (hg : GoodT pf sp Tb j) {x : Stt} (hx : (sts sp).reverse[j]? = some x) (c : Int) (hi : x.i + 1 < sp.length) (h1 : (spot sp (x.i + 1)).1 ≤ c) (h2 : c ≤ (spot sp (x.i + 1)).2) :
    Tb.getD ((nxt x c).ix sp) 0 = dueS pf sp (nxt x c) := by
  have hok := rs_ok hx
  have hy := nxt_ok hok hi ⟨h1, h2⟩
  have lx := hok.lt hsp.narrow
  have ly := hy.lt hsp.narrow
  have hyi : (nxt x c).i = x.i + 1 := rfl
  rw [hyi] at ly
  obtain ⟨i, hi2⟩ := List.getElem?_of_mem (List.mem_reverse.2 (mem_sts.2 hy))
  refine hg i _ ?_ hi2
  rcases Nat.lt_trichotomy i j with h | h | h
  · exact h
  · subst h; rw [hx] at hi2; have e := Option.some.inj hi2; rw [← e] at ly; omega
  · have := rs_lt hsp.narrow h hx hi2; omega
theorem good_set {pf : Int → Int → Int → Int → Int} {sp : List (Int × Int)} (hsp : SpotsOK sp) {Tb : List Int} (hTl : Tb.length = (sp.length - 1) * 75) {j : Nat} (hg : GoodT pf sp Tb j) {x : Stt} (hx : (sts sp).reverse[j]? = some x) : GoodT pf sp (Tb.set (x.ix sp) (dueS pf sp x)) (j + 1) := by
  have lx := (rs_ok hx).lt hsp.narrow
  intro i y hi hy
  by_cases e : i = j
  · subst e
    rw [hx] at hy; cases hy
    simp [List.getD, List.getElem?_set, hTl, lx.1]
  · have h1 := rs_lt hsp.narrow (show i < j by omega) hy hx
    have h2 := hg i y (by omega) hy
    simp only [List.getD] at h2 ⊢
    rw [List.getElem?_set_ne (by omega)]
    exact h2
theorem bound_set {Tb : List Int} {n : Nat} {v : Int} (hb : ∀ m, -1000000000000000 ≤ Tb.getD m 0 ∧ Tb.getD m 0 ≤ 1000000000000000) (hv : -1000000000000000 ≤ v ∧ v ≤ 1000000000000000) : ∀ m, -1000000000000000 ≤ (Tb.set n v).getD m 0 ∧ (Tb.set n v).getD m 0 ≤ 1000000000000000 := fun m => by
  by_cases e : n = m
  · subst e
    by_cases hl : n < Tb.length
    · simp only [List.getD, List.getElem?_set, if_pos hl, ↓reduceIte, Option.getD_some]; exact hv
    · simp only [List.getD, List.getElem?_set, if_neg hl, ↓reduceIte, Option.getD_none]; omega
  · simp only [List.getD]
    rw [List.getElem?_set_ne e]
    exact hb m

theorem stsTo_le {sp : List (Int × Int)} (hsp : SpotsOK sp) : ∀ k, k < sp.length → (stsTo sp k).length ≤ 75 * k
  | 0, _ => by rw [show stsTo sp 0 = [] from rfl]; simp
  | k + 1, hk => by
    have ih := stsTo_le hsp k (by omega)
    obtain ⟨_, _, _, h0⟩ := hsp.at (i := k) (by omega)
    obtain ⟨_, _, _, h1⟩ := hsp.at hk
    have m1 := Nat.mul_le_mul (show (offs (spot sp k)).length ≤ 5 by rw [offs_length]; omega) (show (offs (spot sp (k + 1))).length * 3 ≤ 15 by rw [offs_length]; omega)
    rw [stsTo_succ, List.length_append, stsOf_len, Nat.add_sub_cancel]
    omega
theorem sts_len_le {sp : List (Int × Int)} (hsp : SpotsOK sp) : (sts sp).length ≤ 1725 := by
  have n2 := hsp.n2
  have n24 := hsp.n24
  have := stsTo_le hsp (sp.length - 1) (by omega)
  unfold sts
  omega
theorem sts_two {sp : List (Int × Int)} (hsp : SpotsOK sp) : 3 ≤ (sts sp).length := by
  have n2 := hsp.n2
  obtain ⟨post, e⟩ := stsTo_pre sp (k := 1) (m := sp.length - 1) (by omega)
  obtain ⟨_, _, h0, _⟩ := hsp.at (i := 0) (by omega)
  obtain ⟨_, _, h1, _⟩ := hsp.at (i := 1) (by omega)
  have m1 := Nat.mul_le_mul (show 1 ≤ (offs (spot sp 0)).length by rw [offs_length]; omega) (show 1 * 3 ≤ (offs (spot sp 1)).length * 3 by rw [offs_length]; omega)
  have e2 : (stsTo sp 1).length = (offs (spot sp 0)).length * ((offs (spot sp 1)).length * 3) := by rw [stsTo_succ, List.length_append, stsOf_len]; rw [show stsTo sp 0 = [] from rfl]; simp
  unfold sts
  rw [e, List.length_append]
  omega
theorem sts_pos {sp : List (Int × Int)} (hsp : SpotsOK sp) : 0 < (sts sp).length := by have := sts_two hsp; omega

theorem due {byv : AV} {pf : Int → Int → Int → Int → Int} (S : StepOK byv pf) (sp : List (Int × Int)) (hsp : SpotsOK sp) (a : AV) (turn : Int) (h : H) (wf : Wf h) (ht : TabF h) (hs : Sl h a 2 sp.length (spotCells sp)) :
    WV ((om Tryd.prog KK).call (.fn 39 [.agg [a, ii turn], byv]) h) fun v h' => ∃ (L : List AO) (k : Nat) (Tb : List Int), v = prv a turn (nx h k) (sp.length - 1) ∧ h' = X h L h.w ∧ L[k]? = some (.cells (mkCells (Tb.map ii)) 112) ∧ Tb.length = (sp.length - 1) * 75 ∧
      (∀ m, -1000000000000000 ≤ Tb.getD m 0 ∧ Tb.getD m 0 ≤ 1000000000000000) ∧ ∀ x : Stt, x.Ok sp → Tb.getD (x.ix sp) 0 = dueS pf sp x := by
  have n2 := hsp.n2
  have n24 := hsp.n24
  have hby := S.flat
  have ha1 : oneB a = true ∧ AV.cells a = [a] := by obtain ⟨_, ⟨rfl, _⟩ | ⟨_, _, _, _, _, _, rfl, _⟩⟩ := hs <;> exact ⟨rfl, rfl⟩
  refine WV_call (fn := Tryd.f39) Tryd.func39 rfl rfl rfl rfl rfl ?_
  simp only [argF]
  generalize ho0 : (AO.cells (mkCells [a, ii turn]) 64) = o0
  generalize ho1 : (AO.cells (mkCells [.nils, .int .i64 0, .nils]) 67) = o1
  obtain ⟨v, h', e1, M, rfl, rfl, hM⟩ := unpriced sp hsp a turn (X h [o0, o1] h.clock) (wf.X (by omega)) (ht.up wf _ _) (hs.up wf _ _)
  have hML := lt_of_get hM
  rw [X_X, nx_X, X_w] at e1
  simp only [List.length_cons, List.length_nil, Nat.reduceAdd, List.cons_append, List.nil_append] at e1
  subst ho0
  subst ho1
  unfold prv at e1
  have e2 := states a turn h wf (.cells (mkCells [a, ii turn]) 64 :: .cells (mkCells [.nils, .int .i64 0, .nils]) 67 :: (M ++ [.cells (mkCells [a, ii turn, .sl (nx h 6) 0 (sp.length - 1) (some (sp.length - 1)) 75]) 67])) h.clock (by omega)
  simp only [List.length_cons, List.length_append, List.length_nil, List.cons_append, List.append_assoc, List.nil_append, Nat.zero_add] at e2
  have hwl : h.clock ≤ h.clock + (.cells (mkCells [a, ii turn]) 64 :: .cells (mkCells [.nils, .int .i64 0, .nils]) 67 :: (M ++ [.cells (mkCells [a, ii turn, .sl (nx h 6) 0 (sp.length - 1) (some (sp.length - 1)) 75]) 67, .cells (mkCells [a, ii turn]) 64]) : List AO).length := by omega
  obtain ⟨M2, k2, e3, hk2⟩ := collect (ys := sts sp) (states1 (t := 71) (by decide) (nx h (M.length + 1 + 1 + 1)) a turn sp (by omega) hsp.ok) (by
      have hle := sts_len_le hsp; omega) (sts_pos hsp) (X h (.cells (mkCells [a, ii turn]) 64 :: .cells (mkCells [.nils, .int .i64 0, .nils]) 67 :: (M ++ [.cells (mkCells [a, ii turn, .sl (nx h 6) 0 (sp.length - 1) (some (sp.length - 1)) 75]) 67, .cells (mkCells [a, ii turn]) 64])) h.clock) (wf.X hwl) (fun L w hw => by
    rw [X_X]
    refine DrIn.of wf (k := M.length + 1 + 1 + 1) ?_ ?_ hs
    · simp only [X_clock, List.length_cons, List.length_append, List.length_nil] at hw ⊢; omega
    · simp only [List.cons_append, List.append_assoc, List.nil_append, List.getElem?_cons_succ, app_len, List.getElem?_cons_zero])
  rw [X_X, nx_X, X_w] at e3
  simp only [List.length_cons, List.length_append, List.length_nil, List.cons_append, List.append_assoc, List.nil_append, Nat.zero_add] at e3
  have hk2l := lt_of_get hk2
  have e4 := turned (sts sp) ⟨by have := sts_two hsp; omega, by have := sts_len_le hsp; omega⟩ h wf (.cells (mkCells [a, ii turn]) 64 :: .cells (mkCells [.nils, .int .i64 0, .nils]) 67 :: (M ++ .cells (mkCells [a, ii turn, .sl (nx h 6) 0 (sp.length - 1) (some (sp.length - 1)) 75]) 67 :: .cells (mkCells [a, ii turn]) 64 :: M2)) (M.length + 2 + 1 + 1 + k2) h.clock (by
    rw [show M.length + 2 + 1 + 1 + k2 = M.length + (k2 + 1 + 1) + 1 + 1 from by omega]
    simp only [List.getElem?_cons_succ, app_len, hk2]) (by omega)
  simp only [List.length_cons, List.length_append, List.length_nil, List.cons_append, List.append_assoc, List.nil_append, Nat.zero_add] at e4
  (repeat' (first
  | (with_reducible first | refine WC_seq ?_ | refine WC_skip ?_ | refine WC_label ?_ | refine WC_scope ?_ | refine WC_block ?_ | refine WC_ret ?_ | refine WC_exit ?_ | refine seqQ_norm ?_ | refine seqQ_ret ?_ | refine seqQ_exit ?_ | refine blkQ_norm ?_ | refine blkQ_ret ?_ | refine blkQ_here ?_ | refine gateK_yes ?_ | refine gateK_none ?_ | refine condK_tt ?_ | refine condK_ff ?_ | refine roundQ_exit ?_ | refine roundQ_ret ?_)
  | refine WC_region ?_ | refine blkQ_out rfl ?_ | refine WO_nil ?_ | refine WD_nil ?_
  | ((first | refine WD_gate rfl rfl rfl rfl rfl fun K_ hK_ => ?_ | refine WO_gate rfl rfl rfl rfl rfl fun K_ hK_ => ?_); simp only [upd_apply, asB_bool, asB_tup, ↓reduceIte, reduceCtorEq, Nat.reduceEqDiff, Bool.not_true, Bool.not_false]; refine hK_ _ ?_; clear hK_ K_)
  | refine gateK_no (by decide) ?_
  | ((try first | refine WO_op rfl rfl rfl ?_ | refine WO_op0 rfl rfl ?_ | refine WD_op rfl rfl rfl ?_ | refine WD_op0 rfl rfl ?_); (refine WV_gen fun Q_ hQ_ => ?_; simp (disch := first | omega | (simp only [List.length_cons, List.length_nil, List.length_append]; omega)) only [bb, bp, argF, ↓reduceIte, reduceCtorEq, Nat.reduceEqDiff, Nat.reduceLT, Nat.reduceLeDiff, Nat.reduceAdd, Nat.reduceMul, Nat.reduceSub, Nat.reduceBEq, Int.reduceToNat, cond_true, cond_false, eq_self, beq_self_eq_true, e1, e2, e3, e4, len_81, ha1.1, ha1.2, newPtr_X wf, load1_X wf, loadAgg_X wf, store1_X wf, writeCells_X wf, makeFunc_def, tEvT13, bsl_25, bsl_81, newSlice_X wf]; first | (refine dec_split (Q := Q_) (fun hp_ => ?_) (fun hp_ => ?_) <;> first | (exfalso; omega) | (refine hQ_ _ _ ?_; clear hQ_ Q_)) | (refine dec_splitn (Q := Q_) (fun hp_ => ?_) (fun hp_ => ?_) <;> first | (exfalso; omega) | (refine hQ_ _ _ ?_; clear hQ_ Q_)) | (refine hQ_ _ _ ?_; clear hQ_ Q_)))
  | (refine WC_cond fun K_ hK_ => ?_; simp (disch := omega) only [evT_tmp, upd_apply, WB_some, ↓reduceIte, reduceCtorEq, Nat.reduceEqDiff, Nat.reduceLT]; refine hK_ _ ?_; clear hK_ K_)))
  have hNb := sts_len_le hsp
  generalize hN : (sts sp).length = N at *
  have hNr : (sts sp).reverse.length = N := by rw [List.length_reverse, hN]
  refine WC_loop (fun (j : Nat) f d h' => j ≤ N ∧ f 1 = byv ∧ f 4 = .ptr (nx h 1) 0 ∧ f 5 = .ptr (nx h (M.length + 1 + 1)) 0 ∧ f 15 = .sl (nx h (M.length + (M2.length + 1 + 1) + 1 + 1)) 0 N none 4 ∧ f 16 = ii (N : Int) ∧ f 17 = ii (j : Int) ∧ d = [] ∧
    ∃ (L : List AO) (Tb : List Int) (w : Nat), h' = X h L w ∧ L[1]? = some (.cells (mkCells [.nils, .int .i64 0, .nils]) 67) ∧ L[6]? = some (.cells (mkCells (Tb.map ii)) 112) ∧ L[M.length + 1 + 1]? = some (.cells (mkCells [a, ii turn, .sl (nx h 6) 0 (sp.length - 1) (some (sp.length - 1)) 75]) 67) ∧ L[M.length + (M2.length + 1 + 1) + 1 + 1]? = some (.cells (mkCells (cellsL (sts sp).reverse)) 71) ∧ Tb.length = (sp.length - 1) * 75 ∧
      (∀ m, -1000000000000000 ≤ Tb.getD m 0 ∧ Tb.getD m 0 ≤ 1000000000000000) ∧ GoodT pf sp Tb j ∧ h.clock ≤ w ∧ w ≤ h.clock + L.length) (fun j => N - j) ?_ (N + 1) 0 (by omega) ?_
  · clear e1 e2 e3 e4 hM hwl hk2
    rintro j f d h' ⟨hj, g1, g4, g5, g15, g16, g17, rfl, L, Tb, w, rfl, hL1, hL6, hL5, hLt, hTl, hTb, hgd, hw1, hw2⟩
    by_cases hlt : j < N
    · obtain ⟨x, hx⟩ : ∃ x, (sts sp).reverse[j]? = some x := ⟨_, List.getElem?_eq_getElem (by omega)⟩
      have hok := rs_ok hx
      have hix := ix_81 (h := h) (k := M.length + (M2.length + 1 + 1) + 1 + 1) (c := none) hlt
      have hldx : ∀ (G : List AO) w, loadAgg (nx h (M.length + (M2.length + 1 + 1) + 1 + 1)) (j * 4) (some 4) (X h (L ++ G) w) = some (.agg (cellsS x)) := fun G w => by
        rw [loadAgg_X wf, List.getElem?_append_left (lt_of_get hLt), hLt, aggAt_cells (by decide), if_pos (by rw [cellsL_len, hNr]; omega)]
        unfold cellsL
        rw [flatMap_take (m := 4) _ (fun _ _ => rfl) j x hx]
      have hldx0 := fun w => hldx [] w
      simp only [List.append_nil] at hldx0
      have hld5 : ∀ (G : List AO) w, loadAgg (nx h (M.length + 1 + 1)) 0 (some 3) (X h (L ++ G) w) = some (.agg [a, ii turn, .sl (nx h 6) 0 (sp.length - 1) (some (sp.length - 1)) 75]) := fun G w => by
        rw [loadAgg_X wf, List.getElem?_append_left (lt_of_get hL5), hL5]
        rw [aggAt_cells (by decide)]; rfl
      have hon : ∀ (o : AO) w, w ≤ h.clock + (L.length + 1) → (om Tryd.prog KK).call (.fn 45 [prv a turn (nx h 6) (sp.length - 1), stv x, byv]) (X h (L ++ [o]) w) = .ok (.tup [ii (onwS pf sp x).1, ii (onwS pf sp x).2]) (X h (L ++ [o]) w) := fun o w hw =>
        onward S sp hsp a turn (nx h 6) Tb hTl hTb x hok (fun c hi h1 h2 => good_next hsp hgd hx c hi h1 h2) _ (wf.X (by simp only [List.length_append, List.length_cons, List.length_nil]; omega)) (hs.up wf _ _) (TabIn.of wf (by rw [List.getElem?_append_left (lt_of_get hL6)]; exact hL6))
      have hdx := dueS_in S hsp hok
      have hput : ∀ (o : AO) w, w ≤ h.clock + (L.length + 1) → ∃ b1 b2, (om Tryd.prog KK).call (.fn 66 [prv a turn (nx h 6) (sp.length - 1), stv x, ii (onwS pf sp x).2]) (X h (L ++ [o]) w) = .ok (.tup []) (X h (L.set 6 (.cells (mkCells ((Tb.set (x.ix sp) (dueS pf sp x)).map ii)) 112) ++ [o, b1, b2]) (min w (h.clock + 6))) := fun o w hw => by
        obtain ⟨b1, b2, e⟩ := put_ sp hsp a turn Tb hTl x hok (onwS pf sp x).2 h wf hs (L ++ [o]) 6 w (by rw [List.getElem?_append_left (lt_of_get hL6)]; exact hL6) (by simp only [List.length_append, List.length_cons, List.length_nil]; omega)
        refine ⟨b1, b2, ?_⟩
        rw [e, List.set_append_left _ _ (lt_of_get hL6), List.append_assoc]; rfl
      obtain ⟨b1, b2, hpt⟩ := hput (.cells (mkCells (cellsS x)) 71) w (by omega)
      unfold prv stv at hon hpt
      unfold cellsS at hldx hldx0 hpt
      have hmw : min (h.clock + L.length) w = w := by omega
      (repeat' (first
  | (with_reducible first | refine WC_seq ?_ | refine WC_skip ?_ | refine WC_label ?_ | refine WC_scope ?_ | refine WC_block ?_ | refine WC_ret ?_ | refine WC_exit ?_ | refine seqQ_norm ?_ | refine seqQ_ret ?_ | refine seqQ_exit ?_ | refine blkQ_norm ?_ | refine blkQ_ret ?_ | refine blkQ_here ?_ | refine gateK_yes ?_ | refine gateK_none ?_ | refine condK_tt ?_ | refine condK_ff ?_ | refine roundQ_exit ?_ | refine roundQ_ret ?_)
  | refine WC_region ?_ | refine blkQ_out rfl ?_ | refine WO_nil ?_ | refine WD_nil ?_
  | ((first | refine WD_gate rfl rfl rfl rfl rfl fun K_ hK_ => ?_ | refine WO_gate rfl rfl rfl rfl rfl fun K_ hK_ => ?_); simp only [upd_apply, asB_bool, asB_tup, ↓reduceIte, reduceCtorEq, Nat.reduceEqDiff, Bool.not_true, Bool.not_false]; refine hK_ _ ?_; clear hK_ K_)
  | refine gateK_no (by decide) ?_
  | ((try first | refine WO_op rfl rfl rfl ?_ | refine WO_op0 rfl rfl ?_ | refine WD_op rfl rfl rfl ?_ | refine WD_op0 rfl rfl ?_); (refine WV_gen fun Q_ hQ_ => ?_; simp (disch := first | omega | (simp only [List.length_cons, List.length_nil, List.length_append]; omega)) only [bb, bp, argF, ↓reduceIte, reduceCtorEq, Nat.reduceEqDiff, Nat.reduceLT, Nat.reduceLeDiff, Nat.reduceAdd, Nat.reduceMul, Nat.reduceSub, Nat.reduceBEq, Int.reduceToNat, cond_true, cond_false, eq_self, beq_self_eq_true, g1, g4, g5, g15, g16, g17, hix, hldx, hldx0, hld5, hon, hmw, hpt, newPtr_X wf, load1_X wf, loadAgg_X wf, store1_X wf, writeCells_X wf, makeFunc_def, tEvT13, bsl_25, bsl_81, newSlice_X wf]; first | (refine dec_split (Q := Q_) (fun hp_ => ?_) (fun hp_ => ?_) <;> first | (exfalso; omega) | (refine hQ_ _ _ ?_; clear hQ_ Q_)) | (refine dec_splitn (Q := Q_) (fun hp_ => ?_) (fun hp_ => ?_) <;> first | (exfalso; omega) | (refine hQ_ _ _ ?_; clear hQ_ Q_)) | (refine hQ_ _ _ ?_; clear hQ_ Q_)))
  | (refine WC_cond fun K_ hK_ => ?_; simp (disch := omega) only [evT_tmp, upd_apply, WB_some, ↓reduceIte, reduceCtorEq, Nat.reduceEqDiff, Nat.reduceLT]; refine hK_ _ ?_; clear hK_ K_)))
      refine roundQ_again (j + 1) (by omega) ⟨hlt, by simp only [upd_apply, ↓reduceIte, reduceCtorEq, Nat.reduceEqDiff]; exact g1, by simp only [upd_apply, ↓reduceIte, reduceCtorEq, Nat.reduceEqDiff]; exact g4, by simp only [upd_apply, ↓reduceIte, reduceCtorEq, Nat.reduceEqDiff]; exact g5, by simp only [upd_apply, ↓reduceIte, reduceCtorEq, Nat.reduceEqDiff]; exact g15, by simp only [upd_apply, ↓reduceIte, reduceCtorEq, Nat.reduceEqDiff]; exact g16, by simp only [upd_apply, ↓reduceIte, reduceCtorEq, Nat.reduceEqDiff]; rfl, rfl, _, Tb.set (x.ix sp) (dueS pf sp x), _, rfl, ?_, ?_, ?_, ?_, ?_, ?_, good_set hsp hTl hgd hx, by omega, by simp only [List.length_append, List.length_set, List.length_cons, List.length_nil]; omega⟩
      · rw [List.getElem?_append_left (by rw [List.length_set]; exact lt_of_get hL1), List.getElem?_set_ne (by decide), hL1]
      · rw [List.getElem?_append_left (by rw [List.length_set]; exact lt_of_get hL6), List.getElem?_set_self (lt_of_get hL6)]
      · rw [List.getElem?_append_left (by rw [List.length_set]; exact lt_of_get hL5), List.getElem?_set_ne (by omega), hL5]
      · rw [List.getElem?_append_left (by rw [List.length_set]; exact lt_of_get hLt), List.getElem?_set_ne (by omega), hLt]
      · rw [List.length_set, hTl]
      · exact bound_set hTb ⟨by omega, by omega⟩
    · have hje : j = N := by omega
      subst hje
      have hld5 : ∀ w, loadAgg (nx h (M.length + 1 + 1)) 0 (some 3) (X h L w) = some (.agg [a, ii turn, .sl (nx h 6) 0 (sp.length - 1) (some (sp.length - 1)) 75]) := fun w => by
        rw [loadAgg_X wf, hL5]
        rw [aggAt_cells (by decide)]; rfl
      have hst : ∀ w, writeCells (nx h 1) 0 [a, ii turn, .sl (nx h 6) 0 (sp.length - 1) (some (sp.length - 1)) 75] (X h L w) = some (X h (L.set 1 (.cells (mkCells [a, ii turn, .sl (nx h 6) 0 (sp.length - 1) (some (sp.length - 1)) 75]) 67)) (min (h.clock + 1) w)) := fun w => by
        rw [writeCells_X wf, hL1, writeAt_cells]
        simp only [allOne_cons, allOne_nil, ha1.1, oneB_int, oneB_sl]
        rfl
      (repeat' (first
  | (with_reducible first | refine WC_seq ?_ | refine WC_skip ?_ | refine WC_label ?_ | refine WC_scope ?_ | refine WC_block ?_ | refine WC_ret ?_ | refine WC_exit ?_ | refine seqQ_norm ?_ | refine seqQ_ret ?_ | refine seqQ_exit ?_ | refine blkQ_norm ?_ | refine blkQ_ret ?_ | refine blkQ_here ?_ | refine gateK_yes ?_ | refine gateK_none ?_ | refine condK_tt ?_ | refine condK_ff ?_ | refine roundQ_exit ?_ | refine roundQ_ret ?_)
  | refine WC_region ?_ | refine blkQ_out rfl ?_ | refine WO_nil ?_ | refine WD_nil ?_
  | ((first | refine WD_gate rfl rfl rfl rfl rfl fun K_ hK_ => ?_ | refine WO_gate rfl rfl rfl rfl rfl fun K_ hK_ => ?_); simp only [upd_apply, asB_bool, asB_tup, ↓reduceIte, reduceCtorEq, Nat.reduceEqDiff, Bool.not_true, Bool.not_false]; refine hK_ _ ?_; clear hK_ K_)
  | refine gateK_no (by decide) ?_
  | ((try first | refine WO_op rfl rfl rfl ?_ | refine WO_op0 rfl rfl ?_ | refine WD_op rfl rfl rfl ?_ | refine WD_op0 rfl rfl ?_); (refine WV_gen fun Q_ hQ_ => ?_; simp (disch := first | omega | (simp only [List.length_cons, List.length_nil, List.length_append]; omega)) only [bb, bp, argF, ↓reduceIte, reduceCtorEq, Nat.reduceEqDiff, Nat.reduceLT, Nat.reduceLeDiff, Nat.reduceAdd, Nat.reduceMul, Nat.reduceSub, Nat.reduceBEq, Int.reduceToNat, cond_true, cond_false, eq_self, beq_self_eq_true, g1, g4, g5, g15, g16, g17, hld5, hst, ha1.1, ha1.2, newPtr_X wf, tEvT13, bsl_25, bsl_81, newSlice_X wf]; first | (refine dec_split (Q := Q_) (fun hp_ => ?_) (fun hp_ => ?_) <;> first | (exfalso; omega) | (refine hQ_ _ _ ?_; clear hQ_ Q_)) | (refine dec_splitn (Q := Q_) (fun hp_ => ?_) (fun hp_ => ?_) <;> first | (exfalso; omega) | (refine hQ_ _ _ ?_; clear hQ_ Q_)) | (refine hQ_ _ _ ?_; clear hQ_ Q_)))
  | (refine WC_cond fun K_ hK_ => ?_; simp (disch := omega) only [evT_tmp, upd_apply, WB_some, ↓reduceIte, reduceCtorEq, Nat.reduceEqDiff, Nat.reduceLT]; refine hK_ _ ?_; clear hK_ K_)))
      have hld1 : ∀ w, loadAgg (nx h 1) 0 (some 3) (X h (L.set 1 (.cells (mkCells [a, ii turn, .sl (nx h 6) 0 (sp.length - 1) (some (sp.length - 1)) 75]) 67)) w) = some (.agg [a, ii turn, .sl (nx h 6) 0 (sp.length - 1) (some (sp.length - 1)) 75]) := fun w => by
        rw [loadAgg_X wf, List.getElem?_set_self (lt_of_get hL1)]
        rw [aggAt_cells (by decide)]; rfl
      refine endQ_ret _ _ rfl (retc0 (by decide) (by simp (disch := first | omega | (simp only [List.length_cons, List.length_nil, List.length_append]; omega)) only [bb, bp, argF, ↓reduceIte, reduceCtorEq, Nat.reduceEqDiff, Nat.reduceLT, Nat.reduceLeDiff, Nat.reduceAdd, Nat.reduceMul, Nat.reduceSub, Nat.reduceBEq, Int.reduceToNat, cond_true, cond_false, eq_self, beq_self_eq_true, g4, hld1, tEvT13, bsl_25, bsl_81, newSlice_X wf]; rfl)) ?_
      refine WV_ext (by
        show (_ && flat (prv a turn _ _)) = false
        rw [flat_prv hs]; exact Bool.and_false _) ?_
      have hmin : ∀ w', h.clock ≤ w' → min h.w w' = h.w := fun w' h' => by have := wf.wle; omega
      rw [hmin _ (by omega)]
      refine ⟨_, 6, Tb, rfl, rfl, ?_, hTl, hTb, fun x hx => ?_⟩
      · rw [List.getElem?_set_ne (by decide), hL6]
      · obtain ⟨i, hi⟩ := List.getElem?_of_mem (List.mem_reverse.2 (mem_sts.2 hx))
        exact hgd i x (by have := lt_of_get hi; omega) hi
  · have hFF : ∀ m, -1000000000000000 ≤ (List.replicate ((sp.length - 1) * 75) (1099511627776 : Int)).getD m 0 ∧ (List.replicate ((sp.length - 1) * 75) (1099511627776 : Int)).getD m 0 ≤ 1000000000000000 := fun m => by
      simp only [List.getD, List.getElem?_replicate]
      split <;> simp
    refine ⟨Nat.zero_le _, by simp only [upd_apply, ↓reduceIte, reduceCtorEq, Nat.reduceEqDiff], by simp only [upd_apply, ↓reduceIte, reduceCtorEq, Nat.reduceEqDiff], by simp only [upd_apply, ↓reduceIte, reduceCtorEq, Nat.reduceEqDiff], by simp only [upd_apply, ↓reduceIte, reduceCtorEq, Nat.reduceEqDiff], by simp only [upd_apply, ↓reduceIte, reduceCtorEq, Nat.reduceEqDiff], by simp only [upd_apply, ↓reduceIte, reduceCtorEq, Nat.reduceEqDiff]; rfl, rfl, _, List.replicate ((sp.length - 1) * 75) 1099511627776, _, rfl, rfl, ?_, ?_, ?_, by rw [List.length_replicate], hFF, fun i x hi => absurd hi (Nat.not_lt_zero _), Nat.le_refl _, by omega⟩
    · rw [List.map_replicate]
      simp only [List.getElem?_cons_succ]
      rw [List.getElem?_append_left hML, hM]
      rfl
    · simp only [List.getElem?_cons_succ, app_len0, List.getElem?_cons_zero]
    · simp only [List.getElem?_cons_succ, app_len, app_len0, List.getElem?_cons_zero]
end Go.Proofs.YtkmdidplmfdikaaDoor
end

/- EvT14 -/
section
/-
  LAYER 1: the state with which the fairest line begins.
-/
namespace Go.Proofs.YtkmdidplmfdikaaDoor
open Go.Ev
set_option maxRecDepth 100000
set_option linter.unusedSimpArgs false
set_option linter.unusedVariables false
set_option maxHeartbeats 2000000

theorem tEvT14 : type_of% (And.intro (And.intro (And.intro (And.intro (And.intro (@bs_71) (And.intro (@ia_2) (@sz_2))) (And.intro (And.intro (@ze_2) (@ia_3)) (And.intro (@sz_3) (@ia_27)))) (And.intro (And.intro (@ia_51) (And.intro (@sz_51) (@ze_51))) (And.intro (And.intro (@ia_71) (@sz_71)) (And.intro (@ze_71) (@ia_64))))) (And.intro (And.intro (And.intro (@sz_64) (And.intro (@ia_24) (@sz_24))) (And.intro (And.intro (@ia_22) (@sz_22)) (And.intro (@ia_25) (@ia_65)))) (And.intro (And.intro (@ia_81) (And.intro (@sz_81) (@ia_67))) (And.intro (And.intro (@sz_67) (@ia_103)) (And.intro (@sz_103) (@ia_101)))))) (And.intro (And.intro (And.intro (And.intro (@sz_101) (And.intro (@ia_4) (@sz_4))) (And.intro (And.intro (@ze_4) (@fo_67_0)) (And.intro (@fo_67_1) (@fo_71_0)))) (And.intro (And.intro (@fo_71_1) (And.intro (@fo_71_2) (@fo_71_3))) (And.intro (And.intro (@fo_51_0) (@fo_51_1)) (And.intro (@fo_64_0) (@fo_24_0))))) (And.intro (And.intro (And.intro (@fo_24_1) (And.intro (@ze_51) (@ia_107))) (And.intro (And.intro (@sz_107) (@pb_60)) (And.intro (@pb_61) (@pb_40)))) (And.intro (And.intro (@pb_36) (And.intro (@pb_43) (@pb_66))) (And.intro (And.intro (@pb_71) (@ia_77)) (And.intro (@sz_77) (@ni_81))))))) := And.intro (And.intro (And.intro (And.intro (And.intro (@bs_71) (And.intro (@ia_2) (@sz_2))) (And.intro (And.intro (@ze_2) (@ia_3)) (And.intro (@sz_3) (@ia_27)))) (And.intro (And.intro (@ia_51) (And.intro (@sz_51) (@ze_51))) (And.intro (And.intro (@ia_71) (@sz_71)) (And.intro (@ze_71) (@ia_64))))) (And.intro (And.intro (And.intro (@sz_64) (And.intro (@ia_24) (@sz_24))) (And.intro (And.intro (@ia_22) (@sz_22)) (And.intro (@ia_25) (@ia_65)))) (And.intro (And.intro (@ia_81) (And.intro (@sz_81) (@ia_67))) (And.intro (And.intro (@sz_67) (@ia_103)) (And.intro (@sz_103) (@ia_101)))))) (And.intro (And.intro (And.intro (And.intro (@sz_101) (And.intro (@ia_4) (@sz_4))) (And.intro (And.intro (@ze_4) (@fo_67_0)) (And.intro (@fo_67_1) (@fo_71_0)))) (And.intro (And.intro (@fo_71_1) (And.intro (@fo_71_2) (@fo_71_3))) (And.intro (And.intro (@fo_51_0) (@fo_51_1)) (And.intro (@fo_64_0) (@fo_24_0))))) (And.intro (And.intro (And.intro (@fo_24_1) (And.intro (@ze_51) (@ia_107))) (And.intro (And.intro (@sz_107) (@pb_60)) (And.intro (@pb_61) (@pb_40)))) (And.intro (And.intro (@pb_36) (And.intro (@pb_43) (@pb_66))) (And.intro (And.intro (@pb_71) (@ia_77)) (And.intro (@sz_77) (@ni_81))))))
def bestC (o : Option (Stt × Int)) : List AV := match o with | none => [.int .i64 0, .int .i64 0, .int .i64 0, .int .i64 0] | some p => cellsS p.1
def lowC (o : Option (Stt × Int)) : Int := match o with | none => 0 | some p => p.2
theorem leastSt {B : H → Prop} {fv cv : AV} {ys : List Stt} {f : Stt → Int} (hd : HandsC Tryd.prog KK B fv (ys.map fun y => [stv y])) (hcv : AV.cells cv = [cv] ∧ oneB cv = true) (hN0 : 0 < ys.length) (h : H) (wf : Wf h) (hB : ∀ L w, w ≤ h.clock + L.length → B (X h L w))
    (hcost : ∀ y ∈ ys, ∀ L w, w ≤ h.clock + L.length → callV Tryd.prog (om Tryd.prog KK) cv [stv y] (X h L w) = .ok (ii (f y)) (X h L w)) (p : Stt × Int) (hp : bst f ys = some p) :
    (om Tryd.prog KK).call (.fn 41 [fv, cv]) h = .ok (.tup [stv p.1, ii p.2]) h := by
  refine WV_to (WV_call (fn := Tryd.f41) Tryd.func41 rfl rfl rfl rfl rfl ?_)
  simp only [argF]
  (repeat' (first
  | (with_reducible first | refine WC_seq ?_ | refine WC_skip ?_ | refine WC_label ?_ | refine WC_scope ?_ | refine WC_block ?_ | refine WC_ret ?_ | refine WC_exit ?_ | refine seqQ_norm ?_ | refine seqQ_ret ?_ | refine seqQ_exit ?_ | refine blkQ_norm ?_ | refine blkQ_ret ?_ | refine blkQ_here ?_ | refine gateK_yes ?_ | refine gateK_none ?_ | refine condK_tt ?_ | refine condK_ff ?_ | refine roundQ_exit ?_ | refine roundQ_ret ?_)
  | refine WC_region ?_ | refine blkQ_out rfl ?_ | refine WO_nil ?_ | refine WD_nil ?_
  | ((first | refine WD_gate rfl rfl rfl rfl rfl fun K_ hK_ => ?_ | refine WO_gate rfl rfl rfl rfl rfl fun K_ hK_ => ?_); simp only [upd_apply, asB_bool, asB_tup, ↓reduceIte, reduceCtorEq, Nat.reduceEqDiff, Bool.not_true, Bool.not_false]; refine hK_ _ ?_; clear hK_ K_)
  | refine gateK_no (by decide) ?_
  | ((try first | refine WO_op rfl rfl rfl ?_ | refine WO_op0 rfl rfl ?_ | refine WD_op rfl rfl rfl ?_ | refine WD_op0 rfl rfl ?_); (refine WV_gen fun Q_ hQ_ => ?_; simp (disch := first | omega | (simp only [List.length_cons, List.length_nil, List.length_append]; omega)) only [bb, bp, argF, ↓reduceIte, reduceCtorEq, Nat.reduceEqDiff, Nat.reduceLT, Nat.reduceLeDiff, Nat.reduceAdd, Nat.reduceMul, Nat.reduceSub, Nat.reduceBEq, Int.reduceToNat, cond_true, cond_false, eq_self, beq_self_eq_true, hcv.1, hcv.2, newPtr_X wf, load1_X wf, loadAgg_X wf, store1_X wf, writeCells_X wf, makeFunc_def, tEvT14, bsl_25, bsl_81, newSlice_X wf]; first | (refine dec_split (Q := Q_) (fun hp_ => ?_) (fun hp_ => ?_) <;> first | (exfalso; omega) | (refine hQ_ _ _ ?_; clear hQ_ Q_)) | (refine dec_splitn (Q := Q_) (fun hp_ => ?_) (fun hp_ => ?_) <;> first | (exfalso; omega) | (refine hQ_ _ _ ?_; clear hQ_ Q_)) | (refine hQ_ _ _ ?_; clear hQ_ Q_)))
  | (refine WC_cond fun K_ hK_ => ?_; simp (disch := omega) only [evT_tmp, upd_apply, WB_some, ↓reduceIte, reduceCtorEq, Nat.reduceEqDiff, Nat.reduceLT]; refine hK_ _ ?_; clear hK_ K_)))
  refine WC_rangeX wf rfl (evT_tmp (by decide)) fun o ho => ?_
  simp only [upd_apply, ↓reduceIte, reduceCtorEq, Nat.reduceEqDiff, List.length_cons, List.length_nil, List.append_assoc, List.cons_append, List.nil_append, Nat.reduceAdd, List.length_append] at ho ⊢
  refine WV.mono (hd (nx h 6) _ (fun k hx => ∃ w0 st, bst f (ys.take k) = st ∧ hx = X h [.cells (mkCells [cv]) 77, .cells (mkCells [.int .i64 0, .int .i64 0, .int .i64 0, .int .i64 0]) 71, .cells (mkCells (bestC st)) 71, .cells (mkCells [ii (lowC st)]) 2, .cells (mkCells [.bool (st).isSome]) 4, .dfr, o] w0 ∧ w0 ≤ h.clock + 7) (fun _ => False) h.clock (fun _ => h.clock + 7) (h.clock + 7) (Nat.le_refl _) (Nat.le_add_right _ _) (fun _ => Nat.le_refl _) (Nat.le_refl _) ?_ (fun _ h => h.elim) ?_ ⟨h.clock, none, rfl, rfl, by omega⟩) ?_
  · rintro k hx ⟨w0, st, hst, rfl, hw0⟩
    exact ⟨hB _ _ hw0, Same.X rfl⟩
  · rintro k x hx hbx J w ⟨w0, st, hst, rfl, hw0⟩ hlo hw
    rw [List.getElem?_map] at hx
    obtain ⟨y, hy1, rfl⟩ := Option.map_eq_some_iff.1 hx
    have hk := lt_of_get hy1
    have hyk : ys[k] = y := by rw [List.getElem?_eq_getElem hk] at hy1; exact Option.some.inj hy1
    have hc := hcost y (by rw [← hyk]; exact List.getElem_mem hk)
    have hnew := bst_take f ys k hk
    rw [hst, hyk] at hnew
    have hw' : w ≤ h.clock + 7 + J.length := hw
    rw [X_X]
    simp only [List.cons_append, List.nil_append]
    refine WV_yldX wf (k := 6) rfl ho (setParams1 rfl) ?_
    unfold stv at hc ⊢
    (repeat' (first
  | (with_reducible first | refine WC_seq ?_ | refine WC_skip ?_ | refine WC_label ?_ | refine WC_scope ?_ | refine WC_block ?_ | refine WC_ret ?_ | refine WC_exit ?_ | refine seqQ_norm ?_ | refine seqQ_ret ?_ | refine seqQ_exit ?_ | refine blkQ_norm ?_ | refine blkQ_ret ?_ | refine blkQ_here ?_ | refine gateK_yes ?_ | refine gateK_none ?_ | refine condK_tt ?_ | refine condK_ff ?_ | refine roundQ_exit ?_ | refine roundQ_ret ?_)
  | refine WC_region ?_ | refine blkQ_out rfl ?_ | refine WO_nil ?_ | refine WD_nil ?_
  | ((first | refine WD_gate rfl rfl rfl rfl rfl fun K_ hK_ => ?_ | refine WO_gate rfl rfl rfl rfl rfl fun K_ hK_ => ?_); simp only [upd_apply, asB_bool, asB_tup, ↓reduceIte, reduceCtorEq, Nat.reduceEqDiff, Bool.not_true, Bool.not_false]; refine hK_ _ ?_; clear hK_ K_)
  | refine gateK_no (by decide) ?_
  | ((try first | refine WO_op rfl rfl rfl ?_ | refine WO_op0 rfl rfl ?_ | refine WD_op rfl rfl rfl ?_ | refine WD_op0 rfl rfl ?_); (refine WV_gen fun Q_ hQ_ => ?_; simp (disch := first | omega | (simp only [List.length_cons, List.length_nil, List.length_append]; omega)) only [bb, bp, argF, ↓reduceIte, reduceCtorEq, Nat.reduceEqDiff, Nat.reduceLT, Nat.reduceLeDiff, Nat.reduceAdd, Nat.reduceMul, Nat.reduceSub, Nat.reduceBEq, Int.reduceToNat, cond_true, cond_false, eq_self, beq_self_eq_true, newPtr_X wf, load1_X wf, loadAgg_X wf, store1_X wf, writeCells_X wf, makeFunc_def, tEvT14, bsl_25, bsl_81, newSlice_X wf]; first | (refine dec_split (Q := Q_) (fun hp_ => ?_) (fun hp_ => ?_) <;> first | (exfalso; omega) | (refine hQ_ _ _ ?_; clear hQ_ Q_)) | (refine dec_splitn (Q := Q_) (fun hp_ => ?_) (fun hp_ => ?_) <;> first | (exfalso; omega) | (refine hQ_ _ _ ?_; clear hQ_ Q_)) | (refine hQ_ _ _ ?_; clear hQ_ Q_)))
  | (refine WC_cond fun K_ hK_ => ?_; simp (disch := omega) only [evT_tmp, upd_apply, WB_some, ↓reduceIte, reduceCtorEq, Nat.reduceEqDiff, Nat.reduceLT]; refine hK_ _ ?_; clear hK_ K_)))
    refine yldA_X wf (k := 6) rfl ho fun o' ho' => ?_
    simp only [List.set_cons_succ, List.set_cons_zero]
    match st, hst, hnew with
    | none, hst, hnew =>
      have hnew : bst f (ys.take (k + 1)) = some (y, f y) := hnew
      simp only [bestC, lowC, Option.isSome]
      (repeat' (first
  | (with_reducible first | refine WC_seq ?_ | refine WC_skip ?_ | refine WC_label ?_ | refine WC_scope ?_ | refine WC_block ?_ | refine WC_ret ?_ | refine WC_exit ?_ | refine seqQ_norm ?_ | refine seqQ_ret ?_ | refine seqQ_exit ?_ | refine blkQ_norm ?_ | refine blkQ_ret ?_ | refine blkQ_here ?_ | refine gateK_yes ?_ | refine gateK_none ?_ | refine condK_tt ?_ | refine condK_ff ?_ | refine roundQ_exit ?_ | refine roundQ_ret ?_)
  | refine WC_region ?_ | refine blkQ_out rfl ?_ | refine WO_nil ?_ | refine WD_nil ?_
  | ((first | refine WD_gate rfl rfl rfl rfl rfl fun K_ hK_ => ?_ | refine WO_gate rfl rfl rfl rfl rfl fun K_ hK_ => ?_); simp only [upd_apply, asB_bool, asB_tup, ↓reduceIte, reduceCtorEq, Nat.reduceEqDiff, Bool.not_true, Bool.not_false]; refine hK_ _ ?_; clear hK_ K_)
  | refine gateK_no (by decide) ?_
  | ((try first | refine WO_op rfl rfl rfl ?_ | refine WO_op0 rfl rfl ?_ | refine WD_op rfl rfl rfl ?_ | refine WD_op0 rfl rfl ?_); (refine WV_gen fun Q_ hQ_ => ?_; simp (disch := first | omega | (simp only [List.length_cons, List.length_nil, List.length_append]; omega)) only [bb, bp, argF, ↓reduceIte, reduceCtorEq, Nat.reduceEqDiff, Nat.reduceLT, Nat.reduceLeDiff, Nat.reduceAdd, Nat.reduceMul, Nat.reduceSub, Nat.reduceBEq, Int.reduceToNat, cond_true, cond_false, eq_self, beq_self_eq_true, hc, newPtr_X wf, load1_X wf, loadAgg_X wf, store1_X wf, writeCells_X wf, makeFunc_def, tEvT14, bsl_25, bsl_81, newSlice_X wf]; first | (refine dec_split (Q := Q_) (fun hp_ => ?_) (fun hp_ => ?_) <;> first | (exfalso; omega) | (refine hQ_ _ _ ?_; clear hQ_ Q_)) | (refine dec_splitn (Q := Q_) (fun hp_ => ?_) (fun hp_ => ?_) <;> first | (exfalso; omega) | (refine hQ_ _ _ ?_; clear hQ_ Q_)) | (refine hQ_ _ _ ?_; clear hQ_ Q_)))
  | (refine WC_cond fun K_ hK_ => ?_; simp (disch := omega) only [evT_tmp, upd_apply, WB_some, ↓reduceIte, reduceCtorEq, Nat.reduceEqDiff, Nat.reduceLT]; refine hK_ _ ?_; clear hK_ K_)))
      refine yldB_X wf (k := 6) rfl ho' ?_
      simp only [List.set_cons_succ, List.set_cons_zero]
      rw [← ho]
      exact ⟨X h [.cells (mkCells [cv]) 77, .cells (mkCells [.int .i64 0, .int .i64 0, .int .i64 0, .int .i64 0]) 71, .cells (mkCells (bestC (some (y, f y)))) 71, .cells (mkCells [ii (lowC (some (y, f y)))]) 2, .cells (mkCells [.bool ((some (y, f y))).isSome]) 4, .dfr, o] h.clock, [.cells (mkCells [ii (y.i : Int), ii y.a, ii y.b, ii (y.s : Int)]) 71], _, by rw [X_X]; rfl, Same.X rfl, by omega, by omega, .inl ⟨rfl, by omega, h.clock, (some (y, f y)), hnew, rfl, by omega⟩⟩
    | some (b, m), hst, hnew =>
      have hnew : bst f (ys.take (k + 1)) = (if f y < m then some (y, f y) else some (b, m)) := hnew
      simp only [bestC, lowC, Option.isSome, cellsS]
      (repeat' (first
  | (with_reducible first | refine WC_seq ?_ | refine WC_skip ?_ | refine WC_label ?_ | refine WC_scope ?_ | refine WC_block ?_ | refine WC_ret ?_ | refine WC_exit ?_ | refine seqQ_norm ?_ | refine seqQ_ret ?_ | refine seqQ_exit ?_ | refine blkQ_norm ?_ | refine blkQ_ret ?_ | refine blkQ_here ?_ | refine gateK_yes ?_ | refine gateK_none ?_ | refine condK_tt ?_ | refine condK_ff ?_ | refine roundQ_exit ?_ | refine roundQ_ret ?_)
  | refine WC_region ?_ | refine blkQ_out rfl ?_ | refine WO_nil ?_ | refine WD_nil ?_
  | ((first | refine WD_gate rfl rfl rfl rfl rfl fun K_ hK_ => ?_ | refine WO_gate rfl rfl rfl rfl rfl fun K_ hK_ => ?_); simp only [upd_apply, asB_bool, asB_tup, ↓reduceIte, reduceCtorEq, Nat.reduceEqDiff, Bool.not_true, Bool.not_false]; refine hK_ _ ?_; clear hK_ K_)
  | refine gateK_no (by decide) ?_
  | ((try first | refine WO_op rfl rfl rfl ?_ | refine WO_op0 rfl rfl ?_ | refine WD_op rfl rfl rfl ?_ | refine WD_op0 rfl rfl ?_); (refine WV_gen fun Q_ hQ_ => ?_; simp (disch := first | omega | (simp only [List.length_cons, List.length_nil, List.length_append]; omega)) only [bb, bp, argF, ↓reduceIte, reduceCtorEq, Nat.reduceEqDiff, Nat.reduceLT, Nat.reduceLeDiff, Nat.reduceAdd, Nat.reduceMul, Nat.reduceSub, Nat.reduceBEq, Int.reduceToNat, cond_true, cond_false, eq_self, beq_self_eq_true, hc, newPtr_X wf, load1_X wf, loadAgg_X wf, store1_X wf, writeCells_X wf, makeFunc_def, tEvT14, bsl_25, bsl_81, newSlice_X wf]; first | (refine dec_split (Q := Q_) (fun hp_ => ?_) (fun hp_ => ?_) <;> first | (exfalso; omega) | (refine hQ_ _ _ ?_; clear hQ_ Q_)) | (refine dec_splitn (Q := Q_) (fun hp_ => ?_) (fun hp_ => ?_) <;> first | (exfalso; omega) | (refine hQ_ _ _ ?_; clear hQ_ Q_)) | (refine hQ_ _ _ ?_; clear hQ_ Q_)))
  | (refine WC_cond fun K_ hK_ => ?_; simp (disch := omega) only [evT_tmp, upd_apply, WB_some, ↓reduceIte, reduceCtorEq, Nat.reduceEqDiff, Nat.reduceLT]; refine hK_ _ ?_; clear hK_ K_)))
      · have hlt : f y < m := by omega
        rw [if_pos hlt] at hnew
        refine yldB_X wf (k := 6) rfl ho' ?_
        simp only [List.set_cons_succ, List.set_cons_zero]
        rw [← ho]
        exact ⟨X h [.cells (mkCells [cv]) 77, .cells (mkCells [.int .i64 0, .int .i64 0, .int .i64 0, .int .i64 0]) 71, .cells (mkCells (bestC (some (y, f y)))) 71, .cells (mkCells [ii (lowC (some (y, f y)))]) 2, .cells (mkCells [.bool ((some (y, f y))).isSome]) 4, .dfr, o] h.clock, [.cells (mkCells [ii (y.i : Int), ii y.a, ii y.b, ii (y.s : Int)]) 71], _, by rw [X_X]; rfl, Same.X rfl, by omega, by omega, .inl ⟨rfl, by omega, h.clock, (some (y, f y)), hnew, rfl, by omega⟩⟩
      · have hlt : ¬ f y < m := by omega
        rw [if_neg hlt] at hnew
        refine yldB_X wf (k := 6) rfl ho' ?_
        simp only [List.set_cons_succ, List.set_cons_zero]
        rw [← ho]
        exact ⟨X h [.cells (mkCells [cv]) 77, .cells (mkCells [.int .i64 0, .int .i64 0, .int .i64 0, .int .i64 0]) 71, .cells (mkCells (bestC (some (b, m)))) 71, .cells (mkCells [ii (lowC (some (b, m)))]) 2, .cells (mkCells [.bool ((some (b, m))).isSome]) 4, .dfr, o] h.clock, [.cells (mkCells [ii (y.i : Int), ii y.a, ii y.b, ii (y.s : Int)]) 71], _, by rw [X_X]; rfl, Same.X rfl, by omega, by omega, .inl ⟨rfl, by omega, h.clock, (some (b, m)), hnew, rfl, by omega⟩⟩
  · rintro v h' ⟨hz, J3, w3, rfl, hsz, hlo3, hw3, ⟨⟨w2, st, hst, rfl, hw2⟩, hc3⟩ | ⟨hF, _⟩⟩
    · rw [List.length_map, List.take_length, hp] at hst
      subst hst
      have hw3' : w3 ≤ h.clock + 7 := by simp only [X_w] at hw3; omega
      rw [X_X]
      simp only [List.cons_append, List.nil_append]
      refine rangeQ_X wf (k := 6) rfl ho (by decide) fun o6 ho6 => ?_
      simp only [List.set_cons_succ, List.set_cons_zero, bestC, lowC, Option.isSome, cellsS]
      (repeat' (first
  | (with_reducible first | refine WC_seq ?_ | refine WC_skip ?_ | refine WC_label ?_ | refine WC_scope ?_ | refine WC_block ?_ | refine WC_ret ?_ | refine WC_exit ?_ | refine seqQ_norm ?_ | refine seqQ_ret ?_ | refine seqQ_exit ?_ | refine blkQ_norm ?_ | refine blkQ_ret ?_ | refine blkQ_here ?_ | refine gateK_yes ?_ | refine gateK_none ?_ | refine condK_tt ?_ | refine condK_ff ?_ | refine roundQ_exit ?_ | refine roundQ_ret ?_)
  | refine WC_region ?_ | refine blkQ_out rfl ?_ | refine WO_nil ?_ | refine WD_nil ?_
  | ((first | refine WD_gate rfl rfl rfl rfl rfl fun K_ hK_ => ?_ | refine WO_gate rfl rfl rfl rfl rfl fun K_ hK_ => ?_); simp only [upd_apply, asB_bool, asB_tup, ↓reduceIte, reduceCtorEq, Nat.reduceEqDiff, Bool.not_true, Bool.not_false]; refine hK_ _ ?_; clear hK_ K_)
  | refine gateK_no (by decide) ?_
  | ((try first | refine WO_op rfl rfl rfl ?_ | refine WO_op0 rfl rfl ?_ | refine WD_op rfl rfl rfl ?_ | refine WD_op0 rfl rfl ?_); (refine WV_gen fun Q_ hQ_ => ?_; simp (disch := first | omega | (simp only [List.length_cons, List.length_nil, List.length_append]; omega)) only [bb, bp, argF, ↓reduceIte, reduceCtorEq, Nat.reduceEqDiff, Nat.reduceLT, Nat.reduceLeDiff, Nat.reduceAdd, Nat.reduceMul, Nat.reduceSub, Nat.reduceBEq, Int.reduceToNat, cond_true, cond_false, eq_self, beq_self_eq_true, newPtr_X wf, load1_X wf, loadAgg_X wf, store1_X wf, writeCells_X wf, makeFunc_def, tEvT14, bsl_25, bsl_81, newSlice_X wf]; first | (refine dec_split (Q := Q_) (fun hp_ => ?_) (fun hp_ => ?_) <;> first | (exfalso; omega) | (refine hQ_ _ _ ?_; clear hQ_ Q_)) | (refine dec_splitn (Q := Q_) (fun hp_ => ?_) (fun hp_ => ?_) <;> first | (exfalso; omega) | (refine hQ_ _ _ ?_; clear hQ_ Q_)) | (refine hQ_ _ _ ?_; clear hQ_ Q_)))
  | (refine WC_cond fun K_ hK_ => ?_; simp (disch := omega) only [evT_tmp, upd_apply, WB_some, ↓reduceIte, reduceCtorEq, Nat.reduceEqDiff, Nat.reduceLT]; refine hK_ _ ?_; clear hK_ K_)))
      refine WC_drawnB [.no, .no, .soft [7], .full] (by kernel_rfl) ?_
      (repeat' (first
  | (with_reducible first | refine WC_seq ?_ | refine WC_skip ?_ | refine WC_label ?_ | refine WC_scope ?_ | refine WC_block ?_ | refine WC_ret ?_ | refine WC_exit ?_ | refine seqQ_norm ?_ | refine seqQ_ret ?_ | refine seqQ_exit ?_ | refine blkQ_norm ?_ | refine blkQ_ret ?_ | refine blkQ_here ?_ | refine gateK_yes ?_ | refine gateK_none ?_ | refine condK_tt ?_ | refine condK_ff ?_ | refine roundQ_exit ?_ | refine roundQ_ret ?_)
  | refine WC_region ?_ | refine blkQ_out rfl ?_ | refine WO_nil ?_ | refine WD_nil ?_
  | ((first | refine WD_gate rfl rfl rfl rfl rfl fun K_ hK_ => ?_ | refine WO_gate rfl rfl rfl rfl rfl fun K_ hK_ => ?_); simp only [upd_apply, asB_bool, asB_tup, ↓reduceIte, reduceCtorEq, Nat.reduceEqDiff, Bool.not_true, Bool.not_false]; refine hK_ _ ?_; clear hK_ K_)
  | refine gateK_no (by decide) ?_
  | ((try first | refine WO_op rfl rfl rfl ?_ | refine WO_op0 rfl rfl ?_ | refine WD_op rfl rfl rfl ?_ | refine WD_op0 rfl rfl ?_); (refine WV_gen fun Q_ hQ_ => ?_; simp (disch := first | omega | (simp only [List.length_cons, List.length_nil, List.length_append]; omega)) only [bb, bp, argF, ↓reduceIte, reduceCtorEq, Nat.reduceEqDiff, Nat.reduceLT, Nat.reduceLeDiff, Nat.reduceAdd, Nat.reduceMul, Nat.reduceSub, Nat.reduceBEq, Int.reduceToNat, cond_true, cond_false, eq_self, beq_self_eq_true, newPtr_X wf, load1_X wf, loadAgg_X wf, store1_X wf, writeCells_X wf, makeFunc_def, tEvT14, bsl_25, bsl_81, newSlice_X wf]; first | (refine dec_split (Q := Q_) (fun hp_ => ?_) (fun hp_ => ?_) <;> first | (exfalso; omega) | (refine hQ_ _ _ ?_; clear hQ_ Q_)) | (refine dec_splitn (Q := Q_) (fun hp_ => ?_) (fun hp_ => ?_) <;> first | (exfalso; omega) | (refine hQ_ _ _ ?_; clear hQ_ Q_)) | (refine hQ_ _ _ ?_; clear hQ_ Q_)))
  | (refine WC_cond fun K_ hK_ => ?_; simp (disch := omega) only [evT_tmp, upd_apply, WB_some, ↓reduceIte, reduceCtorEq, Nat.reduceEqDiff, Nat.reduceLT]; refine hK_ _ ?_; clear hK_ K_)))
      refine WD_op0 rfl rfl (WV_soft (v := .tup []) (by
        rw [x_store, evT_tmp (by decide), on1_ok, evT_tmp (by decide), on1_ok]
        simp only [upd_apply, ↓reduceIte, reduceCtorEq, Nat.reduceEqDiff]
        rw [marked_X, storeE_whole (old := [.int .i64 0, .int .i64 0, .int .i64 0, .int .i64 0]) (ee := 71) wf sz_71 (by decide) rfl rfl rfl rfl]
        rfl) (barOk_store1 (by simp only [upd_apply, ↓reduceIte, reduceCtorEq, Nat.reduceEqDiff]; rfl) (by simp only [upd_apply, ↓reduceIte, reduceCtorEq, Nat.reduceEqDiff]; rfl) (nx_ne (by decide)) (by decide) (by decide)) ?_)
      (repeat' (first
  | (with_reducible first | refine WC_seq ?_ | refine WC_skip ?_ | refine WC_label ?_ | refine WC_scope ?_ | refine WC_block ?_ | refine WC_ret ?_ | refine WC_exit ?_ | refine seqQ_norm ?_ | refine seqQ_ret ?_ | refine seqQ_exit ?_ | refine blkQ_norm ?_ | refine blkQ_ret ?_ | refine blkQ_here ?_ | refine gateK_yes ?_ | refine gateK_none ?_ | refine condK_tt ?_ | refine condK_ff ?_ | refine roundQ_exit ?_ | refine roundQ_ret ?_)
  | refine WC_region ?_ | refine blkQ_out rfl ?_ | refine WO_nil ?_ | refine WD_nil ?_
  | ((first | refine WD_gate rfl rfl rfl rfl rfl fun K_ hK_ => ?_ | refine WO_gate rfl rfl rfl rfl rfl fun K_ hK_ => ?_); simp only [upd_apply, asB_bool, asB_tup, ↓reduceIte, reduceCtorEq, Nat.reduceEqDiff, Bool.not_true, Bool.not_false]; refine hK_ _ ?_; clear hK_ K_)
  | refine gateK_no (by decide) ?_
  | ((try first | refine WO_op rfl rfl rfl ?_ | refine WO_op0 rfl rfl ?_ | refine WD_op rfl rfl rfl ?_ | refine WD_op0 rfl rfl ?_); (refine WV_gen fun Q_ hQ_ => ?_; simp (disch := first | omega | (simp only [List.length_cons, List.length_nil, List.length_append]; omega)) only [bb, bp, argF, ↓reduceIte, reduceCtorEq, Nat.reduceEqDiff, Nat.reduceLT, Nat.reduceLeDiff, Nat.reduceAdd, Nat.reduceMul, Nat.reduceSub, Nat.reduceBEq, Int.reduceToNat, cond_true, cond_false, eq_self, beq_self_eq_true, newPtr_X wf, load1_X wf, loadAgg_X wf, store1_X wf, writeCells_X wf, makeFunc_def, tEvT14, bsl_25, bsl_81, newSlice_X wf]; first | (refine dec_split (Q := Q_) (fun hp_ => ?_) (fun hp_ => ?_) <;> first | (exfalso; omega) | (refine hQ_ _ _ ?_; clear hQ_ Q_)) | (refine dec_splitn (Q := Q_) (fun hp_ => ?_) (fun hp_ => ?_) <;> first | (exfalso; omega) | (refine hQ_ _ _ ?_; clear hQ_ Q_)) | (refine hQ_ _ _ ?_; clear hQ_ Q_)))
  | (refine WC_cond fun K_ hK_ => ?_; simp (disch := omega) only [evT_tmp, upd_apply, WB_some, ↓reduceIte, reduceCtorEq, Nat.reduceEqDiff, Nat.reduceLT]; refine hK_ _ ?_; clear hK_ K_)))
      refine endQ_ret _ _ (takeAll_X wf (k := 5) rfl) (retc1 (by decide) (by decide) (by simp (disch := first | omega | (simp only [List.length_cons, List.length_nil, List.length_append]; omega)) only [bb, bp, argF, ↓reduceIte, reduceCtorEq, Nat.reduceEqDiff, Nat.reduceLT, Nat.reduceLeDiff, Nat.reduceAdd, Nat.reduceMul, Nat.reduceSub, Nat.reduceBEq, Int.reduceToNat, cond_true, cond_false, eq_self, beq_self_eq_true, loadAgg_X wf, tEvT14, bsl_25, bsl_81, newSlice_X wf]; rfl)) ?_
      simp only [upd_apply, ↓reduceIte, reduceCtorEq, Nat.reduceEqDiff]
      refine WV_flat rfl (by omega) ?_
      exact ⟨rfl, rfl⟩
    · exact hF.elim
end Go.Proofs.YtkmdidplmfdikaaDoor
end

/- EvL24 -/
section
/-
  A FULL SLICE GROWS; A LINE THAT GROWS.
-/
namespace Go.Ev
section
variable {P : Program}
theorem append_full {h0 : H} (wf : Wf h0) {t e size bytes k len : Nat} {z x : AV} (hu : P.underlying t = some (.slice e)) (hz : sizeE P e = some size) (E : El P e size bytes z) {n : Nat} {new old : List AV} {l : List AO} {w e' : Nat} (hn : len + n ≤ 10000000) (hn0 : n ≠ 0) (hb : bytes ≤ 100000)
    (hk : l[k]? = some (.cells (mkCells old) e')) (ho : old.length = len * size) (hs : srcCells (X h0 l w) size x = some (n, new)) (hc : new.length = n * size) : appendE P t (.sl (nx h0 k) 0 len (some len) size) x (X h0 l w) = .ok (.sl (nx h0 l.length) 0 (len + n) none size) (X h0 (l ++ [.cells (mkCells (old ++ new)) e]) w) := by
  unfold appendE
  rw [hu]; dsimp only; rw [hz]; dsimp only; rw [hs]; dsimp only
  rw [show Nat.beq n 0 = false from by cases hb : Nat.beq n 0 with | false => rfl | true => exact absurd (Nat.eq_of_beq_eq_true hb) hn0]
  show appendSome P e size n new (.sl (nx h0 k) 0 len (some len) size) (X h0 l w) = _
  unfold appendSome
  dsimp only
  rw [show Nat.beq size size = true from Nat.beq_refl size]
  dsimp only [cond]
  rw [show Nat.ble (Nat.add len n) len = false from by
    cases hb : Nat.ble (Nat.add len n) len with
    | false => rfl
    | true => exact absurd (Nat.le_of_ble_eq_true hb) (by show ¬ len + n ≤ len; omega)]
  dsimp only [cond]
  rw [show readCells (X h0 l w) (nx h0 k) 0 (len * size) = some old from by
    unfold readCells
    rw [getObj_new wf, hk]
    show readM _ (len * size) 0 = some old
    rw [readM_cells _ _ _ (by omega), List.drop_zero, List.take_of_length_le (by omega)]]
  dsimp only
  rw [forceNat_eq, show Nat.add len n = len + n from rfl]
  exact growE_X wf E hn hb (by rw [List.length_append, ho, hc, Nat.add_mul])
/-- A list that is a slice of all of an object. -/
def LineV (h : H) (L : List AO) (e : TypeId) (lv : AV) (cs : List AV) : Prop := ∃ idx c, lv = .sl (nx h idx) 0 cs.length c 1 ∧ L[idx]? = some (.cells (mkCells cs) e) ∧ (c = none ∨ c = some cs.length)
theorem LineV.flat {h : H} {L : List AO} {e : TypeId} {lv : AV} {cs : List AV} (x : LineV h L e lv cs) : AV.cells lv = [lv] ∧ oneB lv = true := by obtain ⟨_, _, rfl, _⟩ := x; exact ⟨rfl, rfl⟩
theorem LineV.resz {h : H} {L : List AO} {e : TypeId} {lv : AV} {cs : List AV} (x : LineV h L e lv cs) {t : TypeId} (hu : P.underlying t = some (.slice e)) (hz : sizeE P e = some 1) : reszT P t lv = lv := by
  obtain ⟨_, c, rfl, _, hc⟩ := x
  cases c with
  | none => exact reszT_none
  | some c => exact reszT_some hu hz
theorem LineV.sl {h : H} (wf : Wf h) {L : List AO} {e : TypeId} {lv : AV} {cs : List AV} (x : LineV h L e lv cs) (w : Nat) : Sl (X h L w) lv 1 cs.length cs := by
  obtain ⟨idx, c, rfl, hk, hc⟩ := x
  exact Sl.new wf (by rw [Nat.mul_one]) hk
/-- One number more. -/
theorem LineV.app {h : H} (wf : Wf h) {L : List AO} {e bytes : Nat} {z lv v : AV} {cs : List AV} (x : LineV h L e lv cs) {t : TypeId} (hu : P.underlying t = some (.slice e)) (hz : sizeE P e = some 1) (E : El P e 1 bytes z) (hn : cs.length ≤ 1000000) (hb : bytes ≤ 100000) (hv : oneB v = true) (c : Nat) (w : Nat) (hw : h.clock ≤ w) :
    ∃ lv' L' o w', Chg e L L' ∧ LineV h (L' ++ [.cells (mkCells [v]) e, o]) e lv' (cs ++ [v]) ∧ h.clock ≤ w' ∧ w' ≤ w ∧ appendE P t lv (.sl (nx h L.length) 0 1 (some c) 1) (X h (L ++ [.cells (mkCells [v]) e]) w) = .ok lv' (X h (L' ++ [.cells (mkCells [v]) e, o]) w') := by
  obtain ⟨idx, c0, rfl, hk, hc⟩ := x
  have hkl := lt_of_get hk
  have hk' : (L ++ [.cells (mkCells [v]) e])[idx]? = some (.cells (mkCells cs) e) := by rw [List.getElem?_append_left hkl]; exact hk
  have hs : srcCells (X h (L ++ [.cells (mkCells [v]) e]) w) 1 (.sl (nx h L.length) 0 1 (some c) 1) = some (1, [v]) := src_new (e := e) wf (by rw [app_len0]; rfl) rfl
  have hlen : (L ++ [AO.cells (mkCells [v]) e]).length = L.length + 1 := by rw [List.length_append]; rfl
  rcases hc with rfl | rfl
  · refine ⟨_, L.set idx .dead, .cells (mkCells (cs ++ [v])) e, min (h.clock + idx) w, ⟨by simp, fun k o hk2 hno => ?_⟩, ⟨L.length + 1, none, rfl, ?_, .inl rfl⟩, ?_, ?_, ?_⟩
    rotate_right 1
    · rw [append_more wf hu hz E (by omega) (by decide) hb hk' (by rw [Nat.mul_one]) hs rfl (by rw [allOne_cons, hv]; rfl), hlen, List.set_append_left _ _ hkl, List.append_assoc, List.length_append]
      rfl
    · have hne : idx ≠ k := fun e1 => by
        subst e1
        rw [hk] at hk2
        cases hk2
        exact hno _ rfl
      rw [List.getElem?_set_ne hne]; exact hk2
    · rw [List.getElem?_append_right (by simp), List.length_set, Nat.add_sub_cancel_left]; rfl
    · omega
    · omega
  · refine ⟨_, L, .cells (mkCells (cs ++ [v])) e, w, Chg.rfl' _, ⟨L.length + 1, none, rfl, ?_, .inl rfl⟩, ?_, ?_, ?_⟩
    rotate_right 1
    · rw [append_full wf hu hz E (by omega) (by decide) hb hk' (by rw [Nat.mul_one]) hs rfl, hlen, List.append_assoc, List.length_append]
      rfl
    · rw [List.getElem?_append_right (by omega), Nat.add_sub_cancel_left]; rfl
    · exact hw
    · exact Nat.le_refl _
end
end Go.Ev
namespace Go.Ev
theorem LineV.keep {h : H} {L L' : List AO} {e : TypeId} {lv : AV} {cs : List AV} (x : LineV h L e lv cs) (k : Keep e L L') : LineV h L' e lv cs := by
  obtain ⟨idx, c, rfl, hk, hc⟩ := x
  exact ⟨idx, c, rfl, k _ _ hk, hc⟩
end Go.Ev
namespace Go.Ev
theorem LineV.chg {h : H} {L L' : List AO} {e t : TypeId} {lv : AV} {cs : List AV} (x : LineV h L e lv cs) (k : Chg t L L') (hne : e ≠ t) : LineV h L' e lv cs := by
  obtain ⟨idx, c, rfl, hk, hc⟩ := x
  exact ⟨idx, c, rfl, k.2 _ _ hk (notT_cells hne), hc⟩
/-- As seen from a heap before. -/
theorem LineV.down {h : H} {G M : List AO} {w : Nat} {e : TypeId} {lv : AV} {cs : List AV} (x : LineV (X h G w) M e lv cs) : LineV h (G ++ M) e lv cs := by
  obtain ⟨idx, c, rfl, hk, hc⟩ := x
  exact ⟨G.length + idx, c, by rw [nx_X], by rw [List.getElem?_append_right (by omega), Nat.add_sub_cancel_left]; exact hk, hc⟩
/-- A list of lines. -/
def LV (h : H) (G : List AO) (vs : List AV) (ls : List (List Int)) : Prop := vs.length = ls.length ∧ ∀ (i : Nat) (u : AV) (l : List Int), vs[i]? = some u → ls[i]? = some l → LineV h G 2 u (l.map fun n => .int .i64 n)
theorem LV.nil (h : H) (G : List AO) : LV h G [] [] := ⟨rfl, fun i u l h1 _ => by simp at h1⟩
theorem LV.append {h : H} {G : List AO} {vs us : List AV} {ls ms : List (List Int)} (x : LV h G vs ls) (y : LV h G us ms) : LV h G (vs ++ us) (ls ++ ms) := by
  refine ⟨by rw [List.length_append, List.length_append, x.1, y.1], fun i u l h1 h2 => ?_⟩
  rcases Nat.lt_or_ge i vs.length with hi | hi
  · rw [List.getElem?_append_left hi] at h1
    rw [List.getElem?_append_left (by rw [← x.1]; exact hi)] at h2
    exact x.2 i u l h1 h2
  · rw [List.getElem?_append_right hi] at h1
    rw [List.getElem?_append_right (by rw [← x.1]; exact hi), ← x.1] at h2
    exact y.2 _ u l h1 h2
theorem LV.all {h : H} {G : List AO} {vs : List AV} {ls : List (List Int)} (x : LV h G vs ls) : allOne vs = true := by
  have key : ∀ vs : List AV, (∀ u ∈ vs, oneB u = true) → allOne vs = true := by
    intro vs
    induction vs with
    | nil => intro _; rfl
    | cons u vs ih => intro hu; rw [allOne_cons, hu u (by simp), ih fun w hw => hu w (by simp [hw])]; rfl
  refine key vs fun u hu => ?_
  obtain ⟨i, hi⟩ := List.getElem?_of_mem hu
  have hl := lt_of_get hi
  exact (x.2 i u _ hi (List.getElem?_eq_getElem (by rw [← x.1]; exact hl))).flat.2
theorem LV.mono {h : H} {G G' : List AO} {vs : List AV} {ls : List (List Int)} (x : LV h G vs ls) (k : ∀ u cs, LineV h G 2 u cs → LineV h G' 2 u cs) : LV h G' vs ls := ⟨x.1, fun i u l h1 h2 => k _ _ (x.2 i u l h1 h2)⟩
theorem LineV.more {h : H} {L : List AO} {e : TypeId} {lv : AV} {cs : List AV} (x : LineV h L e lv cs) (M : List AO) : LineV h (L ++ M) e lv cs := x.keep (Keep.more _ _)
end Go.Ev
namespace Go.Ev
end Go.Ev
end

/- EvT15 -/
section
/-
  LAYER 1: the fairest line, by the program.
-/
namespace Go.Proofs.YtkmdidplmfdikaaDoor
open Go.Ev
set_option maxRecDepth 100000
set_option linter.unusedSimpArgs false
set_option linter.unusedVariables false
set_option maxHeartbeats 2000000

theorem tEvT15 : type_of% (And.intro (And.intro (And.intro (And.intro (And.intro (@bs_71) (And.intro (@bs_64) (@bs_67))) (And.intro (@ia_2) (And.intro (@sz_2) (@ze_2)))) (And.intro (And.intro (@ia_3) (And.intro (@sz_3) (@ia_27))) (And.intro (@ia_51) (And.intro (@sz_51) (@ze_51))))) (And.intro (And.intro (And.intro (@ia_71) (And.intro (@sz_71) (@ze_71))) (And.intro (@ia_64) (And.intro (@sz_64) (@ze_64)))) (And.intro (And.intro (@ia_24) (And.intro (@sz_24) (@ia_22))) (And.intro (@sz_22) (And.intro (@ia_25) (@ia_65)))))) (And.intro (And.intro (And.intro (And.intro (@sz_65) (And.intro (@ia_81) (@sz_81))) (And.intro (@ia_103) (And.intro (@ia_67) (@sz_67)))) (And.intro (And.intro (@ze_67) (And.intro (@fo_67_0) (@fo_67_1))) (And.intro (@fo_64_0) (And.intro (@fo_24_0) (@fo_24_1))))) (And.intro (And.intro (And.intro (@fo_51_0) (And.intro (@fo_71_0) (@fo_71_1))) (And.intro (@fo_71_2) (And.intro (@pb_14) (@pb_39)))) (And.intro (And.intro (@pb_40) (And.intro (@pb_41) (@pb_42))) (And.intro (And.intro (@pb_43) (@pb_44)) (And.intro (@pb_45) (@ni_25))))))) := And.intro (And.intro (And.intro (And.intro (And.intro (@bs_71) (And.intro (@bs_64) (@bs_67))) (And.intro (@ia_2) (And.intro (@sz_2) (@ze_2)))) (And.intro (And.intro (@ia_3) (And.intro (@sz_3) (@ia_27))) (And.intro (@ia_51) (And.intro (@sz_51) (@ze_51))))) (And.intro (And.intro (And.intro (@ia_71) (And.intro (@sz_71) (@ze_71))) (And.intro (@ia_64) (And.intro (@sz_64) (@ze_64)))) (And.intro (And.intro (@ia_24) (And.intro (@sz_24) (@ia_22))) (And.intro (@sz_22) (And.intro (@ia_25) (@ia_65)))))) (And.intro (And.intro (And.intro (And.intro (@sz_65) (And.intro (@ia_81) (@sz_81))) (And.intro (@ia_103) (And.intro (@ia_67) (@sz_67)))) (And.intro (And.intro (@ze_67) (And.intro (@fo_67_0) (@fo_67_1))) (And.intro (@fo_64_0) (And.intro (@fo_24_0) (@fo_24_1))))) (And.intro (And.intro (And.intro (@fo_51_0) (And.intro (@fo_71_0) (@fo_71_1))) (And.intro (@fo_71_2) (And.intro (@pb_14) (@pb_39)))) (And.intro (And.intro (@pb_40) (And.intro (@pb_41) (@pb_42))) (And.intro (And.intro (@pb_43) (@pb_44)) (And.intro (@pb_45) (@ni_25))))))
theorem bst_map {α β : Type} (g : α → β) (f : β → Int) (xs : List α) : bst f (xs.map g) = (bst (fun x => f (g x)) xs).map fun p => (g p.1, p.2) := by
  have key : ∀ (xs : List α) (o : Option (α × Int)), (xs.map g).foldl (bstep f) (o.map fun p => (g p.1, p.2)) = (xs.foldl (bstep fun x => f (g x)) o).map fun p => (g p.1, p.2) := by
    intro xs
    induction xs with
    | nil => intro o; rfl
    | cons x xs ih =>
      intro o
      rw [List.map_cons, List.foldl_cons, List.foldl_cons, ← ih]
      congr 1
      cases o with
      | none => rfl
      | some p =>
        show (if f (g x) < p.2 then some (g x, f (g x)) else some (g p.1, p.2)) = Option.map _ (if f (g x) < p.2 then some (x, f (g x)) else some (p.1, p.2))
        split <;> rfl
  exact key xs none
theorem payStep (A : AV) (turn : Int) (ht : 0 ≤ turn ∧ turn ≤ 1000000) : StepOK (.fn 40 [.agg [A, ii turn]] []) (payI turn) where
  flat := ⟨rfl, rfl⟩
  run := fun x c hi ha hb hc h wf => by
    rw [callV_fn, pb_40]
    exact pay turn ht A x c hi ha hb hc h wf
  le := fun a b s c ha hb hc => pay_in ht ha hb hc
theorem starts_ok {sp : List (Int × Int)} (hsp : SpotsOK sp) {y : Stt} (hy : y ∈ startsL sp) : y.Ok sp := by
  have n2 := hsp.n2
  unfold startsL at hy
  obtain ⟨p, hp, rfl⟩ := List.mem_map.1 hy
  obtain ⟨h1, h2⟩ := mem_pairs2.1 hp
  exact ⟨⟨Nat.le_refl _, by show 1 < sp.length; omega⟩, h1, h2, by show 0 < 3; decide⟩
/-- The first state of the fairest line. -/
theorem first_state {pf : Int → Int → Int → Int → Int} {sp : List (Int × Int)} (hsp : SpotsOK sp) : ∃ p : Int × Int, bst (dueS pf sp) (startsL sp) = some (⟨1, p.1, p.2, 0⟩, (fairL pf sp).2) ∧ (⟨1, p.1, p.2, 0⟩ : Stt) ∈ startsL sp ∧ (fairL pf sp).1 = p.1 :: p.2 :: greedy pf (sp.drop 2) p.1 p.2 0 := by
  have n2 := hsp.n2
  obtain ⟨_, _, h0, _⟩ := hsp.at (i := 0) (by omega)
  obtain ⟨_, _, h1, _⟩ := hsp.at (i := 1) (by omega)
  have e : sp = spot sp 0 :: spot sp 1 :: sp.drop 2 := by
    have e1 := drop_spot (sp := sp) (i := 0) (by omega)
    have e2 := drop_spot (sp := sp) (i := 1) (by omega)
    rw [List.drop_zero, e2] at e1
    exact e1
  obtain ⟨p, hb, hf⟩ := begins_spec (turn := pf) (R := sp.drop 2) h0 h1
  have hbst : bst (fun p : Int × Int => dueI pf (sp.drop 2) p.1 p.2 0) (pairs2 (spot sp 0) (spot sp 1)) = some (p, dueI pf (sp.drop 2) p.1 p.2 0) := by
    obtain ⟨q, e2, hq⟩ := bst_spec (fun p : Int × Int => dueI pf (sp.drop 2) p.1 p.2 0) (pairs2 (spot sp 0) (spot sp 1)) (fun e3 => by have := hf.mem; rw [e3] at this; cases this)
    have e4 : begins pf (spot sp 0) (spot sp 1) (sp.drop 2) = (q, dueI pf (sp.drop 2) q.1 q.2 0) := by unfold begins; rw [e2]; rfl
    rw [hb] at e4
    cases e4
    exact e2
  have hfl : fairL pf sp = (p.1 :: p.2 :: greedy pf (sp.drop 2) p.1 p.2 0, dueI pf (sp.drop 2) p.1 p.2 0) := by
    conv => lhs; rw [e]
    show ((begins pf (spot sp 0) (spot sp 1) (sp.drop 2)).1.1 :: (begins pf (spot sp 0) (spot sp 1) (sp.drop 2)).1.2 :: greedy pf (sp.drop 2) (begins pf (spot sp 0) (spot sp 1) (sp.drop 2)).1.1 (begins pf (spot sp 0) (spot sp 1) (sp.drop 2)).1.2 0, (begins pf (spot sp 0) (spot sp 1) (sp.drop 2)).2) = _
    rw [hb]
  refine ⟨p, ?_, List.mem_map.2 ⟨p, hf.mem, rfl⟩, by rw [hfl]⟩
  unfold startsL
  rw [bst_map, hfl]
  show Option.map _ (bst (fun p : Int × Int => dueI pf (sp.drop 2) p.1 p.2 0) (pairs2 (spot sp 0) (spot sp 1))) = _
  rw [hbst]; rfl

theorem onwS_mem {pf : Int → Int → Int → Int → Int} {sp : List (Int × Int)} {x : Stt} (hi : x.i + 1 < sp.length) (hr : (spot sp (x.i + 1)).1 ≤ (spot sp (x.i + 1)).2) : (spot sp (x.i + 1)).1 ≤ (onwS pf sp x).1 ∧ (onwS pf sp x).1 ≤ (spot sp (x.i + 1)).2 := by
  have e := onwS_step (pf := pf) hi hr
  obtain ⟨b, e2, hf⟩ := bst_spec (fun c => pf x.a x.b x.s c + dueS pf sp (nxt x c)) (offs (spot sp (x.i + 1))) (offs_ne hr)
  rw [e2] at e
  have e3 : onwS pf sp x = (b, pf x.a x.b x.s b + dueS pf sp (nxt x b)) := (Option.some.inj e).symm
  rw [e3]
  exact mem_offs.1 hf.mem
theorem greedy_step {pf : Int → Int → Int → Int → Int} {sp : List (Int × Int)} {x : Stt} (hi : x.i + 1 < sp.length) : greedy pf (sp.drop (x.i + 1)) x.a x.b x.s = (onwS pf sp x).1 :: greedy pf (sp.drop ((nxt x (onwS pf sp x).1).i + 1)) (nxt x (onwS pf sp x).1).a (nxt x (onwS pf sp x).1).b (nxt x (onwS pf sp x).1).s := by
  rw [nxt_s]
  show _ = _ :: greedy pf (sp.drop (x.i + 1 + 1)) x.b (onwS pf sp x).1 _
  unfold onwS
  rw [drop_spot hi]
  rfl
theorem greedy_end {pf : Int → Int → Int → Int → Int} {sp : List (Int × Int)} {x : Stt} (hi : x.i + 1 = sp.length) : greedy pf (sp.drop (x.i + 1)) x.a x.b x.s = [] := by
  rw [hi, List.drop_length]; rfl

theorem fairest (sp : List (Int × Int)) (hsp : SpotsOK sp) (a : AV) (turn : Int) (hturn : 0 ≤ turn ∧ turn ≤ 1000000) (h : H) (wf : Wf h) (ht : TabF h) (hs : Sl h a 2 sp.length (spotCells sp)) :
    WV ((om Tryd.prog KK).call (.fn 17 [.agg [a, ii turn]]) h) fun v h' => ∃ (L : List AO) (lv : AV), v = .tup [lv, ii (fairL (payI turn) sp).2, ii 0] ∧ h' = X h L h.w ∧ LineV h L 2 lv ((fairL (payI turn) sp).1.map ii) := by
  have n2 := hsp.n2
  have n24 := hsp.n24
  have S := payStep a turn hturn
  have hR0 : spotsR sp turn = 0 := by
    unfold spotsR; rw [if_neg (by omega), if_pos ⟨hsp.ok, hturn⟩]
  have hlen : ∀ h', lenE Tryd.prog 22 a h' = some (ii (sp.length : Int)) := fun h' => hs.len un_22
  have ha1 : oneB a = true ∧ AV.cells a = [a] := by obtain ⟨_, ⟨rfl, _⟩ | ⟨_, _, _, _, _, _, rfl, _⟩⟩ := hs <;> exact ⟨rfl, rfl⟩
  have hCS : ∀ l w, w ≤ h.clock + l.length → (om Tryd.prog KK).call (.fn 14 [.agg [a, ii turn]]) (X h l w) = .ok (ii 0) (X h l w) := fun l w hw => by
    have := CheckSpots sp turn a (by omega) _ (wf.X hw) (hs.up wf _ _)
    rw [hR0] at this; exact this
  refine WV_call (fn := Tryd.f17) Tryd.func17 rfl rfl rfl rfl rfl ?_
  simp only [argF]
  obtain ⟨v, h', e1, L, k, Tb, rfl, rfl, hk, hTl, hTb, hgood⟩ := due S sp hsp a turn (X h [.cells (mkCells [a, ii turn]) 24, .cells (mkCells [a, ii turn]) 64] h.clock) (wf.X (by omega)) (ht.up wf _ _) (hs.up wf _ _)
  have hkl := lt_of_get hk
  rw [X_X, nx_X, X_w] at e1
  simp only [List.length_cons, List.length_nil, Nat.reduceAdd, List.cons_append, List.nil_append] at e1
  unfold prv at e1
  (repeat' (first
  | (with_reducible first | refine WC_seq ?_ | refine WC_skip ?_ | refine WC_label ?_ | refine WC_scope ?_ | refine WC_block ?_ | refine WC_ret ?_ | refine WC_exit ?_ | refine seqQ_norm ?_ | refine seqQ_ret ?_ | refine seqQ_exit ?_ | refine blkQ_norm ?_ | refine blkQ_ret ?_ | refine blkQ_here ?_ | refine gateK_yes ?_ | refine gateK_none ?_ | refine condK_tt ?_ | refine condK_ff ?_ | refine roundQ_exit ?_ | refine roundQ_ret ?_)
  | refine WC_region ?_ | refine blkQ_out rfl ?_ | refine WO_nil ?_ | refine WD_nil ?_
  | ((first | refine WD_gate rfl rfl rfl rfl rfl fun K_ hK_ => ?_ | refine WO_gate rfl rfl rfl rfl rfl fun K_ hK_ => ?_); simp only [upd_apply, asB_bool, asB_tup, ↓reduceIte, reduceCtorEq, Nat.reduceEqDiff, Bool.not_true, Bool.not_false]; refine hK_ _ ?_; clear hK_ K_)
  | refine gateK_no (by decide) ?_
  | ((try first | refine WO_op rfl rfl rfl ?_ | refine WO_op0 rfl rfl ?_ | refine WD_op rfl rfl rfl ?_ | refine WD_op0 rfl rfl ?_); (refine WV_gen fun Q_ hQ_ => ?_; simp (disch := first | omega | (simp only [List.length_cons, List.length_nil, List.length_append]; omega)) only [bb, bp, argF, ↓reduceIte, reduceCtorEq, Nat.reduceEqDiff, Nat.reduceLT, Nat.reduceLeDiff, Nat.reduceAdd, Nat.reduceMul, Nat.reduceSub, Nat.reduceBEq, Int.reduceToNat, cond_true, cond_false, eq_self, beq_self_eq_true, hlen, hCS, e1, ha1.1, ha1.2, newPtr_X wf, load1_X wf, loadAgg_X wf, store1_X wf, writeCells_X wf, makeFunc_def, tEvT15, bsl_25, bsl_81, newSlice_X wf]; first | (refine dec_split (Q := Q_) (fun hp_ => ?_) (fun hp_ => ?_) <;> first | (exfalso; omega) | (refine hQ_ _ _ ?_; clear hQ_ Q_)) | (refine dec_splitn (Q := Q_) (fun hp_ => ?_) (fun hp_ => ?_) <;> first | (exfalso; omega) | (refine hQ_ _ _ ?_; clear hQ_ Q_)) | (refine hQ_ _ _ ?_; clear hQ_ Q_)))
  | (refine WC_cond fun K_ hK_ => ?_; simp (disch := omega) only [evT_tmp, upd_apply, WB_some, ↓reduceIte, reduceCtorEq, Nat.reduceEqDiff, Nat.reduceLT]; refine hK_ _ ?_; clear hK_ K_)))
  obtain ⟨p, hbst, hmem, hline⟩ := first_state (pf := payI turn) hsp
  have est : ∀ w, w ≤ h.clock + (L.length + 3) → (om Tryd.prog KK).call (.fn 42 [.agg [a, ii turn]]) (X h (.cells (mkCells [a, ii turn]) 24 :: .cells (mkCells [a, ii turn]) 64 :: (L ++ [.cells (mkCells [a, ii turn, .sl (nx h (2 + k)) 0 (sp.length - 1) (some (sp.length - 1)) 75]) 67])) w) = .ok (.fn 67 [] [.ptr (nx h (L.length + 1 + 1 + 1)) 0]) (X h (.cells (mkCells [a, ii turn]) 24 :: .cells (mkCells [a, ii turn]) 64 :: (L ++ [.cells (mkCells [a, ii turn, .sl (nx h (2 + k)) 0 (sp.length - 1) (some (sp.length - 1)) 75]) 67, .cells (mkCells [a, ii turn]) 64])) w) := fun w hw => by
    have := starts a turn h wf (.cells (mkCells [a, ii turn]) 24 :: .cells (mkCells [a, ii turn]) 64 :: (L ++ [.cells (mkCells [a, ii turn, .sl (nx h (2 + k)) 0 (sp.length - 1) (some (sp.length - 1)) 75]) 67])) w (by simp only [List.length_append, List.length_cons, List.length_nil]; omega)
    simpa only [List.length_cons, List.length_append, List.length_nil, List.cons_append, List.append_assoc, List.nil_append, Nat.zero_add] using this
  have hle : ∀ w, w ≤ h.clock + (L.length + 4) → (om Tryd.prog KK).call (.fn 41 [.fn 67 [] [.ptr (nx h (L.length + 1 + 1 + 1)) 0], .fn 43 [.agg [a, ii turn, .sl (nx h (2 + k)) 0 (sp.length - 1) (some (sp.length - 1)) 75]] []]) (X h (.cells (mkCells [a, ii turn]) 24 :: .cells (mkCells [a, ii turn]) 64 :: (L ++ [.cells (mkCells [a, ii turn, .sl (nx h (2 + k)) 0 (sp.length - 1) (some (sp.length - 1)) 75]) 67, .cells (mkCells [a, ii turn]) 64])) w) = .ok (.tup [stv ⟨1, p.1, p.2, 0⟩, ii (fairL (payI turn) sp).2]) (X h (.cells (mkCells [a, ii turn]) 24 :: .cells (mkCells [a, ii turn]) 64 :: (L ++ [.cells (mkCells [a, ii turn, .sl (nx h (2 + k)) 0 (sp.length - 1) (some (sp.length - 1)) 75]) 67, .cells (mkCells [a, ii turn]) 64])) w) := fun w hw => by
    have hww : w ≤ h.clock + (.cells (mkCells [a, ii turn]) 24 :: .cells (mkCells [a, ii turn]) 64 :: (L ++ [.cells (mkCells [a, ii turn, .sl (nx h (2 + k)) 0 (sp.length - 1) (some (sp.length - 1)) 75]) 67, .cells (mkCells [a, ii turn]) 64]) : List AO).length := by simp only [List.length_append, List.length_cons, List.length_nil]; omega
    refine leastSt (f := dueS (payI turn) sp) (ys := startsL sp) (starts1 (nx h (L.length + 1 + 1 + 1)) a turn sp ⟨n2, by omega⟩ hsp.ok) ⟨rfl, rfl⟩ (List.length_pos_of_mem hmem) _ (wf.X hww) (fun L2 w2 hw2 => ?_) (fun y hy L2 w2 hw2 => ?_) _ hbst
    · rw [X_X]
      simp only [X_clock, List.length_append, List.length_cons, List.length_nil] at hw2
      refine DrIn.of wf (k := L.length + 1 + 1 + 1) (by simp only [List.length_append, List.length_cons, List.length_nil]; omega) ?_ hs
      simp only [List.cons_append, List.append_assoc, List.nil_append, List.getElem?_cons_succ, app_len, List.getElem?_cons_zero]
    · simp only [X_clock, List.length_append, List.length_cons, List.length_nil] at hw2
      have hyk := starts_ok hsp hy
      rw [callV_fn, pb_43]
      show (om Tryd.prog KK).call (.fn 43 [prv a turn (nx h (2 + k)) (sp.length - 1), stv y]) _ = _
      rw [← hgood y hyk, X_X]
      refine at_ sp hsp a turn _ Tb hTl y hyk _ (wf.X (by simp only [List.length_append, List.length_cons, List.length_nil]; omega)) (hs.up wf _ _) (TabIn.of wf ?_)
      rw [show 2 + k = k + 1 + 1 from by omega]
      simp only [List.cons_append, List.append_assoc, List.nil_append, List.getElem?_cons_succ]
      rw [List.getElem?_append_left hkl, hk]
  refine WC_drawnB [.no, .no, .no, .no, .no, .no, .no, .no, .no, .full, .full] (by kernel_rfl) ?_
  unfold stv at hle
  (repeat' (first
  | (with_reducible first | refine WC_seq ?_ | refine WC_skip ?_ | refine WC_label ?_ | refine WC_scope ?_ | refine WC_block ?_ | refine WC_ret ?_ | refine WC_exit ?_ | refine seqQ_norm ?_ | refine seqQ_ret ?_ | refine seqQ_exit ?_ | refine blkQ_norm ?_ | refine blkQ_ret ?_ | refine blkQ_here ?_ | refine gateK_yes ?_ | refine gateK_none ?_ | refine condK_tt ?_ | refine condK_ff ?_ | refine roundQ_exit ?_ | refine roundQ_ret ?_)
  | refine WC_region ?_ | refine blkQ_out rfl ?_ | refine WO_nil ?_ | refine WD_nil ?_
  | ((first | refine WD_gate rfl rfl rfl rfl rfl fun K_ hK_ => ?_ | refine WO_gate rfl rfl rfl rfl rfl fun K_ hK_ => ?_); simp only [upd_apply, asB_bool, asB_tup, ↓reduceIte, reduceCtorEq, Nat.reduceEqDiff, Bool.not_true, Bool.not_false]; refine hK_ _ ?_; clear hK_ K_)
  | refine gateK_no (by decide) ?_
  | ((try first | refine WO_op rfl rfl rfl ?_ | refine WO_op0 rfl rfl ?_ | refine WD_op rfl rfl rfl ?_ | refine WD_op0 rfl rfl ?_); (refine WV_gen fun Q_ hQ_ => ?_; simp (disch := first | omega | (simp only [List.length_cons, List.length_nil, List.length_append]; omega)) only [bb, bp, argF, ↓reduceIte, reduceCtorEq, Nat.reduceEqDiff, Nat.reduceLT, Nat.reduceLeDiff, Nat.reduceAdd, Nat.reduceMul, Nat.reduceSub, Nat.reduceBEq, Int.reduceToNat, cond_true, cond_false, eq_self, beq_self_eq_true, est, hle, newPtr_X wf, load1_X wf, loadAgg_X wf, store1_X wf, writeCells_X wf, makeFunc_def, tEvT15, bsl_25, bsl_81, newSlice_X wf]; first | (refine dec_split (Q := Q_) (fun hp_ => ?_) (fun hp_ => ?_) <;> first | (exfalso; omega) | (refine hQ_ _ _ ?_; clear hQ_ Q_)) | (refine dec_splitn (Q := Q_) (fun hp_ => ?_) (fun hp_ => ?_) <;> first | (exfalso; omega) | (refine hQ_ _ _ ?_; clear hQ_ Q_)) | (refine hQ_ _ _ ?_; clear hQ_ Q_)))
  | (refine WC_cond fun K_ hK_ => ?_; simp (disch := omega) only [evT_tmp, upd_apply, WB_some, ↓reduceIte, reduceCtorEq, Nat.reduceEqDiff, Nat.reduceLT]; refine hK_ _ ?_; clear hK_ K_)))
  clear e1 est hle hCS
  have hla : ∀ l w, w ≤ h.clock + l.length → (om Tryd.prog KK).call (.fn 44 [.agg [a, ii turn]]) (X h l w) = .ok (ii ((sp.length - 1 : Nat) : Int)) (X h l w) := fun l w hw => last a turn sp (by omega) _ (wf.X hw) (hs.up wf _ _)
  generalize hcost : (fairL (payI turn) sp).2 = cost at *
  generalize hln : (fairL (payI turn) sp).1 = line at *
  refine WC_loop (fun (m : Nat) f d h' => m < sp.length ∧ f 6 = .ptr (nx h 1) 0 ∧ f 7 = .ptr (nx h (L.length + 1 + 1)) 0 ∧ f 8 = .ptr (nx h (L.length + 2 + 1 + 1)) 0 ∧ f 9 = ii cost ∧ d = [] ∧
    ∃ (G : List AO) (x : Stt) (xs : List Int) (lv : AV) (w : Nat), h' = X h G w ∧ x.i = m ∧ x.Ok sp ∧ f 10 = lv ∧ LineV h G 2 lv (xs.map ii) ∧ xs.length = x.i + 1 ∧ xs ++ greedy (payI turn) (sp.drop (x.i + 1)) x.a x.b x.s = line ∧
      G[1]? = some (.cells (mkCells [a, ii turn]) 64) ∧ G[2 + k]? = some (.cells (mkCells (Tb.map ii)) 112) ∧ G[L.length + 1 + 1]? = some (.cells (mkCells [a, ii turn, .sl (nx h (2 + k)) 0 (sp.length - 1) (some (sp.length - 1)) 75]) 67) ∧ G[L.length + 2 + 1 + 1]? = some (.cells (mkCells (cellsS x)) 71) ∧ h.clock ≤ w ∧ w ≤ h.clock + G.length) (fun m => sp.length - m) ?_ (sp.length + 1) 1 (by omega) ?_
  · rintro m f d h' ⟨hm, g6, g7, g8, g9, rfl, G, x, xs, lv, w, rfl, rfl, hok, g10, hlv, hxl, hgr, hG1, hGk, hG7, hG8, hw1, hw2⟩
    have hld1 : ∀ w, loadAgg (nx h 1) 0 (some 2) (X h G w) = some (.agg [a, ii turn]) := fun w => by
      rw [loadAgg_X wf, hG1]
      rw [aggAt_cells (by decide)]; rfl
    have hl8 : ∀ w, load1 (nx h (L.length + 2 + 1 + 1)) 0 (X h G w) = some (ii (x.i : Int)) := fun w => by
      rw [load1_X wf, hG8]; rfl
    by_cases hlt : x.i + 1 < sp.length
    · have hld7 : ∀ w, loadAgg (nx h (L.length + 1 + 1)) 0 (some 3) (X h G w) = some (.agg [a, ii turn, .sl (nx h (2 + k)) 0 (sp.length - 1) (some (sp.length - 1)) 75]) := fun w => by
        rw [loadAgg_X wf, hG7]
        rw [aggAt_cells (by decide)]; rfl
      have hld8 : ∀ w, loadAgg (nx h (L.length + 2 + 1 + 1)) 0 (some 4) (X h G w) = some (.agg (cellsS x)) := fun w => by
        rw [loadAgg_X wf, hG8]
        rw [aggAt_cells (by decide)]; rfl
      obtain ⟨_, _, hr3, _⟩ := hsp.at hlt
      have hcm := onwS_mem (pf := payI turn) hlt hr3
      have hon : ∀ w, w ≤ h.clock + G.length → (om Tryd.prog KK).call (.fn 45 [.agg [a, ii turn, .sl (nx h (2 + k)) 0 (sp.length - 1) (some (sp.length - 1)) 75], .agg (cellsS x), .fn 40 [.agg [a, ii turn]] []]) (X h G w) = .ok (.tup [ii (onwS (payI turn) sp x).1, ii (onwS (payI turn) sp x).2]) (X h G w) := fun w hw =>
        onward S sp hsp a turn (nx h (2 + k)) Tb hTl hTb x hok (fun c hi h1 h2 => hgood _ (nxt_ok hok hi ⟨h1, h2⟩)) _ (wf.X hw) (hs.up wf _ _) (TabIn.of wf hGk)
      have hgs := greedy_step (pf := payI turn) hlt
      have hnok := nxt_ok hok hlt hcm
      generalize hcc : onwS (payI turn) sp x = cc at *
      obtain ⟨⟨k1, k2⟩, k3, k4, k5⟩ := hok
      obtain ⟨a1, a2, a3, a4⟩ := hsp.at (i := x.i - 1) (by omega)
      obtain ⟨b1, b2, b3, b4⟩ := hsp.at k2
      obtain ⟨c1, c2, c3, c4⟩ := hsp.at hlt
      have hpay : ∀ w, w ≤ h.clock + G.length → (om Tryd.prog KK).call (.fn 40 [.agg [a, ii turn], .agg (cellsS x), ii cc.1]) (X h G w) = .ok (.tup [.agg (cellsS (nxt x cc.1)), ii (payI turn x.a x.b x.s cc.1)]) (X h G w) := fun w hw => pay turn hturn a x cc.1 (by omega) (by omega) (by omega) (by omega) _ (wf.X hw)
      have hst8 : ∀ w, writeCells (nx h (L.length + 2 + 1 + 1)) 0 (cellsS (nxt x cc.1)) (X h G w) = some (X h (G.set (L.length + 2 + 1 + 1) (.cells (mkCells (cellsS (nxt x cc.1))) 71)) (min (h.clock + (L.length + 2 + 1 + 1)) w)) := fun w => by
        rw [writeCells_X wf, hG8]
        unfold cellsS
        rw [writeAt_cells]
        rfl
      have hlv2 := hlv.keep (Keep.set (o' := .cells (mkCells (cellsS (nxt x cc.1))) 71) hG8 (notT_cells (by decide)))
      obtain ⟨lv', L', o', w', hch, hlv', hw1', hw2', happ⟩ := hlv2.app (P := Tryd.prog) wf Tryd.underlying25 sz_2 el_2 (by rw [List.length_map]; omega) (by decide) (v := ii cc.1) rfl 1 (min (h.clock + (L.length + 2 + 1 + 1)) w) (by omega)
      have hrz := hlv.resz (P := Tryd.prog) Tryd.underlying25 sz_2
      have hfl := hlv.flat
      have rs25 : ∀ (id : Pos) (off len c esz : Nat), reszT Tryd.prog 25 (.sl id off len (some c) esz) = .sl id off len (some c) 1 := fun id off len c esz => reszT_some Tryd.underlying25 sz_2
      rw [List.length_set] at happ
      unfold cellsS at hon hpay hst8 hld8
      generalize hG' : G.set (L.length + 2 + 1 + 1) (.cells (mkCells (cellsS (nxt x cc.1))) 71) = G' at *
      have hlG' : G'.length = G.length := by rw [← hG', List.length_set]
      have e28 : ∀ w, X h (G.set (L.length + 2 + 1 + 1) (.cells (mkCells [ii ((nxt x cc.1).i : Int), ii (nxt x cc.1).a, ii (nxt x cc.1).b, ii ((nxt x cc.1).s : Int)]) 71)) w = X h G' w := fun w => by rw [← hG']; rfl
      rw [← hlG'] at happ
      (repeat' (first
  | (with_reducible first | refine WC_seq ?_ | refine WC_skip ?_ | refine WC_label ?_ | refine WC_scope ?_ | refine WC_block ?_ | refine WC_ret ?_ | refine WC_exit ?_ | refine seqQ_norm ?_ | refine seqQ_ret ?_ | refine seqQ_exit ?_ | refine blkQ_norm ?_ | refine blkQ_ret ?_ | refine blkQ_here ?_ | refine gateK_yes ?_ | refine gateK_none ?_ | refine condK_tt ?_ | refine condK_ff ?_ | refine roundQ_exit ?_ | refine roundQ_ret ?_)
  | refine WC_region ?_ | refine blkQ_out rfl ?_ | refine WO_nil ?_ | refine WD_nil ?_
  | ((first | refine WD_gate rfl rfl rfl rfl rfl fun K_ hK_ => ?_ | refine WO_gate rfl rfl rfl rfl rfl fun K_ hK_ => ?_); simp only [upd_apply, asB_bool, asB_tup, ↓reduceIte, reduceCtorEq, Nat.reduceEqDiff, Bool.not_true, Bool.not_false]; refine hK_ _ ?_; clear hK_ K_)
  | refine gateK_no (by decide) ?_
  | ((try first | refine WO_op rfl rfl rfl ?_ | refine WO_op0 rfl rfl ?_ | refine WD_op rfl rfl rfl ?_ | refine WD_op0 rfl rfl ?_); (refine WV_gen fun Q_ hQ_ => ?_; simp (disch := first | omega | (simp only [List.length_cons, List.length_nil, List.length_append]; omega)) only [bb, bp, argF, ↓reduceIte, reduceCtorEq, Nat.reduceEqDiff, Nat.reduceLT, Nat.reduceLeDiff, Nat.reduceAdd, Nat.reduceMul, Nat.reduceSub, Nat.reduceBEq, Int.reduceToNat, cond_true, cond_false, eq_self, beq_self_eq_true, g6, g7, g8, g9, g10, tEvT15, bsl_25, bsl_81, newSlice_X wf]; first | (refine dec_split (Q := Q_) (fun hp_ => ?_) (fun hp_ => ?_) <;> first | (exfalso; omega) | (refine hQ_ _ _ ?_; clear hQ_ Q_)) | (refine dec_splitn (Q := Q_) (fun hp_ => ?_) (fun hp_ => ?_) <;> first | (exfalso; omega) | (refine hQ_ _ _ ?_; clear hQ_ Q_)) | (refine hQ_ _ _ ?_; clear hQ_ Q_)))
  | (refine WC_cond fun K_ hK_ => ?_; simp (disch := omega) only [evT_tmp, upd_apply, WB_some, ↓reduceIte, reduceCtorEq, Nat.reduceEqDiff, Nat.reduceLT]; refine hK_ _ ?_; clear hK_ K_)))
      refine WC_drawnB [.no, .no, .no, .no, .full] (by kernel_rfl) ?_
      (repeat' (first
  | (with_reducible first | refine WC_seq ?_ | refine WC_skip ?_ | refine WC_label ?_ | refine WC_scope ?_ | refine WC_block ?_ | refine WC_ret ?_ | refine WC_exit ?_ | refine seqQ_norm ?_ | refine seqQ_ret ?_ | refine seqQ_exit ?_ | refine blkQ_norm ?_ | refine blkQ_ret ?_ | refine blkQ_here ?_ | refine gateK_yes ?_ | refine gateK_none ?_ | refine condK_tt ?_ | refine condK_ff ?_ | refine roundQ_exit ?_ | refine roundQ_ret ?_)
  | refine WC_region ?_ | refine blkQ_out rfl ?_ | refine WO_nil ?_ | refine WD_nil ?_
  | ((first | refine WD_gate rfl rfl rfl rfl rfl fun K_ hK_ => ?_ | refine WO_gate rfl rfl rfl rfl rfl fun K_ hK_ => ?_); simp only [upd_apply, asB_bool, asB_tup, ↓reduceIte, reduceCtorEq, Nat.reduceEqDiff, Bool.not_true, Bool.not_false]; refine hK_ _ ?_; clear hK_ K_)
  | refine gateK_no (by decide) ?_
  | ((try first | refine WO_op rfl rfl rfl ?_ | refine WO_op0 rfl rfl ?_ | refine WD_op rfl rfl rfl ?_ | refine WD_op0 rfl rfl ?_); (refine WV_gen fun Q_ hQ_ => ?_; simp (disch := first | omega | (simp only [List.length_cons, List.length_nil, List.length_append]; omega)) only [bb, bp, argF, ↓reduceIte, reduceCtorEq, Nat.reduceEqDiff, Nat.reduceLT, Nat.reduceLeDiff, Nat.reduceAdd, Nat.reduceMul, Nat.reduceSub, Nat.reduceBEq, Int.reduceToNat, cond_true, cond_false, eq_self, beq_self_eq_true, g6, g7, g8, g9, g10, hl8, hld1, hla, tEvT15, bsl_25, bsl_81, newSlice_X wf]; first | (refine dec_split (Q := Q_) (fun hp_ => ?_) (fun hp_ => ?_) <;> first | (exfalso; omega) | (refine hQ_ _ _ ?_; clear hQ_ Q_)) | (refine dec_splitn (Q := Q_) (fun hp_ => ?_) (fun hp_ => ?_) <;> first | (exfalso; omega) | (refine hQ_ _ _ ?_; clear hQ_ Q_)) | (refine hQ_ _ _ ?_; clear hQ_ Q_)))
  | (refine WC_cond fun K_ hK_ => ?_; simp (disch := omega) only [evT_tmp, upd_apply, WB_some, ↓reduceIte, reduceCtorEq, Nat.reduceEqDiff, Nat.reduceLT]; refine hK_ _ ?_; clear hK_ K_)))
      (repeat' (first
  | (with_reducible first | refine WC_seq ?_ | refine WC_skip ?_ | refine WC_label ?_ | refine WC_scope ?_ | refine WC_block ?_ | refine WC_ret ?_ | refine WC_exit ?_ | refine seqQ_norm ?_ | refine seqQ_ret ?_ | refine seqQ_exit ?_ | refine blkQ_norm ?_ | refine blkQ_ret ?_ | refine blkQ_here ?_ | refine gateK_yes ?_ | refine gateK_none ?_ | refine condK_tt ?_ | refine condK_ff ?_ | refine roundQ_exit ?_ | refine roundQ_ret ?_)
  | refine WC_region ?_ | refine blkQ_out rfl ?_ | refine WO_nil ?_ | refine WD_nil ?_
  | ((first | refine WD_gate rfl rfl rfl rfl rfl fun K_ hK_ => ?_ | refine WO_gate rfl rfl rfl rfl rfl fun K_ hK_ => ?_); simp only [upd_apply, asB_bool, asB_tup, ↓reduceIte, reduceCtorEq, Nat.reduceEqDiff, Bool.not_true, Bool.not_false]; refine hK_ _ ?_; clear hK_ K_)
  | refine gateK_no (by decide) ?_
  | ((try first | refine WO_op rfl rfl rfl ?_ | refine WO_op0 rfl rfl ?_ | refine WD_op rfl rfl rfl ?_ | refine WD_op0 rfl rfl ?_); (refine WV_gen fun Q_ hQ_ => ?_; simp (disch := first | omega | (simp only [List.length_cons, List.length_nil, List.length_append]; omega)) only [bb, bp, argF, ↓reduceIte, reduceCtorEq, Nat.reduceEqDiff, Nat.reduceLT, Nat.reduceLeDiff, Nat.reduceAdd, Nat.reduceMul, Nat.reduceSub, Nat.reduceBEq, Int.reduceToNat, cond_true, cond_false, eq_self, beq_self_eq_true, g6, g7, g8, g9, g10, hl8, hld1, hld7, hld8, hon, hpay, hst8, e28, hrz, rs25, happ, makeFunc_def, newSlice_X wf, tEvT15, bsl_25, bsl_81, newSlice_X wf]; first | (refine dec_split (Q := Q_) (fun hp_ => ?_) (fun hp_ => ?_) <;> first | (exfalso; omega) | (refine hQ_ _ _ ?_; clear hQ_ Q_)) | (refine dec_splitn (Q := Q_) (fun hp_ => ?_) (fun hp_ => ?_) <;> first | (exfalso; omega) | (refine hQ_ _ _ ?_; clear hQ_ Q_)) | (refine hQ_ _ _ ?_; clear hQ_ Q_)))
  | (refine WC_cond fun K_ hK_ => ?_; simp (disch := omega) only [evT_tmp, upd_apply, WB_some, ↓reduceIte, reduceCtorEq, Nat.reduceEqDiff, Nat.reduceLT]; refine hK_ _ ?_; clear hK_ K_)))
      have hget : ∀ (q : Nat) (o : AO), q ≠ L.length + 2 + 1 + 1 → G[q]? = some o → NotT 2 o → (L' ++ [AO.cells (mkCells [ii cc.1]) 2, o'])[q]? = some o := fun q o hq hg hn => by
        have h1 : G'[q]? = some o := by rw [← hG', List.getElem?_set_ne (Ne.symm hq)]; exact hg
        have h2 := hch.2 q o h1 hn
        rw [List.getElem?_append_left (lt_of_get h2)]; exact h2
      have hLl := hch.1
      refine roundQ_again (x.i + 1) (by omega) ⟨hlt, by simp only [upd_apply, ↓reduceIte, reduceCtorEq, Nat.reduceEqDiff]; exact g6, by simp only [upd_apply, ↓reduceIte, reduceCtorEq, Nat.reduceEqDiff]; exact g7, by simp only [upd_apply, ↓reduceIte, reduceCtorEq, Nat.reduceEqDiff]; exact g8, by simp only [upd_apply, ↓reduceIte, reduceCtorEq, Nat.reduceEqDiff]; exact g9, rfl, _, nxt x cc.1, xs ++ [cc.1], lv', w', rfl, rfl, hnok, by simp only [upd_apply, ↓reduceIte, reduceCtorEq, Nat.reduceEqDiff], ?_, ?_, ?_, hget _ _ (by omega) hG1 (notT_cells (by decide)), hget _ _ (by omega) hGk (notT_cells (by decide)), hget _ _ (by omega) hG7 (notT_cells (by decide)), ?_, hw1', ?_⟩
      · rw [List.map_append]; exact hlv'
      · rw [List.length_append, hxl]; rfl
      · rw [List.append_assoc]
        show xs ++ (cc.1 :: greedy _ _ _ _ _) = line
        rw [← hgs, hgr]
      · have h1 : G'[L.length + 2 + 1 + 1]? = some (.cells (mkCells (cellsS (nxt x cc.1))) 71) := by rw [← hG', List.getElem?_set_self (lt_of_get hG8)]
        have h2 := hch.2 _ _ h1 (notT_cells (by decide))
        rw [List.getElem?_append_left (lt_of_get h2)]; exact h2
      · simp only [List.length_append, List.length_cons, List.length_nil]; omega
    · obtain ⟨⟨k1, k2⟩, k3, k4, k5⟩ := hok
      have hie : x.i + 1 = sp.length := by omega
      rw [greedy_end hie, List.append_nil] at hgr
      subst hgr
      (repeat' (first
  | (with_reducible first | refine WC_seq ?_ | refine WC_skip ?_ | refine WC_label ?_ | refine WC_scope ?_ | refine WC_block ?_ | refine WC_ret ?_ | refine WC_exit ?_ | refine seqQ_norm ?_ | refine seqQ_ret ?_ | refine seqQ_exit ?_ | refine blkQ_norm ?_ | refine blkQ_ret ?_ | refine blkQ_here ?_ | refine gateK_yes ?_ | refine gateK_none ?_ | refine condK_tt ?_ | refine condK_ff ?_ | refine roundQ_exit ?_ | refine roundQ_ret ?_)
  | refine WC_region ?_ | refine blkQ_out rfl ?_ | refine WO_nil ?_ | refine WD_nil ?_
  | ((first | refine WD_gate rfl rfl rfl rfl rfl fun K_ hK_ => ?_ | refine WO_gate rfl rfl rfl rfl rfl fun K_ hK_ => ?_); simp only [upd_apply, asB_bool, asB_tup, ↓reduceIte, reduceCtorEq, Nat.reduceEqDiff, Bool.not_true, Bool.not_false]; refine hK_ _ ?_; clear hK_ K_)
  | refine gateK_no (by decide) ?_
  | ((try first | refine WO_op rfl rfl rfl ?_ | refine WO_op0 rfl rfl ?_ | refine WD_op rfl rfl rfl ?_ | refine WD_op0 rfl rfl ?_); (refine WV_gen fun Q_ hQ_ => ?_; simp (disch := first | omega | (simp only [List.length_cons, List.length_nil, List.length_append]; omega)) only [bb, bp, argF, ↓reduceIte, reduceCtorEq, Nat.reduceEqDiff, Nat.reduceLT, Nat.reduceLeDiff, Nat.reduceAdd, Nat.reduceMul, Nat.reduceSub, Nat.reduceBEq, Int.reduceToNat, cond_true, cond_false, eq_self, beq_self_eq_true, g6, g7, g8, g9, g10, tEvT15, bsl_25, bsl_81, newSlice_X wf]; first | (refine dec_split (Q := Q_) (fun hp_ => ?_) (fun hp_ => ?_) <;> first | (exfalso; omega) | (refine hQ_ _ _ ?_; clear hQ_ Q_)) | (refine dec_splitn (Q := Q_) (fun hp_ => ?_) (fun hp_ => ?_) <;> first | (exfalso; omega) | (refine hQ_ _ _ ?_; clear hQ_ Q_)) | (refine hQ_ _ _ ?_; clear hQ_ Q_)))
  | (refine WC_cond fun K_ hK_ => ?_; simp (disch := omega) only [evT_tmp, upd_apply, WB_some, ↓reduceIte, reduceCtorEq, Nat.reduceEqDiff, Nat.reduceLT]; refine hK_ _ ?_; clear hK_ K_)))
      refine WC_drawnB [.no, .no, .no, .no, .full] (by kernel_rfl) ?_
      (repeat' (first
  | (with_reducible first | refine WC_seq ?_ | refine WC_skip ?_ | refine WC_label ?_ | refine WC_scope ?_ | refine WC_block ?_ | refine WC_ret ?_ | refine WC_exit ?_ | refine seqQ_norm ?_ | refine seqQ_ret ?_ | refine seqQ_exit ?_ | refine blkQ_norm ?_ | refine blkQ_ret ?_ | refine blkQ_here ?_ | refine gateK_yes ?_ | refine gateK_none ?_ | refine condK_tt ?_ | refine condK_ff ?_ | refine roundQ_exit ?_ | refine roundQ_ret ?_)
  | refine WC_region ?_ | refine blkQ_out rfl ?_ | refine WO_nil ?_ | refine WD_nil ?_
  | ((first | refine WD_gate rfl rfl rfl rfl rfl fun K_ hK_ => ?_ | refine WO_gate rfl rfl rfl rfl rfl fun K_ hK_ => ?_); simp only [upd_apply, asB_bool, asB_tup, ↓reduceIte, reduceCtorEq, Nat.reduceEqDiff, Bool.not_true, Bool.not_false]; refine hK_ _ ?_; clear hK_ K_)
  | refine gateK_no (by decide) ?_
  | ((try first | refine WO_op rfl rfl rfl ?_ | refine WO_op0 rfl rfl ?_ | refine WD_op rfl rfl rfl ?_ | refine WD_op0 rfl rfl ?_); (refine WV_gen fun Q_ hQ_ => ?_; simp (disch := first | omega | (simp only [List.length_cons, List.length_nil, List.length_append]; omega)) only [bb, bp, argF, ↓reduceIte, reduceCtorEq, Nat.reduceEqDiff, Nat.reduceLT, Nat.reduceLeDiff, Nat.reduceAdd, Nat.reduceMul, Nat.reduceSub, Nat.reduceBEq, Int.reduceToNat, cond_true, cond_false, eq_self, beq_self_eq_true, g6, g7, g8, g9, g10, hl8, hld1, hla, tEvT15, bsl_25, bsl_81, newSlice_X wf]; first | (refine dec_split (Q := Q_) (fun hp_ => ?_) (fun hp_ => ?_) <;> first | (exfalso; omega) | (refine hQ_ _ _ ?_; clear hQ_ Q_)) | (refine dec_splitn (Q := Q_) (fun hp_ => ?_) (fun hp_ => ?_) <;> first | (exfalso; omega) | (refine hQ_ _ _ ?_; clear hQ_ Q_)) | (refine hQ_ _ _ ?_; clear hQ_ Q_)))
  | (refine WC_cond fun K_ hK_ => ?_; simp (disch := omega) only [evT_tmp, upd_apply, WB_some, ↓reduceIte, reduceCtorEq, Nat.reduceEqDiff, Nat.reduceLT]; refine hK_ _ ?_; clear hK_ K_)))
      (repeat' (first
  | (with_reducible first | refine WC_seq ?_ | refine WC_skip ?_ | refine WC_label ?_ | refine WC_scope ?_ | refine WC_block ?_ | refine WC_ret ?_ | refine WC_exit ?_ | refine seqQ_norm ?_ | refine seqQ_ret ?_ | refine seqQ_exit ?_ | refine blkQ_norm ?_ | refine blkQ_ret ?_ | refine blkQ_here ?_ | refine gateK_yes ?_ | refine gateK_none ?_ | refine condK_tt ?_ | refine condK_ff ?_ | refine roundQ_exit ?_ | refine roundQ_ret ?_)
  | refine WC_region ?_ | refine blkQ_out rfl ?_ | refine WO_nil ?_ | refine WD_nil ?_
  | ((first | refine WD_gate rfl rfl rfl rfl rfl fun K_ hK_ => ?_ | refine WO_gate rfl rfl rfl rfl rfl fun K_ hK_ => ?_); simp only [upd_apply, asB_bool, asB_tup, ↓reduceIte, reduceCtorEq, Nat.reduceEqDiff, Bool.not_true, Bool.not_false]; refine hK_ _ ?_; clear hK_ K_)
  | refine gateK_no (by decide) ?_
  | ((try first | refine WO_op rfl rfl rfl ?_ | refine WO_op0 rfl rfl ?_ | refine WD_op rfl rfl rfl ?_ | refine WD_op0 rfl rfl ?_); (refine WV_gen fun Q_ hQ_ => ?_; simp (disch := first | omega | (simp only [List.length_cons, List.length_nil, List.length_append]; omega)) only [bb, bp, argF, ↓reduceIte, reduceCtorEq, Nat.reduceEqDiff, Nat.reduceLT, Nat.reduceLeDiff, Nat.reduceAdd, Nat.reduceMul, Nat.reduceSub, Nat.reduceBEq, Int.reduceToNat, cond_true, cond_false, eq_self, beq_self_eq_true, g6, g7, g8, g9, g10, tEvT15, bsl_25, bsl_81, newSlice_X wf]; first | (refine dec_split (Q := Q_) (fun hp_ => ?_) (fun hp_ => ?_) <;> first | (exfalso; omega) | (refine hQ_ _ _ ?_; clear hQ_ Q_)) | (refine dec_splitn (Q := Q_) (fun hp_ => ?_) (fun hp_ => ?_) <;> first | (exfalso; omega) | (refine hQ_ _ _ ?_; clear hQ_ Q_)) | (refine hQ_ _ _ ?_; clear hQ_ Q_)))
  | (refine WC_cond fun K_ hK_ => ?_; simp (disch := omega) only [evT_tmp, upd_apply, WB_some, ↓reduceIte, reduceCtorEq, Nat.reduceEqDiff, Nat.reduceLT]; refine hK_ _ ?_; clear hK_ K_)))
      refine endQ_ret _ _ rfl (ret3 (by decide) (by decide) (by decide)) ?_
      simp only [upd_apply, ↓reduceIte, reduceCtorEq, Nat.reduceEqDiff]
      have hmin : ∀ w', h.clock ≤ w' → min h.w w' = h.w := fun w' h' => by have := wf.wle; omega
      refine WV_ext (by
        obtain ⟨_, _, rfl, _⟩ := hlv
        exact Bool.and_false _) ?_
      rw [hmin _ hw1]
      exact ⟨G, lv, rfl, rfl, hlv⟩
  · refine ⟨by omega, by simp only [upd_apply, ↓reduceIte, reduceCtorEq, Nat.reduceEqDiff], by simp only [upd_apply, ↓reduceIte, reduceCtorEq, Nat.reduceEqDiff], by simp only [upd_apply, ↓reduceIte, reduceCtorEq, Nat.reduceEqDiff], by simp only [upd_apply, ↓reduceIte, reduceCtorEq, Nat.reduceEqDiff], rfl, _, ⟨1, p.1, p.2, 0⟩, [p.1, p.2], _, _, rfl, rfl, starts_ok hsp hmem, rfl, ⟨L.length + 3 + 1 + 1, some 2, by simp only [upd_apply, ↓reduceIte, reduceCtorEq, Nat.reduceEqDiff]; rfl, ?_, .inr rfl⟩, rfl, ?_, rfl, ?_, ?_, ?_, Nat.le_refl _, by omega⟩
    · simp only [List.getElem?_cons_succ, app_len, List.getElem?_cons_zero]
      rfl
    · rw [hline]; rfl
    · rw [show 2 + k = k + 1 + 1 from by omega]
      simp only [List.getElem?_cons_succ]
      rw [List.getElem?_append_left hkl, hk]
    · simp only [List.getElem?_cons_succ, app_len0, List.getElem?_cons_zero]
    · simp only [List.getElem?_cons_succ, app_len, List.getElem?_cons_zero]
      rfl
end Go.Proofs.YtkmdidplmfdikaaDoor
end

/- EvFo -/
section
/-
  ALL LINES WITHIN SPOTS, IN ORDER.
-/
namespace Go.Ev
def linesR : List (Int × Int) → List Int → List (List Int)
  | [], bs => [bs]
  | r :: R, bs => (offs r).flatMap fun y => linesR R (bs ++ [y])
/-- How many lines there are. -/
def manyL : List (Int × Int) → Nat
  | [] => 1
  | r :: R => (offs r).length * manyL R
end Go.Ev
end

/- EvFp -/
section
/-
  FAIR LINES, ON LISTS: wider spots, a lesser turn, lines that are cut.
-/
namespace Go.Ev
/-- Each spot of the one is within that of the other. -/
def Within : List (Int × Int) → List (Int × Int) → Prop
  | [], [] => True
  | r :: R, s :: S => (s.1 ≤ r.1 ∧ r.2 ≤ s.2) ∧ Within R S
  | _, _ => False
theorem InR.wider : ∀ {R S : List (Int × Int)} {l : List Int}, Within R S → InR R l → InR S l
  | [], [], _, _, h => h
  | r :: R, s :: S, _, ⟨h1, h2⟩, ⟨c, cs, e, c1, c2, h⟩ => ⟨c, cs, e, by omega, by omega, InR.wider h2 h⟩
  | [], _ :: _, _, h, _ => h.elim
  | _ :: _, [], _, h, _ => h.elim
theorem Within.refl : ∀ R : List (Int × Int), Within R R
  | [] => trivial
  | r :: R => ⟨⟨Int.le_refl _, Int.le_refl _⟩, Within.refl R⟩
theorem Within.set : ∀ (R : List (Int × Int)) (k : Nat) (s : Int × Int), (∀ r, R[k]? = some r → s.1 ≤ r.1 ∧ r.2 ≤ s.2) → Within R (R.set k s)
  | [], _, _, _ => trivial
  | r :: R, 0, s, h => ⟨h r rfl, Within.refl R⟩
  | r :: R, k + 1, s, h => ⟨⟨Int.le_refl _, Int.le_refl _⟩, Within.set R k s (fun q hq => h q (by simpa using hq))⟩
theorem InR.cut : ∀ {R S : List (Int × Int)} {l : List Int}, InR (R ++ S) l → ∃ p q, l = p ++ q ∧ InR R p ∧ InR S q
  | [], S, l, h => ⟨[], l, rfl, rfl, h⟩
  | r :: R, S, _, ⟨c, cs, rfl, h1, h2, h⟩ => by
    obtain ⟨p, q, e, hp, hq⟩ := InR.cut (R := R) h
    exact ⟨c :: p, q, by rw [e]; rfl, ⟨c, p, rfl, h1, h2, hp⟩, hq⟩
end Go.Ev
end

/- EvFq -/
section
/-
  LINES BY NUMBERS: within spots.
-/
namespace Go.Ev
/-- What the k-th offset of a line by numbers is. -/
def byI (bs : List Int) (r : Int × Int) (k : Nat) : Int := r.1 + (if bs.length = 0 then 0 else bs.getD (k % bs.length) 0 % (r.2 - r.1 + 1))
def lineB (sp : List (Int × Int)) (bs : List Int) (n : Nat) : List Int := (List.range n).map fun k => byI bs (spot sp k) k
theorem lineB_length (sp : List (Int × Int)) (bs : List Int) (n : Nat) : (lineB sp bs n).length = n := by unfold lineB; simp
theorem lineB_snoc (sp : List (Int × Int)) (bs : List Int) (n : Nat) : lineB sp bs (n + 1) = lineB sp bs n ++ [byI bs (spot sp n) n] := by unfold lineB; rw [List.range_succ, List.map_append]; rfl
theorem byI_in (bs : List Int) {r : Int × Int} (h : r.1 ≤ r.2) (k : Nat) : r.1 ≤ byI bs r k ∧ byI bs r k ≤ r.2 := by
  unfold byI
  split
  · omega
  · have h1 := Int.emod_nonneg (bs.getD (k % bs.length) 0) (show r.2 - r.1 + 1 ≠ 0 by omega)
    have h2 := Int.emod_lt_of_pos (bs.getD (k % bs.length) 0) (show 0 < r.2 - r.1 + 1 by omega)
    omega
theorem InR.of_get : ∀ {R : List (Int × Int)} {l : List Int}, l.length = R.length → (∀ i (hi : i < R.length) (hl : i < l.length), R[i].1 ≤ l[i] ∧ l[i] ≤ R[i].2) → InR R l
  | [], [], _, _ => rfl
  | r :: R, c :: cs, e, h => ⟨c, cs, rfl, (h 0 (by simp) (by simp)).1, (h 0 (by simp) (by simp)).2, InR.of_get (by simpa using e) fun i hi hl => by
      have := h (i + 1) (by simp; omega) (by simp; omega)
      simpa using this⟩
theorem lineB_in {sp : List (Int × Int)} (bs : List Int) (hok : ∀ r ∈ sp, r.1 ≤ r.2) : InR sp (lineB sp bs sp.length) := by
  refine InR.of_get (lineB_length _ _ _) fun i hi hl => ?_
  have e : (lineB sp bs sp.length)[i] = byI bs (spot sp i) i := by
    apply Option.some.inj
    rw [← List.getElem?_eq_getElem hl]
    unfold lineB
    rw [List.getElem?_map, List.getElem?_range hi]; rfl
  rw [e, spot_get hi]
  exact byI_in bs (hok _ (by rw [← spot_get hi]; exact List.getElem_mem hi)) i
end Go.Ev
end

/- EvV1 -/
section
/-
  LAYER 1, law: a line by numbers.
-/
namespace Go.Proofs.YtkmdidplmfdikaaDoor
open Go.Ev
set_option maxRecDepth 100000
set_option linter.unusedSimpArgs false
set_option linter.unusedVariables false
set_option maxHeartbeats 4000000

theorem tEvV1 : type_of% (And.intro (And.intro (And.intro (And.intro (@bs_71) (@ia_2)) (And.intro (@sz_2) (@ia_3))) (And.intro (And.intro (@sz_3) (@ia_5)) (And.intro (@sz_5) (@ia_22)))) (And.intro (And.intro (And.intro (@ia_45) (@ia_25)) (And.intro (@fo_51_0) (@fo_51_1))) (And.intro (And.intro (@fo_24_0) (@fo_24_1)) (And.intro (@pb_29) (@ni_25))))) := And.intro (And.intro (And.intro (And.intro (@bs_71) (@ia_2)) (And.intro (@sz_2) (@ia_3))) (And.intro (And.intro (@sz_3) (@ia_5)) (And.intro (@sz_5) (@ia_22)))) (And.intro (And.intro (And.intro (@ia_45) (@ia_25)) (And.intro (@fo_51_0) (@fo_51_1))) (And.intro (And.intro (@fo_24_0) (@fo_24_1)) (And.intro (@pb_29) (@ni_25))))
abbrev u8 (n : Int) : AV := .int .u8 n
theorem Line (sp : List (Int × Int)) (hn0 : sp.length ≠ 0) (hn : sp.length ≤ 24) (hok : ∀ r ∈ sp, SpotOK r) (bs : List Int) (hbl : bs.length ≤ 40) (hb8 : ∀ n ∈ bs, 0 ≤ n ∧ n ≤ 255) (a : AV) (turn : Int) (b : AV) (h : H) (wf : Wf h) (hs : Sl h a 2 sp.length (spotCells sp)) (hb : Sl h b 1 bs.length (bs.map u8)) :
    WV ((om Tryd.prog KK).call (.fn 29 [.agg [a, ii turn], b]) h) fun v h' => ∃ M, h' = X h M h.w ∧ LineV h M 2 v ((lineB sp bs sp.length).map ii) := by
  have hlen : ∀ h', lenE Tryd.prog 22 a h' = some (ii (sp.length : Int)) := fun h' => hs.len un_22
  have hlb : ∀ h', lenE Tryd.prog 45 b h' = some (ii (bs.length : Int)) := fun h' => hb.len un_45
  have ha1 : oneB a = true ∧ AV.cells a = [a] := by obtain ⟨_, ⟨rfl, _⟩ | ⟨_, _, _, _, _, _, rfl, _⟩⟩ := hs <;> exact ⟨rfl, rfl⟩
  refine WV_call (fn := Tryd.f29) Tryd.func29 rfl rfl rfl rfl rfl ?_
  simp only [argF]
  (repeat' (first
  | (with_reducible first | refine WC_seq ?_ | refine WC_skip ?_ | refine WC_label ?_ | refine WC_scope ?_ | refine WC_block ?_ | refine WC_ret ?_ | refine WC_exit ?_ | refine seqQ_norm ?_ | refine seqQ_ret ?_ | refine seqQ_exit ?_ | refine blkQ_norm ?_ | refine blkQ_ret ?_ | refine blkQ_here ?_ | refine gateK_yes ?_ | refine gateK_none ?_ | refine condK_tt ?_ | refine condK_ff ?_ | refine roundQ_exit ?_ | refine roundQ_ret ?_)
  | refine WC_region ?_ | refine blkQ_out rfl ?_ | refine WO_nil ?_ | refine WD_nil ?_
  | ((first | refine WD_gate rfl rfl rfl rfl rfl fun K_ hK_ => ?_ | refine WO_gate rfl rfl rfl rfl rfl fun K_ hK_ => ?_); simp only [upd_apply, asB_bool, asB_tup, ↓reduceIte, reduceCtorEq, Nat.reduceEqDiff, Bool.not_true, Bool.not_false]; refine hK_ _ ?_; clear hK_ K_)
  | refine gateK_no (by decide) ?_
  | ((try first | refine WO_op rfl rfl rfl ?_ | refine WO_op0 rfl rfl ?_ | refine WD_op rfl rfl rfl ?_ | refine WD_op0 rfl rfl ?_); (refine WV_gen fun Q_ hQ_ => ?_; simp (disch := first | omega | (simp only [List.length_cons, List.length_nil, List.length_append]; omega)) only [bb, bp, argF, ↓reduceIte, reduceCtorEq, Nat.reduceEqDiff, Nat.reduceLT, Nat.reduceLeDiff, Nat.reduceAdd, Nat.reduceMul, Nat.reduceSub, Nat.reduceBEq, Int.reduceToNat, cond_true, cond_false, eq_self, beq_self_eq_true, hlen, hlb, ha1.1, ha1.2, newPtr_X wf, load1_X wf, loadAgg_X wf, store1_X wf, writeCells_X wf, tEvV1, bsl_25, newSlice_X wf]; first | (refine dec_split (Q := Q_) (fun hp_ => ?_) (fun hp_ => ?_) <;> first | (exfalso; omega) | (refine hQ_ _ _ ?_; clear hQ_ Q_)) | (refine dec_splitn (Q := Q_) (fun hp_ => ?_) (fun hp_ => ?_) <;> first | (exfalso; omega) | (refine hQ_ _ _ ?_; clear hQ_ Q_)) | (refine hQ_ _ _ ?_; clear hQ_ Q_)))
  | (refine WC_cond fun K_ hK_ => ?_; simp (disch := omega) only [evT_tmp, upd_apply, WB_some, ↓reduceIte, reduceCtorEq, Nat.reduceEqDiff, Nat.reduceLT]; refine hK_ _ ?_; clear hK_ K_)))
  refine WC_loop (fun (k : Nat) f d h' => k ≤ sp.length ∧ f 1 = b ∧ f 2 = .ptr (nx h 0) 0 ∧ f 6 = ii (k : Int) ∧ d = [] ∧ ∃ (G : List AO) (w : Nat), h' = X h (.cells (mkCells [a, ii turn]) 24 :: G) w ∧ Grow h [.cells (mkCells [a, ii turn]) 24] G (f 5) 1 2 k ((lineB sp bs k).map ii) ∧ h.clock ≤ w ∧ w ≤ h.clock + (G.length + 1)) (fun k => sp.length - k) ?_ (sp.length + 1) 0 (by omega) ?_
  · rintro k f d h' ⟨hk, g1, g2, g6, rfl, G, w, rfl, hg, hw1, hw2⟩
    generalize g5 : f 5 = ov at hg
    by_cases hlt : k < sp.length
    · obtain ⟨id0, off0, hix0, hld0⟩ := hs.at wf hlt ik_22
      have ho := hok _ (List.getElem_mem hlt)
      rw [spot_get hlt] at ho
      obtain ⟨o1, o2, o3, o4⟩ := ho
      have hlo : ∀ l w, load1 id0 off0 (X h l w) = some (ii (spot sp k).1) := fun l w => by have := (hld0 l w).1 0 (by decide); rw [Nat.add_zero, (spotCells_get hlt).1, spot_get hlt] at this; exact this
      have hhi : ∀ l w, load1 id0 (off0 + 1) (X h l w) = some (ii (spot sp k).2) := fun l w => by have := (hld0 l w).1 1 (by decide); rw [(spotCells_get hlt).2, spot_get hlt] at this; exact this
      have hr5 := hg.resz (P := Tryd.prog) 25
      have rs30 : ∀ (id : Pos) (off len c esz : Nat), reszT Tryd.prog 25 (.sl id off len (some c) esz) = .sl id off len (some c) 1 := fun id off len c esz => reszT_some Tryd.underlying25 sz_2
      have rest : ∀ (y : Int) (w : Nat), h.clock ≤ w → ∃ (v : AV) (G2 : List AO) (w' : Nat), Grow h [.cells (mkCells [a, ii turn]) 24] G2 v 1 2 (k + 1) ((lineB sp bs k).map ii ++ [ii y]) ∧ h.clock ≤ w' ∧ w' ≤ w ∧ G2.length = G.length + 2 ∧
          appendE Tryd.prog 25 ov (.sl (nx h (G.length + 1)) 0 1 (some 1) 1) (X h (.cells (mkCells [a, ii turn]) 24 :: (G ++ [.cells (mkCells [ii y]) 2])) w) = .ok v (X h (.cells (mkCells [a, ii turn]) 24 :: G2) w') := fun y w hw => by
        obtain ⟨v', G2, o', w', hch, hg', hw1', hw2', happ⟩ := (hg.keepK (Keep.more G [.cells (mkCells [ii y]) 2])).appendC (P := Tryd.prog) wf Tryd.underlying25 sz_2 el_2 (n := 1) (new := [ii y]) (x := .sl (nx h (G.length + 1)) 0 1 (some 1) 1) (t := 25) (by omega) (by decide) (by decide) rfl rfl (fun w => src_new (e := 2) wf (by simp only [List.cons_append, List.nil_append, List.getElem?_cons_succ, app_len0, List.getElem?_cons_zero]) rfl) w hw
        refine ⟨v', G2 ++ [o'], w', hg', hw1', hw2', ?_, happ⟩
        have := hch.1
        simp only [List.length_append, List.length_cons, List.length_nil] at this ⊢
        omega
      by_cases hb0 : bs.length = 0
      · have hy : byI bs (spot sp k) k = (spot sp k).1 := by unfold byI; rw [if_pos hb0]; omega
        (repeat' (first
  | (with_reducible first | refine WC_seq ?_ | refine WC_skip ?_ | refine WC_label ?_ | refine WC_scope ?_ | refine WC_block ?_ | refine WC_ret ?_ | refine WC_exit ?_ | refine seqQ_norm ?_ | refine seqQ_ret ?_ | refine seqQ_exit ?_ | refine blkQ_norm ?_ | refine blkQ_ret ?_ | refine blkQ_here ?_ | refine gateK_yes ?_ | refine gateK_none ?_ | refine condK_tt ?_ | refine condK_ff ?_ | refine roundQ_exit ?_ | refine roundQ_ret ?_)
  | refine WC_region ?_ | refine blkQ_out rfl ?_ | refine WO_nil ?_ | refine WD_nil ?_
  | ((first | refine WD_gate rfl rfl rfl rfl rfl fun K_ hK_ => ?_ | refine WO_gate rfl rfl rfl rfl rfl fun K_ hK_ => ?_); simp only [upd_apply, asB_bool, asB_tup, ↓reduceIte, reduceCtorEq, Nat.reduceEqDiff, Bool.not_true, Bool.not_false]; refine hK_ _ ?_; clear hK_ K_)
  | refine gateK_no (by decide) ?_
  | ((try first | refine WO_op rfl rfl rfl ?_ | refine WO_op0 rfl rfl ?_ | refine WD_op rfl rfl rfl ?_ | refine WD_op0 rfl rfl ?_); (refine WV_gen fun Q_ hQ_ => ?_; simp (disch := first | omega | (simp only [List.length_cons, List.length_nil, List.length_append]; omega)) only [bb, bp, argF, ↓reduceIte, reduceCtorEq, Nat.reduceEqDiff, Nat.reduceLT, Nat.reduceLeDiff, Nat.reduceAdd, Nat.reduceMul, Nat.reduceSub, Nat.reduceBEq, Int.reduceToNat, cond_true, cond_false, eq_self, beq_self_eq_true, g1, g2, g5, g6, hlen, hlb, hix0, hlo, hhi, hr5, rs30, newPtr_X wf, load1_X wf, loadAgg_X wf, store1_X wf, writeCells_X wf, tEvV1, bsl_25, newSlice_X wf]; first | (refine dec_split (Q := Q_) (fun hp_ => ?_) (fun hp_ => ?_) <;> first | (exfalso; omega) | (refine hQ_ _ _ ?_; clear hQ_ Q_)) | (refine dec_splitn (Q := Q_) (fun hp_ => ?_) (fun hp_ => ?_) <;> first | (exfalso; omega) | (refine hQ_ _ _ ?_; clear hQ_ Q_)) | (refine hQ_ _ _ ?_; clear hQ_ Q_)))
  | (refine WC_cond fun K_ hK_ => ?_; simp (disch := omega) only [evT_tmp, upd_apply, WB_some, ↓reduceIte, reduceCtorEq, Nat.reduceEqDiff, Nat.reduceLT]; refine hK_ _ ?_; clear hK_ K_)))
        obtain ⟨v, G2, w', hg2, hw3, hw4, hl2, happ⟩ := rest (spot sp k).1 w hw1
        (repeat' (first
  | (with_reducible first | refine WC_seq ?_ | refine WC_skip ?_ | refine WC_label ?_ | refine WC_scope ?_ | refine WC_block ?_ | refine WC_ret ?_ | refine WC_exit ?_ | refine seqQ_norm ?_ | refine seqQ_ret ?_ | refine seqQ_exit ?_ | refine blkQ_norm ?_ | refine blkQ_ret ?_ | refine blkQ_here ?_ | refine gateK_yes ?_ | refine gateK_none ?_ | refine condK_tt ?_ | refine condK_ff ?_ | refine roundQ_exit ?_ | refine roundQ_ret ?_)
  | refine WC_region ?_ | refine blkQ_out rfl ?_ | refine WO_nil ?_ | refine WD_nil ?_
  | ((first | refine WD_gate rfl rfl rfl rfl rfl fun K_ hK_ => ?_ | refine WO_gate rfl rfl rfl rfl rfl fun K_ hK_ => ?_); simp only [upd_apply, asB_bool, asB_tup, ↓reduceIte, reduceCtorEq, Nat.reduceEqDiff, Bool.not_true, Bool.not_false]; refine hK_ _ ?_; clear hK_ K_)
  | refine gateK_no (by decide) ?_
  | ((try first | refine WO_op rfl rfl rfl ?_ | refine WO_op0 rfl rfl ?_ | refine WD_op rfl rfl rfl ?_ | refine WD_op0 rfl rfl ?_); (refine WV_gen fun Q_ hQ_ => ?_; simp (disch := first | omega | (simp only [List.length_cons, List.length_nil, List.length_append]; omega)) only [bb, bp, argF, ↓reduceIte, reduceCtorEq, Nat.reduceEqDiff, Nat.reduceLT, Nat.reduceLeDiff, Nat.reduceAdd, Nat.reduceMul, Nat.reduceSub, Nat.reduceBEq, Int.reduceToNat, cond_true, cond_false, eq_self, beq_self_eq_true, g6, hr5, rs30, happ, newPtr_X wf, load1_X wf, loadAgg_X wf, store1_X wf, writeCells_X wf, tEvV1, bsl_25, newSlice_X wf]; first | (refine dec_split (Q := Q_) (fun hp_ => ?_) (fun hp_ => ?_) <;> first | (exfalso; omega) | (refine hQ_ _ _ ?_; clear hQ_ Q_)) | (refine dec_splitn (Q := Q_) (fun hp_ => ?_) (fun hp_ => ?_) <;> first | (exfalso; omega) | (refine hQ_ _ _ ?_; clear hQ_ Q_)) | (refine hQ_ _ _ ?_; clear hQ_ Q_)))
  | (refine WC_cond fun K_ hK_ => ?_; simp (disch := omega) only [evT_tmp, upd_apply, WB_some, ↓reduceIte, reduceCtorEq, Nat.reduceEqDiff, Nat.reduceLT]; refine hK_ _ ?_; clear hK_ K_)))
        refine roundQ_again (k + 1) (by omega) ⟨hlt, by simp only [upd_apply, ↓reduceIte, reduceCtorEq, Nat.reduceEqDiff]; exact g1, by simp only [upd_apply, ↓reduceIte, reduceCtorEq, Nat.reduceEqDiff]; exact g2, by simp only [upd_apply, ↓reduceIte, reduceCtorEq, Nat.reduceEqDiff]; rfl, rfl, G2, w', rfl, ?_, hw3, by omega⟩
        simp only [upd_apply, ↓reduceIte, reduceCtorEq, Nat.reduceEqDiff]
        rw [lineB_snoc, List.map_append, hy]
        exact hg2
      · obtain ⟨id1, off1, hix1, hld1⟩ := hb.at1 wf (i := k % bs.length) (Nat.mod_lt _ (by omega)) ik_45
        have hml : k % bs.length < bs.length := Nat.mod_lt _ (by omega)
        rw [List.getElem?_map, List.getElem?_eq_getElem hml, Option.map_some] at hld1
        have hrem : ∀ (x y : Operand), binE Tryd.prog .rem 3 x y (ii (k : Int)) (ii (bs.length : Int)) = some (ii ((k % bs.length : Nat) : Int)) := fun x y => b_rem (by omega)
        have hb1 := hb8 _ (List.getElem_mem hml)
        have hgd : bs.getD (k % bs.length) 0 = bs[k % bs.length] := by simp [hml]
        have hy : byI bs (spot sp k) k = (spot sp k).1 + bs[k % bs.length].tmod ((spot sp k).2 - (spot sp k).1 + 1) := by unfold byI; rw [if_neg hb0, hgd, Int.tmod_eq_emod_of_nonneg hb1.1]
        have hr2 : ∀ (x y : Operand), binE Tryd.prog .rem 2 x y (ii bs[k % bs.length]) (ii ((spot sp k).2 - (spot sp k).1 + 1)) = some (ii (bs[k % bs.length].tmod ((spot sp k).2 - (spot sp k).1 + 1))) := fun x y => b_rem (by omega)
        have hcv : convE Tryd.prog 5 2 (u8 bs[k % bs.length]) = some (ii bs[k % bs.length]) := by rw [c_int un_5 un_2, wrap_in _ (by omega) (by omega)]
        have hin := byI_in bs o3 k
        rw [hy] at hin
        generalize hbe : bs[k % bs.length] = be at *
        generalize htm : be.tmod ((spot sp k).2 - (spot sp k).1 + 1) = tm at *
        (repeat' (first
  | (with_reducible first | refine WC_seq ?_ | refine WC_skip ?_ | refine WC_label ?_ | refine WC_scope ?_ | refine WC_block ?_ | refine WC_ret ?_ | refine WC_exit ?_ | refine seqQ_norm ?_ | refine seqQ_ret ?_ | refine seqQ_exit ?_ | refine blkQ_norm ?_ | refine blkQ_ret ?_ | refine blkQ_here ?_ | refine gateK_yes ?_ | refine gateK_none ?_ | refine condK_tt ?_ | refine condK_ff ?_ | refine roundQ_exit ?_ | refine roundQ_ret ?_)
  | refine WC_region ?_ | refine blkQ_out rfl ?_ | refine WO_nil ?_ | refine WD_nil ?_
  | ((first | refine WD_gate rfl rfl rfl rfl rfl fun K_ hK_ => ?_ | refine WO_gate rfl rfl rfl rfl rfl fun K_ hK_ => ?_); simp only [upd_apply, asB_bool, asB_tup, ↓reduceIte, reduceCtorEq, Nat.reduceEqDiff, Bool.not_true, Bool.not_false]; refine hK_ _ ?_; clear hK_ K_)
  | refine gateK_no (by decide) ?_
  | ((try first | refine WO_op rfl rfl rfl ?_ | refine WO_op0 rfl rfl ?_ | refine WD_op rfl rfl rfl ?_ | refine WD_op0 rfl rfl ?_); (refine WV_gen fun Q_ hQ_ => ?_; simp (disch := first | omega | (simp only [List.length_cons, List.length_nil, List.length_append]; omega)) only [bb, bp, argF, ↓reduceIte, reduceCtorEq, Nat.reduceEqDiff, Nat.reduceLT, Nat.reduceLeDiff, Nat.reduceAdd, Nat.reduceMul, Nat.reduceSub, Nat.reduceBEq, Int.reduceToNat, cond_true, cond_false, eq_self, beq_self_eq_true, g1, g2, g5, g6, hlen, hlb, hix0, hlo, hhi, hr5, rs30, newPtr_X wf, load1_X wf, loadAgg_X wf, store1_X wf, writeCells_X wf, tEvV1, bsl_25, newSlice_X wf]; first | (refine dec_split (Q := Q_) (fun hp_ => ?_) (fun hp_ => ?_) <;> first | (exfalso; omega) | (refine hQ_ _ _ ?_; clear hQ_ Q_)) | (refine dec_splitn (Q := Q_) (fun hp_ => ?_) (fun hp_ => ?_) <;> first | (exfalso; omega) | (refine hQ_ _ _ ?_; clear hQ_ Q_)) | (refine hQ_ _ _ ?_; clear hQ_ Q_)))
  | (refine WC_cond fun K_ hK_ => ?_; simp (disch := omega) only [evT_tmp, upd_apply, WB_some, ↓reduceIte, reduceCtorEq, Nat.reduceEqDiff, Nat.reduceLT]; refine hK_ _ ?_; clear hK_ K_)))
        refine WC_drawnB [.no, .no, .no, .no, .no, .no, .no, .no, .no, .no, .no, .no, .no, .no, .no, .no, .no, .no, .full, .full, .full] (by kernel_rfl) ?_
        (repeat' (first
  | (with_reducible first | refine WC_seq ?_ | refine WC_skip ?_ | refine WC_label ?_ | refine WC_scope ?_ | refine WC_block ?_ | refine WC_ret ?_ | refine WC_exit ?_ | refine seqQ_norm ?_ | refine seqQ_ret ?_ | refine seqQ_exit ?_ | refine blkQ_norm ?_ | refine blkQ_ret ?_ | refine blkQ_here ?_ | refine gateK_yes ?_ | refine gateK_none ?_ | refine condK_tt ?_ | refine condK_ff ?_ | refine roundQ_exit ?_ | refine roundQ_ret ?_)
  | refine WC_region ?_ | refine blkQ_out rfl ?_ | refine WO_nil ?_ | refine WD_nil ?_
  | ((first | refine WD_gate rfl rfl rfl rfl rfl fun K_ hK_ => ?_ | refine WO_gate rfl rfl rfl rfl rfl fun K_ hK_ => ?_); simp only [upd_apply, asB_bool, asB_tup, ↓reduceIte, reduceCtorEq, Nat.reduceEqDiff, Bool.not_true, Bool.not_false]; refine hK_ _ ?_; clear hK_ K_)
  | refine gateK_no (by decide) ?_
  | ((try first | refine WO_op rfl rfl rfl ?_ | refine WO_op0 rfl rfl ?_ | refine WD_op rfl rfl rfl ?_ | refine WD_op0 rfl rfl ?_); (refine WV_gen fun Q_ hQ_ => ?_; simp (disch := first | omega | (simp only [List.length_cons, List.length_nil, List.length_append]; omega)) only [bb, bp, argF, ↓reduceIte, reduceCtorEq, Nat.reduceEqDiff, Nat.reduceLT, Nat.reduceLeDiff, Nat.reduceAdd, Nat.reduceMul, Nat.reduceSub, Nat.reduceBEq, Int.reduceToNat, cond_true, cond_false, eq_self, beq_self_eq_true, g1, g2, g5, g6, hlen, hlb, hix0, hlo, hhi, hix1, hld1, hrem, hr2, hcv, hr5, rs30, newPtr_X wf, load1_X wf, loadAgg_X wf, store1_X wf, writeCells_X wf, tEvV1, bsl_25, newSlice_X wf]; first | (refine dec_split (Q := Q_) (fun hp_ => ?_) (fun hp_ => ?_) <;> first | (exfalso; omega) | (refine hQ_ _ _ ?_; clear hQ_ Q_)) | (refine dec_splitn (Q := Q_) (fun hp_ => ?_) (fun hp_ => ?_) <;> first | (exfalso; omega) | (refine hQ_ _ _ ?_; clear hQ_ Q_)) | (refine hQ_ _ _ ?_; clear hQ_ Q_)))
  | (refine WC_cond fun K_ hK_ => ?_; simp (disch := omega) only [evT_tmp, upd_apply, WB_some, ↓reduceIte, reduceCtorEq, Nat.reduceEqDiff, Nat.reduceLT]; refine hK_ _ ?_; clear hK_ K_)))
        obtain ⟨v, G2, w', hg2, hw3, hw4, hl2, happ⟩ := rest ((spot sp k).1 + tm) w hw1
        (repeat' (first
  | (with_reducible first | refine WC_seq ?_ | refine WC_skip ?_ | refine WC_label ?_ | refine WC_scope ?_ | refine WC_block ?_ | refine WC_ret ?_ | refine WC_exit ?_ | refine seqQ_norm ?_ | refine seqQ_ret ?_ | refine seqQ_exit ?_ | refine blkQ_norm ?_ | refine blkQ_ret ?_ | refine blkQ_here ?_ | refine gateK_yes ?_ | refine gateK_none ?_ | refine condK_tt ?_ | refine condK_ff ?_ | refine roundQ_exit ?_ | refine roundQ_ret ?_)
  | refine WC_region ?_ | refine blkQ_out rfl ?_ | refine WO_nil ?_ | refine WD_nil ?_
  | ((first | refine WD_gate rfl rfl rfl rfl rfl fun K_ hK_ => ?_ | refine WO_gate rfl rfl rfl rfl rfl fun K_ hK_ => ?_); simp only [upd_apply, asB_bool, asB_tup, ↓reduceIte, reduceCtorEq, Nat.reduceEqDiff, Bool.not_true, Bool.not_false]; refine hK_ _ ?_; clear hK_ K_)
  | refine gateK_no (by decide) ?_
  | ((try first | refine WO_op rfl rfl rfl ?_ | refine WO_op0 rfl rfl ?_ | refine WD_op rfl rfl rfl ?_ | refine WD_op0 rfl rfl ?_); (refine WV_gen fun Q_ hQ_ => ?_; simp (disch := first | omega | (simp only [List.length_cons, List.length_nil, List.length_append]; omega)) only [bb, bp, argF, ↓reduceIte, reduceCtorEq, Nat.reduceEqDiff, Nat.reduceLT, Nat.reduceLeDiff, Nat.reduceAdd, Nat.reduceMul, Nat.reduceSub, Nat.reduceBEq, Int.reduceToNat, cond_true, cond_false, eq_self, beq_self_eq_true, g6, hr5, rs30, happ, newPtr_X wf, load1_X wf, loadAgg_X wf, store1_X wf, writeCells_X wf, tEvV1, bsl_25, newSlice_X wf]; first | (refine dec_split (Q := Q_) (fun hp_ => ?_) (fun hp_ => ?_) <;> first | (exfalso; omega) | (refine hQ_ _ _ ?_; clear hQ_ Q_)) | (refine dec_splitn (Q := Q_) (fun hp_ => ?_) (fun hp_ => ?_) <;> first | (exfalso; omega) | (refine hQ_ _ _ ?_; clear hQ_ Q_)) | (refine hQ_ _ _ ?_; clear hQ_ Q_)))
  | (refine WC_cond fun K_ hK_ => ?_; simp (disch := omega) only [evT_tmp, upd_apply, WB_some, ↓reduceIte, reduceCtorEq, Nat.reduceEqDiff, Nat.reduceLT]; refine hK_ _ ?_; clear hK_ K_)))
        refine roundQ_again (k + 1) (by omega) ⟨hlt, by simp only [upd_apply, ↓reduceIte, reduceCtorEq, Nat.reduceEqDiff]; exact g1, by simp only [upd_apply, ↓reduceIte, reduceCtorEq, Nat.reduceEqDiff]; exact g2, by simp only [upd_apply, ↓reduceIte, reduceCtorEq, Nat.reduceEqDiff]; rfl, rfl, G2, w', rfl, ?_, hw3, by omega⟩
        simp only [upd_apply, ↓reduceIte, reduceCtorEq, Nat.reduceEqDiff]
        rw [lineB_snoc, List.map_append, hy]
        exact hg2
    · have hke : k = sp.length := by omega
      subst hke
      (repeat' (first
  | (with_reducible first | refine WC_seq ?_ | refine WC_skip ?_ | refine WC_label ?_ | refine WC_scope ?_ | refine WC_block ?_ | refine WC_ret ?_ | refine WC_exit ?_ | refine seqQ_norm ?_ | refine seqQ_ret ?_ | refine seqQ_exit ?_ | refine blkQ_norm ?_ | refine blkQ_ret ?_ | refine blkQ_here ?_ | refine gateK_yes ?_ | refine gateK_none ?_ | refine condK_tt ?_ | refine condK_ff ?_ | refine roundQ_exit ?_ | refine roundQ_ret ?_)
  | refine WC_region ?_ | refine blkQ_out rfl ?_ | refine WO_nil ?_ | refine WD_nil ?_
  | ((first | refine WD_gate rfl rfl rfl rfl rfl fun K_ hK_ => ?_ | refine WO_gate rfl rfl rfl rfl rfl fun K_ hK_ => ?_); simp only [upd_apply, asB_bool, asB_tup, ↓reduceIte, reduceCtorEq, Nat.reduceEqDiff, Bool.not_true, Bool.not_false]; refine hK_ _ ?_; clear hK_ K_)
  | refine gateK_no (by decide) ?_
  | ((try first | refine WO_op rfl rfl rfl ?_ | refine WO_op0 rfl rfl ?_ | refine WD_op rfl rfl rfl ?_ | refine WD_op0 rfl rfl ?_); (refine WV_gen fun Q_ hQ_ => ?_; simp (disch := first | omega | (simp only [List.length_cons, List.length_nil, List.length_append]; omega)) only [bb, bp, argF, ↓reduceIte, reduceCtorEq, Nat.reduceEqDiff, Nat.reduceLT, Nat.reduceLeDiff, Nat.reduceAdd, Nat.reduceMul, Nat.reduceSub, Nat.reduceBEq, Int.reduceToNat, cond_true, cond_false, eq_self, beq_self_eq_true, g1, g2, g5, g6, hlen, hlb, newPtr_X wf, load1_X wf, loadAgg_X wf, store1_X wf, writeCells_X wf, tEvV1, bsl_25, newSlice_X wf]; first | (refine dec_split (Q := Q_) (fun hp_ => ?_) (fun hp_ => ?_) <;> first | (exfalso; omega) | (refine hQ_ _ _ ?_; clear hQ_ Q_)) | (refine dec_splitn (Q := Q_) (fun hp_ => ?_) (fun hp_ => ?_) <;> first | (exfalso; omega) | (refine hQ_ _ _ ?_; clear hQ_ Q_)) | (refine hQ_ _ _ ?_; clear hQ_ Q_)))
  | (refine WC_cond fun K_ hK_ => ?_; simp (disch := omega) only [evT_tmp, upd_apply, WB_some, ↓reduceIte, reduceCtorEq, Nat.reduceEqDiff, Nat.reduceLT]; refine hK_ _ ?_; clear hK_ K_)))
      refine endQ_ret _ _ rfl (ret1 (by decide)) ?_
      simp only [upd_apply, ↓reduceIte, reduceCtorEq, Nat.reduceEqDiff]
      have hmin : ∀ w', h.clock ≤ w' → min h.w w' = h.w := fun w' h' => by have := wf.wle; omega
      obtain ⟨hgl, ⟨h0, rfl⟩ | ⟨idx, rfl, hgi⟩⟩ := hg
      · exact absurd h0 hn0
      · refine WV_ext (by
          show (_ && flat (.sl _ 0 _ none 1)) = false
          exact Bool.and_false _) ?_
        rw [hmin _ hw1]
        have hl1 : ((lineB sp bs sp.length).map ii).length = sp.length := by rw [List.length_map, lineB_length]
        exact ⟨_, rfl, ⟨idx + 1, none, by rw [hl1, Nat.add_comm]; rfl, by simp only [List.getElem?_cons_succ]; exact hgi, .inl rfl⟩⟩
  · exact ⟨Nat.zero_le _, by simp only [upd_apply, ↓reduceIte, reduceCtorEq, Nat.reduceEqDiff], by simp only [upd_apply, ↓reduceIte, reduceCtorEq, Nat.reduceEqDiff], by simp only [upd_apply, ↓reduceIte, reduceCtorEq, Nat.reduceEqDiff]; rfl, rfl, [], _, rfl, by simp only [upd_apply, ↓reduceIte, reduceCtorEq, Nat.reduceEqDiff]; exact Grow.nil _ _ _ _ _, Nat.le_refl _, by simp⟩
end Go.Proofs.YtkmdidplmfdikaaDoor
end

/- EvW -/
section
/-
  LAYER 1: what the laws call: the fairest line, and the closed part.
-/
namespace Go.Proofs.YtkmdidplmfdikaaDoor
open Go.Ev
set_option maxRecDepth 100000
set_option linter.unusedSimpArgs false
set_option linter.unusedVariables false
set_option maxHeartbeats 4000000

theorem tEvW : type_of% (And.intro (And.intro (And.intro (And.intro (@bs_71) (And.intro (@ia_2) (@sz_2))) (And.intro (And.intro (@ia_3) (@sz_3)) (And.intro (@ia_27) (@ia_51)))) (And.intro (And.intro (@sz_51) (And.intro (@ia_71) (@sz_71))) (And.intro (And.intro (@ia_24) (@sz_24)) (And.intro (@ia_22) (@ia_25))))) (And.intro (And.intro (And.intro (@fo_71_0) (And.intro (@fo_71_1) (@fo_71_2))) (And.intro (And.intro (@fo_71_3) (@fo_51_0)) (And.intro (@fo_51_1) (@fo_24_0)))) (And.intro (And.intro (And.intro (@fo_24_1) (@ze_71)) (And.intro (@ze_51) (@pb_14))) (And.intro (And.intro (@pb_15) (@pb_9)) (And.intro (@pb_17) (@ni_25)))))) := And.intro (And.intro (And.intro (And.intro (@bs_71) (And.intro (@ia_2) (@sz_2))) (And.intro (And.intro (@ia_3) (@sz_3)) (And.intro (@ia_27) (@ia_51)))) (And.intro (And.intro (@sz_51) (And.intro (@ia_71) (@sz_71))) (And.intro (And.intro (@ia_24) (@sz_24)) (And.intro (@ia_22) (@ia_25))))) (And.intro (And.intro (And.intro (@fo_71_0) (And.intro (@fo_71_1) (@fo_71_2))) (And.intro (And.intro (@fo_71_3) (@fo_51_0)) (And.intro (@fo_51_1) (@fo_24_0)))) (And.intro (And.intro (And.intro (@fo_24_1) (@ze_71)) (And.intro (@ze_51) (@pb_14))) (And.intro (And.intro (@pb_15) (@pb_9)) (And.intro (@pb_17) (@ni_25)))))
theorem rCheckSpots (sp : List (Int × Int)) (turn : Int) (a : AV) (hn : sp.length ≤ 1000000) (h : H) (wf : Wf h) (hs : Sl h a 2 sp.length (spotCells sp)) :
    (om Tryd.prog KK).call (.fn 15 [.agg [a, ii turn]]) h = .ok (ii (spotsR sp turn)) h := by
  refine WV_to (WV_call (fn := Tryd.f15) Tryd.func15 rfl rfl rfl rfl rfl ?_)
  simp only [argF]
  have hlen : ∀ h', lenE Tryd.prog 22 a h' = some (ii (sp.length : Int)) := fun h' => hs.len un_22
  (repeat' (first
  | (with_reducible first | refine WC_seq ?_ | refine WC_skip ?_ | refine WC_label ?_ | refine WC_scope ?_ | refine WC_block ?_ | refine WC_ret ?_ | refine WC_exit ?_ | refine seqQ_norm ?_ | refine seqQ_ret ?_ | refine seqQ_exit ?_ | refine blkQ_norm ?_ | refine blkQ_ret ?_ | refine blkQ_here ?_ | refine gateK_yes ?_ | refine gateK_none ?_ | refine condK_tt ?_ | refine condK_ff ?_ | refine roundQ_exit ?_ | refine roundQ_ret ?_)
  | refine WC_region ?_ | refine blkQ_out rfl ?_ | refine WO_nil ?_ | refine WD_nil ?_
  | ((first | refine WD_gate rfl rfl rfl rfl rfl fun K_ hK_ => ?_ | refine WO_gate rfl rfl rfl rfl rfl fun K_ hK_ => ?_); simp only [upd_apply, asB_bool, asB_tup, ↓reduceIte, reduceCtorEq, Nat.reduceEqDiff, Bool.not_true, Bool.not_false]; refine hK_ _ ?_; clear hK_ K_)
  | refine gateK_no (by decide) ?_
  | ((try first | refine WO_op rfl rfl rfl ?_ | refine WO_op0 rfl rfl ?_ | refine WD_op rfl rfl rfl ?_ | refine WD_op0 rfl rfl ?_); (refine WV_gen fun Q_ hQ_ => ?_; simp (disch := first | omega | (simp only [List.length_cons, List.length_nil, List.length_append]; omega)) only [bb, bp, argF, ↓reduceIte, reduceCtorEq, Nat.reduceEqDiff, Nat.reduceLT, Nat.reduceLeDiff, Nat.reduceAdd, Nat.reduceMul, Nat.reduceSub, Nat.reduceBEq, Int.reduceToNat, cond_true, cond_false, eq_self, beq_self_eq_true, hlen, newPtr_X wf, load1_X wf, loadAgg_X wf, store1_X wf, writeCells_X wf, tEvW, bsl_25, newSlice_X wf]; first | (refine dec_split (Q := Q_) (fun hp_ => ?_) (fun hp_ => ?_) <;> first | (exfalso; omega) | (refine hQ_ _ _ ?_; clear hQ_ Q_)) | (refine dec_splitn (Q := Q_) (fun hp_ => ?_) (fun hp_ => ?_) <;> first | (exfalso; omega) | (refine hQ_ _ _ ?_; clear hQ_ Q_)) | (refine hQ_ _ _ ?_; clear hQ_ Q_)))
  | (refine WC_cond fun K_ hK_ => ?_; simp (disch := omega) only [evT_tmp, upd_apply, WB_some, ↓reduceIte, reduceCtorEq, Nat.reduceEqDiff, Nat.reduceLT]; refine hK_ _ ?_; clear hK_ K_)))
  · (refine endQ_ret _ _ rfl (ret1 (by decide)) ?_; simp only [upd_apply, ↓reduceIte, reduceCtorEq, Nat.reduceEqDiff]; refine WV_flat rfl (by omega) ?_)
    have e : spotsR sp turn = 6 := if_pos (by omega)
    rw [e]; exact ⟨rfl, rfl⟩
  · (refine endQ_ret _ _ rfl (ret1 (by decide)) ?_; simp only [upd_apply, ↓reduceIte, reduceCtorEq, Nat.reduceEqDiff]; refine WV_flat rfl (by omega) ?_)
    have e : spotsR sp turn = 6 := if_pos (by omega)
    rw [e]; exact ⟨rfl, rfl⟩
  · have e1 : ¬ (sp.length = 0 ∨ 24 < sp.length) := by omega
    (refine endQ_ret _ _ rfl (ret1 (by decide)) ?_; simp only [upd_apply, ↓reduceIte, reduceCtorEq, Nat.reduceEqDiff]; refine WV_flat rfl (by omega) ?_)
    have e : spotsR sp turn = 2 := by unfold spotsR; rw [if_neg e1, if_neg (by omega)]
    rw [e]; exact ⟨rfl, rfl⟩
  · have e1 : ¬ (sp.length = 0 ∨ 24 < sp.length) := by omega
    (refine endQ_ret _ _ rfl (ret1 (by decide)) ?_; simp only [upd_apply, ↓reduceIte, reduceCtorEq, Nat.reduceEqDiff]; refine WV_flat rfl (by omega) ?_)
    have e : spotsR sp turn = 2 := by unfold spotsR; rw [if_neg e1, if_neg (by omega)]
    rw [e]; exact ⟨rfl, rfl⟩
  have e1 : ¬ (sp.length = 0 ∨ 24 < sp.length) := by omega
  have ht : 0 ≤ turn ∧ turn ≤ 1000000 := by omega
  refine WC_loop (fun (k : Nat) f d h' => k ≤ sp.length ∧ f 1 = .ptr (nx h 0) 0 ∧ f 3 = ii (k : Int) ∧ d = [] ∧ (∃ G, h' = X h (.cells (mkCells [a, ii turn]) 24 :: G) h.clock) ∧ ∀ i (hi : i < sp.length), i < k → SpotOK sp[i]) (fun k => sp.length - k) ?_ (sp.length + 1) 0 (by omega) ?_
  · rintro k f d h' ⟨hk, h1, h3, rfl, ⟨G, rfl⟩, hall⟩
    by_cases hlt : k < sp.length
    · obtain ⟨id, off, hix, hld⟩ := hs.at wf hlt ik_22
      have hld' : ∀ l w, loadAgg id off (some 2) (X h l w) = some (.agg [ii sp[k].1, ii sp[k].2]) := fun l w => by rw [(hld l w).2, spotCells_at hlt]
      clear hld
      (repeat' (first
  | (with_reducible first | refine WC_seq ?_ | refine WC_skip ?_ | refine WC_label ?_ | refine WC_scope ?_ | refine WC_block ?_ | refine WC_ret ?_ | refine WC_exit ?_ | refine seqQ_norm ?_ | refine seqQ_ret ?_ | refine seqQ_exit ?_ | refine blkQ_norm ?_ | refine blkQ_ret ?_ | refine blkQ_here ?_ | refine gateK_yes ?_ | refine gateK_none ?_ | refine condK_tt ?_ | refine condK_ff ?_ | refine roundQ_exit ?_ | refine roundQ_ret ?_)
  | refine WC_region ?_ | refine blkQ_out rfl ?_ | refine WO_nil ?_ | refine WD_nil ?_
  | ((first | refine WD_gate rfl rfl rfl rfl rfl fun K_ hK_ => ?_ | refine WO_gate rfl rfl rfl rfl rfl fun K_ hK_ => ?_); simp only [upd_apply, asB_bool, asB_tup, ↓reduceIte, reduceCtorEq, Nat.reduceEqDiff, Bool.not_true, Bool.not_false]; refine hK_ _ ?_; clear hK_ K_)
  | refine gateK_no (by decide) ?_
  | ((try first | refine WO_op rfl rfl rfl ?_ | refine WO_op0 rfl rfl ?_ | refine WD_op rfl rfl rfl ?_ | refine WD_op0 rfl rfl ?_); (refine WV_gen fun Q_ hQ_ => ?_; simp (disch := first | omega | (simp only [List.length_cons, List.length_nil, List.length_append]; omega)) only [bb, bp, argF, ↓reduceIte, reduceCtorEq, Nat.reduceEqDiff, Nat.reduceLT, Nat.reduceLeDiff, Nat.reduceAdd, Nat.reduceMul, Nat.reduceSub, Nat.reduceBEq, Int.reduceToNat, cond_true, cond_false, eq_self, beq_self_eq_true, h1, h3, hlen, hix, hld', newPtr_X wf, load1_X wf, loadAgg_X wf, store1_X wf, writeCells_X wf, tEvW, bsl_25, newSlice_X wf]; first | (refine dec_split (Q := Q_) (fun hp_ => ?_) (fun hp_ => ?_) <;> first | (exfalso; omega) | (refine hQ_ _ _ ?_; clear hQ_ Q_)) | (refine dec_splitn (Q := Q_) (fun hp_ => ?_) (fun hp_ => ?_) <;> first | (exfalso; omega) | (refine hQ_ _ _ ?_; clear hQ_ Q_)) | (refine hQ_ _ _ ?_; clear hQ_ Q_)))
  | (refine WC_cond fun K_ hK_ => ?_; simp (disch := omega) only [evT_tmp, upd_apply, WB_some, ↓reduceIte, reduceCtorEq, Nat.reduceEqDiff, Nat.reduceLT]; refine hK_ _ ?_; clear hK_ K_)))
      iterate 4
        · (refine endQ_ret _ _ rfl (ret1 (by decide)) ?_; simp only [upd_apply, ↓reduceIte, reduceCtorEq, Nat.reduceEqDiff]; refine WV_flat rfl (by omega) ?_)
          have hno : ¬ SpotOK sp[k] := by unfold SpotOK; omega
          have e : spotsR sp turn = 2 := by unfold spotsR; rw [if_neg e1, if_neg (fun hh => all_not (p := SpotOK) hlt hno hh.1)]
          rw [e]; exact ⟨rfl, rfl⟩
      · have hok : SpotOK sp[k] := by unfold SpotOK; omega
        exact roundQ_again (k + 1) (by omega) ⟨hlt, by simp only [upd_apply, ↓reduceIte, reduceCtorEq, Nat.reduceEqDiff]; exact h1, by simp only [upd_apply, ↓reduceIte, reduceCtorEq, Nat.reduceEqDiff]; rfl, rfl, ⟨_, rfl⟩, all_step hlt hall hok⟩
    · have hkl : k = sp.length := by omega
      subst hkl
      have hx := all_done hall
      (repeat' (first
  | (with_reducible first | refine WC_seq ?_ | refine WC_skip ?_ | refine WC_label ?_ | refine WC_scope ?_ | refine WC_block ?_ | refine WC_ret ?_ | refine WC_exit ?_ | refine seqQ_norm ?_ | refine seqQ_ret ?_ | refine seqQ_exit ?_ | refine blkQ_norm ?_ | refine blkQ_ret ?_ | refine blkQ_here ?_ | refine gateK_yes ?_ | refine gateK_none ?_ | refine condK_tt ?_ | refine condK_ff ?_ | refine roundQ_exit ?_ | refine roundQ_ret ?_)
  | refine WC_region ?_ | refine blkQ_out rfl ?_ | refine WO_nil ?_ | refine WD_nil ?_
  | ((first | refine WD_gate rfl rfl rfl rfl rfl fun K_ hK_ => ?_ | refine WO_gate rfl rfl rfl rfl rfl fun K_ hK_ => ?_); simp only [upd_apply, asB_bool, asB_tup, ↓reduceIte, reduceCtorEq, Nat.reduceEqDiff, Bool.not_true, Bool.not_false]; refine hK_ _ ?_; clear hK_ K_)
  | refine gateK_no (by decide) ?_
  | ((try first | refine WO_op rfl rfl rfl ?_ | refine WO_op0 rfl rfl ?_ | refine WD_op rfl rfl rfl ?_ | refine WD_op0 rfl rfl ?_); (refine WV_gen fun Q_ hQ_ => ?_; simp (disch := first | omega | (simp only [List.length_cons, List.length_nil, List.length_append]; omega)) only [bb, bp, argF, ↓reduceIte, reduceCtorEq, Nat.reduceEqDiff, Nat.reduceLT, Nat.reduceLeDiff, Nat.reduceAdd, Nat.reduceMul, Nat.reduceSub, Nat.reduceBEq, Int.reduceToNat, cond_true, cond_false, eq_self, beq_self_eq_true, h1, h3, hlen, newPtr_X wf, load1_X wf, loadAgg_X wf, store1_X wf, writeCells_X wf, tEvW, bsl_25, newSlice_X wf]; first | (refine dec_split (Q := Q_) (fun hp_ => ?_) (fun hp_ => ?_) <;> first | (exfalso; omega) | (refine hQ_ _ _ ?_; clear hQ_ Q_)) | (refine dec_splitn (Q := Q_) (fun hp_ => ?_) (fun hp_ => ?_) <;> first | (exfalso; omega) | (refine hQ_ _ _ ?_; clear hQ_ Q_)) | (refine hQ_ _ _ ?_; clear hQ_ Q_)))
  | (refine WC_cond fun K_ hK_ => ?_; simp (disch := omega) only [evT_tmp, upd_apply, WB_some, ↓reduceIte, reduceCtorEq, Nat.reduceEqDiff, Nat.reduceLT]; refine hK_ _ ?_; clear hK_ K_)))
      (refine endQ_ret _ _ rfl (ret1 (by decide)) ?_; simp only [upd_apply, ↓reduceIte, reduceCtorEq, Nat.reduceEqDiff]; refine WV_flat rfl (by omega) ?_)
      have e : spotsR sp turn = 0 := by unfold spotsR; rw [if_neg e1, if_pos ⟨hx, ht⟩]
      rw [e]; exact ⟨rfl, rfl⟩
  · refine ⟨Nat.zero_le _, by simp only [upd_apply, ↓reduceIte, reduceCtorEq, Nat.reduceEqDiff], by simp only [upd_apply, ↓reduceIte, reduceCtorEq, Nat.reduceEqDiff]; rfl, rfl, ⟨[], rfl⟩, fun i _ hi => absurd hi (Nat.not_lt_zero i)⟩

noncomputable def farCells : List AV := [ii 1099511627776, ii 1099511627776, ii 1099511627776]
/-- The table of the package lies where it is laid. -/
def Tab (h : H) : Prop := ∃ f, Ev.getObj (posN 0) h = some (AO.ro f) ∧ f 0 = some (ii 1099511627776) ∧ f 1 = some (ii 1099511627776) ∧ f 2 = some (ii 1099511627776)
theorem Tab.up {h : H} (wf : Wf h) (t : Tab h) (l : List AO) (w : Nat) : Tab (X h l w) := let ⟨f, h1, h2⟩ := t; ⟨f, getObj_old wf h1 l w, h2⟩
theorem works (h : H) (t : Tab h) : (om Tryd.prog KK).call (.fn 9 []) h = .ok (.bool true) h := by
  refine om_con (c := cW) (r := []) ?_
  have h1 : holds1 h (posN 0) farCells = true := by
    obtain ⟨f, t1, t2, t3, t4⟩ := t
    unfold holds1
    rw [t1]
    show (match readM f 3 0 with | some vs => eqFL vs farCells | none => false) = true
    have e : readM f 3 0 = some farCells := by
      simp only [readM, Nat.succ_eq_add_one, Nat.zero_add, Nat.reduceAdd, t2, t3, t4]; rfl
    rw [e]
    rfl
  have h2 : (heldB cW.tb ((posN 0, posN 0) :: pairs cW.args []) h) = true := by
    show (holds1 h (posN 0) farCells && true) = true
    rw [h1]; rfl
  show (bif fits ((posN 0, posN 0) :: pairs cW.args []) cW.args [] && heldB cW.tb ((posN 0, posN 0) :: pairs cW.args []) h && apartB cW.tb ((posN 0, posN 0) :: pairs cW.args []) && knownB cW.tb ((posN 0, posN 0) :: pairs cW.args []) then
    (match adopt cW.news h with | some (n, h') => (match ren n cW.ret with | some v => RV.ok v h' | none => .no) | none => .no) else .no) = _
  rw [h2]
  rfl

theorem Tab.f {h : H} (t : Tab h) : TabF h := t
/-- The fairest line, by the program. -/
def FairQ (h : H) (sp : List (Int × Int)) (turn : Int) : AV → H → Prop := fun v h' => ∃ (L : List AO) (lv : AV), v = .tup [lv, ii (fairL (payI turn) sp).2, ii 0] ∧ h' = X h L h.w ∧ LineV h L 2 lv ((fairL (payI turn) sp).1.map ii)
theorem fairestAll (sp : List (Int × Int)) (turn : Int) (hsp : spotsR sp turn = 0) (a : AV) (h : H) (wf : Wf h) (ht : TabF h) (hs : Sl h a 2 sp.length (spotCells sp)) :
    WV ((om Tryd.prog KK).call (.fn 17 [.agg [a, ii turn]]) h) (FairQ h sp turn) := by
  obtain ⟨n1, n24, hok, hturn⟩ := spotsR_ok hsp
  by_cases hn : 2 ≤ sp.length
  · exact fairest sp ⟨hn, n24, hok⟩ a turn hturn h wf ht hs
  · obtain ⟨r, rfl⟩ : ∃ r, sp = [r] := by
      match sp, n1, hn with
      | [r], _, _ => exact ⟨r, rfl⟩
      | _ :: _ :: _, _, hn => exact absurd (by simp) hn
    have hlen : ∀ h', lenE Tryd.prog 22 a h' = some (ii 1) := fun h' => hs.len un_22
    have ha1 : oneB a = true ∧ AV.cells a = [a] := by obtain ⟨_, ⟨rfl, _⟩ | ⟨_, _, _, _, _, _, rfl, _⟩⟩ := hs <;> exact ⟨rfl, rfl⟩
    have hCS : ∀ l w, w ≤ h.clock + l.length → (om Tryd.prog KK).call (.fn 14 [.agg [a, ii turn]]) (X h l w) = .ok (ii 0) (X h l w) := fun l w hw => by
      have := CheckSpots [r] turn a (by simp) _ (wf.X hw) (hs.up wf _ _)
      rw [hsp] at this; exact this
    obtain ⟨id0, off0, hix0, hld0⟩ := hs.at wf (show 0 < [r].length from Nat.zero_lt_one) ik_22
    have hlo : ∀ l w, load1 id0 off0 (X h l w) = some (ii r.1) := fun l w => by have := (hld0 l w).1 0 (by decide); rw [Nat.add_zero] at this; exact this
    have hix0' : indexAddrE Tryd.prog 22 a (.int .i64 0) = some (.ptr id0 off0) := hix0
    refine WV_call (fn := Tryd.f17) Tryd.func17 rfl rfl rfl rfl rfl ?_
    simp only [argF]
    (repeat' (first
  | (with_reducible first | refine WC_seq ?_ | refine WC_skip ?_ | refine WC_label ?_ | refine WC_scope ?_ | refine WC_block ?_ | refine WC_ret ?_ | refine WC_exit ?_ | refine seqQ_norm ?_ | refine seqQ_ret ?_ | refine seqQ_exit ?_ | refine blkQ_norm ?_ | refine blkQ_ret ?_ | refine blkQ_here ?_ | refine gateK_yes ?_ | refine gateK_none ?_ | refine condK_tt ?_ | refine condK_ff ?_ | refine roundQ_exit ?_ | refine roundQ_ret ?_)
  | refine WC_region ?_ | refine blkQ_out rfl ?_ | refine WO_nil ?_ | refine WD_nil ?_
  | ((first | refine WD_gate rfl rfl rfl rfl rfl fun K_ hK_ => ?_ | refine WO_gate rfl rfl rfl rfl rfl fun K_ hK_ => ?_); simp only [upd_apply, asB_bool, asB_tup, ↓reduceIte, reduceCtorEq, Nat.reduceEqDiff, Bool.not_true, Bool.not_false]; refine hK_ _ ?_; clear hK_ K_)
  | refine gateK_no (by decide) ?_
  | ((try first | refine WO_op rfl rfl rfl ?_ | refine WO_op0 rfl rfl ?_ | refine WD_op rfl rfl rfl ?_ | refine WD_op0 rfl rfl ?_); (refine WV_gen fun Q_ hQ_ => ?_; simp (disch := first | omega | (simp only [List.length_cons, List.length_nil, List.length_append]; omega)) only [bb, bp, argF, ↓reduceIte, reduceCtorEq, Nat.reduceEqDiff, Nat.reduceLT, Nat.reduceLeDiff, Nat.reduceAdd, Nat.reduceMul, Nat.reduceSub, Nat.reduceBEq, Int.reduceToNat, cond_true, cond_false, eq_self, beq_self_eq_true, hlen, hCS, hix0', hlo, ha1.1, ha1.2, newPtr_X wf, load1_X wf, loadAgg_X wf, store1_X wf, writeCells_X wf, tEvW, bsl_25, newSlice_X wf]; first | (refine dec_split (Q := Q_) (fun hp_ => ?_) (fun hp_ => ?_) <;> first | (exfalso; omega) | (refine hQ_ _ _ ?_; clear hQ_ Q_)) | (refine dec_splitn (Q := Q_) (fun hp_ => ?_) (fun hp_ => ?_) <;> first | (exfalso; omega) | (refine hQ_ _ _ ?_; clear hQ_ Q_)) | (refine hQ_ _ _ ?_; clear hQ_ Q_)))
  | (refine WC_cond fun K_ hK_ => ?_; simp (disch := omega) only [evT_tmp, upd_apply, WB_some, ↓reduceIte, reduceCtorEq, Nat.reduceEqDiff, Nat.reduceLT]; refine hK_ _ ?_; clear hK_ K_)))
    refine endQ_ret _ _ rfl (ret3 (by decide) (by decide) (by decide)) ?_
    simp only [upd_apply, ↓reduceIte, reduceCtorEq, Nat.reduceEqDiff]
    refine WV_ext (by exact Bool.and_false _) ?_
    rw [Nat.min_eq_left wf.wle]
    exact ⟨_, _, rfl, rfl, 1, some 1, rfl, rfl, .inr rfl⟩
end Go.Proofs.YtkmdidplmfdikaaDoor
end

/- EvL26 -/
section
/-
  WHAT IS CUT OUT OF A SLICE.
-/
namespace Go.Ev
variable {P : Program}
theorem Sl.cut {h : H} {a : AV} {m len : Nat} {cells : List AV} (s : Sl h a m len cells) {lo hi : Option Nat} {l hh : Nat} (hlh : l ≤ hh) (hhl : hh ≤ len) (hlo : lo.getD 0 = l) (hhi : hi.getD len = hh) {t e : TypeId} (hu : P.underlying t = some (.slice e)) (hz : sizeE P e = some m) (hm : 0 < m) (hc : CapU m a) :
    ∃ b, sliceE P t (reszT P t a) lo hi none = some b ∧ Sl h b m (hh - l) ((cells.drop (l * m)).take ((hh - l) * m)) ∧ CapU m b := by
  have hml : hh * m ≤ len * m := Nat.mul_le_mul_right _ hhl
  have hmk : l * m ≤ hh * m := Nat.mul_le_mul_right _ hlh
  obtain ⟨hl, ⟨rfl, rfl⟩ | ⟨id, off, cap, esz, o, cs, rfl, hg, hcs, hx⟩⟩ := s
  · have e1 : hh = 0 := by omega
    have e2 : l = 0 := by omega
    subst e1 e2
    have hr : reszT P t .nils = .nils := by unfold reszT; rw [hu]; dsimp only; rw [hz]; rfl
    have hb : boundsE 0 (some 0) lo hi none = some (0, 0, some 0) := by
      unfold boundsE
      show (bif Nat.ble (hi.getD 0) 0 && Nat.ble (lo.getD 0) (hi.getD 0) then some (lo.getD 0, hi.getD 0, some 0) else none) = _
      rw [hhi, hlo]; rfl
    refine ⟨.nils, ?_, ?_, ?_⟩
    · rw [hr]
      unfold sliceE; rw [hu]; dsimp only; rw [hz, hb]
    · refine ⟨?_, .inl ⟨rfl, rfl⟩⟩
      simp
    · exact Capd.capu capd_nils m
  · have hk : ∀ j, j < (hh - l) * m → cs (off + l * m + j) = ((cells.drop (l * m)).take ((hh - l) * m))[j]? := fun j hj => by
      rw [List.getElem?_take_of_lt hj, List.getElem?_drop]
      have hj' : l * m + j < len * m := by rw [Nat.sub_mul] at hj; omega
      have := hx (l * m + j) hj'
      rw [← this, Nat.add_assoc]
    have hln : ((cells.drop (l * m)).take ((hh - l) * m)).length = (hh - l) * m := by
      rw [List.length_take, List.length_drop, hl, Nat.sub_mul]; omega
    cases cap with
    | none =>
      have he : esz = m := hc.2 _ _ _ _ rfl
      subst he
      have hr : reszT P t (.sl id off len none esz) = .sl id off len none esz := by unfold reszT; rw [hu]; dsimp only; rw [hz]; rfl
      have hb : boundsE len none lo hi none = some (l, hh, none) := by
        unfold boundsE
        show (bif Nat.ble (hi.getD len) len && Nat.ble (lo.getD 0) (hi.getD len) then some (lo.getD 0, hi.getD len, (none : Option Nat)) else none) = _
        rw [hhi, hlo, Nat.ble_eq_true_of_le hhl, Nat.ble_eq_true_of_le hlh]; rfl
      have hof : sliceOf id off esz (some (l, hh, none)) = some (.sl id (off + l * esz) (hh - l) none esz) := by
        cases l with
        | zero => show some (AV.sl id off hh none esz) = _; rw [Nat.zero_mul, Nat.add_zero, Nat.sub_zero]
        | succ l =>
          show (bif Nat.beq (off + (l + 1) * esz) 0 then none else some (AV.sl id (off + (l + 1) * esz) (hh - (l + 1)) none esz)) = _
          have : off + (l + 1) * esz ≠ 0 := by have := Nat.mul_pos (Nat.succ_pos l) hm; rw [Nat.succ_eq_add_one] at this; omega
          rw [show Nat.beq (off + (l + 1) * esz) 0 = false from by cases hb : Nat.beq (off + (l + 1) * esz) 0 with | false => rfl | true => exact absurd (Nat.eq_of_beq_eq_true hb) this]; rfl
      refine ⟨.sl id (off + l * esz) (hh - l) none esz, ?_, ⟨hln, .inr ⟨_, _, _, _, o, cs, rfl, hg, hcs, hk⟩⟩, capu_none⟩
      rw [hr]
      unfold sliceE; rw [hu]; dsimp only; rw [hz]; dsimp only
      rw [show Nat.beq esz esz = true from Nat.beq_refl esz, hb]; exact hof
    | some c =>
      have hlc := hc.1 id off len c esz rfl
      have hr : reszT P t (.sl id off len (some c) esz) = .sl id off len (some c) m := by unfold reszT; rw [hu]; dsimp only; rw [hz]; rfl
      have hb : boundsE len (some c) lo hi none = some (l, hh, some c) := by
        unfold boundsE
        show (bif Nat.ble (hi.getD len) c && Nat.ble (lo.getD 0) (hi.getD len) then some (lo.getD 0, hi.getD len, some c) else none) = _
        rw [hhi, hlo, Nat.ble_eq_true_of_le (show hh ≤ c by omega), Nat.ble_eq_true_of_le hlh]; rfl
      refine ⟨.sl id (bif Nat.beq c l then off else off + l * m) (hh - l) (some (c - l)) m, ?_, ⟨hln, .inr ⟨_, _, _, _, o, cs, rfl, hg, hcs, fun j hj => ?_⟩⟩, capu_some (by omega)⟩
      · rw [hr]
        unfold sliceE; rw [hu]; dsimp only; rw [hz]; dsimp only
        rw [show Nat.beq m m = true from Nat.beq_refl m, hb]; rfl
      · rw [← hk j hj]
        cases hbq : Nat.beq c l with
        | true =>
          have := Nat.eq_of_beq_eq_true hbq
          subst this
          have e : hh - c = 0 := by omega
          rw [e, Nat.zero_mul] at hj
          omega
        | false => rfl
end Go.Ev
end

/- EvV2 -/
section
/-
  LAYER 1: the statement FairParts, walked.
-/
namespace Go.Proofs.YtkmdidplmfdikaaDoor
open Go.Ev
set_option maxRecDepth 100000
set_option linter.unusedSimpArgs false
set_option linter.unusedVariables false
set_option maxHeartbeats 4000000

theorem tEvV2 : type_of% (And.intro (And.intro (And.intro (And.intro (@bs_71) (And.intro (@ia_2) (@sz_2))) (And.intro (@ia_3) (And.intro (@sz_3) (@ia_5)))) (And.intro (And.intro (@sz_5) (And.intro (@ia_22) (@ia_45))) (And.intro (@ia_25) (And.intro (@ia_27) (@ia_24))))) (And.intro (And.intro (And.intro (@sz_24) (And.intro (@fo_51_0) (@fo_51_1))) (And.intro (@fo_24_0) (And.intro (@fo_24_1) (@pb_28)))) (And.intro (And.intro (@pb_9) (And.intro (@pb_17) (@pb_10))) (And.intro (And.intro (@pb_29) (@pb_12)) (And.intro (@pb_15) (@ni_25)))))) := And.intro (And.intro (And.intro (And.intro (@bs_71) (And.intro (@ia_2) (@sz_2))) (And.intro (@ia_3) (And.intro (@sz_3) (@ia_5)))) (And.intro (And.intro (@sz_5) (And.intro (@ia_22) (@ia_45))) (And.intro (@ia_25) (And.intro (@ia_27) (@ia_24))))) (And.intro (And.intro (And.intro (@sz_24) (And.intro (@fo_51_0) (@fo_51_1))) (And.intro (@fo_24_0) (And.intro (@fo_24_1) (@pb_28)))) (And.intro (And.intro (@pb_9) (And.intro (@pb_17) (@pb_10))) (And.intro (And.intro (@pb_29) (@pb_12)) (And.intro (@pb_15) (@ni_25)))))
theorem costL_fold (turn : Int) : ∀ (r : List Int) (t : St5), t.be + turn * t.ch + costL (payI turn) t.a t.b t.s r = (r.foldl mstep t).be + turn * (r.foldl mstep t).ch
  | [], t => by show t.be + turn * t.ch + 0 = _; rw [Int.add_zero]; rfl
  | c :: r, t => by
    rw [List.foldl_cons, ← costL_fold turn r (mstep t c)]
    have e : costL (payI turn) t.a t.b t.s (c :: r) = payI turn t.a t.b t.s c + costL (payI turn) t.b c (nextSign t.s (t.d c)) r := rfl
    rw [e, pay_cost]
    show _ = t.be + max (t.d c) (0 - t.d c) + turn * (t.ch + chg t.s (t.d c)) + costL (payI turn) t.b c (nextSign t.s (t.d c)) r
    rw [Int.mul_add]
    show t.be + turn * t.ch + (max (t.d c) (0 - t.d c) + turn * chg t.s (t.d c) + _) = _
    omega
theorem cost_meas (turn : Int) : ∀ xs : List Int, (measOf xs).2 + turn * (measOf xs).1 = Cost (payI turn) xs
  | [] => by show (0 : Int) + turn * 0 = 0; omega
  | [x] => by show (0 : Int) + turn * 0 = 0; omega
  | a :: b :: r => by
    have := costL_fold turn r ⟨a, b, 0, 0, 0⟩
    show (mfold a b r).be + turn * (mfold a b r).ch = costL (payI turn) a b 0 r
    unfold mfold
    rw [← this]
    show (0 : Int) + turn * 0 + costL (payI turn) a b 0 r = costL (payI turn) a b 0 r
    omega
theorem spotsR_ne0 {sp : List (Int × Int)} {turn : Int} (h : 24 < sp.length) : spotsR sp turn = 6 := by unfold spotsR; rw [if_pos (.inr h)]
theorem spotsR_of {sp : List (Int × Int)} {turn : Int} (h1 : 0 < sp.length) (h2 : sp.length ≤ 24) (h3 : ∀ p ∈ sp, SpotOK p) (h4 : 0 ≤ turn ∧ turn ≤ 1000000) : spotsR sp turn = 0 := by
  unfold spotsR
  rw [if_neg (by omega), if_pos ⟨h3, h4⟩]
theorem rCheckBig (sp : List (Int × Int)) (turn : Int) (a : AV) (hn : 24 < sp.length) (h : H) (wf : Wf h) (hs : Sl h a 2 sp.length (spotCells sp)) :
    (om Tryd.prog KK).call (.fn 15 [.agg [a, ii turn]]) h = .ok (ii 6) h := by
  have ha1 : oneB a = true ∧ AV.cells a = [a] := by obtain ⟨_, ⟨rfl, _⟩ | ⟨_, _, _, _, _, _, rfl, _⟩⟩ := hs <;> exact ⟨rfl, rfl⟩
  have hlen : ∀ h', lenE Tryd.prog 22 a h' = some (ii (sp.length : Int)) := fun h' => hs.len un_22
  refine WV_to (WV_call (fn := Tryd.f15) Tryd.func15 rfl rfl rfl rfl rfl ?_)
  simp only [argF]
  (repeat' (first
  | (with_reducible first | refine WC_seq ?_ | refine WC_skip ?_ | refine WC_label ?_ | refine WC_scope ?_ | refine WC_block ?_ | refine WC_ret ?_ | refine WC_exit ?_ | refine seqQ_norm ?_ | refine seqQ_ret ?_ | refine seqQ_exit ?_ | refine blkQ_norm ?_ | refine blkQ_ret ?_ | refine blkQ_here ?_ | refine gateK_yes ?_ | refine gateK_none ?_ | refine condK_tt ?_ | refine condK_ff ?_ | refine roundQ_exit ?_ | refine roundQ_ret ?_)
  | refine WC_region ?_ | refine blkQ_out rfl ?_ | refine WO_nil ?_ | refine WD_nil ?_
  | ((first | refine WD_gate rfl rfl rfl rfl rfl fun K_ hK_ => ?_ | refine WO_gate rfl rfl rfl rfl rfl fun K_ hK_ => ?_); simp only [upd_apply, asB_bool, asB_tup, ↓reduceIte, reduceCtorEq, Nat.reduceEqDiff, Bool.not_true, Bool.not_false]; refine hK_ _ ?_; clear hK_ K_)
  | refine gateK_no (by decide) ?_
  | ((try first | refine WO_op rfl rfl rfl ?_ | refine WO_op0 rfl rfl ?_ | refine WD_op rfl rfl rfl ?_ | refine WD_op0 rfl rfl ?_); (refine WV_gen fun Q_ hQ_ => ?_; simp (disch := first | omega | (simp only [List.length_cons, List.length_nil, List.length_append]; omega)) only [bb, bp, argF, ↓reduceIte, reduceCtorEq, Nat.reduceEqDiff, Nat.reduceLT, Nat.reduceLeDiff, Nat.reduceAdd, Nat.reduceMul, Nat.reduceSub, Nat.reduceBEq, Int.reduceToNat, cond_true, cond_false, eq_self, beq_self_eq_true, hlen, ha1.1, ha1.2, newPtr_X wf, load1_X wf, loadAgg_X wf, store1_X wf, writeCells_X wf, tEvV2, bsl_25, newSlice_X wf]; first | (refine dec_split (Q := Q_) (fun hp_ => ?_) (fun hp_ => ?_) <;> first | (exfalso; omega) | (refine hQ_ _ _ ?_; clear hQ_ Q_)) | (refine dec_splitn (Q := Q_) (fun hp_ => ?_) (fun hp_ => ?_) <;> first | (exfalso; omega) | (refine hQ_ _ _ ?_; clear hQ_ Q_)) | (refine hQ_ _ _ ?_; clear hQ_ Q_)))
  | (refine WC_cond fun K_ hK_ => ?_; simp (disch := omega) only [evT_tmp, upd_apply, WB_some, ↓reduceIte, reduceCtorEq, Nat.reduceEqDiff, Nat.reduceLT]; refine hK_ _ ?_; clear hK_ K_)))
  (refine endQ_ret _ _ rfl (ret1 (by decide)) ?_; simp only [upd_apply, ↓reduceIte, reduceCtorEq, Nat.reduceEqDiff]; refine WV_flat rfl (by omega) ?_)
  exact ⟨rfl, rfl⟩
theorem fineSpots (sp : List (Int × Int)) (turn : Int) (a : AV) (h : H) (wf : Wf h) (hs : Sl h a 2 sp.length (spotCells sp)) :
    (om Tryd.prog KK).call (.fn 28 [.agg [a, ii turn]]) h = .ok (.bool (decide (spotsR sp turn = 0))) h := by
  have ha1 : oneB a = true ∧ AV.cells a = [a] := by obtain ⟨_, ⟨rfl, _⟩ | ⟨_, _, _, _, _, _, rfl, _⟩⟩ := hs <;> exact ⟨rfl, rfl⟩
  have hlen : ∀ h', lenE Tryd.prog 22 a h' = some (ii (sp.length : Int)) := fun h' => hs.len un_22
  have hC : ∀ l w, w ≤ h.clock + l.length → (om Tryd.prog KK).call (.fn 15 [.agg [a, ii turn]]) (X h l w) = .ok (ii (spotsR sp turn)) (X h l w) := fun l w hw => by
    by_cases hn : sp.length ≤ 24
    · exact rCheckSpots sp turn a (by omega) _ (wf.X hw) (hs.up wf _ _)
    · rw [spotsR_ne0 (by omega)]
      exact rCheckBig sp turn a (by omega) _ (wf.X hw) (hs.up wf _ _)
  generalize spotsR sp turn = e at *
  refine WV_to (WV_call (fn := Tryd.f28) Tryd.func28 rfl rfl rfl rfl rfl ?_)
  simp only [argF]
  (repeat' (first
  | (with_reducible first | refine WC_seq ?_ | refine WC_skip ?_ | refine WC_label ?_ | refine WC_scope ?_ | refine WC_block ?_ | refine WC_ret ?_ | refine WC_exit ?_ | refine seqQ_norm ?_ | refine seqQ_ret ?_ | refine seqQ_exit ?_ | refine blkQ_norm ?_ | refine blkQ_ret ?_ | refine blkQ_here ?_ | refine gateK_yes ?_ | refine gateK_none ?_ | refine condK_tt ?_ | refine condK_ff ?_ | refine roundQ_exit ?_ | refine roundQ_ret ?_)
  | refine WC_region ?_ | refine blkQ_out rfl ?_ | refine WO_nil ?_ | refine WD_nil ?_
  | ((first | refine WD_gate rfl rfl rfl rfl rfl fun K_ hK_ => ?_ | refine WO_gate rfl rfl rfl rfl rfl fun K_ hK_ => ?_); simp only [upd_apply, asB_bool, asB_tup, ↓reduceIte, reduceCtorEq, Nat.reduceEqDiff, Bool.not_true, Bool.not_false]; refine hK_ _ ?_; clear hK_ K_)
  | refine gateK_no (by decide) ?_
  | ((try first | refine WO_op rfl rfl rfl ?_ | refine WO_op0 rfl rfl ?_ | refine WD_op rfl rfl rfl ?_ | refine WD_op0 rfl rfl ?_); (refine WV_gen fun Q_ hQ_ => ?_; simp (disch := first | omega | (simp only [List.length_cons, List.length_nil, List.length_append]; omega)) only [bb, bp, argF, ↓reduceIte, reduceCtorEq, Nat.reduceEqDiff, Nat.reduceLT, Nat.reduceLeDiff, Nat.reduceAdd, Nat.reduceMul, Nat.reduceSub, Nat.reduceBEq, Int.reduceToNat, cond_true, cond_false, eq_self, beq_self_eq_true, hC, ha1.1, ha1.2, newPtr_X wf, load1_X wf, loadAgg_X wf, store1_X wf, writeCells_X wf, tEvV2, bsl_25, newSlice_X wf]; first | (refine dec_split (Q := Q_) (fun hp_ => ?_) (fun hp_ => ?_) <;> first | (exfalso; omega) | (refine hQ_ _ _ ?_; clear hQ_ Q_)) | (refine dec_splitn (Q := Q_) (fun hp_ => ?_) (fun hp_ => ?_) <;> first | (exfalso; omega) | (refine hQ_ _ _ ?_; clear hQ_ Q_)) | (refine hQ_ _ _ ?_; clear hQ_ Q_)))
  | (refine WC_cond fun K_ hK_ => ?_; simp (disch := omega) only [evT_tmp, upd_apply, WB_some, ↓reduceIte, reduceCtorEq, Nat.reduceEqDiff, Nat.reduceLT]; refine hK_ _ ?_; clear hK_ K_)))
  all_goals (refine endQ_ret _ _ rfl (ret1 (by decide)) ?_; simp only [upd_apply, ↓reduceIte, reduceCtorEq, Nat.reduceEqDiff]; refine WV_flat rfl (by omega) ?_)
  all_goals exact ⟨by simp [*], rfl⟩
end Go.Proofs.YtkmdidplmfdikaaDoor
end

/- EvL27 -/
section
/-
  SEVERAL SLICES THAT GROW SIDE BY SIDE: each has its place.
-/
namespace Go.Ev
section
variable {P : Program}
/-- A slice that grows by append, with its place among the new objects (none while it is empty). -/
def SlAt (h : H) (G : List AO) (v : AV) (sz e len : Nat) (cs : List AV) (o : Option Nat) : Prop :=
  cs.length = len * sz ∧ match o with
    | none => len = 0 ∧ v = .nils
    | some idx => v = .sl (nx h idx) 0 len none sz ∧ G[idx]? = some (.cells (mkCells cs) e)
theorem SlAt.nil (h : H) (G : List AO) (sz e : Nat) : SlAt h G .nils sz e 0 [] none := ⟨by simp, rfl, rfl⟩
theorem SlAt.sl {h : H} (wf : Wf h) {G : List AO} {v : AV} {sz e len : Nat} {o : Option Nat} {cs : List AV} (x : SlAt h G v sz e len cs o) (w : Nat) : Sl (X h G w) v sz len cs := by
  cases o with
  | none =>
    obtain ⟨hl, rfl, rfl⟩ := x
    have : cs = [] := List.length_eq_zero_iff.1 (by simpa using hl)
    subst this
    exact Sl.nil _ _
  | some idx =>
    obtain ⟨hl, rfl, hg⟩ := x
    have g : Grow h [] G (.sl (nx h idx) 0 len none sz) sz e len cs := ⟨hl, .inr ⟨idx, by rw [List.length_nil, Nat.zero_add], hg⟩⟩
    exact g.sl wf w
theorem SlAt.resz {h : H} {G : List AO} {v : AV} {sz e len : Nat} {o : Option Nat} {cs : List AV} (x : SlAt h G v sz e len cs o) (t : TypeId) : reszT P t v = v := by
  cases o with
  | none => obtain ⟨_, _, rfl⟩ := x; exact reszT_nils
  | some idx => obtain ⟨_, rfl, _⟩ := x; exact reszT_none
theorem SlAt.flat {h : H} {G : List AO} {v : AV} {sz e len : Nat} {o : Option Nat} {cs : List AV} (x : SlAt h G v sz e len cs o) : AV.cells v = [v] ∧ oneB v = true := by
  cases o with
  | none => obtain ⟨_, _, rfl⟩ := x; exact ⟨rfl, rfl⟩
  | some idx => obtain ⟨_, rfl, _⟩ := x; exact ⟨rfl, rfl⟩
theorem SlAt.lt {h : H} {G : List AO} {v : AV} {sz e len idx : Nat} {cs : List AV} (x : SlAt h G v sz e len cs (some idx)) : idx < G.length := (List.getElem?_eq_some_iff.1 x.2.2).1
/-- What is kept at its place stays. -/
theorem SlAt.keep {h : H} {G G' : List AO} {v : AV} {sz e len : Nat} {o : Option Nat} {cs : List AV} (x : SlAt h G v sz e len cs o) (k : ∀ i ob, o = some i → G[i]? = some ob → G'[i]? = some ob) : SlAt h G' v sz e len cs o := by
  cases o with
  | none => exact x
  | some idx => exact ⟨x.1, x.2.1, k idx _ rfl x.2.2⟩
/-- New objects behind it. -/
theorem SlAt.more {h : H} {G : List AO} {v : AV} {sz e len : Nat} {o : Option Nat} {cs : List AV} (x : SlAt h G v sz e len cs o) (M : List AO) : SlAt h (G ++ M) v sz e len cs o :=
  x.keep fun i ob _ hq => by rw [List.getElem?_append_left (List.getElem?_eq_some_iff.1 hq).1]; exact hq
/-- An object elsewhere is changed. -/
theorem SlAt.set {h : H} {G : List AO} {v : AV} {sz e len : Nat} {o : Option Nat} {cs : List AV} (x : SlAt h G v sz e len cs o) {p : Nat} (hp : o ≠ some p) (ob : AO) : SlAt h (G.set p ob) v sz e len cs o :=
  x.keep fun i _ hi hq => by rw [List.getElem?_set_ne (fun e => hp (by rw [hi, e]))]; exact hq
/-- One element more: all but its own place is kept, and its new place is the last one. -/
theorem SlAt.app {h : H} (wf : Wf h) {G : List AO} {v : AV} {sz e len bytes : Nat} {o : Option Nat} {z : AV} {cs : List AV} (x : SlAt h G v sz e len cs o) {t : TypeId} (hu : P.underlying t = some (.slice e)) (hz : sizeE P e = some sz) (E : El P e sz bytes z)
    {new : List AV} (hn : len + 1 ≤ 10000000) (hb : bytes ≤ 100000) (hc : new.length = sz) (ho : allOne new = true) (c : Nat) (w : Nat) (hw : h.clock ≤ w) :
    ∃ v' G' w', SlAt h G' v' sz e (len + 1) (cs ++ new) (some (G.length + 1)) ∧ G'.length = G.length + 2 ∧ (∀ q ob, o ≠ some q → G[q]? = some ob → G'[q]? = some ob) ∧ h.clock ≤ w' ∧ w' ≤ w ∧
      appendE P t v (.sl (nx h G.length) 0 1 (some c) sz) (X h (G ++ [.cells (mkCells new) e]) w) = .ok v' (X h G' w') := by
  have hsrc : ∀ w, srcCells (X h (G ++ [.cells (mkCells new) e]) w) sz (.sl (nx h G.length) 0 1 (some c) sz) = some (1, new) := fun w => src_new (e := e) wf (by rw [app_len0]; rfl) (by rw [hc, Nat.one_mul])
  cases o with
  | none =>
    obtain ⟨hl, rfl, rfl⟩ := x
    have hcs : cs = [] := List.length_eq_zero_iff.1 (by simpa using hl)
    subst hcs
    have := append_nils (P := P) wf hu hz E (x := .sl (nx h G.length) 0 1 (some c) sz) (l := G ++ [.cells (mkCells new) e]) (w := w) (by decide) (by decide) hb (hsrc w) (by rw [hc, Nat.one_mul])
    rw [List.length_append, List.append_assoc] at this
    refine ⟨_, _, w, ⟨by rw [List.nil_append, hc]; omega, rfl, ?_⟩, by simp, fun q o _ hq => ?_, hw, Nat.le_refl w, this⟩
    · show (G ++ ([AO.cells (mkCells new) e] ++ [AO.cells (mkCells new) e]))[G.length + 1]? = _
      rw [app_len]; rfl
    · rw [List.getElem?_append_left (List.getElem?_eq_some_iff.1 hq).1]; exact hq
  | some idx =>
    have hi := x.lt
    obtain ⟨hl, rfl, hg⟩ := x
    have hgi : (G ++ [AO.cells (mkCells new) e])[idx]? = some (.cells (mkCells cs) e) := by rw [List.getElem?_append_left hi]; exact hg
    have := append_more (P := P) wf hu hz E (x := .sl (nx h G.length) 0 1 (some c) sz) (k := idx) (l := G ++ [.cells (mkCells new) e]) (w := w) hn (by decide) hb hgi hl (hsrc w) (by rw [hc, Nat.one_mul]) ho
    rw [List.length_append, List.set_append_left _ _ hi, List.append_assoc] at this
    refine ⟨_, _, _, ⟨by rw [List.length_append, hl, hc, Nat.add_mul, Nat.one_mul], rfl, ?_⟩, by simp, fun q o hne hq => ?_, by omega, Nat.min_le_right _ _, this⟩
    · show (G.set idx AO.dead ++ ([AO.cells (mkCells new) e] ++ [AO.cells (mkCells (cs ++ new)) e]))[G.length + 1]? = _
      have : (G.set idx AO.dead).length = G.length := List.length_set
      rw [← this, app_len]; rfl
    · have hq' := (List.getElem?_eq_some_iff.1 hq).1
      rw [List.getElem?_append_left (by rw [List.length_set]; exact hq'), List.getElem?_set_ne (fun e => hne (congrArg some e))]
      exact hq
end
end Go.Ev
end
