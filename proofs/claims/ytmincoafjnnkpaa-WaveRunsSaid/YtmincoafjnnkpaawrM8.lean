/- The statement WaveRuns of layer 5: the bits of a register that runs on, and whether a register makes bits, are what the definitions say, or the error, for all lists and numbers; no condition. -/
import Derived.Test.YtmincoafjnnkpaawrM7
import Derived.Test.YtmincoafjnnkpaaRows
import Derived.WalkKit
import Derived.ProofKit
import Derived.OpenShut
set_option linter.all false
/- EvZ10 -/
section
/-
  LAYER 5: Run.
-/
namespace Go.Proofs.Ytmincoafjnnkpaa
open Go.Ev
set_option maxRecDepth 100000
set_option linter.unusedSimpArgs false
set_option linter.unusedVariables false
set_option maxHeartbeats 2000000
theorem tEvZ10 : type_of% (And.intro (And.intro (And.intro (And.intro (And.intro (And.intro (And.intro (@bs_33) (@bs_34)) (And.intro (@bs_57) (@bs_59))) (And.intro (And.intro (@bs_67) (@bs_78)) (And.intro (@ia_2) (And.intro (@ia_3) (@ia_4))))) (And.intro (And.intro (And.intro (@ia_5) (@ia_22)) (And.intro (@ia_24) (@ia_25))) (And.intro (And.intro (@ia_33) (@ia_34)) (And.intro (@ia_42) (And.intro (@ia_55) (@ia_57)))))) (And.intro (And.intro (And.intro (And.intro (@ia_59) (@ia_63)) (And.intro (@ia_67) (@ia_74))) (And.intro (And.intro (@ia_78) (@ia_85)) (And.intro (@ia_87) (And.intro (@ia_90) (@sz_2))))) (And.intro (And.intro (And.intro (@sz_3) (@sz_4)) (And.intro (@sz_5) (And.intro (@sz_22) (@sz_24)))) (And.intro (And.intro (@sz_25) (@sz_33)) (And.intro (@sz_34) (And.intro (@sz_42) (@sz_55))))))) (And.intro (And.intro (And.intro (And.intro (And.intro (@sz_57) (@sz_59)) (And.intro (@sz_63) (@sz_67))) (And.intro (And.intro (@sz_74) (@sz_78)) (And.intro (@sz_85) (And.intro (@sz_87) (@sz_90))))) (And.intro (And.intro (And.intro (@ze_2) (@ze_3)) (And.intro (@ze_4) (And.intro (@ze_5) (@ze_22)))) (And.intro (And.intro (@ze_24) (@ze_33)) (And.intro (@ze_34) (And.intro (@ze_42) (@ze_55)))))) (And.intro (And.intro (And.intro (And.intro (@ze_57) (@ze_59)) (And.intro (@ze_63) (@ze_67))) (And.intro (And.intro (@ze_74) (@ze_78)) (And.intro (@ze_85) (And.intro (@ze_87) (@ze_90))))) (And.intro (And.intro (And.intro (@fo_33_0) (@fo_33_1)) (And.intro (@fo_34_0) (And.intro (@fo_34_1) (@fo_59_0)))) (And.intro (And.intro (@fo_59_1) (@fo_67_0)) (And.intro (@fo_67_1) (And.intro (@fo_78_0) (@pb_15)))))))) (And.intro (And.intro (And.intro (And.intro (And.intro (And.intro (@pb_16) (@pb_17)) (And.intro (@pb_18) (@pb_19))) (And.intro (And.intro (@pb_20) (@pb_21)) (And.intro (@pb_22) (And.intro (@pb_23) (@pb_24))))) (And.intro (And.intro (And.intro (@pb_25) (@pb_26)) (And.intro (@pb_27) (@pb_28))) (And.intro (And.intro (@pb_29) (@pb_30)) (And.intro (@pb_31) (And.intro (@pb_32) (@pb_33)))))) (And.intro (And.intro (And.intro (And.intro (@pb_34) (@pb_35)) (And.intro (@pb_36) (@pb_37))) (And.intro (And.intro (@pb_38) (@pb_39)) (And.intro (@pb_40) (And.intro (@pb_41) (@pb_42))))) (And.intro (And.intro (And.intro (@pb_43) (@pb_44)) (And.intro (@pb_45) (And.intro (@pb_46) (@pb_47)))) (And.intro (And.intro (@pb_48) (@pb_49)) (And.intro (@pb_50) (And.intro (@pb_51) (@pb_52))))))) (And.intro (And.intro (And.intro (And.intro (And.intro (@pb_53) (@pb_54)) (And.intro (@pb_55) (@pb_56))) (And.intro (And.intro (@pb_57) (@pb_58)) (And.intro (@pb_59) (And.intro (@pb_60) (@pb_61))))) (And.intro (And.intro (And.intro (@pb_62) (@pb_63)) (And.intro (@pb_64) (And.intro (@pb_65) (@pb_66)))) (And.intro (And.intro (@pb_67) (@pb_68)) (And.intro (@pb_69) (And.intro (@pb_70) (@pb_71)))))) (And.intro (And.intro (And.intro (And.intro (@pb_72) (@pb_73)) (And.intro (@pb_74) (@pb_75))) (And.intro (And.intro (@pb_76) (@pb_77)) (And.intro (@pb_78) (And.intro (@pb_79) (@pb_80))))) (And.intro (And.intro (And.intro (@pb_81) (@pb_82)) (And.intro (@ik_22) (And.intro (@ik_42) (@ik_57)))) (And.intro (And.intro (@ik_63) (@ik_90)) (And.intro (@ni_22) (And.intro (@ni_42) (@ni_63))))))))) := And.intro (And.intro (And.intro (And.intro (And.intro (And.intro (And.intro (@bs_33) (@bs_34)) (And.intro (@bs_57) (@bs_59))) (And.intro (And.intro (@bs_67) (@bs_78)) (And.intro (@ia_2) (And.intro (@ia_3) (@ia_4))))) (And.intro (And.intro (And.intro (@ia_5) (@ia_22)) (And.intro (@ia_24) (@ia_25))) (And.intro (And.intro (@ia_33) (@ia_34)) (And.intro (@ia_42) (And.intro (@ia_55) (@ia_57)))))) (And.intro (And.intro (And.intro (And.intro (@ia_59) (@ia_63)) (And.intro (@ia_67) (@ia_74))) (And.intro (And.intro (@ia_78) (@ia_85)) (And.intro (@ia_87) (And.intro (@ia_90) (@sz_2))))) (And.intro (And.intro (And.intro (@sz_3) (@sz_4)) (And.intro (@sz_5) (And.intro (@sz_22) (@sz_24)))) (And.intro (And.intro (@sz_25) (@sz_33)) (And.intro (@sz_34) (And.intro (@sz_42) (@sz_55))))))) (And.intro (And.intro (And.intro (And.intro (And.intro (@sz_57) (@sz_59)) (And.intro (@sz_63) (@sz_67))) (And.intro (And.intro (@sz_74) (@sz_78)) (And.intro (@sz_85) (And.intro (@sz_87) (@sz_90))))) (And.intro (And.intro (And.intro (@ze_2) (@ze_3)) (And.intro (@ze_4) (And.intro (@ze_5) (@ze_22)))) (And.intro (And.intro (@ze_24) (@ze_33)) (And.intro (@ze_34) (And.intro (@ze_42) (@ze_55)))))) (And.intro (And.intro (And.intro (And.intro (@ze_57) (@ze_59)) (And.intro (@ze_63) (@ze_67))) (And.intro (And.intro (@ze_74) (@ze_78)) (And.intro (@ze_85) (And.intro (@ze_87) (@ze_90))))) (And.intro (And.intro (And.intro (@fo_33_0) (@fo_33_1)) (And.intro (@fo_34_0) (And.intro (@fo_34_1) (@fo_59_0)))) (And.intro (And.intro (@fo_59_1) (@fo_67_0)) (And.intro (@fo_67_1) (And.intro (@fo_78_0) (@pb_15)))))))) (And.intro (And.intro (And.intro (And.intro (And.intro (And.intro (@pb_16) (@pb_17)) (And.intro (@pb_18) (@pb_19))) (And.intro (And.intro (@pb_20) (@pb_21)) (And.intro (@pb_22) (And.intro (@pb_23) (@pb_24))))) (And.intro (And.intro (And.intro (@pb_25) (@pb_26)) (And.intro (@pb_27) (@pb_28))) (And.intro (And.intro (@pb_29) (@pb_30)) (And.intro (@pb_31) (And.intro (@pb_32) (@pb_33)))))) (And.intro (And.intro (And.intro (And.intro (@pb_34) (@pb_35)) (And.intro (@pb_36) (@pb_37))) (And.intro (And.intro (@pb_38) (@pb_39)) (And.intro (@pb_40) (And.intro (@pb_41) (@pb_42))))) (And.intro (And.intro (And.intro (@pb_43) (@pb_44)) (And.intro (@pb_45) (And.intro (@pb_46) (@pb_47)))) (And.intro (And.intro (@pb_48) (@pb_49)) (And.intro (@pb_50) (And.intro (@pb_51) (@pb_52))))))) (And.intro (And.intro (And.intro (And.intro (And.intro (@pb_53) (@pb_54)) (And.intro (@pb_55) (@pb_56))) (And.intro (And.intro (@pb_57) (@pb_58)) (And.intro (@pb_59) (And.intro (@pb_60) (@pb_61))))) (And.intro (And.intro (And.intro (@pb_62) (@pb_63)) (And.intro (@pb_64) (And.intro (@pb_65) (@pb_66)))) (And.intro (And.intro (@pb_67) (@pb_68)) (And.intro (@pb_69) (And.intro (@pb_70) (@pb_71)))))) (And.intro (And.intro (And.intro (And.intro (@pb_72) (@pb_73)) (And.intro (@pb_74) (@pb_75))) (And.intro (And.intro (@pb_76) (@pb_77)) (And.intro (@pb_78) (And.intro (@pb_79) (@pb_80))))) (And.intro (And.intro (And.intro (@pb_81) (@pb_82)) (And.intro (@ik_22) (And.intro (@ik_42) (@ik_57)))) (And.intro (And.intro (@ik_63) (@ik_90)) (And.intro (@ni_22) (And.intro (@ni_42) (@ni_63))))))))
def errRun (xs ys : List Int) (many : Int) : Int := if err3 xs ys = 0 then (if many < 0 then 2 else if 4096 < many then 6 else 0) else err3 xs ys
theorem err3_ok {xs ys : List Int} (h : err3 xs ys = 0) : (xs.length ≤ 128 ∧ good xs = true) ∧ good ys = true ∧ ys.length = xs.length := by
  unfold err3 at h
  split at h
  · rename_i h2
    split at h
    · rename_i h3
      unfold err2 at h2
      split at h2
      · rename_i h4
        exact ⟨errB_ok.1 h4, (errB_ok.1 h2).2, h3⟩
      · contradiction
    · exact absurd h (by decide)
  · contradiction
def mL (m : Nat → Bool) (n : Nat) : List Bool := (List.range n).map m
theorem mL_length (m : Nat → Bool) (n : Nat) : (mL m n).length = n := by unfold mL; simp
theorem mL_succ (m : Nat → Bool) (n : Nat) : mL m (n + 1) = mL m n ++ [m n] := by unfold mL; rw [List.range_succ, List.map_append]; rfl
theorem mL_take {m : Nat → Bool} {bs : List Bool} {L : Nat} (hb : bs.length = L) (hm : ∀ i, i < L → m i = sq bs i) {n : Nat} (hn : n ≤ L) : bs.take n = mL m n := by
  apply List.ext_getElem?
  intro i
  rw [List.getElem?_take]
  unfold mL
  rw [List.getElem?_map]
  by_cases h : i < n
  · rw [if_pos h, List.getElem?_range h, Option.map_some, hm i (by omega), sq, List.getD_eq_getElem?_getD, List.getElem?_eq_getElem (by omega)]
    rfl
  · rw [if_neg h, List.getElem?_eq_none (by simp; omega)]; rfl
/-- Run, for lists and a number that are valid. -/
theorem runOK (ts ss : List Bool) (ht : ts.length ≤ 128) (hss : ss.length = ts.length) (many : Nat) (hmn : many ≤ 4096) (a b : AV) (h : H) (wf : Wf h) (hs : Sl h a 1 ts.length (ts.map bi)) (hst : Sl h b 1 ss.length (ss.map bi)) (hcb : CapU 1 b) (xs ys : List Int) (hx : xs.length = ts.length) (hxm : xs.map ii = ts.map bi) (hy : ys.length = ss.length) (hym : ys.map ii = ss.map bi) (he : err3 xs ys = 0) :
    ∃ L : List AO, L[1]? = some (.cells (mkCells ((mL (runS (bN ts) ts.length (sq ss)) many).map bi)) 3) ∧ (om Try.prog KK).call (.fn 16 [a, b, ii (many : Int)]) h = .ok (.tup [.sl (nx h 1) 0 many (some many) 1, ii 0]) (X h L h.w) := by
  suffices hW : WV ((om Try.prog KK).call (.fn 16 [a, b, ii (many : Int)]) h) fun v h' => ∃ L : List AO, L[1]? = some (.cells (mkCells ((mL (runS (bN ts) ts.length (sq ss)) many).map bi)) 3) ∧ v = .tup [.sl (nx h 1) 0 many (some many) 1, ii 0] ∧ h' = X h L h.w by
    obtain ⟨v, h', e, L, h3, rfl, rfl⟩ := hW
    exact ⟨L, h3, e⟩
  have hrun := runS_is (bN ts) ts.length (sq ss)
  have hfirst := hrun.first
  have hT : bN ts < 2 ^ 128 := bN_lt128 ht
  generalize hme : runS (bN ts) ts.length (sq ss) = m at *
  obtain ⟨f1, f2⟩ := sl_flat hst
  have hmk : ∀ l w, makeSliceE Try.prog 22 (.int .i64 (many : Int)) (.int .i64 (many : Int)) (X h l w) = .ok (.sl (nx h l.length) 0 many (some many) 1) (X h (l ++ [.cells (mkCells (List.replicate many (.int .i64 0))) 3]) w) :=
    fun l w => makeSlice_big wf un_22 sz_3 el_3 (by omega) (by decide) rfl
  have cst : ∀ (l : List AO) (w : Nat), w ≤ h.clock + l.length → (om Try.prog KK).call (.fn 41 [a, b]) (X h l w) = .ok (ii 0) (X h l w) := fun l w hw => by
    have := checkStart xs ys a b _ (wf.X hw) (by rw [hx, hxm]; exact hs.up wf l w) (by rw [hy, hym]; exact hst.up wf l w)
    rw [he] at this
    exact this
  have creg : ∀ (l : List AO) (w : Nat), w ≤ h.clock + l.length → (om Try.prog KK).call (.fn 42 [a]) (X h l w) = .ok (.agg (rg (bN ts) ts.length)) (X h l w) := fun l w hw => registerOf ts ht a _ (wf.X hw) (hs.up wf l w)
  have crun : ∀ (l : List AO) (w : Nat), w ≤ h.clock + l.length → (om Try.prog KK).call (.fn 43 [.agg (rg (bN ts) ts.length), b]) (X h l w) = .ok (.fn 67 [] [.ptr (nx h l.length) 0, .ptr (nx h (l.length + 1)) 0]) (X h (l ++ [.cells (mkCells (rg (bN ts) ts.length)) 59, .cells (mkCells [b]) 22]) w) := fun l w hw => run_ (bN ts) ts.length b ⟨f1, f2⟩ h wf l w hw
  have ccopy : ∀ w, w ≤ h.clock + 3 → h.clock ≤ w → ∃ w', h.clock ≤ w' ∧ w' ≤ w ∧ copyE Try.prog 22 (.sl (nx h 1) 0 many (some many) 1) (reszT Try.prog 22 b) (X h [.cells (mkCells [ii (many : Int)]) 3, .cells (mkCells (List.replicate many (.int .i64 0))) 3, .cells (mkCells [.sl (nx h 1) 0 many (some many) 1]) 22] w) = .ok (.int .i64 ((min ts.length many : Nat) : Int)) (X h [.cells (mkCells [ii (many : Int)]) 3, .cells (mkCells ((mL m (min ts.length many)).map bi ++ List.replicate (many - min ts.length many) (.int .i64 0))) 3, .cells (mkCells [.sl (nx h 1) 0 many (some many) 1]) 22] w') := fun w hw1 hw2 => by
    obtain ⟨w', h1, h2, h3⟩ := copyE_any (P := Try.prog) (cap := some many) (esz := 1) (len := many) (n := ts.length) (cs := ss.map bi) (old := List.replicate many (.int .i64 0)) (k := 1) (w := w) (l := [.cells (mkCells [ii (many : Int)]) 3, .cells (mkCells (List.replicate many (.int .i64 0))) 3, .cells (mkCells [.sl (nx h 1) 0 many (some many) 1]) 22]) wf un_22 sz_3 (x := reszT Try.prog 22 b) (by have := (hst.up wf [.cells (mkCells [ii (many : Int)]) 3, .cells (mkCells (List.replicate many (.int .i64 0))) 3, .cells (mkCells [.sl (nx h 1) 0 many (some many) 1]) 22] w).srcE hcb.2 un_22 sz_3; rw [hss] at this; exact this) (by simp [hss]) rfl (by simp) (fun k => by rw [← List.map_take]; exact allOne_map (fun _ => rfl) _)
    refine ⟨w', by omega, h2, ?_⟩
    rw [h3, ← List.map_take, mL_take hss hfirst (Nat.min_le_left _ _), List.drop_replicate]
    rfl
  refine WV_call (fn := Try.f16) Try.func16 rfl rfl rfl rfl rfl ?_
  simp only [argF]
  have n0 : ¬ ((many : Int) < 0) := by omega
  have n1 : ¬ ((4096 : Int) < (many : Int)) := by omega
  have hd0 : decide ((many : Int) < 0) = false := decide_eq_false n0
  have hd1 : decide ((4096 : Int) < (many : Int)) = false := decide_eq_false n1
  obtain ⟨w1, hw1, hw1', hcp⟩ := ccopy h.clock (by omega) (by omega)
  (repeat' (first
  | (with_reducible first | refine WC_seq ?_ | refine WC_skip ?_ | refine WC_label ?_ | refine WC_scope ?_ | refine WC_block ?_ | refine WC_ret ?_ | refine WC_exit ?_ | refine seqQ_norm ?_ | refine seqQ_ret ?_ | refine seqQ_exit ?_ | refine blkQ_norm ?_ | refine blkQ_ret ?_ | refine blkQ_here ?_ | refine gateK_yes ?_ | refine gateK_none ?_ | refine condK_tt ?_ | refine condK_ff ?_ | refine roundQ_exit ?_ | refine roundQ_ret ?_)
  | refine WC_region ?_ | refine blkQ_out rfl ?_ | refine WO_nil ?_ | refine WD_nil ?_
  | ((first | refine WD_gate rfl rfl rfl rfl rfl fun K_ hK_ => ?_ | refine WO_gate rfl rfl rfl rfl rfl fun K_ hK_ => ?_); simp only [upd_apply, asB_bool, asB_tup, ↓reduceIte, reduceCtorEq, Nat.reduceEqDiff, Bool.not_true, Bool.not_false]; refine hK_ _ ?_; clear hK_ K_)
  | refine gateK_no (by decide) ?_
  | ((try first | refine WO_op rfl rfl rfl ?_ | refine WO_op0 rfl rfl ?_ | refine WD_op rfl rfl rfl ?_ | refine WD_op0 rfl rfl ?_); (refine WV_gen fun Q_ hQ_ => ?_; simp (disch := first | omega | (simp only [List.length_cons, List.length_nil, List.length_append]; omega)) only [bb, bp, argF, ↓reduceIte, reduceCtorEq, Nat.reduceEqDiff, Nat.reduceLT, Nat.reduceLeDiff, Nat.reduceAdd, Nat.reduceMul, Nat.reduceSub, Nat.reduceBEq, Int.reduceToNat, cond_true, cond_false, eq_self, beq_self_eq_true, hd0, hd1, hmk, hcp, f1, f2, callV_fn, newPtr_X wf, load1_X wf, loadAgg_X wf, store1_X wf, writeCells_X wf, makeFunc_def, tEvZ10, bsl_22, bsl_42, bsl_63, bsl_90, newSlice_X wf]; first | (refine dec_split (Q := Q_) (fun hp_ => ?_) (fun hp_ => ?_) <;> first | (exfalso; omega) | (refine hQ_ _ _ ?_; clear hQ_ Q_)) | (refine dec_splitn (Q := Q_) (fun hp_ => ?_) (fun hp_ => ?_) <;> first | (exfalso; omega) | (refine hQ_ _ _ ?_; clear hQ_ Q_)) | (refine hQ_ _ _ ?_; clear hQ_ Q_) | (refine WV_eq (cst _ _ (by first | omega | (simp only [List.length_append, List.length_cons, List.length_nil]; omega))) ?_; refine hQ_ _ _ ?_; clear hQ_ Q_) | (refine WV_eq (creg _ _ (by first | omega | (simp only [List.length_append, List.length_cons, List.length_nil]; omega))) ?_; refine hQ_ _ _ ?_; clear hQ_ Q_) | (refine WV_eq (crun _ _ (by first | omega | (simp only [List.length_append, List.length_cons, List.length_nil]; omega))) ?_; refine hQ_ _ _ ?_; clear hQ_ Q_)))
  | (refine WC_cond fun K_ hK_ => ?_; simp (disch := omega) only [evT_tmp, upd_apply, WB_some, ↓reduceIte, reduceCtorEq, Nat.reduceEqDiff, Nat.reduceLT]; refine hK_ _ ?_; clear hK_ K_)))
  refine WC_rangeX wf rfl (evT_tmp (by decide)) fun o ho => ?_
  simp only [upd_apply, ↓reduceIte, reduceCtorEq, Nat.reduceEqDiff, List.append_assoc, List.cons_append, List.nil_append, List.length_append, List.length_cons, List.length_nil, Nat.zero_add, Nat.reduceAdd, Nat.add_assoc]
  have hrun' : IsRun (bN ts) ts.length (fun i => ss.getD i false) m := hrun
  refine WV.mono (runs (bN ts) ts.length hT ht ss hss m hrun' b wf hst ⟨f1, f2⟩ 4 5 (many - ts.length + 1) (by omega) (nx h 7) _ _ ?_ ?_
    (fun q L => q ≤ many - ts.length ∧ L = [.cells (mkCells [ii (many : Int)]) 3, .cells (mkCells ((mL m (min ts.length many + q)).map bi ++ List.replicate (many - (min ts.length many + q)) (.int .i64 0))) 3, .cells (mkCells [.sl (nx h 1) 0 many (some many) 1]) 22, .cells (mkCells [ii ((min ts.length many + q : Nat) : Int)]) 3, .cells (mkCells (rg (bN ts) ts.length)) 59, .cells (mkCells [b]) 22, .dfr, o])
    (fun L => ∃ o2, doneE o2 ∧ L = [.cells (mkCells [ii (many : Int)]) 3, .cells (mkCells ((mL m (many)).map bi ++ List.replicate (many - (many)) (.int .i64 0))) 3, .cells (mkCells [.sl (nx h 1) 0 many (some many) 1]) 22, .cells (mkCells [ii ((many : Nat) : Int)]) 3, .cells (mkCells (rg (bN ts) ts.length)) 59, .cells (mkCells [b]) 22, .dfr, o2]) ?_ ?_ ?_) ?_
  · show _ ≤ h.clock + 8
    omega
  · omega
  · rintro q L ⟨_, rfl⟩
    exact ⟨rfl, rfl, rfl⟩
  · rintro q hq L J w ⟨hqn, rfl⟩ hw1 hw2
    have hw2' : w ≤ h.clock + (8 + J.length) := hw2
    simp only [List.cons_append, List.nil_append]
    refine WV_yldX wf (k := 7) rfl ho (setParams1 rfl) ?_
    (repeat' (first
  | (with_reducible first | refine WC_seq ?_ | refine WC_skip ?_ | refine WC_label ?_ | refine WC_scope ?_ | refine WC_block ?_ | refine WC_ret ?_ | refine WC_exit ?_ | refine seqQ_norm ?_ | refine seqQ_ret ?_ | refine seqQ_exit ?_ | refine blkQ_norm ?_ | refine blkQ_ret ?_ | refine blkQ_here ?_ | refine gateK_yes ?_ | refine gateK_none ?_ | refine condK_tt ?_ | refine condK_ff ?_ | refine roundQ_exit ?_ | refine roundQ_ret ?_)
  | refine WC_region ?_ | refine blkQ_out rfl ?_ | refine WO_nil ?_ | refine WD_nil ?_
  | ((first | refine WD_gate rfl rfl rfl rfl rfl fun K_ hK_ => ?_ | refine WO_gate rfl rfl rfl rfl rfl fun K_ hK_ => ?_); simp only [upd_apply, asB_bool, asB_tup, ↓reduceIte, reduceCtorEq, Nat.reduceEqDiff, Bool.not_true, Bool.not_false]; refine hK_ _ ?_; clear hK_ K_)
  | refine gateK_no (by decide) ?_
  | ((try first | refine WO_op rfl rfl rfl ?_ | refine WO_op0 rfl rfl ?_ | refine WD_op rfl rfl rfl ?_ | refine WD_op0 rfl rfl ?_); (refine WV_gen fun Q_ hQ_ => ?_; simp (disch := first | omega | (simp only [List.length_cons, List.length_nil, List.length_append]; omega)) only [bb, bp, argF, ↓reduceIte, reduceCtorEq, Nat.reduceEqDiff, Nat.reduceLT, Nat.reduceLeDiff, Nat.reduceAdd, Nat.reduceMul, Nat.reduceSub, Nat.reduceBEq, Int.reduceToNat, cond_true, cond_false, eq_self, beq_self_eq_true, newPtr_X wf, load1_X wf, loadAgg_X wf, store1_X wf, writeCells_X wf, makeFunc_def, tEvZ10, bsl_22, bsl_42, bsl_63, bsl_90, newSlice_X wf]; first | (refine dec_split (Q := Q_) (fun hp_ => ?_) (fun hp_ => ?_) <;> first | (exfalso; omega) | (refine hQ_ _ _ ?_; clear hQ_ Q_)) | (refine dec_splitn (Q := Q_) (fun hp_ => ?_) (fun hp_ => ?_) <;> first | (exfalso; omega) | (refine hQ_ _ _ ?_; clear hQ_ Q_)) | (refine hQ_ _ _ ?_; clear hQ_ Q_)))
  | (refine WC_cond fun K_ hK_ => ?_; simp (disch := omega) only [evT_tmp, upd_apply, WB_some, ↓reduceIte, reduceCtorEq, Nat.reduceEqDiff, Nat.reduceLT]; refine hK_ _ ?_; clear hK_ K_)))
    refine yldA_X wf (k := 7) rfl ho fun o' ho' => ?_
    simp only [List.set_cons_succ, List.set_cons_zero]
    by_cases he : min ts.length many + q = many
    · rw [he]
      (repeat' (first
  | (with_reducible first | refine WC_seq ?_ | refine WC_skip ?_ | refine WC_label ?_ | refine WC_scope ?_ | refine WC_block ?_ | refine WC_ret ?_ | refine WC_exit ?_ | refine seqQ_norm ?_ | refine seqQ_ret ?_ | refine seqQ_exit ?_ | refine blkQ_norm ?_ | refine blkQ_ret ?_ | refine blkQ_here ?_ | refine gateK_yes ?_ | refine gateK_none ?_ | refine condK_tt ?_ | refine condK_ff ?_ | refine roundQ_exit ?_ | refine roundQ_ret ?_)
  | refine WC_region ?_ | refine blkQ_out rfl ?_ | refine WO_nil ?_ | refine WD_nil ?_
  | ((first | refine WD_gate rfl rfl rfl rfl rfl fun K_ hK_ => ?_ | refine WO_gate rfl rfl rfl rfl rfl fun K_ hK_ => ?_); simp only [upd_apply, asB_bool, asB_tup, ↓reduceIte, reduceCtorEq, Nat.reduceEqDiff, Bool.not_true, Bool.not_false]; refine hK_ _ ?_; clear hK_ K_)
  | refine gateK_no (by decide) ?_
  | ((try first | refine WO_op rfl rfl rfl ?_ | refine WO_op0 rfl rfl ?_ | refine WD_op rfl rfl rfl ?_ | refine WD_op0 rfl rfl ?_); (refine WV_gen fun Q_ hQ_ => ?_; simp (disch := first | omega | (simp only [List.length_cons, List.length_nil, List.length_append]; omega)) only [bb, bp, argF, ↓reduceIte, reduceCtorEq, Nat.reduceEqDiff, Nat.reduceLT, Nat.reduceLeDiff, Nat.reduceAdd, Nat.reduceMul, Nat.reduceSub, Nat.reduceBEq, Int.reduceToNat, cond_true, cond_false, eq_self, beq_self_eq_true, f1, f2, newPtr_X wf, load1_X wf, loadAgg_X wf, store1_X wf, writeCells_X wf, makeFunc_def, tEvZ10, bsl_22, bsl_42, bsl_63, bsl_90, newSlice_X wf]; first | (refine dec_split (Q := Q_) (fun hp_ => ?_) (fun hp_ => ?_) <;> first | (exfalso; omega) | (refine hQ_ _ _ ?_; clear hQ_ Q_)) | (refine dec_splitn (Q := Q_) (fun hp_ => ?_) (fun hp_ => ?_) <;> first | (exfalso; omega) | (refine hQ_ _ _ ?_; clear hQ_ Q_)) | (refine hQ_ _ _ ?_; clear hQ_ Q_)))
  | (refine WC_cond fun K_ hK_ => ?_; simp (disch := omega) only [evT_tmp, upd_apply, WB_some, ↓reduceIte, reduceCtorEq, Nat.reduceEqDiff, Nat.reduceLT]; refine hK_ _ ?_; clear hK_ K_)))
      refine yldB_exit_X wf (k := 7) rfl ho' fun o2 ho2 => ?_
      simp only [List.set_cons_succ, List.set_cons_zero]
      refine ⟨[.cells (mkCells [ii (many : Int)]) 3, .cells (mkCells ((mL m (many)).map bi ++ List.replicate (many - (many)) (.int .i64 0))) 3, .cells (mkCells [.sl (nx h 1) 0 many (some many) 1]) 22, .cells (mkCells [ii ((many : Nat) : Int)]) 3, .cells (mkCells (rg (bN ts) ts.length)) 59, .cells (mkCells [b]) 22, .dfr, o2], [], _, by rw [List.append_nil]; rfl, by omega, ?_, .inr ⟨by first | rfl | trivial, rfl, o2, ⟨_, _, _, _, _, _, _, ho2⟩, rfl⟩⟩
      show _ < h.clock + 8
      omega
    · have hmin : min ts.length many = ts.length := by omega
      rw [hmin] at he ⊢
      have hne : ¬ ((ts.length + q : Nat) : Int) = (many : Int) := by omega
      have hlt : ts.length + q < many := by omega
      have hia : indexAddrE Try.prog 22 (.sl (nx h 1) 0 many (some many) 1) (.int .i64 ((ts.length + q : Nat) : Int)) = some (.ptr (nx h 1) (ts.length + q)) := by
        have ht : toNatE (.int .i64 ((ts.length + q : Nat) : Int)) = some (ts.length + q) := by rw [toNatE_int (by omega), Int.toNat_natCast]
        simp only [indexAddrE_def, ht, ik_22, indexAt_sl hlt, Nat.zero_add, Nat.mul_one]
      have e5 : List.replicate (many - (ts.length + q)) (AV.int .i64 0) = .int .i64 0 :: List.replicate (many - (ts.length + (q + 1))) (.int .i64 0) := by
        rw [show many - (ts.length + q) = many - (ts.length + (q + 1)) + 1 by omega, List.replicate_succ]
      have e6 : (mL m (ts.length + (q + 1))).map bi = (mL m (ts.length + q)).map bi ++ [bi (m (ts.length + q))] := by rw [← Nat.add_assoc, mL_succ, List.map_append]; rfl
      have hplus : ((ts.length + q : Nat) : Int) + 1 = ((ts.length + (q + 1) : Nat) : Int) := by omega
      rw [e5]
      have hCl : ((mL m (ts.length + q)).map bi).length = ts.length + q := by rw [List.length_map, mL_length]
      generalize hC : (mL m (ts.length + q)).map bi = C at *
      generalize hR : List.replicate (many - (ts.length + (q + 1))) (AV.int .i64 0) = R at *
      have hob : oneB (bi (m (ts.length + q))) = true := rfl
      have hob2 : AV.cells (bi (m (ts.length + q))) = [bi (m (ts.length + q))] := rfl
      generalize bi (m (ts.length + q)) = bm at *
      have hst2 : ∀ (o0 : AO) (l : List AO) w, store1 (nx h 1) (ts.length + q) bm (X h (o0 :: .cells (mkCells (C ++ .int .i64 0 :: R)) 3 :: l) w) = some (X h (o0 :: .cells (mkCells ((C ++ [bm]) ++ R)) 3 :: l) (min (h.clock + 1) w)) := fun o0 l w => by
        have e : storeAt (some (.cells (mkCells (C ++ .int .i64 0 :: R)) 3)) (ts.length + q) bm = some (.cells (mkCells ((C ++ [bm]) ++ R)) 3) := by
          rw [storeAt_cells, hob, cond_true, if_pos (by simp; omega), ← hCl, List.set_append_right _ _ (Nat.le_refl _), Nat.sub_self, List.set_cons_zero, List.append_assoc]; rfl
        rw [store1_X wf]
        show (match storeAt (some (.cells (mkCells (C ++ .int .i64 0 :: R)) 3)) (ts.length + q) bm with | some o' => _ | none => _) = _
        rw [e]
        rfl
      (repeat' (first
  | (with_reducible first | refine WC_seq ?_ | refine WC_skip ?_ | refine WC_label ?_ | refine WC_scope ?_ | refine WC_block ?_ | refine WC_ret ?_ | refine WC_exit ?_ | refine seqQ_norm ?_ | refine seqQ_ret ?_ | refine seqQ_exit ?_ | refine blkQ_norm ?_ | refine blkQ_ret ?_ | refine blkQ_here ?_ | refine gateK_yes ?_ | refine gateK_none ?_ | refine condK_tt ?_ | refine condK_ff ?_ | refine roundQ_exit ?_ | refine roundQ_ret ?_)
  | refine WC_region ?_ | refine blkQ_out rfl ?_ | refine WO_nil ?_ | refine WD_nil ?_
  | ((first | refine WD_gate rfl rfl rfl rfl rfl fun K_ hK_ => ?_ | refine WO_gate rfl rfl rfl rfl rfl fun K_ hK_ => ?_); simp only [upd_apply, asB_bool, asB_tup, ↓reduceIte, reduceCtorEq, Nat.reduceEqDiff, Bool.not_true, Bool.not_false]; refine hK_ _ ?_; clear hK_ K_)
  | refine gateK_no (by decide) ?_
  | ((try first | refine WO_op rfl rfl rfl ?_ | refine WO_op0 rfl rfl ?_ | refine WD_op rfl rfl rfl ?_ | refine WD_op0 rfl rfl ?_); (refine WV_gen fun Q_ hQ_ => ?_; simp (disch := first | omega | (simp only [List.length_cons, List.length_nil, List.length_append]; omega)) only [bb, bp, argF, ↓reduceIte, reduceCtorEq, Nat.reduceEqDiff, Nat.reduceLT, Nat.reduceLeDiff, Nat.reduceAdd, Nat.reduceMul, Nat.reduceSub, Nat.reduceBEq, Int.reduceToNat, cond_true, cond_false, eq_self, beq_self_eq_true, f1, f2, hia, hst2, hplus, hob, hob2, newPtr_X wf, load1_X wf, loadAgg_X wf, store1_X wf, writeCells_X wf, makeFunc_def, tEvZ10, bsl_22, bsl_42, bsl_63, bsl_90, newSlice_X wf]; first | (refine dec_split (Q := Q_) (fun hp_ => ?_) (fun hp_ => ?_) <;> first | (exfalso; omega) | (refine hQ_ _ _ ?_; clear hQ_ Q_)) | (refine dec_splitn (Q := Q_) (fun hp_ => ?_) (fun hp_ => ?_) <;> first | (exfalso; omega) | (refine hQ_ _ _ ?_; clear hQ_ Q_)) | (refine hQ_ _ _ ?_; clear hQ_ Q_)))
  | (refine WC_cond fun K_ hK_ => ?_; simp (disch := omega) only [evT_tmp, upd_apply, WB_some, ↓reduceIte, reduceCtorEq, Nat.reduceEqDiff, Nat.reduceLT]; refine hK_ _ ?_; clear hK_ K_)))
      refine yldB_X wf (k := 7) rfl ho' ?_
      simp only [List.set_cons_succ, List.set_cons_zero]
      rw [← ho]
      refine ⟨[.cells (mkCells [ii (many : Int)]) 3, .cells (mkCells ((mL m (ts.length + (q + 1))).map bi ++ List.replicate (many - (ts.length + (q + 1))) (.int .i64 0))) 3, .cells (mkCells [.sl (nx h 1) 0 many (some many) 1]) 22, .cells (mkCells [ii ((ts.length + (q + 1) : Nat) : Int)]) 3, .cells (mkCells (rg (bN ts) ts.length)) 59, .cells (mkCells [b]) 22, .dfr, o], [], _, by rw [List.append_nil, e6, hR, List.append_assoc]; rfl, by omega, ?_, .inl ⟨by first | rfl | trivial, by omega, by omega, by rw [hR]⟩⟩
      show _ < h.clock + 8
      omega
  · exact ⟨by omega, rfl⟩
  · rintro v h' ⟨L, J, w, rfl, hlo, hw, hl7, o2, ⟨g', n', tm', ps', sg', bd', dd', ho2⟩, rfl⟩
    have hw' : w ≤ h.clock + 8 := hw
    simp only [List.cons_append, List.nil_append]
    refine rangeQ_X wf (k := 7) rfl ho2 (by decide) fun o' ho' => ?_
    simp only [List.set_cons_succ, List.set_cons_zero]
    (repeat' (first
  | (with_reducible first | refine WC_seq ?_ | refine WC_skip ?_ | refine WC_label ?_ | refine WC_scope ?_ | refine WC_block ?_ | refine WC_ret ?_ | refine WC_exit ?_ | refine seqQ_norm ?_ | refine seqQ_ret ?_ | refine seqQ_exit ?_ | refine blkQ_norm ?_ | refine blkQ_ret ?_ | refine blkQ_here ?_ | refine gateK_yes ?_ | refine gateK_none ?_ | refine condK_tt ?_ | refine condK_ff ?_ | refine roundQ_exit ?_ | refine roundQ_ret ?_)
  | refine WC_region ?_ | refine blkQ_out rfl ?_ | refine WO_nil ?_ | refine WD_nil ?_
  | ((first | refine WD_gate rfl rfl rfl rfl rfl fun K_ hK_ => ?_ | refine WO_gate rfl rfl rfl rfl rfl fun K_ hK_ => ?_); simp only [upd_apply, asB_bool, asB_tup, ↓reduceIte, reduceCtorEq, Nat.reduceEqDiff, Bool.not_true, Bool.not_false]; refine hK_ _ ?_; clear hK_ K_)
  | refine gateK_no (by decide) ?_
  | ((try first | refine WO_op rfl rfl rfl ?_ | refine WO_op0 rfl rfl ?_ | refine WD_op rfl rfl rfl ?_ | refine WD_op0 rfl rfl ?_); (refine WV_gen fun Q_ hQ_ => ?_; simp (disch := first | omega | (simp only [List.length_cons, List.length_nil, List.length_append]; omega)) only [bb, bp, argF, ↓reduceIte, reduceCtorEq, Nat.reduceEqDiff, Nat.reduceLT, Nat.reduceLeDiff, Nat.reduceAdd, Nat.reduceMul, Nat.reduceSub, Nat.reduceBEq, Int.reduceToNat, cond_true, cond_false, eq_self, beq_self_eq_true, f1, f2, newPtr_X wf, load1_X wf, loadAgg_X wf, store1_X wf, writeCells_X wf, makeFunc_def, tEvZ10, bsl_22, bsl_42, bsl_63, bsl_90, newSlice_X wf]; first | (refine dec_split (Q := Q_) (fun hp_ => ?_) (fun hp_ => ?_) <;> first | (exfalso; omega) | (refine hQ_ _ _ ?_; clear hQ_ Q_)) | (refine dec_splitn (Q := Q_) (fun hp_ => ?_) (fun hp_ => ?_) <;> first | (exfalso; omega) | (refine hQ_ _ _ ?_; clear hQ_ Q_)) | (refine hQ_ _ _ ?_; clear hQ_ Q_)))
  | (refine WC_cond fun K_ hK_ => ?_; simp (disch := omega) only [evT_tmp, upd_apply, WB_some, ↓reduceIte, reduceCtorEq, Nat.reduceEqDiff, Nat.reduceLT]; refine hK_ _ ?_; clear hK_ K_)))
    refine endQ_ret _ _ (takeAll_X wf (k := 6) rfl) (ret2 (by decide) (by decide)) ?_
    simp only [upd_apply, ↓reduceIte, reduceCtorEq, Nat.reduceEqDiff]
    refine WV_ext (by exact Bool.and_false _) ?_
    have hwe : min h.w (min (h.clock + 6) (min (h.clock + 7) w)) = h.w := by have := wf.wle; omega
    rw [hwe, Nat.sub_self, List.replicate_zero, List.append_nil]
    exact ⟨_, rfl, rfl, rfl⟩
end Go.Proofs.Ytmincoafjnnkpaa
end

/- EvZ11 -/
section
/-
  LAYER 5: the reference's Run.
-/
namespace Go.Proofs.Ytmincoafjnnkpaa
open Go.Ev
set_option maxRecDepth 100000
set_option linter.unusedSimpArgs false
set_option linter.unusedVariables false
set_option maxHeartbeats 2000000
theorem tEvZ11 : type_of% (And.intro (And.intro (And.intro (And.intro (And.intro (And.intro (And.intro (@bs_33) (@bs_34)) (And.intro (@bs_57) (@bs_59))) (And.intro (And.intro (@bs_67) (@bs_78)) (And.intro (@ia_2) (And.intro (@ia_3) (@ia_4))))) (And.intro (And.intro (And.intro (@ia_5) (@ia_22)) (And.intro (@ia_24) (@ia_25))) (And.intro (And.intro (@ia_33) (@ia_34)) (And.intro (@ia_42) (And.intro (@ia_55) (@ia_57)))))) (And.intro (And.intro (And.intro (And.intro (@ia_59) (@ia_63)) (And.intro (@ia_67) (@ia_74))) (And.intro (And.intro (@ia_78) (@ia_85)) (And.intro (@ia_87) (And.intro (@ia_90) (@sz_2))))) (And.intro (And.intro (And.intro (@sz_3) (@sz_4)) (And.intro (@sz_5) (And.intro (@sz_22) (@sz_24)))) (And.intro (And.intro (@sz_25) (@sz_33)) (And.intro (@sz_34) (And.intro (@sz_42) (@sz_55))))))) (And.intro (And.intro (And.intro (And.intro (And.intro (@sz_57) (@sz_59)) (And.intro (@sz_63) (@sz_67))) (And.intro (And.intro (@sz_74) (@sz_78)) (And.intro (@sz_85) (And.intro (@sz_87) (@sz_90))))) (And.intro (And.intro (And.intro (@ze_2) (@ze_3)) (And.intro (@ze_4) (And.intro (@ze_5) (@ze_22)))) (And.intro (And.intro (@ze_24) (@ze_33)) (And.intro (@ze_34) (And.intro (@ze_42) (@ze_55)))))) (And.intro (And.intro (And.intro (And.intro (@ze_57) (@ze_59)) (And.intro (@ze_63) (@ze_67))) (And.intro (And.intro (@ze_74) (@ze_78)) (And.intro (@ze_85) (And.intro (@ze_87) (@ze_90))))) (And.intro (And.intro (And.intro (@fo_33_0) (@fo_33_1)) (And.intro (@fo_34_0) (And.intro (@fo_34_1) (@fo_59_0)))) (And.intro (And.intro (@fo_59_1) (@fo_67_0)) (And.intro (@fo_67_1) (And.intro (@fo_78_0) (@pb_15)))))))) (And.intro (And.intro (And.intro (And.intro (And.intro (And.intro (@pb_16) (@pb_17)) (And.intro (@pb_18) (@pb_19))) (And.intro (And.intro (@pb_20) (@pb_21)) (And.intro (@pb_22) (And.intro (@pb_23) (@pb_24))))) (And.intro (And.intro (And.intro (@pb_25) (@pb_26)) (And.intro (@pb_27) (@pb_28))) (And.intro (And.intro (@pb_29) (@pb_30)) (And.intro (@pb_31) (And.intro (@pb_32) (@pb_33)))))) (And.intro (And.intro (And.intro (And.intro (@pb_34) (@pb_35)) (And.intro (@pb_36) (@pb_37))) (And.intro (And.intro (@pb_38) (@pb_39)) (And.intro (@pb_40) (And.intro (@pb_41) (@pb_42))))) (And.intro (And.intro (And.intro (@pb_43) (@pb_44)) (And.intro (@pb_45) (And.intro (@pb_46) (@pb_47)))) (And.intro (And.intro (@pb_48) (@pb_49)) (And.intro (@pb_50) (And.intro (@pb_51) (@pb_52))))))) (And.intro (And.intro (And.intro (And.intro (And.intro (@pb_53) (@pb_54)) (And.intro (@pb_55) (@pb_56))) (And.intro (And.intro (@pb_57) (@pb_58)) (And.intro (@pb_59) (And.intro (@pb_60) (@pb_61))))) (And.intro (And.intro (And.intro (@pb_62) (@pb_63)) (And.intro (@pb_64) (And.intro (@pb_65) (@pb_66)))) (And.intro (And.intro (@pb_67) (@pb_68)) (And.intro (@pb_69) (And.intro (@pb_70) (@pb_71)))))) (And.intro (And.intro (And.intro (And.intro (@pb_72) (@pb_73)) (And.intro (@pb_74) (@pb_75))) (And.intro (And.intro (@pb_76) (@pb_77)) (And.intro (@pb_78) (And.intro (@pb_79) (@pb_80))))) (And.intro (And.intro (And.intro (@pb_81) (@pb_82)) (And.intro (@ik_22) (And.intro (@ik_42) (@ik_57)))) (And.intro (And.intro (@ik_63) (@ik_90)) (And.intro (@ni_22) (And.intro (@ni_42) (@ni_63))))))))) := And.intro (And.intro (And.intro (And.intro (And.intro (And.intro (And.intro (@bs_33) (@bs_34)) (And.intro (@bs_57) (@bs_59))) (And.intro (And.intro (@bs_67) (@bs_78)) (And.intro (@ia_2) (And.intro (@ia_3) (@ia_4))))) (And.intro (And.intro (And.intro (@ia_5) (@ia_22)) (And.intro (@ia_24) (@ia_25))) (And.intro (And.intro (@ia_33) (@ia_34)) (And.intro (@ia_42) (And.intro (@ia_55) (@ia_57)))))) (And.intro (And.intro (And.intro (And.intro (@ia_59) (@ia_63)) (And.intro (@ia_67) (@ia_74))) (And.intro (And.intro (@ia_78) (@ia_85)) (And.intro (@ia_87) (And.intro (@ia_90) (@sz_2))))) (And.intro (And.intro (And.intro (@sz_3) (@sz_4)) (And.intro (@sz_5) (And.intro (@sz_22) (@sz_24)))) (And.intro (And.intro (@sz_25) (@sz_33)) (And.intro (@sz_34) (And.intro (@sz_42) (@sz_55))))))) (And.intro (And.intro (And.intro (And.intro (And.intro (@sz_57) (@sz_59)) (And.intro (@sz_63) (@sz_67))) (And.intro (And.intro (@sz_74) (@sz_78)) (And.intro (@sz_85) (And.intro (@sz_87) (@sz_90))))) (And.intro (And.intro (And.intro (@ze_2) (@ze_3)) (And.intro (@ze_4) (And.intro (@ze_5) (@ze_22)))) (And.intro (And.intro (@ze_24) (@ze_33)) (And.intro (@ze_34) (And.intro (@ze_42) (@ze_55)))))) (And.intro (And.intro (And.intro (And.intro (@ze_57) (@ze_59)) (And.intro (@ze_63) (@ze_67))) (And.intro (And.intro (@ze_74) (@ze_78)) (And.intro (@ze_85) (And.intro (@ze_87) (@ze_90))))) (And.intro (And.intro (And.intro (@fo_33_0) (@fo_33_1)) (And.intro (@fo_34_0) (And.intro (@fo_34_1) (@fo_59_0)))) (And.intro (And.intro (@fo_59_1) (@fo_67_0)) (And.intro (@fo_67_1) (And.intro (@fo_78_0) (@pb_15)))))))) (And.intro (And.intro (And.intro (And.intro (And.intro (And.intro (@pb_16) (@pb_17)) (And.intro (@pb_18) (@pb_19))) (And.intro (And.intro (@pb_20) (@pb_21)) (And.intro (@pb_22) (And.intro (@pb_23) (@pb_24))))) (And.intro (And.intro (And.intro (@pb_25) (@pb_26)) (And.intro (@pb_27) (@pb_28))) (And.intro (And.intro (@pb_29) (@pb_30)) (And.intro (@pb_31) (And.intro (@pb_32) (@pb_33)))))) (And.intro (And.intro (And.intro (And.intro (@pb_34) (@pb_35)) (And.intro (@pb_36) (@pb_37))) (And.intro (And.intro (@pb_38) (@pb_39)) (And.intro (@pb_40) (And.intro (@pb_41) (@pb_42))))) (And.intro (And.intro (And.intro (@pb_43) (@pb_44)) (And.intro (@pb_45) (And.intro (@pb_46) (@pb_47)))) (And.intro (And.intro (@pb_48) (@pb_49)) (And.intro (@pb_50) (And.intro (@pb_51) (@pb_52))))))) (And.intro (And.intro (And.intro (And.intro (And.intro (@pb_53) (@pb_54)) (And.intro (@pb_55) (@pb_56))) (And.intro (And.intro (@pb_57) (@pb_58)) (And.intro (@pb_59) (And.intro (@pb_60) (@pb_61))))) (And.intro (And.intro (And.intro (@pb_62) (@pb_63)) (And.intro (@pb_64) (And.intro (@pb_65) (@pb_66)))) (And.intro (And.intro (@pb_67) (@pb_68)) (And.intro (@pb_69) (And.intro (@pb_70) (@pb_71)))))) (And.intro (And.intro (And.intro (And.intro (@pb_72) (@pb_73)) (And.intro (@pb_74) (@pb_75))) (And.intro (And.intro (@pb_76) (@pb_77)) (And.intro (@pb_78) (And.intro (@pb_79) (@pb_80))))) (And.intro (And.intro (And.intro (@pb_81) (@pb_82)) (And.intro (@ik_22) (And.intro (@ik_42) (@ik_57)))) (And.intro (And.intro (@ik_63) (@ik_90)) (And.intro (@ni_22) (And.intro (@ni_42) (@ni_63))))))))
theorem rz22 {id : Pos} {off l c esz : Nat} : reszT Try.prog 22 (.sl id off l (some c) esz) = .sl id off l (some c) 1 := reszT_some un_22 sz_3
theorem sq_mL (m : Nat → Bool) {n j : Nat} (hj : j < n) : sq (mL m n) j = m j := by
  unfold mL sq
  rw [List.getD_eq_getElem?_getD, List.getElem?_map, List.getElem?_range hj]
  rfl
theorem mL_all {m : Nat → Bool} {bs : List Bool} (hm : ∀ i, i < bs.length → m i = sq bs i) : bs = mL m bs.length := by
  have := mL_take (m := m) (bs := bs) rfl hm (Nat.le_refl _)
  rwa [List.take_length] at this
/-- The reference's Run, for lists and a number that are valid. -/
theorem rrunOK (ts ss : List Bool) (ht : ts.length ≤ 128) (hss : ss.length = ts.length) (many : Nat) (hmn : many ≤ 4096) (a b : AV) (h : H) (wf : Wf h) (hs : Sl h a 1 ts.length (ts.map bi)) (hst : Sl h b 1 ss.length (ss.map bi)) (hcb : CapU 1 b) (xs ys : List Int) (hx : xs.length = ts.length) (hxm : xs.map ii = ts.map bi) (hy : ys.length = ss.length) (hym : ys.map ii = ss.map bi) (he : err3 xs ys = 0) :
    ∃ v L, Sl (X h L h.w) v 1 many ((mL (runS (bN ts) ts.length (sq ss)) many).map bi) ∧ (om Try.prog KK).call (.fn 17 [a, b, ii (many : Int)]) h = .ok (.tup [v, ii 0]) (X h L h.w) := by
  suffices hW : WV ((om Try.prog KK).call (.fn 17 [a, b, ii (many : Int)]) h) fun v h' => ∃ c L, Sl (X h L h.w) c 1 many ((mL (runS (bN ts) ts.length (sq ss)) many).map bi) ∧ v = .tup [c, ii 0] ∧ h' = X h L h.w by
    obtain ⟨v, h', e, c, L, h3, rfl, rfl⟩ := hW
    exact ⟨c, L, h3, e⟩
  have hrun := runS_is (bN ts) ts.length (sq ss)
  have hfirst := hrun.first
  have hthen := hrun.then_
  generalize hme : runS (bN ts) ts.length (sq ss) = m at *
  have hall : ss.map bi = (mL m ss.length).map bi := by rw [← mL_all (m := m) (bs := ss) (fun i hi => hfirst i (by omega))]
  obtain ⟨f1, f2⟩ := sl_flat hst
  have cst : ∀ (l : List AO) (w : Nat), w ≤ h.clock + l.length → (om Try.prog KK).call (.fn 44 [a, b]) (X h l w) = .ok (ii 0) (X h l w) := fun l w hw => by
    have := rstarted xs ys a b _ (wf.X hw) (by rw [hx, hxm]; exact hs.up wf l w) (by rw [hy, hym]; exact hst.up wf l w)
    rw [he] at this
    exact this
  -- the loop's invariant
  let V : Nat → AV → List AO → Prop := fun i v G => (i = 0 ∧ v = .sl (nx h 0) 0 0 (some 0) 1 ∧ G = []) ∨ (0 < i ∧ Grow h [.cells (mkCells []) 3] G v 1 3 i ((mL m i).map bi))
  have hV0 : ∀ w, h.clock ≤ w → ∃ v G w', h.clock ≤ w' ∧ w' ≤ w ∧ V ss.length v G ∧ appendE Try.prog 22 (reszT Try.prog 22 (.sl (nx h 0) 0 0 (some 0) 1)) (reszT Try.prog 22 b) (X h [.cells (mkCells []) 3] w) = .ok v (X h ([.cells (mkCells []) 3] ++ G) w') := fun w hw => by
    have hsrc := (hst.up wf [.cells (mkCells []) 3] w).srcE hcb.2 un_22 sz_3
    rw [reszT_some un_22 sz_3]
    by_cases h0 : ss.length = 0
    · refine ⟨_, [], w, hw, Nat.le_refl _, .inl ⟨h0, rfl, rfl⟩, ?_⟩
      unfold appendE
      rw [un_22]; dsimp only; rw [sz_3]; dsimp only; rw [hsrc]; dsimp only
      rw [h0]; rfl
    · refine ⟨_, _, w, hw, Nat.le_refl _, .inr ⟨by omega, ?_⟩, append_zero (k := 0) wf un_22 sz_3 el_3 (by omega) h0 (by decide) rfl hsrc (by simp)⟩
      refine ⟨by simp [mL_length], .inr ⟨0, rfl, ?_⟩⟩
      rw [hall]; rfl
  have hVs : ∀ {i v G}, V i v G → ∀ w, Sl (X h ([.cells (mkCells []) 3] ++ G) w) v 1 i ((mL m i).map bi) := fun {i v G} hv w => by
    rcases hv with ⟨rfl, rfl, rfl⟩ | ⟨_, g⟩
    · exact Sl.new (k := 0) wf rfl rfl
    · exact g.sl wf w
  have hVc : ∀ {i v G}, V i v G → CapU 1 v := fun {i v G} hv => by
    rcases hv with ⟨rfl, rfl, rfl⟩ | ⟨_, g⟩
    · exact capu_some (Nat.le_refl 0)
    · obtain ⟨_, h1 | ⟨idx, h1, _⟩⟩ := g
      · rw [h1.2]; exact ⟨fun _ _ _ _ _ e => (by cases e), fun _ _ _ _ e => (by cases e)⟩
      · rw [h1]; exact capu_none
  have hVa : ∀ {i v G}, V i v G → i < 5000 → ∃ v' G', V (i + 1) v' G' ∧ ∀ w, h.clock ≤ w → ∃ w', h.clock ≤ w' ∧ w' ≤ w ∧ appendE Try.prog 22 (reszT Try.prog 22 v) (.sl (nx h (G.length + 1)) 0 1 (some 1) 1) (X h ([.cells (mkCells []) 3] ++ (G ++ [.cells (mkCells [bi (m i)]) 3])) w) = .ok v' (X h ([.cells (mkCells []) 3] ++ G') w') := fun {i v G} hv hi => by
    rcases hv with ⟨rfl, rfl, rfl⟩ | ⟨hi0, g⟩
    · refine ⟨_, [.cells (mkCells [bi (m 0)]) 3, .cells (mkCells [bi (m 0)]) 3], .inr ⟨by omega, ⟨by simp [mL_length], .inr ⟨1, rfl, rfl⟩⟩⟩, fun w hw => ⟨w, hw, Nat.le_refl _, ?_⟩⟩
      rw [reszT_some un_22 sz_3]
      exact append_zero (k := 0) (n := 1) wf un_22 sz_3 el_3 (by omega) (by omega) (by decide) rfl (src_new (e := 3) wf rfl rfl) rfl
    · obtain ⟨v', G', hg', happ⟩ := (g.more [.cells (mkCells [bi (m i)]) 3]).append (P := Try.prog) wf un_22 sz_3 el_3 (x := .sl (nx h (G.length + 1)) 0 1 (some 1) 1) (n := 1) (new := [bi (m i)]) (by omega) (by omega) (by decide) rfl rfl (fun w => src_new (e := 3) wf (by simp) rfl)
      refine ⟨v', G', .inr ⟨by omega, ?_⟩, fun w hw => ?_⟩
      · rw [mL_succ, List.map_append]; exact hg'
      · rw [g.resz]; exact happ w hw
  refine WV_call (fn := Try.f17) Try.func17 rfl rfl rfl rfl rfl ?_
  simp only [argF]
  have hd0 : decide ((many : Int) < 0) = false := decide_eq_false (by omega)
  have hd1 : decide ((4096 : Int) < (many : Int)) = false := decide_eq_false (by omega)
  obtain ⟨v0, G0, w0, hw0, hw0', hv0, happ0⟩ := hV0 h.clock (Nat.le_refl _)
  simp only [List.cons_append, List.nil_append] at happ0
  (repeat' (first
  | (with_reducible first | refine WC_seq ?_ | refine WC_skip ?_ | refine WC_label ?_ | refine WC_scope ?_ | refine WC_block ?_ | refine WC_ret ?_ | refine WC_exit ?_ | refine seqQ_norm ?_ | refine seqQ_ret ?_ | refine seqQ_exit ?_ | refine blkQ_norm ?_ | refine blkQ_ret ?_ | refine blkQ_here ?_ | refine gateK_yes ?_ | refine gateK_none ?_ | refine condK_tt ?_ | refine condK_ff ?_ | refine roundQ_exit ?_ | refine roundQ_ret ?_)
  | refine WC_region ?_ | refine blkQ_out rfl ?_ | refine WO_nil ?_ | refine WD_nil ?_
  | ((first | refine WD_gate rfl rfl rfl rfl rfl fun K_ hK_ => ?_ | refine WO_gate rfl rfl rfl rfl rfl fun K_ hK_ => ?_); simp only [upd_apply, asB_bool, asB_tup, ↓reduceIte, reduceCtorEq, Nat.reduceEqDiff, Bool.not_true, Bool.not_false]; refine hK_ _ ?_; clear hK_ K_)
  | refine gateK_no (by decide) ?_
  | ((try first | refine WO_op rfl rfl rfl ?_ | refine WO_op0 rfl rfl ?_ | refine WD_op rfl rfl rfl ?_ | refine WD_op0 rfl rfl ?_); (refine WV_gen fun Q_ hQ_ => ?_; simp (disch := first | omega | (simp only [List.length_cons, List.length_nil, List.length_append]; omega)) only [bb, bp, argF, ↓reduceIte, reduceCtorEq, Nat.reduceEqDiff, Nat.reduceLT, Nat.reduceLeDiff, Nat.reduceAdd, Nat.reduceMul, Nat.reduceSub, Nat.reduceBEq, Int.reduceToNat, cond_true, cond_false, eq_self, beq_self_eq_true, hd0, hd1, ni_22, happ0, f1, f2, newPtr_X wf, load1_X wf, loadAgg_X wf, store1_X wf, writeCells_X wf, makeFunc_def, tEvZ11, bsl_22, bsl_42, bsl_63, bsl_90, newSlice_X wf]; first | (refine dec_split (Q := Q_) (fun hp_ => ?_) (fun hp_ => ?_) <;> first | (exfalso; omega) | (refine hQ_ _ _ ?_; clear hQ_ Q_)) | (refine dec_splitn (Q := Q_) (fun hp_ => ?_) (fun hp_ => ?_) <;> first | (exfalso; omega) | (refine hQ_ _ _ ?_; clear hQ_ Q_)) | (refine hQ_ _ _ ?_; clear hQ_ Q_) | (refine WV_eq (cst _ _ (by first | omega | (simp only [List.length_append, List.length_cons, List.length_nil]; omega))) ?_; refine hQ_ _ _ ?_; clear hQ_ Q_)))
  | (refine WC_cond fun K_ hK_ => ?_; simp (disch := omega) only [evT_tmp, upd_apply, WB_some, ↓reduceIte, reduceCtorEq, Nat.reduceEqDiff, Nat.reduceLT]; refine hK_ _ ?_; clear hK_ K_)))
  refine WC_loop (α := Nat) (fun (i : Nat) f d h' => ss.length ≤ i ∧ (i ≤ many ∨ i = ss.length) ∧ f 0 = a ∧ f 2 = ii (many : Int) ∧ d = [] ∧
    ∃ v G w, f 8 = v ∧ V i v G ∧ h.clock ≤ w ∧ w ≤ h.clock ∧ h' = X h (.cells (mkCells []) 3 :: G) w) (fun i => many - i) ?_ (many + 1) ss.length (by omega) ?_
  · rintro i f d h' ⟨hi, hi2, g0, g2, rfl, v, G, w, g8, hv, hw, hw2, rfl⟩
    have hwe : w = h.clock := by omega
    subst hwe
    have hsv := hVs hv
    have hcv := hVc hv
    obtain ⟨fv1, fv2⟩ := sl_flat (hsv h.clock)
    have hlv : ∀ h', lenE Try.prog 22 v h' = some (ii (i : Int)) := fun h' => (hsv h.clock).len un_22
    by_cases hlt : i < many
    · have hlti : (i : Int) < (many : Int) := by omega
      have c1 : ∀ w, w ≤ h.clock + (G.length + 1) → (om Try.prog KK).call (.fn 45 [v, a]) (X h (.cells (mkCells []) 3 :: G) w) = .ok (bi (m i)) (X h (.cells (mkCells []) 3 :: G) w) := fun w hw => by
        have hmi : m i = pred (bN ts) ts.length (sq (mL m i)) i := by
          rw [hthen i (by omega)]
          exact pred_congr (by omega) fun j hj => (sq_mL m hj).symm
        have := rnext (mL m i) ts (by rw [mL_length]; omega) (by rw [mL_length]; omega) v a _ (wf.X (l := .cells (mkCells []) 3 :: G) (w := w) (by simp only [List.length_cons]; omega)) (by rw [mL_length]; exact hsv w) (hs.up wf _ w)
        rw [mL_length, ← hmi] at this
        exact this
      obtain ⟨v', G', hv', happ⟩ := hVa hv (by omega)
      obtain ⟨w', h1, h2, happ⟩ := happ h.clock (Nat.le_refl _)
      have hwe : w' = h.clock := by omega
      subst hwe
      simp only [List.cons_append, List.nil_append] at happ
      have hob : oneB (bi (m i)) = true := rfl
      have hob2 : AV.cells (bi (m i)) = [bi (m i)] := rfl
      generalize bi (m i) = bm at *
      (repeat' (first
  | (with_reducible first | refine WC_seq ?_ | refine WC_skip ?_ | refine WC_label ?_ | refine WC_scope ?_ | refine WC_block ?_ | refine WC_ret ?_ | refine WC_exit ?_ | refine seqQ_norm ?_ | refine seqQ_ret ?_ | refine seqQ_exit ?_ | refine blkQ_norm ?_ | refine blkQ_ret ?_ | refine blkQ_here ?_ | refine gateK_yes ?_ | refine gateK_none ?_ | refine condK_tt ?_ | refine condK_ff ?_ | refine roundQ_exit ?_ | refine roundQ_ret ?_)
  | refine WC_region ?_ | refine blkQ_out rfl ?_ | refine WO_nil ?_ | refine WD_nil ?_
  | ((first | refine WD_gate rfl rfl rfl rfl rfl fun K_ hK_ => ?_ | refine WO_gate rfl rfl rfl rfl rfl fun K_ hK_ => ?_); simp only [upd_apply, asB_bool, asB_tup, ↓reduceIte, reduceCtorEq, Nat.reduceEqDiff, Bool.not_true, Bool.not_false]; refine hK_ _ ?_; clear hK_ K_)
  | refine gateK_no (by decide) ?_
  | ((try first | refine WO_op rfl rfl rfl ?_ | refine WO_op0 rfl rfl ?_ | refine WD_op rfl rfl rfl ?_ | refine WD_op0 rfl rfl ?_); (refine WV_gen fun Q_ hQ_ => ?_; simp (disch := first | omega | (simp only [List.length_cons, List.length_nil, List.length_append]; omega)) only [bb, bp, argF, ↓reduceIte, reduceCtorEq, Nat.reduceEqDiff, Nat.reduceLT, Nat.reduceLeDiff, Nat.reduceAdd, Nat.reduceMul, Nat.reduceSub, Nat.reduceBEq, Int.reduceToNat, cond_true, cond_false, eq_self, beq_self_eq_true, hlv, g0, g2, g8, fv1, fv2, hob, hob2, happ, rz22, ni_22, newPtr_X wf, load1_X wf, loadAgg_X wf, store1_X wf, writeCells_X wf, makeFunc_def, tEvZ11, bsl_22, bsl_42, bsl_63, bsl_90, newSlice_X wf]; first | (refine dec_split (Q := Q_) (fun hp_ => ?_) (fun hp_ => ?_) <;> first | (exfalso; omega) | (refine hQ_ _ _ ?_; clear hQ_ Q_)) | (refine dec_splitn (Q := Q_) (fun hp_ => ?_) (fun hp_ => ?_) <;> first | (exfalso; omega) | (refine hQ_ _ _ ?_; clear hQ_ Q_)) | (refine hQ_ _ _ ?_; clear hQ_ Q_) | (refine WV_eq (c1 _ (by first | omega | (simp only [List.length_append, List.length_cons, List.length_nil]; omega))) ?_; refine hQ_ _ _ ?_; clear hQ_ Q_)))
  | (refine WC_cond fun K_ hK_ => ?_; simp (disch := omega) only [evT_tmp, upd_apply, WB_some, ↓reduceIte, reduceCtorEq, Nat.reduceEqDiff, Nat.reduceLT]; refine hK_ _ ?_; clear hK_ K_)))
      exact roundQ_again (i + 1) (by omega) ⟨by omega, by omega, by simp only [upd_apply, ↓reduceIte, reduceCtorEq, Nat.reduceEqDiff]; exact g0, by simp only [upd_apply, ↓reduceIte, reduceCtorEq, Nat.reduceEqDiff]; exact g2, rfl, v', G', h.clock, by simp only [upd_apply, ↓reduceIte, reduceCtorEq, Nat.reduceEqDiff], hv', Nat.le_refl _, Nat.le_refl _, rfl⟩
    · have hlti : ¬ (i : Int) < (many : Int) := by omega
      obtain ⟨c, hcut, hsc, hcc⟩ := (hsv h.clock).cutTo (P := Try.prog) (k := many) (by omega) un_22 sz_3 (by omega) hcv
      have hcc2 : ((mL m i).map bi).take (many * 1) = (mL m many).map bi := by
        rw [Nat.mul_one, ← List.map_take, mL_take (L := i) (mL_length m i) (fun j hj => (sq_mL m hj).symm) (by omega)]
      rw [hcc2] at hsc
      obtain ⟨fc1, fc2⟩ := sl_flat hsc
      (repeat' (first
  | (with_reducible first | refine WC_seq ?_ | refine WC_skip ?_ | refine WC_label ?_ | refine WC_scope ?_ | refine WC_block ?_ | refine WC_ret ?_ | refine WC_exit ?_ | refine seqQ_norm ?_ | refine seqQ_ret ?_ | refine seqQ_exit ?_ | refine blkQ_norm ?_ | refine blkQ_ret ?_ | refine blkQ_here ?_ | refine gateK_yes ?_ | refine gateK_none ?_ | refine condK_tt ?_ | refine condK_ff ?_ | refine roundQ_exit ?_ | refine roundQ_ret ?_)
  | refine WC_region ?_ | refine blkQ_out rfl ?_ | refine WO_nil ?_ | refine WD_nil ?_
  | ((first | refine WD_gate rfl rfl rfl rfl rfl fun K_ hK_ => ?_ | refine WO_gate rfl rfl rfl rfl rfl fun K_ hK_ => ?_); simp only [upd_apply, asB_bool, asB_tup, ↓reduceIte, reduceCtorEq, Nat.reduceEqDiff, Bool.not_true, Bool.not_false]; refine hK_ _ ?_; clear hK_ K_)
  | refine gateK_no (by decide) ?_
  | ((try first | refine WO_op rfl rfl rfl ?_ | refine WO_op0 rfl rfl ?_ | refine WD_op rfl rfl rfl ?_ | refine WD_op0 rfl rfl ?_); (refine WV_gen fun Q_ hQ_ => ?_; simp (disch := first | omega | (simp only [List.length_cons, List.length_nil, List.length_append]; omega)) only [bb, bp, argF, ↓reduceIte, reduceCtorEq, Nat.reduceEqDiff, Nat.reduceLT, Nat.reduceLeDiff, Nat.reduceAdd, Nat.reduceMul, Nat.reduceSub, Nat.reduceBEq, Int.reduceToNat, cond_true, cond_false, eq_self, beq_self_eq_true, hlv, g0, g2, g8, fv1, fv2, fc1, fc2, hcut, newPtr_X wf, load1_X wf, loadAgg_X wf, store1_X wf, writeCells_X wf, makeFunc_def, tEvZ11, bsl_22, bsl_42, bsl_63, bsl_90, newSlice_X wf]; first | (refine dec_split (Q := Q_) (fun hp_ => ?_) (fun hp_ => ?_) <;> first | (exfalso; omega) | (refine hQ_ _ _ ?_; clear hQ_ Q_)) | (refine dec_splitn (Q := Q_) (fun hp_ => ?_) (fun hp_ => ?_) <;> first | (exfalso; omega) | (refine hQ_ _ _ ?_; clear hQ_ Q_)) | (refine hQ_ _ _ ?_; clear hQ_ Q_)))
  | (refine WC_cond fun K_ hK_ => ?_; simp (disch := omega) only [evT_tmp, upd_apply, WB_some, ↓reduceIte, reduceCtorEq, Nat.reduceEqDiff, Nat.reduceLT]; refine hK_ _ ?_; clear hK_ K_)))
      refine endQ_ret _ _ rfl (ret2 (by decide) (by decide)) ?_
      simp only [upd_apply, ↓reduceIte, reduceCtorEq, Nat.reduceEqDiff]
      refine WV_keep wf (Nat.le_refl _) (fun hfl => ?_) (fun _ => ?_)
      · obtain ⟨hl, ⟨rfl, h0⟩ | ⟨id, off, cap, esz, o, cs, rfl, _⟩⟩ := hsc
        · exact ⟨.nils, [], ⟨hl, .inl ⟨rfl, h0⟩⟩, rfl, by rw [X_self]⟩
        · exact absurd (show false = true from hfl) (by decide)
      · refine ⟨c, .cells (mkCells []) 3 :: G, ?_, rfl, rfl⟩
        obtain ⟨c', hcut', hsc', _⟩ := (hsv h.w).cutTo (P := Try.prog) (k := many) (by omega) un_22 sz_3 (by omega) hcv
        rw [hcut] at hcut'
        cases hcut'
        rw [hcc2] at hsc'
        exact hsc'
  · exact ⟨Nat.le_refl _, .inr rfl, rfl, rfl, rfl, v0, G0, w0, rfl, hv0, hw0, hw0', rfl⟩
end Go.Proofs.Ytmincoafjnnkpaa
end

/- EvZ12 -/
section
/-
  LAYER 5: CheckRegister, and its reference; lists held against one another.
-/
namespace Go.Proofs.Ytmincoafjnnkpaa
open Go.Ev
set_option maxRecDepth 100000
set_option linter.unusedSimpArgs false
set_option linter.unusedVariables false
set_option maxHeartbeats 2000000
theorem tEvZ12 : type_of% (And.intro (And.intro (And.intro (And.intro (And.intro (And.intro (And.intro (@bs_33) (@bs_34)) (And.intro (@bs_57) (@bs_59))) (And.intro (And.intro (@bs_67) (@bs_78)) (And.intro (@ia_2) (And.intro (@ia_3) (@ia_4))))) (And.intro (And.intro (And.intro (@ia_5) (@ia_22)) (And.intro (@ia_24) (@ia_25))) (And.intro (And.intro (@ia_33) (@ia_34)) (And.intro (@ia_42) (And.intro (@ia_55) (@ia_57)))))) (And.intro (And.intro (And.intro (And.intro (@ia_59) (@ia_63)) (And.intro (@ia_67) (@ia_74))) (And.intro (And.intro (@ia_78) (@ia_85)) (And.intro (@ia_87) (And.intro (@ia_90) (@sz_2))))) (And.intro (And.intro (And.intro (@sz_3) (@sz_4)) (And.intro (@sz_5) (And.intro (@sz_22) (@sz_24)))) (And.intro (And.intro (@sz_25) (@sz_33)) (And.intro (@sz_34) (And.intro (@sz_42) (@sz_55))))))) (And.intro (And.intro (And.intro (And.intro (And.intro (@sz_57) (@sz_59)) (And.intro (@sz_63) (@sz_67))) (And.intro (And.intro (@sz_74) (@sz_78)) (And.intro (@sz_85) (And.intro (@sz_87) (@sz_90))))) (And.intro (And.intro (And.intro (@ze_2) (@ze_3)) (And.intro (@ze_4) (And.intro (@ze_5) (@ze_22)))) (And.intro (And.intro (@ze_24) (@ze_33)) (And.intro (@ze_34) (And.intro (@ze_42) (@ze_55)))))) (And.intro (And.intro (And.intro (And.intro (@ze_57) (@ze_59)) (And.intro (@ze_63) (@ze_67))) (And.intro (And.intro (@ze_74) (@ze_78)) (And.intro (@ze_85) (And.intro (@ze_87) (@ze_90))))) (And.intro (And.intro (And.intro (@fo_33_0) (@fo_33_1)) (And.intro (@fo_34_0) (And.intro (@fo_34_1) (@fo_59_0)))) (And.intro (And.intro (@fo_59_1) (@fo_67_0)) (And.intro (@fo_67_1) (And.intro (@fo_78_0) (@pb_15)))))))) (And.intro (And.intro (And.intro (And.intro (And.intro (And.intro (@pb_16) (@pb_17)) (And.intro (@pb_18) (@pb_19))) (And.intro (And.intro (@pb_20) (@pb_21)) (And.intro (@pb_22) (And.intro (@pb_23) (@pb_24))))) (And.intro (And.intro (And.intro (@pb_25) (@pb_26)) (And.intro (@pb_27) (@pb_28))) (And.intro (And.intro (@pb_29) (@pb_30)) (And.intro (@pb_31) (And.intro (@pb_32) (@pb_33)))))) (And.intro (And.intro (And.intro (And.intro (@pb_34) (@pb_35)) (And.intro (@pb_36) (@pb_37))) (And.intro (And.intro (@pb_38) (@pb_39)) (And.intro (@pb_40) (And.intro (@pb_41) (@pb_42))))) (And.intro (And.intro (And.intro (@pb_43) (@pb_44)) (And.intro (@pb_45) (And.intro (@pb_46) (@pb_47)))) (And.intro (And.intro (@pb_48) (@pb_49)) (And.intro (@pb_50) (And.intro (@pb_51) (@pb_52))))))) (And.intro (And.intro (And.intro (And.intro (And.intro (@pb_53) (@pb_54)) (And.intro (@pb_55) (@pb_56))) (And.intro (And.intro (@pb_57) (@pb_58)) (And.intro (@pb_59) (And.intro (@pb_60) (@pb_61))))) (And.intro (And.intro (And.intro (@pb_62) (@pb_63)) (And.intro (@pb_64) (And.intro (@pb_65) (@pb_66)))) (And.intro (And.intro (@pb_67) (@pb_68)) (And.intro (@pb_69) (And.intro (@pb_70) (@pb_71)))))) (And.intro (And.intro (And.intro (And.intro (@pb_72) (@pb_73)) (And.intro (@pb_74) (@pb_75))) (And.intro (And.intro (@pb_76) (@pb_77)) (And.intro (@pb_78) (And.intro (@pb_79) (@pb_80))))) (And.intro (And.intro (And.intro (@pb_81) (@pb_82)) (And.intro (@ik_22) (And.intro (@ik_42) (@ik_57)))) (And.intro (And.intro (@ik_63) (@ik_90)) (And.intro (@ni_22) (And.intro (@ni_42) (@ni_63))))))))) := And.intro (And.intro (And.intro (And.intro (And.intro (And.intro (And.intro (@bs_33) (@bs_34)) (And.intro (@bs_57) (@bs_59))) (And.intro (And.intro (@bs_67) (@bs_78)) (And.intro (@ia_2) (And.intro (@ia_3) (@ia_4))))) (And.intro (And.intro (And.intro (@ia_5) (@ia_22)) (And.intro (@ia_24) (@ia_25))) (And.intro (And.intro (@ia_33) (@ia_34)) (And.intro (@ia_42) (And.intro (@ia_55) (@ia_57)))))) (And.intro (And.intro (And.intro (And.intro (@ia_59) (@ia_63)) (And.intro (@ia_67) (@ia_74))) (And.intro (And.intro (@ia_78) (@ia_85)) (And.intro (@ia_87) (And.intro (@ia_90) (@sz_2))))) (And.intro (And.intro (And.intro (@sz_3) (@sz_4)) (And.intro (@sz_5) (And.intro (@sz_22) (@sz_24)))) (And.intro (And.intro (@sz_25) (@sz_33)) (And.intro (@sz_34) (And.intro (@sz_42) (@sz_55))))))) (And.intro (And.intro (And.intro (And.intro (And.intro (@sz_57) (@sz_59)) (And.intro (@sz_63) (@sz_67))) (And.intro (And.intro (@sz_74) (@sz_78)) (And.intro (@sz_85) (And.intro (@sz_87) (@sz_90))))) (And.intro (And.intro (And.intro (@ze_2) (@ze_3)) (And.intro (@ze_4) (And.intro (@ze_5) (@ze_22)))) (And.intro (And.intro (@ze_24) (@ze_33)) (And.intro (@ze_34) (And.intro (@ze_42) (@ze_55)))))) (And.intro (And.intro (And.intro (And.intro (@ze_57) (@ze_59)) (And.intro (@ze_63) (@ze_67))) (And.intro (And.intro (@ze_74) (@ze_78)) (And.intro (@ze_85) (And.intro (@ze_87) (@ze_90))))) (And.intro (And.intro (And.intro (@fo_33_0) (@fo_33_1)) (And.intro (@fo_34_0) (And.intro (@fo_34_1) (@fo_59_0)))) (And.intro (And.intro (@fo_59_1) (@fo_67_0)) (And.intro (@fo_67_1) (And.intro (@fo_78_0) (@pb_15)))))))) (And.intro (And.intro (And.intro (And.intro (And.intro (And.intro (@pb_16) (@pb_17)) (And.intro (@pb_18) (@pb_19))) (And.intro (And.intro (@pb_20) (@pb_21)) (And.intro (@pb_22) (And.intro (@pb_23) (@pb_24))))) (And.intro (And.intro (And.intro (@pb_25) (@pb_26)) (And.intro (@pb_27) (@pb_28))) (And.intro (And.intro (@pb_29) (@pb_30)) (And.intro (@pb_31) (And.intro (@pb_32) (@pb_33)))))) (And.intro (And.intro (And.intro (And.intro (@pb_34) (@pb_35)) (And.intro (@pb_36) (@pb_37))) (And.intro (And.intro (@pb_38) (@pb_39)) (And.intro (@pb_40) (And.intro (@pb_41) (@pb_42))))) (And.intro (And.intro (And.intro (@pb_43) (@pb_44)) (And.intro (@pb_45) (And.intro (@pb_46) (@pb_47)))) (And.intro (And.intro (@pb_48) (@pb_49)) (And.intro (@pb_50) (And.intro (@pb_51) (@pb_52))))))) (And.intro (And.intro (And.intro (And.intro (And.intro (@pb_53) (@pb_54)) (And.intro (@pb_55) (@pb_56))) (And.intro (And.intro (@pb_57) (@pb_58)) (And.intro (@pb_59) (And.intro (@pb_60) (@pb_61))))) (And.intro (And.intro (And.intro (@pb_62) (@pb_63)) (And.intro (@pb_64) (And.intro (@pb_65) (@pb_66)))) (And.intro (And.intro (@pb_67) (@pb_68)) (And.intro (@pb_69) (And.intro (@pb_70) (@pb_71)))))) (And.intro (And.intro (And.intro (And.intro (@pb_72) (@pb_73)) (And.intro (@pb_74) (@pb_75))) (And.intro (And.intro (@pb_76) (@pb_77)) (And.intro (@pb_78) (And.intro (@pb_79) (@pb_80))))) (And.intro (And.intro (And.intro (@pb_81) (@pb_82)) (And.intro (@ik_22) (And.intro (@ik_42) (@ik_57)))) (And.intro (And.intro (@ik_63) (@ik_90)) (And.intro (@ni_22) (And.intro (@ni_42) (@ni_63))))))))
theorem works (h : H) : (om Try.prog KK).call (.fn 15 []) h = .ok (.bool true) h := by
  refine om_con (c := cW) (r := []) ?_
  rfl
/-- The answer of CheckRegister, for lists that are held against one another. -/
def regE (bs ts : List Bool) : Int := if makesB (bN ts) ts.length (sq bs) bs.length then 0 else 14
theorem makesB_wrong {T L : Nat} {s : Nat → Bool} {n r : Nat} (h : WrongAt T L s n r) : makesB T L s n = decide (¬ r < n) := by
  rcases h with ⟨h1, rfl⟩ | ⟨h1, h2, h3, h4, h5⟩
  · have : makesB T L s r = true := makesB_iff.2 fun i a b => by omega
    rw [this]; simp
  · by_cases h6 : r < n
    · have : makesB T L s n = false := by
        cases hm : makesB T L s n with
        | false => rfl
        | true => exact absurd (makesB_iff.1 hm r h2 h6) (h5 h6)
      rw [this]; simp [h6]
    · have : r = n := by omega
      subst this
      rw [makesB_iff.2 h4]; simp
def errReg (xs ys : List Int) : Int := if err2 xs ys = 0 then regE (bitL xs) (bitL ys) else err2 xs ys
theorem err2_ok {xs ys : List Int} (h : err2 xs ys = 0) : (xs.length ≤ 128 ∧ good xs = true) ∧ ys.length ≤ 128 ∧ good ys = true := by
  unfold err2 at h
  split at h
  · rename_i h2; exact ⟨errB_ok.1 h2, errB_ok.1 h⟩
  · contradiction
theorem checkRegister (xs ys : List Int) (a b : AV) (ha : CapU 1 a) (h : H) (wf : Wf h) (hs : Sl h a 1 xs.length (xs.map ii)) (ht : Sl h b 1 ys.length (ys.map ii)) : (om Try.prog KK).call (.fn 21 [a, b]) h = .ok (ii (errReg xs ys)) h := by
  have hl : ∀ h', lenE Try.prog 22 a h' = some (ii (xs.length : Int)) := fun h' => hs.len un_22
  have c1 : ∀ (l : List AO) (w : Nat), w ≤ h.clock + l.length → (om Try.prog KK).call (.fn 46 [a, b]) (X h l w) = .ok (ii (err2 xs ys)) (X h l w) := fun l w hw => checkBoth xs ys a b _ (wf.X hw) (hs.up wf l w) (ht.up wf l w)
  unfold errReg
  by_cases he : err2 xs ys = 0
  · rw [if_pos he]
    rw [he] at c1
    obtain ⟨⟨hx1, hx2⟩, hy1, hy2⟩ := err2_ok he
    have hs' : Sl h a 1 (bitL xs).length ((bitL xs).map bi) := by rw [bitL_length, ← bitL_map hx2]; exact hs
    have ht' : Sl h b 1 (bitL ys).length ((bitL ys).map bi) := by rw [bitL_length, ← bitL_map hy2]; exact ht
    have hxl := bitL_length xs
    have hyl := bitL_length ys
    have c2 : ∀ (l : List AO) (w : Nat), w ≤ h.clock + l.length → (om Try.prog KK).call (.fn 42 [b]) (X h l w) = .ok (.agg (rg (bN (bitL ys)) (bitL ys).length)) (X h l w) := fun l w hw => registerOf (bitL ys) (by omega) b _ (wf.X hw) (ht'.up wf l w)
    have c3 : ∀ (l : List AO) (w : Nat), w ≤ h.clock + l.length → ∃ r, WrongAt (bN (bitL ys)) (bitL ys).length (sq (bitL xs)) (bitL xs).length r ∧ (om Try.prog KK).call (.fn 47 [.agg (rg (bN (bitL ys)) (bitL ys).length), a]) (X h l w) = .ok (ii (r : Int)) (X h l w) := fun l w hw => by
      obtain ⟨v, h', e, r, hr, rfl, rfl⟩ := wrong (bN (bitL ys)) (bitL ys).length (bN_lt128 (by omega)) (by omega) (bitL xs) (by omega) a ha _ (wf.X hw) (hs'.up wf l w)
      exact ⟨r, hr, e⟩
    obtain ⟨r, hr, c3⟩ := c3 [] h.clock (by simp)
    have hm := makesB_wrong hr
    have hrl : r ≤ xs.length := by
      rcases hr with ⟨_, rfl⟩ | ⟨_, _, h3, _⟩ <;> omega
    unfold regE
    rw [hm]
    rw [hxl] at *
    refine WV_to (WV_call (fn := Try.f21) Try.func21 rfl rfl rfl rfl rfl ?_)
    simp only [argF]
    (repeat' (first
  | (with_reducible first | refine WC_seq ?_ | refine WC_skip ?_ | refine WC_label ?_ | refine WC_scope ?_ | refine WC_block ?_ | refine WC_ret ?_ | refine WC_exit ?_ | refine seqQ_norm ?_ | refine seqQ_ret ?_ | refine seqQ_exit ?_ | refine blkQ_norm ?_ | refine blkQ_ret ?_ | refine blkQ_here ?_ | refine gateK_yes ?_ | refine gateK_none ?_ | refine condK_tt ?_ | refine condK_ff ?_ | refine roundQ_exit ?_ | refine roundQ_ret ?_)
  | refine WC_region ?_ | refine blkQ_out rfl ?_ | refine WO_nil ?_ | refine WD_nil ?_
  | ((first | refine WD_gate rfl rfl rfl rfl rfl fun K_ hK_ => ?_ | refine WO_gate rfl rfl rfl rfl rfl fun K_ hK_ => ?_); simp only [upd_apply, asB_bool, asB_tup, ↓reduceIte, reduceCtorEq, Nat.reduceEqDiff, Bool.not_true, Bool.not_false]; refine hK_ _ ?_; clear hK_ K_)
  | refine gateK_no (by decide) ?_
  | ((try first | refine WO_op rfl rfl rfl ?_ | refine WO_op0 rfl rfl ?_ | refine WD_op rfl rfl rfl ?_ | refine WD_op0 rfl rfl ?_); (refine WV_gen fun Q_ hQ_ => ?_; simp (disch := first | omega | (simp only [List.length_cons, List.length_nil, List.length_append]; omega)) only [bb, bp, argF, ↓reduceIte, reduceCtorEq, Nat.reduceEqDiff, Nat.reduceLT, Nat.reduceLeDiff, Nat.reduceAdd, Nat.reduceMul, Nat.reduceSub, Nat.reduceBEq, Int.reduceToNat, cond_true, cond_false, eq_self, beq_self_eq_true, hl, newPtr_X wf, load1_X wf, loadAgg_X wf, store1_X wf, writeCells_X wf, makeFunc_def, tEvZ12, bsl_22, bsl_42, bsl_63, bsl_90, newSlice_X wf]; first | (refine dec_split (Q := Q_) (fun hp_ => ?_) (fun hp_ => ?_) <;> first | (exfalso; omega) | (refine hQ_ _ _ ?_; clear hQ_ Q_)) | (refine dec_splitn (Q := Q_) (fun hp_ => ?_) (fun hp_ => ?_) <;> first | (exfalso; omega) | (refine hQ_ _ _ ?_; clear hQ_ Q_)) | (refine hQ_ _ _ ?_; clear hQ_ Q_) | (refine WV_eq (c1 _ _ (by first | omega | (simp only [List.length_append, List.length_cons, List.length_nil]; omega))) ?_; refine hQ_ _ _ ?_; clear hQ_ Q_) | (refine WV_eq (c2 _ _ (by first | omega | (simp only [List.length_append, List.length_cons, List.length_nil]; omega))) ?_; refine hQ_ _ _ ?_; clear hQ_ Q_) | (refine WV_eq (c3) ?_; refine hQ_ _ _ ?_; clear hQ_ Q_)))
  | (refine WC_cond fun K_ hK_ => ?_; simp (disch := omega) only [evT_tmp, upd_apply, WB_some, ↓reduceIte, reduceCtorEq, Nat.reduceEqDiff, Nat.reduceLT]; refine hK_ _ ?_; clear hK_ K_)))
    all_goals (refine endQ_ret _ _ rfl (ret1 (by decide)) ?_; simp only [upd_apply, ↓reduceIte, reduceCtorEq, Nat.reduceEqDiff]; refine WV_flat rfl (by omega) ?_)
    · exact ⟨by rw [if_neg (by simp; omega)], rfl⟩
    · exact ⟨by rw [if_pos (by simp; omega)], rfl⟩
  · rw [if_neg he]
    generalize err2 xs ys = e at *
    refine WV_to (WV_call (fn := Try.f21) Try.func21 rfl rfl rfl rfl rfl ?_)
    simp only [argF]
    (repeat' (first
  | (with_reducible first | refine WC_seq ?_ | refine WC_skip ?_ | refine WC_label ?_ | refine WC_scope ?_ | refine WC_block ?_ | refine WC_ret ?_ | refine WC_exit ?_ | refine seqQ_norm ?_ | refine seqQ_ret ?_ | refine seqQ_exit ?_ | refine blkQ_norm ?_ | refine blkQ_ret ?_ | refine blkQ_here ?_ | refine gateK_yes ?_ | refine gateK_none ?_ | refine condK_tt ?_ | refine condK_ff ?_ | refine roundQ_exit ?_ | refine roundQ_ret ?_)
  | refine WC_region ?_ | refine blkQ_out rfl ?_ | refine WO_nil ?_ | refine WD_nil ?_
  | ((first | refine WD_gate rfl rfl rfl rfl rfl fun K_ hK_ => ?_ | refine WO_gate rfl rfl rfl rfl rfl fun K_ hK_ => ?_); simp only [upd_apply, asB_bool, asB_tup, ↓reduceIte, reduceCtorEq, Nat.reduceEqDiff, Bool.not_true, Bool.not_false]; refine hK_ _ ?_; clear hK_ K_)
  | refine gateK_no (by decide) ?_
  | ((try first | refine WO_op rfl rfl rfl ?_ | refine WO_op0 rfl rfl ?_ | refine WD_op rfl rfl rfl ?_ | refine WD_op0 rfl rfl ?_); (refine WV_gen fun Q_ hQ_ => ?_; simp (disch := first | omega | (simp only [List.length_cons, List.length_nil, List.length_append]; omega)) only [bb, bp, argF, ↓reduceIte, reduceCtorEq, Nat.reduceEqDiff, Nat.reduceLT, Nat.reduceLeDiff, Nat.reduceAdd, Nat.reduceMul, Nat.reduceSub, Nat.reduceBEq, Int.reduceToNat, cond_true, cond_false, eq_self, beq_self_eq_true, hl, newPtr_X wf, load1_X wf, loadAgg_X wf, store1_X wf, writeCells_X wf, makeFunc_def, tEvZ12, bsl_22, bsl_42, bsl_63, bsl_90, newSlice_X wf]; first | (refine dec_split (Q := Q_) (fun hp_ => ?_) (fun hp_ => ?_) <;> first | (exfalso; omega) | (refine hQ_ _ _ ?_; clear hQ_ Q_)) | (refine dec_splitn (Q := Q_) (fun hp_ => ?_) (fun hp_ => ?_) <;> first | (exfalso; omega) | (refine hQ_ _ _ ?_; clear hQ_ Q_)) | (refine hQ_ _ _ ?_; clear hQ_ Q_) | (refine WV_eq (c1 _ _ (by first | omega | (simp only [List.length_append, List.length_cons, List.length_nil]; omega))) ?_; refine hQ_ _ _ ?_; clear hQ_ Q_)))
  | (refine WC_cond fun K_ hK_ => ?_; simp (disch := omega) only [evT_tmp, upd_apply, WB_some, ↓reduceIte, reduceCtorEq, Nat.reduceEqDiff, Nat.reduceLT]; refine hK_ _ ?_; clear hK_ K_)))
    all_goals (refine endQ_ret _ _ rfl (ret1 (by decide)) ?_; simp only [upd_apply, ↓reduceIte, reduceCtorEq, Nat.reduceEqDiff]; refine WV_flat rfl (by omega) ?_)
    all_goals exact ⟨rfl, rfl⟩
theorem rcheckRegister (xs ys : List Int) (a b : AV) (ha : CapU 1 a) (h : H) (wf : Wf h) (hs : Sl h a 1 xs.length (xs.map ii)) (ht : Sl h b 1 ys.length (ys.map ii)) : (om Try.prog KK).call (.fn 22 [a, b]) h = .ok (ii (errReg xs ys)) h := by
  have hl : ∀ h', lenE Try.prog 22 a h' = some (ii (xs.length : Int)) := fun h' => hs.len un_22
  have c1 : ∀ (l : List AO) (w : Nat), w ≤ h.clock + l.length → (om Try.prog KK).call (.fn 48 [a, b]) (X h l w) = .ok (ii (err2 xs ys)) (X h l w) := fun l w hw => rtwo xs ys a b _ (wf.X hw) (hs.up wf l w) (ht.up wf l w)
  unfold errReg
  by_cases he : err2 xs ys = 0
  · rw [if_pos he]
    rw [he] at c1
    obtain ⟨⟨hx1, hx2⟩, hy1, hy2⟩ := err2_ok he
    have hs' : Sl h a 1 (bitL xs).length ((bitL xs).map bi) := by rw [bitL_length, ← bitL_map hx2]; exact hs
    have ht' : Sl h b 1 (bitL ys).length ((bitL ys).map bi) := by rw [bitL_length, ← bitL_map hy2]; exact ht
    have hxl := bitL_length xs
    have hyl := bitL_length ys
    have c2 : ∀ (l : List AO) (w : Nat), w ≤ h.clock + l.length → (om Try.prog KK).call (.fn 38 [a, b]) (X h l w) = .ok (.bool (makesB (bN (bitL ys)) (bitL ys).length (sq (bitL xs)) (bitL xs).length)) (X h l w) := fun l w hw => rMakes (bitL xs) (bitL ys) (by omega) a b ha _ (wf.X hw) (hs'.up wf l w) (ht'.up wf l w) (by omega)
    unfold regE
    generalize makesB (bN (bitL ys)) (bitL ys).length (sq (bitL xs)) (bitL xs).length = mk at *
    refine WV_to (WV_call (fn := Try.f22) Try.func22 rfl rfl rfl rfl rfl ?_)
    simp only [argF]
    cases mk
    · (repeat' (first
  | (with_reducible first | refine WC_seq ?_ | refine WC_skip ?_ | refine WC_label ?_ | refine WC_scope ?_ | refine WC_block ?_ | refine WC_ret ?_ | refine WC_exit ?_ | refine seqQ_norm ?_ | refine seqQ_ret ?_ | refine seqQ_exit ?_ | refine blkQ_norm ?_ | refine blkQ_ret ?_ | refine blkQ_here ?_ | refine gateK_yes ?_ | refine gateK_none ?_ | refine condK_tt ?_ | refine condK_ff ?_ | refine roundQ_exit ?_ | refine roundQ_ret ?_)
  | refine WC_region ?_ | refine blkQ_out rfl ?_ | refine WO_nil ?_ | refine WD_nil ?_
  | ((first | refine WD_gate rfl rfl rfl rfl rfl fun K_ hK_ => ?_ | refine WO_gate rfl rfl rfl rfl rfl fun K_ hK_ => ?_); simp only [upd_apply, asB_bool, asB_tup, ↓reduceIte, reduceCtorEq, Nat.reduceEqDiff, Bool.not_true, Bool.not_false]; refine hK_ _ ?_; clear hK_ K_)
  | refine gateK_no (by decide) ?_
  | ((try first | refine WO_op rfl rfl rfl ?_ | refine WO_op0 rfl rfl ?_ | refine WD_op rfl rfl rfl ?_ | refine WD_op0 rfl rfl ?_); (refine WV_gen fun Q_ hQ_ => ?_; simp (disch := first | omega | (simp only [List.length_cons, List.length_nil, List.length_append]; omega)) only [bb, bp, argF, ↓reduceIte, reduceCtorEq, Nat.reduceEqDiff, Nat.reduceLT, Nat.reduceLeDiff, Nat.reduceAdd, Nat.reduceMul, Nat.reduceSub, Nat.reduceBEq, Int.reduceToNat, cond_true, cond_false, eq_self, beq_self_eq_true, hl, newPtr_X wf, load1_X wf, loadAgg_X wf, store1_X wf, writeCells_X wf, makeFunc_def, tEvZ12, bsl_22, bsl_42, bsl_63, bsl_90, newSlice_X wf]; first | (refine dec_split (Q := Q_) (fun hp_ => ?_) (fun hp_ => ?_) <;> first | (exfalso; omega) | (refine hQ_ _ _ ?_; clear hQ_ Q_)) | (refine dec_splitn (Q := Q_) (fun hp_ => ?_) (fun hp_ => ?_) <;> first | (exfalso; omega) | (refine hQ_ _ _ ?_; clear hQ_ Q_)) | (refine hQ_ _ _ ?_; clear hQ_ Q_) | (refine WV_eq (c1 _ _ (by first | omega | (simp only [List.length_append, List.length_cons, List.length_nil]; omega))) ?_; refine hQ_ _ _ ?_; clear hQ_ Q_) | (refine WV_eq (c2 _ _ (by first | omega | (simp only [List.length_append, List.length_cons, List.length_nil]; omega))) ?_; refine hQ_ _ _ ?_; clear hQ_ Q_)))
  | (refine WC_cond fun K_ hK_ => ?_; simp (disch := omega) only [evT_tmp, upd_apply, WB_some, ↓reduceIte, reduceCtorEq, Nat.reduceEqDiff, Nat.reduceLT]; refine hK_ _ ?_; clear hK_ K_)))
      all_goals (refine endQ_ret _ _ rfl (ret1 (by decide)) ?_; simp only [upd_apply, ↓reduceIte, reduceCtorEq, Nat.reduceEqDiff]; refine WV_flat rfl (by omega) ?_)
      all_goals exact ⟨rfl, rfl⟩
    · (repeat' (first
  | (with_reducible first | refine WC_seq ?_ | refine WC_skip ?_ | refine WC_label ?_ | refine WC_scope ?_ | refine WC_block ?_ | refine WC_ret ?_ | refine WC_exit ?_ | refine seqQ_norm ?_ | refine seqQ_ret ?_ | refine seqQ_exit ?_ | refine blkQ_norm ?_ | refine blkQ_ret ?_ | refine blkQ_here ?_ | refine gateK_yes ?_ | refine gateK_none ?_ | refine condK_tt ?_ | refine condK_ff ?_ | refine roundQ_exit ?_ | refine roundQ_ret ?_)
  | refine WC_region ?_ | refine blkQ_out rfl ?_ | refine WO_nil ?_ | refine WD_nil ?_
  | ((first | refine WD_gate rfl rfl rfl rfl rfl fun K_ hK_ => ?_ | refine WO_gate rfl rfl rfl rfl rfl fun K_ hK_ => ?_); simp only [upd_apply, asB_bool, asB_tup, ↓reduceIte, reduceCtorEq, Nat.reduceEqDiff, Bool.not_true, Bool.not_false]; refine hK_ _ ?_; clear hK_ K_)
  | refine gateK_no (by decide) ?_
  | ((try first | refine WO_op rfl rfl rfl ?_ | refine WO_op0 rfl rfl ?_ | refine WD_op rfl rfl rfl ?_ | refine WD_op0 rfl rfl ?_); (refine WV_gen fun Q_ hQ_ => ?_; simp (disch := first | omega | (simp only [List.length_cons, List.length_nil, List.length_append]; omega)) only [bb, bp, argF, ↓reduceIte, reduceCtorEq, Nat.reduceEqDiff, Nat.reduceLT, Nat.reduceLeDiff, Nat.reduceAdd, Nat.reduceMul, Nat.reduceSub, Nat.reduceBEq, Int.reduceToNat, cond_true, cond_false, eq_self, beq_self_eq_true, hl, newPtr_X wf, load1_X wf, loadAgg_X wf, store1_X wf, writeCells_X wf, makeFunc_def, tEvZ12, bsl_22, bsl_42, bsl_63, bsl_90, newSlice_X wf]; first | (refine dec_split (Q := Q_) (fun hp_ => ?_) (fun hp_ => ?_) <;> first | (exfalso; omega) | (refine hQ_ _ _ ?_; clear hQ_ Q_)) | (refine dec_splitn (Q := Q_) (fun hp_ => ?_) (fun hp_ => ?_) <;> first | (exfalso; omega) | (refine hQ_ _ _ ?_; clear hQ_ Q_)) | (refine hQ_ _ _ ?_; clear hQ_ Q_) | (refine WV_eq (c1 _ _ (by first | omega | (simp only [List.length_append, List.length_cons, List.length_nil]; omega))) ?_; refine hQ_ _ _ ?_; clear hQ_ Q_) | (refine WV_eq (c2 _ _ (by first | omega | (simp only [List.length_append, List.length_cons, List.length_nil]; omega))) ?_; refine hQ_ _ _ ?_; clear hQ_ Q_)))
  | (refine WC_cond fun K_ hK_ => ?_; simp (disch := omega) only [evT_tmp, upd_apply, WB_some, ↓reduceIte, reduceCtorEq, Nat.reduceEqDiff, Nat.reduceLT]; refine hK_ _ ?_; clear hK_ K_)))
      all_goals (refine endQ_ret _ _ rfl (ret1 (by decide)) ?_; simp only [upd_apply, ↓reduceIte, reduceCtorEq, Nat.reduceEqDiff]; refine WV_flat rfl (by omega) ?_)
      all_goals exact ⟨rfl, rfl⟩
  · rw [if_neg he]
    generalize err2 xs ys = e at *
    refine WV_to (WV_call (fn := Try.f22) Try.func22 rfl rfl rfl rfl rfl ?_)
    simp only [argF]
    (repeat' (first
  | (with_reducible first | refine WC_seq ?_ | refine WC_skip ?_ | refine WC_label ?_ | refine WC_scope ?_ | refine WC_block ?_ | refine WC_ret ?_ | refine WC_exit ?_ | refine seqQ_norm ?_ | refine seqQ_ret ?_ | refine seqQ_exit ?_ | refine blkQ_norm ?_ | refine blkQ_ret ?_ | refine blkQ_here ?_ | refine gateK_yes ?_ | refine gateK_none ?_ | refine condK_tt ?_ | refine condK_ff ?_ | refine roundQ_exit ?_ | refine roundQ_ret ?_)
  | refine WC_region ?_ | refine blkQ_out rfl ?_ | refine WO_nil ?_ | refine WD_nil ?_
  | ((first | refine WD_gate rfl rfl rfl rfl rfl fun K_ hK_ => ?_ | refine WO_gate rfl rfl rfl rfl rfl fun K_ hK_ => ?_); simp only [upd_apply, asB_bool, asB_tup, ↓reduceIte, reduceCtorEq, Nat.reduceEqDiff, Bool.not_true, Bool.not_false]; refine hK_ _ ?_; clear hK_ K_)
  | refine gateK_no (by decide) ?_
  | ((try first | refine WO_op rfl rfl rfl ?_ | refine WO_op0 rfl rfl ?_ | refine WD_op rfl rfl rfl ?_ | refine WD_op0 rfl rfl ?_); (refine WV_gen fun Q_ hQ_ => ?_; simp (disch := first | omega | (simp only [List.length_cons, List.length_nil, List.length_append]; omega)) only [bb, bp, argF, ↓reduceIte, reduceCtorEq, Nat.reduceEqDiff, Nat.reduceLT, Nat.reduceLeDiff, Nat.reduceAdd, Nat.reduceMul, Nat.reduceSub, Nat.reduceBEq, Int.reduceToNat, cond_true, cond_false, eq_self, beq_self_eq_true, hl, newPtr_X wf, load1_X wf, loadAgg_X wf, store1_X wf, writeCells_X wf, makeFunc_def, tEvZ12, bsl_22, bsl_42, bsl_63, bsl_90, newSlice_X wf]; first | (refine dec_split (Q := Q_) (fun hp_ => ?_) (fun hp_ => ?_) <;> first | (exfalso; omega) | (refine hQ_ _ _ ?_; clear hQ_ Q_)) | (refine dec_splitn (Q := Q_) (fun hp_ => ?_) (fun hp_ => ?_) <;> first | (exfalso; omega) | (refine hQ_ _ _ ?_; clear hQ_ Q_)) | (refine hQ_ _ _ ?_; clear hQ_ Q_) | (refine WV_eq (c1 _ _ (by first | omega | (simp only [List.length_append, List.length_cons, List.length_nil]; omega))) ?_; refine hQ_ _ _ ?_; clear hQ_ Q_)))
  | (refine WC_cond fun K_ hK_ => ?_; simp (disch := omega) only [evT_tmp, upd_apply, WB_some, ↓reduceIte, reduceCtorEq, Nat.reduceEqDiff, Nat.reduceLT]; refine hK_ _ ?_; clear hK_ K_)))
    all_goals (refine endQ_ret _ _ rfl (ret1 (by decide)) ?_; simp only [upd_apply, ↓reduceIte, reduceCtorEq, Nat.reduceEqDiff]; refine WV_flat rfl (by omega) ?_)
    all_goals exact ⟨rfl, rfl⟩
/-- Two lists held against one another. -/
theorem ints (xs ys : List Int) (hn : xs.length ≤ 1000000) (a b : AV) (h : H) (wf : Wf h) (hs : Sl h a 1 xs.length (xs.map ii)) (ht : Sl h b 1 ys.length (ys.map ii)) : (om Try.prog KK).call (.fn 20 [a, b]) h = .ok (.bool (decide (xs = ys))) h := by
  have hl : ∀ h', lenE Try.prog 22 a h' = some (ii (xs.length : Int)) := fun h' => hs.len un_22
  have hl2 : ∀ h', lenE Try.prog 22 b h' = some (ii (ys.length : Int)) := fun h' => ht.len un_22
  refine WV_to (WV_call (fn := Try.f20) Try.func20 rfl rfl rfl rfl rfl ?_)
  simp only [argF]
  by_cases he : xs.length = ys.length
  · have hd : ((xs.length : Int) = (ys.length : Int)) := by omega
    (repeat' (first
  | (with_reducible first | refine WC_seq ?_ | refine WC_skip ?_ | refine WC_label ?_ | refine WC_scope ?_ | refine WC_block ?_ | refine WC_ret ?_ | refine WC_exit ?_ | refine seqQ_norm ?_ | refine seqQ_ret ?_ | refine seqQ_exit ?_ | refine blkQ_norm ?_ | refine blkQ_ret ?_ | refine blkQ_here ?_ | refine gateK_yes ?_ | refine gateK_none ?_ | refine condK_tt ?_ | refine condK_ff ?_ | refine roundQ_exit ?_ | refine roundQ_ret ?_)
  | refine WC_region ?_ | refine blkQ_out rfl ?_ | refine WO_nil ?_ | refine WD_nil ?_
  | ((first | refine WD_gate rfl rfl rfl rfl rfl fun K_ hK_ => ?_ | refine WO_gate rfl rfl rfl rfl rfl fun K_ hK_ => ?_); simp only [upd_apply, asB_bool, asB_tup, ↓reduceIte, reduceCtorEq, Nat.reduceEqDiff, Bool.not_true, Bool.not_false]; refine hK_ _ ?_; clear hK_ K_)
  | refine gateK_no (by decide) ?_
  | ((try first | refine WO_op rfl rfl rfl ?_ | refine WO_op0 rfl rfl ?_ | refine WD_op rfl rfl rfl ?_ | refine WD_op0 rfl rfl ?_); (refine WV_gen fun Q_ hQ_ => ?_; simp (disch := first | omega | (simp only [List.length_cons, List.length_nil, List.length_append]; omega)) only [bb, bp, argF, ↓reduceIte, reduceCtorEq, Nat.reduceEqDiff, Nat.reduceLT, Nat.reduceLeDiff, Nat.reduceAdd, Nat.reduceMul, Nat.reduceSub, Nat.reduceBEq, Int.reduceToNat, cond_true, cond_false, eq_self, beq_self_eq_true, hl, hl2, newPtr_X wf, load1_X wf, loadAgg_X wf, store1_X wf, writeCells_X wf, makeFunc_def, tEvZ12, bsl_22, bsl_42, bsl_63, bsl_90, newSlice_X wf]; first | (refine dec_split (Q := Q_) (fun hp_ => ?_) (fun hp_ => ?_) <;> first | (exfalso; omega) | (refine hQ_ _ _ ?_; clear hQ_ Q_)) | (refine dec_splitn (Q := Q_) (fun hp_ => ?_) (fun hp_ => ?_) <;> first | (exfalso; omega) | (refine hQ_ _ _ ?_; clear hQ_ Q_)) | (refine hQ_ _ _ ?_; clear hQ_ Q_)))
  | (refine WC_cond fun K_ hK_ => ?_; simp (disch := omega) only [evT_tmp, upd_apply, WB_some, ↓reduceIte, reduceCtorEq, Nat.reduceEqDiff, Nat.reduceLT]; refine hK_ _ ?_; clear hK_ K_)))
    refine WC_loop (α := Nat) (fun (i : Nat) f d h' => i ≤ xs.length ∧ xs.take i = ys.take i ∧ f 0 = a ∧ f 1 = b ∧ f 5 = ii (i : Int) ∧ d = [] ∧ h' = X h [] h.clock) (fun i => xs.length - i) ?_ (xs.length + 1) 0 (by omega) ?_
    · rintro i f d h' ⟨hi, heq, g0, g1, g5, rfl, rfl⟩
      by_cases hlt : i < xs.length
      · obtain ⟨id, off, hix, hld⟩ := hs.at1 wf hlt ik_22
        obtain ⟨id2, off2, hix2, hld2⟩ := ht.at1 wf (i := i) (by omega) ik_22
        have hld : ∀ l w, load1 id off (X h l w) = some (ii xs[i]) := fun l w => by
          rw [hld, List.getElem?_map, List.getElem?_eq_getElem hlt]; rfl
        have hld2 : ∀ l w, load1 id2 off2 (X h l w) = some (ii ys[i]) := fun l w => by
          rw [hld2, List.getElem?_map, List.getElem?_eq_getElem (by omega)]; rfl
        have e1 : xs[i] = ys[i] → xs.take (i + 1) = ys.take (i + 1) := fun e => by
          rw [List.take_succ_eq_append_getElem hlt, List.take_succ_eq_append_getElem (by omega), heq, e]
        have e2 : ¬ xs[i] = ys[i] → ¬ xs = ys := fun e h => e (by subst h; rfl)
        generalize xs[i] = u at *
        generalize ys[i] = v at *
        (repeat' (first
  | (with_reducible first | refine WC_seq ?_ | refine WC_skip ?_ | refine WC_label ?_ | refine WC_scope ?_ | refine WC_block ?_ | refine WC_ret ?_ | refine WC_exit ?_ | refine seqQ_norm ?_ | refine seqQ_ret ?_ | refine seqQ_exit ?_ | refine blkQ_norm ?_ | refine blkQ_ret ?_ | refine blkQ_here ?_ | refine gateK_yes ?_ | refine gateK_none ?_ | refine condK_tt ?_ | refine condK_ff ?_ | refine roundQ_exit ?_ | refine roundQ_ret ?_)
  | refine WC_region ?_ | refine blkQ_out rfl ?_ | refine WO_nil ?_ | refine WD_nil ?_
  | ((first | refine WD_gate rfl rfl rfl rfl rfl fun K_ hK_ => ?_ | refine WO_gate rfl rfl rfl rfl rfl fun K_ hK_ => ?_); simp only [upd_apply, asB_bool, asB_tup, ↓reduceIte, reduceCtorEq, Nat.reduceEqDiff, Bool.not_true, Bool.not_false]; refine hK_ _ ?_; clear hK_ K_)
  | refine gateK_no (by decide) ?_
  | ((try first | refine WO_op rfl rfl rfl ?_ | refine WO_op0 rfl rfl ?_ | refine WD_op rfl rfl rfl ?_ | refine WD_op0 rfl rfl ?_); (refine WV_gen fun Q_ hQ_ => ?_; simp (disch := first | omega | (simp only [List.length_cons, List.length_nil, List.length_append]; omega)) only [bb, bp, argF, ↓reduceIte, reduceCtorEq, Nat.reduceEqDiff, Nat.reduceLT, Nat.reduceLeDiff, Nat.reduceAdd, Nat.reduceMul, Nat.reduceSub, Nat.reduceBEq, Int.reduceToNat, cond_true, cond_false, eq_self, beq_self_eq_true, hl, hl2, g0, g1, g5, newPtr_X wf, load1_X wf, loadAgg_X wf, store1_X wf, writeCells_X wf, makeFunc_def, tEvZ12, bsl_22, bsl_42, bsl_63, bsl_90, newSlice_X wf]; first | (refine dec_split (Q := Q_) (fun hp_ => ?_) (fun hp_ => ?_) <;> first | (exfalso; omega) | (refine hQ_ _ _ ?_; clear hQ_ Q_)) | (refine dec_splitn (Q := Q_) (fun hp_ => ?_) (fun hp_ => ?_) <;> first | (exfalso; omega) | (refine hQ_ _ _ ?_; clear hQ_ Q_)) | (refine hQ_ _ _ ?_; clear hQ_ Q_)))
  | (refine WC_cond fun K_ hK_ => ?_; simp (disch := omega) only [evT_tmp, upd_apply, WB_some, ↓reduceIte, reduceCtorEq, Nat.reduceEqDiff, Nat.reduceLT]; refine hK_ _ ?_; clear hK_ K_)))
        refine WC_drawnB [.no, .no, .no, .no, .no, .no, .no, .no, .full] (by kernel_rfl) ?_
        (repeat' (first
  | (with_reducible first | refine WC_seq ?_ | refine WC_skip ?_ | refine WC_label ?_ | refine WC_scope ?_ | refine WC_block ?_ | refine WC_ret ?_ | refine WC_exit ?_ | refine seqQ_norm ?_ | refine seqQ_ret ?_ | refine seqQ_exit ?_ | refine blkQ_norm ?_ | refine blkQ_ret ?_ | refine blkQ_here ?_ | refine gateK_yes ?_ | refine gateK_none ?_ | refine condK_tt ?_ | refine condK_ff ?_ | refine roundQ_exit ?_ | refine roundQ_ret ?_)
  | refine WC_region ?_ | refine blkQ_out rfl ?_ | refine WO_nil ?_ | refine WD_nil ?_
  | ((first | refine WD_gate rfl rfl rfl rfl rfl fun K_ hK_ => ?_ | refine WO_gate rfl rfl rfl rfl rfl fun K_ hK_ => ?_); simp only [upd_apply, asB_bool, asB_tup, ↓reduceIte, reduceCtorEq, Nat.reduceEqDiff, Bool.not_true, Bool.not_false]; refine hK_ _ ?_; clear hK_ K_)
  | refine gateK_no (by decide) ?_
  | ((try first | refine WO_op rfl rfl rfl ?_ | refine WO_op0 rfl rfl ?_ | refine WD_op rfl rfl rfl ?_ | refine WD_op0 rfl rfl ?_); (refine WV_gen fun Q_ hQ_ => ?_; simp (disch := first | omega | (simp only [List.length_cons, List.length_nil, List.length_append]; omega)) only [bb, bp, argF, ↓reduceIte, reduceCtorEq, Nat.reduceEqDiff, Nat.reduceLT, Nat.reduceLeDiff, Nat.reduceAdd, Nat.reduceMul, Nat.reduceSub, Nat.reduceBEq, Int.reduceToNat, cond_true, cond_false, eq_self, beq_self_eq_true, hl, hl2, g0, g1, g5, hix, hld, hix2, hld2, newPtr_X wf, load1_X wf, loadAgg_X wf, store1_X wf, writeCells_X wf, makeFunc_def, tEvZ12, bsl_22, bsl_42, bsl_63, bsl_90, newSlice_X wf]; first | (refine dec_split (Q := Q_) (fun hp_ => ?_) (fun hp_ => ?_) <;> first | (exfalso; omega) | (refine hQ_ _ _ ?_; clear hQ_ Q_)) | (refine dec_splitn (Q := Q_) (fun hp_ => ?_) (fun hp_ => ?_) <;> first | (exfalso; omega) | (refine hQ_ _ _ ?_; clear hQ_ Q_)) | (refine hQ_ _ _ ?_; clear hQ_ Q_)))
  | (refine WC_cond fun K_ hK_ => ?_; simp (disch := omega) only [evT_tmp, upd_apply, WB_some, ↓reduceIte, reduceCtorEq, Nat.reduceEqDiff, Nat.reduceLT]; refine hK_ _ ?_; clear hK_ K_)))
        · exact roundQ_again (i + 1) (by omega) ⟨hlt, e1 (by assumption), by simp only [upd_apply, ↓reduceIte, reduceCtorEq, Nat.reduceEqDiff]; exact g0, by simp only [upd_apply, ↓reduceIte, reduceCtorEq, Nat.reduceEqDiff]; exact g1, by simp only [upd_apply, ↓reduceIte, reduceCtorEq, Nat.reduceEqDiff]; rfl, rfl, rfl⟩
        · (refine endQ_ret _ _ rfl (ret1 (by decide)) ?_; simp only [upd_apply, ↓reduceIte, reduceCtorEq, Nat.reduceEqDiff]; refine WV_flat rfl (by omega) ?_)
          exact ⟨by rw [decide_eq_false (e2 (by assumption))], rfl⟩
      · have : xs = ys := by
          have h1 : xs.take i = xs := List.take_of_length_le (by omega)
          have h2 : ys.take i = ys := List.take_of_length_le (by omega)
          rw [← h1, ← h2]; exact heq
        rw [decide_eq_true this]
        (repeat' (first
  | (with_reducible first | refine WC_seq ?_ | refine WC_skip ?_ | refine WC_label ?_ | refine WC_scope ?_ | refine WC_block ?_ | refine WC_ret ?_ | refine WC_exit ?_ | refine seqQ_norm ?_ | refine seqQ_ret ?_ | refine seqQ_exit ?_ | refine blkQ_norm ?_ | refine blkQ_ret ?_ | refine blkQ_here ?_ | refine gateK_yes ?_ | refine gateK_none ?_ | refine condK_tt ?_ | refine condK_ff ?_ | refine roundQ_exit ?_ | refine roundQ_ret ?_)
  | refine WC_region ?_ | refine blkQ_out rfl ?_ | refine WO_nil ?_ | refine WD_nil ?_
  | ((first | refine WD_gate rfl rfl rfl rfl rfl fun K_ hK_ => ?_ | refine WO_gate rfl rfl rfl rfl rfl fun K_ hK_ => ?_); simp only [upd_apply, asB_bool, asB_tup, ↓reduceIte, reduceCtorEq, Nat.reduceEqDiff, Bool.not_true, Bool.not_false]; refine hK_ _ ?_; clear hK_ K_)
  | refine gateK_no (by decide) ?_
  | ((try first | refine WO_op rfl rfl rfl ?_ | refine WO_op0 rfl rfl ?_ | refine WD_op rfl rfl rfl ?_ | refine WD_op0 rfl rfl ?_); (refine WV_gen fun Q_ hQ_ => ?_; simp (disch := first | omega | (simp only [List.length_cons, List.length_nil, List.length_append]; omega)) only [bb, bp, argF, ↓reduceIte, reduceCtorEq, Nat.reduceEqDiff, Nat.reduceLT, Nat.reduceLeDiff, Nat.reduceAdd, Nat.reduceMul, Nat.reduceSub, Nat.reduceBEq, Int.reduceToNat, cond_true, cond_false, eq_self, beq_self_eq_true, hl, hl2, g0, g1, g5, newPtr_X wf, load1_X wf, loadAgg_X wf, store1_X wf, writeCells_X wf, makeFunc_def, tEvZ12, bsl_22, bsl_42, bsl_63, bsl_90, newSlice_X wf]; first | (refine dec_split (Q := Q_) (fun hp_ => ?_) (fun hp_ => ?_) <;> first | (exfalso; omega) | (refine hQ_ _ _ ?_; clear hQ_ Q_)) | (refine dec_splitn (Q := Q_) (fun hp_ => ?_) (fun hp_ => ?_) <;> first | (exfalso; omega) | (refine hQ_ _ _ ?_; clear hQ_ Q_)) | (refine hQ_ _ _ ?_; clear hQ_ Q_)))
  | (refine WC_cond fun K_ hK_ => ?_; simp (disch := omega) only [evT_tmp, upd_apply, WB_some, ↓reduceIte, reduceCtorEq, Nat.reduceEqDiff, Nat.reduceLT]; refine hK_ _ ?_; clear hK_ K_)))
        (refine endQ_ret _ _ rfl (ret1 (by decide)) ?_; simp only [upd_apply, ↓reduceIte, reduceCtorEq, Nat.reduceEqDiff]; refine WV_flat rfl (by omega) ?_)
        exact ⟨rfl, rfl⟩
    · exact ⟨by omega, by rw [List.take_zero, List.take_zero], rfl, rfl, rfl, rfl, rfl⟩
  · have hd : ¬ ((xs.length : Int) = (ys.length : Int)) := by omega
    have : ¬ xs = ys := fun h => he (by rw [h])
    rw [decide_eq_false this]
    (repeat' (first
  | (with_reducible first | refine WC_seq ?_ | refine WC_skip ?_ | refine WC_label ?_ | refine WC_scope ?_ | refine WC_block ?_ | refine WC_ret ?_ | refine WC_exit ?_ | refine seqQ_norm ?_ | refine seqQ_ret ?_ | refine seqQ_exit ?_ | refine blkQ_norm ?_ | refine blkQ_ret ?_ | refine blkQ_here ?_ | refine gateK_yes ?_ | refine gateK_none ?_ | refine condK_tt ?_ | refine condK_ff ?_ | refine roundQ_exit ?_ | refine roundQ_ret ?_)
  | refine WC_region ?_ | refine blkQ_out rfl ?_ | refine WO_nil ?_ | refine WD_nil ?_
  | ((first | refine WD_gate rfl rfl rfl rfl rfl fun K_ hK_ => ?_ | refine WO_gate rfl rfl rfl rfl rfl fun K_ hK_ => ?_); simp only [upd_apply, asB_bool, asB_tup, ↓reduceIte, reduceCtorEq, Nat.reduceEqDiff, Bool.not_true, Bool.not_false]; refine hK_ _ ?_; clear hK_ K_)
  | refine gateK_no (by decide) ?_
  | ((try first | refine WO_op rfl rfl rfl ?_ | refine WO_op0 rfl rfl ?_ | refine WD_op rfl rfl rfl ?_ | refine WD_op0 rfl rfl ?_); (refine WV_gen fun Q_ hQ_ => ?_; simp (disch := first | omega | (simp only [List.length_cons, List.length_nil, List.length_append]; omega)) only [bb, bp, argF, ↓reduceIte, reduceCtorEq, Nat.reduceEqDiff, Nat.reduceLT, Nat.reduceLeDiff, Nat.reduceAdd, Nat.reduceMul, Nat.reduceSub, Nat.reduceBEq, Int.reduceToNat, cond_true, cond_false, eq_self, beq_self_eq_true, hl, hl2, newPtr_X wf, load1_X wf, loadAgg_X wf, store1_X wf, writeCells_X wf, makeFunc_def, tEvZ12, bsl_22, bsl_42, bsl_63, bsl_90, newSlice_X wf]; first | (refine dec_split (Q := Q_) (fun hp_ => ?_) (fun hp_ => ?_) <;> first | (exfalso; omega) | (refine hQ_ _ _ ?_; clear hQ_ Q_)) | (refine dec_splitn (Q := Q_) (fun hp_ => ?_) (fun hp_ => ?_) <;> first | (exfalso; omega) | (refine hQ_ _ _ ?_; clear hQ_ Q_)) | (refine hQ_ _ _ ?_; clear hQ_ Q_)))
  | (refine WC_cond fun K_ hK_ => ?_; simp (disch := omega) only [evT_tmp, upd_apply, WB_some, ↓reduceIte, reduceCtorEq, Nat.reduceEqDiff, Nat.reduceLT]; refine hK_ _ ?_; clear hK_ K_)))
    (refine endQ_ret _ _ rfl (ret1 (by decide)) ?_; simp only [upd_apply, ↓reduceIte, reduceCtorEq, Nat.reduceEqDiff]; refine WV_flat rfl (by omega) ?_)
    exact ⟨rfl, rfl⟩
end Go.Proofs.Ytmincoafjnnkpaa
end

/- EvZ13 -/
section
/-
  LAYER 5: the statement about registers that run on.
-/
namespace Go.Proofs.Ytmincoafjnnkpaa
open Go.Ev
set_option maxRecDepth 100000
set_option linter.unusedSimpArgs false
set_option linter.unusedVariables false
set_option maxHeartbeats 2000000
theorem tEvZ13 : type_of% (And.intro (And.intro (And.intro (And.intro (And.intro (And.intro (And.intro (@bs_33) (@bs_34)) (And.intro (@bs_57) (@bs_59))) (And.intro (And.intro (@bs_67) (@bs_78)) (And.intro (@ia_2) (And.intro (@ia_3) (@ia_4))))) (And.intro (And.intro (And.intro (@ia_5) (@ia_22)) (And.intro (@ia_24) (@ia_25))) (And.intro (And.intro (@ia_33) (@ia_34)) (And.intro (@ia_42) (And.intro (@ia_55) (@ia_57)))))) (And.intro (And.intro (And.intro (And.intro (@ia_59) (@ia_63)) (And.intro (@ia_67) (@ia_74))) (And.intro (And.intro (@ia_78) (@ia_85)) (And.intro (@ia_87) (And.intro (@ia_90) (@sz_2))))) (And.intro (And.intro (And.intro (@sz_3) (@sz_4)) (And.intro (@sz_5) (And.intro (@sz_22) (@sz_24)))) (And.intro (And.intro (@sz_25) (@sz_33)) (And.intro (@sz_34) (And.intro (@sz_42) (@sz_55))))))) (And.intro (And.intro (And.intro (And.intro (And.intro (@sz_57) (@sz_59)) (And.intro (@sz_63) (@sz_67))) (And.intro (And.intro (@sz_74) (@sz_78)) (And.intro (@sz_85) (And.intro (@sz_87) (@sz_90))))) (And.intro (And.intro (And.intro (@ze_2) (@ze_3)) (And.intro (@ze_4) (And.intro (@ze_5) (@ze_22)))) (And.intro (And.intro (@ze_24) (@ze_33)) (And.intro (@ze_34) (And.intro (@ze_42) (@ze_55)))))) (And.intro (And.intro (And.intro (And.intro (@ze_57) (@ze_59)) (And.intro (@ze_63) (@ze_67))) (And.intro (And.intro (@ze_74) (@ze_78)) (And.intro (@ze_85) (And.intro (@ze_87) (@ze_90))))) (And.intro (And.intro (And.intro (@fo_33_0) (@fo_33_1)) (And.intro (@fo_34_0) (And.intro (@fo_34_1) (@fo_59_0)))) (And.intro (And.intro (@fo_59_1) (@fo_67_0)) (And.intro (@fo_67_1) (And.intro (@fo_78_0) (@pb_15)))))))) (And.intro (And.intro (And.intro (And.intro (And.intro (And.intro (@pb_16) (@pb_17)) (And.intro (@pb_18) (@pb_19))) (And.intro (And.intro (@pb_20) (@pb_21)) (And.intro (@pb_22) (And.intro (@pb_23) (@pb_24))))) (And.intro (And.intro (And.intro (@pb_25) (@pb_26)) (And.intro (@pb_27) (@pb_28))) (And.intro (And.intro (@pb_29) (@pb_30)) (And.intro (@pb_31) (And.intro (@pb_32) (@pb_33)))))) (And.intro (And.intro (And.intro (And.intro (@pb_34) (@pb_35)) (And.intro (@pb_36) (@pb_37))) (And.intro (And.intro (@pb_38) (@pb_39)) (And.intro (@pb_40) (And.intro (@pb_41) (@pb_42))))) (And.intro (And.intro (And.intro (@pb_43) (@pb_44)) (And.intro (@pb_45) (And.intro (@pb_46) (@pb_47)))) (And.intro (And.intro (@pb_48) (@pb_49)) (And.intro (@pb_50) (And.intro (@pb_51) (@pb_52))))))) (And.intro (And.intro (And.intro (And.intro (And.intro (@pb_53) (@pb_54)) (And.intro (@pb_55) (@pb_56))) (And.intro (And.intro (@pb_57) (@pb_58)) (And.intro (@pb_59) (And.intro (@pb_60) (@pb_61))))) (And.intro (And.intro (And.intro (@pb_62) (@pb_63)) (And.intro (@pb_64) (And.intro (@pb_65) (@pb_66)))) (And.intro (And.intro (@pb_67) (@pb_68)) (And.intro (@pb_69) (And.intro (@pb_70) (@pb_71)))))) (And.intro (And.intro (And.intro (And.intro (@pb_72) (@pb_73)) (And.intro (@pb_74) (@pb_75))) (And.intro (And.intro (@pb_76) (@pb_77)) (And.intro (@pb_78) (And.intro (@pb_79) (@pb_80))))) (And.intro (And.intro (And.intro (@pb_81) (@pb_82)) (And.intro (@ik_22) (And.intro (@ik_42) (@ik_57)))) (And.intro (And.intro (@ik_63) (@ik_90)) (And.intro (@ni_22) (And.intro (@ni_42) (@ni_63))))))))) := And.intro (And.intro (And.intro (And.intro (And.intro (And.intro (And.intro (@bs_33) (@bs_34)) (And.intro (@bs_57) (@bs_59))) (And.intro (And.intro (@bs_67) (@bs_78)) (And.intro (@ia_2) (And.intro (@ia_3) (@ia_4))))) (And.intro (And.intro (And.intro (@ia_5) (@ia_22)) (And.intro (@ia_24) (@ia_25))) (And.intro (And.intro (@ia_33) (@ia_34)) (And.intro (@ia_42) (And.intro (@ia_55) (@ia_57)))))) (And.intro (And.intro (And.intro (And.intro (@ia_59) (@ia_63)) (And.intro (@ia_67) (@ia_74))) (And.intro (And.intro (@ia_78) (@ia_85)) (And.intro (@ia_87) (And.intro (@ia_90) (@sz_2))))) (And.intro (And.intro (And.intro (@sz_3) (@sz_4)) (And.intro (@sz_5) (And.intro (@sz_22) (@sz_24)))) (And.intro (And.intro (@sz_25) (@sz_33)) (And.intro (@sz_34) (And.intro (@sz_42) (@sz_55))))))) (And.intro (And.intro (And.intro (And.intro (And.intro (@sz_57) (@sz_59)) (And.intro (@sz_63) (@sz_67))) (And.intro (And.intro (@sz_74) (@sz_78)) (And.intro (@sz_85) (And.intro (@sz_87) (@sz_90))))) (And.intro (And.intro (And.intro (@ze_2) (@ze_3)) (And.intro (@ze_4) (And.intro (@ze_5) (@ze_22)))) (And.intro (And.intro (@ze_24) (@ze_33)) (And.intro (@ze_34) (And.intro (@ze_42) (@ze_55)))))) (And.intro (And.intro (And.intro (And.intro (@ze_57) (@ze_59)) (And.intro (@ze_63) (@ze_67))) (And.intro (And.intro (@ze_74) (@ze_78)) (And.intro (@ze_85) (And.intro (@ze_87) (@ze_90))))) (And.intro (And.intro (And.intro (@fo_33_0) (@fo_33_1)) (And.intro (@fo_34_0) (And.intro (@fo_34_1) (@fo_59_0)))) (And.intro (And.intro (@fo_59_1) (@fo_67_0)) (And.intro (@fo_67_1) (And.intro (@fo_78_0) (@pb_15)))))))) (And.intro (And.intro (And.intro (And.intro (And.intro (And.intro (@pb_16) (@pb_17)) (And.intro (@pb_18) (@pb_19))) (And.intro (And.intro (@pb_20) (@pb_21)) (And.intro (@pb_22) (And.intro (@pb_23) (@pb_24))))) (And.intro (And.intro (And.intro (@pb_25) (@pb_26)) (And.intro (@pb_27) (@pb_28))) (And.intro (And.intro (@pb_29) (@pb_30)) (And.intro (@pb_31) (And.intro (@pb_32) (@pb_33)))))) (And.intro (And.intro (And.intro (And.intro (@pb_34) (@pb_35)) (And.intro (@pb_36) (@pb_37))) (And.intro (And.intro (@pb_38) (@pb_39)) (And.intro (@pb_40) (And.intro (@pb_41) (@pb_42))))) (And.intro (And.intro (And.intro (@pb_43) (@pb_44)) (And.intro (@pb_45) (And.intro (@pb_46) (@pb_47)))) (And.intro (And.intro (@pb_48) (@pb_49)) (And.intro (@pb_50) (And.intro (@pb_51) (@pb_52))))))) (And.intro (And.intro (And.intro (And.intro (And.intro (@pb_53) (@pb_54)) (And.intro (@pb_55) (@pb_56))) (And.intro (And.intro (@pb_57) (@pb_58)) (And.intro (@pb_59) (And.intro (@pb_60) (@pb_61))))) (And.intro (And.intro (And.intro (@pb_62) (@pb_63)) (And.intro (@pb_64) (And.intro (@pb_65) (@pb_66)))) (And.intro (And.intro (@pb_67) (@pb_68)) (And.intro (@pb_69) (And.intro (@pb_70) (@pb_71)))))) (And.intro (And.intro (And.intro (And.intro (@pb_72) (@pb_73)) (And.intro (@pb_74) (@pb_75))) (And.intro (And.intro (@pb_76) (@pb_77)) (And.intro (@pb_78) (And.intro (@pb_79) (@pb_80))))) (And.intro (And.intro (And.intro (@pb_81) (@pb_82)) (And.intro (@ik_22) (And.intro (@ik_42) (@ik_57)))) (And.intro (And.intro (@ik_63) (@ik_90)) (And.intro (@ni_22) (And.intro (@ni_42) (@ni_63))))))))
theorem runErr (xs ys : List Int) (many : Int) (a b : AV) (h : H) (wf : Wf h) (hs : Sl h a 1 xs.length (xs.map ii)) (ht : Sl h b 1 ys.length (ys.map ii)) (hne : errRun xs ys many ≠ 0) : (om Try.prog KK).call (.fn 16 [a, b, ii many]) h = .ok (.tup [.nils, ii (errRun xs ys many)]) h := by
  obtain ⟨f1, f2⟩ := sl_flat ht
  have cst : ∀ (l : List AO) (w : Nat), w ≤ h.clock + l.length → (om Try.prog KK).call (.fn 41 [a, b]) (X h l w) = .ok (ii (err3 xs ys)) (X h l w) := fun l w hw => checkStart xs ys a b _ (wf.X hw) (hs.up wf l w) (ht.up wf l w)
  unfold errRun at *
  refine WV_to (WV_call (fn := Try.f16) Try.func16 rfl rfl rfl rfl rfl ?_)
  simp only [argF]
  by_cases he : err3 xs ys = 0
  · rw [if_pos he] at hne ⊢
    rw [he] at cst
    by_cases h0 : many < 0
    · rw [if_pos h0]
      (repeat' (first
  | (with_reducible first | refine WC_seq ?_ | refine WC_skip ?_ | refine WC_label ?_ | refine WC_scope ?_ | refine WC_block ?_ | refine WC_ret ?_ | refine WC_exit ?_ | refine seqQ_norm ?_ | refine seqQ_ret ?_ | refine seqQ_exit ?_ | refine blkQ_norm ?_ | refine blkQ_ret ?_ | refine blkQ_here ?_ | refine gateK_yes ?_ | refine gateK_none ?_ | refine condK_tt ?_ | refine condK_ff ?_ | refine roundQ_exit ?_ | refine roundQ_ret ?_)
  | refine WC_region ?_ | refine blkQ_out rfl ?_ | refine WO_nil ?_ | refine WD_nil ?_
  | ((first | refine WD_gate rfl rfl rfl rfl rfl fun K_ hK_ => ?_ | refine WO_gate rfl rfl rfl rfl rfl fun K_ hK_ => ?_); simp only [upd_apply, asB_bool, asB_tup, ↓reduceIte, reduceCtorEq, Nat.reduceEqDiff, Bool.not_true, Bool.not_false]; refine hK_ _ ?_; clear hK_ K_)
  | refine gateK_no (by decide) ?_
  | ((try first | refine WO_op rfl rfl rfl ?_ | refine WO_op0 rfl rfl ?_ | refine WD_op rfl rfl rfl ?_ | refine WD_op0 rfl rfl ?_); (refine WV_gen fun Q_ hQ_ => ?_; simp (disch := first | omega | (simp only [List.length_cons, List.length_nil, List.length_append]; omega)) only [bb, bp, argF, ↓reduceIte, reduceCtorEq, Nat.reduceEqDiff, Nat.reduceLT, Nat.reduceLeDiff, Nat.reduceAdd, Nat.reduceMul, Nat.reduceSub, Nat.reduceBEq, Int.reduceToNat, cond_true, cond_false, eq_self, beq_self_eq_true, f1, f2, newPtr_X wf, load1_X wf, loadAgg_X wf, store1_X wf, writeCells_X wf, makeFunc_def, tEvZ13, bsl_22, bsl_42, bsl_63, bsl_90, newSlice_X wf]; first | (refine dec_split (Q := Q_) (fun hp_ => ?_) (fun hp_ => ?_) <;> first | (exfalso; omega) | (refine hQ_ _ _ ?_; clear hQ_ Q_)) | (refine dec_splitn (Q := Q_) (fun hp_ => ?_) (fun hp_ => ?_) <;> first | (exfalso; omega) | (refine hQ_ _ _ ?_; clear hQ_ Q_)) | (refine hQ_ _ _ ?_; clear hQ_ Q_) | (refine WV_eq (cst _ _ (by first | omega | (simp only [List.length_append, List.length_cons, List.length_nil]; omega))) ?_; refine hQ_ _ _ ?_; clear hQ_ Q_)))
  | (refine WC_cond fun K_ hK_ => ?_; simp (disch := omega) only [evT_tmp, upd_apply, WB_some, ↓reduceIte, reduceCtorEq, Nat.reduceEqDiff, Nat.reduceLT]; refine hK_ _ ?_; clear hK_ K_)))
      all_goals (refine endQ_ret _ _ rfl (ret2 (by decide) (by decide)) ?_; simp only [upd_apply, ↓reduceIte, reduceCtorEq, Nat.reduceEqDiff]; refine WV_flat rfl (by omega) ?_)
      all_goals exact ⟨rfl, rfl⟩
    · rw [if_neg h0] at hne ⊢
      by_cases h1 : 4096 < many
      · rw [if_pos h1]
        (repeat' (first
  | (with_reducible first | refine WC_seq ?_ | refine WC_skip ?_ | refine WC_label ?_ | refine WC_scope ?_ | refine WC_block ?_ | refine WC_ret ?_ | refine WC_exit ?_ | refine seqQ_norm ?_ | refine seqQ_ret ?_ | refine seqQ_exit ?_ | refine blkQ_norm ?_ | refine blkQ_ret ?_ | refine blkQ_here ?_ | refine gateK_yes ?_ | refine gateK_none ?_ | refine condK_tt ?_ | refine condK_ff ?_ | refine roundQ_exit ?_ | refine roundQ_ret ?_)
  | refine WC_region ?_ | refine blkQ_out rfl ?_ | refine WO_nil ?_ | refine WD_nil ?_
  | ((first | refine WD_gate rfl rfl rfl rfl rfl fun K_ hK_ => ?_ | refine WO_gate rfl rfl rfl rfl rfl fun K_ hK_ => ?_); simp only [upd_apply, asB_bool, asB_tup, ↓reduceIte, reduceCtorEq, Nat.reduceEqDiff, Bool.not_true, Bool.not_false]; refine hK_ _ ?_; clear hK_ K_)
  | refine gateK_no (by decide) ?_
  | ((try first | refine WO_op rfl rfl rfl ?_ | refine WO_op0 rfl rfl ?_ | refine WD_op rfl rfl rfl ?_ | refine WD_op0 rfl rfl ?_); (refine WV_gen fun Q_ hQ_ => ?_; simp (disch := first | omega | (simp only [List.length_cons, List.length_nil, List.length_append]; omega)) only [bb, bp, argF, ↓reduceIte, reduceCtorEq, Nat.reduceEqDiff, Nat.reduceLT, Nat.reduceLeDiff, Nat.reduceAdd, Nat.reduceMul, Nat.reduceSub, Nat.reduceBEq, Int.reduceToNat, cond_true, cond_false, eq_self, beq_self_eq_true, f1, f2, newPtr_X wf, load1_X wf, loadAgg_X wf, store1_X wf, writeCells_X wf, makeFunc_def, tEvZ13, bsl_22, bsl_42, bsl_63, bsl_90, newSlice_X wf]; first | (refine dec_split (Q := Q_) (fun hp_ => ?_) (fun hp_ => ?_) <;> first | (exfalso; omega) | (refine hQ_ _ _ ?_; clear hQ_ Q_)) | (refine dec_splitn (Q := Q_) (fun hp_ => ?_) (fun hp_ => ?_) <;> first | (exfalso; omega) | (refine hQ_ _ _ ?_; clear hQ_ Q_)) | (refine hQ_ _ _ ?_; clear hQ_ Q_) | (refine WV_eq (cst _ _ (by first | omega | (simp only [List.length_append, List.length_cons, List.length_nil]; omega))) ?_; refine hQ_ _ _ ?_; clear hQ_ Q_)))
  | (refine WC_cond fun K_ hK_ => ?_; simp (disch := omega) only [evT_tmp, upd_apply, WB_some, ↓reduceIte, reduceCtorEq, Nat.reduceEqDiff, Nat.reduceLT]; refine hK_ _ ?_; clear hK_ K_)))
        all_goals (refine endQ_ret _ _ rfl (ret2 (by decide) (by decide)) ?_; simp only [upd_apply, ↓reduceIte, reduceCtorEq, Nat.reduceEqDiff]; refine WV_flat rfl (by omega) ?_)
        all_goals exact ⟨rfl, rfl⟩
      · rw [if_neg h1] at hne
        exact absurd rfl hne
  · rw [if_neg he]
    generalize err3 xs ys = e at *
    (repeat' (first
  | (with_reducible first | refine WC_seq ?_ | refine WC_skip ?_ | refine WC_label ?_ | refine WC_scope ?_ | refine WC_block ?_ | refine WC_ret ?_ | refine WC_exit ?_ | refine seqQ_norm ?_ | refine seqQ_ret ?_ | refine seqQ_exit ?_ | refine blkQ_norm ?_ | refine blkQ_ret ?_ | refine blkQ_here ?_ | refine gateK_yes ?_ | refine gateK_none ?_ | refine condK_tt ?_ | refine condK_ff ?_ | refine roundQ_exit ?_ | refine roundQ_ret ?_)
  | refine WC_region ?_ | refine blkQ_out rfl ?_ | refine WO_nil ?_ | refine WD_nil ?_
  | ((first | refine WD_gate rfl rfl rfl rfl rfl fun K_ hK_ => ?_ | refine WO_gate rfl rfl rfl rfl rfl fun K_ hK_ => ?_); simp only [upd_apply, asB_bool, asB_tup, ↓reduceIte, reduceCtorEq, Nat.reduceEqDiff, Bool.not_true, Bool.not_false]; refine hK_ _ ?_; clear hK_ K_)
  | refine gateK_no (by decide) ?_
  | ((try first | refine WO_op rfl rfl rfl ?_ | refine WO_op0 rfl rfl ?_ | refine WD_op rfl rfl rfl ?_ | refine WD_op0 rfl rfl ?_); (refine WV_gen fun Q_ hQ_ => ?_; simp (disch := first | omega | (simp only [List.length_cons, List.length_nil, List.length_append]; omega)) only [bb, bp, argF, ↓reduceIte, reduceCtorEq, Nat.reduceEqDiff, Nat.reduceLT, Nat.reduceLeDiff, Nat.reduceAdd, Nat.reduceMul, Nat.reduceSub, Nat.reduceBEq, Int.reduceToNat, cond_true, cond_false, eq_self, beq_self_eq_true, f1, f2, newPtr_X wf, load1_X wf, loadAgg_X wf, store1_X wf, writeCells_X wf, makeFunc_def, tEvZ13, bsl_22, bsl_42, bsl_63, bsl_90, newSlice_X wf]; first | (refine dec_split (Q := Q_) (fun hp_ => ?_) (fun hp_ => ?_) <;> first | (exfalso; omega) | (refine hQ_ _ _ ?_; clear hQ_ Q_)) | (refine dec_splitn (Q := Q_) (fun hp_ => ?_) (fun hp_ => ?_) <;> first | (exfalso; omega) | (refine hQ_ _ _ ?_; clear hQ_ Q_)) | (refine hQ_ _ _ ?_; clear hQ_ Q_) | (refine WV_eq (cst _ _ (by first | omega | (simp only [List.length_append, List.length_cons, List.length_nil]; omega))) ?_; refine hQ_ _ _ ?_; clear hQ_ Q_)))
  | (refine WC_cond fun K_ hK_ => ?_; simp (disch := omega) only [evT_tmp, upd_apply, WB_some, ↓reduceIte, reduceCtorEq, Nat.reduceEqDiff, Nat.reduceLT]; refine hK_ _ ?_; clear hK_ K_)))
    all_goals (refine endQ_ret _ _ rfl (ret2 (by decide) (by decide)) ?_; simp only [upd_apply, ↓reduceIte, reduceCtorEq, Nat.reduceEqDiff]; refine WV_flat rfl (by omega) ?_)
    all_goals exact ⟨rfl, rfl⟩
theorem rrunErr (xs ys : List Int) (many : Int) (a b : AV) (h : H) (wf : Wf h) (hs : Sl h a 1 xs.length (xs.map ii)) (ht : Sl h b 1 ys.length (ys.map ii)) (hne : errRun xs ys many ≠ 0) : (om Try.prog KK).call (.fn 17 [a, b, ii many]) h = .ok (.tup [.nils, ii (errRun xs ys many)]) h := by
  obtain ⟨f1, f2⟩ := sl_flat ht
  have cst : ∀ (l : List AO) (w : Nat), w ≤ h.clock + l.length → (om Try.prog KK).call (.fn 44 [a, b]) (X h l w) = .ok (ii (err3 xs ys)) (X h l w) := fun l w hw => rstarted xs ys a b _ (wf.X hw) (hs.up wf l w) (ht.up wf l w)
  unfold errRun at *
  refine WV_to (WV_call (fn := Try.f17) Try.func17 rfl rfl rfl rfl rfl ?_)
  simp only [argF]
  by_cases he : err3 xs ys = 0
  · rw [if_pos he] at hne ⊢
    rw [he] at cst
    by_cases h0 : many < 0
    · rw [if_pos h0]
      (repeat' (first
  | (with_reducible first | refine WC_seq ?_ | refine WC_skip ?_ | refine WC_label ?_ | refine WC_scope ?_ | refine WC_block ?_ | refine WC_ret ?_ | refine WC_exit ?_ | refine seqQ_norm ?_ | refine seqQ_ret ?_ | refine seqQ_exit ?_ | refine blkQ_norm ?_ | refine blkQ_ret ?_ | refine blkQ_here ?_ | refine gateK_yes ?_ | refine gateK_none ?_ | refine condK_tt ?_ | refine condK_ff ?_ | refine roundQ_exit ?_ | refine roundQ_ret ?_)
  | refine WC_region ?_ | refine blkQ_out rfl ?_ | refine WO_nil ?_ | refine WD_nil ?_
  | ((first | refine WD_gate rfl rfl rfl rfl rfl fun K_ hK_ => ?_ | refine WO_gate rfl rfl rfl rfl rfl fun K_ hK_ => ?_); simp only [upd_apply, asB_bool, asB_tup, ↓reduceIte, reduceCtorEq, Nat.reduceEqDiff, Bool.not_true, Bool.not_false]; refine hK_ _ ?_; clear hK_ K_)
  | refine gateK_no (by decide) ?_
  | ((try first | refine WO_op rfl rfl rfl ?_ | refine WO_op0 rfl rfl ?_ | refine WD_op rfl rfl rfl ?_ | refine WD_op0 rfl rfl ?_); (refine WV_gen fun Q_ hQ_ => ?_; simp (disch := first | omega | (simp only [List.length_cons, List.length_nil, List.length_append]; omega)) only [bb, bp, argF, ↓reduceIte, reduceCtorEq, Nat.reduceEqDiff, Nat.reduceLT, Nat.reduceLeDiff, Nat.reduceAdd, Nat.reduceMul, Nat.reduceSub, Nat.reduceBEq, Int.reduceToNat, cond_true, cond_false, eq_self, beq_self_eq_true, f1, f2, newPtr_X wf, load1_X wf, loadAgg_X wf, store1_X wf, writeCells_X wf, makeFunc_def, tEvZ13, bsl_22, bsl_42, bsl_63, bsl_90, newSlice_X wf]; first | (refine dec_split (Q := Q_) (fun hp_ => ?_) (fun hp_ => ?_) <;> first | (exfalso; omega) | (refine hQ_ _ _ ?_; clear hQ_ Q_)) | (refine dec_splitn (Q := Q_) (fun hp_ => ?_) (fun hp_ => ?_) <;> first | (exfalso; omega) | (refine hQ_ _ _ ?_; clear hQ_ Q_)) | (refine hQ_ _ _ ?_; clear hQ_ Q_) | (refine WV_eq (cst _ _ (by first | omega | (simp only [List.length_append, List.length_cons, List.length_nil]; omega))) ?_; refine hQ_ _ _ ?_; clear hQ_ Q_)))
  | (refine WC_cond fun K_ hK_ => ?_; simp (disch := omega) only [evT_tmp, upd_apply, WB_some, ↓reduceIte, reduceCtorEq, Nat.reduceEqDiff, Nat.reduceLT]; refine hK_ _ ?_; clear hK_ K_)))
      all_goals (refine endQ_ret _ _ rfl (ret2 (by decide) (by decide)) ?_; simp only [upd_apply, ↓reduceIte, reduceCtorEq, Nat.reduceEqDiff]; refine WV_flat rfl (by omega) ?_)
      all_goals exact ⟨rfl, rfl⟩
    · rw [if_neg h0] at hne ⊢
      by_cases h1 : 4096 < many
      · rw [if_pos h1]
        (repeat' (first
  | (with_reducible first | refine WC_seq ?_ | refine WC_skip ?_ | refine WC_label ?_ | refine WC_scope ?_ | refine WC_block ?_ | refine WC_ret ?_ | refine WC_exit ?_ | refine seqQ_norm ?_ | refine seqQ_ret ?_ | refine seqQ_exit ?_ | refine blkQ_norm ?_ | refine blkQ_ret ?_ | refine blkQ_here ?_ | refine gateK_yes ?_ | refine gateK_none ?_ | refine condK_tt ?_ | refine condK_ff ?_ | refine roundQ_exit ?_ | refine roundQ_ret ?_)
  | refine WC_region ?_ | refine blkQ_out rfl ?_ | refine WO_nil ?_ | refine WD_nil ?_
  | ((first | refine WD_gate rfl rfl rfl rfl rfl fun K_ hK_ => ?_ | refine WO_gate rfl rfl rfl rfl rfl fun K_ hK_ => ?_); simp only [upd_apply, asB_bool, asB_tup, ↓reduceIte, reduceCtorEq, Nat.reduceEqDiff, Bool.not_true, Bool.not_false]; refine hK_ _ ?_; clear hK_ K_)
  | refine gateK_no (by decide) ?_
  | ((try first | refine WO_op rfl rfl rfl ?_ | refine WO_op0 rfl rfl ?_ | refine WD_op rfl rfl rfl ?_ | refine WD_op0 rfl rfl ?_); (refine WV_gen fun Q_ hQ_ => ?_; simp (disch := first | omega | (simp only [List.length_cons, List.length_nil, List.length_append]; omega)) only [bb, bp, argF, ↓reduceIte, reduceCtorEq, Nat.reduceEqDiff, Nat.reduceLT, Nat.reduceLeDiff, Nat.reduceAdd, Nat.reduceMul, Nat.reduceSub, Nat.reduceBEq, Int.reduceToNat, cond_true, cond_false, eq_self, beq_self_eq_true, f1, f2, newPtr_X wf, load1_X wf, loadAgg_X wf, store1_X wf, writeCells_X wf, makeFunc_def, tEvZ13, bsl_22, bsl_42, bsl_63, bsl_90, newSlice_X wf]; first | (refine dec_split (Q := Q_) (fun hp_ => ?_) (fun hp_ => ?_) <;> first | (exfalso; omega) | (refine hQ_ _ _ ?_; clear hQ_ Q_)) | (refine dec_splitn (Q := Q_) (fun hp_ => ?_) (fun hp_ => ?_) <;> first | (exfalso; omega) | (refine hQ_ _ _ ?_; clear hQ_ Q_)) | (refine hQ_ _ _ ?_; clear hQ_ Q_) | (refine WV_eq (cst _ _ (by first | omega | (simp only [List.length_append, List.length_cons, List.length_nil]; omega))) ?_; refine hQ_ _ _ ?_; clear hQ_ Q_)))
  | (refine WC_cond fun K_ hK_ => ?_; simp (disch := omega) only [evT_tmp, upd_apply, WB_some, ↓reduceIte, reduceCtorEq, Nat.reduceEqDiff, Nat.reduceLT]; refine hK_ _ ?_; clear hK_ K_)))
        all_goals (refine endQ_ret _ _ rfl (ret2 (by decide) (by decide)) ?_; simp only [upd_apply, ↓reduceIte, reduceCtorEq, Nat.reduceEqDiff]; refine WV_flat rfl (by omega) ?_)
        all_goals exact ⟨rfl, rfl⟩
      · rw [if_neg h1] at hne
        exact absurd rfl hne
  · rw [if_neg he]
    generalize err3 xs ys = e at *
    (repeat' (first
  | (with_reducible first | refine WC_seq ?_ | refine WC_skip ?_ | refine WC_label ?_ | refine WC_scope ?_ | refine WC_block ?_ | refine WC_ret ?_ | refine WC_exit ?_ | refine seqQ_norm ?_ | refine seqQ_ret ?_ | refine seqQ_exit ?_ | refine blkQ_norm ?_ | refine blkQ_ret ?_ | refine blkQ_here ?_ | refine gateK_yes ?_ | refine gateK_none ?_ | refine condK_tt ?_ | refine condK_ff ?_ | refine roundQ_exit ?_ | refine roundQ_ret ?_)
  | refine WC_region ?_ | refine blkQ_out rfl ?_ | refine WO_nil ?_ | refine WD_nil ?_
  | ((first | refine WD_gate rfl rfl rfl rfl rfl fun K_ hK_ => ?_ | refine WO_gate rfl rfl rfl rfl rfl fun K_ hK_ => ?_); simp only [upd_apply, asB_bool, asB_tup, ↓reduceIte, reduceCtorEq, Nat.reduceEqDiff, Bool.not_true, Bool.not_false]; refine hK_ _ ?_; clear hK_ K_)
  | refine gateK_no (by decide) ?_
  | ((try first | refine WO_op rfl rfl rfl ?_ | refine WO_op0 rfl rfl ?_ | refine WD_op rfl rfl rfl ?_ | refine WD_op0 rfl rfl ?_); (refine WV_gen fun Q_ hQ_ => ?_; simp (disch := first | omega | (simp only [List.length_cons, List.length_nil, List.length_append]; omega)) only [bb, bp, argF, ↓reduceIte, reduceCtorEq, Nat.reduceEqDiff, Nat.reduceLT, Nat.reduceLeDiff, Nat.reduceAdd, Nat.reduceMul, Nat.reduceSub, Nat.reduceBEq, Int.reduceToNat, cond_true, cond_false, eq_self, beq_self_eq_true, f1, f2, newPtr_X wf, load1_X wf, loadAgg_X wf, store1_X wf, writeCells_X wf, makeFunc_def, tEvZ13, bsl_22, bsl_42, bsl_63, bsl_90, newSlice_X wf]; first | (refine dec_split (Q := Q_) (fun hp_ => ?_) (fun hp_ => ?_) <;> first | (exfalso; omega) | (refine hQ_ _ _ ?_; clear hQ_ Q_)) | (refine dec_splitn (Q := Q_) (fun hp_ => ?_) (fun hp_ => ?_) <;> first | (exfalso; omega) | (refine hQ_ _ _ ?_; clear hQ_ Q_)) | (refine hQ_ _ _ ?_; clear hQ_ Q_) | (refine WV_eq (cst _ _ (by first | omega | (simp only [List.length_append, List.length_cons, List.length_nil]; omega))) ?_; refine hQ_ _ _ ?_; clear hQ_ Q_)))
  | (refine WC_cond fun K_ hK_ => ?_; simp (disch := omega) only [evT_tmp, upd_apply, WB_some, ↓reduceIte, reduceCtorEq, Nat.reduceEqDiff, Nat.reduceLT]; refine hK_ _ ?_; clear hK_ K_)))
    all_goals (refine endQ_ret _ _ rfl (ret2 (by decide) (by decide)) ?_; simp only [upd_apply, ↓reduceIte, reduceCtorEq, Nat.reduceEqDiff]; refine WV_flat rfl (by omega) ?_)
    all_goals exact ⟨rfl, rfl⟩
/-- What is made, as numbers; nothing if there is an error. -/
def madeI (xs ys : List Int) (many : Int) : List Int := if errRun xs ys many = 0 then (mL (runS (bN (bitL xs)) (bitL xs).length (sq (bitL ys))) many.toNat).map (fun b => ((b.toNat : Nat) : Int)) else []
theorem map_bi (bs : List Bool) : (bs.map fun b => ((b.toNat : Nat) : Int)).map ii = bs.map bi := by rw [List.map_map]; rfl
theorem madeI_len {xs ys : List Int} {many : Int} : (madeI xs ys many).length ≤ 4096 := by
  unfold madeI
  split
  · rename_i h
    rw [List.length_map, mL_length]
    unfold errRun at h
    split at h
    · split at h
      · contradiction
      · split at h
        · contradiction
        · omega
    · contradiction
  · simp
theorem run_any (xs ys : List Int) (many : Int) (a b : AV) (hcb : CapU 1 b) (h : H) (wf : Wf h) (hs : Sl h a 1 xs.length (xs.map ii)) (ht : Sl h b 1 ys.length (ys.map ii)) :
    ∃ v L, Sl (X h L h.w) v 1 (madeI xs ys many).length ((madeI xs ys many).map ii) ∧ (om Try.prog KK).call (.fn 16 [a, b, ii many]) h = .ok (.tup [v, ii (errRun xs ys many)]) (X h L h.w) := by
  by_cases hne : errRun xs ys many = 0
  · have h3 : err3 xs ys = 0 := by
      unfold errRun at hne
      split at hne
      · assumption
      · contradiction
    have hm : ¬ many < 0 ∧ ¬ 4096 < many := by
      unfold errRun at hne
      rw [if_pos h3] at hne
      split at hne
      · contradiction
      · split at hne
        · contradiction
        · exact ⟨by assumption, by assumption⟩
    obtain ⟨⟨k1, k2⟩, k3, k4⟩ := err3_ok h3
    have hs' : Sl h a 1 (bitL xs).length ((bitL xs).map bi) := by rw [bitL_length, ← bitL_map k2]; exact hs
    have ht' : Sl h b 1 (bitL ys).length ((bitL ys).map bi) := by rw [bitL_length, ← bitL_map k3]; exact ht
    obtain ⟨L, hL, e⟩ := runOK (bitL xs) (bitL ys) (by rw [bitL_length]; exact k1) (by rw [bitL_length, bitL_length]; exact k4) many.toNat (by omega) a b h wf hs' ht' hcb xs ys (bitL_length xs).symm (bitL_map k2) (bitL_length ys).symm (bitL_map k3) h3
    rw [show ((many.toNat : Nat) : Int) = many from by omega] at e
    refine ⟨_, L, ?_, by rw [hne]; exact e⟩
    unfold madeI
    rw [if_pos hne, map_bi, List.length_map, mL_length]
    exact Sl.new wf (by rw [List.length_map, mL_length, Nat.mul_one]) hL
  · refine ⟨.nils, [], ?_, by rw [X_self]; exact runErr xs ys many a b h wf hs ht hne⟩
    unfold madeI
    rw [if_neg hne]
    exact Sl.nil _ _
theorem rrun_any (xs ys : List Int) (many : Int) (a b : AV) (hcb : CapU 1 b) (h : H) (wf : Wf h) (hs : Sl h a 1 xs.length (xs.map ii)) (ht : Sl h b 1 ys.length (ys.map ii)) :
    ∃ v L, Sl (X h L h.w) v 1 (madeI xs ys many).length ((madeI xs ys many).map ii) ∧ (om Try.prog KK).call (.fn 17 [a, b, ii many]) h = .ok (.tup [v, ii (errRun xs ys many)]) (X h L h.w) := by
  by_cases hne : errRun xs ys many = 0
  · have h3 : err3 xs ys = 0 := by
      unfold errRun at hne
      split at hne
      · assumption
      · contradiction
    have hm : ¬ many < 0 ∧ ¬ 4096 < many := by
      unfold errRun at hne
      rw [if_pos h3] at hne
      split at hne
      · contradiction
      · split at hne
        · contradiction
        · exact ⟨by assumption, by assumption⟩
    obtain ⟨⟨k1, k2⟩, k3, k4⟩ := err3_ok h3
    have hs' : Sl h a 1 (bitL xs).length ((bitL xs).map bi) := by rw [bitL_length, ← bitL_map k2]; exact hs
    have ht' : Sl h b 1 (bitL ys).length ((bitL ys).map bi) := by rw [bitL_length, ← bitL_map k3]; exact ht
    obtain ⟨v, L, hL, e⟩ := rrunOK (bitL xs) (bitL ys) (by rw [bitL_length]; exact k1) (by rw [bitL_length, bitL_length]; exact k4) many.toNat (by omega) a b h wf hs' ht' hcb xs ys (bitL_length xs).symm (bitL_map k2) (bitL_length ys).symm (bitL_map k3) h3
    rw [show ((many.toNat : Nat) : Int) = many from by omega] at e
    refine ⟨v, L, ?_, by rw [hne]; exact e⟩
    unfold madeI
    rw [if_pos hne, map_bi, List.length_map, mL_length]
    exact hL
  · refine ⟨.nils, [], ?_, by rw [X_self]; exact rrunErr xs ys many a b h wf hs ht hne⟩
    unfold madeI
    rw [if_neg hne]
    exact Sl.nil _ _
theorem lawRuns (xs ys zs : List Int) (many : Int) (a b c : AV) (ha : CapU 1 a) (hb : CapU 1 b) (hc : CapU 1 c) (h : H) (wf : Wf h) (hs : Sl h a 1 xs.length (xs.map ii)) (ht : Sl h b 1 ys.length (ys.map ii)) (hz : Sl h c 1 zs.length (zs.map ii)) :
    (om Try.prog KK).call (.fn 3 [a, b, c, ii many]) h = .ok (.bool true) h := by
  have hl : ∀ h', lenE Try.prog 22 a h' = some (ii (xs.length : Int)) := fun h' => hs.len un_22
  have hl2 : ∀ h', lenE Try.prog 22 b h' = some (ii (ys.length : Int)) := fun h' => ht.len un_22
  have hl3 : ∀ h', lenE Try.prog 22 c h' = some (ii (zs.length : Int)) := fun h' => hz.len un_22
  obtain ⟨f1, f2⟩ := sl_flat hs
  obtain ⟨f3, f4⟩ := sl_flat ht
  obtain ⟨f5, f6⟩ := sl_flat hz
  refine WV_to (WV_call (fn := Try.f3) Try.func3 rfl rfl rfl rfl rfl ?_)
  simp only [argF]
  by_cases hg : 140 < xs.length ∨ 140 < ys.length ∨ 140 < zs.length
  · (repeat' (first
  | (with_reducible first | refine WC_seq ?_ | refine WC_skip ?_ | refine WC_label ?_ | refine WC_scope ?_ | refine WC_block ?_ | refine WC_ret ?_ | refine WC_exit ?_ | refine seqQ_norm ?_ | refine seqQ_ret ?_ | refine seqQ_exit ?_ | refine blkQ_norm ?_ | refine blkQ_ret ?_ | refine blkQ_here ?_ | refine gateK_yes ?_ | refine gateK_none ?_ | refine condK_tt ?_ | refine condK_ff ?_ | refine roundQ_exit ?_ | refine roundQ_ret ?_)
  | refine WC_region ?_ | refine blkQ_out rfl ?_ | refine WO_nil ?_ | refine WD_nil ?_
  | ((first | refine WD_gate rfl rfl rfl rfl rfl fun K_ hK_ => ?_ | refine WO_gate rfl rfl rfl rfl rfl fun K_ hK_ => ?_); simp only [upd_apply, asB_bool, asB_tup, ↓reduceIte, reduceCtorEq, Nat.reduceEqDiff, Bool.not_true, Bool.not_false]; refine hK_ _ ?_; clear hK_ K_)
  | refine gateK_no (by decide) ?_
  | ((try first | refine WO_op rfl rfl rfl ?_ | refine WO_op0 rfl rfl ?_ | refine WD_op rfl rfl rfl ?_ | refine WD_op0 rfl rfl ?_); (refine WV_gen fun Q_ hQ_ => ?_; simp (disch := first | omega | (simp only [List.length_cons, List.length_nil, List.length_append]; omega)) only [bb, bp, argF, ↓reduceIte, reduceCtorEq, Nat.reduceEqDiff, Nat.reduceLT, Nat.reduceLeDiff, Nat.reduceAdd, Nat.reduceMul, Nat.reduceSub, Nat.reduceBEq, Int.reduceToNat, cond_true, cond_false, eq_self, beq_self_eq_true, hl, hl2, hl3, f1, f2, f3, f4, f5, f6, newPtr_X wf, load1_X wf, loadAgg_X wf, store1_X wf, writeCells_X wf, makeFunc_def, tEvZ13, bsl_22, bsl_42, bsl_63, bsl_90, newSlice_X wf]; first | (refine dec_split (Q := Q_) (fun hp_ => ?_) (fun hp_ => ?_) <;> first | (exfalso; omega) | (refine hQ_ _ _ ?_; clear hQ_ Q_)) | (refine dec_splitn (Q := Q_) (fun hp_ => ?_) (fun hp_ => ?_) <;> first | (exfalso; omega) | (refine hQ_ _ _ ?_; clear hQ_ Q_)) | (refine hQ_ _ _ ?_; clear hQ_ Q_) | (refine WV_eq (works _) ?_; refine hQ_ _ _ ?_; clear hQ_ Q_)))
  | (refine WC_cond fun K_ hK_ => ?_; simp (disch := omega) only [evT_tmp, upd_apply, WB_some, ↓reduceIte, reduceCtorEq, Nat.reduceEqDiff, Nat.reduceLT]; refine hK_ _ ?_; clear hK_ K_)))
    all_goals (refine endQ_ret _ _ rfl (ret1 (by decide)) ?_; simp only [upd_apply, ↓reduceIte, reduceCtorEq, Nat.reduceEqDiff]; refine WV_flat rfl (by omega) ?_)
    all_goals exact ⟨rfl, rfl⟩
  · have g1 : ¬ (140 : Int) < (xs.length : Int) := by omega
    have g2 : ¬ (140 : Int) < (ys.length : Int) := by omega
    have g3 : ¬ (140 : Int) < (zs.length : Int) := by omega
    obtain ⟨v1, L1, s1, e1⟩ := run_any xs ys many a b hb (X h [] h.clock) (wf.X (by simp)) (hs.up wf _ _) (ht.up wf _ _)
    rw [X_X, X_w, List.nil_append] at s1 e1
    obtain ⟨v2, L2, s2, e2⟩ := rrun_any xs ys many a b hb (X h L1 h.clock) (wf.X (by omega)) (hs.up wf _ _) (ht.up wf _ _)
    rw [X_X, X_w] at s2 e2
    have wf2 := wf.X (l := L1 ++ L2) (w := h.clock) (by omega)
    obtain ⟨p1, p2⟩ := sl_flat s1
    obtain ⟨p3, p4⟩ := sl_flat s2
    have s1' : Sl (X h (L1 ++ L2) h.clock) v1 1 (madeI xs ys many).length ((madeI xs ys many).map ii) := by
      have := s1.up (wf.X (l := L1) (w := h.clock) (by omega)) L2 h.clock
      rwa [X_X] at this
    have hlen := madeI_len (xs := xs) (ys := ys) (many := many)
    have c1 : (om Try.prog KK).call (.fn 20 [v1, v2]) (X h (L1 ++ L2) h.clock) = .ok (.bool true) (X h (L1 ++ L2) h.clock) := by
      rw [ints _ _ (by omega) v1 v2 _ wf2 s1' s2, decide_eq_true rfl]
    have c2 : (om Try.prog KK).call (.fn 18 [c]) (X h (L1 ++ L2) h.clock) = .ok (ii (errB zs)) (X h (L1 ++ L2) h.clock) := checkBits zs c _ wf2 (hz.up wf _ _)
    have c3 : (om Try.prog KK).call (.fn 19 [c]) (X h (L1 ++ L2) h.clock) = .ok (ii (errB zs)) (X h (L1 ++ L2) h.clock) := rcheckBits zs c _ wf2 (hz.up wf _ _)
    have c4 : (om Try.prog KK).call (.fn 21 [c, a]) (X h (L1 ++ L2) h.clock) = .ok (ii (errReg zs xs)) (X h (L1 ++ L2) h.clock) := checkRegister zs xs c a hc _ wf2 (hz.up wf _ _) (hs.up wf _ _)
    have c5 : (om Try.prog KK).call (.fn 22 [c, a]) (X h (L1 ++ L2) h.clock) = .ok (ii (errReg zs xs)) (X h (L1 ++ L2) h.clock) := rcheckRegister zs xs c a hc _ wf2 (hz.up wf _ _) (hs.up wf _ _)
    generalize errReg zs xs = er at *
    generalize errB zs = eb at *
    generalize errRun xs ys many = ern at *
    (repeat' (first
  | (with_reducible first | refine WC_seq ?_ | refine WC_skip ?_ | refine WC_label ?_ | refine WC_scope ?_ | refine WC_block ?_ | refine WC_ret ?_ | refine WC_exit ?_ | refine seqQ_norm ?_ | refine seqQ_ret ?_ | refine seqQ_exit ?_ | refine blkQ_norm ?_ | refine blkQ_ret ?_ | refine blkQ_here ?_ | refine gateK_yes ?_ | refine gateK_none ?_ | refine condK_tt ?_ | refine condK_ff ?_ | refine roundQ_exit ?_ | refine roundQ_ret ?_)
  | refine WC_region ?_ | refine blkQ_out rfl ?_ | refine WO_nil ?_ | refine WD_nil ?_
  | ((first | refine WD_gate rfl rfl rfl rfl rfl fun K_ hK_ => ?_ | refine WO_gate rfl rfl rfl rfl rfl fun K_ hK_ => ?_); simp only [upd_apply, asB_bool, asB_tup, ↓reduceIte, reduceCtorEq, Nat.reduceEqDiff, Bool.not_true, Bool.not_false]; refine hK_ _ ?_; clear hK_ K_)
  | refine gateK_no (by decide) ?_
  | ((try first | refine WO_op rfl rfl rfl ?_ | refine WO_op0 rfl rfl ?_ | refine WD_op rfl rfl rfl ?_ | refine WD_op0 rfl rfl ?_); (refine WV_gen fun Q_ hQ_ => ?_; simp (disch := first | omega | (simp only [List.length_cons, List.length_nil, List.length_append]; omega)) only [bb, bp, argF, ↓reduceIte, reduceCtorEq, Nat.reduceEqDiff, Nat.reduceLT, Nat.reduceLeDiff, Nat.reduceAdd, Nat.reduceMul, Nat.reduceSub, Nat.reduceBEq, Int.reduceToNat, cond_true, cond_false, eq_self, beq_self_eq_true, hl, hl2, hl3, f1, f2, f3, f4, f5, f6, p1, p2, p3, p4, newPtr_X wf, load1_X wf, loadAgg_X wf, store1_X wf, writeCells_X wf, makeFunc_def, tEvZ13, bsl_22, bsl_42, bsl_63, bsl_90, newSlice_X wf]; first | (refine dec_split (Q := Q_) (fun hp_ => ?_) (fun hp_ => ?_) <;> first | (exfalso; omega) | (refine hQ_ _ _ ?_; clear hQ_ Q_)) | (refine dec_splitn (Q := Q_) (fun hp_ => ?_) (fun hp_ => ?_) <;> first | (exfalso; omega) | (refine hQ_ _ _ ?_; clear hQ_ Q_)) | (refine hQ_ _ _ ?_; clear hQ_ Q_) | (refine WV_eq (e1) ?_; refine hQ_ _ _ ?_; clear hQ_ Q_) | (refine WV_eq (e2) ?_; refine hQ_ _ _ ?_; clear hQ_ Q_) | (refine WV_eq (c1) ?_; refine hQ_ _ _ ?_; clear hQ_ Q_) | (refine WV_eq (c2) ?_; refine hQ_ _ _ ?_; clear hQ_ Q_) | (refine WV_eq (c3) ?_; refine hQ_ _ _ ?_; clear hQ_ Q_) | (refine WV_eq (c4) ?_; refine hQ_ _ _ ?_; clear hQ_ Q_) | (refine WV_eq (c5) ?_; refine hQ_ _ _ ?_; clear hQ_ Q_) | (refine WV_eq (works _) ?_; refine hQ_ _ _ ?_; clear hQ_ Q_)))
  | (refine WC_cond fun K_ hK_ => ?_; simp (disch := omega) only [evT_tmp, upd_apply, WB_some, ↓reduceIte, reduceCtorEq, Nat.reduceEqDiff, Nat.reduceLT]; refine hK_ _ ?_; clear hK_ K_)))
    all_goals (refine endQ_ret _ _ rfl (ret1 (by decide)) ?_; simp only [upd_apply, ↓reduceIte, reduceCtorEq, Nat.reduceEqDiff]; refine WV_flat rfl (by omega) ?_)
    all_goals exact ⟨rfl, rfl⟩
end Go.Proofs.Ytmincoafjnnkpaa
end

/- EvZc3 -/
section
/- The statement WaveRuns of layer 5: the bits of a register that runs on, and whether a register makes bits, are what the definitions say, or the error, for all lists and numbers; no condition. -/
namespace Go.Proofs.Ytmincoafjnnkpaa.waveRuns
open Go.ChangeShapes Go.WideShapes Go.ChangeAt Go.RowKit Go.Ev
set_option maxRecDepth 100000
set_option maxHeartbeats 0

theorem contract (H : Type) (enc : TypeId × Value → H) (W : World) (base : Nat) (args : Array Value) (ds gs : List (DataW H)) (before : List MemPlace) (hval : ∀ (j : Nat) t v, Try.f3.params[j]? = some t → args[j]? = some v → Value.okWide Try.prog W .any base t v)
    (hW : DataW.Whole enc Try.prog Try.f3.params.toList Rows.waveRunsSpec.vars false W args.toList ds gs before) :
    Calls Try.prog 3 args W fun e W' => ∃ v, e = .returned v ∧ Rows.waveRunsSpec.post enc Try.prog Try.f3 false true false false W args v W' := by
  have hW' := hW
  obtain ⟨p, q, hA0, hV, rfl, hfz, hnd⟩ := hW
  have hA : DataW.TrodAll enc Try.prog W 0 (fun _ => true) true Try.f3.params.toList args.toList ds p := hA0
  rw [Try.params3] at hA hval
  obtain ⟨v0, v1, v2, v3, d0, d1, d2, d3, p0, p1, p2, p3, rfl, rfl, rfl, ⟨n0, h0⟩, ⟨n1, h1⟩, ⟨n2, h2⟩, ⟨n3, h3⟩⟩ := trodAll_four hA
  have k0 := (okWide_cell (P := Try.prog) Try.underlying22 (fun _ e => by cases e) (fun _ _ e => by cases e) (hval 0 22 v0 rfl rfl))
  rw [slice_cells Try.underlying22 k0] at h0
  obtain ⟨a0, ls0, w0, q0, x0⟩ := ints_in k0 h0
  have k1 := (okWide_cell (P := Try.prog) Try.underlying22 (fun _ e => by cases e) (fun _ _ e => by cases e) (hval 1 22 v1 rfl rfl))
  rw [slice_cells Try.underlying22 k1] at h1
  obtain ⟨a1, ls1, w1, q1, x1⟩ := ints_in k1 h1
  have k2 := (okWide_cell (P := Try.prog) Try.underlying22 (fun _ e => by cases e) (fun _ _ e => by cases e) (hval 2 22 v2 rfl rfl))
  rw [slice_cells Try.underlying22 k2] at h2
  obtain ⟨a2, ls2, w2, q2, x2⟩ := ints_in k2 h2
  obtain ⟨r3, hz3⟩ := okWideInt Try.underlying3 (okWide_cell (P := Try.prog) Try.underlying3 (fun _ e => by cases e) (fun _ _ e => by cases e) (hval 3 3 v3 rfl rfl))
  subst hz3
  have walk := lawRuns ls0 ls1 ls2 r3 a0 a1 a2 (q0.capu 1) (q1.capu 1) (q2.capu 1) (startW W) (startW_wf W) x0 x1 x2
  have hargs : VL (startWR W) [a0, a1, a2, ii r3] (#[v0, v1, v2, .int .i64 r3] : Array Value).toList := (.cons _ _ _ _ w0 (.cons _ _ _ _ w1 (.cons _ _ _ _ w2 (.cons _ _ _ _ (.int _ _) .nil))))
  refine (startW_true (P := Try.prog) mixed (K := KK) (fun c hc => by
    have : c = cW := List.mem_singleton.1 hc
    rw [this]; exact cW_ok) walk hargs).mono fun e W' ⟨he, hgr, hs⟩ => ?_
  subst he
  refine ⟨_, rfl, law_post laidOut (by
    rw [Try.params3]
    intro t ht
    rcases List.mem_cons.1 ht with rfl | ht
    · exact ⟨by kernel_rfl, of_decide_eq_true (by kernel_rfl)⟩
    rcases List.mem_cons.1 ht with rfl | ht
    · exact ⟨by kernel_rfl, of_decide_eq_true (by kernel_rfl)⟩
    rcases List.mem_cons.1 ht with rfl | ht
    · exact ⟨by kernel_rfl, of_decide_eq_true (by kernel_rfl)⟩
    rcases List.mem_cons.1 ht with rfl | ht
    · exact ⟨by kernel_rfl, of_decide_eq_true (by kernel_rfl)⟩
    cases ht) rfl (by kernel_rfl) Try.underlying4 (fun gs' ⟨q', hq⟩ => ?_) hW' hgr hs⟩
  obtain ⟨rfl, _⟩ := trodVars_none hq
  exact ⟨rfl, rfl, rfl⟩

theorem lifted (os : Os) (started : os.Started) (H : Type) (enc : TypeId × Value → H) :
    ReturnsInHanded {} Try.checked os 3 .any (Rows.waveRunsSpec.pre6 enc Try.prog Try.f3 Rows.waveRunsRow.domain false) (Rows.waveRunsSpec.post enc Try.prog Try.f3 false true false false) := by
  refine returnsInHanded_of_change (C := Try.checked) own started (by kernel_rfl) Try.func3
    (ChangeSpec.witness6 (enc := enc) (C := Try.checked) false ⟨#[], #[.slice none 0 0, .slice none 0 0, .slice none 0 0, .int .i64 0], []⟩ 8 (by kernel_rfl) (by kernel_rfl) (by kernel_rfl) (by kernel_rfl)) ?_
  intro W base args ds gs before hval hW _ _
  exact contract H enc W base args ds gs before hval hW

theorem holds : Rows.WaveRunsSaid :=
  OpenClaim.holds_of_wide 3 Try.f3 rfl rfl rfl rfl rfl rfl rfl ⟨rfl, rfl, rfl, rfl, rfl⟩ rfl rfl rfl rfl rfl (by kernel_rfl) Try.func3 (by kernel_rfl)
    (of_decide_eq_true (by kernel_rfl)) (by unfold Func.isWrapper; first | (rw [if_pos (by decide +kernel)]; kernel_rfl) | (rw [if_neg (by decide +kernel)]; exact ⟨rfl, rfl⟩))
    (fun os started H enc _ => lifted os started H enc)
end Go.Proofs.Ytmincoafjnnkpaa.waveRuns
end
