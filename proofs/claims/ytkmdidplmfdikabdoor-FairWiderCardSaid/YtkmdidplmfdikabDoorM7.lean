/- The statement FairWider of layer 1: with a wider range of a spot or a lesser turn no fairest line costs more, and with turn 0 as little as any line bends at least, for all spots, widenings, turns and lines by numbers; the package's table of costs is as the text lays it. -/
import Derived.Test.YtkmdidplmfdikabDoorM6
import Derived.Test.YtkmdidplmfdikabDoorChecked
import Derived.Eval
import Derived.KernelRfl
import Derived.Test.YtkmdidplmfdikabDoorCards
import Derived.Test.YtkmdidplmfdikabDoorTie
import Derived.WalkKit
import Derived.ProofKit
import Derived.OpenShut
import Derived.Deep.DeepHandedRow
import Derived.Lib.LaidTab
set_option linter.all false
/- EvbV4 -/
section
/-
  LAYER 1: the statement FairWider, walked.
-/
namespace Go.Proofs.YtkmdidplmfdikabDoor
open Go.Ev
set_option maxRecDepth 100000
set_option linter.unusedSimpArgs false
set_option linter.unusedVariables false
set_option maxHeartbeats 4000000

theorem tEvbV4 : type_of% (And.intro (And.intro (And.intro (And.intro (And.intro (@bs_60) (@bs_24)) (And.intro (@bs_35) (@ia_2))) (And.intro (And.intro (@sz_2) (@ia_3)) (And.intro (@sz_3) (@ia_5)))) (And.intro (And.intro (And.intro (@sz_5) (@ia_22)) (And.intro (@ia_25) (@ia_27))) (And.intro (And.intro (@ia_30) (@ia_31)) (And.intro (@ia_24) (@sz_24))))) (And.intro (And.intro (And.intro (And.intro (@fo_35_0) (@fo_35_1)) (And.intro (@fo_24_0) (@fo_24_1))) (And.intro (And.intro (@pb_3) (@pb_7)) (And.intro (@pb_8) (@pb_9)))) (And.intro (And.intro (And.intro (@pb_10) (@pb_11)) (And.intro (@pb_12) (@pb_18))) (And.intro (And.intro (@ni_30) (@ni_22)) (And.intro (@ze_24) (And.intro (@ze_35) (@sz_35))))))) := And.intro (And.intro (And.intro (And.intro (And.intro (@bs_60) (@bs_24)) (And.intro (@bs_35) (@ia_2))) (And.intro (And.intro (@sz_2) (@ia_3)) (And.intro (@sz_3) (@ia_5)))) (And.intro (And.intro (And.intro (@sz_5) (@ia_22)) (And.intro (@ia_25) (@ia_27))) (And.intro (And.intro (@ia_30) (@ia_31)) (And.intro (@ia_24) (@sz_24))))) (And.intro (And.intro (And.intro (And.intro (@fo_35_0) (@fo_35_1)) (And.intro (@fo_24_0) (@fo_24_1))) (And.intro (And.intro (@pb_3) (@pb_7)) (And.intro (@pb_8) (@pb_9)))) (And.intro (And.intro (And.intro (@pb_10) (@pb_11)) (And.intro (@pb_12) (@pb_18))) (And.intro (And.intro (@ni_30) (@ni_22)) (And.intro (@ze_24) (And.intro (@ze_35) (@sz_35))))))
theorem b_rem5 {P : Program} {t x y} {m : Int} : binE P .rem t x y (.int .u8 m) (.int .u8 5) = some (.int .u8 (m.tmod 5)) := by
  show pureVal P (Op.intDiv .rem .u8 m 5) = _
  unfold Op.intDiv
  rw [if_neg (by decide)]
  exact pureVal_int
theorem ix_22 {q : Pos} {n i : Nat} (hi : i < n) : indexAddrE Tryd.prog 22 (.sl q 0 n none 2) (.int .i64 (i : Int)) = some (.ptr q (i * 2)) := by
  rw [indexAddrE_def, toNatE_lit]; dsimp only; rw [ik_22]; dsimp only; rw [indexAt_sl hi, Nat.zero_add]
theorem ix_25 {q : Pos} {off i : Nat} (hi : i < 2) : indexAddrE Tryd.prog 25 (.ptr q off) (.int .i64 (i : Int)) = some (.ptr q (off + i * 1)) := by
  rw [indexAddrE_def, toNatE_lit]; dsimp only; rw [ik_25]; dsimp only; rw [indexAt_arr hi]
theorem pairCells_set (sp : List (Int × Int)) (k : Nat) (x y : Int) (hk : k < sp.length) : splice (pairCells sp) (k * 2) [ii x, ii y] = pairCells (sp.set k (x, y)) := by
  induction sp generalizing k with
  | nil => simp at hk
  | cons r R ih =>
    cases k with
    | zero => simp [pairCells, splice_def]
    | succ k =>
      have := ih k (by simpa using hk)
      have e : (k + 1) * 2 = k * 2 + 1 + 1 := by omega
      rw [e]
      simp only [splice_def, pairCells, List.set_cons_succ, List.flatMap_cons, List.cons_append, List.nil_append, List.take_succ_cons, List.length_cons, List.length_nil, Nat.zero_add] at this ⊢
      rw [show k * 2 + 1 + 1 + (1 + 1) = k * 2 + (1 + 1) + 1 + 1 from by omega, List.drop_succ_cons, List.drop_succ_cons, this]
/-- A slice of spots that the law has made. -/
theorem slMade {h : H} (wf : Wf h) {L : List AO} {j n : Nat} {cs : List AV} (hj : L[j]? = some (.cells (mkCells cs) 35)) (hn : cs.length = n * 2) (w : Nat) : Sl (X h L w) (.sl (nx h j) 0 n none 2) 2 n cs := by
  have g : Grow h [] L (.sl (nx h j) 0 n none 2) 2 35 n cs := ⟨hn, .inr ⟨j, by rw [List.length_nil, Nat.zero_add], hj⟩⟩
  exact g.sl wf w
theorem lawWider (sp : List (Int × Int)) (turn which_ q0 q1 less : Int) (bs : List Int) (hw : 0 ≤ which_ ∧ which_ ≤ 255) (hq0 : 0 ≤ q0 ∧ q0 ≤ 255) (hq1 : 0 ≤ q1 ∧ q1 ≤ 255) (hl : 0 ≤ less ∧ less ≤ 4294967295) (hb8 : ∀ n ∈ bs, 0 ≤ n ∧ n ≤ 255) (a b : AV) (hca : Capd a) (h : H) (wf : Wf h) (t : Tab h) (hs : Sl h a 2 sp.length (spotCells sp)) (hb : Sl h b 1 bs.length (bs.map u8)) :
    (om Tryd.prog KK).call (.fn 3 [.agg [a, ii turn], u8 which_, .agg [u8 q0, u8 q1], .int .u32 less, b]) h = .ok (.bool true) h := by
  have ha1 : oneB a = true ∧ AV.cells a = [a] := by obtain ⟨_, ⟨rfl, _⟩ | ⟨_, _, _, _, _, _, rfl, _⟩⟩ := hs <;> exact ⟨rfl, rfl⟩
  have hlen : ∀ h', lenE Tryd.prog 22 a h' = some (ii (sp.length : Int)) := fun h' => hs.len un_22
  have hlb : ∀ h', lenE Tryd.prog 27 b h' = some (ii (bs.length : Int)) := fun h' => hb.len un_27
  have works' : ∀ l w, (om Tryd.prog KK).call (.fn 8 []) (X h l w) = .ok (.bool true) (X h l w) := fun l w => works _ (t.up wf _ _)
  have hfine : ∀ l w, w ≤ h.clock + l.length → (om Tryd.prog KK).call (.fn 7 [.agg [a, ii turn]]) (X h l w) = .ok (.bool (decide (spotsR sp turn = 0))) (X h l w) := fun l w hw => fineSpots sp turn a _ (wf.X hw) (hs.up wf _ _)
  by_cases hgo : spotsR sp turn = 0 ∧ bs.length ≤ 40
  · obtain ⟨hs0, h40⟩ := hgo
    obtain ⟨n1, n24, hok, hturn⟩ := spotsR_ok hs0
    rw [decide_eq_true hs0] at hfine
    have hcv : convE Tryd.prog 5 3 (u8 which_) = some (ii which_) := by rw [c_int un_5 un_3, wrap_in _ (by omega) (by omega)]
    have hrem : ∀ (x y : Operand), binE Tryd.prog .rem 3 x y (ii which_) (ii (sp.length : Int)) = some (ii (which_.tmod (sp.length : Int))) := fun x y => b_rem (by omega)
    have hq : 0 ≤ which_.tmod (sp.length : Int) ∧ which_.tmod (sp.length : Int) < (sp.length : Int) := by
      rw [Int.tmod_eq_emod_of_nonneg hw.1]
      exact ⟨Int.emod_nonneg _ (by omega), Int.emod_lt_of_pos _ (by omega)⟩
    generalize which_.tmod (sp.length : Int) = q at *
    obtain ⟨k, rfl⟩ : ∃ k : Nat, q = (k : Int) := ⟨q.toNat, by omega⟩
    have hk : k < sp.length := by omega
    obtain ⟨v1, h1, e1, L1, lv, rfl, rfl, hlv⟩ := fairestAll sp turn hs0 a (X h [.cells (mkCells [a, ii turn]) 24, .cells (mkCells [u8 q0, u8 q1]) 25] h.clock) (wf.X (by omega)) (t.up wf _ _) (hs.up wf _ _)
    rw [X_X, X_w] at e1
    simp only [List.cons_append, List.nil_append] at e1
    refine WV_to (WV_call (fn := Tryd.f3) Tryd.func3 rfl rfl rfl rfl rfl ?_)
    simp only [argF]
    (repeat' (first
  | (with_reducible first | refine WC_seq ?_ | refine WC_skip ?_ | refine WC_label ?_ | refine WC_scope ?_ | refine WC_block ?_ | refine WC_ret ?_ | refine WC_exit ?_ | refine seqQ_norm ?_ | refine seqQ_ret ?_ | refine seqQ_exit ?_ | refine blkQ_norm ?_ | refine blkQ_ret ?_ | refine blkQ_here ?_ | refine gateK_yes ?_ | refine gateK_none ?_ | refine condK_tt ?_ | refine condK_ff ?_ | refine roundQ_exit ?_ | refine roundQ_ret ?_)
  | refine WC_region ?_ | refine blkQ_out rfl ?_ | refine WO_nil ?_ | refine WD_nil ?_
  | ((first | refine WD_gate rfl rfl rfl rfl rfl fun K_ hK_ => ?_ | refine WO_gate rfl rfl rfl rfl rfl fun K_ hK_ => ?_); simp only [upd_apply, asB_bool, asB_tup, ↓reduceIte, reduceCtorEq, Nat.reduceEqDiff, Bool.not_true, Bool.not_false]; refine hK_ _ ?_; clear hK_ K_)
  | refine gateK_no (by decide) ?_
  | ((try first | refine WO_op rfl rfl rfl ?_ | refine WO_op0 rfl rfl ?_ | refine WD_op rfl rfl rfl ?_ | refine WD_op0 rfl rfl ?_); (refine WV_gen fun Q_ hQ_ => ?_; simp (disch := first | omega | (simp only [List.length_cons, List.length_nil, List.length_append]; omega)) only [bb, bp, argF, ↓reduceIte, reduceCtorEq, Nat.reduceEqDiff, Nat.reduceLT, Nat.reduceLeDiff, Nat.reduceAdd, Nat.reduceMul, Nat.reduceSub, Nat.reduceBEq, Int.reduceToNat, cond_true, cond_false, eq_self, beq_self_eq_true, hfine, hlen, hlb, hcv, hrem, e1, hlv.flat.1, hlv.flat.2, works', ha1.1, ha1.2, newPtr_X wf, load1_X wf, loadAgg_X wf, store1_X wf, writeCells_X wf, tEvbV4, bsl_30, bsl_22, newSlice_X wf]; first | (refine dec_split (Q := Q_) (fun hp_ => ?_) (fun hp_ => ?_) <;> first | (exfalso; omega) | (refine hQ_ _ _ ?_; clear hQ_ Q_)) | (refine dec_splitn (Q := Q_) (fun hp_ => ?_) (fun hp_ => ?_) <;> first | (exfalso; omega) | (refine hQ_ _ _ ?_; clear hQ_ Q_)) | (refine hQ_ _ _ ?_; clear hQ_ Q_)))
  | (refine WC_cond fun K_ hK_ => ?_; simp (disch := omega) only [evT_tmp, upd_apply, WB_some, ↓reduceIte, reduceCtorEq, Nat.reduceEqDiff, Nat.reduceLT]; refine hK_ _ ?_; clear hK_ K_)))
    have hsrc : ∀ l w, srcCells (X h l w) 2 (reszT Tryd.prog 22 a) = some (sp.length, spotCells sp) := fun l w => (hs.up wf l w).srcE (P := Tryd.prog) (hca.cape 2) un_22 sz_35
    have a1 : ∀ w, appendE Tryd.prog 22 (.sl (nx h (L1.length + 1 + 1)) 0 0 (some 0) 2) (reszT Tryd.prog 22 a) (X h (.cells (mkCells [a, ii turn]) 24 :: .cells (mkCells [u8 q0, u8 q1]) 25 :: (L1 ++ [.cells (mkCells []) 35])) w) = .ok (.sl (nx h (L1.length + 1 + 1 + 1)) 0 sp.length none 2) (X h (.cells (mkCells [a, ii turn]) 24 :: .cells (mkCells [u8 q0, u8 q1]) 25 :: (L1 ++ [.cells (mkCells []) 35, .cells (mkCells (spotCells sp)) 35])) w) := fun w => by
      have := append_zero (P := Tryd.prog) (l := .cells (mkCells [a, ii turn]) 24 :: .cells (mkCells [u8 q0, u8 q1]) 25 :: (L1 ++ [.cells (mkCells []) 35])) (k := L1.length + 1 + 1) (w := w) (t := 22) (old := []) (e' := 35) wf un_22 sz_35 el_35 (x := reszT Tryd.prog 22 a) (n := sp.length) (new := spotCells sp) (by omega) (by omega) (by decide) (by simp only [List.getElem?_cons_succ, app_len0, List.getElem?_cons_zero]) (hsrc _ _) (pairCells_length sp)
      simpa only [List.length_cons, List.length_append, List.length_nil, List.cons_append, List.append_assoc, List.nil_append, Nat.zero_add, Nat.reduceAdd, Nat.add_assoc] using this
    have rs22 : ∀ (id : Pos) (off len c esz : Nat), reszT Tryd.prog 22 (.sl id off len (some c) esz) = .sl id off len (some c) 2 := fun id off len c esz => reszT_some un_22 sz_35
    refine WC_drawnB [.no, .no, .no, .no, .no, .no, .no, .no, .full] (by kernel_rfl) ?_
    (repeat' (first
  | (with_reducible first | refine WC_seq ?_ | refine WC_skip ?_ | refine WC_label ?_ | refine WC_scope ?_ | refine WC_block ?_ | refine WC_ret ?_ | refine WC_exit ?_ | refine seqQ_norm ?_ | refine seqQ_ret ?_ | refine seqQ_exit ?_ | refine blkQ_norm ?_ | refine blkQ_ret ?_ | refine blkQ_here ?_ | refine gateK_yes ?_ | refine gateK_none ?_ | refine condK_tt ?_ | refine condK_ff ?_ | refine roundQ_exit ?_ | refine roundQ_ret ?_)
  | refine WC_region ?_ | refine blkQ_out rfl ?_ | refine WO_nil ?_ | refine WD_nil ?_
  | ((first | refine WD_gate rfl rfl rfl rfl rfl fun K_ hK_ => ?_ | refine WO_gate rfl rfl rfl rfl rfl fun K_ hK_ => ?_); simp only [upd_apply, asB_bool, asB_tup, ↓reduceIte, reduceCtorEq, Nat.reduceEqDiff, Bool.not_true, Bool.not_false]; refine hK_ _ ?_; clear hK_ K_)
  | refine gateK_no (by decide) ?_
  | ((try first | refine WO_op rfl rfl rfl ?_ | refine WO_op0 rfl rfl ?_ | refine WD_op rfl rfl rfl ?_ | refine WD_op0 rfl rfl ?_); (refine WV_gen fun Q_ hQ_ => ?_; simp (disch := first | omega | (simp only [List.length_cons, List.length_nil, List.length_append]; omega)) only [bb, bp, argF, ↓reduceIte, reduceCtorEq, Nat.reduceEqDiff, Nat.reduceLT, Nat.reduceLeDiff, Nat.reduceAdd, Nat.reduceMul, Nat.reduceSub, Nat.reduceBEq, Int.reduceToNat, cond_true, cond_false, eq_self, beq_self_eq_true, a1, rs22, hlen, ha1.1, ha1.2, newPtr_X wf, load1_X wf, loadAgg_X wf, store1_X wf, writeCells_X wf, tEvbV4, bsl_30, bsl_22, newSlice_X wf]; first | (refine dec_split (Q := Q_) (fun hp_ => ?_) (fun hp_ => ?_) <;> first | (exfalso; omega) | (refine hQ_ _ _ ?_; clear hQ_ Q_)) | (refine dec_splitn (Q := Q_) (fun hp_ => ?_) (fun hp_ => ?_) <;> first | (exfalso; omega) | (refine hQ_ _ _ ?_; clear hQ_ Q_)) | (refine hQ_ _ _ ?_; clear hQ_ Q_)))
  | (refine WC_cond fun K_ hK_ => ?_; simp (disch := omega) only [evT_tmp, upd_apply, WB_some, ↓reduceIte, reduceCtorEq, Nat.reduceEqDiff, Nat.reduceLT]; refine hK_ _ ?_; clear hK_ K_)))
    have hlx : ∀ h', lenE Tryd.prog 22 (.sl (nx h (L1.length + 1 + 1 + 1)) 0 sp.length none 2) h' = some (ii (sp.length : Int)) := fun h' => (slMade (cs := spotCells sp) wf (L := [.dead, .dead, .dead] ++ [.cells (mkCells (spotCells sp)) 35]) (j := 3) rfl (pairCells_length sp) 0).len un_22 (h' := h') |> fun e => e
    have hok0 := hok _ (List.getElem_mem hk)
    rw [spot_get hk] at hok0
    obtain ⟨⟨o1, o2⟩, ⟨o3, o4⟩, o5, o6⟩ := hok0
    have hsg0 : (spotCells sp)[k * 2]? = some (ii (spot sp k).1) := by have := (spotCells_get hk).1; rwa [Nat.add_zero, spot_get hk] at this
    have hsg1 : (spotCells sp)[k * 2 + 1]? = some (ii (spot sp k).2) := by have := (spotCells_get hk).2; rwa [spot_get hk] at this
    have hix := ix_22 (q := nx h (L1.length + 1 + 1 + 1)) hk
    have hi0 : indexAddrE Tryd.prog 25 (.ptr (nx h 1) 0) (.int .i64 0) = some (.ptr (nx h 1) 0) := ix_25 (i := 0) (by decide)
    have hi1 : indexAddrE Tryd.prog 25 (.ptr (nx h 1) 0) (.int .i64 1) = some (.ptr (nx h 1) 1) := ix_25 (i := 1) (by decide)
    have hr0 : ∀ (x y : Operand), binE Tryd.prog .rem 5 x y (u8 q0) (.int .u8 5) = some (u8 (q0.tmod 5)) := fun x y => b_rem5
    have hr1 : ∀ (x y : Operand), binE Tryd.prog .rem 5 x y (u8 q1) (.int .u8 5) = some (u8 (q1.tmod 5)) := fun x y => b_rem5
    have hm0 : 0 ≤ q0.tmod 5 ∧ q0.tmod 5 ≤ 4 := by rw [Int.tmod_eq_emod_of_nonneg hq0.1]; omega
    have hm1 : 0 ≤ q1.tmod 5 ∧ q1.tmod 5 ≤ 4 := by rw [Int.tmod_eq_emod_of_nonneg hq1.1]; omega
    generalize q0.tmod 5 = r0 at *
    generalize q1.tmod 5 = r1 at *
    have hc0 : convE Tryd.prog 5 2 (u8 r0) = some (ii r0) := by rw [c_int un_5 un_2, wrap_in _ (by omega) (by omega)]
    have hc1 : convE Tryd.prog 5 2 (u8 r1) = some (ii r1) := by rw [c_int un_5 un_2, wrap_in _ (by omega) (by omega)]
    have hst : ∀ w, writeCells (nx h (L1.length + 1 + 1 + 1)) (k * 2) [ii ((spot sp k).1 - r0), ii ((spot sp k).2 + r1)] (X h (.cells (mkCells [a, ii turn]) 24 :: .cells (mkCells [u8 q0, u8 q1]) 25 :: (L1 ++ [.cells (mkCells []) 35, .cells (mkCells (spotCells sp)) 35, .cells (mkCells [.sl (nx h (L1.length + 1 + 1 + 1)) 0 sp.length none 2, ii turn]) 24])) w) =
        some (X h (.cells (mkCells [a, ii turn]) 24 :: .cells (mkCells [u8 q0, u8 q1]) 25 :: (L1 ++ [.cells (mkCells []) 35, .cells (mkCells (spotCells (sp.set k ((spot sp k).1 - r0, (spot sp k).2 + r1)))) 35, .cells (mkCells [.sl (nx h (L1.length + 1 + 1 + 1)) 0 sp.length none 2, ii turn]) 24])) (min (h.clock + (L1.length + 1 + 1 + 1)) w)) := fun w => by
      rw [writeCells_X wf]
      simp only [List.getElem?_cons_succ, app_len, List.getElem?_cons_zero]
      rw [writeAt_cells, if_pos (by rw [pairCells_length, List.length_cons, List.length_cons, List.length_nil]; omega), pairCells_set _ _ _ _ hk]
      simp only [List.set_cons_succ, set_app_len, List.set_cons_zero]
      rfl
    (repeat' (first
  | (with_reducible first | refine WC_seq ?_ | refine WC_skip ?_ | refine WC_label ?_ | refine WC_scope ?_ | refine WC_block ?_ | refine WC_ret ?_ | refine WC_exit ?_ | refine seqQ_norm ?_ | refine seqQ_ret ?_ | refine seqQ_exit ?_ | refine blkQ_norm ?_ | refine blkQ_ret ?_ | refine blkQ_here ?_ | refine gateK_yes ?_ | refine gateK_none ?_ | refine condK_tt ?_ | refine condK_ff ?_ | refine roundQ_exit ?_ | refine roundQ_ret ?_)
  | refine WC_region ?_ | refine blkQ_out rfl ?_ | refine WO_nil ?_ | refine WD_nil ?_
  | ((first | refine WD_gate rfl rfl rfl rfl rfl fun K_ hK_ => ?_ | refine WO_gate rfl rfl rfl rfl rfl fun K_ hK_ => ?_); simp only [upd_apply, asB_bool, asB_tup, ↓reduceIte, reduceCtorEq, Nat.reduceEqDiff, Bool.not_true, Bool.not_false]; refine hK_ _ ?_; clear hK_ K_)
  | refine gateK_no (by decide) ?_
  | ((try first | refine WO_op rfl rfl rfl ?_ | refine WO_op0 rfl rfl ?_ | refine WD_op rfl rfl rfl ?_ | refine WD_op0 rfl rfl ?_); (refine WV_gen fun Q_ hQ_ => ?_; simp (disch := first | omega | (simp only [List.length_cons, List.length_nil, List.length_append]; omega)) only [bb, bp, argF, ↓reduceIte, reduceCtorEq, Nat.reduceEqDiff, Nat.reduceLT, Nat.reduceLeDiff, Nat.reduceAdd, Nat.reduceMul, Nat.reduceSub, Nat.reduceBEq, Int.reduceToNat, cond_true, cond_false, eq_self, beq_self_eq_true, hlx, hrem, hcv, newPtr_X wf, load1_X wf, loadAgg_X wf, store1_X wf, writeCells_X wf, tEvbV4, bsl_30, bsl_22, newSlice_X wf]; first | (refine dec_split (Q := Q_) (fun hp_ => ?_) (fun hp_ => ?_) <;> first | (exfalso; omega) | (refine hQ_ _ _ ?_; clear hQ_ Q_)) | (refine dec_splitn (Q := Q_) (fun hp_ => ?_) (fun hp_ => ?_) <;> first | (exfalso; omega) | (refine hQ_ _ _ ?_; clear hQ_ Q_)) | (refine hQ_ _ _ ?_; clear hQ_ Q_)))
  | (refine WC_cond fun K_ hK_ => ?_; simp (disch := omega) only [evT_tmp, upd_apply, WB_some, ↓reduceIte, reduceCtorEq, Nat.reduceEqDiff, Nat.reduceLT]; refine hK_ _ ?_; clear hK_ K_)))
    refine WC_drawnB [.no, .no, .no, .no, .no, .no, .no, .no, .no, .no, .no, .no, .no, .no, .no, .no, .no, .no, .no, .no, .no, .no, .no, .no, .no, .no, .full, .full] (by kernel_rfl) ?_
    (repeat' (first
  | (with_reducible first | refine WC_seq ?_ | refine WC_skip ?_ | refine WC_label ?_ | refine WC_scope ?_ | refine WC_block ?_ | refine WC_ret ?_ | refine WC_exit ?_ | refine seqQ_norm ?_ | refine seqQ_ret ?_ | refine seqQ_exit ?_ | refine blkQ_norm ?_ | refine blkQ_ret ?_ | refine blkQ_here ?_ | refine gateK_yes ?_ | refine gateK_none ?_ | refine condK_tt ?_ | refine condK_ff ?_ | refine roundQ_exit ?_ | refine roundQ_ret ?_)
  | refine WC_region ?_ | refine blkQ_out rfl ?_ | refine WO_nil ?_ | refine WD_nil ?_
  | ((first | refine WD_gate rfl rfl rfl rfl rfl fun K_ hK_ => ?_ | refine WO_gate rfl rfl rfl rfl rfl fun K_ hK_ => ?_); simp only [upd_apply, asB_bool, asB_tup, ↓reduceIte, reduceCtorEq, Nat.reduceEqDiff, Bool.not_true, Bool.not_false]; refine hK_ _ ?_; clear hK_ K_)
  | refine gateK_no (by decide) ?_
  | ((try first | refine WO_op rfl rfl rfl ?_ | refine WO_op0 rfl rfl ?_ | refine WD_op rfl rfl rfl ?_ | refine WD_op0 rfl rfl ?_); (refine WV_gen fun Q_ hQ_ => ?_; simp (disch := first | omega | (simp only [List.length_cons, List.length_nil, List.length_append]; omega)) only [bb, bp, argF, ↓reduceIte, reduceCtorEq, Nat.reduceEqDiff, Nat.reduceLT, Nat.reduceLeDiff, Nat.reduceAdd, Nat.reduceMul, Nat.reduceSub, Nat.reduceBEq, Int.reduceToNat, cond_true, cond_false, eq_self, beq_self_eq_true, hlx, hix, hsg0, hsg1, hi0, hi1, hr0, hr1, hc0, hc1, hst, newPtr_X wf, load1_X wf, loadAgg_X wf, store1_X wf, tEvbV4, bsl_30, bsl_22, newSlice_X wf]; first | (refine dec_split (Q := Q_) (fun hp_ => ?_) (fun hp_ => ?_) <;> first | (exfalso; omega) | (refine hQ_ _ _ ?_; clear hQ_ Q_)) | (refine dec_splitn (Q := Q_) (fun hp_ => ?_) (fun hp_ => ?_) <;> first | (exfalso; omega) | (refine hQ_ _ _ ?_; clear hQ_ Q_)) | (refine hQ_ _ _ ?_; clear hQ_ Q_)))
  | (refine WC_cond fun K_ hK_ => ?_; simp (disch := omega) only [evT_tmp, upd_apply, WB_some, ↓reduceIte, reduceCtorEq, Nat.reduceEqDiff, Nat.reduceLT]; refine hK_ _ ?_; clear hK_ K_)))
    have hwi : Within sp (sp.set k ((spot sp k).1 - r0, (spot sp k).2 + r1)) := Within.set sp k _ (fun r hr => by
      rw [List.getElem?_eq_getElem hk, spot_get hk] at hr
      cases hr; exact ⟨by show (spot sp k).1 - r0 ≤ _; omega, by show _ ≤ (spot sp k).2 + r1; omega⟩)
    have hl' : (sp.set k ((spot sp k).1 - r0, (spot sp k).2 + r1)).length = sp.length := List.length_set
    generalize sp.set k ((spot sp k).1 - r0, (spot sp k).2 + r1) = sp' at *
    have hsx : ∀ w, Sl (X h (.cells (mkCells [a, ii turn]) 24 :: .cells (mkCells [u8 q0, u8 q1]) 25 :: (L1 ++ [.cells (mkCells []) 35, .cells (mkCells (spotCells sp')) 35, .cells (mkCells [.sl (nx h (L1.length + 1 + 1 + 1)) 0 sp.length none 2, ii turn]) 24])) w) (.sl (nx h (L1.length + 1 + 1 + 1)) 0 sp.length none 2) 2 sp'.length (spotCells sp') := fun w => by
      rw [hl']
      exact slMade wf (by simp only [List.getElem?_cons_succ, app_len, List.getElem?_cons_zero]) (by rw [pairCells_length, hl']) w
    have hfx : (om Tryd.prog KK).call (.fn 7 [.agg [.sl (nx h (L1.length + 1 + 1 + 1)) 0 sp.length none 2, ii turn]]) (X h (.cells (mkCells [a, ii turn]) 24 :: .cells (mkCells [u8 q0, u8 q1]) 25 :: (L1 ++ [.cells (mkCells []) 35, .cells (mkCells (spotCells sp')) 35, .cells (mkCells [.sl (nx h (L1.length + 1 + 1 + 1)) 0 sp.length none 2, ii turn]) 24])) h.clock) = .ok (.bool (decide (spotsR sp' turn = 0))) (X h (.cells (mkCells [a, ii turn]) 24 :: .cells (mkCells [u8 q0, u8 q1]) 25 :: (L1 ++ [.cells (mkCells []) 35, .cells (mkCells (spotCells sp')) 35, .cells (mkCells [.sl (nx h (L1.length + 1 + 1 + 1)) 0 sp.length none 2, ii turn]) 24])) h.clock) :=
      fineSpots sp' turn _ _ (wf.X (by omega)) (hsx _)
    have hF := fairL_spec (turn := payI turn) (sp := sp) (fun r hr => (hok r hr).2.2.1) (fun e => by rw [e] at n1; simp at n1)
    have hgreat : 0 ≤ max 0 (turn - less) ∧ max 0 (turn - less) ≤ turn := by omega
    have hFt := fairL_spec (turn := payI (max 0 (turn - less))) (sp := sp) (fun r hr => (hok r hr).2.2.1) (fun e => by rw [e] at n1; simp at n1)
    have hFz := fairL_spec (turn := payI 0) (sp := sp) (fun r hr => (hok r hr).2.2.1) (fun e => by rw [e] at n1; simp at n1)
    have hle1 := fair_turn hF hFt hgreat.2
    have hle2 := fair_turn hFt hFz hgreat.1
    have hvt : spotsR sp (max 0 (turn - less)) = 0 := spotsR_of n1 n24 hok (by omega)
    have hvz : spotsR sp 0 = 0 := spotsR_of n1 n24 hok (by omega)
    have hln : InR sp (lineB sp bs sp.length) := lineB_in bs (fun r hr => (hok r hr).2.2.1)
    have hmz := hFz.least _ hln
    rw [← cost_meas, Int.zero_mul, Int.add_zero] at hmz
    have hcz := hFz.cost
    rw [← cost_meas, Int.zero_mul, Int.add_zero] at hcz
    have hmr : ∀ l : List Int, InR sp l → measR l = ((measOf l).1, (measOf l).2, 0) := fun l hi => by
      have := hi.length
      unfold measR
      rw [if_neg (by omega), if_pos (InR.off hok hi)]
    have tail : ∀ R : List AO, ∃ (L4 : List AO) (lv4 : AV) (L5 : List AO) (lv5 : AV) (M6 : List AO) (lv6 : AV),
        (om Tryd.prog KK).call (.fn 9 [.agg [a, ii (max 0 (turn - less))]]) (X h (R ++ [.cells (mkCells [a, ii (max 0 (turn - less))]) 24]) h.clock) = .ok (.tup [lv4, ii (fairL (payI (max 0 (turn - less))) sp).2, ii 0]) (X h (R ++ [.cells (mkCells [a, ii (max 0 (turn - less))]) 24] ++ L4) h.clock) ∧ (AV.cells lv4 = [lv4] ∧ oneB lv4 = true) ∧
        (om Tryd.prog KK).call (.fn 9 [.agg [a, ii 0]]) (X h (R ++ [.cells (mkCells [a, ii (max 0 (turn - less))]) 24] ++ L4) h.clock) = .ok (.tup [lv5, ii (fairL (payI 0) sp).2, ii 0]) (X h (R ++ [.cells (mkCells [a, ii (max 0 (turn - less))]) 24] ++ L4 ++ L5) h.clock) ∧ (AV.cells lv5 = [lv5] ∧ oneB lv5 = true) ∧
        (om Tryd.prog KK).call (.fn 10 [lv5]) (X h (R ++ [.cells (mkCells [a, ii (max 0 (turn - less))]) 24] ++ L4 ++ L5) h.clock) = .ok (.tup [ii (measOf (fairL (payI 0) sp).1).1, ii (fairL (payI 0) sp).2, ii 0]) (X h (R ++ [.cells (mkCells [a, ii (max 0 (turn - less))]) 24] ++ L4 ++ L5) h.clock) ∧
        (om Tryd.prog KK).call (.fn 11 [.agg [a, ii turn], b]) (X h (R ++ [.cells (mkCells [a, ii (max 0 (turn - less))]) 24] ++ L4 ++ L5) h.clock) = .ok lv6 (X h (R ++ [.cells (mkCells [a, ii (max 0 (turn - less))]) 24] ++ L4 ++ L5 ++ M6) h.clock) ∧ (AV.cells lv6 = [lv6] ∧ oneB lv6 = true) ∧
        (om Tryd.prog KK).call (.fn 10 [lv6]) (X h (R ++ [.cells (mkCells [a, ii (max 0 (turn - less))]) 24] ++ L4 ++ L5 ++ M6) h.clock) = .ok (.tup [ii (measOf (lineB sp bs sp.length)).1, ii (measOf (lineB sp bs sp.length)).2, ii 0]) (X h (R ++ [.cells (mkCells [a, ii (max 0 (turn - less))]) 24] ++ L4 ++ L5 ++ M6) h.clock) := fun R => by
      generalize R ++ [AO.cells (mkCells [a, ii (max 0 (turn - less))]) 24] = R0
      obtain ⟨v4, h4, e4, L4, lv4, rfl, rfl, hlv4⟩ := fairestAll sp _ hvt a (X h R0 h.clock) (wf.X (by omega)) (t.up wf _ _) (hs.up wf _ _)
      rw [X_X, X_w] at e4
      obtain ⟨v5, h5, e5, L5, lv5, rfl, rfl, hlv5⟩ := fairestAll sp 0 hvz a (X h (R0 ++ L4) h.clock) (wf.X (by omega)) (t.up wf _ _) (hs.up wf _ _)
      rw [X_X, X_w] at e5
      obtain ⟨lv6, h6, e6, M6, rfl, hlv6⟩ := Line sp (by omega) n24 hok bs h40 hb8 a turn b (X h (R0 ++ L4 ++ L5) h.clock) (wf.X (by omega)) (hs.up wf _ _) (hb.up wf _ _)
      rw [X_X, X_w] at e6
      have capu : ∀ {L : List AO} {lv : AV} {cs : List AV}, LineV h L 2 lv cs → CapU 1 lv := fun x => by
        obtain ⟨_, c, rfl, _, hc⟩ := x
        rcases hc with rfl | rfl
        · exact capu_none
        · exact capu_some (Nat.le_refl _)
      have m5 := Measure (fairL (payI 0) sp).1 lv5 (by have := hFz.within.length; omega) (capu hlv5.down) (X h (R0 ++ L4 ++ L5) h.clock) (wf.X (by omega)) (by have := hlv5.down.sl wf h.clock; rwa [List.length_map] at this)
      rw [hmr _ hFz.within] at m5
      dsimp only at m5
      rw [hcz] at m5
      have m6 := Measure (lineB sp bs sp.length) lv6 (by have := hln.length; omega) (capu hlv6.down) (X h (R0 ++ L4 ++ L5 ++ M6) h.clock) (wf.X (by omega)) (by have := hlv6.down.sl wf h.clock; rwa [List.length_map] at this)
      rw [hmr _ hln] at m6
      exact ⟨L4, lv4, L5, lv5, M6, lv6, e4, hlv4.flat, e5, hlv5.flat, m5, e6, hlv6.flat, m6⟩
    have hcu : convE Tryd.prog 26 2 (.int .u32 less) = some (ii less) := by rw [c_int un_26 un_2, wrap_in _ (by omega) (by omega)]
    have hbz : bs.length ≤ 40 := h40
    by_cases hsv : spotsR sp' turn = 0
    · rw [decide_eq_true hsv] at hfx
      obtain ⟨p1, p24, hok', _⟩ := spotsR_ok hsv
      obtain ⟨v3, h3, e3, L3, lv3, rfl, rfl, hlv3⟩ := fairestAll sp' turn hsv _ _ (wf.X (by omega)) (t.up wf _ _) (hsx h.clock)
      rw [X_X, X_w] at e3
      have hF' := fairL_spec (turn := payI turn) (sp := sp') (fun r hr => (hok' r hr).2.2.1) (fun e => by rw [e] at p1; simp at p1)
      have hle3 := fair_wider hF hF' hwi
      obtain ⟨L4, lv4, L5, lv5, M6, lv6, e4, f4, e5, f5, em5, e6, f6, em6⟩ := tail ([.cells (mkCells [a, ii turn]) 24, .cells (mkCells [u8 q0, u8 q1]) 25] ++ (L1 ++ [.cells (mkCells []) 35, .cells (mkCells (spotCells sp')) 35, .cells (mkCells [.sl (nx h (L1.length + 1 + 1 + 1)) 0 sp.length none 2, ii turn]) 24]) ++ L3)
      simp only [List.cons_append, List.nil_append, List.append_assoc] at e3 e4 e5 em5 e6 em6
      (repeat' (first
  | (with_reducible first | refine WC_seq ?_ | refine WC_skip ?_ | refine WC_label ?_ | refine WC_scope ?_ | refine WC_block ?_ | refine WC_ret ?_ | refine WC_exit ?_ | refine seqQ_norm ?_ | refine seqQ_ret ?_ | refine seqQ_exit ?_ | refine blkQ_norm ?_ | refine blkQ_ret ?_ | refine blkQ_here ?_ | refine gateK_yes ?_ | refine gateK_none ?_ | refine condK_tt ?_ | refine condK_ff ?_ | refine roundQ_exit ?_ | refine roundQ_ret ?_)
  | refine WC_region ?_ | refine blkQ_out rfl ?_ | refine WO_nil ?_ | refine WD_nil ?_
  | ((first | refine WD_gate rfl rfl rfl rfl rfl fun K_ hK_ => ?_ | refine WO_gate rfl rfl rfl rfl rfl fun K_ hK_ => ?_); simp only [upd_apply, asB_bool, asB_tup, ↓reduceIte, reduceCtorEq, Nat.reduceEqDiff, Bool.not_true, Bool.not_false]; refine hK_ _ ?_; clear hK_ K_)
  | refine gateK_no (by decide) ?_
  | ((try first | refine WO_op rfl rfl rfl ?_ | refine WO_op0 rfl rfl ?_ | refine WD_op rfl rfl rfl ?_ | refine WD_op0 rfl rfl ?_); (refine WV_gen fun Q_ hQ_ => ?_; simp (disch := first | omega | (simp only [List.length_cons, List.length_nil, List.length_append]; omega)) only [bb, bp, argF, ↓reduceIte, reduceCtorEq, Nat.reduceEqDiff, Nat.reduceLT, Nat.reduceLeDiff, Nat.reduceAdd, Nat.reduceMul, Nat.reduceSub, Nat.reduceBEq, Int.reduceToNat, cond_true, cond_false, eq_self, beq_self_eq_true, hfx, e3, hlv3.flat.1, hlv3.flat.2, hcu, e4, f4.1, f4.2, e5, f5.1, f5.2, em5, e6, f6.1, f6.2, em6, works', ha1.1, ha1.2, newPtr_X wf, load1_X wf, loadAgg_X wf, store1_X wf, writeCells_X wf, tEvbV4, bsl_30, bsl_22, newSlice_X wf]; first | (refine dec_split (Q := Q_) (fun hp_ => ?_) (fun hp_ => ?_) <;> first | (exfalso; omega) | (refine hQ_ _ _ ?_; clear hQ_ Q_)) | (refine dec_splitn (Q := Q_) (fun hp_ => ?_) (fun hp_ => ?_) <;> first | (exfalso; omega) | (refine hQ_ _ _ ?_; clear hQ_ Q_)) | (refine hQ_ _ _ ?_; clear hQ_ Q_)))
  | (refine WC_cond fun K_ hK_ => ?_; simp (disch := omega) only [evT_tmp, upd_apply, WB_some, ↓reduceIte, reduceCtorEq, Nat.reduceEqDiff, Nat.reduceLT]; refine hK_ _ ?_; clear hK_ K_)))
      (refine endQ_ret _ _ rfl (ret1 (by decide)) ?_; simp only [upd_apply, ↓reduceIte, reduceCtorEq, Nat.reduceEqDiff]; refine WV_flat rfl (by omega) ?_)
      exact ⟨rfl, rfl⟩
    · rw [decide_eq_false hsv] at hfx
      obtain ⟨L4, lv4, L5, lv5, M6, lv6, e4, f4, e5, f5, em5, e6, f6, em6⟩ := tail ([.cells (mkCells [a, ii turn]) 24, .cells (mkCells [u8 q0, u8 q1]) 25] ++ (L1 ++ [.cells (mkCells []) 35, .cells (mkCells (spotCells sp')) 35, .cells (mkCells [.sl (nx h (L1.length + 1 + 1 + 1)) 0 sp.length none 2, ii turn]) 24]))
      simp only [List.cons_append, List.nil_append, List.append_assoc] at e4 e5 em5 e6 em6
      (repeat' (first
  | (with_reducible first | refine WC_seq ?_ | refine WC_skip ?_ | refine WC_label ?_ | refine WC_scope ?_ | refine WC_block ?_ | refine WC_ret ?_ | refine WC_exit ?_ | refine seqQ_norm ?_ | refine seqQ_ret ?_ | refine seqQ_exit ?_ | refine blkQ_norm ?_ | refine blkQ_ret ?_ | refine blkQ_here ?_ | refine gateK_yes ?_ | refine gateK_none ?_ | refine condK_tt ?_ | refine condK_ff ?_ | refine roundQ_exit ?_ | refine roundQ_ret ?_)
  | refine WC_region ?_ | refine blkQ_out rfl ?_ | refine WO_nil ?_ | refine WD_nil ?_
  | ((first | refine WD_gate rfl rfl rfl rfl rfl fun K_ hK_ => ?_ | refine WO_gate rfl rfl rfl rfl rfl fun K_ hK_ => ?_); simp only [upd_apply, asB_bool, asB_tup, ↓reduceIte, reduceCtorEq, Nat.reduceEqDiff, Bool.not_true, Bool.not_false]; refine hK_ _ ?_; clear hK_ K_)
  | refine gateK_no (by decide) ?_
  | ((try first | refine WO_op rfl rfl rfl ?_ | refine WO_op0 rfl rfl ?_ | refine WD_op rfl rfl rfl ?_ | refine WD_op0 rfl rfl ?_); (refine WV_gen fun Q_ hQ_ => ?_; simp (disch := first | omega | (simp only [List.length_cons, List.length_nil, List.length_append]; omega)) only [bb, bp, argF, ↓reduceIte, reduceCtorEq, Nat.reduceEqDiff, Nat.reduceLT, Nat.reduceLeDiff, Nat.reduceAdd, Nat.reduceMul, Nat.reduceSub, Nat.reduceBEq, Int.reduceToNat, cond_true, cond_false, eq_self, beq_self_eq_true, hfx, hcu, e4, f4.1, f4.2, e5, f5.1, f5.2, em5, e6, f6.1, f6.2, em6, works', ha1.1, ha1.2, newPtr_X wf, load1_X wf, loadAgg_X wf, store1_X wf, writeCells_X wf, tEvbV4, bsl_30, bsl_22, newSlice_X wf]; first | (refine dec_split (Q := Q_) (fun hp_ => ?_) (fun hp_ => ?_) <;> first | (exfalso; omega) | (refine hQ_ _ _ ?_; clear hQ_ Q_)) | (refine dec_splitn (Q := Q_) (fun hp_ => ?_) (fun hp_ => ?_) <;> first | (exfalso; omega) | (refine hQ_ _ _ ?_; clear hQ_ Q_)) | (refine hQ_ _ _ ?_; clear hQ_ Q_)))
  | (refine WC_cond fun K_ hK_ => ?_; simp (disch := omega) only [evT_tmp, upd_apply, WB_some, ↓reduceIte, reduceCtorEq, Nat.reduceEqDiff, Nat.reduceLT]; refine hK_ _ ?_; clear hK_ K_)))
      (refine endQ_ret _ _ rfl (ret1 (by decide)) ?_; simp only [upd_apply, ↓reduceIte, reduceCtorEq, Nat.reduceEqDiff]; refine WV_flat rfl (by omega) ?_)
      exact ⟨rfl, rfl⟩
  · refine WV_to (WV_call (fn := Tryd.f3) Tryd.func3 rfl rfl rfl rfl rfl ?_)
    simp only [argF]
    by_cases hs0 : spotsR sp turn = 0
    · rw [decide_eq_true hs0] at hfine
      (repeat' (first
  | (with_reducible first | refine WC_seq ?_ | refine WC_skip ?_ | refine WC_label ?_ | refine WC_scope ?_ | refine WC_block ?_ | refine WC_ret ?_ | refine WC_exit ?_ | refine seqQ_norm ?_ | refine seqQ_ret ?_ | refine seqQ_exit ?_ | refine blkQ_norm ?_ | refine blkQ_ret ?_ | refine blkQ_here ?_ | refine gateK_yes ?_ | refine gateK_none ?_ | refine condK_tt ?_ | refine condK_ff ?_ | refine roundQ_exit ?_ | refine roundQ_ret ?_)
  | refine WC_region ?_ | refine blkQ_out rfl ?_ | refine WO_nil ?_ | refine WD_nil ?_
  | ((first | refine WD_gate rfl rfl rfl rfl rfl fun K_ hK_ => ?_ | refine WO_gate rfl rfl rfl rfl rfl fun K_ hK_ => ?_); simp only [upd_apply, asB_bool, asB_tup, ↓reduceIte, reduceCtorEq, Nat.reduceEqDiff, Bool.not_true, Bool.not_false]; refine hK_ _ ?_; clear hK_ K_)
  | refine gateK_no (by decide) ?_
  | ((try first | refine WO_op rfl rfl rfl ?_ | refine WO_op0 rfl rfl ?_ | refine WD_op rfl rfl rfl ?_ | refine WD_op0 rfl rfl ?_); (refine WV_gen fun Q_ hQ_ => ?_; simp (disch := first | omega | (simp only [List.length_cons, List.length_nil, List.length_append]; omega)) only [bb, bp, argF, ↓reduceIte, reduceCtorEq, Nat.reduceEqDiff, Nat.reduceLT, Nat.reduceLeDiff, Nat.reduceAdd, Nat.reduceMul, Nat.reduceSub, Nat.reduceBEq, Int.reduceToNat, cond_true, cond_false, eq_self, beq_self_eq_true, hfine, hlen, hlb, works', ha1.1, ha1.2, newPtr_X wf, load1_X wf, loadAgg_X wf, store1_X wf, writeCells_X wf, tEvbV4, bsl_30, bsl_22, newSlice_X wf]; first | (refine dec_split (Q := Q_) (fun hp_ => ?_) (fun hp_ => ?_) <;> first | (exfalso; omega) | (refine hQ_ _ _ ?_; clear hQ_ Q_)) | (refine dec_splitn (Q := Q_) (fun hp_ => ?_) (fun hp_ => ?_) <;> first | (exfalso; omega) | (refine hQ_ _ _ ?_; clear hQ_ Q_)) | (refine hQ_ _ _ ?_; clear hQ_ Q_)))
  | (refine WC_cond fun K_ hK_ => ?_; simp (disch := omega) only [evT_tmp, upd_apply, WB_some, ↓reduceIte, reduceCtorEq, Nat.reduceEqDiff, Nat.reduceLT]; refine hK_ _ ?_; clear hK_ K_)))
      all_goals first | (exfalso; omega) | skip
      all_goals (refine endQ_ret _ _ rfl (ret1 (by decide)) ?_; simp only [upd_apply, ↓reduceIte, reduceCtorEq, Nat.reduceEqDiff]; refine WV_flat rfl (by omega) ?_)
      all_goals exact ⟨rfl, rfl⟩
    · rw [decide_eq_false hs0] at hfine
      (repeat' (first
  | (with_reducible first | refine WC_seq ?_ | refine WC_skip ?_ | refine WC_label ?_ | refine WC_scope ?_ | refine WC_block ?_ | refine WC_ret ?_ | refine WC_exit ?_ | refine seqQ_norm ?_ | refine seqQ_ret ?_ | refine seqQ_exit ?_ | refine blkQ_norm ?_ | refine blkQ_ret ?_ | refine blkQ_here ?_ | refine gateK_yes ?_ | refine gateK_none ?_ | refine condK_tt ?_ | refine condK_ff ?_ | refine roundQ_exit ?_ | refine roundQ_ret ?_)
  | refine WC_region ?_ | refine blkQ_out rfl ?_ | refine WO_nil ?_ | refine WD_nil ?_
  | ((first | refine WD_gate rfl rfl rfl rfl rfl fun K_ hK_ => ?_ | refine WO_gate rfl rfl rfl rfl rfl fun K_ hK_ => ?_); simp only [upd_apply, asB_bool, asB_tup, ↓reduceIte, reduceCtorEq, Nat.reduceEqDiff, Bool.not_true, Bool.not_false]; refine hK_ _ ?_; clear hK_ K_)
  | refine gateK_no (by decide) ?_
  | ((try first | refine WO_op rfl rfl rfl ?_ | refine WO_op0 rfl rfl ?_ | refine WD_op rfl rfl rfl ?_ | refine WD_op0 rfl rfl ?_); (refine WV_gen fun Q_ hQ_ => ?_; simp (disch := first | omega | (simp only [List.length_cons, List.length_nil, List.length_append]; omega)) only [bb, bp, argF, ↓reduceIte, reduceCtorEq, Nat.reduceEqDiff, Nat.reduceLT, Nat.reduceLeDiff, Nat.reduceAdd, Nat.reduceMul, Nat.reduceSub, Nat.reduceBEq, Int.reduceToNat, cond_true, cond_false, eq_self, beq_self_eq_true, hfine, hlen, hlb, works', ha1.1, ha1.2, newPtr_X wf, load1_X wf, loadAgg_X wf, store1_X wf, writeCells_X wf, tEvbV4, bsl_30, bsl_22, newSlice_X wf]; first | (refine dec_split (Q := Q_) (fun hp_ => ?_) (fun hp_ => ?_) <;> first | (exfalso; omega) | (refine hQ_ _ _ ?_; clear hQ_ Q_)) | (refine dec_splitn (Q := Q_) (fun hp_ => ?_) (fun hp_ => ?_) <;> first | (exfalso; omega) | (refine hQ_ _ _ ?_; clear hQ_ Q_)) | (refine hQ_ _ _ ?_; clear hQ_ Q_)))
  | (refine WC_cond fun K_ hK_ => ?_; simp (disch := omega) only [evT_tmp, upd_apply, WB_some, ↓reduceIte, reduceCtorEq, Nat.reduceEqDiff, Nat.reduceLT]; refine hK_ _ ?_; clear hK_ K_)))
      (refine endQ_ret _ _ rfl (ret1 (by decide)) ?_; simp only [upd_apply, ↓reduceIte, reduceCtorEq, Nat.reduceEqDiff]; refine WV_flat rfl (by omega) ?_)
      exact ⟨rfl, rfl⟩
end Go.Proofs.YtkmdidplmfdikabDoor
end

/- EvbX0 -/
section
/-
  The program's orders are mixed: what every run asks.
-/
namespace Go.Proofs.YtkmdidplmfdikabDoor
open Go.Ev
theorem mixed : Tryd.prog.follows .mixedOrders = true := Checked.mixed Tryd.checked
theorem con_alone {n : Nat} {c : Con} (h : chk c ((evc Tryd.prog [] n).call (.fn c.g c.args) (smallH c.tb)) = true) : ConOK Tryd.prog c :=
  con_run (P := Tryd.prog) mixed (cons := []) (fun _ h => by cases h) (n := n) (c := c) h
end Go.Proofs.YtkmdidplmfdikabDoor
end

/- EvbXcS0 -/
section
/-
  WHAT A CALL OF THE PROGRAM COMES TO IN A SMALL MEMORY: run by the kernel.
-/

namespace Go.Proofs.YtkmdidplmfdikabDoor
open Go.Ev
noncomputable def cS0 : Con := ⟨13, [(.agg [(.sl (.i (.o (.o (.o (.o (.o .e)))))) 0 5 (some 5) 2), (.int .i64 100)]), (.int .i64 0)], [(.e, [(.int .i64 1099511627776), (.int .i64 1099511627776), (.int .i64 1099511627776)]), ((.i (.o (.o (.o (.o (.o .e)))))), [(.int .i64 0), (.int .i64 0), (.int .i64 2), (.int .i64 3), (.int .i64 4), (.int .i64 4), (.int .i64 5), (.int .i64 7), (.int .i64 10), (.int .i64 10)])], (.tup [(.sl (.o (.o (.i (.o (.o (.o (.o .e))))))) 0 5 none 2), (.int .i64 0)]), [((.o (.o (.i (.o (.o (.o (.o .e))))))), [(.int .i64 0), (.int .i64 0), (.int .i64 2), (.int .i64 2), (.int .i64 4), (.int .i64 4), (.int .i64 6), (.int .i64 7), (.int .i64 10), (.int .i64 10)], 35)]⟩
set_option maxRecDepth 100000
set_option maxHeartbeats 0
theorem cS0_run : chk cS0 ((evc Tryd.prog [] 100000).call (.fn cS0.g cS0.args) (smallH cS0.tb)) = true := by kernel_rfl
theorem cS0_ok : ConOK Tryd.prog cS0 := con_alone (n := 100000) (c := cS0) cS0_run
end Go.Proofs.YtkmdidplmfdikabDoor
end

/- EvbXcF1 -/
section
/-
  WHAT A CALL OF THE PROGRAM COMES TO IN A SMALL MEMORY: run by the kernel.
-/

namespace Go.Proofs.YtkmdidplmfdikabDoor
open Go.Ev
noncomputable def cF1 : Con := ⟨9, [(.agg [(.sl (.i (.o (.o (.o (.o (.o .e)))))) 0 5 (some 5) 2), (.int .i64 100)])], [(.e, [(.int .i64 1099511627776), (.int .i64 1099511627776), (.int .i64 1099511627776)]), ((.i (.o (.o (.o (.o (.o .e)))))), [(.int .i64 0), (.int .i64 0), (.int .i64 2), (.int .i64 3), (.int .i64 4), (.int .i64 4), (.int .i64 5), (.int .i64 7), (.int .i64 10), (.int .i64 10)])], (.tup [(.sl (.i (.o (.o (.o (.o (.i (.o (.i .e)))))))) 0 5 none 1), (.int .i64 1), (.int .i64 0)]), [((.i (.o (.o (.o (.o (.i (.o (.i .e)))))))), [(.int .i64 0), (.int .i64 2), (.int .i64 4), (.int .i64 7), (.int .i64 10)], 2)]⟩
set_option maxRecDepth 100000
set_option maxHeartbeats 0
theorem cF1_run : chk cF1 ((evc Tryd.prog [] 100000).call (.fn cF1.g cF1.args) (smallH cF1.tb)) = true := by kernel_rfl
theorem cF1_ok : ConOK Tryd.prog cF1 := con_alone (n := 100000) (c := cF1) cF1_run
end Go.Proofs.YtkmdidplmfdikabDoor
end

/- EvbXcL -/
section
/-
  WHAT A CALL OF THE PROGRAM COMES TO IN A SMALL MEMORY: run by the kernel.
-/

namespace Go.Proofs.YtkmdidplmfdikabDoor
open Go.Ev
noncomputable def cL : Con := ⟨19, [(.agg [(.sl (.i (.o (.o (.o (.o (.o .e)))))) 0 5 (some 5) 2), (.int .i64 100)])], [(.e, [(.int .i64 1099511627776), (.int .i64 1099511627776), (.int .i64 1099511627776)]), ((.i (.o (.o (.o (.o (.o .e)))))), [(.int .i64 0), (.int .i64 0), (.int .i64 2), (.int .i64 3), (.int .i64 4), (.int .i64 4), (.int .i64 5), (.int .i64 7), (.int .i64 10), (.int .i64 10)])], (.tup [(.sl (.i (.i (.o (.i (.i (.i (.i (.i .e)))))))) 0 30 none 1), (.int .i64 0)]), [((.i (.i (.o (.i (.i (.i (.i (.i .e)))))))), [(.int .i64 0), (.int .i64 1099511627776), (.int .i64 1099511627776), (.int .i64 0), (.int .i64 1099511627776), (.int .i64 1099511627776), (.int .i64 0), (.int .i64 1099511627776), (.int .i64 1099511627776), (.int .i64 1099511627776), (.int .i64 1099511627776), (.int .i64 2), (.int .i64 1099511627776), (.int .i64 1099511627776), (.int .i64 1), (.int .i64 0), (.int .i64 103), (.int .i64 1099511627776), (.int .i64 1099511627776), (.int .i64 1), (.int .i64 1099511627776), (.int .i64 1099511627776), (.int .i64 105), (.int .i64 1099511627776), (.int .i64 1099511627776), (.int .i64 2), (.int .i64 1099511627776), (.int .i64 1099511627776), (.int .i64 1), (.int .i64 1099511627776)], 2)]⟩
set_option maxRecDepth 100000
set_option maxHeartbeats 0
theorem cL_run : chk cL ((evc Tryd.prog [] 100000).call (.fn cL.g cL.args) (smallH cL.tb)) = true := by kernel_rfl
theorem cL_ok : ConOK Tryd.prog cL := con_alone (n := 100000) (c := cL) cL_run
end Go.Proofs.YtkmdidplmfdikabDoor
end

/- EvbXcC1 -/
section
/-
  WHAT A CALL OF THE PROGRAM COMES TO IN A SMALL MEMORY: run by the kernel.
-/

namespace Go.Proofs.YtkmdidplmfdikabDoor
open Go.Ev
noncomputable def cC1 : Con := ⟨16, [(.agg [(.sl (.i (.o (.o (.o (.o (.o .e)))))) 0 5 (some 5) 2), (.int .i64 100)]), (.sl (.o (.i (.o (.o (.o (.o .e)))))) 0 30 none 1)], [(.e, [(.int .i64 1099511627776), (.int .i64 1099511627776), (.int .i64 1099511627776)]), ((.i (.o (.o (.o (.o (.o .e)))))), [(.int .i64 0), (.int .i64 0), (.int .i64 2), (.int .i64 3), (.int .i64 4), (.int .i64 4), (.int .i64 5), (.int .i64 7), (.int .i64 10), (.int .i64 10)]), ((.o (.i (.o (.o (.o (.o .e)))))), [(.int .i64 0), (.int .i64 1099511627776), (.int .i64 1099511627776), (.int .i64 0), (.int .i64 1099511627776), (.int .i64 1099511627776), (.int .i64 0), (.int .i64 1099511627776), (.int .i64 1099511627776), (.int .i64 1099511627776), (.int .i64 1099511627776), (.int .i64 2), (.int .i64 1099511627776), (.int .i64 1099511627776), (.int .i64 1), (.int .i64 0), (.int .i64 103), (.int .i64 1099511627776), (.int .i64 1099511627776), (.int .i64 1), (.int .i64 1099511627776), (.int .i64 1099511627776), (.int .i64 105), (.int .i64 1099511627776), (.int .i64 1099511627776), (.int .i64 2), (.int .i64 1099511627776), (.int .i64 1099511627776), (.int .i64 1), (.int .i64 1099511627776)])], (.tup [(.int .i64 1), (.int .i64 0)]), []⟩
set_option maxRecDepth 100000
set_option maxHeartbeats 0
theorem cC1_run : chk cC1 ((evc Tryd.prog [] 100000).call (.fn cC1.g cC1.args) (smallH cC1.tb)) = true := by kernel_rfl
theorem cC1_ok : ConOK Tryd.prog cC1 := con_alone (n := 100000) (c := cC1) cC1_run
end Go.Proofs.YtkmdidplmfdikabDoor
end

/- EvbXcW -/
section
/-
  WHAT A CALL OF THE PROGRAM COMES TO IN A SMALL MEMORY: run by the kernel.
-/
namespace Go.Proofs.YtkmdidplmfdikabDoor
open Go.Ev
set_option maxRecDepth 100000
set_option maxHeartbeats 0
theorem cW_run : chk cW ((evc Tryd.prog [cS0, cF1, cL, cC1] 100000).call (.fn cW.g cW.args) (smallH cW.tb)) = true := by kernel_rfl
theorem cW_ok : ConOK Tryd.prog cW := con_run (P := Tryd.prog) mixed (cons := [cS0, cF1, cL, cC1]) (n := 100000) (c := cW) (fun _ h => by
  simp only [List.mem_cons, List.not_mem_nil, or_false] at h
  rcases h with rfl | rfl | rfl | rfl
  · exact cS0_ok
  · exact cF1_ok
  · exact cL_ok
  · exact cC1_ok) cW_run
end Go.Proofs.YtkmdidplmfdikabDoor
end

/- EvS24 -/
section
/-
  ARGUMENTS OPENED: slices of slices, of numbers, of ranges.
-/
namespace Go.Ev
open Go.ChangeShapes Go.WideShapes Go.ChangeAt Go.RowKit Go.Deep
section
variable {H : Type} {enc : TypeId × Value → H} {P : Program} {r : Reach} {bs : Nat}

end
end Go.Ev
end

/- EvL18 -/
section
/-
  BYTES THAT COME IN.
-/
namespace Go.Ev
open Go.ChangeShapes Go.WideShapes Go.ChangeAt Go.RowKit
section
variable {H : Type} {enc : TypeId × Value → H} {P : Program} {r : Reach} {bs : Nat}
theorem open_u8s {W : World} {t e : TypeId} {v : Value} {fuel : Nat} {x : DataW H × List MemPlace} (hu : P.underlying t = some (.slice e)) (he : P.underlying e = some (.int .u8)) (hc : P.cellsOf e = 1)
    (hval : Cell.okWide P W r bs t v) (h : DataW.trod enc P W 0 (fun _ => true) true fuel t [v] = some x) :
    ∃ (xs : List Int) (b : AV), VR (startWR W) b v ∧ Sl (startW W) b 1 xs.length (xs.map fun n => .int .u8 n) ∧ ∀ n ∈ xs, 0 ≤ n ∧ n ≤ 255 := by
  rcases slice_form hu hval with rfl | ⟨b, off, len, cap, rfl, hlc, hex⟩
  · exact ⟨[], .nils, .nils, Sl.nil _ _, fun n hn => by cases hn⟩
  · rcases open_ints hu he hc h with ⟨h0, _⟩ | ⟨a, len', cap', zs, h0, _, _, _, hz, _, hcell, hwf⟩
    · cases h0
    · cases h0
      simp only [if_true] at hz
      have hlen : (zs.take len).length = len := by rw [List.length_take]; omega
      refine ⟨zs.take len, .sl (posN b) off len (some cap) 0, startW_arg (lt_of_block hex) hlc, ?_, fun n hn => ?_⟩
      · rw [hlen]
        refine startW_sl hex (by rw [List.length_map, hlen]; omega) (fun k hk => ⟨.int .u8 (zs.getD k 0), ?_, ?_⟩)
        · rw [← add_at]; exact hcell k (by omega)
        · rw [show absV (NW W) (.int .u8 (zs.getD k 0)) = some (.int .u8 (zs.getD k 0)) from rfl, List.getElem?_map, List.getElem?_take_of_lt (by omega), List.getElem?_eq_getElem (by omega)]
          simp [show k < zs.length by omega]
      · have := hwf n (List.mem_of_mem_take hn)
        unfold Lit.wf at this
        rw [Bool.and_eq_true] at this
        exact ⟨of_decide_eq_true this.1, of_decide_eq_true this.2⟩
end
end Go.Ev
end

/- EvbKw -/
section
/- The statement FairWider of layer 1: with a wider range of a spot or a lesser turn no fairest line costs more, and with turn 0 as little as any line bends at least, for all spots, widenings, turns and lines by numbers; the package's table of costs is as the text lays it. -/
namespace Go.Proofs.YtkmdidplmfdikabDoor.fairWider
open Go.ChangeShapes Go.WideShapes Go.ChangeAt Go.RowKit Go.Ev
set_option maxRecDepth 100000
set_option maxHeartbeats 0

theorem own : ownKnob Tryd.prog.godebug = none := by kernel_rfl
theorem laidOut : laidOutB Tryd.prog = true := by kernel_rfl
theorem gTab : Tryd.prog.globalNamed "tumblehome/fair.none" = some 0 := by kernel_rfl
theorem gTabType : (Tryd.prog.globals[0]?).map (·.type) = some 95 := by kernel_rfl
theorem cells95 : Tryd.prog.cellsOf 95 = 3 := by kernel_rfl
theorem cells2 : Tryd.prog.cellsOf 2 = 1 := by kernel_rfl
theorem cells22 : Tryd.prog.cellsOf 22 = 1 := by kernel_rfl
theorem cells24 : Tryd.prog.cellsOf 24 = 2 := by kernel_rfl
theorem cells35 : Tryd.prog.cellsOf 35 = 2 := by kernel_rfl
theorem types24 : Tryd.prog.cellTypes Tryd.prog.depth 24 = some [22, 2] := by kernel_rfl
theorem under24 : ∃ f0 f1 : Field, Tryd.prog.underlying 24 = some (.struct #[f0, f1]) ∧ f0.offset = 0 ∧ f1.offset = 1 ∧ f0.type = 22 ∧ f1.type = 2 := ⟨_, _, Tryd.underlying24, rfl, rfl, rfl, rfl⟩
theorem under35 : ∃ f0 f1 : Field, Tryd.prog.underlying 35 = some (.struct #[f0, f1]) ∧ f0.offset = 0 ∧ f1.offset = 1 ∧ f0.type = 2 ∧ f1.type = 2 := ⟨_, _, Tryd.underlying35, rfl, rfl, rfl, rfl⟩

theorem table {W : World} (h : laidMetH Tryd.prog Rows.fairWiderRow.laid W) : Lib.TabIs Tryd.prog W "tumblehome/fair.none" .i64 [1099511627776, 1099511627776, 1099511627776] :=
  Lib.tabIs_of_head (rest := []) gTab gTabType Tryd.underlying95 Tryd.underlying2 cells2 cells95 h
theorem tab {W : World} (h : laidMetH Tryd.prog Rows.fairWiderRow.laid W) : Tab (startW W) := by
  have t := table h
  have c0 : W.cell? ⟨0, 0, none⟩ = some (.int .i64 1099511627776) := t.cell gTab 0 (by decide)
  have c1 : W.cell? ⟨0, 1, none⟩ = some (.int .i64 1099511627776) := t.cell gTab 1 (by decide)
  have c2 : W.cell? ⟨0, 2, none⟩ = some (.int .i64 1099511627776) := t.cell gTab 2 (by decide)
  obtain ⟨c, e, f, h0, g0⟩ := cell_block c0
  obtain ⟨_, _, _, h1, g1⟩ := cell_block c1
  obtain ⟨_, _, _, h2, g2⟩ := cell_block c2
  rw [h0] at h1 h2
  cases h1
  cases h2
  exact ⟨_, startW_block h0, by show (c[0]?).bind _ = _; rw [g0]; rfl, by show (c[1]?).bind _ = _; rw [g1]; rfl, by show (c[2]?).bind _ = _; rw [g2]; rfl⟩

theorem cells5 : Tryd.prog.cellsOf 5 = 1 := by kernel_rfl
theorem okWideU8 {W : World} {t : TypeId} {v : Value} {r : Reach} {bs : Nat} (hu : Tryd.prog.underlying t = some (.int .u8)) (h : Cell.okWide Tryd.prog W r bs t v) : ∃ n, v = .int .u8 n ∧ 0 ≤ n ∧ n ≤ 255 := by
  unfold Cell.okWide at h
  rw [hu] at h
  have h' : Cell.ok Tryd.prog W r bs t v := by cases v <;> exact h
  unfold Cell.ok at h'
  rw [hu] at h'
  cases v with
  | int k' n =>
    obtain ⟨rfl, h1, h2⟩ := h'
    exact ⟨n, rfl, h1, h2⟩
  | _ => exact h'.elim

theorem okWideU32 {W : World} {t : TypeId} {v : Value} {r : Reach} {bs : Nat} (hu : Tryd.prog.underlying t = some (.int .u32)) (h : Cell.okWide Tryd.prog W r bs t v) : ∃ n, v = .int .u32 n ∧ 0 ≤ n ∧ n ≤ 4294967295 := by
  unfold Cell.okWide at h
  rw [hu] at h
  have h' : Cell.ok Tryd.prog W r bs t v := by cases v <;> exact h
  unfold Cell.ok at h'
  rw [hu] at h'
  cases v with
  | int k' n =>
    obtain ⟨rfl, h1, h2⟩ := h'
    exact ⟨n, rfl, h1, h2⟩
  | _ => exact h'.elim
theorem cells25 : Tryd.prog.cellsOf 25 = 2 := by kernel_rfl
theorem types25 : Tryd.prog.cellTypes Tryd.prog.depth 25 = some [5, 5] := by kernel_rfl
theorem open_u8two {W : World} {v : Value} {r : Reach} {bs : Nat} (h : Value.okWide Tryd.prog W r bs 25 v) : ∃ x y : Int, v = .agg #[.int .u8 x, .int .u8 y] ∧ (0 ≤ x ∧ x ≤ 255) ∧ (0 ≤ y ∧ y ≤ 255) := by
  unfold Value.okWide at h
  rw [Tryd.underlying25] at h
  obtain ⟨cs, rfl, hsz, ts, hts, _, hcell⟩ := h
  rw [types25] at hts
  cases hts
  rw [cells25] at hsz
  obtain ⟨l⟩ := cs
  match l, hsz with
  | [u, w], _ =>
    obtain ⟨u1, e1, k1⟩ := hcell 0 u rfl
    obtain ⟨u2, e2, k2⟩ := hcell 1 w rfl
    have e1' : some 5 = some u1 := e1
    have e2' : some 5 = some u2 := e2
    cases e1'
    cases e2'
    obtain ⟨x, rfl, hx⟩ := okWideU8 Tryd.underlying5 k1
    obtain ⟨y, rfl, hy⟩ := okWideU8 Tryd.underlying5 k2
    exact ⟨x, y, rfl, hx, hy⟩
theorem trodAll_five {H : Type} {enc : TypeId × Value → H} {P : Program} {w : World} {base : Nat} {spare : Nat → Bool} {held : Bool} {t0 t1 t2 t3 t4 : TypeId} {args : Array Value} {ds : List (DataW H)} {ps : List MemPlace} (h : DataW.TrodAll enc P w base spare held [t0, t1, t2, t3, t4] args.toList ds ps) :
    ∃ v0 v1 v2 v3 v4 d0 d1 d2 d3 d4 p0 p4, args = #[v0, v1, v2, v3, v4] ∧ ds = [d0, d1, d2, d3, d4] ∧ DataW.Trod enc P w base spare held t0 v0 d0 p0 ∧ DataW.Trod enc P w base spare held t4 v4 d4 p4 := by
  obtain ⟨v0, vs, d0, ds', p, q, hargs, rfl, rfl, hd0, hrest⟩ := trodAll_cons h
  obtain ⟨v1, vs', d1, ds'', p', q', rfl, rfl, rfl, hd1, hrest'⟩ := trodAll_cons hrest
  obtain ⟨v2, vs2, d2, ds2, p2, q2, rfl, rfl, rfl, hd2, hrest2⟩ := trodAll_cons hrest'
  obtain ⟨v3, vs3, d3, ds3, p3, q3, rfl, rfl, rfl, hd3, hrest3⟩ := trodAll_cons hrest2
  obtain ⟨v4, vs4, d4, ds4, p4, q4, rfl, rfl, rfl, hd4, hrest4⟩ := trodAll_cons hrest3
  obtain ⟨rfl, rfl, rfl⟩ := trodAll_nil hrest4
  exact ⟨v0, v1, v2, v3, v4, d0, d1, d2, d3, d4, _, _, by cases args; simp_all, rfl, hd0, hd4⟩

theorem contract (H : Type) (enc : TypeId × Value → H) (W : World) (base : Nat) (args : Array Value) (ds gs : List (DataW H)) (before : List MemPlace) (hval : ∀ (j : Nat) t v, Tryd.f3.params[j]? = some t → args[j]? = some v → Value.okWide Tryd.prog W .any base t v)
    (hW : DataW.Whole enc Tryd.prog Tryd.f3.params.toList Rows.fairWiderSpec.vars false W args.toList ds gs before) (hL : laidMetH Tryd.prog Rows.fairWiderRow.laid W) :
    Calls Tryd.prog 3 args W fun e W' => ∃ v, e = .returned v ∧ Rows.fairWiderSpec.post enc Tryd.prog Tryd.f3 false true false false W args v W' := by
  have hW' := hW
  obtain ⟨p, q, hA0, hV, rfl, hfz, hnd⟩ := hW
  have hA : DataW.TrodAll enc Tryd.prog W 0 (fun _ => true) true Tryd.f3.params.toList args.toList ds p := hA0
  rw [Tryd.params3] at hA hval
  obtain ⟨v0, v1, v2, v3, v4, d0, d1, d2, d3, d4, p0, p4, rfl, rfl, ⟨n0, h0⟩, ⟨n4, h4⟩⟩ := trodAll_five hA
  obtain ⟨f0, f1, hu, o0, o1, t0, t1⟩ := under24
  obtain ⟨g0, g1, hg, go0, go1, gt0, gt1⟩ := under35
  obtain ⟨u, w, n, y, z, rfl, k0, k1, r0, r1⟩ := open_two hu cells24 o0 o1 t0 t1 cells22 cells2 types24 (hval 0 24 v0 rfl rfl) h0
  obtain ⟨turn, hz, _⟩ := DataW.trod_int Tryd.underlying2 r1
  cases hz
  obtain ⟨sp, a, va, ca, sa⟩ := open_pairs Tryd.underlying22 hg cells35 go0 go1 gt0 gt1 Tryd.underlying2 cells2 k0 r0
  obtain ⟨which_, hz, hwh⟩ := okWideU8 Tryd.underlying5 (okWide_cell (P := Tryd.prog) Tryd.underlying5 (fun _ e => by cases e) (fun _ _ e => by cases e) (hval 1 5 v1 rfl rfl))
  subst hz
  obtain ⟨q0, q1, hz, hq0, hq1⟩ := open_u8two (hval 2 25 v2 rfl rfl)
  subst hz
  obtain ⟨less, hz, hle⟩ := okWideU32 Tryd.underlying26 (okWide_cell (P := Tryd.prog) Tryd.underlying26 (fun _ e => by cases e) (fun _ _ e => by cases e) (hval 3 26 v3 rfl rfl))
  subst hz
  have kb := okWide_cell (P := Tryd.prog) Tryd.underlying27 (fun _ e => by cases e) (fun _ _ e => by cases e) (hval 4 27 v4 rfl rfl)
  rw [slice_cells Tryd.underlying27 kb] at h4
  obtain ⟨bys, b, vb, sb, hby⟩ := open_u8s Tryd.underlying27 Tryd.underlying5 cells5 kb h4
  have walk := lawWider sp turn which_ q0 q1 less bys hwh hq0 hq1 hle hby a b ca (startW W) (startW_wf W) (tab hL) sa sb
  have hargs : VL (startWR W) [.agg [a, .int .i64 turn], .int .u8 which_, .agg [.int .u8 q0, .int .u8 q1], .int .u32 less, b] (#[.agg #[u, .int .i64 turn], .int .u8 which_, .agg #[.int .u8 q0, .int .u8 q1], .int .u32 less, v4] : Array Value).toList :=
    .cons _ _ _ _ (.agg _ _ (.cons _ _ _ _ va (.cons _ _ _ _ (.int _ _) .nil))) (.cons _ _ _ _ (.int _ _) (.cons _ _ _ _ (.agg _ _ (.cons _ _ _ _ (.int _ _) (.cons _ _ _ _ (.int _ _) .nil))) (.cons _ _ _ _ (.int _ _) (.cons _ _ _ _ vb .nil))))
  refine (startW_true (P := Tryd.prog) mixed (K := KK) (fun c hc => by
    have : c = cW := List.mem_singleton.1 hc
    rw [this]; exact cW_ok) walk hargs).mono fun e W' ⟨he, hgr, hs⟩ => ?_
  subst he
  refine ⟨_, rfl, law_post laidOut (by
    rw [Tryd.params3]
    intro t ht
    rcases List.mem_cons.1 ht with rfl | ht
    · exact ⟨by kernel_rfl, of_decide_eq_true (by kernel_rfl)⟩
    rcases List.mem_cons.1 ht with rfl | ht
    · exact ⟨by kernel_rfl, of_decide_eq_true (by kernel_rfl)⟩
    rcases List.mem_cons.1 ht with rfl | ht
    · exact ⟨by kernel_rfl, of_decide_eq_true (by kernel_rfl)⟩
    rcases List.mem_cons.1 ht with rfl | ht
    · exact ⟨by kernel_rfl, of_decide_eq_true (by kernel_rfl)⟩
    rcases List.mem_cons.1 ht with rfl | ht
    · exact ⟨by kernel_rfl, of_decide_eq_true (by kernel_rfl)⟩
    cases ht) rfl (by kernel_rfl) Tryd.underlying4 (fun gs' ⟨q', hq⟩ => ?_) hW' hgr hs⟩
  obtain ⟨rfl, _⟩ := trodVars_none hq
  exact ⟨rfl, rfl, rfl⟩

/-- A world for the witness. -/
noncomputable def laidWorld (os : Os) : World :=
  { World.holding Tryd.prog os ⟨#[], #[], []⟩ with heap := (World.holding Tryd.prog os ⟨#[], #[], []⟩).heap.modify 0 fun
      | .cells _ t frozen => .cells #[.int .i64 1099511627776, .int .i64 1099511627776, .int .i64 1099511627776] t frozen
      | o => o }
noncomputable def args0 : Array Value := #[.agg #[.slice none 0 0, .int .i64 0], .int .u8 0, .agg #[.int .u8 0, .int .u8 0], .int .u32 0, .slice none 0 0]
theorem laid_met (os : Os) : laidMet Tryd.prog Rows.fairWiderRow.laid ((laidWorld os).forCall (fun _ _ => 0) ⟨#[], args0, []⟩).memory :=
  laidMet_of_run' 8 (by kernel_rfl) (by kernel_rfl)
theorem reads (os : Os) {H : Type} (enc : TypeId × Value → H) : ∃ places, DataW.whole enc Tryd.prog ((laidWorld os).forCall (fun _ _ => 0) ⟨#[], args0, []⟩).memory Tryd.f3.params.toList Rows.fairWiderSpec.vars false args0.toList 8 = some ([.agg [.nil, .lit (.int .i64 0)], .lit (.int .u8 0), .agg [.lit (.int .u8 0), .lit (.int .u8 0)], .lit (.int .u32 0), .nil], [], places) :=
  ⟨[], by kernel_rfl⟩

theorem lifted (os : Os) (started : os.Started) (H : Type) (enc : TypeId × Value → H) (F : Stop.Interp) :
    ReturnsInHanded {} Tryd.checked os 3 .any ((OpenSpec.ofChange Rows.fairWiderSpec).preRow enc Tryd.prog Tryd.f3 Rows.fairWiderRow.domain false Rows.fairWiderRow.laid) (((OpenSpec.ofChange Rows.fairWiderSpec).at F).post enc Tryd.prog Tryd.f3 false true false false) := by
  obtain ⟨places, hx⟩ := reads os enc
  refine returnsInHanded_of_row (C := Tryd.checked) (s := OpenSpec.ofChange Rows.fairWiderSpec) own started (by kernel_rfl) Tryd.func3
    (witness_row_at (enc := enc) (C := Tryd.checked) false (laidWorld os) args0 rfl (by kernel_rfl) (by kernel_rfl) (by kernel_rfl)
      (OpenSpec.preRow_of_cond 8 hx (by kernel_rfl) (fun k hk => by cases hk) (by kernel_rfl) (laid_met os))) ?_
  intro W base args ds gs before hval hW _ _ _ hL _ _
  exact contract H enc W base args ds gs before hval hW hL

theorem said : Rows.FairWiderSaid :=
  OpenClaim.holds_of_cond 3 Tryd.f3 rfl rfl rfl rfl rfl rfl rfl ⟨rfl, rfl, rfl, rfl, rfl⟩ rfl rfl rfl rfl rfl (by kernel_rfl) Tryd.func3 (by kernel_rfl)
    (of_decide_eq_true (by kernel_rfl)) (by unfold Func.isWrapper; first | (rw [if_pos (by decide +kernel)]; kernel_rfl) | (rw [if_neg (by decide +kernel)]; exact ⟨rfl, rfl⟩))
    (fun os started H enc _ F => by rw [OpenClaim.pre_eq_preRow]; exact lifted os started H enc F)

theorem stand24 : Tryd.pinned.checked.prog.wantsStandIn 24 = false := by kernel_rfl
theorem stand5 : Tryd.pinned.checked.prog.wantsStandIn 5 = false := by kernel_rfl
theorem stand25 : Tryd.pinned.checked.prog.wantsStandIn 25 = false := by kernel_rfl
theorem stand26 : Tryd.pinned.checked.prog.wantsStandIn 26 = false := by kernel_rfl
theorem stand27 : Tryd.pinned.checked.prog.wantsStandIn 27 = false := by kernel_rfl
theorem plain (f : FuncId) (fn : Func) (hf : Tryd.pinned.checked.prog.funcNamed "tumblehome/tumblehomelaw01.FairWider" = some f) (hfn : Tryd.pinned.checked.prog.funcs[f]? = some fn) :
    false = Tryd.pinned.checked.prog.looks [] ∧ ∀ (j : Nat) t, fn.params[j]? = some t → Tryd.pinned.checked.prog.wantsStandIn t = false := by
  obtain rfl : f = 3 := Option.some.inj ((show Tryd.prog.funcNamed "tumblehome/tumblehomelaw01.FairWider" = some 3 by kernel_rfl).symm.trans hf) |>.symm
  obtain rfl : fn = Tryd.f3 := (Option.some.inj (Tryd.func3.symm.trans hfn)).symm
  refine ⟨by kernel_rfl, fun j t ht => ?_⟩
  rw [Tryd.params3] at ht
  match j, ht with
  | 0, ht =>
    have e : t = 24 := by simpa using ht.symm
    rw [e]
    exact stand24
  | 1, ht =>
    have e : t = 5 := by simpa using ht.symm
    rw [e]
    exact stand5
  | 2, ht =>
    have e : t = 25 := by simpa using ht.symm
    rw [e]
    exact stand25
  | 3, ht =>
    have e : t = 26 := by simpa using ht.symm
    rw [e]
    exact stand26
  | 4, ht =>
    have e : t = 27 := by simpa using ht.symm
    rw [e]
    exact stand27
  | j + 5, ht => simp at ht

/-- ████ THE CARD ████ -/
theorem card : Rows.FairWiderCardSaid :=
  Claim7.holds_tied_plain_at .later [] _ _ _ _ said (fun _ h => by cases h) (by kernel_rfl) (fun _ h => by cases h) fairWider_row_tie rfl ⟨rfl, rfl⟩ (by kernel_rfl) rfl plain (by kernel_rfl)
end Go.Proofs.YtkmdidplmfdikabDoor.fairWider
end
