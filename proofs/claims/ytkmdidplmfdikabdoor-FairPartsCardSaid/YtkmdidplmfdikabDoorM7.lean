/- The statement FairParts of layer 1: a line, and the fairest one, cost at least as much as both of their parts, for all spots, cuts and lines by numbers; the package's table of costs is as the text lays it. -/
import Derived.Test.YtkmdidplmfdikabDoorM6
import Derived.Test.YtkmdidplmfdikabDoorChecked
import Derived.Eval
import Derived.KernelRfl
import Derived.Test.YtkmdidplmfdikabDoorCards
import Derived.Test.YtkmdidplmfdikabDoorTie
import Derived.WalkKit
import Derived.ProofKit
import Derived.OpenShut
import Derived.Deep.DeepHandedRow
import Derived.Lib.LaidTab
set_option linter.all false
/- EvbV3 -/
section
/-
  LAYER 1: the statement FairParts, walked.
-/
namespace Go.Proofs.YtkmdidplmfdikabDoor
open Go.Ev
set_option maxRecDepth 100000
set_option linter.unusedSimpArgs false
set_option linter.unusedVariables false
set_option maxHeartbeats 4000000

theorem tEvbV3 : type_of% (And.intro (And.intro (And.intro (And.intro (@bs_60) (And.intro (@bs_24) (@bs_35))) (And.intro (And.intro (@ia_2) (@sz_2)) (And.intro (@ia_3) (@sz_3)))) (And.intro (And.intro (And.intro (@ia_5) (@sz_5)) (And.intro (@ia_22) (@ia_27))) (And.intro (And.intro (@ia_30) (@ia_31)) (And.intro (@ia_24) (@sz_24))))) (And.intro (And.intro (And.intro (And.intro (@fo_35_0) (@fo_35_1)) (And.intro (@fo_24_0) (@fo_24_1))) (And.intro (And.intro (@pb_4) (@pb_7)) (And.intro (@pb_8) (@pb_9)))) (And.intro (And.intro (And.intro (@pb_10) (@pb_11)) (And.intro (@pb_12) (@pb_18))) (And.intro (And.intro (@ni_30) (@ze_24)) (And.intro (@ze_35) (@sz_35)))))) := And.intro (And.intro (And.intro (And.intro (@bs_60) (And.intro (@bs_24) (@bs_35))) (And.intro (And.intro (@ia_2) (@sz_2)) (And.intro (@ia_3) (@sz_3)))) (And.intro (And.intro (And.intro (@ia_5) (@sz_5)) (And.intro (@ia_22) (@ia_27))) (And.intro (And.intro (@ia_30) (@ia_31)) (And.intro (@ia_24) (@sz_24))))) (And.intro (And.intro (And.intro (And.intro (@fo_35_0) (@fo_35_1)) (And.intro (@fo_24_0) (@fo_24_1))) (And.intro (And.intro (@pb_4) (@pb_7)) (And.intro (@pb_8) (@pb_9)))) (And.intro (And.intro (And.intro (@pb_10) (@pb_11)) (And.intro (@pb_12) (@pb_18))) (And.intro (And.intro (@ni_30) (@ze_24)) (And.intro (@ze_35) (@sz_35)))))
theorem pairCells_take (sp : List (Int × Int)) (k : Nat) : (pairCells sp).take (k * 2) = pairCells (sp.take k) := by
  induction sp generalizing k with
  | nil => simp [pairCells]
  | cons r R ih =>
    cases k with
    | zero => simp [pairCells]
    | succ k =>
      have e : (k + 1) * 2 = k * 2 + 1 + 1 := by omega
      rw [e]
      have := ih k
      simp only [pairCells, List.take_succ_cons, List.flatMap_cons, List.cons_append, List.nil_append] at this ⊢
      rw [this]
theorem pairCells_drop (sp : List (Int × Int)) (k : Nat) : (pairCells sp).drop (k * 2) = pairCells (sp.drop k) := by
  induction sp generalizing k with
  | nil => simp [pairCells]
  | cons r R ih =>
    cases k with
    | zero => simp
    | succ k =>
      have e : (k + 1) * 2 = k * 2 + 1 + 1 := by omega
      rw [e]
      have := ih k
      simp only [pairCells, List.drop_succ_cons, List.flatMap_cons, List.cons_append, List.nil_append] at this ⊢
      exact this
theorem InR.off : ∀ {R : List (Int × Int)} {l : List Int}, (∀ r ∈ R, SpotOK r) → InR R l → ∀ x ∈ l, Off x
  | [], _, _, h => fun x hx => by cases h; simp at hx
  | r :: R, _, hR, ⟨c, cs, rfl, h1, h2, h⟩ => fun x hx => by
    obtain ⟨⟨o1, o2⟩, ⟨o3, o4⟩, _, _⟩ := hR r (by simp)
    rcases List.mem_cons.1 hx with rfl | hx
    · exact ⟨by omega, by omega⟩
    · exact InR.off (fun r hr => hR r (by simp [hr])) h x hx
theorem Cost_in {turn : Int} (ht : 0 ≤ turn ∧ turn ≤ 1000000) {sp : List (Int × Int)} {l : List Int} (hR : ∀ r ∈ sp, SpotOK r) (hn : sp.length ≤ 24) (h : InR sp l) : 0 ≤ Cost (payI turn) l ∧ Cost (payI turn) l ≤ 1000000000 := by
  refine ⟨Cost_nn ht.1 l, ?_⟩
  rw [← cost_meas]
  have hl := h.length
  have hm := measOf_in (InR.off hR h)
  have b2 : turn * (measOf l).1 ≤ 1000000 * 24 := Int.mul_le_mul (by omega) (by omega) (by omega) (by omega)
  omega
theorem lawParts (sp : List (Int × Int)) (turn at_ : Int) (bs : List Int) (hat : 0 ≤ at_ ∧ at_ ≤ 255) (hb8 : ∀ n ∈ bs, 0 ≤ n ∧ n ≤ 255) (a b : AV) (hca : Capd a) (h : H) (wf : Wf h) (t : Tab h) (hs : Sl h a 2 sp.length (spotCells sp)) (hb : Sl h b 1 bs.length (bs.map u8)) :
    (om Tryd.prog KK).call (.fn 4 [.agg [a, ii turn], u8 at_, b]) h = .ok (.bool true) h := by
  have ha1 : oneB a = true ∧ AV.cells a = [a] := by obtain ⟨_, ⟨rfl, _⟩ | ⟨_, _, _, _, _, _, rfl, _⟩⟩ := hs <;> exact ⟨rfl, rfl⟩
  have hlen : ∀ h', lenE Tryd.prog 22 a h' = some (ii (sp.length : Int)) := fun h' => hs.len un_22
  have hlb : ∀ h', lenE Tryd.prog 27 b h' = some (ii (bs.length : Int)) := fun h' => hb.len un_27
  have works' : ∀ l w, (om Tryd.prog KK).call (.fn 8 []) (X h l w) = .ok (.bool true) (X h l w) := fun l w => works _ (t.up wf _ _)
  have hfine : ∀ l w, w ≤ h.clock + l.length → (om Tryd.prog KK).call (.fn 7 [.agg [a, ii turn]]) (X h l w) = .ok (.bool (decide (spotsR sp turn = 0))) (X h l w) := fun l w hw => fineSpots sp turn a _ (wf.X hw) (hs.up wf _ _)
  by_cases hgo : spotsR sp turn = 0 ∧ 2 ≤ sp.length ∧ bs.length ≤ 40
  · obtain ⟨hs0, h2, h40⟩ := hgo
    obtain ⟨n1, n24, hok, hturn⟩ := spotsR_ok hs0
    rw [decide_eq_true hs0] at hfine
    have hcv : convE Tryd.prog 5 3 (u8 at_) = some (ii at_) := by rw [c_int un_5 un_3, wrap_in _ (by omega) (by omega)]
    have hrem : ∀ (x y : Operand), binE Tryd.prog .rem 3 x y (ii at_) (ii ((sp.length : Int) - 1)) = some (ii (at_.tmod ((sp.length : Int) - 1))) := fun x y => b_rem (by omega)
    have hq : 0 ≤ at_.tmod ((sp.length : Int) - 1) ∧ at_.tmod ((sp.length : Int) - 1) < (sp.length : Int) - 1 := by
      rw [Int.tmod_eq_emod_of_nonneg hat.1]
      exact ⟨Int.emod_nonneg _ (by omega), Int.emod_lt_of_pos _ (by omega)⟩
    generalize at_.tmod ((sp.length : Int) - 1) = q at *
    generalize hK : (1 + q).toNat = K at *
    have hKl : K < sp.length ∧ 0 < K := by omega
    obtain ⟨a1, hsl1, hs1, hc1⟩ := hs.cutTo (P := Tryd.prog) (t := 22) (k := K) (by omega) un_22 (sz_35) (by decide) (hca.capu 2)
    obtain ⟨a2, hsl2, hs2, hc2⟩ := hs.cutFrom (P := Tryd.prog) (t := 22) (k := K) (by omega) un_22 (sz_35) (by decide) (hca.capu 2)
    rw [pairCells_take] at hs1
    rw [pairCells_drop] at hs2
    have hl1 : (sp.take K).length = K := by rw [List.length_take]; omega
    have hl2 : (sp.drop K).length = sp.length - K := List.length_drop
    have hs1 : Sl h a1 2 (sp.take K).length (spotCells (sp.take K)) := by rw [hl1]; exact hs1
    have hs2 : Sl h a2 2 (sp.drop K).length (spotCells (sp.drop K)) := by rw [hl2]; exact hs2
    have hok1 : ∀ r ∈ sp.take K, SpotOK r := fun r hr => hok r (List.mem_of_mem_take hr)
    have hok2 : ∀ r ∈ sp.drop K, SpotOK r := fun r hr => hok r (List.mem_of_mem_drop hr)
    have hv1 : spotsR (sp.take K) turn = 0 := spotsR_of (by omega) (by omega) hok1 hturn
    have hv2 : spotsR (sp.drop K) turn = 0 := spotsR_of (by omega) (by omega) hok2 hturn
    have b1 : oneB a1 = true ∧ AV.cells a1 = [a1] := by obtain ⟨_, ⟨rfl, _⟩ | ⟨_, _, _, _, _, _, rfl, _⟩⟩ := hs1 <;> exact ⟨rfl, rfl⟩
    have b2 : oneB a2 = true ∧ AV.cells a2 = [a2] := by obtain ⟨_, ⟨rfl, _⟩ | ⟨_, _, _, _, _, _, rfl, _⟩⟩ := hs2 <;> exact ⟨rfl, rfl⟩
    refine WV_to (WV_call (fn := Tryd.f4) Tryd.func4 rfl rfl rfl rfl rfl ?_)
    simp only [argF]
    (repeat' (first
  | (with_reducible first | refine WC_seq ?_ | refine WC_skip ?_ | refine WC_label ?_ | refine WC_scope ?_ | refine WC_block ?_ | refine WC_ret ?_ | refine WC_exit ?_ | refine seqQ_norm ?_ | refine seqQ_ret ?_ | refine seqQ_exit ?_ | refine blkQ_norm ?_ | refine blkQ_ret ?_ | refine blkQ_here ?_ | refine gateK_yes ?_ | refine gateK_none ?_ | refine condK_tt ?_ | refine condK_ff ?_ | refine roundQ_exit ?_ | refine roundQ_ret ?_)
  | refine WC_region ?_ | refine blkQ_out rfl ?_ | refine WO_nil ?_ | refine WD_nil ?_
  | ((first | refine WD_gate rfl rfl rfl rfl rfl fun K_ hK_ => ?_ | refine WO_gate rfl rfl rfl rfl rfl fun K_ hK_ => ?_); simp only [upd_apply, asB_bool, asB_tup, ↓reduceIte, reduceCtorEq, Nat.reduceEqDiff, Bool.not_true, Bool.not_false]; refine hK_ _ ?_; clear hK_ K_)
  | refine gateK_no (by decide) ?_
  | ((try first | refine WO_op rfl rfl rfl ?_ | refine WO_op0 rfl rfl ?_ | refine WD_op rfl rfl rfl ?_ | refine WD_op0 rfl rfl ?_); (refine WV_gen fun Q_ hQ_ => ?_; simp (disch := first | omega | (simp only [List.length_cons, List.length_nil, List.length_append]; omega)) only [bb, bp, argF, ↓reduceIte, reduceCtorEq, Nat.reduceEqDiff, Nat.reduceLT, Nat.reduceLeDiff, Nat.reduceAdd, Nat.reduceMul, Nat.reduceSub, Nat.reduceBEq, Int.reduceToNat, cond_true, cond_false, eq_self, beq_self_eq_true, hfine, hlen, hlb, hcv, hrem, works', ha1.1, ha1.2, newPtr_X wf, load1_X wf, loadAgg_X wf, store1_X wf, writeCells_X wf, tEvbV3, bsl_30, newSlice_X wf]; first | (refine dec_split (Q := Q_) (fun hp_ => ?_) (fun hp_ => ?_) <;> first | (exfalso; omega) | (refine hQ_ _ _ ?_; clear hQ_ Q_)) | (refine dec_splitn (Q := Q_) (fun hp_ => ?_) (fun hp_ => ?_) <;> first | (exfalso; omega) | (refine hQ_ _ _ ?_; clear hQ_ Q_)) | (refine hQ_ _ _ ?_; clear hQ_ Q_)))
  | (refine WC_cond fun K_ hK_ => ?_; simp (disch := omega) only [evT_tmp, upd_apply, WB_some, ↓reduceIte, reduceCtorEq, Nat.reduceEqDiff, Nat.reduceLT]; refine hK_ _ ?_; clear hK_ K_)))
    refine WC_drawnB [.no, .no, .no, .no, .no, .no, .no, .no, .full] (by kernel_rfl) ?_
    (repeat' (first
  | (with_reducible first | refine WC_seq ?_ | refine WC_skip ?_ | refine WC_label ?_ | refine WC_scope ?_ | refine WC_block ?_ | refine WC_ret ?_ | refine WC_exit ?_ | refine seqQ_norm ?_ | refine seqQ_ret ?_ | refine seqQ_exit ?_ | refine blkQ_norm ?_ | refine blkQ_ret ?_ | refine blkQ_here ?_ | refine gateK_yes ?_ | refine gateK_none ?_ | refine condK_tt ?_ | refine condK_ff ?_ | refine roundQ_exit ?_ | refine roundQ_ret ?_)
  | refine WC_region ?_ | refine blkQ_out rfl ?_ | refine WO_nil ?_ | refine WD_nil ?_
  | ((first | refine WD_gate rfl rfl rfl rfl rfl fun K_ hK_ => ?_ | refine WO_gate rfl rfl rfl rfl rfl fun K_ hK_ => ?_); simp only [upd_apply, asB_bool, asB_tup, ↓reduceIte, reduceCtorEq, Nat.reduceEqDiff, Bool.not_true, Bool.not_false]; refine hK_ _ ?_; clear hK_ K_)
  | refine gateK_no (by decide) ?_
  | ((try first | refine WO_op rfl rfl rfl ?_ | refine WO_op0 rfl rfl ?_ | refine WD_op rfl rfl rfl ?_ | refine WD_op0 rfl rfl ?_); (refine WV_gen fun Q_ hQ_ => ?_; simp (disch := first | omega | (simp only [List.length_cons, List.length_nil, List.length_append]; omega)) only [bb, bp, argF, ↓reduceIte, reduceCtorEq, Nat.reduceEqDiff, Nat.reduceLT, Nat.reduceLeDiff, Nat.reduceAdd, Nat.reduceMul, Nat.reduceSub, Nat.reduceBEq, Int.reduceToNat, cond_true, cond_false, eq_self, beq_self_eq_true, hfine, hlen, hlb, hsl1, hK, b1.1, b1.2, works', ha1.1, ha1.2, newPtr_X wf, load1_X wf, loadAgg_X wf, store1_X wf, writeCells_X wf, tEvbV3, bsl_30, newSlice_X wf]; first | (refine dec_split (Q := Q_) (fun hp_ => ?_) (fun hp_ => ?_) <;> first | (exfalso; omega) | (refine hQ_ _ _ ?_; clear hQ_ Q_)) | (refine dec_splitn (Q := Q_) (fun hp_ => ?_) (fun hp_ => ?_) <;> first | (exfalso; omega) | (refine hQ_ _ _ ?_; clear hQ_ Q_)) | (refine hQ_ _ _ ?_; clear hQ_ Q_)))
  | (refine WC_cond fun K_ hK_ => ?_; simp (disch := omega) only [evT_tmp, upd_apply, WB_some, ↓reduceIte, reduceCtorEq, Nat.reduceEqDiff, Nat.reduceLT]; refine hK_ _ ?_; clear hK_ K_)))
    refine WC_drawnB [.no, .no, .no, .no, .no, .no, .no, .no, .full] (by kernel_rfl) ?_
    (repeat' (first
  | (with_reducible first | refine WC_seq ?_ | refine WC_skip ?_ | refine WC_label ?_ | refine WC_scope ?_ | refine WC_block ?_ | refine WC_ret ?_ | refine WC_exit ?_ | refine seqQ_norm ?_ | refine seqQ_ret ?_ | refine seqQ_exit ?_ | refine blkQ_norm ?_ | refine blkQ_ret ?_ | refine blkQ_here ?_ | refine gateK_yes ?_ | refine gateK_none ?_ | refine condK_tt ?_ | refine condK_ff ?_ | refine roundQ_exit ?_ | refine roundQ_ret ?_)
  | refine WC_region ?_ | refine blkQ_out rfl ?_ | refine WO_nil ?_ | refine WD_nil ?_
  | ((first | refine WD_gate rfl rfl rfl rfl rfl fun K_ hK_ => ?_ | refine WO_gate rfl rfl rfl rfl rfl fun K_ hK_ => ?_); simp only [upd_apply, asB_bool, asB_tup, ↓reduceIte, reduceCtorEq, Nat.reduceEqDiff, Bool.not_true, Bool.not_false]; refine hK_ _ ?_; clear hK_ K_)
  | refine gateK_no (by decide) ?_
  | ((try first | refine WO_op rfl rfl rfl ?_ | refine WO_op0 rfl rfl ?_ | refine WD_op rfl rfl rfl ?_ | refine WD_op0 rfl rfl ?_); (refine WV_gen fun Q_ hQ_ => ?_; simp (disch := first | omega | (simp only [List.length_cons, List.length_nil, List.length_append]; omega)) only [bb, bp, argF, ↓reduceIte, reduceCtorEq, Nat.reduceEqDiff, Nat.reduceLT, Nat.reduceLeDiff, Nat.reduceAdd, Nat.reduceMul, Nat.reduceSub, Nat.reduceBEq, Int.reduceToNat, cond_true, cond_false, eq_self, beq_self_eq_true, hfine, hlen, hlb, hsl2, hK, b2.1, b2.2, works', ha1.1, ha1.2, newPtr_X wf, load1_X wf, loadAgg_X wf, store1_X wf, writeCells_X wf, tEvbV3, bsl_30, newSlice_X wf]; first | (refine dec_split (Q := Q_) (fun hp_ => ?_) (fun hp_ => ?_) <;> first | (exfalso; omega) | (refine hQ_ _ _ ?_; clear hQ_ Q_)) | (refine dec_splitn (Q := Q_) (fun hp_ => ?_) (fun hp_ => ?_) <;> first | (exfalso; omega) | (refine hQ_ _ _ ?_; clear hQ_ Q_)) | (refine hQ_ _ _ ?_; clear hQ_ Q_)))
  | (refine WC_cond fun K_ hK_ => ?_; simp (disch := omega) only [evT_tmp, upd_apply, WB_some, ↓reduceIte, reduceCtorEq, Nat.reduceEqDiff, Nat.reduceLT]; refine hK_ _ ?_; clear hK_ K_)))
    have hln : InR sp (lineB sp bs sp.length) := lineB_in bs (fun r hr => (hok r hr).2.2.1)
    have hll : (lineB sp bs sp.length).length = sp.length := lineB_length _ _ _
    obtain ⟨lv, h1, e1, M1, rfl, hlv⟩ := Line sp (by omega) n24 hok bs h40 hb8 a turn b (X h [.cells (mkCells [a, ii turn]) 24, .cells (mkCells [a1, ii turn]) 24, .cells (mkCells [a2, ii turn]) 24] h.clock) (wf.X (by omega)) (hs.up wf _ _) (hb.up wf _ _)
    rw [X_X, X_w] at e1
    have hlv1 := hlv.down
    simp only [List.cons_append, List.nil_append] at e1 hlv1
    generalize hline : lineB sp bs sp.length = line at *
    have hsplit : line = line.take K ++ line.drop K := (List.take_append_drop K line).symm
    have hinp : InR (sp.take K) (line.take K) ∧ InR (sp.drop K) (line.drop K) := by
      have hin2 : InR (sp.take K ++ sp.drop K) line := by rw [List.take_append_drop]; exact hln
      obtain ⟨p, q', e, hp, hq'⟩ := hin2.cut
      have hpl := hp.length
      have e1 : line.take K = p := by rw [e, List.take_left' (by omega)]
      have e2 : line.drop K = q' := by rw [e, List.drop_left' (by omega)]
      rw [e1, e2]; exact ⟨hp, hq'⟩
    have hcuL : CapU 1 lv := by
      obtain ⟨_, c, rfl, _, hc⟩ := hlv1
      rcases hc with rfl | rfl
      · exact capu_none
      · exact capu_some (Nat.le_refl _)
    have hslL := hlv1.sl wf h.clock
    rw [List.length_map] at hslL
    generalize hL1 : AO.cells (mkCells [a, ii turn]) 24 :: AO.cells (mkCells [a1, ii turn]) 24 :: AO.cells (mkCells [a2, ii turn]) 24 :: M1 = L1 at *
    have wf1 : Wf (X h L1 h.clock) := wf.X (by omega)
    obtain ⟨l1, hsl3, hs3, hc3⟩ := hslL.cutTo (P := Tryd.prog) (t := 30) (k := K) (by omega) un_30 sz_2 (by decide) hcuL
    obtain ⟨l2, hsl4, hs4, hc4⟩ := hslL.cutFrom (P := Tryd.prog) (t := 30) (k := K) (by omega) un_30 sz_2 (by decide) hcuL
    rw [Nat.mul_one, ← List.map_take] at hs3
    rw [Nat.mul_one, ← List.map_drop] at hs4
    have hk3 : (line.take K).length = K := by rw [List.length_take]; omega
    have hk4 : (line.drop K).length = line.length - K := List.length_drop
    have hs3 : Sl (X h L1 h.clock) l1 1 (line.take K).length ((line.take K).map ii) := by rw [hk3]; exact hs3
    have hs4 : Sl (X h L1 h.clock) l2 1 (line.drop K).length ((line.drop K).map ii) := by rw [hk4]; exact hs4
    have hL1l : L1.length = M1.length + 1 + 1 + 1 := by rw [← hL1]; rfl
    have hC0 : ∀ w, w ≤ h.clock + (M1.length + 1 + 1 + 1) → (om Tryd.prog KK).call (.fn 12 [.agg [a, ii turn], lv]) (X h L1 w) = .ok (.tup [ii (Cost (payI turn) line), ii 0]) (X h L1 w) := fun w hw => by
      have := Check sp turn a line lv (by omega) (by omega) hcuL _ (wf.X (l := L1) (w := w) (by omega)) (hs.up wf _ _) hslL
      rw [checkR_in hs0 hln] at this; exact this
    have hC1 : ∀ w, w ≤ h.clock + (M1.length + 1 + 1 + 1) → (om Tryd.prog KK).call (.fn 12 [.agg [a1, ii turn], l1]) (X h L1 w) = .ok (.tup [ii (Cost (payI turn) (line.take K)), ii 0]) (X h L1 w) := fun w hw => by
      have := Check (sp.take K) turn a1 (line.take K) l1 (by omega) (by omega) hc3 _ (wf.X (l := L1) (w := w) (by omega)) (hs1.up wf _ _) hs3
      rw [checkR_in hv1 hinp.1] at this; exact this
    have hC2 : ∀ w, w ≤ h.clock + (M1.length + 1 + 1 + 1) → (om Tryd.prog KK).call (.fn 12 [.agg [a2, ii turn], l2]) (X h L1 w) = .ok (.tup [ii (Cost (payI turn) (line.drop K)), ii 0]) (X h L1 w) := fun w hw => by
      have := Check (sp.drop K) turn a2 (line.drop K) l2 (by omega) (by omega) hc4 _ (wf.X (l := L1) (w := w) (by omega)) (hs2.up wf _ _) hs4
      rw [checkR_in hv2 hinp.2] at this; exact this
    have hcut := Cost_cut (t := turn) hturn.1 (line.take K) (line.drop K)
    rw [← hsplit] at hcut
    obtain ⟨v2, h2', e2, L2, lv2, rfl, rfl, hlv2⟩ := fairestAll sp turn hs0 a (X h L1 h.clock) wf1 (t.up wf _ _) (hs.up wf _ _)
    rw [X_X, X_w] at e2
    have wf2 : Wf (X h (L1 ++ L2) h.clock) := wf.X (by omega)
    obtain ⟨v3, h3', e3, L3, lv3, rfl, rfl, hlv3⟩ := fairestAll (sp.take K) turn hv1 a1 (X h (L1 ++ L2) h.clock) wf2 (t.up wf _ _) (hs1.up wf _ _)
    rw [X_X, X_w] at e3
    have wf3 : Wf (X h ((L1 ++ L2) ++ L3) h.clock) := wf.X (by omega)
    obtain ⟨v4, h4', e4, L4, lv4, rfl, rfl, hlv4⟩ := fairestAll (sp.drop K) turn hv2 a2 (X h ((L1 ++ L2) ++ L3) h.clock) wf3 (t.up wf _ _) (hs2.up wf _ _)
    rw [X_X, X_w] at e4
    have hF := fairL_spec (turn := payI turn) (sp := sp) (fun r hr => (hok r hr).2.2.1) (fun e => by rw [e] at n1; simp at n1)
    have hF1 := fairL_spec (turn := payI turn) (sp := sp.take K) (fun r hr => (hok1 r hr).2.2.1) (fun e => by rw [e] at hl1; simp at hl1; omega)
    have hF2 := fairL_spec (turn := payI turn) (sp := sp.drop K) (fun r hr => (hok2 r hr).2.2.1) (fun e => by rw [e] at hl2; simp at hl2; omega)
    have hfp := fair_parts hturn.1 (R := sp.take K) (S := sp.drop K) (by rw [List.take_append_drop]; exact hF) hF1 hF2
    have hci := Cost_in hturn hok n24 hln
    have hci1 := Cost_in hturn hok1 (by omega) hinp.1
    have hci2 := Cost_in hturn hok2 (by omega) hinp.2
    have hf0 := hF.least _ hln
    have hf1 := hF1.least _ hinp.1
    have hf2 := hF2.least _ hinp.2
    have hg1 : 0 ≤ (fairL (payI turn) (sp.take K)).2 := by rw [← hF1.cost]; exact Cost_nn hturn.1 _
    have hg2 : 0 ≤ (fairL (payI turn) (sp.drop K)).2 := by rw [← hF2.cost]; exact Cost_nn hturn.1 _
    generalize Cost (payI turn) line = c0 at *
    generalize Cost (payI turn) (line.take K) = c1 at *
    generalize Cost (payI turn) (line.drop K) = c2 at *
    generalize (fairL (payI turn) sp).2 = f0 at *
    generalize (fairL (payI turn) (sp.take K)).2 = f1 at *
    generalize (fairL (payI turn) (sp.drop K)).2 = f2 at *
    have hrl : reszT Tryd.prog 30 lv = lv := hlv1.resz Tryd.underlying30 sz_2
    rw [hrl] at hsl3 hsl4
    subst hL1
    simp only [List.cons_append, List.append_assoc] at e2 e3 e4 
    (repeat' (first
  | (with_reducible first | refine WC_seq ?_ | refine WC_skip ?_ | refine WC_label ?_ | refine WC_scope ?_ | refine WC_block ?_ | refine WC_ret ?_ | refine WC_exit ?_ | refine seqQ_norm ?_ | refine seqQ_ret ?_ | refine seqQ_exit ?_ | refine blkQ_norm ?_ | refine blkQ_ret ?_ | refine blkQ_here ?_ | refine gateK_yes ?_ | refine gateK_none ?_ | refine condK_tt ?_ | refine condK_ff ?_ | refine roundQ_exit ?_ | refine roundQ_ret ?_)
  | refine WC_region ?_ | refine blkQ_out rfl ?_ | refine WO_nil ?_ | refine WD_nil ?_
  | ((first | refine WD_gate rfl rfl rfl rfl rfl fun K_ hK_ => ?_ | refine WO_gate rfl rfl rfl rfl rfl fun K_ hK_ => ?_); simp only [upd_apply, asB_bool, asB_tup, ↓reduceIte, reduceCtorEq, Nat.reduceEqDiff, Bool.not_true, Bool.not_false]; refine hK_ _ ?_; clear hK_ K_)
  | refine gateK_no (by decide) ?_
  | ((try first | refine WO_op rfl rfl rfl ?_ | refine WO_op0 rfl rfl ?_ | refine WD_op rfl rfl rfl ?_ | refine WD_op0 rfl rfl ?_); (refine WV_gen fun Q_ hQ_ => ?_; simp (disch := first | omega | (simp only [List.length_cons, List.length_nil, List.length_append]; omega)) only [bb, bp, argF, ↓reduceIte, reduceCtorEq, Nat.reduceEqDiff, Nat.reduceLT, Nat.reduceLeDiff, Nat.reduceAdd, Nat.reduceMul, Nat.reduceSub, Nat.reduceBEq, Int.reduceToNat, cond_true, cond_false, eq_self, beq_self_eq_true, e1, hC0, ha1.1, ha1.2, b1.1, b1.2, b2.1, b2.2, hlv.flat.1, hlv.flat.2, newPtr_X wf, load1_X wf, loadAgg_X wf, store1_X wf, writeCells_X wf, tEvbV3, bsl_30, newSlice_X wf]; first | (refine dec_split (Q := Q_) (fun hp_ => ?_) (fun hp_ => ?_) <;> first | (exfalso; omega) | (refine hQ_ _ _ ?_; clear hQ_ Q_)) | (refine dec_splitn (Q := Q_) (fun hp_ => ?_) (fun hp_ => ?_) <;> first | (exfalso; omega) | (refine hQ_ _ _ ?_; clear hQ_ Q_)) | (refine hQ_ _ _ ?_; clear hQ_ Q_)))
  | (refine WC_cond fun K_ hK_ => ?_; simp (disch := omega) only [evT_tmp, upd_apply, WB_some, ↓reduceIte, reduceCtorEq, Nat.reduceEqDiff, Nat.reduceLT]; refine hK_ _ ?_; clear hK_ K_)))
    refine WC_drawnB [.full, .no, .no, .no, .full, .full, .full, .full, .full, .full] (by kernel_rfl) ?_
    (repeat' (first
  | (with_reducible first | refine WC_seq ?_ | refine WC_skip ?_ | refine WC_label ?_ | refine WC_scope ?_ | refine WC_block ?_ | refine WC_ret ?_ | refine WC_exit ?_ | refine seqQ_norm ?_ | refine seqQ_ret ?_ | refine seqQ_exit ?_ | refine blkQ_norm ?_ | refine blkQ_ret ?_ | refine blkQ_here ?_ | refine gateK_yes ?_ | refine gateK_none ?_ | refine condK_tt ?_ | refine condK_ff ?_ | refine roundQ_exit ?_ | refine roundQ_ret ?_)
  | refine WC_region ?_ | refine blkQ_out rfl ?_ | refine WO_nil ?_ | refine WD_nil ?_
  | ((first | refine WD_gate rfl rfl rfl rfl rfl fun K_ hK_ => ?_ | refine WO_gate rfl rfl rfl rfl rfl fun K_ hK_ => ?_); simp only [upd_apply, asB_bool, asB_tup, ↓reduceIte, reduceCtorEq, Nat.reduceEqDiff, Bool.not_true, Bool.not_false]; refine hK_ _ ?_; clear hK_ K_)
  | refine gateK_no (by decide) ?_
  | ((try first | refine WO_op rfl rfl rfl ?_ | refine WO_op0 rfl rfl ?_ | refine WD_op rfl rfl rfl ?_ | refine WD_op0 rfl rfl ?_); (refine WV_gen fun Q_ hQ_ => ?_; simp (disch := first | omega | (simp only [List.length_cons, List.length_nil, List.length_append]; omega)) only [bb, bp, argF, ↓reduceIte, reduceCtorEq, Nat.reduceEqDiff, Nat.reduceLT, Nat.reduceLeDiff, Nat.reduceAdd, Nat.reduceMul, Nat.reduceSub, Nat.reduceBEq, Int.reduceToNat, cond_true, cond_false, eq_self, beq_self_eq_true, hC1, hsl3, hK, hrl, b1.1, b1.2, newPtr_X wf, load1_X wf, loadAgg_X wf, store1_X wf, writeCells_X wf, tEvbV3, bsl_30, newSlice_X wf]; first | (refine dec_split (Q := Q_) (fun hp_ => ?_) (fun hp_ => ?_) <;> first | (exfalso; omega) | (refine hQ_ _ _ ?_; clear hQ_ Q_)) | (refine dec_splitn (Q := Q_) (fun hp_ => ?_) (fun hp_ => ?_) <;> first | (exfalso; omega) | (refine hQ_ _ _ ?_; clear hQ_ Q_)) | (refine hQ_ _ _ ?_; clear hQ_ Q_)))
  | (refine WC_cond fun K_ hK_ => ?_; simp (disch := omega) only [evT_tmp, upd_apply, WB_some, ↓reduceIte, reduceCtorEq, Nat.reduceEqDiff, Nat.reduceLT]; refine hK_ _ ?_; clear hK_ K_)))
    refine WC_drawnB [.full, .no, .no, .no, .full, .full, .full, .full, .full, .full] (by kernel_rfl) ?_
    (repeat' (first
  | (with_reducible first | refine WC_seq ?_ | refine WC_skip ?_ | refine WC_label ?_ | refine WC_scope ?_ | refine WC_block ?_ | refine WC_ret ?_ | refine WC_exit ?_ | refine seqQ_norm ?_ | refine seqQ_ret ?_ | refine seqQ_exit ?_ | refine blkQ_norm ?_ | refine blkQ_ret ?_ | refine blkQ_here ?_ | refine gateK_yes ?_ | refine gateK_none ?_ | refine condK_tt ?_ | refine condK_ff ?_ | refine roundQ_exit ?_ | refine roundQ_ret ?_)
  | refine WC_region ?_ | refine blkQ_out rfl ?_ | refine WO_nil ?_ | refine WD_nil ?_
  | ((first | refine WD_gate rfl rfl rfl rfl rfl fun K_ hK_ => ?_ | refine WO_gate rfl rfl rfl rfl rfl fun K_ hK_ => ?_); simp only [upd_apply, asB_bool, asB_tup, ↓reduceIte, reduceCtorEq, Nat.reduceEqDiff, Bool.not_true, Bool.not_false]; refine hK_ _ ?_; clear hK_ K_)
  | refine gateK_no (by decide) ?_
  | ((try first | refine WO_op rfl rfl rfl ?_ | refine WO_op0 rfl rfl ?_ | refine WD_op rfl rfl rfl ?_ | refine WD_op0 rfl rfl ?_); (refine WV_gen fun Q_ hQ_ => ?_; simp (disch := first | omega | (simp only [List.length_cons, List.length_nil, List.length_append]; omega)) only [bb, bp, argF, ↓reduceIte, reduceCtorEq, Nat.reduceEqDiff, Nat.reduceLT, Nat.reduceLeDiff, Nat.reduceAdd, Nat.reduceMul, Nat.reduceSub, Nat.reduceBEq, Int.reduceToNat, cond_true, cond_false, eq_self, beq_self_eq_true, hC2, hsl4, hK, hrl, b2.1, b2.2, newPtr_X wf, load1_X wf, loadAgg_X wf, store1_X wf, writeCells_X wf, tEvbV3, bsl_30, newSlice_X wf]; first | (refine dec_split (Q := Q_) (fun hp_ => ?_) (fun hp_ => ?_) <;> first | (exfalso; omega) | (refine hQ_ _ _ ?_; clear hQ_ Q_)) | (refine dec_splitn (Q := Q_) (fun hp_ => ?_) (fun hp_ => ?_) <;> first | (exfalso; omega) | (refine hQ_ _ _ ?_; clear hQ_ Q_)) | (refine hQ_ _ _ ?_; clear hQ_ Q_)))
  | (refine WC_cond fun K_ hK_ => ?_; simp (disch := omega) only [evT_tmp, upd_apply, WB_some, ↓reduceIte, reduceCtorEq, Nat.reduceEqDiff, Nat.reduceLT]; refine hK_ _ ?_; clear hK_ K_)))
    (repeat' (first
  | (with_reducible first | refine WC_seq ?_ | refine WC_skip ?_ | refine WC_label ?_ | refine WC_scope ?_ | refine WC_block ?_ | refine WC_ret ?_ | refine WC_exit ?_ | refine seqQ_norm ?_ | refine seqQ_ret ?_ | refine seqQ_exit ?_ | refine blkQ_norm ?_ | refine blkQ_ret ?_ | refine blkQ_here ?_ | refine gateK_yes ?_ | refine gateK_none ?_ | refine condK_tt ?_ | refine condK_ff ?_ | refine roundQ_exit ?_ | refine roundQ_ret ?_)
  | refine WC_region ?_ | refine blkQ_out rfl ?_ | refine WO_nil ?_ | refine WD_nil ?_
  | ((first | refine WD_gate rfl rfl rfl rfl rfl fun K_ hK_ => ?_ | refine WO_gate rfl rfl rfl rfl rfl fun K_ hK_ => ?_); simp only [upd_apply, asB_bool, asB_tup, ↓reduceIte, reduceCtorEq, Nat.reduceEqDiff, Bool.not_true, Bool.not_false]; refine hK_ _ ?_; clear hK_ K_)
  | refine gateK_no (by decide) ?_
  | ((try first | refine WO_op rfl rfl rfl ?_ | refine WO_op0 rfl rfl ?_ | refine WD_op rfl rfl rfl ?_ | refine WD_op0 rfl rfl ?_); (refine WV_gen fun Q_ hQ_ => ?_; simp (disch := first | omega | (simp only [List.length_cons, List.length_nil, List.length_append]; omega)) only [bb, bp, argF, ↓reduceIte, reduceCtorEq, Nat.reduceEqDiff, Nat.reduceLT, Nat.reduceLeDiff, Nat.reduceAdd, Nat.reduceMul, Nat.reduceSub, Nat.reduceBEq, Int.reduceToNat, cond_true, cond_false, eq_self, beq_self_eq_true, e2, e3, e4, ha1.1, ha1.2, b1.1, b1.2, b2.1, b2.2, hlv2.flat.1, hlv2.flat.2, hlv3.flat.1, hlv3.flat.2, hlv4.flat.1, hlv4.flat.2, works', newPtr_X wf, load1_X wf, loadAgg_X wf, store1_X wf, writeCells_X wf, tEvbV3, bsl_30, newSlice_X wf]; first | (refine dec_split (Q := Q_) (fun hp_ => ?_) (fun hp_ => ?_) <;> first | (exfalso; omega) | (refine hQ_ _ _ ?_; clear hQ_ Q_)) | (refine dec_splitn (Q := Q_) (fun hp_ => ?_) (fun hp_ => ?_) <;> first | (exfalso; omega) | (refine hQ_ _ _ ?_; clear hQ_ Q_)) | (refine hQ_ _ _ ?_; clear hQ_ Q_)))
  | (refine WC_cond fun K_ hK_ => ?_; simp (disch := omega) only [evT_tmp, upd_apply, WB_some, ↓reduceIte, reduceCtorEq, Nat.reduceEqDiff, Nat.reduceLT]; refine hK_ _ ?_; clear hK_ K_)))
    (refine endQ_ret _ _ rfl (ret1 (by decide)) ?_; simp only [upd_apply, ↓reduceIte, reduceCtorEq, Nat.reduceEqDiff]; refine WV_flat rfl (by omega) ?_)
    exact ⟨rfl, rfl⟩
  · refine WV_to (WV_call (fn := Tryd.f4) Tryd.func4 rfl rfl rfl rfl rfl ?_)
    simp only [argF]
    by_cases hs0 : spotsR sp turn = 0
    · rw [decide_eq_true hs0] at hfine
      (repeat' (first
  | (with_reducible first | refine WC_seq ?_ | refine WC_skip ?_ | refine WC_label ?_ | refine WC_scope ?_ | refine WC_block ?_ | refine WC_ret ?_ | refine WC_exit ?_ | refine seqQ_norm ?_ | refine seqQ_ret ?_ | refine seqQ_exit ?_ | refine blkQ_norm ?_ | refine blkQ_ret ?_ | refine blkQ_here ?_ | refine gateK_yes ?_ | refine gateK_none ?_ | refine condK_tt ?_ | refine condK_ff ?_ | refine roundQ_exit ?_ | refine roundQ_ret ?_)
  | refine WC_region ?_ | refine blkQ_out rfl ?_ | refine WO_nil ?_ | refine WD_nil ?_
  | ((first | refine WD_gate rfl rfl rfl rfl rfl fun K_ hK_ => ?_ | refine WO_gate rfl rfl rfl rfl rfl fun K_ hK_ => ?_); simp only [upd_apply, asB_bool, asB_tup, ↓reduceIte, reduceCtorEq, Nat.reduceEqDiff, Bool.not_true, Bool.not_false]; refine hK_ _ ?_; clear hK_ K_)
  | refine gateK_no (by decide) ?_
  | ((try first | refine WO_op rfl rfl rfl ?_ | refine WO_op0 rfl rfl ?_ | refine WD_op rfl rfl rfl ?_ | refine WD_op0 rfl rfl ?_); (refine WV_gen fun Q_ hQ_ => ?_; simp (disch := first | omega | (simp only [List.length_cons, List.length_nil, List.length_append]; omega)) only [bb, bp, argF, ↓reduceIte, reduceCtorEq, Nat.reduceEqDiff, Nat.reduceLT, Nat.reduceLeDiff, Nat.reduceAdd, Nat.reduceMul, Nat.reduceSub, Nat.reduceBEq, Int.reduceToNat, cond_true, cond_false, eq_self, beq_self_eq_true, hfine, hlen, hlb, works', ha1.1, ha1.2, newPtr_X wf, load1_X wf, loadAgg_X wf, store1_X wf, writeCells_X wf, tEvbV3, bsl_30, newSlice_X wf]; first | (refine dec_split (Q := Q_) (fun hp_ => ?_) (fun hp_ => ?_) <;> first | (exfalso; omega) | (refine hQ_ _ _ ?_; clear hQ_ Q_)) | (refine dec_splitn (Q := Q_) (fun hp_ => ?_) (fun hp_ => ?_) <;> first | (exfalso; omega) | (refine hQ_ _ _ ?_; clear hQ_ Q_)) | (refine hQ_ _ _ ?_; clear hQ_ Q_)))
  | (refine WC_cond fun K_ hK_ => ?_; simp (disch := omega) only [evT_tmp, upd_apply, WB_some, ↓reduceIte, reduceCtorEq, Nat.reduceEqDiff, Nat.reduceLT]; refine hK_ _ ?_; clear hK_ K_)))
      all_goals first | (exfalso; omega) | skip
      all_goals (refine endQ_ret _ _ rfl (ret1 (by decide)) ?_; simp only [upd_apply, ↓reduceIte, reduceCtorEq, Nat.reduceEqDiff]; refine WV_flat rfl (by omega) ?_)
      all_goals exact ⟨rfl, rfl⟩
    · rw [decide_eq_false hs0] at hfine
      (repeat' (first
  | (with_reducible first | refine WC_seq ?_ | refine WC_skip ?_ | refine WC_label ?_ | refine WC_scope ?_ | refine WC_block ?_ | refine WC_ret ?_ | refine WC_exit ?_ | refine seqQ_norm ?_ | refine seqQ_ret ?_ | refine seqQ_exit ?_ | refine blkQ_norm ?_ | refine blkQ_ret ?_ | refine blkQ_here ?_ | refine gateK_yes ?_ | refine gateK_none ?_ | refine condK_tt ?_ | refine condK_ff ?_ | refine roundQ_exit ?_ | refine roundQ_ret ?_)
  | refine WC_region ?_ | refine blkQ_out rfl ?_ | refine WO_nil ?_ | refine WD_nil ?_
  | ((first | refine WD_gate rfl rfl rfl rfl rfl fun K_ hK_ => ?_ | refine WO_gate rfl rfl rfl rfl rfl fun K_ hK_ => ?_); simp only [upd_apply, asB_bool, asB_tup, ↓reduceIte, reduceCtorEq, Nat.reduceEqDiff, Bool.not_true, Bool.not_false]; refine hK_ _ ?_; clear hK_ K_)
  | refine gateK_no (by decide) ?_
  | ((try first | refine WO_op rfl rfl rfl ?_ | refine WO_op0 rfl rfl ?_ | refine WD_op rfl rfl rfl ?_ | refine WD_op0 rfl rfl ?_); (refine WV_gen fun Q_ hQ_ => ?_; simp (disch := first | omega | (simp only [List.length_cons, List.length_nil, List.length_append]; omega)) only [bb, bp, argF, ↓reduceIte, reduceCtorEq, Nat.reduceEqDiff, Nat.reduceLT, Nat.reduceLeDiff, Nat.reduceAdd, Nat.reduceMul, Nat.reduceSub, Nat.reduceBEq, Int.reduceToNat, cond_true, cond_false, eq_self, beq_self_eq_true, hfine, hlen, hlb, works', ha1.1, ha1.2, newPtr_X wf, load1_X wf, loadAgg_X wf, store1_X wf, writeCells_X wf, tEvbV3, bsl_30, newSlice_X wf]; first | (refine dec_split (Q := Q_) (fun hp_ => ?_) (fun hp_ => ?_) <;> first | (exfalso; omega) | (refine hQ_ _ _ ?_; clear hQ_ Q_)) | (refine dec_splitn (Q := Q_) (fun hp_ => ?_) (fun hp_ => ?_) <;> first | (exfalso; omega) | (refine hQ_ _ _ ?_; clear hQ_ Q_)) | (refine hQ_ _ _ ?_; clear hQ_ Q_)))
  | (refine WC_cond fun K_ hK_ => ?_; simp (disch := omega) only [evT_tmp, upd_apply, WB_some, ↓reduceIte, reduceCtorEq, Nat.reduceEqDiff, Nat.reduceLT]; refine hK_ _ ?_; clear hK_ K_)))
      (refine endQ_ret _ _ rfl (ret1 (by decide)) ?_; simp only [upd_apply, ↓reduceIte, reduceCtorEq, Nat.reduceEqDiff]; refine WV_flat rfl (by omega) ?_)
      exact ⟨rfl, rfl⟩
end Go.Proofs.YtkmdidplmfdikabDoor
end

/- EvbX0 -/
section
/-
  The program's orders are mixed: what every run asks.
-/
namespace Go.Proofs.YtkmdidplmfdikabDoor
open Go.Ev
theorem mixed : Tryd.prog.follows .mixedOrders = true := Checked.mixed Tryd.checked
theorem con_alone {n : Nat} {c : Con} (h : chk c ((evc Tryd.prog [] n).call (.fn c.g c.args) (smallH c.tb)) = true) : ConOK Tryd.prog c :=
  con_run (P := Tryd.prog) mixed (cons := []) (fun _ h => by cases h) (n := n) (c := c) h
end Go.Proofs.YtkmdidplmfdikabDoor
end

/- EvbXcS0 -/
section
/-
  WHAT A CALL OF THE PROGRAM COMES TO IN A SMALL MEMORY: run by the kernel.
-/

namespace Go.Proofs.YtkmdidplmfdikabDoor
open Go.Ev
noncomputable def cS0 : Con := ⟨13, [(.agg [(.sl (.i (.o (.o (.o (.o (.o .e)))))) 0 5 (some 5) 2), (.int .i64 100)]), (.int .i64 0)], [(.e, [(.int .i64 1099511627776), (.int .i64 1099511627776), (.int .i64 1099511627776)]), ((.i (.o (.o (.o (.o (.o .e)))))), [(.int .i64 0), (.int .i64 0), (.int .i64 2), (.int .i64 3), (.int .i64 4), (.int .i64 4), (.int .i64 5), (.int .i64 7), (.int .i64 10), (.int .i64 10)])], (.tup [(.sl (.o (.o (.i (.o (.o (.o (.o .e))))))) 0 5 none 2), (.int .i64 0)]), [((.o (.o (.i (.o (.o (.o (.o .e))))))), [(.int .i64 0), (.int .i64 0), (.int .i64 2), (.int .i64 2), (.int .i64 4), (.int .i64 4), (.int .i64 6), (.int .i64 7), (.int .i64 10), (.int .i64 10)], 35)]⟩
set_option maxRecDepth 100000
set_option maxHeartbeats 0
theorem cS0_run : chk cS0 ((evc Tryd.prog [] 100000).call (.fn cS0.g cS0.args) (smallH cS0.tb)) = true := by kernel_rfl
theorem cS0_ok : ConOK Tryd.prog cS0 := con_alone (n := 100000) (c := cS0) cS0_run
end Go.Proofs.YtkmdidplmfdikabDoor
end

/- EvbXcF1 -/
section
/-
  WHAT A CALL OF THE PROGRAM COMES TO IN A SMALL MEMORY: run by the kernel.
-/

namespace Go.Proofs.YtkmdidplmfdikabDoor
open Go.Ev
noncomputable def cF1 : Con := ⟨9, [(.agg [(.sl (.i (.o (.o (.o (.o (.o .e)))))) 0 5 (some 5) 2), (.int .i64 100)])], [(.e, [(.int .i64 1099511627776), (.int .i64 1099511627776), (.int .i64 1099511627776)]), ((.i (.o (.o (.o (.o (.o .e)))))), [(.int .i64 0), (.int .i64 0), (.int .i64 2), (.int .i64 3), (.int .i64 4), (.int .i64 4), (.int .i64 5), (.int .i64 7), (.int .i64 10), (.int .i64 10)])], (.tup [(.sl (.i (.o (.o (.o (.o (.i (.o (.i .e)))))))) 0 5 none 1), (.int .i64 1), (.int .i64 0)]), [((.i (.o (.o (.o (.o (.i (.o (.i .e)))))))), [(.int .i64 0), (.int .i64 2), (.int .i64 4), (.int .i64 7), (.int .i64 10)], 2)]⟩
set_option maxRecDepth 100000
set_option maxHeartbeats 0
theorem cF1_run : chk cF1 ((evc Tryd.prog [] 100000).call (.fn cF1.g cF1.args) (smallH cF1.tb)) = true := by kernel_rfl
theorem cF1_ok : ConOK Tryd.prog cF1 := con_alone (n := 100000) (c := cF1) cF1_run
end Go.Proofs.YtkmdidplmfdikabDoor
end

/- EvbXcL -/
section
/-
  WHAT A CALL OF THE PROGRAM COMES TO IN A SMALL MEMORY: run by the kernel.
-/

namespace Go.Proofs.YtkmdidplmfdikabDoor
open Go.Ev
noncomputable def cL : Con := ⟨19, [(.agg [(.sl (.i (.o (.o (.o (.o (.o .e)))))) 0 5 (some 5) 2), (.int .i64 100)])], [(.e, [(.int .i64 1099511627776), (.int .i64 1099511627776), (.int .i64 1099511627776)]), ((.i (.o (.o (.o (.o (.o .e)))))), [(.int .i64 0), (.int .i64 0), (.int .i64 2), (.int .i64 3), (.int .i64 4), (.int .i64 4), (.int .i64 5), (.int .i64 7), (.int .i64 10), (.int .i64 10)])], (.tup [(.sl (.i (.i (.o (.i (.i (.i (.i (.i .e)))))))) 0 30 none 1), (.int .i64 0)]), [((.i (.i (.o (.i (.i (.i (.i (.i .e)))))))), [(.int .i64 0), (.int .i64 1099511627776), (.int .i64 1099511627776), (.int .i64 0), (.int .i64 1099511627776), (.int .i64 1099511627776), (.int .i64 0), (.int .i64 1099511627776), (.int .i64 1099511627776), (.int .i64 1099511627776), (.int .i64 1099511627776), (.int .i64 2), (.int .i64 1099511627776), (.int .i64 1099511627776), (.int .i64 1), (.int .i64 0), (.int .i64 103), (.int .i64 1099511627776), (.int .i64 1099511627776), (.int .i64 1), (.int .i64 1099511627776), (.int .i64 1099511627776), (.int .i64 105), (.int .i64 1099511627776), (.int .i64 1099511627776), (.int .i64 2), (.int .i64 1099511627776), (.int .i64 1099511627776), (.int .i64 1), (.int .i64 1099511627776)], 2)]⟩
set_option maxRecDepth 100000
set_option maxHeartbeats 0
theorem cL_run : chk cL ((evc Tryd.prog [] 100000).call (.fn cL.g cL.args) (smallH cL.tb)) = true := by kernel_rfl
theorem cL_ok : ConOK Tryd.prog cL := con_alone (n := 100000) (c := cL) cL_run
end Go.Proofs.YtkmdidplmfdikabDoor
end

/- EvbXcC1 -/
section
/-
  WHAT A CALL OF THE PROGRAM COMES TO IN A SMALL MEMORY: run by the kernel.
-/

namespace Go.Proofs.YtkmdidplmfdikabDoor
open Go.Ev
noncomputable def cC1 : Con := ⟨16, [(.agg [(.sl (.i (.o (.o (.o (.o (.o .e)))))) 0 5 (some 5) 2), (.int .i64 100)]), (.sl (.o (.i (.o (.o (.o (.o .e)))))) 0 30 none 1)], [(.e, [(.int .i64 1099511627776), (.int .i64 1099511627776), (.int .i64 1099511627776)]), ((.i (.o (.o (.o (.o (.o .e)))))), [(.int .i64 0), (.int .i64 0), (.int .i64 2), (.int .i64 3), (.int .i64 4), (.int .i64 4), (.int .i64 5), (.int .i64 7), (.int .i64 10), (.int .i64 10)]), ((.o (.i (.o (.o (.o (.o .e)))))), [(.int .i64 0), (.int .i64 1099511627776), (.int .i64 1099511627776), (.int .i64 0), (.int .i64 1099511627776), (.int .i64 1099511627776), (.int .i64 0), (.int .i64 1099511627776), (.int .i64 1099511627776), (.int .i64 1099511627776), (.int .i64 1099511627776), (.int .i64 2), (.int .i64 1099511627776), (.int .i64 1099511627776), (.int .i64 1), (.int .i64 0), (.int .i64 103), (.int .i64 1099511627776), (.int .i64 1099511627776), (.int .i64 1), (.int .i64 1099511627776), (.int .i64 1099511627776), (.int .i64 105), (.int .i64 1099511627776), (.int .i64 1099511627776), (.int .i64 2), (.int .i64 1099511627776), (.int .i64 1099511627776), (.int .i64 1), (.int .i64 1099511627776)])], (.tup [(.int .i64 1), (.int .i64 0)]), []⟩
set_option maxRecDepth 100000
set_option maxHeartbeats 0
theorem cC1_run : chk cC1 ((evc Tryd.prog [] 100000).call (.fn cC1.g cC1.args) (smallH cC1.tb)) = true := by kernel_rfl
theorem cC1_ok : ConOK Tryd.prog cC1 := con_alone (n := 100000) (c := cC1) cC1_run
end Go.Proofs.YtkmdidplmfdikabDoor
end

/- EvbXcW -/
section
/-
  WHAT A CALL OF THE PROGRAM COMES TO IN A SMALL MEMORY: run by the kernel.
-/
namespace Go.Proofs.YtkmdidplmfdikabDoor
open Go.Ev
set_option maxRecDepth 100000
set_option maxHeartbeats 0
theorem cW_run : chk cW ((evc Tryd.prog [cS0, cF1, cL, cC1] 100000).call (.fn cW.g cW.args) (smallH cW.tb)) = true := by kernel_rfl
theorem cW_ok : ConOK Tryd.prog cW := con_run (P := Tryd.prog) mixed (cons := [cS0, cF1, cL, cC1]) (n := 100000) (c := cW) (fun _ h => by
  simp only [List.mem_cons, List.not_mem_nil, or_false] at h
  rcases h with rfl | rfl | rfl | rfl
  · exact cS0_ok
  · exact cF1_ok
  · exact cL_ok
  · exact cC1_ok) cW_run
end Go.Proofs.YtkmdidplmfdikabDoor
end

/- EvS24 -/
section
/-
  ARGUMENTS OPENED: slices of slices, of numbers, of ranges.
-/
namespace Go.Ev
open Go.ChangeShapes Go.WideShapes Go.ChangeAt Go.RowKit Go.Deep
section
variable {H : Type} {enc : TypeId × Value → H} {P : Program} {r : Reach} {bs : Nat}

end
end Go.Ev
end

/- EvL18 -/
section
/-
  BYTES THAT COME IN.
-/
namespace Go.Ev
open Go.ChangeShapes Go.WideShapes Go.ChangeAt Go.RowKit
section
variable {H : Type} {enc : TypeId × Value → H} {P : Program} {r : Reach} {bs : Nat}
theorem open_u8s {W : World} {t e : TypeId} {v : Value} {fuel : Nat} {x : DataW H × List MemPlace} (hu : P.underlying t = some (.slice e)) (he : P.underlying e = some (.int .u8)) (hc : P.cellsOf e = 1)
    (hval : Cell.okWide P W r bs t v) (h : DataW.trod enc P W 0 (fun _ => true) true fuel t [v] = some x) :
    ∃ (xs : List Int) (b : AV), VR (startWR W) b v ∧ Sl (startW W) b 1 xs.length (xs.map fun n => .int .u8 n) ∧ ∀ n ∈ xs, 0 ≤ n ∧ n ≤ 255 := by
  rcases slice_form hu hval with rfl | ⟨b, off, len, cap, rfl, hlc, hex⟩
  · exact ⟨[], .nils, .nils, Sl.nil _ _, fun n hn => by cases hn⟩
  · rcases open_ints hu he hc h with ⟨h0, _⟩ | ⟨a, len', cap', zs, h0, _, _, _, hz, _, hcell, hwf⟩
    · cases h0
    · cases h0
      simp only [if_true] at hz
      have hlen : (zs.take len).length = len := by rw [List.length_take]; omega
      refine ⟨zs.take len, .sl (posN b) off len (some cap) 0, startW_arg (lt_of_block hex) hlc, ?_, fun n hn => ?_⟩
      · rw [hlen]
        refine startW_sl hex (by rw [List.length_map, hlen]; omega) (fun k hk => ⟨.int .u8 (zs.getD k 0), ?_, ?_⟩)
        · rw [← add_at]; exact hcell k (by omega)
        · rw [show absV (NW W) (.int .u8 (zs.getD k 0)) = some (.int .u8 (zs.getD k 0)) from rfl, List.getElem?_map, List.getElem?_take_of_lt (by omega), List.getElem?_eq_getElem (by omega)]
          simp [show k < zs.length by omega]
      · have := hwf n (List.mem_of_mem_take hn)
        unfold Lit.wf at this
        rw [Bool.and_eq_true] at this
        exact ⟨of_decide_eq_true this.1, of_decide_eq_true this.2⟩
end
end Go.Ev
end

/- EvbKp -/
section
/- The statement FairParts of layer 1: a line, and the fairest one, cost at least as much as both of their parts, for all spots, cuts and lines by numbers; the package's table of costs is as the text lays it. -/
namespace Go.Proofs.YtkmdidplmfdikabDoor.fairParts
open Go.ChangeShapes Go.WideShapes Go.ChangeAt Go.RowKit Go.Ev
set_option maxRecDepth 100000
set_option maxHeartbeats 0

theorem own : ownKnob Tryd.prog.godebug = none := by kernel_rfl
theorem laidOut : laidOutB Tryd.prog = true := by kernel_rfl
theorem gTab : Tryd.prog.globalNamed "tumblehome/fair.none" = some 0 := by kernel_rfl
theorem gTabType : (Tryd.prog.globals[0]?).map (·.type) = some 95 := by kernel_rfl
theorem cells95 : Tryd.prog.cellsOf 95 = 3 := by kernel_rfl
theorem cells2 : Tryd.prog.cellsOf 2 = 1 := by kernel_rfl
theorem cells22 : Tryd.prog.cellsOf 22 = 1 := by kernel_rfl
theorem cells24 : Tryd.prog.cellsOf 24 = 2 := by kernel_rfl
theorem cells35 : Tryd.prog.cellsOf 35 = 2 := by kernel_rfl
theorem types24 : Tryd.prog.cellTypes Tryd.prog.depth 24 = some [22, 2] := by kernel_rfl
theorem under24 : ∃ f0 f1 : Field, Tryd.prog.underlying 24 = some (.struct #[f0, f1]) ∧ f0.offset = 0 ∧ f1.offset = 1 ∧ f0.type = 22 ∧ f1.type = 2 := ⟨_, _, Tryd.underlying24, rfl, rfl, rfl, rfl⟩
theorem under35 : ∃ f0 f1 : Field, Tryd.prog.underlying 35 = some (.struct #[f0, f1]) ∧ f0.offset = 0 ∧ f1.offset = 1 ∧ f0.type = 2 ∧ f1.type = 2 := ⟨_, _, Tryd.underlying35, rfl, rfl, rfl, rfl⟩

theorem table {W : World} (h : laidMetH Tryd.prog Rows.fairPartsRow.laid W) : Lib.TabIs Tryd.prog W "tumblehome/fair.none" .i64 [1099511627776, 1099511627776, 1099511627776] :=
  Lib.tabIs_of_head (rest := []) gTab gTabType Tryd.underlying95 Tryd.underlying2 cells2 cells95 h
theorem tab {W : World} (h : laidMetH Tryd.prog Rows.fairPartsRow.laid W) : Tab (startW W) := by
  have t := table h
  have c0 : W.cell? ⟨0, 0, none⟩ = some (.int .i64 1099511627776) := t.cell gTab 0 (by decide)
  have c1 : W.cell? ⟨0, 1, none⟩ = some (.int .i64 1099511627776) := t.cell gTab 1 (by decide)
  have c2 : W.cell? ⟨0, 2, none⟩ = some (.int .i64 1099511627776) := t.cell gTab 2 (by decide)
  obtain ⟨c, e, f, h0, g0⟩ := cell_block c0
  obtain ⟨_, _, _, h1, g1⟩ := cell_block c1
  obtain ⟨_, _, _, h2, g2⟩ := cell_block c2
  rw [h0] at h1 h2
  cases h1
  cases h2
  exact ⟨_, startW_block h0, by show (c[0]?).bind _ = _; rw [g0]; rfl, by show (c[1]?).bind _ = _; rw [g1]; rfl, by show (c[2]?).bind _ = _; rw [g2]; rfl⟩

theorem cells5 : Tryd.prog.cellsOf 5 = 1 := by kernel_rfl
theorem okWideU8 {W : World} {t : TypeId} {v : Value} {r : Reach} {bs : Nat} (hu : Tryd.prog.underlying t = some (.int .u8)) (h : Cell.okWide Tryd.prog W r bs t v) : ∃ n, v = .int .u8 n ∧ 0 ≤ n ∧ n ≤ 255 := by
  unfold Cell.okWide at h
  rw [hu] at h
  have h' : Cell.ok Tryd.prog W r bs t v := by cases v <;> exact h
  unfold Cell.ok at h'
  rw [hu] at h'
  cases v with
  | int k' n =>
    obtain ⟨rfl, h1, h2⟩ := h'
    exact ⟨n, rfl, h1, h2⟩
  | _ => exact h'.elim

theorem contract (H : Type) (enc : TypeId × Value → H) (W : World) (base : Nat) (args : Array Value) (ds gs : List (DataW H)) (before : List MemPlace) (hval : ∀ (j : Nat) t v, Tryd.f4.params[j]? = some t → args[j]? = some v → Value.okWide Tryd.prog W .any base t v)
    (hW : DataW.Whole enc Tryd.prog Tryd.f4.params.toList Rows.fairPartsSpec.vars false W args.toList ds gs before) (hL : laidMetH Tryd.prog Rows.fairPartsRow.laid W) :
    Calls Tryd.prog 4 args W fun e W' => ∃ v, e = .returned v ∧ Rows.fairPartsSpec.post enc Tryd.prog Tryd.f4 false true false false W args v W' := by
  have hW' := hW
  obtain ⟨p, q, hA0, hV, rfl, hfz, hnd⟩ := hW
  have hA : DataW.TrodAll enc Tryd.prog W 0 (fun _ => true) true Tryd.f4.params.toList args.toList ds p := hA0
  rw [Tryd.params4] at hA hval
  obtain ⟨v0, v1, v2, d0, d1, d2, p0, p1, p2, rfl, rfl, rfl, ⟨n0, h0⟩, ⟨n1, h1⟩, ⟨n2, h2⟩⟩ := trodAll_three hA
  obtain ⟨f0, f1, hu, o0, o1, t0, t1⟩ := under24
  obtain ⟨g0, g1, hg, go0, go1, gt0, gt1⟩ := under35
  obtain ⟨u, w, n, y, z, rfl, k0, k1, r0, r1⟩ := open_two hu cells24 o0 o1 t0 t1 cells22 cells2 types24 (hval 0 24 v0 rfl rfl) h0
  obtain ⟨turn, hz, _⟩ := DataW.trod_int Tryd.underlying2 r1
  cases hz
  obtain ⟨sp, a, va, ca, sa⟩ := open_pairs Tryd.underlying22 hg cells35 go0 go1 gt0 gt1 Tryd.underlying2 cells2 k0 r0
  obtain ⟨at_, hz, hat⟩ := okWideU8 Tryd.underlying5 (okWide_cell (P := Tryd.prog) Tryd.underlying5 (fun _ e => by cases e) (fun _ _ e => by cases e) (hval 1 5 v1 rfl rfl))
  subst hz
  have kb := okWide_cell (P := Tryd.prog) Tryd.underlying27 (fun _ e => by cases e) (fun _ _ e => by cases e) (hval 2 27 v2 rfl rfl)
  rw [slice_cells Tryd.underlying27 kb] at h2
  obtain ⟨bys, b, vb, sb, hby⟩ := open_u8s Tryd.underlying27 Tryd.underlying5 cells5 kb h2
  have walk := lawParts sp turn at_ bys hat hby a b ca (startW W) (startW_wf W) (tab hL) sa sb
  have hargs : VL (startWR W) [.agg [a, .int .i64 turn], .int .u8 at_, b] (#[.agg #[u, .int .i64 turn], .int .u8 at_, v2] : Array Value).toList :=
    .cons _ _ _ _ (.agg _ _ (.cons _ _ _ _ va (.cons _ _ _ _ (.int _ _) .nil))) (.cons _ _ _ _ (.int _ _) (.cons _ _ _ _ vb .nil))
  refine (startW_true (P := Tryd.prog) mixed (K := KK) (fun c hc => by
    have : c = cW := List.mem_singleton.1 hc
    rw [this]; exact cW_ok) walk hargs).mono fun e W' ⟨he, hgr, hs⟩ => ?_
  subst he
  refine ⟨_, rfl, law_post laidOut (by
    rw [Tryd.params4]
    intro t ht
    rcases List.mem_cons.1 ht with rfl | ht
    · exact ⟨by kernel_rfl, of_decide_eq_true (by kernel_rfl)⟩
    rcases List.mem_cons.1 ht with rfl | ht
    · exact ⟨by kernel_rfl, of_decide_eq_true (by kernel_rfl)⟩
    rcases List.mem_cons.1 ht with rfl | ht
    · exact ⟨by kernel_rfl, of_decide_eq_true (by kernel_rfl)⟩
    cases ht) rfl (by kernel_rfl) Tryd.underlying4 (fun gs' ⟨q', hq⟩ => ?_) hW' hgr hs⟩
  obtain ⟨rfl, _⟩ := trodVars_none hq
  exact ⟨rfl, rfl, rfl⟩

/-- A world for the witness. -/
noncomputable def laidWorld (os : Os) : World :=
  { World.holding Tryd.prog os ⟨#[], #[], []⟩ with heap := (World.holding Tryd.prog os ⟨#[], #[], []⟩).heap.modify 0 fun
      | .cells _ t frozen => .cells #[.int .i64 1099511627776, .int .i64 1099511627776, .int .i64 1099511627776] t frozen
      | o => o }
noncomputable def args0 : Array Value := #[.agg #[.slice none 0 0, .int .i64 0], .int .u8 0, .slice none 0 0]
theorem laid_met (os : Os) : laidMet Tryd.prog Rows.fairPartsRow.laid ((laidWorld os).forCall (fun _ _ => 0) ⟨#[], args0, []⟩).memory :=
  laidMet_of_run' 8 (by kernel_rfl) (by kernel_rfl)
theorem reads (os : Os) {H : Type} (enc : TypeId × Value → H) : ∃ places, DataW.whole enc Tryd.prog ((laidWorld os).forCall (fun _ _ => 0) ⟨#[], args0, []⟩).memory Tryd.f4.params.toList Rows.fairPartsSpec.vars false args0.toList 8 = some ([.agg [.nil, .lit (.int .i64 0)], .lit (.int .u8 0), .nil], [], places) :=
  ⟨[], by kernel_rfl⟩

theorem lifted (os : Os) (started : os.Started) (H : Type) (enc : TypeId × Value → H) (F : Stop.Interp) :
    ReturnsInHanded {} Tryd.checked os 4 .any ((OpenSpec.ofChange Rows.fairPartsSpec).preRow enc Tryd.prog Tryd.f4 Rows.fairPartsRow.domain false Rows.fairPartsRow.laid) (((OpenSpec.ofChange Rows.fairPartsSpec).at F).post enc Tryd.prog Tryd.f4 false true false false) := by
  obtain ⟨places, hx⟩ := reads os enc
  refine returnsInHanded_of_row (C := Tryd.checked) (s := OpenSpec.ofChange Rows.fairPartsSpec) own started (by kernel_rfl) Tryd.func4
    (witness_row_at (enc := enc) (C := Tryd.checked) false (laidWorld os) args0 rfl (by kernel_rfl) (by kernel_rfl) (by kernel_rfl)
      (OpenSpec.preRow_of_cond 8 hx (by kernel_rfl) (fun k hk => by cases hk) (by kernel_rfl) (laid_met os))) ?_
  intro W base args ds gs before hval hW _ _ _ hL _ _
  exact contract H enc W base args ds gs before hval hW hL

theorem said : Rows.FairPartsSaid :=
  OpenClaim.holds_of_cond 4 Tryd.f4 rfl rfl rfl rfl rfl rfl rfl ⟨rfl, rfl, rfl, rfl, rfl⟩ rfl rfl rfl rfl rfl (by kernel_rfl) Tryd.func4 (by kernel_rfl)
    (of_decide_eq_true (by kernel_rfl)) (by unfold Func.isWrapper; first | (rw [if_pos (by decide +kernel)]; kernel_rfl) | (rw [if_neg (by decide +kernel)]; exact ⟨rfl, rfl⟩))
    (fun os started H enc _ F => by rw [OpenClaim.pre_eq_preRow]; exact lifted os started H enc F)

theorem stand24 : Tryd.pinned.checked.prog.wantsStandIn 24 = false := by kernel_rfl
theorem stand5 : Tryd.pinned.checked.prog.wantsStandIn 5 = false := by kernel_rfl
theorem stand27 : Tryd.pinned.checked.prog.wantsStandIn 27 = false := by kernel_rfl
theorem plain (f : FuncId) (fn : Func) (hf : Tryd.pinned.checked.prog.funcNamed "tumblehome/tumblehomelaw01.FairParts" = some f) (hfn : Tryd.pinned.checked.prog.funcs[f]? = some fn) :
    false = Tryd.pinned.checked.prog.looks [] ∧ ∀ (j : Nat) t, fn.params[j]? = some t → Tryd.pinned.checked.prog.wantsStandIn t = false := by
  obtain rfl : f = 4 := Option.some.inj ((show Tryd.prog.funcNamed "tumblehome/tumblehomelaw01.FairParts" = some 4 by kernel_rfl).symm.trans hf) |>.symm
  obtain rfl : fn = Tryd.f4 := (Option.some.inj (Tryd.func4.symm.trans hfn)).symm
  refine ⟨by kernel_rfl, fun j t ht => ?_⟩
  rw [Tryd.params4] at ht
  match j, ht with
  | 0, ht =>
    have e : t = 24 := by simpa using ht.symm
    rw [e]
    exact stand24
  | 1, ht =>
    have e : t = 5 := by simpa using ht.symm
    rw [e]
    exact stand5
  | 2, ht =>
    have e : t = 27 := by simpa using ht.symm
    rw [e]
    exact stand27
  | j + 3, ht => simp at ht

/-- ████ THE CARD ████ -/
theorem card : Rows.FairPartsCardSaid :=
  Claim7.holds_tied_plain_at .later [] _ _ _ _ said (fun _ h => by cases h) (by kernel_rfl) (fun _ h => by cases h) fairParts_row_tie rfl ⟨rfl, rfl⟩ (by kernel_rfl) rfl plain (by kernel_rfl)
end Go.Proofs.YtkmdidplmfdikabDoor.fairParts
end
