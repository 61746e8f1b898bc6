/- The statement FairFairest of layer 1: the fairest line within spots, and what it costs, are those of the first of all lines that cost least, or the error, for all spots; the package's table of costs is as the text lays it. -/
import Derived.Test.YtkmdidplmfdikaaDoorM6
import Derived.Test.YtkmdidplmfdikaaDoorChecked
import Derived.Eval
import Derived.KernelRfl
import Derived.Test.YtkmdidplmfdikaaDoorCards
import Derived.Test.YtkmdidplmfdikaaDoorTie
import Derived.WalkKit
import Derived.ProofKit
import Derived.OpenShut
import Derived.Deep.DeepHandedRow
import Derived.Lib.LaidTab
set_option linter.all false
/- EvU2 -/
section
/-
  LAYER 1, reference: all lines within spots.
-/
namespace Go.Proofs.YtkmdidplmfdikaaDoor
open Go.Ev
set_option maxRecDepth 100000
set_option linter.unusedSimpArgs false
set_option linter.unusedVariables false
set_option maxHeartbeats 4000000

theorem tEvU2 : type_of% (And.intro (And.intro (And.intro (And.intro (@bs_71) (And.intro (@ia_2) (@sz_2))) (And.intro (@ia_3) (And.intro (@sz_3) (@ia_27)))) (And.intro (And.intro (@ia_51) (And.intro (@sz_51) (@ia_24))) (And.intro (@sz_24) (And.intro (@ia_22) (@ia_25))))) (And.intro (And.intro (And.intro (@sz_25) (And.intro (@ia_52) (@fo_51_0))) (And.intro (@fo_51_1) (And.intro (@fo_24_0) (@fo_24_1)))) (And.intro (And.intro (@ze_51) (And.intro (@pb_15) (@pb_38))) (And.intro (And.intro (@pb_46) (@pb_30)) (And.intro (@ni_25) (@ni_52)))))) := And.intro (And.intro (And.intro (And.intro (@bs_71) (And.intro (@ia_2) (@sz_2))) (And.intro (@ia_3) (And.intro (@sz_3) (@ia_27)))) (And.intro (And.intro (@ia_51) (And.intro (@sz_51) (@ia_24))) (And.intro (@sz_24) (And.intro (@ia_22) (@ia_25))))) (And.intro (And.intro (And.intro (@sz_25) (And.intro (@ia_52) (@fo_51_0))) (And.intro (@fo_51_1) (And.intro (@fo_24_0) (@fo_24_1)))) (And.intro (And.intro (@ze_51) (And.intro (@pb_15) (@pb_38))) (And.intro (And.intro (@pb_46) (@pb_30)) (And.intro (@ni_25) (@ni_52)))))
/-- A list of numbers that a call is given. -/
structure InV (h : H) (bv : AV) (bs : List Int) : Prop where
  sl : Sl h bv 1 bs.length (bs.map ii)
  cap : Cape 1 bv
theorem InV.nils (h : H) : InV h .nils [] := ⟨⟨rfl, .inl ⟨rfl, rfl⟩⟩, fun _ _ _ _ e => by cases e⟩
theorem lineInV {h : H} (wf : Wf h) {L : List AO} {lv : AV} {bs : List Int} (x : LineV h L 2 lv (bs.map ii)) (w : Nat) : InV (X h L w) lv bs := by
  refine ⟨?_, ?_⟩
  · have := x.sl wf w
    rwa [List.length_map] at this
  · obtain ⟨_, c, rfl, _, _⟩ := x
    intro _ _ _ _ e; cases e; rfl

/-- What all lines that begin so are, in memory. -/
def LinesQ (h : H) (ls : List (List Int)) (bv : AV) (last : Bool) : AV → H → Prop := fun v h' => ∃ (L : List AO) (vs : List AV), h' = X h L h.w ∧ LineV h L 25 v vs ∧ ((last = true ∧ vs = [bv]) ∨ (last = false ∧ LV h L vs ls))

theorem lines (sp : List (Int × Int)) (hn : sp.length ≤ 24) (hok : ∀ r ∈ sp, SpotOK r) (a : AV) (turn : Int) : ∀ (m k : Nat), k + m = sp.length → ∀ (bs : List Int) (bv : AV) (h : H), bs.length = k → manyL (sp.drop k) ≤ 1500 → Wf h → Sl h a 2 sp.length (spotCells sp) → InV h bv bs →
    WV ((om Tryd.prog KK).call (.fn 46 [.agg [a, ii turn], bv]) h) (LinesQ h (linesR (sp.drop k) bs) bv (decide (m = 0)))
  | 0, k, hk, bs, bv, h, hbl, hm, wf, hs, hb => by
    have hlen : ∀ h', lenE Tryd.prog 22 a h' = some (ii (sp.length : Int)) := fun h' => hs.len un_22
    have hlb : ∀ h', lenE Tryd.prog 25 bv h' = some (ii (sp.length : Int)) := fun h' => by have := hb.sl.len un_25 (h' := h'); rwa [hbl, show k = sp.length from by omega] at this
    have hb1 : oneB bv = true ∧ AV.cells bv = [bv] := by obtain ⟨_, ⟨rfl, _⟩ | ⟨_, _, _, _, _, _, rfl, _⟩⟩ := hb.sl <;> exact ⟨rfl, rfl⟩
    refine WV_call (fn := Tryd.f46) Tryd.func46 rfl rfl rfl rfl rfl ?_
    simp only [argF]
    (repeat' (first
  | (with_reducible first | refine WC_seq ?_ | refine WC_skip ?_ | refine WC_label ?_ | refine WC_scope ?_ | refine WC_block ?_ | refine WC_ret ?_ | refine WC_exit ?_ | refine seqQ_norm ?_ | refine seqQ_ret ?_ | refine seqQ_exit ?_ | refine blkQ_norm ?_ | refine blkQ_ret ?_ | refine blkQ_here ?_ | refine gateK_yes ?_ | refine gateK_none ?_ | refine condK_tt ?_ | refine condK_ff ?_ | refine roundQ_exit ?_ | refine roundQ_ret ?_)
  | refine WC_region ?_ | refine blkQ_out rfl ?_ | refine WO_nil ?_ | refine WD_nil ?_
  | ((first | refine WD_gate rfl rfl rfl rfl rfl fun K_ hK_ => ?_ | refine WO_gate rfl rfl rfl rfl rfl fun K_ hK_ => ?_); simp only [upd_apply, asB_bool, asB_tup, ↓reduceIte, reduceCtorEq, Nat.reduceEqDiff, Bool.not_true, Bool.not_false]; refine hK_ _ ?_; clear hK_ K_)
  | refine gateK_no (by decide) ?_
  | ((try first | refine WO_op rfl rfl rfl ?_ | refine WO_op0 rfl rfl ?_ | refine WD_op rfl rfl rfl ?_ | refine WD_op0 rfl rfl ?_); (refine WV_gen fun Q_ hQ_ => ?_; simp (disch := first | omega | (simp only [List.length_cons, List.length_nil, List.length_append]; omega)) only [bb, bp, argF, ↓reduceIte, reduceCtorEq, Nat.reduceEqDiff, Nat.reduceLT, Nat.reduceLeDiff, Nat.reduceAdd, Nat.reduceMul, Nat.reduceSub, Nat.reduceBEq, Int.reduceToNat, cond_true, cond_false, eq_self, beq_self_eq_true, hlen, hlb, hb1.1, hb1.2, newPtr_X wf, load1_X wf, loadAgg_X wf, store1_X wf, writeCells_X wf, tEvU2, bsl_25, bsl_52, newSlice_X wf]; first | (refine dec_split (Q := Q_) (fun hp_ => ?_) (fun hp_ => ?_) <;> first | (exfalso; omega) | (refine hQ_ _ _ ?_; clear hQ_ Q_)) | (refine dec_splitn (Q := Q_) (fun hp_ => ?_) (fun hp_ => ?_) <;> first | (exfalso; omega) | (refine hQ_ _ _ ?_; clear hQ_ Q_)) | (refine hQ_ _ _ ?_; clear hQ_ Q_)))
  | (refine WC_cond fun K_ hK_ => ?_; simp (disch := omega) only [evT_tmp, upd_apply, WB_some, ↓reduceIte, reduceCtorEq, Nat.reduceEqDiff, Nat.reduceLT]; refine hK_ _ ?_; clear hK_ K_)))
    refine endQ_ret _ _ rfl (ret1 (by decide)) ?_
    simp only [upd_apply, ↓reduceIte, reduceCtorEq, Nat.reduceEqDiff]
    refine WV_ext (by
      show (_ && flat (.sl _ 0 _ _ 1)) = false
      exact Bool.and_false _) ?_
    rw [Nat.min_eq_left wf.wle]
    exact ⟨_, [bv], rfl, ⟨1, some 1, rfl, rfl, .inr rfl⟩, .inl ⟨rfl, rfl⟩⟩
  | m + 1, k, hk, bs, bv, h, hbl, hm, wf, hs, hb => by
    have hlt : k < sp.length := by omega
    have hlen : ∀ h', lenE Tryd.prog 22 a h' = some (ii (sp.length : Int)) := fun h' => hs.len un_22
    have hlb : ∀ h', lenE Tryd.prog 25 bv h' = some (ii (k : Int)) := fun h' => by have := hb.sl.len un_25 (h' := h'); rwa [hbl] at this
    have hb1 : oneB bv = true ∧ AV.cells bv = [bv] := by obtain ⟨_, ⟨rfl, _⟩ | ⟨_, _, _, _, _, _, rfl, _⟩⟩ := hb.sl <;> exact ⟨rfl, rfl⟩
    obtain ⟨id0, off0, hix0, hld0⟩ := hs.at wf hlt ik_22
    have ho := hok _ (List.getElem_mem hlt)
    have hdrop := drop_spot hlt
    rw [spot_get hlt] at ho
    obtain ⟨o1, o2, o3, o4⟩ := ho
    have hlo : ∀ l w, load1 id0 off0 (X h l w) = some (ii (spot sp k).1) := fun l w => by have := (hld0 l w).1 0 (by decide); rw [Nat.add_zero, (spotCells_get hlt).1, spot_get hlt] at this; exact this
    have hhi : ∀ l w, load1 id0 (off0 + 1) (X h l w) = some (ii (spot sp k).2) := fun l w => by have := (hld0 l w).1 1 (by decide); rw [(spotCells_get hlt).2, spot_get hlt] at this; exact this
    have hml : manyL (sp.drop k) = (offs (spot sp k)).length * manyL (sp.drop (k + 1)) := by rw [hdrop]; rfl
    have hw5 := offs_length (spot sp k)
    have hm2 : manyL (sp.drop (k + 1)) ≤ 1500 := by
      have := Nat.mul_le_mul (show 1 ≤ (offs (spot sp k)).length by omega) (Nat.le_refl (manyL (sp.drop (k + 1))))
      omega
    have hls : linesR (sp.drop k) bs = (offs (spot sp k)).flatMap fun y => linesR (sp.drop (k + 1)) (bs ++ [y]) := by rw [hdrop]; rfl
    refine WV_call (fn := Tryd.f46) Tryd.func46 rfl rfl rfl rfl rfl ?_
    simp only [argF]
    (repeat' (first
  | (with_reducible first | refine WC_seq ?_ | refine WC_skip ?_ | refine WC_label ?_ | refine WC_scope ?_ | refine WC_block ?_ | refine WC_ret ?_ | refine WC_exit ?_ | refine seqQ_norm ?_ | refine seqQ_ret ?_ | refine seqQ_exit ?_ | refine blkQ_norm ?_ | refine blkQ_ret ?_ | refine blkQ_here ?_ | refine gateK_yes ?_ | refine gateK_none ?_ | refine condK_tt ?_ | refine condK_ff ?_ | refine roundQ_exit ?_ | refine roundQ_ret ?_)
  | refine WC_region ?_ | refine blkQ_out rfl ?_ | refine WO_nil ?_ | refine WD_nil ?_
  | ((first | refine WD_gate rfl rfl rfl rfl rfl fun K_ hK_ => ?_ | refine WO_gate rfl rfl rfl rfl rfl fun K_ hK_ => ?_); simp only [upd_apply, asB_bool, asB_tup, ↓reduceIte, reduceCtorEq, Nat.reduceEqDiff, Bool.not_true, Bool.not_false]; refine hK_ _ ?_; clear hK_ K_)
  | refine gateK_no (by decide) ?_
  | ((try first | refine WO_op rfl rfl rfl ?_ | refine WO_op0 rfl rfl ?_ | refine WD_op rfl rfl rfl ?_ | refine WD_op0 rfl rfl ?_); (refine WV_gen fun Q_ hQ_ => ?_; simp (disch := first | omega | (simp only [List.length_cons, List.length_nil, List.length_append]; omega)) only [bb, bp, argF, ↓reduceIte, reduceCtorEq, Nat.reduceEqDiff, Nat.reduceLT, Nat.reduceLeDiff, Nat.reduceAdd, Nat.reduceMul, Nat.reduceSub, Nat.reduceBEq, Int.reduceToNat, cond_true, cond_false, eq_self, beq_self_eq_true, hlen, hlb, hb1.1, hb1.2, hix0, hlo, hhi, newPtr_X wf, load1_X wf, loadAgg_X wf, store1_X wf, writeCells_X wf, tEvU2, bsl_25, bsl_52, newSlice_X wf]; first | (refine dec_split (Q := Q_) (fun hp_ => ?_) (fun hp_ => ?_) <;> first | (exfalso; omega) | (refine hQ_ _ _ ?_; clear hQ_ Q_)) | (refine dec_splitn (Q := Q_) (fun hp_ => ?_) (fun hp_ => ?_) <;> first | (exfalso; omega) | (refine hQ_ _ _ ?_; clear hQ_ Q_)) | (refine hQ_ _ _ ?_; clear hQ_ Q_)))
  | (refine WC_cond fun K_ hK_ => ?_; simp (disch := omega) only [evT_tmp, upd_apply, WB_some, ↓reduceIte, reduceCtorEq, Nat.reduceEqDiff, Nat.reduceLT]; refine hK_ _ ?_; clear hK_ K_)))
    refine WC_loop (fun (j : Nat) f d h' => j ≤ (offs (spot sp k)).length ∧ f 1 = bv ∧ f 2 = .ptr (nx h 0) 0 ∧ f 5 = ii (k : Int) ∧ f 7 = ii ((spot sp k).1 + (j : Int)) ∧ d = [] ∧ ∃ (G : List AO) (vs : List AV) (w : Nat), h' = X h (.cells (mkCells [a, ii turn]) 24 :: G) w ∧ Grow h [.cells (mkCells [a, ii turn]) 24] G (f 6) 1 25 vs.length vs ∧
      LV h (.cells (mkCells [a, ii turn]) 24 :: G) vs (((offs (spot sp k)).take j).flatMap fun y => linesR (sp.drop (k + 1)) (bs ++ [y])) ∧ h.clock ≤ w ∧ w ≤ h.clock + (G.length + 1)) (fun j => (offs (spot sp k)).length - j) ?_ ((offs (spot sp k)).length + 1) 0 (by omega) ?_
    · rintro j f d h' ⟨hj, g1, g2, g5, g7, rfl, G, vs, w, rfl, hg, hlv, hw1, hw2⟩
      generalize g6 : f 6 = ov at hg
      by_cases hjl : j < (offs (spot sp k)).length
      · have hoj : (offs (spot sp k))[j] = (spot sp k).1 + (j : Int) := by
          have := offs_get (r := spot sp k) (k := j) (by omega)
          rw [List.getElem?_eq_getElem hjl] at this
          exact Option.some.inj this
        have htk : ((offs (spot sp k)).take (j + 1)).flatMap (fun y => linesR (sp.drop (k + 1)) (bs ++ [y])) = ((offs (spot sp k)).take j).flatMap (fun y => linesR (sp.drop (k + 1)) (bs ++ [y])) ++ linesR (sp.drop (k + 1)) (bs ++ [(spot sp k).1 + (j : Int)]) := by
          rw [List.take_succ_eq_append_getElem hjl, List.flatMap_append, hoj]; simp
        (repeat' (first
  | (with_reducible first | refine WC_seq ?_ | refine WC_skip ?_ | refine WC_label ?_ | refine WC_scope ?_ | refine WC_block ?_ | refine WC_ret ?_ | refine WC_exit ?_ | refine seqQ_norm ?_ | refine seqQ_ret ?_ | refine seqQ_exit ?_ | refine blkQ_norm ?_ | refine blkQ_ret ?_ | refine blkQ_here ?_ | refine gateK_yes ?_ | refine gateK_none ?_ | refine condK_tt ?_ | refine condK_ff ?_ | refine roundQ_exit ?_ | refine roundQ_ret ?_)
  | refine WC_region ?_ | refine blkQ_out rfl ?_ | refine WO_nil ?_ | refine WD_nil ?_
  | ((first | refine WD_gate rfl rfl rfl rfl rfl fun K_ hK_ => ?_ | refine WO_gate rfl rfl rfl rfl rfl fun K_ hK_ => ?_); simp only [upd_apply, asB_bool, asB_tup, ↓reduceIte, reduceCtorEq, Nat.reduceEqDiff, Bool.not_true, Bool.not_false]; refine hK_ _ ?_; clear hK_ K_)
  | refine gateK_no (by decide) ?_
  | ((try first | refine WO_op rfl rfl rfl ?_ | refine WO_op0 rfl rfl ?_ | refine WD_op rfl rfl rfl ?_ | refine WD_op0 rfl rfl ?_); (refine WV_gen fun Q_ hQ_ => ?_; simp (disch := first | omega | (simp only [List.length_cons, List.length_nil, List.length_append]; omega)) only [bb, bp, argF, ↓reduceIte, reduceCtorEq, Nat.reduceEqDiff, Nat.reduceLT, Nat.reduceLeDiff, Nat.reduceAdd, Nat.reduceMul, Nat.reduceSub, Nat.reduceBEq, Int.reduceToNat, cond_true, cond_false, eq_self, beq_self_eq_true, g1, g2, g5, g6, g7, hix0, hlo, hhi, newPtr_X wf, load1_X wf, loadAgg_X wf, store1_X wf, writeCells_X wf, tEvU2, bsl_25, bsl_52, newSlice_X wf]; first | (refine dec_split (Q := Q_) (fun hp_ => ?_) (fun hp_ => ?_) <;> first | (exfalso; omega) | (refine hQ_ _ _ ?_; clear hQ_ Q_)) | (refine dec_splitn (Q := Q_) (fun hp_ => ?_) (fun hp_ => ?_) <;> first | (exfalso; omega) | (refine hQ_ _ _ ?_; clear hQ_ Q_)) | (refine hQ_ _ _ ?_; clear hQ_ Q_)))
  | (refine WC_cond fun K_ hK_ => ?_; simp (disch := omega) only [evT_tmp, upd_apply, WB_some, ↓reduceIte, reduceCtorEq, Nat.reduceEqDiff, Nat.reduceLT]; refine hK_ _ ?_; clear hK_ K_)))
        refine WC_drawnB [.no, .no, .no, .no, .no, .no, .no, .soft [2], .full, .full, .full] (by kernel_rfl) ?_
        (repeat' (first
  | (with_reducible first | refine WC_seq ?_ | refine WC_skip ?_ | refine WC_label ?_ | refine WC_scope ?_ | refine WC_block ?_ | refine WC_ret ?_ | refine WC_exit ?_ | refine seqQ_norm ?_ | refine seqQ_ret ?_ | refine seqQ_exit ?_ | refine blkQ_norm ?_ | refine blkQ_ret ?_ | refine blkQ_here ?_ | refine gateK_yes ?_ | refine gateK_none ?_ | refine condK_tt ?_ | refine condK_ff ?_ | refine roundQ_exit ?_ | refine roundQ_ret ?_)
  | refine WC_region ?_ | refine blkQ_out rfl ?_ | refine WO_nil ?_ | refine WD_nil ?_
  | ((first | refine WD_gate rfl rfl rfl rfl rfl fun K_ hK_ => ?_ | refine WO_gate rfl rfl rfl rfl rfl fun K_ hK_ => ?_); simp only [upd_apply, asB_bool, asB_tup, ↓reduceIte, reduceCtorEq, Nat.reduceEqDiff, Bool.not_true, Bool.not_false]; refine hK_ _ ?_; clear hK_ K_)
  | refine gateK_no (by decide) ?_
  | ((try first | refine WO_op rfl rfl rfl ?_ | refine WO_op0 rfl rfl ?_ | refine WD_op rfl rfl rfl ?_ | refine WD_op0 rfl rfl ?_); (refine WV_gen fun Q_ hQ_ => ?_; simp (disch := first | omega | (simp only [List.length_cons, List.length_nil, List.length_append]; omega)) only [bb, bp, argF, ↓reduceIte, reduceCtorEq, Nat.reduceEqDiff, Nat.reduceLT, Nat.reduceLeDiff, Nat.reduceAdd, Nat.reduceMul, Nat.reduceSub, Nat.reduceBEq, Int.reduceToNat, cond_true, cond_false, eq_self, beq_self_eq_true, g1, g2, g5, g6, g7, hix0, hlo, hhi, newPtr_X wf, load1_X wf, loadAgg_X wf, store1_X wf, writeCells_X wf, tEvU2, bsl_25, bsl_52, newSlice_X wf]; first | (refine dec_split (Q := Q_) (fun hp_ => ?_) (fun hp_ => ?_) <;> first | (exfalso; omega) | (refine hQ_ _ _ ?_; clear hQ_ Q_)) | (refine dec_splitn (Q := Q_) (fun hp_ => ?_) (fun hp_ => ?_) <;> first | (exfalso; omega) | (refine hQ_ _ _ ?_; clear hQ_ Q_)) | (refine hQ_ _ _ ?_; clear hQ_ Q_)))
  | (refine WC_cond fun K_ hK_ => ?_; simp (disch := omega) only [evT_tmp, upd_apply, WB_some, ↓reduceIte, reduceCtorEq, Nat.reduceEqDiff, Nat.reduceLT]; refine hK_ _ ?_; clear hK_ K_)))
        have rs25 : ∀ (id : Pos) (off len c esz : Nat), reszT Tryd.prog 25 (.sl id off len (some c) esz) = .sl id off len (some c) 1 := fun id off len c esz => reszT_some Tryd.underlying25 sz_2
        have rsn25 : ∀ (id : Pos) (off len esz : Nat), reszT Tryd.prog 25 (.sl id off len none esz) = .sl id off len none esz := fun id off len esz => reszT_none
        have hsrc : ∀ (N : List AO) w, srcCells (X h (.cells (mkCells [a, ii turn]) 24 :: (G ++ N)) w) 1 (reszT Tryd.prog 25 bv) = some (k, bs.map ii) := fun N w => by
          have := (hb.sl.up wf (.cells (mkCells [a, ii turn]) 24 :: (G ++ N)) w).srcE (P := Tryd.prog) hb.cap Tryd.underlying25 sz_2
          rwa [hbl] at this
        have rest : ∀ (N : List AO) (bv' : AV), LineV h (AO.cells (mkCells [a, ii turn]) 24 :: (G ++ N)) 2 bv' ((bs ++ [(spot sp k).1 + (j : Int)]).map ii) → ∃ (v v2 : AV) (M G3 : List AO) (vs2 : List AV) (w' : Nat),
            (om Tryd.prog KK).call (.fn 46 [.agg [a, ii turn], bv']) (X h (AO.cells (mkCells [a, ii turn]) 24 :: (G ++ N)) (h.clock + (G.length + N.length + 1))) = .ok v (X h (AO.cells (mkCells [a, ii turn]) 24 :: (G ++ (N ++ M))) (h.clock + (G.length + N.length + 1))) ∧ reszT Tryd.prog 52 v = v ∧ reszT Tryd.prog 52 ov = ov ∧
            appendE Tryd.prog 52 ov v (X h (AO.cells (mkCells [a, ii turn]) 24 :: (G ++ (N ++ M))) (h.clock + (G.length + (N.length + M.length) + 1))) = .ok v2 (X h (AO.cells (mkCells [a, ii turn]) 24 :: G3) w') ∧ Grow h [AO.cells (mkCells [a, ii turn]) 24] G3 v2 1 25 vs2.length vs2 ∧
            LV h (AO.cells (mkCells [a, ii turn]) 24 :: G3) vs2 (((offs (spot sp k)).take (j + 1)).flatMap fun y => linesR (sp.drop (k + 1)) (bs ++ [y])) ∧ h.clock ≤ w' ∧ w' ≤ h.clock + (G3.length + 1) := fun N bv' hbv' => by
          have hl1 : (AO.cells (mkCells [a, ii turn]) 24 :: (G ++ N)).length = G.length + N.length + 1 := by simp only [List.length_cons, List.length_append]
          obtain ⟨v, h', e, M, vs', rfl, hv, hcase⟩ := lines sp hn hok a turn m (k + 1) (by omega) (bs ++ [(spot sp k).1 + (j : Int)]) bv' (X h (AO.cells (mkCells [a, ii turn]) 24 :: (G ++ N)) (h.clock + (G.length + N.length + 1))) (by rw [List.length_append, hbl]; rfl) hm2 (wf.X (by rw [hl1]; exact Nat.le_refl _)) (hs.up wf _ _) (lineInV wf hbv' _)
          rw [X_X, X_w] at e
          have hvd := hv.down
          have hee : AO.cells (mkCells [a, ii turn]) 24 :: (G ++ N) ++ M = AO.cells (mkCells [a, ii turn]) 24 :: (G ++ (N ++ M)) := by rw [List.cons_append, List.append_assoc]
          rw [hee] at e hvd
          have hlv' : LV h (AO.cells (mkCells [a, ii turn]) 24 :: (G ++ (N ++ M))) vs' (linesR (sp.drop (k + 1)) (bs ++ [(spot sp k).1 + (j : Int)])) := by
            rcases hcase with ⟨hm0, rfl⟩ | ⟨_, hlv'⟩
            · have hm0 := of_decide_eq_true hm0
              have hd0 : sp.drop (k + 1) = [] := List.drop_of_length_le (by omega)
              rw [hd0]
              refine ⟨rfl, fun i u l h1 h2 => ?_⟩
              have h2' : [bs ++ [(spot sp k).1 + (j : Int)]][i]? = some l := h2
              cases i with
              | succ i => simp at h1
              | zero =>
                simp only [List.getElem?_cons_zero, Option.some.injEq] at h1 h2'
                subst h1
                subst h2'
                rw [← hee]
                exact hbv'.more M
            · have q := hlv'.mono (G' := AO.cells (mkCells [a, ii turn]) 24 :: (G ++ (N ++ M))) (h := X h (AO.cells (mkCells [a, ii turn]) 24 :: (G ++ N)) (h.clock + (G.length + N.length + 1)))
              refine ⟨hlv'.1, fun i u l h1 h2 => ?_⟩
              have := (hlv'.2 i u l h1 h2).down
              rw [hee] at this
              exact this
          have hn0 : vs'.length ≠ 0 := by
            rw [hlv'.1, linesR_len]
            have := manyL_pos (R := sp.drop (k + 1)) (fun r hr => (hok r (List.mem_of_mem_drop hr)).2.2.1)
            omega
          have hvsl : vs'.length ≤ 1500 := by rw [hlv'.1, linesR_len]; exact hm2
          have hvl : vs.length ≤ 1500 * 6 := by
            rw [hlv.1, flatMap_len (m := manyL (sp.drop (k + 1))) _ (fun y _ => linesR_len _ _), List.length_take]
            have := Nat.mul_le_mul (show min j (offs (spot sp k)).length ≤ 6 by omega) hm2
            omega
          obtain ⟨v2, G2, o', w', hch, hg', hw1', hw2', happ⟩ := (hg.keepK (Keep.more G (N ++ M))).appendC (P := Tryd.prog) wf Tryd.underlying52 sz_25 el_25 (n := vs'.length) (new := vs') (x := v) (t := 52) (by omega) hn0 (by decide) (by rw [Nat.mul_one]) hlv'.all (fun w => hvd.src wf w) (h.clock + (G.length + (N.length + M.length) + 1)) (by omega)
          refine ⟨v, v2, M, G2 ++ [o'], vs ++ vs', w', e, hvd.resz Tryd.underlying52 sz_25, hg.resz 52, happ, by rw [List.length_append]; exact hg', ?_, hw1', ?_⟩
          · rw [htk]
            have up : ∀ u cs, LineV h (AO.cells (mkCells [a, ii turn]) 24 :: (G ++ (N ++ M))) 2 u cs → LineV h (AO.cells (mkCells [a, ii turn]) 24 :: (G2 ++ [o'])) 2 u cs := fun u cs hu => by
              have hch2 : Chg 25 (AO.cells (mkCells [a, ii turn]) 24 :: (G ++ (N ++ M))) (AO.cells (mkCells [a, ii turn]) 24 :: G2) := ⟨by rw [List.length_cons, List.length_cons, hch.1], fun q oo hq hno => by
                cases q with
                | zero => exact hq
                | succ q => simp only [List.getElem?_cons_succ] at hq ⊢; exact hch.2 q oo hq hno⟩
              exact (hu.chg hch2 (by decide)).more [o']
            refine LV.append (hlv.mono fun u cs hu => ?_) (hlv'.mono up)
            refine up u cs ?_
            have := hu.more (N ++ M)
            exact this
          · have := hch.1
            simp only [List.length_append, List.length_cons, List.length_nil] at this ⊢
            omega
        by_cases hk0 : k = 0
        · have hbs : bs = [] := List.eq_nil_of_length_eq_zero (by omega)
          have a1 : ∀ w, appendE Tryd.prog 25 (.sl (nx h (G.length + 1)) 0 0 (some 0) 1) (reszT Tryd.prog 25 bv) (X h (.cells (mkCells [a, ii turn]) 24 :: (G ++ [.cells (mkCells []) 2])) w) = .ok (.sl (nx h (G.length + 1)) 0 0 (some 0) 1) (X h (.cells (mkCells [a, ii turn]) 24 :: (G ++ [.cells (mkCells []) 2])) w) := fun w => by
            unfold appendE
            rw [Tryd.underlying25]; dsimp only; rw [sz_2]; dsimp only; rw [hsrc, hk0]; rfl
          have a2 : ∀ (y : AV) w, appendE Tryd.prog 25 (.sl (nx h (G.length + 1)) 0 0 (some 0) 1) (.sl (nx h (G.length + 1 + 1)) 0 1 (some 1) 1) (X h (.cells (mkCells [a, ii turn]) 24 :: (G ++ [.cells (mkCells []) 2, .cells (mkCells [y]) 2])) w) = .ok (.sl (nx h (G.length + 2 + 1)) 0 1 none 1) (X h (.cells (mkCells [a, ii turn]) 24 :: (G ++ [.cells (mkCells []) 2, .cells (mkCells [y]) 2, .cells (mkCells [y]) 2])) w) := fun y w => by
            have := append_zero (P := Tryd.prog) (l := .cells (mkCells [a, ii turn]) 24 :: (G ++ [.cells (mkCells []) 2, .cells (mkCells [y]) 2])) (k := G.length + 1) (w := w) (t := 25) (old := []) (e' := 2) wf Tryd.underlying25 sz_2 el_2 (x := .sl (nx h (G.length + 1 + 1)) 0 1 (some 1) 1) (n := 1) (new := [y]) (by decide) (by decide) (by decide) (by simp only [List.getElem?_cons_succ, app_len0, List.getElem?_cons_zero]) (src_new (e := 2) wf (by simp only [List.getElem?_cons_succ, app_len, List.getElem?_cons_zero]) rfl) rfl
            simpa only [List.length_cons, List.length_append, List.length_nil, List.cons_append, List.append_assoc, List.nil_append, Nat.zero_add, Nat.reduceAdd] using this
          (repeat' (first
  | (with_reducible first | refine WC_seq ?_ | refine WC_skip ?_ | refine WC_label ?_ | refine WC_scope ?_ | refine WC_block ?_ | refine WC_ret ?_ | refine WC_exit ?_ | refine seqQ_norm ?_ | refine seqQ_ret ?_ | refine seqQ_exit ?_ | refine blkQ_norm ?_ | refine blkQ_ret ?_ | refine blkQ_here ?_ | refine gateK_yes ?_ | refine gateK_none ?_ | refine condK_tt ?_ | refine condK_ff ?_ | refine roundQ_exit ?_ | refine roundQ_ret ?_)
  | refine WC_region ?_ | refine blkQ_out rfl ?_ | refine WO_nil ?_ | refine WD_nil ?_
  | ((first | refine WD_gate rfl rfl rfl rfl rfl fun K_ hK_ => ?_ | refine WO_gate rfl rfl rfl rfl rfl fun K_ hK_ => ?_); simp only [upd_apply, asB_bool, asB_tup, ↓reduceIte, reduceCtorEq, Nat.reduceEqDiff, Bool.not_true, Bool.not_false]; refine hK_ _ ?_; clear hK_ K_)
  | refine gateK_no (by decide) ?_
  | ((try first | refine WO_op rfl rfl rfl ?_ | refine WO_op0 rfl rfl ?_ | refine WD_op rfl rfl rfl ?_ | refine WD_op0 rfl rfl ?_); (refine WV_gen fun Q_ hQ_ => ?_; simp (disch := first | omega | (simp only [List.length_cons, List.length_nil, List.length_append]; omega)) only [bb, bp, argF, ↓reduceIte, reduceCtorEq, Nat.reduceEqDiff, Nat.reduceLT, Nat.reduceLeDiff, Nat.reduceAdd, Nat.reduceMul, Nat.reduceSub, Nat.reduceBEq, Int.reduceToNat, cond_true, cond_false, eq_self, beq_self_eq_true, g1, g2, g5, g6, g7, hix0, hlo, hhi, a1, a2, rs25, newPtr_X wf, load1_X wf, loadAgg_X wf, store1_X wf, writeCells_X wf, tEvU2, bsl_25, bsl_52, newSlice_X wf]; first | (refine dec_split (Q := Q_) (fun hp_ => ?_) (fun hp_ => ?_) <;> first | (exfalso; omega) | (refine hQ_ _ _ ?_; clear hQ_ Q_)) | (refine dec_splitn (Q := Q_) (fun hp_ => ?_) (fun hp_ => ?_) <;> first | (exfalso; omega) | (refine hQ_ _ _ ?_; clear hQ_ Q_)) | (refine hQ_ _ _ ?_; clear hQ_ Q_)))
  | (refine WC_cond fun K_ hK_ => ?_; simp (disch := omega) only [evT_tmp, upd_apply, WB_some, ↓reduceIte, reduceCtorEq, Nat.reduceEqDiff, Nat.reduceLT]; refine hK_ _ ?_; clear hK_ K_)))
          obtain ⟨v, v2, M, G3, vs2, w3, q1, q2, q3, q4, hg3, hlv3, hw31, hw32⟩ := rest [.cells (mkCells []) 2, .cells (mkCells [ii ((spot sp k).1 + (j : Int))]) 2, .cells (mkCells [ii ((spot sp k).1 + (j : Int))]) 2] (.sl (nx h (G.length + 2 + 1)) 0 1 none 1) ⟨G.length + 2 + 1, none, by rw [hbs]; rfl, by rw [hbs]; simp only [List.getElem?_cons_succ, app_len, List.getElem?_cons_zero]; rfl, .inl rfl⟩
          simp only [List.length_cons, List.length_nil, Nat.reduceAdd, List.cons_append, List.nil_append] at q1 q4
          rw [show 3 + M.length = M.length + 1 + 1 + 1 from by omega] at q4
          (repeat' (first
  | (with_reducible first | refine WC_seq ?_ | refine WC_skip ?_ | refine WC_label ?_ | refine WC_scope ?_ | refine WC_block ?_ | refine WC_ret ?_ | refine WC_exit ?_ | refine seqQ_norm ?_ | refine seqQ_ret ?_ | refine seqQ_exit ?_ | refine blkQ_norm ?_ | refine blkQ_ret ?_ | refine blkQ_here ?_ | refine gateK_yes ?_ | refine gateK_none ?_ | refine condK_tt ?_ | refine condK_ff ?_ | refine roundQ_exit ?_ | refine roundQ_ret ?_)
  | refine WC_region ?_ | refine blkQ_out rfl ?_ | refine WO_nil ?_ | refine WD_nil ?_
  | ((first | refine WD_gate rfl rfl rfl rfl rfl fun K_ hK_ => ?_ | refine WO_gate rfl rfl rfl rfl rfl fun K_ hK_ => ?_); simp only [upd_apply, asB_bool, asB_tup, ↓reduceIte, reduceCtorEq, Nat.reduceEqDiff, Bool.not_true, Bool.not_false]; refine hK_ _ ?_; clear hK_ K_)
  | refine gateK_no (by decide) ?_
  | ((try first | refine WO_op rfl rfl rfl ?_ | refine WO_op0 rfl rfl ?_ | refine WD_op rfl rfl rfl ?_ | refine WD_op0 rfl rfl ?_); (refine WV_gen fun Q_ hQ_ => ?_; simp (disch := first | omega | (simp only [List.length_cons, List.length_nil, List.length_append]; omega)) only [bb, bp, argF, ↓reduceIte, reduceCtorEq, Nat.reduceEqDiff, Nat.reduceLT, Nat.reduceLeDiff, Nat.reduceAdd, Nat.reduceMul, Nat.reduceSub, Nat.reduceBEq, Int.reduceToNat, cond_true, cond_false, eq_self, beq_self_eq_true, g7, q1, q2, q3, q4, newPtr_X wf, load1_X wf, loadAgg_X wf, store1_X wf, writeCells_X wf, tEvU2, bsl_25, bsl_52, newSlice_X wf]; first | (refine dec_split (Q := Q_) (fun hp_ => ?_) (fun hp_ => ?_) <;> first | (exfalso; omega) | (refine hQ_ _ _ ?_; clear hQ_ Q_)) | (refine dec_splitn (Q := Q_) (fun hp_ => ?_) (fun hp_ => ?_) <;> first | (exfalso; omega) | (refine hQ_ _ _ ?_; clear hQ_ Q_)) | (refine hQ_ _ _ ?_; clear hQ_ Q_)))
  | (refine WC_cond fun K_ hK_ => ?_; simp (disch := omega) only [evT_tmp, upd_apply, WB_some, ↓reduceIte, reduceCtorEq, Nat.reduceEqDiff, Nat.reduceLT]; refine hK_ _ ?_; clear hK_ K_)))
          exact roundQ_again (j + 1) (by omega) ⟨hjl, by simp only [upd_apply, ↓reduceIte, reduceCtorEq, Nat.reduceEqDiff]; exact g1, by simp only [upd_apply, ↓reduceIte, reduceCtorEq, Nat.reduceEqDiff]; exact g2, by simp only [upd_apply, ↓reduceIte, reduceCtorEq, Nat.reduceEqDiff]; exact g5, by simp only [upd_apply, ↓reduceIte, reduceCtorEq, Nat.reduceEqDiff]; rw [Int.natCast_succ, Int.add_assoc], rfl, G3, vs2, _, rfl, by simp only [upd_apply, ↓reduceIte, reduceCtorEq, Nat.reduceEqDiff]; exact hg3, hlv3, by omega, by omega⟩
        · have a1 : ∀ w, appendE Tryd.prog 25 (.sl (nx h (G.length + 1)) 0 0 (some 0) 1) (reszT Tryd.prog 25 bv) (X h (.cells (mkCells [a, ii turn]) 24 :: (G ++ [.cells (mkCells []) 2])) w) = .ok (.sl (nx h (G.length + 1 + 1)) 0 k none 1) (X h (.cells (mkCells [a, ii turn]) 24 :: (G ++ [.cells (mkCells []) 2, .cells (mkCells (bs.map ii)) 2])) w) := fun w => by
            have := append_zero (P := Tryd.prog) (l := .cells (mkCells [a, ii turn]) 24 :: (G ++ [.cells (mkCells []) 2])) (k := G.length + 1) (w := w) (t := 25) (old := []) (e' := 2) wf Tryd.underlying25 sz_2 el_2 (x := reszT Tryd.prog 25 bv) (n := k) (new := bs.map ii) (by omega) hk0 (by decide) (by simp only [List.getElem?_cons_succ, app_len0, List.getElem?_cons_zero]) (hsrc _ _) (by rw [List.length_map, hbl, Nat.mul_one])
            simpa only [List.length_cons, List.length_append, List.length_nil, List.cons_append, List.append_assoc, List.nil_append, Nat.zero_add, Nat.reduceAdd] using this
          have a2 : ∀ (y : AV) w, oneB y = true → appendE Tryd.prog 25 (.sl (nx h (G.length + 1 + 1)) 0 k none 1) (.sl (nx h (G.length + 2 + 1)) 0 1 (some 1) 1) (X h (.cells (mkCells [a, ii turn]) 24 :: (G ++ [.cells (mkCells []) 2, .cells (mkCells (bs.map ii)) 2, .cells (mkCells [y]) 2])) w) = .ok (.sl (nx h (G.length + 3 + 1)) 0 (k + 1) none 1) (X h (.cells (mkCells [a, ii turn]) 24 :: (G ++ [.cells (mkCells []) 2, .dead, .cells (mkCells [y]) 2, .cells (mkCells (bs.map ii ++ [y])) 2])) (min (h.clock + (G.length + 1 + 1)) w)) := fun y w hy => by
            have := append_more (P := Tryd.prog) (l := .cells (mkCells [a, ii turn]) 24 :: (G ++ [.cells (mkCells []) 2, .cells (mkCells (bs.map ii)) 2, .cells (mkCells [y]) 2])) (k := G.length + 1 + 1) (w := w) (t := 25) (cs := bs.map ii) (len := k) wf Tryd.underlying25 sz_2 el_2 (x := .sl (nx h (G.length + 2 + 1)) 0 1 (some 1) 1) (n := 1) (new := [y]) (by omega) (by decide) (by decide) (by simp only [List.getElem?_cons_succ, app_len, List.getElem?_cons_zero]) (by rw [List.length_map, hbl, Nat.mul_one]) (src_new (e := 2) wf (by simp only [List.getElem?_cons_succ, app_len, List.getElem?_cons_zero]) rfl) rfl (by rw [allOne_cons, hy]; rfl)
            simpa only [List.length_cons, List.length_append, List.length_nil, List.cons_append, List.append_assoc, List.nil_append, Nat.zero_add, Nat.reduceAdd, List.set_cons_succ, set_app_len, List.set_cons_zero] using this
          have a2' := fun w => a2 (.int .i64 ((spot sp k).1 + (j : Int))) w rfl
          (repeat' (first
  | (with_reducible first | refine WC_seq ?_ | refine WC_skip ?_ | refine WC_label ?_ | refine WC_scope ?_ | refine WC_block ?_ | refine WC_ret ?_ | refine WC_exit ?_ | refine seqQ_norm ?_ | refine seqQ_ret ?_ | refine seqQ_exit ?_ | refine blkQ_norm ?_ | refine blkQ_ret ?_ | refine blkQ_here ?_ | refine gateK_yes ?_ | refine gateK_none ?_ | refine condK_tt ?_ | refine condK_ff ?_ | refine roundQ_exit ?_ | refine roundQ_ret ?_)
  | refine WC_region ?_ | refine blkQ_out rfl ?_ | refine WO_nil ?_ | refine WD_nil ?_
  | ((first | refine WD_gate rfl rfl rfl rfl rfl fun K_ hK_ => ?_ | refine WO_gate rfl rfl rfl rfl rfl fun K_ hK_ => ?_); simp only [upd_apply, asB_bool, asB_tup, ↓reduceIte, reduceCtorEq, Nat.reduceEqDiff, Bool.not_true, Bool.not_false]; refine hK_ _ ?_; clear hK_ K_)
  | refine gateK_no (by decide) ?_
  | ((try first | refine WO_op rfl rfl rfl ?_ | refine WO_op0 rfl rfl ?_ | refine WD_op rfl rfl rfl ?_ | refine WD_op0 rfl rfl ?_); (refine WV_gen fun Q_ hQ_ => ?_; simp (disch := first | omega | (simp only [List.length_cons, List.length_nil, List.length_append]; omega)) only [bb, bp, argF, ↓reduceIte, reduceCtorEq, Nat.reduceEqDiff, Nat.reduceLT, Nat.reduceLeDiff, Nat.reduceAdd, Nat.reduceMul, Nat.reduceSub, Nat.reduceBEq, Int.reduceToNat, cond_true, cond_false, eq_self, beq_self_eq_true, g1, g2, g5, g6, g7, hix0, hlo, hhi, a1, rs25, newPtr_X wf, load1_X wf, loadAgg_X wf, store1_X wf, writeCells_X wf, tEvU2, bsl_25, bsl_52, newSlice_X wf]; first | (refine dec_split (Q := Q_) (fun hp_ => ?_) (fun hp_ => ?_) <;> first | (exfalso; omega) | (refine hQ_ _ _ ?_; clear hQ_ Q_)) | (refine dec_splitn (Q := Q_) (fun hp_ => ?_) (fun hp_ => ?_) <;> first | (exfalso; omega) | (refine hQ_ _ _ ?_; clear hQ_ Q_)) | (refine hQ_ _ _ ?_; clear hQ_ Q_)))
  | (refine WC_cond fun K_ hK_ => ?_; simp (disch := omega) only [evT_tmp, upd_apply, WB_some, ↓reduceIte, reduceCtorEq, Nat.reduceEqDiff, Nat.reduceLT]; refine hK_ _ ?_; clear hK_ K_)))
          refine WD_op rfl rfl rfl (WV_soft (v := .sl (nx h (G.length + 3 + 1)) 0 (k + 1) none 1) (by
            simp (disch := first | omega | (simp only [List.length_cons, List.length_nil, List.length_append]; omega)) only [bb, bp, argF, ↓reduceIte, reduceCtorEq, Nat.reduceEqDiff, Nat.reduceLT, Nat.reduceLeDiff, Nat.reduceAdd, Nat.reduceMul, Nat.reduceSub, Nat.reduceBEq, Int.reduceToNat, cond_true, cond_false, eq_self, beq_self_eq_true, a2', rsn25, rs25, tEvU2, bsl_25, bsl_52, newSlice_X wf]
            rfl) (barOk_app1 (by simp only [upd_apply, ↓reduceIte, reduceCtorEq, Nat.reduceEqDiff]; rfl) (by simp only [upd_apply, ↓reduceIte, reduceCtorEq, Nat.reduceEqDiff]; exact g2) (nx_ne (by omega)) (by decide) (by decide) (by decide)) ?_)
          obtain ⟨v, v2, M, G3, vs2, w3, q1, q2, q3, q4, hg3, hlv3, hw31, hw32⟩ := rest [.cells (mkCells []) 2, .dead, .cells (mkCells [ii ((spot sp k).1 + (j : Int))]) 2, .cells (mkCells (bs.map ii ++ [ii ((spot sp k).1 + (j : Int))])) 2] (.sl (nx h (G.length + 3 + 1)) 0 (k + 1) none 1) ⟨G.length + 3 + 1, none, by rw [List.length_map, List.length_append, hbl]; rfl, by simp only [List.getElem?_cons_succ, app_len, List.getElem?_cons_zero]; rw [List.map_append]; rfl, .inl rfl⟩
          simp only [List.length_cons, List.length_nil, Nat.reduceAdd, List.cons_append, List.nil_append] at q1 q4
          rw [show 4 + M.length = M.length + 1 + 1 + 1 + 1 from by omega] at q4
          (repeat' (first
  | (with_reducible first | refine WC_seq ?_ | refine WC_skip ?_ | refine WC_label ?_ | refine WC_scope ?_ | refine WC_block ?_ | refine WC_ret ?_ | refine WC_exit ?_ | refine seqQ_norm ?_ | refine seqQ_ret ?_ | refine seqQ_exit ?_ | refine blkQ_norm ?_ | refine blkQ_ret ?_ | refine blkQ_here ?_ | refine gateK_yes ?_ | refine gateK_none ?_ | refine condK_tt ?_ | refine condK_ff ?_ | refine roundQ_exit ?_ | refine roundQ_ret ?_)
  | refine WC_region ?_ | refine blkQ_out rfl ?_ | refine WO_nil ?_ | refine WD_nil ?_
  | ((first | refine WD_gate rfl rfl rfl rfl rfl fun K_ hK_ => ?_ | refine WO_gate rfl rfl rfl rfl rfl fun K_ hK_ => ?_); simp only [upd_apply, asB_bool, asB_tup, ↓reduceIte, reduceCtorEq, Nat.reduceEqDiff, Bool.not_true, Bool.not_false]; refine hK_ _ ?_; clear hK_ K_)
  | refine gateK_no (by decide) ?_
  | ((try first | refine WO_op rfl rfl rfl ?_ | refine WO_op0 rfl rfl ?_ | refine WD_op rfl rfl rfl ?_ | refine WD_op0 rfl rfl ?_); (refine WV_gen fun Q_ hQ_ => ?_; simp (disch := first | omega | (simp only [List.length_cons, List.length_nil, List.length_append]; omega)) only [bb, bp, argF, ↓reduceIte, reduceCtorEq, Nat.reduceEqDiff, Nat.reduceLT, Nat.reduceLeDiff, Nat.reduceAdd, Nat.reduceMul, Nat.reduceSub, Nat.reduceBEq, Int.reduceToNat, cond_true, cond_false, eq_self, beq_self_eq_true, g7, q1, q2, q3, q4, newPtr_X wf, load1_X wf, loadAgg_X wf, store1_X wf, writeCells_X wf, tEvU2, bsl_25, bsl_52, newSlice_X wf]; first | (refine dec_split (Q := Q_) (fun hp_ => ?_) (fun hp_ => ?_) <;> first | (exfalso; omega) | (refine hQ_ _ _ ?_; clear hQ_ Q_)) | (refine dec_splitn (Q := Q_) (fun hp_ => ?_) (fun hp_ => ?_) <;> first | (exfalso; omega) | (refine hQ_ _ _ ?_; clear hQ_ Q_)) | (refine hQ_ _ _ ?_; clear hQ_ Q_)))
  | (refine WC_cond fun K_ hK_ => ?_; simp (disch := omega) only [evT_tmp, upd_apply, WB_some, ↓reduceIte, reduceCtorEq, Nat.reduceEqDiff, Nat.reduceLT]; refine hK_ _ ?_; clear hK_ K_)))
          exact roundQ_again (j + 1) (by omega) ⟨hjl, by simp only [upd_apply, ↓reduceIte, reduceCtorEq, Nat.reduceEqDiff]; exact g1, by simp only [upd_apply, ↓reduceIte, reduceCtorEq, Nat.reduceEqDiff]; exact g2, by simp only [upd_apply, ↓reduceIte, reduceCtorEq, Nat.reduceEqDiff]; exact g5, by simp only [upd_apply, ↓reduceIte, reduceCtorEq, Nat.reduceEqDiff]; rw [Int.natCast_succ, Int.add_assoc], rfl, G3, vs2, _, rfl, by simp only [upd_apply, ↓reduceIte, reduceCtorEq, Nat.reduceEqDiff]; exact hg3, hlv3, by omega, by omega⟩
      · have hje : j = (offs (spot sp k)).length := by omega
        subst hje
        rw [List.take_length] at hlv
        (repeat' (first
  | (with_reducible first | refine WC_seq ?_ | refine WC_skip ?_ | refine WC_label ?_ | refine WC_scope ?_ | refine WC_block ?_ | refine WC_ret ?_ | refine WC_exit ?_ | refine seqQ_norm ?_ | refine seqQ_ret ?_ | refine seqQ_exit ?_ | refine blkQ_norm ?_ | refine blkQ_ret ?_ | refine blkQ_here ?_ | refine gateK_yes ?_ | refine gateK_none ?_ | refine condK_tt ?_ | refine condK_ff ?_ | refine roundQ_exit ?_ | refine roundQ_ret ?_)
  | refine WC_region ?_ | refine blkQ_out rfl ?_ | refine WO_nil ?_ | refine WD_nil ?_
  | ((first | refine WD_gate rfl rfl rfl rfl rfl fun K_ hK_ => ?_ | refine WO_gate rfl rfl rfl rfl rfl fun K_ hK_ => ?_); simp only [upd_apply, asB_bool, asB_tup, ↓reduceIte, reduceCtorEq, Nat.reduceEqDiff, Bool.not_true, Bool.not_false]; refine hK_ _ ?_; clear hK_ K_)
  | refine gateK_no (by decide) ?_
  | ((try first | refine WO_op rfl rfl rfl ?_ | refine WO_op0 rfl rfl ?_ | refine WD_op rfl rfl rfl ?_ | refine WD_op0 rfl rfl ?_); (refine WV_gen fun Q_ hQ_ => ?_; simp (disch := first | omega | (simp only [List.length_cons, List.length_nil, List.length_append]; omega)) only [bb, bp, argF, ↓reduceIte, reduceCtorEq, Nat.reduceEqDiff, Nat.reduceLT, Nat.reduceLeDiff, Nat.reduceAdd, Nat.reduceMul, Nat.reduceSub, Nat.reduceBEq, Int.reduceToNat, cond_true, cond_false, eq_self, beq_self_eq_true, g1, g2, g5, g6, g7, hix0, hlo, hhi, newPtr_X wf, load1_X wf, loadAgg_X wf, store1_X wf, writeCells_X wf, tEvU2, bsl_25, bsl_52, newSlice_X wf]; first | (refine dec_split (Q := Q_) (fun hp_ => ?_) (fun hp_ => ?_) <;> first | (exfalso; omega) | (refine hQ_ _ _ ?_; clear hQ_ Q_)) | (refine dec_splitn (Q := Q_) (fun hp_ => ?_) (fun hp_ => ?_) <;> first | (exfalso; omega) | (refine hQ_ _ _ ?_; clear hQ_ Q_)) | (refine hQ_ _ _ ?_; clear hQ_ Q_)))
  | (refine WC_cond fun K_ hK_ => ?_; simp (disch := omega) only [evT_tmp, upd_apply, WB_some, ↓reduceIte, reduceCtorEq, Nat.reduceEqDiff, Nat.reduceLT]; refine hK_ _ ?_; clear hK_ K_)))
        refine endQ_ret _ _ rfl (ret1 (by decide)) ?_
        simp only [upd_apply, ↓reduceIte, reduceCtorEq, Nat.reduceEqDiff]
        obtain ⟨hgl, ⟨h0, rfl⟩ | ⟨idx, rfl, hgi⟩⟩ := hg
        · exfalso
          rw [hlv.1, flatMap_len (m := manyL (sp.drop (k + 1))) _ (fun y _ => linesR_len _ _)] at h0
          have h1 := manyL_pos (R := sp.drop (k + 1)) (fun r hr => (hok r (List.mem_of_mem_drop hr)).2.2.1)
          have h2 := Nat.mul_pos (show 0 < (offs (spot sp k)).length by omega) h1
          omega
        · refine WV_ext (by
            show (_ && flat (.sl _ 0 _ none 1)) = false
            exact Bool.and_false _) ?_
          have hmin : ∀ w', h.clock ≤ w' → min h.w w' = h.w := fun w' h' => by have := wf.wle; omega
          rw [hmin _ hw1]
          refine ⟨_, vs, rfl, ⟨idx + 1, none, by rw [Nat.add_comm]; rfl, by simp only [List.getElem?_cons_succ]; exact hgi, .inl rfl⟩, .inr ⟨rfl, ?_⟩⟩
          rw [hls]; exact hlv
    · exact ⟨Nat.zero_le _, by simp only [upd_apply, ↓reduceIte, reduceCtorEq, Nat.reduceEqDiff], by simp only [upd_apply, ↓reduceIte, reduceCtorEq, Nat.reduceEqDiff], by simp only [upd_apply, ↓reduceIte, reduceCtorEq, Nat.reduceEqDiff], by simp only [upd_apply, ↓reduceIte, reduceCtorEq, Nat.reduceEqDiff]; simp, rfl, [], [], _, rfl, by simp only [upd_apply, ↓reduceIte, reduceCtorEq, Nat.reduceEqDiff]; exact Grow.nil _ _ _ _ _, LV.nil _ _, Nat.le_refl _, by simp⟩
end Go.Proofs.YtkmdidplmfdikaaDoor
end

/- EvU3 -/
section
/-
  LAYER 1, reference: the first of all lines that cost least.
-/
namespace Go.Proofs.YtkmdidplmfdikaaDoor
open Go.Ev
set_option maxRecDepth 100000
set_option linter.unusedSimpArgs false
set_option linter.unusedVariables false
set_option maxHeartbeats 4000000

theorem tEvU3 : type_of% (And.intro (And.intro (And.intro (And.intro (@bs_71) (And.intro (@ia_2) (@sz_2))) (And.intro (@ia_3) (And.intro (@sz_3) (@ia_27)))) (And.intro (And.intro (@ia_51) (And.intro (@sz_51) (@ia_24))) (And.intro (@sz_24) (And.intro (@ia_22) (@ia_25))))) (And.intro (And.intro (And.intro (@sz_25) (And.intro (@ia_52) (@fo_51_0))) (And.intro (@fo_51_1) (And.intro (@fo_24_0) (@fo_24_1)))) (And.intro (And.intro (@ze_51) (And.intro (@pb_15) (@pb_38))) (And.intro (And.intro (@pb_46) (@pb_30)) (And.intro (@ni_25) (@ni_52)))))) := And.intro (And.intro (And.intro (And.intro (@bs_71) (And.intro (@ia_2) (@sz_2))) (And.intro (@ia_3) (And.intro (@sz_3) (@ia_27)))) (And.intro (And.intro (@ia_51) (And.intro (@sz_51) (@ia_24))) (And.intro (@sz_24) (And.intro (@ia_22) (@ia_25))))) (And.intro (And.intro (And.intro (@sz_25) (And.intro (@ia_52) (@fo_51_0))) (And.intro (@fo_51_1) (And.intro (@fo_24_0) (@fo_24_1)))) (And.intro (And.intro (@ze_51) (And.intro (@pb_15) (@pb_38))) (And.intro (And.intro (@pb_46) (@pb_30)) (And.intro (@ni_25) (@ni_52)))))
theorem costL_fold (turn : Int) : ∀ (r : List Int) (t : St5), t.be + turn * t.ch + costL (payI turn) t.a t.b t.s r = (r.foldl mstep t).be + turn * (r.foldl mstep t).ch
  | [], t => by show t.be + turn * t.ch + 0 = _; rw [Int.add_zero]; rfl
  | c :: r, t => by
    rw [List.foldl_cons, ← costL_fold turn r (mstep t c)]
    have e : costL (payI turn) t.a t.b t.s (c :: r) = payI turn t.a t.b t.s c + costL (payI turn) t.b c (nextSign t.s (t.d c)) r := rfl
    rw [e, pay_cost]
    show _ = t.be + max (t.d c) (0 - t.d c) + turn * (t.ch + chg t.s (t.d c)) + costL (payI turn) t.b c (nextSign t.s (t.d c)) r
    rw [Int.mul_add]
    show t.be + turn * t.ch + (max (t.d c) (0 - t.d c) + turn * chg t.s (t.d c) + _) = _
    omega
theorem cost_meas (turn : Int) : ∀ xs : List Int, (measOf xs).2 + turn * (measOf xs).1 = Cost (payI turn) xs
  | [] => by show (0 : Int) + turn * 0 = 0; omega
  | [x] => by show (0 : Int) + turn * 0 = 0; omega
  | a :: b :: r => by
    have := costL_fold turn r ⟨a, b, 0, 0, 0⟩
    show (mfold a b r).be + turn * (mfold a b r).ch = costL (payI turn) a b 0 r
    unfold mfold
    rw [← this]
    show (0 : Int) + turn * 0 + costL (payI turn) a b 0 r = costL (payI turn) a b 0 r
    omega
theorem inR_off : ∀ {R : List (Int × Int)} {l : List Int}, (∀ r ∈ R, SpotOK r) → InR R l → ∀ x ∈ l, Off x
  | [], l, _, h, x, hx => by rw [show l = [] from h] at hx; cases hx
  | r :: R, _, hR, ⟨c, cs, rfl, h1, h2, h⟩, x, hx => by
    obtain ⟨o1, o2, _, _⟩ := hR r (by simp)
    rcases List.mem_cons.1 hx with rfl | hx
    · omega
    · exact inR_off (fun r hr => hR r (by simp [hr])) h x hx
theorem ix_52 {h : H} {k n i : Nat} {c : Option Nat} (hi : i < n) : indexAddrE Tryd.prog 52 (.sl (nx h k) 0 n c 1) (.int .i64 (i : Int)) = some (.ptr (nx h k) i) := by
  rw [indexAddrE_def, toNatE_lit]; dsimp only; rw [ik_52]; dsimp only; rw [indexAt_sl hi, Nat.zero_add, Nat.mul_one]

theorem rFairest (sp : List (Int × Int)) (turn : Int) (hsp : spotsR sp turn = 0) (hmany : manyL sp ≤ 1500) (a : AV) (h : H) (wf : Wf h) (hs : Sl h a 2 sp.length (spotCells sp)) :
    WV ((om Tryd.prog KK).call (.fn 18 [.agg [a, ii turn]]) h) fun v h' => ∃ (L : List AO) (lv : AV) (l : List Int), v = .tup [lv, ii (Cost (payI turn) l), ii 0] ∧ h' = X h L h.w ∧ LineV h L 2 lv (l.map ii) ∧ Fairest (payI turn) sp l (Cost (payI turn) l) := by
  obtain ⟨n1, n24, hok, ht⟩ := spotsR_ok hsp
  have ha1 : oneB a = true ∧ AV.cells a = [a] := by obtain ⟨_, ⟨rfl, _⟩ | ⟨_, _, _, _, _, _, rfl, _⟩⟩ := hs <;> exact ⟨rfl, rfl⟩
  have hRS : ∀ l w, w ≤ h.clock + l.length → (om Tryd.prog KK).call (.fn 15 [.agg [a, ii turn]]) (X h l w) = .ok (ii 0) (X h l w) := fun l w hw => by
    have := rCheckSpots sp turn a (by omega) _ (wf.X hw) (hs.up wf _ _)
    rw [hsp] at this; exact this
  obtain ⟨v, h', e1, M, vs, rfl, hv, hcase⟩ := lines sp n24 hok a turn sp.length 0 (by omega) [] .nils (X h [.cells (mkCells [a, ii turn]) 24] h.clock) rfl (by rw [List.drop_zero]; exact hmany) (wf.X (by omega)) (hs.up wf _ _) (InV.nils _)
  rw [X_X, X_w, List.cons_append, List.nil_append] at e1
  rw [List.drop_zero] at hcase
  generalize hls : linesR sp [] = ls at hcase
  have hLV : LV h (.cells (mkCells [a, ii turn]) 24 :: M) vs ls := by
    rcases hcase with ⟨h0, _⟩ | ⟨_, hlv⟩
    · have := of_decide_eq_true h0; omega
    · exact ⟨hlv.1, fun i u l h1 h2 => (hlv.2 i u l h1 h2).down⟩
  have hvd := hv.down
  rw [List.cons_append, List.nil_append] at hvd
  have hin : ∀ l ∈ ls, (∀ x ∈ l, Off x) ∧ l.length ≤ 24 := fun l hl => by
    rw [← hls] at hl
    obtain ⟨cs, hcs, rfl⟩ := mem_linesR.1 hl
    exact ⟨inR_off hok hcs, by rw [hcs.length]; exact n24⟩
  have hpos : 0 < ls.length := by rw [← hls, linesR_len]; exact manyL_pos fun r hr => (hok r hr).2.2.1
  have hmx : ls.length ≤ 1500 := by rw [← hls, linesR_len]; exact hmany
  obtain ⟨idx, cp, rfl, hvi, hcp⟩ := hvd
  have hlen : ∀ h', lenE Tryd.prog 52 (.sl (nx h idx) 0 vs.length cp 1) h' = some (ii (ls.length : Int)) := fun h' => by unfold lenE; rw [Tryd.underlying52, ← hLV.1]; rfl
  have hcost : ∀ (i : Nat) (l : List Int), ls[i]? = some l → ∃ u, (∀ N w, load1 (nx h idx) i (X h (.cells (mkCells [a, ii turn]) 24 :: (M ++ N)) w) = some u) ∧ LineV h (.cells (mkCells [a, ii turn]) 24 :: M) 2 u (l.map ii) ∧ ∀ N w, w ≤ h.clock + (M.length + N.length + 1) → (om Tryd.prog KK).call (.fn 30 [.agg [a, ii turn], u]) (X h (.cells (mkCells [a, ii turn]) 24 :: (M ++ N)) w) = .ok (ii (Cost (payI turn) l)) (X h (.cells (mkCells [a, ii turn]) 24 :: (M ++ N)) w) := fun i l hl => by
    have hil := lt_of_get hl
    obtain ⟨u, hu⟩ : ∃ u, vs[i]? = some u := ⟨_, List.getElem?_eq_getElem (by rw [hLV.1]; exact hil)⟩
    have hlv := hLV.2 i u l hu hl
    refine ⟨u, fun N w => ?_, hlv, fun N w hw => ?_⟩
    · have hvi2 : (AO.cells (mkCells [a, ii turn]) 24 :: (M ++ N))[idx]? = some (.cells (mkCells vs) 25) := by
        rw [← List.cons_append, List.getElem?_append_left (lt_of_get hvi)]; exact hvi
      rw [load1_X wf, hvi2, cellAt_cells, hu]
    · obtain ⟨q1, q2⟩ := hin l (List.mem_of_getElem? hl)
      rw [← cost_meas]
      have hsl := ((hlv.more N).sl wf w)
      rw [List.length_map, List.cons_append] at hsl
      exact rCost turn a l u ht (by omega) q1 _ (wf.X (by simp only [List.length_append, List.length_cons, List.length_nil]; omega)) hsl ha1
  refine WV_call (fn := Tryd.f18) Tryd.func18 rfl rfl rfl rfl rfl ?_
  simp only [argF]
  (repeat' (first
  | (with_reducible first | refine WC_seq ?_ | refine WC_skip ?_ | refine WC_label ?_ | refine WC_scope ?_ | refine WC_block ?_ | refine WC_ret ?_ | refine WC_exit ?_ | refine seqQ_norm ?_ | refine seqQ_ret ?_ | refine seqQ_exit ?_ | refine blkQ_norm ?_ | refine blkQ_ret ?_ | refine blkQ_here ?_ | refine gateK_yes ?_ | refine gateK_none ?_ | refine condK_tt ?_ | refine condK_ff ?_ | refine roundQ_exit ?_ | refine roundQ_ret ?_)
  | refine WC_region ?_ | refine blkQ_out rfl ?_ | refine WO_nil ?_ | refine WD_nil ?_
  | ((first | refine WD_gate rfl rfl rfl rfl rfl fun K_ hK_ => ?_ | refine WO_gate rfl rfl rfl rfl rfl fun K_ hK_ => ?_); simp only [upd_apply, asB_bool, asB_tup, ↓reduceIte, reduceCtorEq, Nat.reduceEqDiff, Bool.not_true, Bool.not_false]; refine hK_ _ ?_; clear hK_ K_)
  | refine gateK_no (by decide) ?_
  | ((try first | refine WO_op rfl rfl rfl ?_ | refine WO_op0 rfl rfl ?_ | refine WD_op rfl rfl rfl ?_ | refine WD_op0 rfl rfl ?_); (refine WV_gen fun Q_ hQ_ => ?_; simp (disch := first | omega | (simp only [List.length_cons, List.length_nil, List.length_append]; omega)) only [bb, bp, argF, ↓reduceIte, reduceCtorEq, Nat.reduceEqDiff, Nat.reduceLT, Nat.reduceLeDiff, Nat.reduceAdd, Nat.reduceMul, Nat.reduceSub, Nat.reduceBEq, Int.reduceToNat, cond_true, cond_false, eq_self, beq_self_eq_true, hRS, e1, ha1.1, ha1.2, newPtr_X wf, load1_X wf, loadAgg_X wf, store1_X wf, writeCells_X wf, tEvU3, bsl_25, bsl_52, newSlice_X wf]; first | (refine dec_split (Q := Q_) (fun hp_ => ?_) (fun hp_ => ?_) <;> first | (exfalso; omega) | (refine hQ_ _ _ ?_; clear hQ_ Q_)) | (refine dec_splitn (Q := Q_) (fun hp_ => ?_) (fun hp_ => ?_) <;> first | (exfalso; omega) | (refine hQ_ _ _ ?_; clear hQ_ Q_)) | (refine hQ_ _ _ ?_; clear hQ_ Q_)))
  | (refine WC_cond fun K_ hK_ => ?_; simp (disch := omega) only [evT_tmp, upd_apply, WB_some, ↓reduceIte, reduceCtorEq, Nat.reduceEqDiff, Nat.reduceLT]; refine hK_ _ ?_; clear hK_ K_)))
  refine WC_loop (fun (i : Nat) f d h' => i ≤ ls.length ∧ f 1 = .ptr (nx h 0) 0 ∧ f 5 = .sl (nx h idx) 0 vs.length cp 1 ∧ f 7 = ii (i : Int) ∧ d = [] ∧ h' = X h (.cells (mkCells [a, ii turn]) 24 :: M) h.clock ∧ ∃ (p : Nat) (l : List Int), f 6 = ii (p : Int) ∧ ls[p]? = some l ∧ (i = 0 → p = 0) ∧ (0 < i → bst (Cost (payI turn)) (ls.take i) = some (l, Cost (payI turn) l))) (fun i => ls.length - i) ?_ (ls.length + 1) 0 (by omega) ?_
  · rintro i f d h' ⟨hi, g1, g5, g7, rfl, rfl, p, l, g6, hp, h00, hbst⟩
    have hpl := lt_of_get hp
    by_cases hlt : i < ls.length
    · have hli := List.getElem?_eq_getElem hlt
      obtain ⟨u1, x1, y1, z1⟩ := hcost i _ hli
      obtain ⟨u2, x2, y2, z2⟩ := hcost p l hp
      have x1' := fun w => x1 [] w
      have x2' := fun w => x2 [] w
      have z1' := fun w hw => z1 [] w hw
      have z2' := fun w hw => z2 [] w hw
      simp only [List.append_nil, List.length_nil, Nat.add_zero] at x1' x2' z1' z2'
      have i1 := ix_52 (h := h) (k := idx) (n := vs.length) (c := cp) (i := i) (by rw [hLV.1]; exact hlt)
      have i2 := ix_52 (h := h) (k := idx) (n := vs.length) (c := cp) (i := p) (by rw [hLV.1]; exact hpl)
      have hbt := bst_take (Cost (payI turn)) ls i hlt
      (repeat' (first
  | (with_reducible first | refine WC_seq ?_ | refine WC_skip ?_ | refine WC_label ?_ | refine WC_scope ?_ | refine WC_block ?_ | refine WC_ret ?_ | refine WC_exit ?_ | refine seqQ_norm ?_ | refine seqQ_ret ?_ | refine seqQ_exit ?_ | refine blkQ_norm ?_ | refine blkQ_ret ?_ | refine blkQ_here ?_ | refine gateK_yes ?_ | refine gateK_none ?_ | refine condK_tt ?_ | refine condK_ff ?_ | refine roundQ_exit ?_ | refine roundQ_ret ?_)
  | refine WC_region ?_ | refine blkQ_out rfl ?_ | refine WO_nil ?_ | refine WD_nil ?_
  | ((first | refine WD_gate rfl rfl rfl rfl rfl fun K_ hK_ => ?_ | refine WO_gate rfl rfl rfl rfl rfl fun K_ hK_ => ?_); simp only [upd_apply, asB_bool, asB_tup, ↓reduceIte, reduceCtorEq, Nat.reduceEqDiff, Bool.not_true, Bool.not_false]; refine hK_ _ ?_; clear hK_ K_)
  | refine gateK_no (by decide) ?_
  | ((try first | refine WO_op rfl rfl rfl ?_ | refine WO_op0 rfl rfl ?_ | refine WD_op rfl rfl rfl ?_ | refine WD_op0 rfl rfl ?_); (refine WV_gen fun Q_ hQ_ => ?_; simp (disch := first | omega | (simp only [List.length_cons, List.length_nil, List.length_append]; omega)) only [bb, bp, argF, ↓reduceIte, reduceCtorEq, Nat.reduceEqDiff, Nat.reduceLT, Nat.reduceLeDiff, Nat.reduceAdd, Nat.reduceMul, Nat.reduceSub, Nat.reduceBEq, Int.reduceToNat, cond_true, cond_false, eq_self, beq_self_eq_true, g1, g5, g7, g6, hlen, tEvU3, bsl_25, bsl_52, newSlice_X wf]; first | (refine dec_split (Q := Q_) (fun hp_ => ?_) (fun hp_ => ?_) <;> first | (exfalso; omega) | (refine hQ_ _ _ ?_; clear hQ_ Q_)) | (refine dec_splitn (Q := Q_) (fun hp_ => ?_) (fun hp_ => ?_) <;> first | (exfalso; omega) | (refine hQ_ _ _ ?_; clear hQ_ Q_)) | (refine hQ_ _ _ ?_; clear hQ_ Q_)))
  | (refine WC_cond fun K_ hK_ => ?_; simp (disch := omega) only [evT_tmp, upd_apply, WB_some, ↓reduceIte, reduceCtorEq, Nat.reduceEqDiff, Nat.reduceLT]; refine hK_ _ ?_; clear hK_ K_)))
      refine WC_drawnB [.no, .no, .no, .no, .no, .no, .no, .no, .no, .no, .no, .full, .full] (by kernel_rfl) ?_
      (repeat' (first
  | (with_reducible first | refine WC_seq ?_ | refine WC_skip ?_ | refine WC_label ?_ | refine WC_scope ?_ | refine WC_block ?_ | refine WC_ret ?_ | refine WC_exit ?_ | refine seqQ_norm ?_ | refine seqQ_ret ?_ | refine seqQ_exit ?_ | refine blkQ_norm ?_ | refine blkQ_ret ?_ | refine blkQ_here ?_ | refine gateK_yes ?_ | refine gateK_none ?_ | refine condK_tt ?_ | refine condK_ff ?_ | refine roundQ_exit ?_ | refine roundQ_ret ?_)
  | refine WC_region ?_ | refine blkQ_out rfl ?_ | refine WO_nil ?_ | refine WD_nil ?_
  | ((first | refine WD_gate rfl rfl rfl rfl rfl fun K_ hK_ => ?_ | refine WO_gate rfl rfl rfl rfl rfl fun K_ hK_ => ?_); simp only [upd_apply, asB_bool, asB_tup, ↓reduceIte, reduceCtorEq, Nat.reduceEqDiff, Bool.not_true, Bool.not_false]; refine hK_ _ ?_; clear hK_ K_)
  | refine gateK_no (by decide) ?_
  | ((try first | refine WO_op rfl rfl rfl ?_ | refine WO_op0 rfl rfl ?_ | refine WD_op rfl rfl rfl ?_ | refine WD_op0 rfl rfl ?_); (refine WV_gen fun Q_ hQ_ => ?_; simp (disch := first | omega | (simp only [List.length_cons, List.length_nil, List.length_append]; omega)) only [bb, bp, argF, ↓reduceIte, reduceCtorEq, Nat.reduceEqDiff, Nat.reduceLT, Nat.reduceLeDiff, Nat.reduceAdd, Nat.reduceMul, Nat.reduceSub, Nat.reduceBEq, Int.reduceToNat, cond_true, cond_false, eq_self, beq_self_eq_true, g1, g5, g7, g6, hlen, i1, i2, x1', x2', z1', z2', loadAgg_X wf, tEvU3, bsl_25, bsl_52, newSlice_X wf]; first | (refine dec_split (Q := Q_) (fun hp_ => ?_) (fun hp_ => ?_) <;> first | (exfalso; omega) | (refine hQ_ _ _ ?_; clear hQ_ Q_)) | (refine dec_splitn (Q := Q_) (fun hp_ => ?_) (fun hp_ => ?_) <;> first | (exfalso; omega) | (refine hQ_ _ _ ?_; clear hQ_ Q_)) | (refine hQ_ _ _ ?_; clear hQ_ Q_)))
  | (refine WC_cond fun K_ hK_ => ?_; simp (disch := omega) only [evT_tmp, upd_apply, WB_some, ↓reduceIte, reduceCtorEq, Nat.reduceEqDiff, Nat.reduceLT]; refine hK_ _ ?_; clear hK_ K_)))
      · have hlt2 : Cost (payI turn) ls[i] < Cost (payI turn) l := by omega
        refine roundQ_again (i + 1) (by omega) ⟨hlt, by simp only [upd_apply, ↓reduceIte, reduceCtorEq, Nat.reduceEqDiff]; exact g1, by simp only [upd_apply, ↓reduceIte, reduceCtorEq, Nat.reduceEqDiff]; exact g5, by simp only [upd_apply, ↓reduceIte, reduceCtorEq, Nat.reduceEqDiff]; rfl, rfl, rfl, i, ls[i], by simp only [upd_apply, ↓reduceIte, reduceCtorEq, Nat.reduceEqDiff], hli, fun h => by omega, fun _ => ?_⟩
        rw [hbt]
        rcases Nat.eq_zero_or_pos i with hi0 | hi0
        · exfalso
          have hp0 := h00 hi0
          rw [hp0, ← hi0] at hp
          rw [hp] at hli
          have : l = ls[i] := Option.some.inj hli
          rw [← this] at hlt2
          omega
        · rw [hbst hi0]
          show (if Cost (payI turn) ls[i] < Cost (payI turn) l then some (ls[i], Cost (payI turn) ls[i]) else some (l, Cost (payI turn) l)) = _
          rw [if_pos hlt2]
      · have hlt2 : ¬ Cost (payI turn) ls[i] < Cost (payI turn) l := by omega
        refine roundQ_again (i + 1) (by omega) ⟨hlt, by simp only [upd_apply, ↓reduceIte, reduceCtorEq, Nat.reduceEqDiff]; exact g1, by simp only [upd_apply, ↓reduceIte, reduceCtorEq, Nat.reduceEqDiff]; exact g5, by simp only [upd_apply, ↓reduceIte, reduceCtorEq, Nat.reduceEqDiff]; rfl, rfl, rfl, p, l, by simp only [upd_apply, ↓reduceIte, reduceCtorEq, Nat.reduceEqDiff]; exact g6, hp, fun h => by omega, fun _ => ?_⟩
        rw [hbt]
        rcases Nat.eq_zero_or_pos i with hi0 | hi0
        · have hp0 := h00 hi0
          rw [hp0] at hp
          subst hi0
          rw [hp] at hli
          have e : l = ls[0] := Option.some.inj hli
          rw [e]; rfl
        · rw [hbst hi0]
          show (if Cost (payI turn) ls[i] < Cost (payI turn) l then some (ls[i], Cost (payI turn) ls[i]) else some (l, Cost (payI turn) l)) = _
          rw [if_neg hlt2]
    · have hie : i = ls.length := by omega
      subst hie
      obtain ⟨u2, x2, y2, z2⟩ := hcost p l hp
      have x2' := fun w => x2 [] w
      have z2' := fun w hw => z2 [] w hw
      simp only [List.append_nil, List.length_nil, Nat.add_zero] at x2' z2'
      have i2 := ix_52 (h := h) (k := idx) (n := vs.length) (c := cp) (i := p) (by rw [hLV.1]; exact hpl)
      (repeat' (first
  | (with_reducible first | refine WC_seq ?_ | refine WC_skip ?_ | refine WC_label ?_ | refine WC_scope ?_ | refine WC_block ?_ | refine WC_ret ?_ | refine WC_exit ?_ | refine seqQ_norm ?_ | refine seqQ_ret ?_ | refine seqQ_exit ?_ | refine blkQ_norm ?_ | refine blkQ_ret ?_ | refine blkQ_here ?_ | refine gateK_yes ?_ | refine gateK_none ?_ | refine condK_tt ?_ | refine condK_ff ?_ | refine roundQ_exit ?_ | refine roundQ_ret ?_)
  | refine WC_region ?_ | refine blkQ_out rfl ?_ | refine WO_nil ?_ | refine WD_nil ?_
  | ((first | refine WD_gate rfl rfl rfl rfl rfl fun K_ hK_ => ?_ | refine WO_gate rfl rfl rfl rfl rfl fun K_ hK_ => ?_); simp only [upd_apply, asB_bool, asB_tup, ↓reduceIte, reduceCtorEq, Nat.reduceEqDiff, Bool.not_true, Bool.not_false]; refine hK_ _ ?_; clear hK_ K_)
  | refine gateK_no (by decide) ?_
  | ((try first | refine WO_op rfl rfl rfl ?_ | refine WO_op0 rfl rfl ?_ | refine WD_op rfl rfl rfl ?_ | refine WD_op0 rfl rfl ?_); (refine WV_gen fun Q_ hQ_ => ?_; simp (disch := first | omega | (simp only [List.length_cons, List.length_nil, List.length_append]; omega)) only [bb, bp, argF, ↓reduceIte, reduceCtorEq, Nat.reduceEqDiff, Nat.reduceLT, Nat.reduceLeDiff, Nat.reduceAdd, Nat.reduceMul, Nat.reduceSub, Nat.reduceBEq, Int.reduceToNat, cond_true, cond_false, eq_self, beq_self_eq_true, g1, g5, g7, g6, hlen, tEvU3, bsl_25, bsl_52, newSlice_X wf]; first | (refine dec_split (Q := Q_) (fun hp_ => ?_) (fun hp_ => ?_) <;> first | (exfalso; omega) | (refine hQ_ _ _ ?_; clear hQ_ Q_)) | (refine dec_splitn (Q := Q_) (fun hp_ => ?_) (fun hp_ => ?_) <;> first | (exfalso; omega) | (refine hQ_ _ _ ?_; clear hQ_ Q_)) | (refine hQ_ _ _ ?_; clear hQ_ Q_)))
  | (refine WC_cond fun K_ hK_ => ?_; simp (disch := omega) only [evT_tmp, upd_apply, WB_some, ↓reduceIte, reduceCtorEq, Nat.reduceEqDiff, Nat.reduceLT]; refine hK_ _ ?_; clear hK_ K_)))
      refine WC_drawnB [.no, .no, .no, .no, .no, .no, .no, .no, .no, .no, .full, .full, .full] (by kernel_rfl) ?_
      (repeat' (first
  | (with_reducible first | refine WC_seq ?_ | refine WC_skip ?_ | refine WC_label ?_ | refine WC_scope ?_ | refine WC_block ?_ | refine WC_ret ?_ | refine WC_exit ?_ | refine seqQ_norm ?_ | refine seqQ_ret ?_ | refine seqQ_exit ?_ | refine blkQ_norm ?_ | refine blkQ_ret ?_ | refine blkQ_here ?_ | refine gateK_yes ?_ | refine gateK_none ?_ | refine condK_tt ?_ | refine condK_ff ?_ | refine roundQ_exit ?_ | refine roundQ_ret ?_)
  | refine WC_region ?_ | refine blkQ_out rfl ?_ | refine WO_nil ?_ | refine WD_nil ?_
  | ((first | refine WD_gate rfl rfl rfl rfl rfl fun K_ hK_ => ?_ | refine WO_gate rfl rfl rfl rfl rfl fun K_ hK_ => ?_); simp only [upd_apply, asB_bool, asB_tup, ↓reduceIte, reduceCtorEq, Nat.reduceEqDiff, Bool.not_true, Bool.not_false]; refine hK_ _ ?_; clear hK_ K_)
  | refine gateK_no (by decide) ?_
  | ((try first | refine WO_op rfl rfl rfl ?_ | refine WO_op0 rfl rfl ?_ | refine WD_op rfl rfl rfl ?_ | refine WD_op0 rfl rfl ?_); (refine WV_gen fun Q_ hQ_ => ?_; simp (disch := first | omega | (simp only [List.length_cons, List.length_nil, List.length_append]; omega)) only [bb, bp, argF, ↓reduceIte, reduceCtorEq, Nat.reduceEqDiff, Nat.reduceLT, Nat.reduceLeDiff, Nat.reduceAdd, Nat.reduceMul, Nat.reduceSub, Nat.reduceBEq, Int.reduceToNat, cond_true, cond_false, eq_self, beq_self_eq_true, g1, g5, g7, g6, hlen, i2, x2', z2', loadAgg_X wf, tEvU3, bsl_25, bsl_52, newSlice_X wf]; first | (refine dec_split (Q := Q_) (fun hp_ => ?_) (fun hp_ => ?_) <;> first | (exfalso; omega) | (refine hQ_ _ _ ?_; clear hQ_ Q_)) | (refine dec_splitn (Q := Q_) (fun hp_ => ?_) (fun hp_ => ?_) <;> first | (exfalso; omega) | (refine hQ_ _ _ ?_; clear hQ_ Q_)) | (refine hQ_ _ _ ?_; clear hQ_ Q_)))
  | (refine WC_cond fun K_ hK_ => ?_; simp (disch := omega) only [evT_tmp, upd_apply, WB_some, ↓reduceIte, reduceCtorEq, Nat.reduceEqDiff, Nat.reduceLT]; refine hK_ _ ?_; clear hK_ K_)))
      refine endQ_ret _ _ rfl (ret3 (by decide) (by decide) (by decide)) ?_
      simp only [upd_apply, ↓reduceIte, reduceCtorEq, Nat.reduceEqDiff]
      have hb := hbst hpos
      rw [List.take_length] at hb
      obtain ⟨q, hq1, hq2⟩ := bst_spec (Cost (payI turn)) ls (fun e => by rw [e] at hpos; simp at hpos)
      rw [hq1] at hb
      have e : q = l := congrArg Prod.fst (Option.some.inj hb)
      subst e
      refine WV_ext (by
        obtain ⟨_, _, rfl, _⟩ := y2
        exact Bool.and_false _) ?_
      rw [Nat.min_eq_left wf.wle]
      exact ⟨_, u2, q, rfl, rfl, y2, lines_fairest (by rw [hls]; exact hq2)⟩
  · exact ⟨Nat.zero_le _, by simp only [upd_apply, ↓reduceIte, reduceCtorEq, Nat.reduceEqDiff], by simp only [upd_apply, ↓reduceIte, reduceCtorEq, Nat.reduceEqDiff], by simp only [upd_apply, ↓reduceIte, reduceCtorEq, Nat.reduceEqDiff]; rfl, rfl, rfl, 0, ls[0], by simp only [upd_apply, ↓reduceIte, reduceCtorEq, Nat.reduceEqDiff]; rfl, List.getElem?_eq_getElem hpos, fun _ => rfl, fun h => absurd h (Nat.lt_irrefl _)⟩
end Go.Proofs.YtkmdidplmfdikaaDoor
end

/- EvLm -/
section
/-
  LAYER 1: the statement FairMeasures, walked.
-/
namespace Go.Proofs.YtkmdidplmfdikaaDoor
open Go.Ev
set_option maxRecDepth 100000
set_option linter.unusedSimpArgs false
set_option linter.unusedVariables false
set_option maxHeartbeats 4000000

noncomputable def farCells : List AV := [ii 1099511627776, ii 1099511627776, ii 1099511627776]
/-- The table of the package lies where it is laid. -/
def Tab (h : H) : Prop := ∃ f, Ev.getObj (posN 0) h = some (AO.ro f) ∧ f 0 = some (ii 1099511627776) ∧ f 1 = some (ii 1099511627776) ∧ f 2 = some (ii 1099511627776)
theorem Tab.up {h : H} (wf : Wf h) (t : Tab h) (l : List AO) (w : Nat) : Tab (X h l w) := let ⟨f, h1, h2⟩ := t; ⟨f, getObj_old wf h1 l w, h2⟩
theorem works (h : H) (t : Tab h) : (om Tryd.prog KK).call (.fn 9 []) h = .ok (.bool true) h := by
  refine om_con (c := cW) (r := []) ?_
  have h1 : holds1 h (posN 0) farCells = true := by
    obtain ⟨f, t1, t2, t3, t4⟩ := t
    unfold holds1
    rw [t1]
    show (match readM f 3 0 with | some vs => eqFL vs farCells | none => false) = true
    have e : readM f 3 0 = some farCells := by
      simp only [readM, Nat.succ_eq_add_one, Nat.zero_add, Nat.reduceAdd, t2, t3, t4]; rfl
    rw [e]
    rfl
  have h2 : (heldB cW.tb ((posN 0, posN 0) :: pairs cW.args []) h) = true := by
    show (holds1 h (posN 0) farCells && true) = true
    rw [h1]; rfl
  show (bif fits ((posN 0, posN 0) :: pairs cW.args []) cW.args [] && heldB cW.tb ((posN 0, posN 0) :: pairs cW.args []) h && apartB cW.tb ((posN 0, posN 0) :: pairs cW.args []) && knownB cW.tb ((posN 0, posN 0) :: pairs cW.args []) then
    (match adopt cW.news h with | some (n, h') => (match ren n cW.ret with | some v => RV.ok v h' | none => .no) | none => .no) else .no) = _
  rw [h2]
  rfl

end Go.Proofs.YtkmdidplmfdikaaDoor
end

/- EvU4 -/
section
/-
  LAYER 1: the statement FairFairest, walked.
-/
namespace Go.Proofs.YtkmdidplmfdikaaDoor
open Go.Ev
set_option maxRecDepth 100000
set_option linter.unusedSimpArgs false
set_option linter.unusedVariables false
set_option maxHeartbeats 4000000

theorem tEvU4 : type_of% (And.intro (And.intro (And.intro (And.intro (@bs_71) (And.intro (@ia_2) (@sz_2))) (And.intro (And.intro (@ia_3) (@sz_3)) (And.intro (@ia_27) (@ia_51)))) (And.intro (And.intro (And.intro (@sz_51) (@ia_24)) (And.intro (@sz_24) (@ia_22))) (And.intro (And.intro (@ia_25) (@sz_25)) (And.intro (@ia_52) (@fo_51_0))))) (And.intro (And.intro (And.intro (And.intro (@fo_51_1) (@fo_24_0)) (And.intro (@fo_24_1) (@ze_51))) (And.intro (And.intro (@pb_14) (@pb_15)) (And.intro (@pb_38) (@pb_46)))) (And.intro (And.intro (And.intro (@pb_30) (@pb_9)) (And.intro (@pb_16) (@pb_17))) (And.intro (And.intro (@pb_18) (@pb_19)) (And.intro (@ni_25) (@ni_52)))))) := And.intro (And.intro (And.intro (And.intro (@bs_71) (And.intro (@ia_2) (@sz_2))) (And.intro (And.intro (@ia_3) (@sz_3)) (And.intro (@ia_27) (@ia_51)))) (And.intro (And.intro (And.intro (@sz_51) (@ia_24)) (And.intro (@sz_24) (@ia_22))) (And.intro (And.intro (@ia_25) (@sz_25)) (And.intro (@ia_52) (@fo_51_0))))) (And.intro (And.intro (And.intro (And.intro (@fo_51_1) (@fo_24_0)) (And.intro (@fo_24_1) (@ze_51))) (And.intro (And.intro (@pb_14) (@pb_15)) (And.intro (@pb_38) (@pb_46)))) (And.intro (And.intro (And.intro (@pb_30) (@pb_9)) (And.intro (@pb_16) (@pb_17))) (And.intro (And.intro (@pb_18) (@pb_19)) (And.intro (@ni_25) (@ni_52)))))
theorem Tab.f {h : H} (t : Tab h) : TabF h := t
/-- The fairest line, by the program. -/
def FairQ (h : H) (sp : List (Int × Int)) (turn : Int) : AV → H → Prop := fun v h' => ∃ (L : List AO) (lv : AV), v = .tup [lv, ii (fairL (payI turn) sp).2, ii 0] ∧ h' = X h L h.w ∧ LineV h L 2 lv ((fairL (payI turn) sp).1.map ii)
theorem fairestAll (sp : List (Int × Int)) (turn : Int) (hsp : spotsR sp turn = 0) (a : AV) (h : H) (wf : Wf h) (ht : TabF h) (hs : Sl h a 2 sp.length (spotCells sp)) :
    WV ((om Tryd.prog KK).call (.fn 17 [.agg [a, ii turn]]) h) (FairQ h sp turn) := by
  obtain ⟨n1, n24, hok, hturn⟩ := spotsR_ok hsp
  by_cases hn : 2 ≤ sp.length
  · exact fairest sp ⟨hn, n24, hok⟩ a turn hturn h wf ht hs
  · obtain ⟨r, rfl⟩ : ∃ r, sp = [r] := by
      match sp, n1, hn with
      | [r], _, _ => exact ⟨r, rfl⟩
      | _ :: _ :: _, _, hn => exact absurd (by simp) hn
    have hlen : ∀ h', lenE Tryd.prog 22 a h' = some (ii 1) := fun h' => hs.len un_22
    have ha1 : oneB a = true ∧ AV.cells a = [a] := by obtain ⟨_, ⟨rfl, _⟩ | ⟨_, _, _, _, _, _, rfl, _⟩⟩ := hs <;> exact ⟨rfl, rfl⟩
    have hCS : ∀ l w, w ≤ h.clock + l.length → (om Tryd.prog KK).call (.fn 14 [.agg [a, ii turn]]) (X h l w) = .ok (ii 0) (X h l w) := fun l w hw => by
      have := CheckSpots [r] turn a (by simp) _ (wf.X hw) (hs.up wf _ _)
      rw [hsp] at this; exact this
    obtain ⟨id0, off0, hix0, hld0⟩ := hs.at wf (show 0 < [r].length from Nat.zero_lt_one) ik_22
    have hlo : ∀ l w, load1 id0 off0 (X h l w) = some (ii r.1) := fun l w => by have := (hld0 l w).1 0 (by decide); rw [Nat.add_zero] at this; exact this
    have hix0' : indexAddrE Tryd.prog 22 a (.int .i64 0) = some (.ptr id0 off0) := hix0
    refine WV_call (fn := Tryd.f17) Tryd.func17 rfl rfl rfl rfl rfl ?_
    simp only [argF]
    (repeat' (first
  | (with_reducible first | refine WC_seq ?_ | refine WC_skip ?_ | refine WC_label ?_ | refine WC_scope ?_ | refine WC_block ?_ | refine WC_ret ?_ | refine WC_exit ?_ | refine seqQ_norm ?_ | refine seqQ_ret ?_ | refine seqQ_exit ?_ | refine blkQ_norm ?_ | refine blkQ_ret ?_ | refine blkQ_here ?_ | refine gateK_yes ?_ | refine gateK_none ?_ | refine condK_tt ?_ | refine condK_ff ?_ | refine roundQ_exit ?_ | refine roundQ_ret ?_)
  | refine WC_region ?_ | refine blkQ_out rfl ?_ | refine WO_nil ?_ | refine WD_nil ?_
  | ((first | refine WD_gate rfl rfl rfl rfl rfl fun K_ hK_ => ?_ | refine WO_gate rfl rfl rfl rfl rfl fun K_ hK_ => ?_); simp only [upd_apply, asB_bool, asB_tup, ↓reduceIte, reduceCtorEq, Nat.reduceEqDiff, Bool.not_true, Bool.not_false]; refine hK_ _ ?_; clear hK_ K_)
  | refine gateK_no (by decide) ?_
  | ((try first | refine WO_op rfl rfl rfl ?_ | refine WO_op0 rfl rfl ?_ | refine WD_op rfl rfl rfl ?_ | refine WD_op0 rfl rfl ?_); (refine WV_gen fun Q_ hQ_ => ?_; simp (disch := first | omega | (simp only [List.length_cons, List.length_nil, List.length_append]; omega)) only [bb, bp, argF, ↓reduceIte, reduceCtorEq, Nat.reduceEqDiff, Nat.reduceLT, Nat.reduceLeDiff, Nat.reduceAdd, Nat.reduceMul, Nat.reduceSub, Nat.reduceBEq, Int.reduceToNat, cond_true, cond_false, eq_self, beq_self_eq_true, hlen, hCS, hix0', hlo, ha1.1, ha1.2, newPtr_X wf, load1_X wf, loadAgg_X wf, store1_X wf, writeCells_X wf, tEvU4, bsl_25, bsl_52, newSlice_X wf]; first | (refine dec_split (Q := Q_) (fun hp_ => ?_) (fun hp_ => ?_) <;> first | (exfalso; omega) | (refine hQ_ _ _ ?_; clear hQ_ Q_)) | (refine dec_splitn (Q := Q_) (fun hp_ => ?_) (fun hp_ => ?_) <;> first | (exfalso; omega) | (refine hQ_ _ _ ?_; clear hQ_ Q_)) | (refine hQ_ _ _ ?_; clear hQ_ Q_)))
  | (refine WC_cond fun K_ hK_ => ?_; simp (disch := omega) only [evT_tmp, upd_apply, WB_some, ↓reduceIte, reduceCtorEq, Nat.reduceEqDiff, Nat.reduceLT]; refine hK_ _ ?_; clear hK_ K_)))
    refine endQ_ret _ _ rfl (ret3 (by decide) (by decide) (by decide)) ?_
    simp only [upd_apply, ↓reduceIte, reduceCtorEq, Nat.reduceEqDiff]
    refine WV_ext (by exact Bool.and_false _) ?_
    rw [Nat.min_eq_left wf.wle]
    exact ⟨_, _, rfl, rfl, 1, some 1, rfl, rfl, .inr rfl⟩
theorem fairestBad (sp : List (Int × Int)) (turn : Int) (hn : sp.length ≤ 1000000) (hsp : spotsR sp turn ≠ 0) (a : AV) (h : H) (wf : Wf h) (hs : Sl h a 2 sp.length (spotCells sp)) :
    (om Tryd.prog KK).call (.fn 17 [.agg [a, ii turn]]) h = .ok (.tup [.nils, ii 0, ii (spotsR sp turn)]) h := by
  have ha1 : oneB a = true ∧ AV.cells a = [a] := by obtain ⟨_, ⟨rfl, _⟩ | ⟨_, _, _, _, _, _, rfl, _⟩⟩ := hs <;> exact ⟨rfl, rfl⟩
  have hCS : ∀ l w, w ≤ h.clock + l.length → (om Tryd.prog KK).call (.fn 14 [.agg [a, ii turn]]) (X h l w) = .ok (ii (spotsR sp turn)) (X h l w) := fun l w hw => CheckSpots sp turn a hn _ (wf.X hw) (hs.up wf _ _)
  generalize spotsR sp turn = e at *
  refine WV_to (WV_call (fn := Tryd.f17) Tryd.func17 rfl rfl rfl rfl rfl ?_)
  simp only [argF]
  (repeat' (first
  | (with_reducible first | refine WC_seq ?_ | refine WC_skip ?_ | refine WC_label ?_ | refine WC_scope ?_ | refine WC_block ?_ | refine WC_ret ?_ | refine WC_exit ?_ | refine seqQ_norm ?_ | refine seqQ_ret ?_ | refine seqQ_exit ?_ | refine blkQ_norm ?_ | refine blkQ_ret ?_ | refine blkQ_here ?_ | refine gateK_yes ?_ | refine gateK_none ?_ | refine condK_tt ?_ | refine condK_ff ?_ | refine roundQ_exit ?_ | refine roundQ_ret ?_)
  | refine WC_region ?_ | refine blkQ_out rfl ?_ | refine WO_nil ?_ | refine WD_nil ?_
  | ((first | refine WD_gate rfl rfl rfl rfl rfl fun K_ hK_ => ?_ | refine WO_gate rfl rfl rfl rfl rfl fun K_ hK_ => ?_); simp only [upd_apply, asB_bool, asB_tup, ↓reduceIte, reduceCtorEq, Nat.reduceEqDiff, Bool.not_true, Bool.not_false]; refine hK_ _ ?_; clear hK_ K_)
  | refine gateK_no (by decide) ?_
  | ((try first | refine WO_op rfl rfl rfl ?_ | refine WO_op0 rfl rfl ?_ | refine WD_op rfl rfl rfl ?_ | refine WD_op0 rfl rfl ?_); (refine WV_gen fun Q_ hQ_ => ?_; simp (disch := first | omega | (simp only [List.length_cons, List.length_nil, List.length_append]; omega)) only [bb, bp, argF, ↓reduceIte, reduceCtorEq, Nat.reduceEqDiff, Nat.reduceLT, Nat.reduceLeDiff, Nat.reduceAdd, Nat.reduceMul, Nat.reduceSub, Nat.reduceBEq, Int.reduceToNat, cond_true, cond_false, eq_self, beq_self_eq_true, hCS, ha1.1, ha1.2, newPtr_X wf, load1_X wf, loadAgg_X wf, store1_X wf, writeCells_X wf, tEvU4, bsl_25, bsl_52, newSlice_X wf]; first | (refine dec_split (Q := Q_) (fun hp_ => ?_) (fun hp_ => ?_) <;> first | (exfalso; omega) | (refine hQ_ _ _ ?_; clear hQ_ Q_)) | (refine dec_splitn (Q := Q_) (fun hp_ => ?_) (fun hp_ => ?_) <;> first | (exfalso; omega) | (refine hQ_ _ _ ?_; clear hQ_ Q_)) | (refine hQ_ _ _ ?_; clear hQ_ Q_)))
  | (refine WC_cond fun K_ hK_ => ?_; simp (disch := omega) only [evT_tmp, upd_apply, WB_some, ↓reduceIte, reduceCtorEq, Nat.reduceEqDiff, Nat.reduceLT]; refine hK_ _ ?_; clear hK_ K_)))
  refine endQ_ret _ _ rfl (ret3 (by decide) (by decide) (by decide)) ?_
  simp only [upd_apply, ↓reduceIte, reduceCtorEq, Nat.reduceEqDiff]
  refine WV_flat rfl (by omega) ?_
  exact ⟨rfl, rfl⟩
theorem rFairestBad (sp : List (Int × Int)) (turn : Int) (hn : sp.length ≤ 1000000) (hsp : spotsR sp turn ≠ 0) (a : AV) (h : H) (wf : Wf h) (hs : Sl h a 2 sp.length (spotCells sp)) :
    (om Tryd.prog KK).call (.fn 18 [.agg [a, ii turn]]) h = .ok (.tup [.nils, ii 0, ii (spotsR sp turn)]) h := by
  have ha1 : oneB a = true ∧ AV.cells a = [a] := by obtain ⟨_, ⟨rfl, _⟩ | ⟨_, _, _, _, _, _, rfl, _⟩⟩ := hs <;> exact ⟨rfl, rfl⟩
  have hCS : ∀ l w, w ≤ h.clock + l.length → (om Tryd.prog KK).call (.fn 15 [.agg [a, ii turn]]) (X h l w) = .ok (ii (spotsR sp turn)) (X h l w) := fun l w hw => rCheckSpots sp turn a hn _ (wf.X hw) (hs.up wf _ _)
  generalize spotsR sp turn = e at *
  refine WV_to (WV_call (fn := Tryd.f18) Tryd.func18 rfl rfl rfl rfl rfl ?_)
  simp only [argF]
  (repeat' (first
  | (with_reducible first | refine WC_seq ?_ | refine WC_skip ?_ | refine WC_label ?_ | refine WC_scope ?_ | refine WC_block ?_ | refine WC_ret ?_ | refine WC_exit ?_ | refine seqQ_norm ?_ | refine seqQ_ret ?_ | refine seqQ_exit ?_ | refine blkQ_norm ?_ | refine blkQ_ret ?_ | refine blkQ_here ?_ | refine gateK_yes ?_ | refine gateK_none ?_ | refine condK_tt ?_ | refine condK_ff ?_ | refine roundQ_exit ?_ | refine roundQ_ret ?_)
  | refine WC_region ?_ | refine blkQ_out rfl ?_ | refine WO_nil ?_ | refine WD_nil ?_
  | ((first | refine WD_gate rfl rfl rfl rfl rfl fun K_ hK_ => ?_ | refine WO_gate rfl rfl rfl rfl rfl fun K_ hK_ => ?_); simp only [upd_apply, asB_bool, asB_tup, ↓reduceIte, reduceCtorEq, Nat.reduceEqDiff, Bool.not_true, Bool.not_false]; refine hK_ _ ?_; clear hK_ K_)
  | refine gateK_no (by decide) ?_
  | ((try first | refine WO_op rfl rfl rfl ?_ | refine WO_op0 rfl rfl ?_ | refine WD_op rfl rfl rfl ?_ | refine WD_op0 rfl rfl ?_); (refine WV_gen fun Q_ hQ_ => ?_; simp (disch := first | omega | (simp only [List.length_cons, List.length_nil, List.length_append]; omega)) only [bb, bp, argF, ↓reduceIte, reduceCtorEq, Nat.reduceEqDiff, Nat.reduceLT, Nat.reduceLeDiff, Nat.reduceAdd, Nat.reduceMul, Nat.reduceSub, Nat.reduceBEq, Int.reduceToNat, cond_true, cond_false, eq_self, beq_self_eq_true, hCS, ha1.1, ha1.2, newPtr_X wf, load1_X wf, loadAgg_X wf, store1_X wf, writeCells_X wf, tEvU4, bsl_25, bsl_52, newSlice_X wf]; first | (refine dec_split (Q := Q_) (fun hp_ => ?_) (fun hp_ => ?_) <;> first | (exfalso; omega) | (refine hQ_ _ _ ?_; clear hQ_ Q_)) | (refine dec_splitn (Q := Q_) (fun hp_ => ?_) (fun hp_ => ?_) <;> first | (exfalso; omega) | (refine hQ_ _ _ ?_; clear hQ_ Q_)) | (refine hQ_ _ _ ?_; clear hQ_ Q_)))
  | (refine WC_cond fun K_ hK_ => ?_; simp (disch := omega) only [evT_tmp, upd_apply, WB_some, ↓reduceIte, reduceCtorEq, Nat.reduceEqDiff, Nat.reduceLT]; refine hK_ _ ?_; clear hK_ K_)))
  refine endQ_ret _ _ rfl (ret3 (by decide) (by decide) (by decide)) ?_
  simp only [upd_apply, ↓reduceIte, reduceCtorEq, Nat.reduceEqDiff]
  refine WV_flat rfl (by omega) ?_
  exact ⟨rfl, rfl⟩
/-- Which spots are too many, or have too many lines. -/
noncomputable def largeR (sp : List (Int × Int)) (turn : Int) : Bool := decide (40 < sp.length ∨ spotsR sp turn = 0 ∧ 1500 < manyM sp)
theorem large (sp : List (Int × Int)) (turn : Int) (a : AV) (h : H) (wf : Wf h) (hs : Sl h a 2 sp.length (spotCells sp)) :
    (om Tryd.prog KK).call (.fn 16 [.agg [a, ii turn]]) h = .ok (.bool (largeR sp turn)) h := by
  have ha1 : oneB a = true ∧ AV.cells a = [a] := by obtain ⟨_, ⟨rfl, _⟩ | ⟨_, _, _, _, _, _, rfl, _⟩⟩ := hs <;> exact ⟨rfl, rfl⟩
  have hlen : ∀ h', lenE Tryd.prog 22 a h' = some (ii (sp.length : Int)) := fun h' => hs.len un_22
  by_cases h40 : 40 < sp.length
  · have e : largeR sp turn = true := decide_eq_true (.inl h40)
    rw [e]
    refine WV_to (WV_call (fn := Tryd.f16) Tryd.func16 rfl rfl rfl rfl rfl ?_)
    simp only [argF]
    (repeat' (first
  | (with_reducible first | refine WC_seq ?_ | refine WC_skip ?_ | refine WC_label ?_ | refine WC_scope ?_ | refine WC_block ?_ | refine WC_ret ?_ | refine WC_exit ?_ | refine seqQ_norm ?_ | refine seqQ_ret ?_ | refine seqQ_exit ?_ | refine blkQ_norm ?_ | refine blkQ_ret ?_ | refine blkQ_here ?_ | refine gateK_yes ?_ | refine gateK_none ?_ | refine condK_tt ?_ | refine condK_ff ?_ | refine roundQ_exit ?_ | refine roundQ_ret ?_)
  | refine WC_region ?_ | refine blkQ_out rfl ?_ | refine WO_nil ?_ | refine WD_nil ?_
  | ((first | refine WD_gate rfl rfl rfl rfl rfl fun K_ hK_ => ?_ | refine WO_gate rfl rfl rfl rfl rfl fun K_ hK_ => ?_); simp only [upd_apply, asB_bool, asB_tup, ↓reduceIte, reduceCtorEq, Nat.reduceEqDiff, Bool.not_true, Bool.not_false]; refine hK_ _ ?_; clear hK_ K_)
  | refine gateK_no (by decide) ?_
  | ((try first | refine WO_op rfl rfl rfl ?_ | refine WO_op0 rfl rfl ?_ | refine WD_op rfl rfl rfl ?_ | refine WD_op0 rfl rfl ?_); (refine WV_gen fun Q_ hQ_ => ?_; simp (disch := first | omega | (simp only [List.length_cons, List.length_nil, List.length_append]; omega)) only [bb, bp, argF, ↓reduceIte, reduceCtorEq, Nat.reduceEqDiff, Nat.reduceLT, Nat.reduceLeDiff, Nat.reduceAdd, Nat.reduceMul, Nat.reduceSub, Nat.reduceBEq, Int.reduceToNat, cond_true, cond_false, eq_self, beq_self_eq_true, hlen, ha1.1, ha1.2, newPtr_X wf, load1_X wf, loadAgg_X wf, store1_X wf, writeCells_X wf, tEvU4, bsl_25, bsl_52, newSlice_X wf]; first | (refine dec_split (Q := Q_) (fun hp_ => ?_) (fun hp_ => ?_) <;> first | (exfalso; omega) | (refine hQ_ _ _ ?_; clear hQ_ Q_)) | (refine dec_splitn (Q := Q_) (fun hp_ => ?_) (fun hp_ => ?_) <;> first | (exfalso; omega) | (refine hQ_ _ _ ?_; clear hQ_ Q_)) | (refine hQ_ _ _ ?_; clear hQ_ Q_)))
  | (refine WC_cond fun K_ hK_ => ?_; simp (disch := omega) only [evT_tmp, upd_apply, WB_some, ↓reduceIte, reduceCtorEq, Nat.reduceEqDiff, Nat.reduceLT]; refine hK_ _ ?_; clear hK_ K_)))
    (refine endQ_ret _ _ rfl (ret1 (by decide)) ?_; simp only [upd_apply, ↓reduceIte, reduceCtorEq, Nat.reduceEqDiff]; refine WV_flat rfl (by omega) ?_)
    exact ⟨rfl, rfl⟩
  · have hCS : ∀ l w, w ≤ h.clock + l.length → (om Tryd.prog KK).call (.fn 15 [.agg [a, ii turn]]) (X h l w) = .ok (ii (spotsR sp turn)) (X h l w) := fun l w hw => rCheckSpots sp turn a (by omega) _ (wf.X hw) (hs.up wf _ _)
    by_cases hs0 : spotsR sp turn = 0
    · obtain ⟨n1, n24, hok, hturn⟩ := spotsR_ok hs0
      have hMy : ∀ l w, w ≤ h.clock + l.length → (om Tryd.prog KK).call (.fn 38 [.agg [a, ii turn]]) (X h l w) = .ok (ii (manyM sp)) (X h l w) := fun l w hw => many sp (by omega) hok turn a _ (wf.X hw) (hs.up wf _ _)
      have e : largeR sp turn = decide (1500 < manyM sp) := by unfold largeR; congr 1; simp [hs0, h40]
      rw [e]
      rw [hs0] at hCS
      refine WV_to (WV_call (fn := Tryd.f16) Tryd.func16 rfl rfl rfl rfl rfl ?_)
      simp only [argF]
      (repeat' (first
  | (with_reducible first | refine WC_seq ?_ | refine WC_skip ?_ | refine WC_label ?_ | refine WC_scope ?_ | refine WC_block ?_ | refine WC_ret ?_ | refine WC_exit ?_ | refine seqQ_norm ?_ | refine seqQ_ret ?_ | refine seqQ_exit ?_ | refine blkQ_norm ?_ | refine blkQ_ret ?_ | refine blkQ_here ?_ | refine gateK_yes ?_ | refine gateK_none ?_ | refine condK_tt ?_ | refine condK_ff ?_ | refine roundQ_exit ?_ | refine roundQ_ret ?_)
  | refine WC_region ?_ | refine blkQ_out rfl ?_ | refine WO_nil ?_ | refine WD_nil ?_
  | ((first | refine WD_gate rfl rfl rfl rfl rfl fun K_ hK_ => ?_ | refine WO_gate rfl rfl rfl rfl rfl fun K_ hK_ => ?_); simp only [upd_apply, asB_bool, asB_tup, ↓reduceIte, reduceCtorEq, Nat.reduceEqDiff, Bool.not_true, Bool.not_false]; refine hK_ _ ?_; clear hK_ K_)
  | refine gateK_no (by decide) ?_
  | ((try first | refine WO_op rfl rfl rfl ?_ | refine WO_op0 rfl rfl ?_ | refine WD_op rfl rfl rfl ?_ | refine WD_op0 rfl rfl ?_); (refine WV_gen fun Q_ hQ_ => ?_; simp (disch := first | omega | (simp only [List.length_cons, List.length_nil, List.length_append]; omega)) only [bb, bp, argF, ↓reduceIte, reduceCtorEq, Nat.reduceEqDiff, Nat.reduceLT, Nat.reduceLeDiff, Nat.reduceAdd, Nat.reduceMul, Nat.reduceSub, Nat.reduceBEq, Int.reduceToNat, cond_true, cond_false, eq_self, beq_self_eq_true, hlen, hCS, hMy, ha1.1, ha1.2, newPtr_X wf, load1_X wf, loadAgg_X wf, store1_X wf, writeCells_X wf, tEvU4, bsl_25, bsl_52, newSlice_X wf]; first | (refine dec_split (Q := Q_) (fun hp_ => ?_) (fun hp_ => ?_) <;> first | (exfalso; omega) | (refine hQ_ _ _ ?_; clear hQ_ Q_)) | (refine dec_splitn (Q := Q_) (fun hp_ => ?_) (fun hp_ => ?_) <;> first | (exfalso; omega) | (refine hQ_ _ _ ?_; clear hQ_ Q_)) | (refine hQ_ _ _ ?_; clear hQ_ Q_)))
  | (refine WC_cond fun K_ hK_ => ?_; simp (disch := omega) only [evT_tmp, upd_apply, WB_some, ↓reduceIte, reduceCtorEq, Nat.reduceEqDiff, Nat.reduceLT]; refine hK_ _ ?_; clear hK_ K_)))
      all_goals (refine endQ_ret _ _ rfl (ret1 (by decide)) ?_; simp only [upd_apply, ↓reduceIte, reduceCtorEq, Nat.reduceEqDiff]; refine WV_flat rfl (by omega) ?_)
      all_goals exact ⟨by simp [*], rfl⟩
    · have e : largeR sp turn = false := decide_eq_false (by rintro (h | ⟨h, _⟩); exact h40 h; exact hs0 h)
      rw [e]
      generalize spotsR sp turn = ee at *
      refine WV_to (WV_call (fn := Tryd.f16) Tryd.func16 rfl rfl rfl rfl rfl ?_)
      simp only [argF]
      (repeat' (first
  | (with_reducible first | refine WC_seq ?_ | refine WC_skip ?_ | refine WC_label ?_ | refine WC_scope ?_ | refine WC_block ?_ | refine WC_ret ?_ | refine WC_exit ?_ | refine seqQ_norm ?_ | refine seqQ_ret ?_ | refine seqQ_exit ?_ | refine blkQ_norm ?_ | refine blkQ_ret ?_ | refine blkQ_here ?_ | refine gateK_yes ?_ | refine gateK_none ?_ | refine condK_tt ?_ | refine condK_ff ?_ | refine roundQ_exit ?_ | refine roundQ_ret ?_)
  | refine WC_region ?_ | refine blkQ_out rfl ?_ | refine WO_nil ?_ | refine WD_nil ?_
  | ((first | refine WD_gate rfl rfl rfl rfl rfl fun K_ hK_ => ?_ | refine WO_gate rfl rfl rfl rfl rfl fun K_ hK_ => ?_); simp only [upd_apply, asB_bool, asB_tup, ↓reduceIte, reduceCtorEq, Nat.reduceEqDiff, Bool.not_true, Bool.not_false]; refine hK_ _ ?_; clear hK_ K_)
  | refine gateK_no (by decide) ?_
  | ((try first | refine WO_op rfl rfl rfl ?_ | refine WO_op0 rfl rfl ?_ | refine WD_op rfl rfl rfl ?_ | refine WD_op0 rfl rfl ?_); (refine WV_gen fun Q_ hQ_ => ?_; simp (disch := first | omega | (simp only [List.length_cons, List.length_nil, List.length_append]; omega)) only [bb, bp, argF, ↓reduceIte, reduceCtorEq, Nat.reduceEqDiff, Nat.reduceLT, Nat.reduceLeDiff, Nat.reduceAdd, Nat.reduceMul, Nat.reduceSub, Nat.reduceBEq, Int.reduceToNat, cond_true, cond_false, eq_self, beq_self_eq_true, hlen, hCS, ha1.1, ha1.2, newPtr_X wf, load1_X wf, loadAgg_X wf, store1_X wf, writeCells_X wf, tEvU4, bsl_25, bsl_52, newSlice_X wf]; first | (refine dec_split (Q := Q_) (fun hp_ => ?_) (fun hp_ => ?_) <;> first | (exfalso; omega) | (refine hQ_ _ _ ?_; clear hQ_ Q_)) | (refine dec_splitn (Q := Q_) (fun hp_ => ?_) (fun hp_ => ?_) <;> first | (exfalso; omega) | (refine hQ_ _ _ ?_; clear hQ_ Q_)) | (refine hQ_ _ _ ?_; clear hQ_ Q_)))
  | (refine WC_cond fun K_ hK_ => ?_; simp (disch := omega) only [evT_tmp, upd_apply, WB_some, ↓reduceIte, reduceCtorEq, Nat.reduceEqDiff, Nat.reduceLT]; refine hK_ _ ?_; clear hK_ K_)))
      all_goals (refine endQ_ret _ _ rfl (ret1 (by decide)) ?_; simp only [upd_apply, ↓reduceIte, reduceCtorEq, Nat.reduceEqDiff]; refine WV_flat rfl (by omega) ?_)
      all_goals exact ⟨by simp [*], rfl⟩

theorem lawFairest (sp : List (Int × Int)) (turn : Int) (a : AV) (h : H) (wf : Wf h) (t : Tab h) (hs : Sl h a 2 sp.length (spotCells sp)) :
    (om Tryd.prog KK).call (.fn 4 [.agg [a, ii turn]]) h = .ok (.bool true) h := by
  have ha1 : oneB a = true ∧ AV.cells a = [a] := by obtain ⟨_, ⟨rfl, _⟩ | ⟨_, _, _, _, _, _, rfl, _⟩⟩ := hs <;> exact ⟨rfl, rfl⟩
  have works' : ∀ l w, (om Tryd.prog KK).call (.fn 9 []) (X h l w) = .ok (.bool true) (X h l w) := fun l w => works _ (t.up wf _ _)
  have hla : ∀ l w, w ≤ h.clock + l.length → (om Tryd.prog KK).call (.fn 16 [.agg [a, ii turn]]) (X h l w) = .ok (.bool (largeR sp turn)) (X h l w) := fun l w hw => large sp turn a _ (wf.X hw) (hs.up wf _ _)
  refine WV_to (WV_call (fn := Tryd.f4) Tryd.func4 rfl rfl rfl rfl rfl ?_)
  simp only [argF]
  by_cases hlg : largeR sp turn = true
  · rw [hlg] at hla
    (repeat' (first
  | (with_reducible first | refine WC_seq ?_ | refine WC_skip ?_ | refine WC_label ?_ | refine WC_scope ?_ | refine WC_block ?_ | refine WC_ret ?_ | refine WC_exit ?_ | refine seqQ_norm ?_ | refine seqQ_ret ?_ | refine seqQ_exit ?_ | refine blkQ_norm ?_ | refine blkQ_ret ?_ | refine blkQ_here ?_ | refine gateK_yes ?_ | refine gateK_none ?_ | refine condK_tt ?_ | refine condK_ff ?_ | refine roundQ_exit ?_ | refine roundQ_ret ?_)
  | refine WC_region ?_ | refine blkQ_out rfl ?_ | refine WO_nil ?_ | refine WD_nil ?_
  | ((first | refine WD_gate rfl rfl rfl rfl rfl fun K_ hK_ => ?_ | refine WO_gate rfl rfl rfl rfl rfl fun K_ hK_ => ?_); simp only [upd_apply, asB_bool, asB_tup, ↓reduceIte, reduceCtorEq, Nat.reduceEqDiff, Bool.not_true, Bool.not_false]; refine hK_ _ ?_; clear hK_ K_)
  | refine gateK_no (by decide) ?_
  | ((try first | refine WO_op rfl rfl rfl ?_ | refine WO_op0 rfl rfl ?_ | refine WD_op rfl rfl rfl ?_ | refine WD_op0 rfl rfl ?_); (refine WV_gen fun Q_ hQ_ => ?_; simp (disch := first | omega | (simp only [List.length_cons, List.length_nil, List.length_append]; omega)) only [bb, bp, argF, ↓reduceIte, reduceCtorEq, Nat.reduceEqDiff, Nat.reduceLT, Nat.reduceLeDiff, Nat.reduceAdd, Nat.reduceMul, Nat.reduceSub, Nat.reduceBEq, Int.reduceToNat, cond_true, cond_false, eq_self, beq_self_eq_true, hla, works', ha1.1, ha1.2, newPtr_X wf, load1_X wf, loadAgg_X wf, store1_X wf, writeCells_X wf, tEvU4, bsl_25, bsl_52, newSlice_X wf]; first | (refine dec_split (Q := Q_) (fun hp_ => ?_) (fun hp_ => ?_) <;> first | (exfalso; omega) | (refine hQ_ _ _ ?_; clear hQ_ Q_)) | (refine dec_splitn (Q := Q_) (fun hp_ => ?_) (fun hp_ => ?_) <;> first | (exfalso; omega) | (refine hQ_ _ _ ?_; clear hQ_ Q_)) | (refine hQ_ _ _ ?_; clear hQ_ Q_)))
  | (refine WC_cond fun K_ hK_ => ?_; simp (disch := omega) only [evT_tmp, upd_apply, WB_some, ↓reduceIte, reduceCtorEq, Nat.reduceEqDiff, Nat.reduceLT]; refine hK_ _ ?_; clear hK_ K_)))
    (refine endQ_ret _ _ rfl (ret1 (by decide)) ?_; simp only [upd_apply, ↓reduceIte, reduceCtorEq, Nat.reduceEqDiff]; refine WV_flat rfl (by omega) ?_)
    exact ⟨rfl, rfl⟩
  · have hlf : largeR sp turn = false := by cases h : largeR sp turn with | false => rfl | true => exact absurd h hlg
    have hnl := of_decide_eq_false hlf
    rw [hlf] at hla
    have h40 : sp.length ≤ 40 := by omega
    by_cases hs0 : spotsR sp turn = 0
    · obtain ⟨n1, n24, hok, hturn⟩ := spotsR_ok hs0
      have hmy : manyM sp ≤ 1500 := by
        rcases Int.lt_or_le 1500 (manyM sp) with h | h
        · exact absurd (.inr ⟨hs0, h⟩) hnl
        · exact h
      have hmL : manyL sp ≤ 1500 := by
        have := many_eq sp 1 hok ⟨by decide, by decide⟩ hmy
        unfold manyM at hmy
        omega
      obtain ⟨v1, h1, e1, L1, lv, rfl, rfl, hlv⟩ := fairestAll sp turn hs0 a (X h [.cells (mkCells [a, ii turn]) 24] h.clock) (wf.X (by omega)) (t.up wf _ _) (hs.up wf _ _)
      rw [X_X, X_w, List.cons_append, List.nil_append] at e1
      have hlv' := hlv.down
      rw [List.cons_append, List.nil_append] at hlv'
      obtain ⟨v2, h2, e2, L2, lv2, l2, rfl, rfl, hlv2, hF2⟩ := rFairest sp turn hs0 hmL a (X h (.cells (mkCells [a, ii turn]) 24 :: L1) h.clock) (wf.X (by omega)) (hs.up wf _ _)
      rw [X_X, X_w, List.cons_append] at e2
      have hlv2' := hlv2.down
      rw [List.cons_append] at hlv2'
      have hF1 := fairL_spec (turn := payI turn) (sp := sp) (fun r hr => (hok r hr).2.2.1) (fun e => by rw [e] at n1; simp at n1)
      obtain ⟨q1, q2⟩ := hF1.uniq hF2
      have hl1 := (hlv'.more L2).sl wf h.clock
      have hl2 := hlv2'.sl wf h.clock
      rw [List.length_map] at hl1 hl2
      have hlg2 : (om Tryd.prog KK).call (.fn 19 [lv, lv2]) (X h (.cells (mkCells [a, ii turn]) 24 :: (L1 ++ L2)) h.clock) = .ok (.bool true) (X h (.cells (mkCells [a, ii turn]) 24 :: (L1 ++ L2)) h.clock) := by
        refine longs _ _ lv lv2 ?_ _ (wf.X (by omega)) (by rw [List.cons_append] at hl1; exact hl1) hl2 q1
        have := hF1.within.length
        omega
      rw [q2] at e1
      (repeat' (first
  | (with_reducible first | refine WC_seq ?_ | refine WC_skip ?_ | refine WC_label ?_ | refine WC_scope ?_ | refine WC_block ?_ | refine WC_ret ?_ | refine WC_exit ?_ | refine seqQ_norm ?_ | refine seqQ_ret ?_ | refine seqQ_exit ?_ | refine blkQ_norm ?_ | refine blkQ_ret ?_ | refine blkQ_here ?_ | refine gateK_yes ?_ | refine gateK_none ?_ | refine condK_tt ?_ | refine condK_ff ?_ | refine roundQ_exit ?_ | refine roundQ_ret ?_)
  | refine WC_region ?_ | refine blkQ_out rfl ?_ | refine WO_nil ?_ | refine WD_nil ?_
  | ((first | refine WD_gate rfl rfl rfl rfl rfl fun K_ hK_ => ?_ | refine WO_gate rfl rfl rfl rfl rfl fun K_ hK_ => ?_); simp only [upd_apply, asB_bool, asB_tup, ↓reduceIte, reduceCtorEq, Nat.reduceEqDiff, Bool.not_true, Bool.not_false]; refine hK_ _ ?_; clear hK_ K_)
  | refine gateK_no (by decide) ?_
  | ((try first | refine WO_op rfl rfl rfl ?_ | refine WO_op0 rfl rfl ?_ | refine WD_op rfl rfl rfl ?_ | refine WD_op0 rfl rfl ?_); (refine WV_gen fun Q_ hQ_ => ?_; simp (disch := first | omega | (simp only [List.length_cons, List.length_nil, List.length_append]; omega)) only [bb, bp, argF, ↓reduceIte, reduceCtorEq, Nat.reduceEqDiff, Nat.reduceLT, Nat.reduceLeDiff, Nat.reduceAdd, Nat.reduceMul, Nat.reduceSub, Nat.reduceBEq, Int.reduceToNat, cond_true, cond_false, eq_self, beq_self_eq_true, hla, works', e1, e2, hlg2, ha1.1, ha1.2, newPtr_X wf, load1_X wf, loadAgg_X wf, store1_X wf, writeCells_X wf, tEvU4, bsl_25, bsl_52, newSlice_X wf]; first | (refine dec_split (Q := Q_) (fun hp_ => ?_) (fun hp_ => ?_) <;> first | (exfalso; omega) | (refine hQ_ _ _ ?_; clear hQ_ Q_)) | (refine dec_splitn (Q := Q_) (fun hp_ => ?_) (fun hp_ => ?_) <;> first | (exfalso; omega) | (refine hQ_ _ _ ?_; clear hQ_ Q_)) | (refine hQ_ _ _ ?_; clear hQ_ Q_)))
  | (refine WC_cond fun K_ hK_ => ?_; simp (disch := omega) only [evT_tmp, upd_apply, WB_some, ↓reduceIte, reduceCtorEq, Nat.reduceEqDiff, Nat.reduceLT]; refine hK_ _ ?_; clear hK_ K_)))
      (refine endQ_ret _ _ rfl (ret1 (by decide)) ?_; simp only [upd_apply, ↓reduceIte, reduceCtorEq, Nat.reduceEqDiff]; refine WV_flat rfl (by omega) ?_)
      exact ⟨rfl, rfl⟩
    · have e1 : ∀ l w, w ≤ h.clock + l.length → (om Tryd.prog KK).call (.fn 17 [.agg [a, ii turn]]) (X h l w) = .ok (.tup [.nils, ii 0, ii (spotsR sp turn)]) (X h l w) := fun l w hw => fairestBad sp turn (by omega) hs0 a _ (wf.X hw) (hs.up wf _ _)
      have e2 : ∀ l w, w ≤ h.clock + l.length → (om Tryd.prog KK).call (.fn 18 [.agg [a, ii turn]]) (X h l w) = .ok (.tup [.nils, ii 0, ii (spotsR sp turn)]) (X h l w) := fun l w hw => rFairestBad sp turn (by omega) hs0 a _ (wf.X hw) (hs.up wf _ _)
      have e3 : ∀ l w, w ≤ h.clock + l.length → (om Tryd.prog KK).call (.fn 19 [.nils, .nils]) (X h l w) = .ok (.bool true) (X h l w) := fun l w hw => longs [] [] .nils .nils (by simp) _ (wf.X hw) (Sl.nil _ _) (Sl.nil _ _) rfl
      generalize spotsR sp turn = ee at *
      (repeat' (first
  | (with_reducible first | refine WC_seq ?_ | refine WC_skip ?_ | refine WC_label ?_ | refine WC_scope ?_ | refine WC_block ?_ | refine WC_ret ?_ | refine WC_exit ?_ | refine seqQ_norm ?_ | refine seqQ_ret ?_ | refine seqQ_exit ?_ | refine blkQ_norm ?_ | refine blkQ_ret ?_ | refine blkQ_here ?_ | refine gateK_yes ?_ | refine gateK_none ?_ | refine condK_tt ?_ | refine condK_ff ?_ | refine roundQ_exit ?_ | refine roundQ_ret ?_)
  | refine WC_region ?_ | refine blkQ_out rfl ?_ | refine WO_nil ?_ | refine WD_nil ?_
  | ((first | refine WD_gate rfl rfl rfl rfl rfl fun K_ hK_ => ?_ | refine WO_gate rfl rfl rfl rfl rfl fun K_ hK_ => ?_); simp only [upd_apply, asB_bool, asB_tup, ↓reduceIte, reduceCtorEq, Nat.reduceEqDiff, Bool.not_true, Bool.not_false]; refine hK_ _ ?_; clear hK_ K_)
  | refine gateK_no (by decide) ?_
  | ((try first | refine WO_op rfl rfl rfl ?_ | refine WO_op0 rfl rfl ?_ | refine WD_op rfl rfl rfl ?_ | refine WD_op0 rfl rfl ?_); (refine WV_gen fun Q_ hQ_ => ?_; simp (disch := first | omega | (simp only [List.length_cons, List.length_nil, List.length_append]; omega)) only [bb, bp, argF, ↓reduceIte, reduceCtorEq, Nat.reduceEqDiff, Nat.reduceLT, Nat.reduceLeDiff, Nat.reduceAdd, Nat.reduceMul, Nat.reduceSub, Nat.reduceBEq, Int.reduceToNat, cond_true, cond_false, eq_self, beq_self_eq_true, hla, works', e1, e2, e3, ha1.1, ha1.2, newPtr_X wf, load1_X wf, loadAgg_X wf, store1_X wf, writeCells_X wf, tEvU4, bsl_25, bsl_52, newSlice_X wf]; first | (refine dec_split (Q := Q_) (fun hp_ => ?_) (fun hp_ => ?_) <;> first | (exfalso; omega) | (refine hQ_ _ _ ?_; clear hQ_ Q_)) | (refine dec_splitn (Q := Q_) (fun hp_ => ?_) (fun hp_ => ?_) <;> first | (exfalso; omega) | (refine hQ_ _ _ ?_; clear hQ_ Q_)) | (refine hQ_ _ _ ?_; clear hQ_ Q_)))
  | (refine WC_cond fun K_ hK_ => ?_; simp (disch := omega) only [evT_tmp, upd_apply, WB_some, ↓reduceIte, reduceCtorEq, Nat.reduceEqDiff, Nat.reduceLT]; refine hK_ _ ?_; clear hK_ K_)))
      (refine endQ_ret _ _ rfl (ret1 (by decide)) ?_; simp only [upd_apply, ↓reduceIte, reduceCtorEq, Nat.reduceEqDiff]; refine WV_flat rfl (by omega) ?_)
      exact ⟨rfl, rfl⟩
end Go.Proofs.YtkmdidplmfdikaaDoor
end

/- EvX0 -/
section
/-
  The program's orders are mixed: what every run asks.
-/
namespace Go.Proofs.YtkmdidplmfdikaaDoor
open Go.Ev
theorem mixed : Tryd.prog.follows .mixedOrders = true := Checked.mixed Tryd.checked
theorem con_alone {n : Nat} {c : Con} (h : chk c ((evc Tryd.prog [] n).call (.fn c.g c.args) (smallH c.tb)) = true) : ConOK Tryd.prog c :=
  con_run (P := Tryd.prog) mixed (cons := []) (fun _ h => by cases h) (n := n) (c := c) h
end Go.Proofs.YtkmdidplmfdikaaDoor
end

/- EvXcS0 -/
section
/-
  WHAT A CALL OF THE PROGRAM COMES TO IN A SMALL MEMORY: run by the kernel.
-/

namespace Go.Proofs.YtkmdidplmfdikaaDoor
open Go.Ev
noncomputable def cS0 : Con := ⟨25, [(.agg [(.sl (.i (.o (.o (.o (.o (.o .e)))))) 0 5 (some 5) 2), (.int .i64 100)]), (.int .i64 0)], [(.e, [(.int .i64 1099511627776), (.int .i64 1099511627776), (.int .i64 1099511627776)]), ((.i (.o (.o (.o (.o (.o .e)))))), [(.int .i64 0), (.int .i64 0), (.int .i64 2), (.int .i64 3), (.int .i64 4), (.int .i64 4), (.int .i64 5), (.int .i64 7), (.int .i64 10), (.int .i64 10)])], (.tup [(.sl (.o (.o (.i (.o (.o (.o (.o .e))))))) 0 5 none 2), (.int .i64 0)]), [((.o (.o (.i (.o (.o (.o (.o .e))))))), [(.int .i64 0), (.int .i64 0), (.int .i64 2), (.int .i64 2), (.int .i64 4), (.int .i64 4), (.int .i64 6), (.int .i64 7), (.int .i64 10), (.int .i64 10)], 51)]⟩
set_option maxRecDepth 100000
set_option maxHeartbeats 0
theorem cS0_run : chk cS0 ((evc Tryd.prog [] 100000).call (.fn cS0.g cS0.args) (smallH cS0.tb)) = true := by kernel_rfl
theorem cS0_ok : ConOK Tryd.prog cS0 := con_alone (n := 100000) (c := cS0) cS0_run
end Go.Proofs.YtkmdidplmfdikaaDoor
end

/- EvXcF1 -/
section
/-
  WHAT A CALL OF THE PROGRAM COMES TO IN A SMALL MEMORY: run by the kernel.
-/

namespace Go.Proofs.YtkmdidplmfdikaaDoor
open Go.Ev
noncomputable def cF1 : Con := ⟨17, [(.agg [(.sl (.i (.o (.o (.o (.o (.o .e)))))) 0 5 (some 5) 2), (.int .i64 100)])], [(.e, [(.int .i64 1099511627776), (.int .i64 1099511627776), (.int .i64 1099511627776)]), ((.i (.o (.o (.o (.o (.o .e)))))), [(.int .i64 0), (.int .i64 0), (.int .i64 2), (.int .i64 3), (.int .i64 4), (.int .i64 4), (.int .i64 5), (.int .i64 7), (.int .i64 10), (.int .i64 10)])], (.tup [(.sl (.i (.o (.o (.o (.o (.i (.o (.i .e)))))))) 0 5 none 1), (.int .i64 1), (.int .i64 0)]), [((.i (.o (.o (.o (.o (.i (.o (.i .e)))))))), [(.int .i64 0), (.int .i64 2), (.int .i64 4), (.int .i64 7), (.int .i64 10)], 2)]⟩
set_option maxRecDepth 100000
set_option maxHeartbeats 0
theorem cF1_run : chk cF1 ((evc Tryd.prog [] 100000).call (.fn cF1.g cF1.args) (smallH cF1.tb)) = true := by kernel_rfl
theorem cF1_ok : ConOK Tryd.prog cF1 := con_alone (n := 100000) (c := cF1) cF1_run
end Go.Proofs.YtkmdidplmfdikaaDoor
end

/- EvXcL -/
section
/-
  WHAT A CALL OF THE PROGRAM COMES TO IN A SMALL MEMORY: run by the kernel.
-/

namespace Go.Proofs.YtkmdidplmfdikaaDoor
open Go.Ev
noncomputable def cL : Con := ⟨23, [(.agg [(.sl (.i (.o (.o (.o (.o (.o .e)))))) 0 5 (some 5) 2), (.int .i64 100)])], [(.e, [(.int .i64 1099511627776), (.int .i64 1099511627776), (.int .i64 1099511627776)]), ((.i (.o (.o (.o (.o (.o .e)))))), [(.int .i64 0), (.int .i64 0), (.int .i64 2), (.int .i64 3), (.int .i64 4), (.int .i64 4), (.int .i64 5), (.int .i64 7), (.int .i64 10), (.int .i64 10)])], (.tup [(.sl (.i (.i (.o (.i (.i (.i (.i (.i .e)))))))) 0 30 none 1), (.int .i64 0)]), [((.i (.i (.o (.i (.i (.i (.i (.i .e)))))))), [(.int .i64 0), (.int .i64 1099511627776), (.int .i64 1099511627776), (.int .i64 0), (.int .i64 1099511627776), (.int .i64 1099511627776), (.int .i64 0), (.int .i64 1099511627776), (.int .i64 1099511627776), (.int .i64 1099511627776), (.int .i64 1099511627776), (.int .i64 2), (.int .i64 1099511627776), (.int .i64 1099511627776), (.int .i64 1), (.int .i64 0), (.int .i64 103), (.int .i64 1099511627776), (.int .i64 1099511627776), (.int .i64 1), (.int .i64 1099511627776), (.int .i64 1099511627776), (.int .i64 105), (.int .i64 1099511627776), (.int .i64 1099511627776), (.int .i64 2), (.int .i64 1099511627776), (.int .i64 1099511627776), (.int .i64 1), (.int .i64 1099511627776)], 2)]⟩
set_option maxRecDepth 100000
set_option maxHeartbeats 0
theorem cL_run : chk cL ((evc Tryd.prog [] 100000).call (.fn cL.g cL.args) (smallH cL.tb)) = true := by kernel_rfl
theorem cL_ok : ConOK Tryd.prog cL := con_alone (n := 100000) (c := cL) cL_run
end Go.Proofs.YtkmdidplmfdikaaDoor
end

/- EvXcC1 -/
section
/-
  WHAT A CALL OF THE PROGRAM COMES TO IN A SMALL MEMORY: run by the kernel.
-/

namespace Go.Proofs.YtkmdidplmfdikaaDoor
open Go.Ev
noncomputable def cC1 : Con := ⟨21, [(.agg [(.sl (.i (.o (.o (.o (.o (.o .e)))))) 0 5 (some 5) 2), (.int .i64 100)]), (.sl (.o (.i (.o (.o (.o (.o .e)))))) 0 30 none 1)], [(.e, [(.int .i64 1099511627776), (.int .i64 1099511627776), (.int .i64 1099511627776)]), ((.i (.o (.o (.o (.o (.o .e)))))), [(.int .i64 0), (.int .i64 0), (.int .i64 2), (.int .i64 3), (.int .i64 4), (.int .i64 4), (.int .i64 5), (.int .i64 7), (.int .i64 10), (.int .i64 10)]), ((.o (.i (.o (.o (.o (.o .e)))))), [(.int .i64 0), (.int .i64 1099511627776), (.int .i64 1099511627776), (.int .i64 0), (.int .i64 1099511627776), (.int .i64 1099511627776), (.int .i64 0), (.int .i64 1099511627776), (.int .i64 1099511627776), (.int .i64 1099511627776), (.int .i64 1099511627776), (.int .i64 2), (.int .i64 1099511627776), (.int .i64 1099511627776), (.int .i64 1), (.int .i64 0), (.int .i64 103), (.int .i64 1099511627776), (.int .i64 1099511627776), (.int .i64 1), (.int .i64 1099511627776), (.int .i64 1099511627776), (.int .i64 105), (.int .i64 1099511627776), (.int .i64 1099511627776), (.int .i64 2), (.int .i64 1099511627776), (.int .i64 1099511627776), (.int .i64 1), (.int .i64 1099511627776)])], (.tup [(.int .i64 1), (.int .i64 0)]), []⟩
set_option maxRecDepth 100000
set_option maxHeartbeats 0
theorem cC1_run : chk cC1 ((evc Tryd.prog [] 100000).call (.fn cC1.g cC1.args) (smallH cC1.tb)) = true := by kernel_rfl
theorem cC1_ok : ConOK Tryd.prog cC1 := con_alone (n := 100000) (c := cC1) cC1_run
end Go.Proofs.YtkmdidplmfdikaaDoor
end

/- EvXcW -/
section
/-
  WHAT A CALL OF THE PROGRAM COMES TO IN A SMALL MEMORY: run by the kernel.
-/
namespace Go.Proofs.YtkmdidplmfdikaaDoor
open Go.Ev
set_option maxRecDepth 100000
set_option maxHeartbeats 0
theorem cW_run : chk cW ((evc Tryd.prog [cS0, cF1, cL, cC1] 100000).call (.fn cW.g cW.args) (smallH cW.tb)) = true := by kernel_rfl
theorem cW_ok : ConOK Tryd.prog cW := con_run (P := Tryd.prog) mixed (cons := [cS0, cF1, cL, cC1]) (n := 100000) (c := cW) (fun _ h => by
  simp only [List.mem_cons, List.not_mem_nil, or_false] at h
  rcases h with rfl | rfl | rfl | rfl
  · exact cS0_ok
  · exact cF1_ok
  · exact cL_ok
  · exact cC1_ok) cW_run
end Go.Proofs.YtkmdidplmfdikaaDoor
end

/- EvKf -/
section
/- The statement FairFairest of layer 1: the fairest line within spots, and what it costs, are those of the first of all lines that cost least, or the error, for all spots; the package's table of costs is as the text lays it. -/
namespace Go.Proofs.YtkmdidplmfdikaaDoor.fairFairest
open Go.ChangeShapes Go.WideShapes Go.ChangeAt Go.RowKit Go.Ev
set_option maxRecDepth 100000
set_option maxHeartbeats 0

theorem own : ownKnob Tryd.prog.godebug = none := by kernel_rfl
theorem laidOut : laidOutB Tryd.prog = true := by kernel_rfl
theorem gTab : Tryd.prog.globalNamed "tumblehome/fair.none" = some 0 := by kernel_rfl
theorem gTabType : (Tryd.prog.globals[0]?).map (·.type) = some 109 := by kernel_rfl
theorem cells109 : Tryd.prog.cellsOf 109 = 3 := by kernel_rfl
theorem cells2 : Tryd.prog.cellsOf 2 = 1 := by kernel_rfl
theorem cells22 : Tryd.prog.cellsOf 22 = 1 := by kernel_rfl
theorem cells24 : Tryd.prog.cellsOf 24 = 2 := by kernel_rfl
theorem cells51 : Tryd.prog.cellsOf 51 = 2 := by kernel_rfl
theorem types24 : Tryd.prog.cellTypes Tryd.prog.depth 24 = some [22, 2] := by kernel_rfl
theorem under24 : ∃ f0 f1 : Field, Tryd.prog.underlying 24 = some (.struct #[f0, f1]) ∧ f0.offset = 0 ∧ f1.offset = 1 ∧ f0.type = 22 ∧ f1.type = 2 := ⟨_, _, Tryd.underlying24, rfl, rfl, rfl, rfl⟩
theorem under51 : ∃ f0 f1 : Field, Tryd.prog.underlying 51 = some (.struct #[f0, f1]) ∧ f0.offset = 0 ∧ f1.offset = 1 ∧ f0.type = 2 ∧ f1.type = 2 := ⟨_, _, Tryd.underlying51, rfl, rfl, rfl, rfl⟩

theorem table {W : World} (h : laidMetH Tryd.prog Rows.fairFairestRow.laid W) : Lib.TabIs Tryd.prog W "tumblehome/fair.none" .i64 [1099511627776, 1099511627776, 1099511627776] :=
  Lib.tabIs_of_head (rest := []) gTab gTabType Tryd.underlying109 Tryd.underlying2 cells2 cells109 h
theorem tab {W : World} (h : laidMetH Tryd.prog Rows.fairFairestRow.laid W) : Tab (startW W) := by
  have t := table h
  have c0 : W.cell? ⟨0, 0, none⟩ = some (.int .i64 1099511627776) := t.cell gTab 0 (by decide)
  have c1 : W.cell? ⟨0, 1, none⟩ = some (.int .i64 1099511627776) := t.cell gTab 1 (by decide)
  have c2 : W.cell? ⟨0, 2, none⟩ = some (.int .i64 1099511627776) := t.cell gTab 2 (by decide)
  obtain ⟨c, e, f, h0, g0⟩ := cell_block c0
  obtain ⟨_, _, _, h1, g1⟩ := cell_block c1
  obtain ⟨_, _, _, h2, g2⟩ := cell_block c2
  rw [h0] at h1 h2
  cases h1
  cases h2
  exact ⟨_, startW_block h0, by show (c[0]?).bind _ = _; rw [g0]; rfl, by show (c[1]?).bind _ = _; rw [g1]; rfl, by show (c[2]?).bind _ = _; rw [g2]; rfl⟩

theorem contract (H : Type) (enc : TypeId × Value → H) (W : World) (base : Nat) (args : Array Value) (ds gs : List (DataW H)) (before : List MemPlace) (hval : ∀ (j : Nat) t v, Tryd.f4.params[j]? = some t → args[j]? = some v → Value.okWide Tryd.prog W .any base t v)
    (hW : DataW.Whole enc Tryd.prog Tryd.f4.params.toList Rows.fairFairestSpec.vars false W args.toList ds gs before) (hL : laidMetH Tryd.prog Rows.fairFairestRow.laid W) :
    Calls Tryd.prog 4 args W fun e W' => ∃ v, e = .returned v ∧ Rows.fairFairestSpec.post enc Tryd.prog Tryd.f4 false true false false W args v W' := by
  have hW' := hW
  obtain ⟨p, q, hA0, hV, rfl, hfz, hnd⟩ := hW
  have hA : DataW.TrodAll enc Tryd.prog W 0 (fun _ => true) true Tryd.f4.params.toList args.toList ds p := hA0
  rw [Tryd.params4] at hA hval
  obtain ⟨v0, d0, rfl, rfl, n0, h0⟩ := trodAll_one hA
  obtain ⟨f0, f1, hu, o0, o1, t0, t1⟩ := under24
  obtain ⟨g0, g1, hg, go0, go1, gt0, gt1⟩ := under51
  obtain ⟨u, w, n, y, z, rfl, k0, k1, r0, r1⟩ := open_two hu cells24 o0 o1 t0 t1 cells22 cells2 types24 (hval 0 24 v0 rfl rfl) h0
  obtain ⟨turn, hz, _⟩ := DataW.trod_int Tryd.underlying2 r1
  cases hz
  obtain ⟨sp, a, va, ca, sa⟩ := open_pairs Tryd.underlying22 hg cells51 go0 go1 gt0 gt1 Tryd.underlying2 cells2 k0 r0
  have walk := lawFairest sp turn a (startW W) (startW_wf W) (tab hL) sa
  have hargs : VL (startWR W) [.agg [a, .int .i64 turn]] (#[.agg #[u, .int .i64 turn]] : Array Value).toList :=
    .cons _ _ _ _ (.agg _ _ (.cons _ _ _ _ va (.cons _ _ _ _ (.int _ _) .nil))) .nil
  refine (startW_true (P := Tryd.prog) mixed (K := KK) (fun c hc => by
    have : c = cW := List.mem_singleton.1 hc
    rw [this]; exact cW_ok) walk hargs).mono fun e W' ⟨he, hgr, hs⟩ => ?_
  subst he
  refine ⟨_, rfl, law_post laidOut (by rw [Tryd.params4]; intro t ht; rcases List.mem_cons.1 ht with rfl | ht; exact ⟨by kernel_rfl, of_decide_eq_true (by kernel_rfl)⟩; cases ht) rfl (by kernel_rfl) Tryd.underlying4 (fun gs' ⟨q', hq⟩ => ?_) hW' hgr hs⟩
  obtain ⟨rfl, _⟩ := trodVars_none hq
  exact ⟨rfl, rfl, rfl⟩

/-- A world for the witness. -/
noncomputable def laidWorld (os : Os) : World :=
  { World.holding Tryd.prog os ⟨#[], #[], []⟩ with heap := (World.holding Tryd.prog os ⟨#[], #[], []⟩).heap.modify 0 fun
      | .cells _ t frozen => .cells #[.int .i64 1099511627776, .int .i64 1099511627776, .int .i64 1099511627776] t frozen
      | o => o }
noncomputable def args0 : Array Value := #[.agg #[.slice none 0 0, .int .i64 0]]
theorem laid_met (os : Os) : laidMet Tryd.prog Rows.fairFairestRow.laid ((laidWorld os).forCall (fun _ _ => 0) ⟨#[], args0, []⟩).memory :=
  laidMet_of_run' 8 (by kernel_rfl) (by kernel_rfl)
theorem reads (os : Os) {H : Type} (enc : TypeId × Value → H) : ∃ places, DataW.whole enc Tryd.prog ((laidWorld os).forCall (fun _ _ => 0) ⟨#[], args0, []⟩).memory Tryd.f4.params.toList Rows.fairFairestSpec.vars false args0.toList 8 = some ([.agg [.nil, .lit (.int .i64 0)]], [], places) :=
  ⟨[], by kernel_rfl⟩

theorem lifted (os : Os) (started : os.Started) (H : Type) (enc : TypeId × Value → H) (F : Stop.Interp) :
    ReturnsInHanded {} Tryd.checked os 4 .any ((OpenSpec.ofChange Rows.fairFairestSpec).preRow enc Tryd.prog Tryd.f4 Rows.fairFairestRow.domain false Rows.fairFairestRow.laid) (((OpenSpec.ofChange Rows.fairFairestSpec).at F).post enc Tryd.prog Tryd.f4 false true false false) := by
  obtain ⟨places, hx⟩ := reads os enc
  refine returnsInHanded_of_row (C := Tryd.checked) (s := OpenSpec.ofChange Rows.fairFairestSpec) own started (by kernel_rfl) Tryd.func4
    (witness_row_at (enc := enc) (C := Tryd.checked) false (laidWorld os) args0 rfl (by kernel_rfl) (by kernel_rfl) (by kernel_rfl)
      (OpenSpec.preRow_of_cond 8 hx (by kernel_rfl) (fun k hk => by cases hk) (by kernel_rfl) (laid_met os))) ?_
  intro W base args ds gs before hval hW _ _ _ hL _ _
  exact contract H enc W base args ds gs before hval hW hL

theorem said : Rows.FairFairestSaid :=
  OpenClaim.holds_of_cond 4 Tryd.f4 rfl rfl rfl rfl rfl rfl rfl ⟨rfl, rfl, rfl, rfl, rfl⟩ rfl rfl rfl rfl rfl (by kernel_rfl) Tryd.func4 (by kernel_rfl)
    (of_decide_eq_true (by kernel_rfl)) (by unfold Func.isWrapper; first | (rw [if_pos (by decide +kernel)]; kernel_rfl) | (rw [if_neg (by decide +kernel)]; exact ⟨rfl, rfl⟩))
    (fun os started H enc _ F => by rw [OpenClaim.pre_eq_preRow]; exact lifted os started H enc F)

theorem stand24 : Tryd.pinned.checked.prog.wantsStandIn 24 = false := by kernel_rfl
theorem plain (f : FuncId) (fn : Func) (hf : Tryd.pinned.checked.prog.funcNamed "tumblehome/tumblehomelaw01.FairFairest" = some f) (hfn : Tryd.pinned.checked.prog.funcs[f]? = some fn) :
    false = Tryd.pinned.checked.prog.looks [] ∧ ∀ (j : Nat) t, fn.params[j]? = some t → Tryd.pinned.checked.prog.wantsStandIn t = false := by
  obtain rfl : f = 4 := Option.some.inj ((show Tryd.prog.funcNamed "tumblehome/tumblehomelaw01.FairFairest" = some 4 by kernel_rfl).symm.trans hf) |>.symm
  obtain rfl : fn = Tryd.f4 := (Option.some.inj (Tryd.func4.symm.trans hfn)).symm
  refine ⟨by kernel_rfl, fun j t ht => ?_⟩
  rw [Tryd.params4] at ht
  match j, ht with
  | 0, ht =>
    have e : t = 24 := by simpa using ht.symm
    rw [e]
    exact stand24
  | j + 1, ht => simp at ht

/-- ████ THE CARD ████ -/
theorem card : Rows.FairFairestCardSaid :=
  Claim7.holds_tied_plain_at .later [] _ _ _ _ said (fun _ h => by cases h) (by kernel_rfl) (fun _ h => by cases h) fairFairest_row_tie rfl ⟨rfl, rfl⟩ (by kernel_rfl) rfl plain (by kernel_rfl)
end Go.Proofs.YtkmdidplmfdikaaDoor.fairFairest
end
