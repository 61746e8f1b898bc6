/- The statement WaveTogether of layer 5: if bits are added to as many others, modulo 2, the complexity is at most the sum of both, and at least what they differ by, for all lists; no condition. -/
import Derived.Test.YtmincoafjnnkpaawtM7
import Derived.Test.YtmincoafjnnkpaaRows
import Derived.WalkKit
import Derived.ProofKit
import Derived.OpenShut
set_option linter.all false
/- EvWr -/
section
/-
  SUMS OF SEQUENCES; THE REGISTERS THAT ARE TRIED.
-/
namespace Go.Ev
def natOf (L : Nat) (f : Nat → Bool) : Nat := bN ((List.range L).map f)
theorem natOf_lt (L : Nat) (f : Nat → Bool) : natOf L f < 2 ^ L := by
  unfold natOf
  have := bN_lt ((List.range L).map f)
  simpa using this
theorem natOf_bit {L : Nat} (f : Nat → Bool) {j : Nat} (hj : j < L) : (natOf L f).testBit j = f j := by
  unfold natOf
  rw [bN_bit, List.getD_eq_getElem?_getD, List.getElem?_map, List.getElem?_range hj]; rfl
/-- A register that makes what either of two makes, and so their sum. -/
theorem both_make {T1 L1 T2 L2 n : Nat} {x y : Nat → Bool} (hT1 : T1 < 2 ^ L1) (hT2 : T2 < 2 ^ L2) (hx : Makes T1 L1 x n) (hy : Makes T2 L2 y n) : ∃ T, T < 2 ^ (L1 + L2) ∧ Makes T (L1 + L2) (fun i => x i ^^ y i) n := by
  -- the taps of the product
  let c : Nat → Bool := fun m => (T1.testBit m ^^ T2.testBit m) ^^ px L2 (fun k => T2.testBit k && (decide (k + 1 ≤ m) && T1.testBit (m - (k + 1))))
  refine ⟨natOf (L1 + L2) c, natOf_lt _ _, fun i h1 h2 => ?_⟩
  have lin : ∀ s : Nat → Bool, pred (natOf (L1 + L2) c) (L1 + L2) s i = ((pred T1 L1 s i ^^ pred T2 L2 s i) ^^ px L2 (fun k => T2.testBit k && px L1 (fun j => T1.testBit j && s (i - 1 - k - 1 - j)))) := fun s => by
    have e1 : pred (natOf (L1 + L2) c) (L1 + L2) s i = px (L1 + L2) (fun m => ((T1.testBit m && s (i - 1 - m)) ^^ (T2.testBit m && s (i - 1 - m))) ^^ px L2 (fun k => T2.testBit k && (decide (k + 1 ≤ m) && (T1.testBit (m - (k + 1)) && s (i - 1 - m))))) := by
      refine px_congr fun m hm => ?_
      rw [natOf_bit c hm]
      show (((T1.testBit m ^^ T2.testBit m) ^^ px L2 (fun k => T2.testBit k && (decide (k + 1 ≤ m) && T1.testBit (m - (k + 1))))) && s (i - 1 - m)) = _
      have e2 : px L2 (fun k => T2.testBit k && (decide (k + 1 ≤ m) && (T1.testBit (m - (k + 1)) && s (i - 1 - m)))) = (s (i - 1 - m) && px L2 (fun k => T2.testBit k && (decide (k + 1 ≤ m) && T1.testBit (m - (k + 1))))) := by
        rw [← px_and]
        refine px_congr fun k _ => ?_
        cases T2.testBit k <;> cases decide (k + 1 ≤ m) <;> cases T1.testBit (m - (k + 1)) <;> cases s (i - 1 - m) <;> rfl
      rw [e2]
      cases T1.testBit m <;> cases T2.testBit m <;> cases s (i - 1 - m) <;> simp
    rw [e1, px_xor, px_xor]
    congr 1
    · congr 1
      · exact pred_more hT1 (by omega)
      · exact pred_more hT2 (by omega)
    · rw [px_swap]
      refine px_congr fun k hk => ?_
      rw [px_and]
      congr 1
      have e3 : px (L1 + L2) (fun m => decide (k + 1 ≤ m) && (T1.testBit (m - (k + 1)) && s (i - 1 - m))) = px ((k + 1) + (L1 + L2 - (k + 1))) (fun m => decide (k + 1 ≤ m) && (fun j => T1.testBit j && s (i - 1 - k - 1 - j)) (m - (k + 1))) := by
        rw [show (k + 1) + (L1 + L2 - (k + 1)) = L1 + L2 by omega]
        refine px_congr fun m hm => ?_
        by_cases hkm : k + 1 ≤ m
        · show _ = (decide (k + 1 ≤ m) && (T1.testBit (m - (k + 1)) && s (i - 1 - k - 1 - (m - (k + 1)))))
          rw [show i - 1 - k - 1 - (m - (k + 1)) = i - 1 - m by omega]
        · rw [decide_eq_false hkm]; rfl
      refine (e3.trans (px_shift (k + 1) (fun j => T1.testBit j && s (i - 1 - k - 1 - j)) _)).trans ?_
      exact px_more (by omega) fun j h1 _ => by rw [bit_high hT1 h1, Bool.false_and]
  -- of each of both sequences
  have ex : px L2 (fun k => T2.testBit k && px L1 (fun j => T1.testBit j && x (i - 1 - k - 1 - j))) = pred T2 L2 x i := px_congr fun k hk => by
    rw [hx (i - 1 - k) (by omega) (by omega)]; rfl
  have ey : px L2 (fun k => T2.testBit k && px L1 (fun j => T1.testBit j && y (i - 1 - k - 1 - j))) = pred T1 L1 y i := by
    have e1 : px L2 (fun k => T2.testBit k && px L1 (fun j => T1.testBit j && y (i - 1 - k - 1 - j))) = px L2 (fun k => px L1 (fun j => T2.testBit k && (T1.testBit j && y (i - 1 - k - 1 - j)))) := px_congr fun k _ => (px_and _ _ _).symm
    rw [e1, px_swap]
    refine px_congr fun j hj => ?_
    rw [hy (i - 1 - j) (by omega) (by omega)]
    show _ = (T1.testBit j && px L2 (fun k => T2.testBit k && y (i - 1 - j - 1 - k)))
    rw [← px_and]
    refine px_congr fun k hk => ?_
    rw [show i - 1 - k - 1 - j = i - 1 - j - 1 - k by omega]
    cases T2.testBit k <;> cases T1.testBit j <;> rfl
  have add : pred (natOf (L1 + L2) c) (L1 + L2) (fun i => x i ^^ y i) i = (pred (natOf (L1 + L2) c) (L1 + L2) x i ^^ pred (natOf (L1 + L2) c) (L1 + L2) y i) := by
    unfold pred
    rw [← px_xor]
    refine px_congr fun j _ => ?_
    show ((natOf (L1 + L2) c).testBit j && (x (i - 1 - j) ^^ y (i - 1 - j))) = _
    cases (natOf (L1 + L2) c).testBit j <;> cases x (i - 1 - j) <;> cases y (i - 1 - j) <;> rfl
  rw [add, lin x, lin y, ex, ey, ← hx i (by omega) h2, ← hy i (by omega) h2]
  show (x i ^^ y i) = _
  cases x i <;> cases y i <;> cases pred T2 L2 x i <;> cases pred T1 L1 y i <;> rfl
/-- A register that is tried. -/
structure Att where
  (T L : Nat) (at_ : Int)
def Att.bound (a : Att) : Int := a.at_ + 1 - (a.L : Int)
/-- The first one of the greatest bound. -/
def best1 (m : Att) : List Att → Att
  | [] => m
  | x :: l => best1 (if m.bound < x.bound then x else m) l
def bestA : List Att → Att
  | [] => ⟨0, 0, 0⟩
  | m :: l => best1 m l
theorem best1_snoc (x : Att) : ∀ (l : List Att) (m : Att), best1 m (l ++ [x]) = if (best1 m l).bound < x.bound then x else best1 m l
  | [], m => rfl
  | y :: l, m => by
    show best1 (if m.bound < y.bound then y else m) (l ++ [x]) = _
    rw [best1_snoc x l]; rfl
theorem bestA_snoc {l : List Att} (x : Att) (hl : l ≠ []) : bestA (l ++ [x]) = if (bestA l).bound < x.bound then x else bestA l := by
  match l, hl with
  | m :: l, _ => exact best1_snoc x l m
/-- Is a register a good one for mending at a later place? -/
def OkBy (s : Nat → Bool) (p : Nat) (a : Att) : Prop := a = ⟨0, 0, -1⟩ ∨ (a.T < 2 ^ a.L ∧ ∃ q : Nat, a.at_ = (q : Int) ∧ q < p ∧ Wrong a.T a.L s q)
/-- How registers are tried: what was tried, which is the register now, how many bits it surely makes, and the numbers of the profile so far. -/
inductive Chain (s : Nat → Bool) : List Att → Nat → Nat → Nat → List Nat → Prop
  | nil : Chain s [⟨0, 0, -1⟩] 0 0 0 []
  | snoc {l : List Att} {T L p q : Nat} {prof : List Nat} : Chain s l T L p prof → p ≤ q → Wrong T L s q → q < 128 →
      Chain s (l ++ [⟨T, L, (q : Int)⟩]) (mend T ((q : Int) - (bestA l).at_).toNat (bestA l).T) (max L ((bestA l).L + ((q : Int) - (bestA l).at_).toNat)) (q + 1) (prof ++ List.replicate (q + 1 - p) L)
structure Facts (s : Nat → Bool) (l : List Att) (T L p : Nat) (prof : List Nat) : Prop where
  ne : l ≠ []
  lt : T < 2 ^ L
  le : L ≤ p
  p_le : p ≤ 128
  cx : Cpx s p L
  makes : Makes T L s p
  best : (bestA l).bound = (L : Int)
  by_ : OkBy s p (bestA l)
  len : prof.length = p
  prof_ : ∀ k, k < p → ∃ Lk : Nat, prof[k]? = some Lk ∧ Cpx s k Lk
  mono : ∀ (k Lk : Nat), prof[k]? = some Lk → Lk ≤ L
theorem Chain.facts {s : Nat → Bool} {l : List Att} {T L p : Nat} {prof : List Nat} (h : Chain s l T L p prof) : Facts s l T L p prof := by
  induction h with
  | nil => exact ⟨by simp, by decide, Nat.le_refl _, by omega, ⟨⟨0, by decide, fun i h1 h2 => by omega⟩, fun _ _ _ => Nat.zero_le _⟩, fun i h1 h2 => by omega, rfl, .inl rfl, rfl, fun k hk => by omega, fun k Lk hk => by simp at hk⟩
  | @snoc l T L p q prof _ hpq w hq ih =>
    obtain ⟨ne, lt, le, p_le, cx, makes, best, by_, len, prof_, mono⟩ := ih
    have hb := bestA_snoc ⟨T, L, (q : Int)⟩ ne
    have hbb : (⟨T, L, (q : Int)⟩ : Att).bound = (q : Int) + 1 - (L : Int) := rfl
    have hbB : (bestA l).bound = (bestA l).at_ + 1 - ((bestA l).L : Int) := rfl
    generalize hB : bestA l = B at *
    have hlq := w.le
    -- the new length
    have hL' : ((max L (B.L + ((q : Int) - B.at_).toNat) : Nat) : Int) = max (L : Int) ((q : Int) + 1 - (L : Int)) ∧ B.at_ < (q : Int) ∧ 0 < ((q : Int) - B.at_).toNat := by
      have : B.at_ < (q : Int) := by
        rcases by_ with h | ⟨_, q', h, h2, _⟩
        · rw [h]; show (-1 : Int) < _; omega
        · omega
      omega
    obtain ⟨hL', hat, hg⟩ := hL'
    have hL128 : max L (B.L + ((q : Int) - B.at_).toNat) ≤ q + 1 := by omega
    have hmk : Makes (mend T ((q : Int) - B.at_).toNat B.T) (max L (B.L + ((q : Int) - B.at_).toNat)) s (q + 1) := by
      rcases by_ with h | ⟨hBT, q', h, h2, w2⟩
      · rw [h] at hL' hL128 ⊢
        intro i h1 h2
        have e : ((q : Int) - (-1)).toNat = q + 1 := by omega
        have : max L (0 + ((q : Int) - (-1)).toNat) ≤ i := h1
        rw [e] at this
        omega
      · have hg2 : ((q : Int) - B.at_).toNat = q - q' := by omega
        rw [hg2] at hL128 ⊢
        exact mended lt w hBT w2 (by omega) (by omega)
    have hBlt : B.T < 2 ^ B.L := by
      rcases by_ with h | ⟨hBT, _⟩
      · rw [h]; decide
      · exact hBT
    have hlt := mend_lt (T := T) (L := L) (T2 := B.T) (L2 := B.L) lt hBlt (g := ((q : Int) - B.at_).toNat) (by omega)
    have hleast : ∀ T' L', Makes T' L' s (q + 1) → max L (B.L + ((q : Int) - B.at_).toNat) ≤ L' := fun T' L' h => by
      have h1 := cx.least T' L' (h.less (by omega))
      have h2 := mass w h
      omega
    refine ⟨by simp, hlt, by omega, by omega, ⟨⟨_, hlt, hmk⟩, hleast⟩, hmk, ?_, ?_, ?_, ?_, ?_⟩
    · rw [hb]
      split <;> omega
    · rw [hb]
      split
      · exact .inr ⟨lt, q, rfl, by omega, w⟩
      · rcases by_ with h | ⟨h1, q', h2, h3, h4⟩
        · exact .inl h
        · exact .inr ⟨h1, q', h2, by omega, h4⟩
    · rw [List.length_append, List.length_replicate]; omega
    · intro k hk
      by_cases hkp : k < p
      · obtain ⟨Lk, h1, h2⟩ := prof_ k hkp
        exact ⟨Lk, by rw [List.getElem?_append_left (by omega)]; exact h1, h2⟩
      · refine ⟨L, by rw [List.getElem?_append_right (by omega), List.getElem?_replicate, if_pos (by omega)], ⟨⟨T, lt, w.makes.less (by omega)⟩, fun T' L' h => cx.least T' L' (h.less (by omega))⟩⟩
    · intro k Lk hk
      by_cases hkp : k < p
      · rw [List.getElem?_append_left (by omega)] at hk
        have := mono k Lk hk
        omega
      · rw [List.getElem?_append_right (by omega), List.getElem?_replicate] at hk
        split at hk
        · cases hk; omega
        · cases hk
end Go.Ev
end

/- EvZ14 -/
section
/-
  LAYER 5: registers that are tried.
-/
namespace Go.Proofs.Ytmincoafjnnkpaa
open Go.Ev
set_option maxRecDepth 100000
set_option linter.unusedSimpArgs false
set_option linter.unusedVariables false
set_option maxHeartbeats 2000000
theorem tEvZ14 : type_of% (And.intro (And.intro (And.intro (And.intro (And.intro (And.intro (And.intro (@bs_33) (@bs_34)) (And.intro (@bs_57) (@bs_59))) (And.intro (And.intro (@bs_67) (@bs_78)) (And.intro (@ia_2) (And.intro (@ia_3) (@ia_4))))) (And.intro (And.intro (And.intro (@ia_5) (@ia_22)) (And.intro (@ia_24) (@ia_25))) (And.intro (And.intro (@ia_33) (@ia_34)) (And.intro (@ia_42) (And.intro (@ia_55) (@ia_57)))))) (And.intro (And.intro (And.intro (And.intro (@ia_59) (@ia_63)) (And.intro (@ia_67) (@ia_74))) (And.intro (And.intro (@ia_78) (@ia_85)) (And.intro (@ia_87) (And.intro (@ia_90) (@sz_2))))) (And.intro (And.intro (And.intro (@sz_3) (@sz_4)) (And.intro (@sz_5) (And.intro (@sz_22) (@sz_24)))) (And.intro (And.intro (@sz_25) (@sz_33)) (And.intro (@sz_34) (And.intro (@sz_42) (@sz_55))))))) (And.intro (And.intro (And.intro (And.intro (And.intro (@sz_57) (@sz_59)) (And.intro (@sz_63) (@sz_67))) (And.intro (And.intro (@sz_74) (@sz_78)) (And.intro (@sz_85) (And.intro (@sz_87) (@sz_90))))) (And.intro (And.intro (And.intro (@ze_2) (@ze_3)) (And.intro (@ze_4) (And.intro (@ze_5) (@ze_22)))) (And.intro (And.intro (@ze_24) (@ze_33)) (And.intro (@ze_34) (And.intro (@ze_42) (@ze_55)))))) (And.intro (And.intro (And.intro (And.intro (@ze_57) (@ze_59)) (And.intro (@ze_63) (@ze_67))) (And.intro (And.intro (@ze_74) (@ze_78)) (And.intro (@ze_85) (And.intro (@ze_87) (@ze_90))))) (And.intro (And.intro (And.intro (@fo_33_0) (@fo_33_1)) (And.intro (@fo_34_0) (And.intro (@fo_34_1) (@fo_59_0)))) (And.intro (And.intro (@fo_59_1) (@fo_67_0)) (And.intro (@fo_67_1) (And.intro (@fo_78_0) (@pb_15)))))))) (And.intro (And.intro (And.intro (And.intro (And.intro (And.intro (@pb_16) (@pb_17)) (And.intro (@pb_18) (@pb_19))) (And.intro (And.intro (@pb_20) (@pb_21)) (And.intro (@pb_22) (And.intro (@pb_23) (@pb_24))))) (And.intro (And.intro (And.intro (@pb_25) (@pb_26)) (And.intro (@pb_27) (@pb_28))) (And.intro (And.intro (@pb_29) (@pb_30)) (And.intro (@pb_31) (And.intro (@pb_32) (@pb_33)))))) (And.intro (And.intro (And.intro (And.intro (@pb_34) (@pb_35)) (And.intro (@pb_36) (@pb_37))) (And.intro (And.intro (@pb_38) (@pb_39)) (And.intro (@pb_40) (And.intro (@pb_41) (@pb_42))))) (And.intro (And.intro (And.intro (@pb_43) (@pb_44)) (And.intro (@pb_45) (And.intro (@pb_46) (@pb_47)))) (And.intro (And.intro (@pb_48) (@pb_49)) (And.intro (@pb_50) (And.intro (@pb_51) (@pb_52))))))) (And.intro (And.intro (And.intro (And.intro (And.intro (@pb_53) (@pb_54)) (And.intro (@pb_55) (@pb_56))) (And.intro (And.intro (@pb_57) (@pb_58)) (And.intro (@pb_59) (And.intro (@pb_60) (@pb_61))))) (And.intro (And.intro (And.intro (@pb_62) (@pb_63)) (And.intro (@pb_64) (And.intro (@pb_65) (@pb_66)))) (And.intro (And.intro (@pb_67) (@pb_68)) (And.intro (@pb_69) (And.intro (@pb_70) (@pb_71)))))) (And.intro (And.intro (And.intro (And.intro (@pb_72) (@pb_73)) (And.intro (@pb_74) (@pb_75))) (And.intro (And.intro (@pb_76) (@pb_77)) (And.intro (@pb_78) (And.intro (@pb_79) (@pb_80))))) (And.intro (And.intro (And.intro (@pb_81) (@pb_82)) (And.intro (@ik_22) (And.intro (@ik_42) (@ik_57)))) (And.intro (And.intro (@ik_63) (@ik_90)) (And.intro (@ni_22) (And.intro (@ni_42) (@ni_63))))))))) := And.intro (And.intro (And.intro (And.intro (And.intro (And.intro (And.intro (@bs_33) (@bs_34)) (And.intro (@bs_57) (@bs_59))) (And.intro (And.intro (@bs_67) (@bs_78)) (And.intro (@ia_2) (And.intro (@ia_3) (@ia_4))))) (And.intro (And.intro (And.intro (@ia_5) (@ia_22)) (And.intro (@ia_24) (@ia_25))) (And.intro (And.intro (@ia_33) (@ia_34)) (And.intro (@ia_42) (And.intro (@ia_55) (@ia_57)))))) (And.intro (And.intro (And.intro (And.intro (@ia_59) (@ia_63)) (And.intro (@ia_67) (@ia_74))) (And.intro (And.intro (@ia_78) (@ia_85)) (And.intro (@ia_87) (And.intro (@ia_90) (@sz_2))))) (And.intro (And.intro (And.intro (@sz_3) (@sz_4)) (And.intro (@sz_5) (And.intro (@sz_22) (@sz_24)))) (And.intro (And.intro (@sz_25) (@sz_33)) (And.intro (@sz_34) (And.intro (@sz_42) (@sz_55))))))) (And.intro (And.intro (And.intro (And.intro (And.intro (@sz_57) (@sz_59)) (And.intro (@sz_63) (@sz_67))) (And.intro (And.intro (@sz_74) (@sz_78)) (And.intro (@sz_85) (And.intro (@sz_87) (@sz_90))))) (And.intro (And.intro (And.intro (@ze_2) (@ze_3)) (And.intro (@ze_4) (And.intro (@ze_5) (@ze_22)))) (And.intro (And.intro (@ze_24) (@ze_33)) (And.intro (@ze_34) (And.intro (@ze_42) (@ze_55)))))) (And.intro (And.intro (And.intro (And.intro (@ze_57) (@ze_59)) (And.intro (@ze_63) (@ze_67))) (And.intro (And.intro (@ze_74) (@ze_78)) (And.intro (@ze_85) (And.intro (@ze_87) (@ze_90))))) (And.intro (And.intro (And.intro (@fo_33_0) (@fo_33_1)) (And.intro (@fo_34_0) (And.intro (@fo_34_1) (@fo_59_0)))) (And.intro (And.intro (@fo_59_1) (@fo_67_0)) (And.intro (@fo_67_1) (And.intro (@fo_78_0) (@pb_15)))))))) (And.intro (And.intro (And.intro (And.intro (And.intro (And.intro (@pb_16) (@pb_17)) (And.intro (@pb_18) (@pb_19))) (And.intro (And.intro (@pb_20) (@pb_21)) (And.intro (@pb_22) (And.intro (@pb_23) (@pb_24))))) (And.intro (And.intro (And.intro (@pb_25) (@pb_26)) (And.intro (@pb_27) (@pb_28))) (And.intro (And.intro (@pb_29) (@pb_30)) (And.intro (@pb_31) (And.intro (@pb_32) (@pb_33)))))) (And.intro (And.intro (And.intro (And.intro (@pb_34) (@pb_35)) (And.intro (@pb_36) (@pb_37))) (And.intro (And.intro (@pb_38) (@pb_39)) (And.intro (@pb_40) (And.intro (@pb_41) (@pb_42))))) (And.intro (And.intro (And.intro (@pb_43) (@pb_44)) (And.intro (@pb_45) (And.intro (@pb_46) (@pb_47)))) (And.intro (And.intro (@pb_48) (@pb_49)) (And.intro (@pb_50) (And.intro (@pb_51) (@pb_52))))))) (And.intro (And.intro (And.intro (And.intro (And.intro (@pb_53) (@pb_54)) (And.intro (@pb_55) (@pb_56))) (And.intro (And.intro (@pb_57) (@pb_58)) (And.intro (@pb_59) (And.intro (@pb_60) (@pb_61))))) (And.intro (And.intro (And.intro (@pb_62) (@pb_63)) (And.intro (@pb_64) (And.intro (@pb_65) (@pb_66)))) (And.intro (And.intro (@pb_67) (@pb_68)) (And.intro (@pb_69) (And.intro (@pb_70) (@pb_71)))))) (And.intro (And.intro (And.intro (And.intro (@pb_72) (@pb_73)) (And.intro (@pb_74) (@pb_75))) (And.intro (And.intro (@pb_76) (@pb_77)) (And.intro (@pb_78) (And.intro (@pb_79) (@pb_80))))) (And.intro (And.intro (And.intro (@pb_81) (@pb_82)) (And.intro (@ik_22) (And.intro (@ik_42) (@ik_57)))) (And.intro (And.intro (@ik_63) (@ik_90)) (And.intro (@ni_22) (And.intro (@ni_42) (@ni_63))))))))
def attC (a : Att) : List AV := [uu (a.T % 2 ^ 64), uu (a.T >>> 64), ii (a.L : Int), ii a.at_]
theorem attC_length (a : Att) : (attC a).length = 4 := rfl
theorem flat_len {α : Type} {f : α → List AV} {m : Nat} (hf : ∀ a, (f a).length = m) : ∀ l : List α, (l.flatMap f).length = l.length * m
  | [] => by simp
  | a :: l => by rw [List.flatMap_cons, List.length_append, hf, flat_len hf l, List.length_cons, Nat.succ_mul]; omega
theorem flat_at {α : Type} {f : α → List AV} {m : Nat} (hf : ∀ a, (f a).length = m) : ∀ {l : List α} {i : Nat} (hi : i < l.length), ((l.flatMap f).drop (i * m)).take m = f l[i]
  | [], _, hi => absurd hi (Nat.not_lt_zero _)
  | a :: l, 0, _ => by
    rw [Nat.zero_mul, List.drop_zero, List.flatMap_cons, List.take_append_of_le_length (by rw [hf]; exact Nat.le_refl _), List.take_of_length_le (by rw [hf]; exact Nat.le_refl _)]; rfl
  | a :: l, i + 1, hi => by
    rw [List.flatMap_cons, show (i + 1) * m = m + i * m by rw [Nat.succ_mul]; omega, ← List.drop_drop, List.drop_left' (hf a)]
    exact flat_at hf (by simpa using hi)
theorem bound (a : Att) (h : H) (wf : Wf h) (hat : -1 ≤ a.at_ ∧ a.at_ ≤ 128) (hL : a.L ≤ 128) : (om Try.prog KK).call (.fn 52 [.agg (attC a)]) h = .ok (ii a.bound) h := by
  unfold attC
  refine WV_to (WV_call (fn := Try.f52) Try.func52 rfl rfl rfl rfl rfl ?_)
  simp only [argF]
  (repeat' (first
  | (with_reducible first | refine WC_seq ?_ | refine WC_skip ?_ | refine WC_label ?_ | refine WC_scope ?_ | refine WC_block ?_ | refine WC_ret ?_ | refine WC_exit ?_ | refine seqQ_norm ?_ | refine seqQ_ret ?_ | refine seqQ_exit ?_ | refine blkQ_norm ?_ | refine blkQ_ret ?_ | refine blkQ_here ?_ | refine gateK_yes ?_ | refine gateK_none ?_ | refine condK_tt ?_ | refine condK_ff ?_ | refine roundQ_exit ?_ | refine roundQ_ret ?_)
  | refine WC_region ?_ | refine blkQ_out rfl ?_ | refine WO_nil ?_ | refine WD_nil ?_
  | ((first | refine WD_gate rfl rfl rfl rfl rfl fun K_ hK_ => ?_ | refine WO_gate rfl rfl rfl rfl rfl fun K_ hK_ => ?_); simp only [upd_apply, asB_bool, asB_tup, ↓reduceIte, reduceCtorEq, Nat.reduceEqDiff, Bool.not_true, Bool.not_false]; refine hK_ _ ?_; clear hK_ K_)
  | refine gateK_no (by decide) ?_
  | ((try first | refine WO_op rfl rfl rfl ?_ | refine WO_op0 rfl rfl ?_ | refine WD_op rfl rfl rfl ?_ | refine WD_op0 rfl rfl ?_); (refine WV_gen fun Q_ hQ_ => ?_; simp (disch := first | omega | (simp only [List.length_cons, List.length_nil, List.length_append]; omega)) only [bb, bp, argF, ↓reduceIte, reduceCtorEq, Nat.reduceEqDiff, Nat.reduceLT, Nat.reduceLeDiff, Nat.reduceAdd, Nat.reduceMul, Nat.reduceSub, Nat.reduceBEq, Int.reduceToNat, cond_true, cond_false, eq_self, beq_self_eq_true, newPtr_X wf, load1_X wf, loadAgg_X wf, store1_X wf, writeCells_X wf, makeFunc_def, tEvZ14, bsl_22, bsl_42, bsl_63, bsl_90, newSlice_X wf]; first | (refine dec_split (Q := Q_) (fun hp_ => ?_) (fun hp_ => ?_) <;> first | (exfalso; omega) | (refine hQ_ _ _ ?_; clear hQ_ Q_)) | (refine dec_splitn (Q := Q_) (fun hp_ => ?_) (fun hp_ => ?_) <;> first | (exfalso; omega) | (refine hQ_ _ _ ?_; clear hQ_ Q_)) | (refine hQ_ _ _ ?_; clear hQ_ Q_)))
  | (refine WC_cond fun K_ hK_ => ?_; simp (disch := omega) only [evT_tmp, upd_apply, WB_some, ↓reduceIte, reduceCtorEq, Nat.reduceEqDiff, Nat.reduceLT]; refine hK_ _ ?_; clear hK_ K_)))
  (refine endQ_ret _ _ rfl (ret1 (by decide)) ?_; simp only [upd_apply, ↓reduceIte, reduceCtorEq, Nat.reduceEqDiff]; refine WV_flat rfl (by omega) ?_)
  exact ⟨rfl, rfl⟩
theorem strong1 (a : Att) (h : H) (wf : Wf h) (hat : -1 ≤ a.at_ ∧ a.at_ ≤ 128) (hL : a.L ≤ 128) : (om Try.prog KK).call (.fn 74 [.agg (attC a)]) h = .ok (ii a.bound) h := by
  have c1 : ∀ (l : List AO) (w : Nat), w ≤ h.clock + l.length → (om Try.prog KK).call (.fn 52 [.agg [uu (a.T % 2 ^ 64), uu (a.T >>> 64), ii (a.L : Int), ii a.at_]]) (X h l w) = .ok (ii a.bound) (X h l w) := fun l w hw => bound a _ (wf.X hw) hat hL
  unfold attC
  refine WV_to (WV_call (fn := Try.f74) Try.func74 rfl rfl rfl rfl rfl ?_)
  simp only [argF]
  (repeat' (first
  | (with_reducible first | refine WC_seq ?_ | refine WC_skip ?_ | refine WC_label ?_ | refine WC_scope ?_ | refine WC_block ?_ | refine WC_ret ?_ | refine WC_exit ?_ | refine seqQ_norm ?_ | refine seqQ_ret ?_ | refine seqQ_exit ?_ | refine blkQ_norm ?_ | refine blkQ_ret ?_ | refine blkQ_here ?_ | refine gateK_yes ?_ | refine gateK_none ?_ | refine condK_tt ?_ | refine condK_ff ?_ | refine roundQ_exit ?_ | refine roundQ_ret ?_)
  | refine WC_region ?_ | refine blkQ_out rfl ?_ | refine WO_nil ?_ | refine WD_nil ?_
  | ((first | refine WD_gate rfl rfl rfl rfl rfl fun K_ hK_ => ?_ | refine WO_gate rfl rfl rfl rfl rfl fun K_ hK_ => ?_); simp only [upd_apply, asB_bool, asB_tup, ↓reduceIte, reduceCtorEq, Nat.reduceEqDiff, Bool.not_true, Bool.not_false]; refine hK_ _ ?_; clear hK_ K_)
  | refine gateK_no (by decide) ?_
  | ((try first | refine WO_op rfl rfl rfl ?_ | refine WO_op0 rfl rfl ?_ | refine WD_op rfl rfl rfl ?_ | refine WD_op0 rfl rfl ?_); (refine WV_gen fun Q_ hQ_ => ?_; simp (disch := first | omega | (simp only [List.length_cons, List.length_nil, List.length_append]; omega)) only [bb, bp, argF, ↓reduceIte, reduceCtorEq, Nat.reduceEqDiff, Nat.reduceLT, Nat.reduceLeDiff, Nat.reduceAdd, Nat.reduceMul, Nat.reduceSub, Nat.reduceBEq, Int.reduceToNat, cond_true, cond_false, eq_self, beq_self_eq_true, newPtr_X wf, load1_X wf, loadAgg_X wf, store1_X wf, writeCells_X wf, makeFunc_def, tEvZ14, bsl_22, bsl_42, bsl_63, bsl_90, newSlice_X wf]; first | (refine dec_split (Q := Q_) (fun hp_ => ?_) (fun hp_ => ?_) <;> first | (exfalso; omega) | (refine hQ_ _ _ ?_; clear hQ_ Q_)) | (refine dec_splitn (Q := Q_) (fun hp_ => ?_) (fun hp_ => ?_) <;> first | (exfalso; omega) | (refine hQ_ _ _ ?_; clear hQ_ Q_)) | (refine hQ_ _ _ ?_; clear hQ_ Q_) | (refine WV_eq (c1 _ _ (by first | omega | (simp only [List.length_append, List.length_cons, List.length_nil]; omega))) ?_; refine hQ_ _ _ ?_; clear hQ_ Q_)))
  | (refine WC_cond fun K_ hK_ => ?_; simp (disch := omega) only [evT_tmp, upd_apply, WB_some, ↓reduceIte, reduceCtorEq, Nat.reduceEqDiff, Nat.reduceLT]; refine hK_ _ ?_; clear hK_ K_)))
  (refine endQ_ret _ _ rfl (ret1 (by decide)) ?_; simp only [upd_apply, ↓reduceIte, reduceCtorEq, Nat.reduceEqDiff]; refine WV_flat rfl (by omega) ?_)
  exact ⟨rfl, rfl⟩
theorem mendC (a b : Att) (g : Nat) (hg : a.at_ - b.at_ = (g : Int)) (hg1 : 1 ≤ g ∧ g ≤ 128) (ha : a.T < 2 ^ 128) (hb : b.T < 2 ^ 128) (hL : a.L ≤ 128 ∧ b.L ≤ 128) (h : H) (wf : Wf h) :
    (om Try.prog KK).call (.fn 71 [.agg (attC a), .agg (attC b)]) h = .ok (.agg (rg (mend a.T g b.T) (max a.L (b.L + g)))) h := by
  have hg0 : (g : Int) - 1 = ((g - 1 : Nat) : Int) := by omega
  have hbg : (b.L : Int) + (g : Int) = ((b.L + g : Nat) : Int) := by omega
  have hmx : max (a.L : Int) ((b.L + g : Nat) : Int) = ((max a.L (b.L + g) : Nat) : Int) := by omega
  have c1 : ∀ (l : List AO) (w : Nat), w ≤ h.clock + l.length → (om Try.prog KK).call (.fn 79 [.agg [.int .u64 1, .int .u64 0], .int .i64 ((g - 1 : Nat) : Int)]) (X h l w) = .ok (.agg (wd ((1 <<< (g - 1)) % 2 ^ 128))) (X h l w) := fun l w hw => up 1 (g - 1) (by omega) _ (wf.X hw)
  have c2 : ∀ (l : List AO) (w : Nat), w ≤ h.clock + l.length → (om Try.prog KK).call (.fn 79 [.agg [uu (b.T % 2 ^ 64), uu (b.T >>> 64)], .int .i64 (g : Int)]) (X h l w) = .ok (.agg (wd ((b.T <<< g) % 2 ^ 128))) (X h l w) := fun l w hw => up b.T g (by omega) _ (wf.X hw)
  have hU1 : (1 <<< (g - 1)) % 2 ^ 128 < 2 ^ 128 := Nat.mod_lt _ (by decide)
  have hU2 : (b.T <<< g) % 2 ^ 128 < 2 ^ 128 := Nat.mod_lt _ (by decide)
  unfold mend
  generalize (1 <<< (g - 1)) % 2 ^ 128 = U1 at *
  generalize (b.T <<< g) % 2 ^ 128 = U2 at *
  have c3 : ∀ (o1 o2 o3 o4 : AO) w, w ≤ h.clock + 5 → (om Try.prog KK).call (.fn 65 [.sl (nx h 4) 0 3 (some 3) 2]) (X h [o1, o2, o3, o4, .cells (mkCells [uu (a.T % 2 ^ 64), uu (a.T >>> 64), uu (U1 % 2 ^ 64), uu (U1 >>> 64), uu (U2 % 2 ^ 64), uu (U2 >>> 64)]) 57] w) = .ok (.agg (wd (a.T ^^^ U1 ^^^ U2))) (X h [o1, o2, o3, o4, .cells (mkCells [uu (a.T % 2 ^ 64), uu (a.T >>> 64), uu (U1 % 2 ^ 64), uu (U1 >>> 64), uu (U2 % 2 ^ 64), uu (U2 >>> 64)]) 57] w) := fun o1 o2 o3 o4 w hw => by
    have := sum [a.T, U1, U2] (by intro N hN; simp at hN; rcases hN with rfl | rfl | rfl <;> assumption) (by simp) (.sl (nx h 4) 0 3 (some 3) 2) _ (wf.X (l := [o1, o2, o3, o4, .cells (mkCells [uu (a.T % 2 ^ 64), uu (a.T >>> 64), uu (U1 % 2 ^ 64), uu (U1 >>> 64), uu (U2 % 2 ^ 64), uu (U2 >>> 64)]) 57]) hw) (Sl.new (k := 4) wf rfl rfl)
    rw [xall3] at this
    exact this
  generalize a.T ^^^ U1 ^^^ U2 = R at *
  unfold wd at c1 c2 c3
  unfold attC rg
  refine WV_to (WV_call (fn := Try.f71) Try.func71 rfl rfl rfl rfl rfl ?_)
  simp only [argF]
  (repeat' (first
  | (with_reducible first | refine WC_seq ?_ | refine WC_skip ?_ | refine WC_label ?_ | refine WC_scope ?_ | refine WC_block ?_ | refine WC_ret ?_ | refine WC_exit ?_ | refine seqQ_norm ?_ | refine seqQ_ret ?_ | refine seqQ_exit ?_ | refine blkQ_norm ?_ | refine blkQ_ret ?_ | refine blkQ_here ?_ | refine gateK_yes ?_ | refine gateK_none ?_ | refine condK_tt ?_ | refine condK_ff ?_ | refine roundQ_exit ?_ | refine roundQ_ret ?_)
  | refine WC_region ?_ | refine blkQ_out rfl ?_ | refine WO_nil ?_ | refine WD_nil ?_
  | ((first | refine WD_gate rfl rfl rfl rfl rfl fun K_ hK_ => ?_ | refine WO_gate rfl rfl rfl rfl rfl fun K_ hK_ => ?_); simp only [upd_apply, asB_bool, asB_tup, ↓reduceIte, reduceCtorEq, Nat.reduceEqDiff, Bool.not_true, Bool.not_false]; refine hK_ _ ?_; clear hK_ K_)
  | refine gateK_no (by decide) ?_
  | ((try first | refine WO_op rfl rfl rfl ?_ | refine WO_op0 rfl rfl ?_ | refine WD_op rfl rfl rfl ?_ | refine WD_op0 rfl rfl ?_); (refine WV_gen fun Q_ hQ_ => ?_; simp (disch := first | omega | (simp only [List.length_cons, List.length_nil, List.length_append]; omega)) only [bb, bp, argF, ↓reduceIte, reduceCtorEq, Nat.reduceEqDiff, Nat.reduceLT, Nat.reduceLeDiff, Nat.reduceAdd, Nat.reduceMul, Nat.reduceSub, Nat.reduceBEq, Int.reduceToNat, cond_true, cond_false, eq_self, beq_self_eq_true, hg, newPtr_X wf, load1_X wf, loadAgg_X wf, store1_X wf, writeCells_X wf, makeFunc_def, tEvZ14, bsl_22, bsl_42, bsl_63, bsl_90, newSlice_X wf]; first | (refine dec_split (Q := Q_) (fun hp_ => ?_) (fun hp_ => ?_) <;> first | (exfalso; omega) | (refine hQ_ _ _ ?_; clear hQ_ Q_)) | (refine dec_splitn (Q := Q_) (fun hp_ => ?_) (fun hp_ => ?_) <;> first | (exfalso; omega) | (refine hQ_ _ _ ?_; clear hQ_ Q_)) | (refine hQ_ _ _ ?_; clear hQ_ Q_)))
  | (refine WC_cond fun K_ hK_ => ?_; simp (disch := omega) only [evT_tmp, upd_apply, WB_some, ↓reduceIte, reduceCtorEq, Nat.reduceEqDiff, Nat.reduceLT]; refine hK_ _ ?_; clear hK_ K_)))
  refine WC_drawnB (List.replicate 23 .no ++ [.full, .full]) (by kernel_rfl) ?_
  (repeat' (first
  | (with_reducible first | refine WC_seq ?_ | refine WC_skip ?_ | refine WC_label ?_ | refine WC_scope ?_ | refine WC_block ?_ | refine WC_ret ?_ | refine WC_exit ?_ | refine seqQ_norm ?_ | refine seqQ_ret ?_ | refine seqQ_exit ?_ | refine blkQ_norm ?_ | refine blkQ_ret ?_ | refine blkQ_here ?_ | refine gateK_yes ?_ | refine gateK_none ?_ | refine condK_tt ?_ | refine condK_ff ?_ | refine roundQ_exit ?_ | refine roundQ_ret ?_)
  | refine WC_region ?_ | refine blkQ_out rfl ?_ | refine WO_nil ?_ | refine WD_nil ?_
  | ((first | refine WD_gate rfl rfl rfl rfl rfl fun K_ hK_ => ?_ | refine WO_gate rfl rfl rfl rfl rfl fun K_ hK_ => ?_); simp only [upd_apply, asB_bool, asB_tup, ↓reduceIte, reduceCtorEq, Nat.reduceEqDiff, Bool.not_true, Bool.not_false]; refine hK_ _ ?_; clear hK_ K_)
  | refine gateK_no (by decide) ?_
  | ((try first | refine WO_op rfl rfl rfl ?_ | refine WO_op0 rfl rfl ?_ | refine WD_op rfl rfl rfl ?_ | refine WD_op0 rfl rfl ?_); (refine WV_gen fun Q_ hQ_ => ?_; simp (disch := first | omega | (simp only [List.length_cons, List.length_nil, List.length_append]; omega)) only [bb, bp, argF, ↓reduceIte, reduceCtorEq, Nat.reduceEqDiff, Nat.reduceLT, Nat.reduceLeDiff, Nat.reduceAdd, Nat.reduceMul, Nat.reduceSub, Nat.reduceBEq, Int.reduceToNat, cond_true, cond_false, eq_self, beq_self_eq_true, hg0, hbg, hmx, c1, c2, c3, newPtr_X wf, load1_X wf, loadAgg_X wf, store1_X wf, writeCells_X wf, makeFunc_def, tEvZ14, bsl_22, bsl_42, bsl_63, bsl_90, newSlice_X wf]; first | (refine dec_split (Q := Q_) (fun hp_ => ?_) (fun hp_ => ?_) <;> first | (exfalso; omega) | (refine hQ_ _ _ ?_; clear hQ_ Q_)) | (refine dec_splitn (Q := Q_) (fun hp_ => ?_) (fun hp_ => ?_) <;> first | (exfalso; omega) | (refine hQ_ _ _ ?_; clear hQ_ Q_)) | (refine hQ_ _ _ ?_; clear hQ_ Q_)))
  | (refine WC_cond fun K_ hK_ => ?_; simp (disch := omega) only [evT_tmp, upd_apply, WB_some, ↓reduceIte, reduceCtorEq, Nat.reduceEqDiff, Nat.reduceLT]; refine hK_ _ ?_; clear hK_ K_)))
  refine endQ_ret _ _ rfl (retc0 (by decide) (by simp (disch := first | omega | (simp only [List.length_cons, List.length_nil, List.length_append]; omega)) only [bb, bp, argF, ↓reduceIte, reduceCtorEq, Nat.reduceEqDiff, Nat.reduceLT, Nat.reduceLeDiff, Nat.reduceAdd, Nat.reduceMul, Nat.reduceSub, Nat.reduceBEq, Int.reduceToNat, cond_true, cond_false, eq_self, beq_self_eq_true, loadAgg_X wf, tEvZ14, bsl_22, bsl_42, bsl_63, bsl_90, newSlice_X wf]; rfl)) ?_
  refine WV_flat rfl (by omega) ?_
  exact ⟨rfl, rfl⟩
end Go.Proofs.Ytmincoafjnnkpaa
end

/- EvZ15 -/
section
/-
  LAYER 5: the strongest one.
-/
namespace Go.Proofs.Ytmincoafjnnkpaa
open Go.Ev
set_option maxRecDepth 100000
set_option linter.unusedSimpArgs false
set_option linter.unusedVariables false
set_option maxHeartbeats 2000000
theorem tEvZ15 : type_of% (And.intro (And.intro (And.intro (And.intro (And.intro (And.intro (And.intro (@bs_33) (@bs_34)) (And.intro (@bs_57) (@bs_59))) (And.intro (And.intro (@bs_67) (@bs_78)) (And.intro (@ia_2) (And.intro (@ia_3) (@ia_4))))) (And.intro (And.intro (And.intro (@ia_5) (@ia_22)) (And.intro (@ia_24) (@ia_25))) (And.intro (And.intro (@ia_33) (@ia_34)) (And.intro (@ia_42) (And.intro (@ia_55) (@ia_57)))))) (And.intro (And.intro (And.intro (And.intro (@ia_59) (@ia_63)) (And.intro (@ia_67) (@ia_74))) (And.intro (And.intro (@ia_78) (@ia_85)) (And.intro (@ia_87) (And.intro (@ia_90) (@sz_2))))) (And.intro (And.intro (And.intro (@sz_3) (@sz_4)) (And.intro (@sz_5) (And.intro (@sz_22) (@sz_24)))) (And.intro (And.intro (@sz_25) (@sz_33)) (And.intro (@sz_34) (And.intro (@sz_42) (@sz_55))))))) (And.intro (And.intro (And.intro (And.intro (And.intro (@sz_57) (@sz_59)) (And.intro (@sz_63) (@sz_67))) (And.intro (And.intro (@sz_74) (@sz_78)) (And.intro (@sz_85) (And.intro (@sz_87) (@sz_90))))) (And.intro (And.intro (And.intro (@ze_2) (@ze_3)) (And.intro (@ze_4) (And.intro (@ze_5) (@ze_22)))) (And.intro (And.intro (@ze_24) (@ze_33)) (And.intro (@ze_34) (And.intro (@ze_42) (@ze_55)))))) (And.intro (And.intro (And.intro (And.intro (@ze_57) (@ze_59)) (And.intro (@ze_63) (@ze_67))) (And.intro (And.intro (@ze_74) (@ze_78)) (And.intro (@ze_85) (And.intro (@ze_87) (@ze_90))))) (And.intro (And.intro (And.intro (@fo_33_0) (@fo_33_1)) (And.intro (@fo_34_0) (And.intro (@fo_34_1) (@fo_59_0)))) (And.intro (And.intro (@fo_59_1) (@fo_67_0)) (And.intro (@fo_67_1) (And.intro (@fo_78_0) (@pb_15)))))))) (And.intro (And.intro (And.intro (And.intro (And.intro (And.intro (@pb_16) (@pb_17)) (And.intro (@pb_18) (@pb_19))) (And.intro (And.intro (@pb_20) (@pb_21)) (And.intro (@pb_22) (And.intro (@pb_23) (@pb_24))))) (And.intro (And.intro (And.intro (@pb_25) (@pb_26)) (And.intro (@pb_27) (@pb_28))) (And.intro (And.intro (@pb_29) (@pb_30)) (And.intro (@pb_31) (And.intro (@pb_32) (@pb_33)))))) (And.intro (And.intro (And.intro (And.intro (@pb_34) (@pb_35)) (And.intro (@pb_36) (@pb_37))) (And.intro (And.intro (@pb_38) (@pb_39)) (And.intro (@pb_40) (And.intro (@pb_41) (@pb_42))))) (And.intro (And.intro (And.intro (@pb_43) (@pb_44)) (And.intro (@pb_45) (And.intro (@pb_46) (@pb_47)))) (And.intro (And.intro (@pb_48) (@pb_49)) (And.intro (@pb_50) (And.intro (@pb_51) (@pb_52))))))) (And.intro (And.intro (And.intro (And.intro (And.intro (@pb_53) (@pb_54)) (And.intro (@pb_55) (@pb_56))) (And.intro (And.intro (@pb_57) (@pb_58)) (And.intro (@pb_59) (And.intro (@pb_60) (@pb_61))))) (And.intro (And.intro (And.intro (@pb_62) (@pb_63)) (And.intro (@pb_64) (And.intro (@pb_65) (@pb_66)))) (And.intro (And.intro (@pb_67) (@pb_68)) (And.intro (@pb_69) (And.intro (@pb_70) (@pb_71)))))) (And.intro (And.intro (And.intro (And.intro (@pb_72) (@pb_73)) (And.intro (@pb_74) (@pb_75))) (And.intro (And.intro (@pb_76) (@pb_77)) (And.intro (@pb_78) (And.intro (@pb_79) (@pb_80))))) (And.intro (And.intro (And.intro (@pb_81) (@pb_82)) (And.intro (@ik_22) (And.intro (@ik_42) (@ik_57)))) (And.intro (And.intro (@ik_63) (@ik_90)) (And.intro (@ni_22) (And.intro (@ni_42) (@ni_63))))))))) := And.intro (And.intro (And.intro (And.intro (And.intro (And.intro (And.intro (@bs_33) (@bs_34)) (And.intro (@bs_57) (@bs_59))) (And.intro (And.intro (@bs_67) (@bs_78)) (And.intro (@ia_2) (And.intro (@ia_3) (@ia_4))))) (And.intro (And.intro (And.intro (@ia_5) (@ia_22)) (And.intro (@ia_24) (@ia_25))) (And.intro (And.intro (@ia_33) (@ia_34)) (And.intro (@ia_42) (And.intro (@ia_55) (@ia_57)))))) (And.intro (And.intro (And.intro (And.intro (@ia_59) (@ia_63)) (And.intro (@ia_67) (@ia_74))) (And.intro (And.intro (@ia_78) (@ia_85)) (And.intro (@ia_87) (And.intro (@ia_90) (@sz_2))))) (And.intro (And.intro (And.intro (@sz_3) (@sz_4)) (And.intro (@sz_5) (And.intro (@sz_22) (@sz_24)))) (And.intro (And.intro (@sz_25) (@sz_33)) (And.intro (@sz_34) (And.intro (@sz_42) (@sz_55))))))) (And.intro (And.intro (And.intro (And.intro (And.intro (@sz_57) (@sz_59)) (And.intro (@sz_63) (@sz_67))) (And.intro (And.intro (@sz_74) (@sz_78)) (And.intro (@sz_85) (And.intro (@sz_87) (@sz_90))))) (And.intro (And.intro (And.intro (@ze_2) (@ze_3)) (And.intro (@ze_4) (And.intro (@ze_5) (@ze_22)))) (And.intro (And.intro (@ze_24) (@ze_33)) (And.intro (@ze_34) (And.intro (@ze_42) (@ze_55)))))) (And.intro (And.intro (And.intro (And.intro (@ze_57) (@ze_59)) (And.intro (@ze_63) (@ze_67))) (And.intro (And.intro (@ze_74) (@ze_78)) (And.intro (@ze_85) (And.intro (@ze_87) (@ze_90))))) (And.intro (And.intro (And.intro (@fo_33_0) (@fo_33_1)) (And.intro (@fo_34_0) (And.intro (@fo_34_1) (@fo_59_0)))) (And.intro (And.intro (@fo_59_1) (@fo_67_0)) (And.intro (@fo_67_1) (And.intro (@fo_78_0) (@pb_15)))))))) (And.intro (And.intro (And.intro (And.intro (And.intro (And.intro (@pb_16) (@pb_17)) (And.intro (@pb_18) (@pb_19))) (And.intro (And.intro (@pb_20) (@pb_21)) (And.intro (@pb_22) (And.intro (@pb_23) (@pb_24))))) (And.intro (And.intro (And.intro (@pb_25) (@pb_26)) (And.intro (@pb_27) (@pb_28))) (And.intro (And.intro (@pb_29) (@pb_30)) (And.intro (@pb_31) (And.intro (@pb_32) (@pb_33)))))) (And.intro (And.intro (And.intro (And.intro (@pb_34) (@pb_35)) (And.intro (@pb_36) (@pb_37))) (And.intro (And.intro (@pb_38) (@pb_39)) (And.intro (@pb_40) (And.intro (@pb_41) (@pb_42))))) (And.intro (And.intro (And.intro (@pb_43) (@pb_44)) (And.intro (@pb_45) (And.intro (@pb_46) (@pb_47)))) (And.intro (And.intro (@pb_48) (@pb_49)) (And.intro (@pb_50) (And.intro (@pb_51) (@pb_52))))))) (And.intro (And.intro (And.intro (And.intro (And.intro (@pb_53) (@pb_54)) (And.intro (@pb_55) (@pb_56))) (And.intro (And.intro (@pb_57) (@pb_58)) (And.intro (@pb_59) (And.intro (@pb_60) (@pb_61))))) (And.intro (And.intro (And.intro (@pb_62) (@pb_63)) (And.intro (@pb_64) (And.intro (@pb_65) (@pb_66)))) (And.intro (And.intro (@pb_67) (@pb_68)) (And.intro (@pb_69) (And.intro (@pb_70) (@pb_71)))))) (And.intro (And.intro (And.intro (And.intro (@pb_72) (@pb_73)) (And.intro (@pb_74) (@pb_75))) (And.intro (And.intro (@pb_76) (@pb_77)) (And.intro (@pb_78) (And.intro (@pb_79) (@pb_80))))) (And.intro (And.intro (And.intro (@pb_81) (@pb_82)) (And.intro (@ik_22) (And.intro (@ik_42) (@ik_57)))) (And.intro (And.intro (@ik_63) (@ik_90)) (And.intro (@ni_22) (And.intro (@ni_42) (@ni_63))))))))
def OkA (a : Att) : Prop := (-1 ≤ a.at_ ∧ a.at_ ≤ 128) ∧ a.L ≤ 128
theorem best1_mem : ∀ (l : List Att) (m : Att), best1 m l = m ∨ best1 m l ∈ l
  | [], m => .inl rfl
  | x :: l, m => by
    show best1 (if m.bound < x.bound then x else m) l = m ∨ _
    rcases best1_mem l (if m.bound < x.bound then x else m) with h | h
    · rw [h]
      split
      · exact .inr (by rw [show best1 m (x :: l) = best1 (if m.bound < x.bound then x else m) l from rfl, h, if_pos (by assumption)]; simp)
      · exact .inl rfl
    · exact .inr (List.mem_cons_of_mem _ h)
theorem bestA_mem {l : List Att} (h : l ≠ []) : bestA l ∈ l := by
  match l, h with
  | m :: l, _ =>
    rcases best1_mem l m with h | h
    · show best1 m l ∈ _
      rw [h]; simp
    · exact List.mem_cons_of_mem _ h
theorem bestC (m : Att) (l : List Att) (hn : l.length ≤ 1000) (hok : ∀ x ∈ m :: l, OkA x) (a : AV) (hc : CapU 4 a) (h : H) (wf : Wf h) (hs : Sl h a 4 (m :: l).length ((m :: l).flatMap attC)) :
    (om Try.prog KK).call (.fn 73 [a, .fn 74 [] []]) h = .ok (.agg (attC (bestA (m :: l)))) h := by
  obtain ⟨f1, f2⟩ := sl_flat hs
  obtain ⟨b, hcut, hsb, hcb⟩ := hs.cutFrom (P := Try.prog) (k := 1) (by simp) un_63 sz_67 (by omega) hc
  have hsb : Sl h b 4 l.length (l.flatMap attC) := by
    have e1 : (m :: l).length - 1 = l.length := by simp
    have e2 : ((m :: l).flatMap attC).drop (1 * 4) = l.flatMap attC := by rw [List.flatMap_cons]; exact List.drop_left' rfl
    rw [e1, e2] at hsb
    exact hsb
  obtain ⟨f3, f4⟩ := sl_flat hsb
  have hlb : ∀ h', lenE Try.prog 63 b h' = some (ii (l.length : Int)) := fun h' => hsb.len un_63
  obtain ⟨id, off, hix, hld⟩ := hs.at wf (i := 0) (by simp) ik_63
  have hix : indexAddrE Try.prog 63 a (.int .i64 0) = some (.ptr id off) := hix
  have hld : ∀ l w, loadAgg id off (some 4) (X h l w) = some (.agg [uu (m.T % 2 ^ 64), uu (m.T >>> 64), ii (m.L : Int), ii m.at_]) := fun l w => (hld l w).2
  have cst : ∀ x ∈ m :: l, ∀ (J : List AO) (w : Nat), w ≤ h.clock + J.length → (om Try.prog KK).call (.fn 74 [.agg [uu (x.T % 2 ^ 64), uu (x.T >>> 64), ii (x.L : Int), ii x.at_]]) (X h J w) = .ok (ii x.bound) (X h J w) := fun x hx J w hw => strong1 x _ (wf.X hw) (hok x hx).1 (hok x hx).2
  refine WV_to (WV_call (fn := Try.f73) Try.func73 rfl rfl rfl rfl rfl ?_)
  simp only [argF]
  (repeat' (first
  | (with_reducible first | refine WC_seq ?_ | refine WC_skip ?_ | refine WC_label ?_ | refine WC_scope ?_ | refine WC_block ?_ | refine WC_ret ?_ | refine WC_exit ?_ | refine seqQ_norm ?_ | refine seqQ_ret ?_ | refine seqQ_exit ?_ | refine blkQ_norm ?_ | refine blkQ_ret ?_ | refine blkQ_here ?_ | refine gateK_yes ?_ | refine gateK_none ?_ | refine condK_tt ?_ | refine condK_ff ?_ | refine roundQ_exit ?_ | refine roundQ_ret ?_)
  | refine WC_region ?_ | refine blkQ_out rfl ?_ | refine WO_nil ?_ | refine WD_nil ?_
  | ((first | refine WD_gate rfl rfl rfl rfl rfl fun K_ hK_ => ?_ | refine WO_gate rfl rfl rfl rfl rfl fun K_ hK_ => ?_); simp only [upd_apply, asB_bool, asB_tup, ↓reduceIte, reduceCtorEq, Nat.reduceEqDiff, Bool.not_true, Bool.not_false]; refine hK_ _ ?_; clear hK_ K_)
  | refine gateK_no (by decide) ?_
  | ((try first | refine WO_op rfl rfl rfl ?_ | refine WO_op0 rfl rfl ?_ | refine WD_op rfl rfl rfl ?_ | refine WD_op0 rfl rfl ?_); (refine WV_gen fun Q_ hQ_ => ?_; simp (disch := first | omega | (simp only [List.length_cons, List.length_nil, List.length_append]; omega)) only [bb, bp, argF, ↓reduceIte, reduceCtorEq, Nat.reduceEqDiff, Nat.reduceLT, Nat.reduceLeDiff, Nat.reduceAdd, Nat.reduceMul, Nat.reduceSub, Nat.reduceBEq, Int.reduceToNat, cond_true, cond_false, eq_self, beq_self_eq_true, f1, f2, f3, f4, hix, hld, hcut, hlb, newPtr_X wf, load1_X wf, loadAgg_X wf, store1_X wf, writeCells_X wf, makeFunc_def, tEvZ15, bsl_22, bsl_42, bsl_63, bsl_90, newSlice_X wf]; first | (refine dec_split (Q := Q_) (fun hp_ => ?_) (fun hp_ => ?_) <;> first | (exfalso; omega) | (refine hQ_ _ _ ?_; clear hQ_ Q_)) | (refine dec_splitn (Q := Q_) (fun hp_ => ?_) (fun hp_ => ?_) <;> first | (exfalso; omega) | (refine hQ_ _ _ ?_; clear hQ_ Q_)) | (refine hQ_ _ _ ?_; clear hQ_ Q_)))
  | (refine WC_cond fun K_ hK_ => ?_; simp (disch := omega) only [evT_tmp, upd_apply, WB_some, ↓reduceIte, reduceCtorEq, Nat.reduceEqDiff, Nat.reduceLT]; refine hK_ _ ?_; clear hK_ K_)))
  refine WC_loop (α := Nat) (fun (i : Nat) f d h' => i ≤ l.length ∧ f 1 = .fn 74 [] [] ∧ f 4 = .ptr (nx h 0) 0 ∧ f 5 = .ptr (nx h 1) 0 ∧ f 12 = b ∧ f 13 = ii (l.length : Int) ∧ f 14 = ii (i : Int) ∧ d = [] ∧
    ∃ G w, h.clock ≤ w ∧ w ≤ h.clock + 2 + G.length ∧ h' = X h (.cells (mkCells [.int .u64 0, .int .u64 0, .int .i64 0, .int .i64 0]) 67 :: .cells (mkCells (attC (best1 m (l.take i)))) 67 :: G) w) (fun i => l.length - i) ?_ (l.length + 1) 0 (by omega) ?_
  · rintro i f d h' ⟨hi, g1, g4, g5, g12, g13, g14, rfl, G, w, hw, hw2, rfl⟩
    by_cases hlt : i < l.length
    · obtain ⟨id2, off2, hix2, hld2⟩ := hsb.at wf hlt ik_63
      have hld2 : ∀ J w, loadAgg id2 off2 (some 4) (X h J w) = some (.agg [uu (l[i].T % 2 ^ 64), uu (l[i].T >>> 64), ii (l[i].L : Int), ii l[i].at_]) := fun J w => by rw [(hld2 J w).2, flat_at attC_length hlt]; rfl
      have e1 : best1 m (l.take (i + 1)) = if (best1 m (l.take i)).bound < l[i].bound then l[i] else best1 m (l.take i) := by rw [List.take_succ_eq_append_getElem hlt, best1_snoc]
      have hmem : best1 m (l.take i) ∈ m :: l := by
        rcases best1_mem (l.take i) m with h | h
        · rw [h]; simp
        · exact List.mem_cons_of_mem _ (List.mem_of_mem_take h)
      have c1 := cst _ hmem
      have c2 := cst l[i] (List.mem_cons_of_mem _ (List.getElem_mem hlt))
      generalize hB : best1 m (l.take i) = B at *
      generalize hxe : l[i] = x at *
      unfold attC
      have lx : ∀ (c1 c2 : AO) w, loadAgg (nx h (G.length + 1 + 1)) 0 (some 4) (X h (c1 :: c2 :: (G ++ [.cells (mkCells [uu (x.T % 2 ^ 64), uu (x.T >>> 64), ii (x.L : Int), ii x.at_]) 67])) w) = some (.agg [uu (x.T % 2 ^ 64), uu (x.T >>> 64), ii (x.L : Int), ii x.at_]) := fun c1 c2 w => by
        rw [loadAgg_X wf, show c1 :: c2 :: (G ++ [.cells (mkCells [uu (x.T % 2 ^ 64), uu (x.T >>> 64), ii (x.L : Int), ii x.at_]) 67]) = [c1, c2] ++ G ++ [.cells (mkCells [uu (x.T % 2 ^ 64), uu (x.T >>> 64), ii (x.L : Int), ii x.at_]) 67] from rfl, show G.length + 1 + 1 = ([c1, c2] ++ G).length by simp, app_len0, List.getElem?_cons_zero, aggAt_cells (by decide)]
        rfl
      (repeat' (first
  | (with_reducible first | refine WC_seq ?_ | refine WC_skip ?_ | refine WC_label ?_ | refine WC_scope ?_ | refine WC_block ?_ | refine WC_ret ?_ | refine WC_exit ?_ | refine seqQ_norm ?_ | refine seqQ_ret ?_ | refine seqQ_exit ?_ | refine blkQ_norm ?_ | refine blkQ_ret ?_ | refine blkQ_here ?_ | refine gateK_yes ?_ | refine gateK_none ?_ | refine condK_tt ?_ | refine condK_ff ?_ | refine roundQ_exit ?_ | refine roundQ_ret ?_)
  | refine WC_region ?_ | refine blkQ_out rfl ?_ | refine WO_nil ?_ | refine WD_nil ?_
  | ((first | refine WD_gate rfl rfl rfl rfl rfl fun K_ hK_ => ?_ | refine WO_gate rfl rfl rfl rfl rfl fun K_ hK_ => ?_); simp only [upd_apply, asB_bool, asB_tup, ↓reduceIte, reduceCtorEq, Nat.reduceEqDiff, Bool.not_true, Bool.not_false]; refine hK_ _ ?_; clear hK_ K_)
  | refine gateK_no (by decide) ?_
  | ((try first | refine WO_op rfl rfl rfl ?_ | refine WO_op0 rfl rfl ?_ | refine WD_op rfl rfl rfl ?_ | refine WD_op0 rfl rfl ?_); (refine WV_gen fun Q_ hQ_ => ?_; simp (disch := first | omega | (simp only [List.length_cons, List.length_nil, List.length_append]; omega)) only [bb, bp, argF, ↓reduceIte, reduceCtorEq, Nat.reduceEqDiff, Nat.reduceLT, Nat.reduceLeDiff, Nat.reduceAdd, Nat.reduceMul, Nat.reduceSub, Nat.reduceBEq, Int.reduceToNat, cond_true, cond_false, eq_self, beq_self_eq_true, f1, f2, f3, f4, g1, g4, g5, g12, g13, g14, hix2, hld2, hlb, newPtr_X wf, load1_X wf, loadAgg_X wf, store1_X wf, writeCells_X wf, makeFunc_def, tEvZ15, bsl_22, bsl_42, bsl_63, bsl_90, newSlice_X wf]; first | (refine dec_split (Q := Q_) (fun hp_ => ?_) (fun hp_ => ?_) <;> first | (exfalso; omega) | (refine hQ_ _ _ ?_; clear hQ_ Q_)) | (refine dec_splitn (Q := Q_) (fun hp_ => ?_) (fun hp_ => ?_) <;> first | (exfalso; omega) | (refine hQ_ _ _ ?_; clear hQ_ Q_)) | (refine hQ_ _ _ ?_; clear hQ_ Q_)))
  | (refine WC_cond fun K_ hK_ => ?_; simp (disch := omega) only [evT_tmp, upd_apply, WB_some, ↓reduceIte, reduceCtorEq, Nat.reduceEqDiff, Nat.reduceLT]; refine hK_ _ ?_; clear hK_ K_)))
      refine WC_drawnB [.no, .no, .no, .no, .no, .full, .full] (by kernel_rfl) ?_
      (repeat' (first
  | (with_reducible first | refine WC_seq ?_ | refine WC_skip ?_ | refine WC_label ?_ | refine WC_scope ?_ | refine WC_block ?_ | refine WC_ret ?_ | refine WC_exit ?_ | refine seqQ_norm ?_ | refine seqQ_ret ?_ | refine seqQ_exit ?_ | refine blkQ_norm ?_ | refine blkQ_ret ?_ | refine blkQ_here ?_ | refine gateK_yes ?_ | refine gateK_none ?_ | refine condK_tt ?_ | refine condK_ff ?_ | refine roundQ_exit ?_ | refine roundQ_ret ?_)
  | refine WC_region ?_ | refine blkQ_out rfl ?_ | refine WO_nil ?_ | refine WD_nil ?_
  | ((first | refine WD_gate rfl rfl rfl rfl rfl fun K_ hK_ => ?_ | refine WO_gate rfl rfl rfl rfl rfl fun K_ hK_ => ?_); simp only [upd_apply, asB_bool, asB_tup, ↓reduceIte, reduceCtorEq, Nat.reduceEqDiff, Bool.not_true, Bool.not_false]; refine hK_ _ ?_; clear hK_ K_)
  | refine gateK_no (by decide) ?_
  | ((try first | refine WO_op rfl rfl rfl ?_ | refine WO_op0 rfl rfl ?_ | refine WD_op rfl rfl rfl ?_ | refine WD_op0 rfl rfl ?_); (refine WV_gen fun Q_ hQ_ => ?_; simp (disch := first | omega | (simp only [List.length_cons, List.length_nil, List.length_append]; omega)) only [bb, bp, argF, ↓reduceIte, reduceCtorEq, Nat.reduceEqDiff, Nat.reduceLT, Nat.reduceLeDiff, Nat.reduceAdd, Nat.reduceMul, Nat.reduceSub, Nat.reduceBEq, Int.reduceToNat, cond_true, cond_false, eq_self, beq_self_eq_true, f1, f2, f3, f4, g1, g4, g5, g12, g13, g14, hix2, hld2, hlb, lx, c1, c2, callV_fn, newPtr_X wf, load1_X wf, loadAgg_X wf, store1_X wf, writeCells_X wf, tEvZ15, bsl_22, bsl_42, bsl_63, bsl_90, newSlice_X wf]; first | (refine dec_split (Q := Q_) (fun hp_ => ?_) (fun hp_ => ?_) <;> first | (exfalso; omega) | (refine hQ_ _ _ ?_; clear hQ_ Q_)) | (refine dec_splitn (Q := Q_) (fun hp_ => ?_) (fun hp_ => ?_) <;> first | (exfalso; omega) | (refine hQ_ _ _ ?_; clear hQ_ Q_)) | (refine hQ_ _ _ ?_; clear hQ_ Q_)))
  | (refine WC_cond fun K_ hK_ => ?_; simp (disch := omega) only [evT_tmp, upd_apply, WB_some, ↓reduceIte, reduceCtorEq, Nat.reduceEqDiff, Nat.reduceLT]; refine hK_ _ ?_; clear hK_ K_)))
      · have e2 : best1 m (l.take (i + 1)) = x := by rw [e1, if_pos (by assumption)]
        refine roundQ_again (i + 1) (by omega) ⟨hlt, by simp only [upd_apply, ↓reduceIte, reduceCtorEq, Nat.reduceEqDiff]; exact g1, by simp only [upd_apply, ↓reduceIte, reduceCtorEq, Nat.reduceEqDiff]; exact g4, by simp only [upd_apply, ↓reduceIte, reduceCtorEq, Nat.reduceEqDiff]; exact g5, by simp only [upd_apply, ↓reduceIte, reduceCtorEq, Nat.reduceEqDiff]; exact g12, by simp only [upd_apply, ↓reduceIte, reduceCtorEq, Nat.reduceEqDiff]; exact g13, by simp only [upd_apply, ↓reduceIte, reduceCtorEq, Nat.reduceEqDiff]; rfl, rfl, G ++ [.cells (mkCells [uu (x.T % 2 ^ 64), uu (x.T >>> 64), ii (x.L : Int), ii x.at_]) 67], _, ?_, ?_, by rw [e2]⟩
        · omega
        · simp only [List.length_append, List.length_cons, List.length_nil]; omega
      · have e2 : best1 m (l.take (i + 1)) = B := by rw [e1, if_neg (by assumption)]
        refine roundQ_again (i + 1) (by omega) ⟨hlt, by simp only [upd_apply, ↓reduceIte, reduceCtorEq, Nat.reduceEqDiff]; exact g1, by simp only [upd_apply, ↓reduceIte, reduceCtorEq, Nat.reduceEqDiff]; exact g4, by simp only [upd_apply, ↓reduceIte, reduceCtorEq, Nat.reduceEqDiff]; exact g5, by simp only [upd_apply, ↓reduceIte, reduceCtorEq, Nat.reduceEqDiff]; exact g12, by simp only [upd_apply, ↓reduceIte, reduceCtorEq, Nat.reduceEqDiff]; exact g13, by simp only [upd_apply, ↓reduceIte, reduceCtorEq, Nat.reduceEqDiff]; rfl, rfl, G ++ [.cells (mkCells [uu (x.T % 2 ^ 64), uu (x.T >>> 64), ii (x.L : Int), ii x.at_]) 67], _, ?_, ?_, by rw [e2]⟩
        · omega
        · simp only [List.length_append, List.length_cons, List.length_nil]; omega
    · have : i = l.length := by omega
      subst this
      rw [List.take_length, show bestA (m :: l) = best1 m l from rfl]
      unfold attC
      (repeat' (first
  | (with_reducible first | refine WC_seq ?_ | refine WC_skip ?_ | refine WC_label ?_ | refine WC_scope ?_ | refine WC_block ?_ | refine WC_ret ?_ | refine WC_exit ?_ | refine seqQ_norm ?_ | refine seqQ_ret ?_ | refine seqQ_exit ?_ | refine blkQ_norm ?_ | refine blkQ_ret ?_ | refine blkQ_here ?_ | refine gateK_yes ?_ | refine gateK_none ?_ | refine condK_tt ?_ | refine condK_ff ?_ | refine roundQ_exit ?_ | refine roundQ_ret ?_)
  | refine WC_region ?_ | refine blkQ_out rfl ?_ | refine WO_nil ?_ | refine WD_nil ?_
  | ((first | refine WD_gate rfl rfl rfl rfl rfl fun K_ hK_ => ?_ | refine WO_gate rfl rfl rfl rfl rfl fun K_ hK_ => ?_); simp only [upd_apply, asB_bool, asB_tup, ↓reduceIte, reduceCtorEq, Nat.reduceEqDiff, Bool.not_true, Bool.not_false]; refine hK_ _ ?_; clear hK_ K_)
  | refine gateK_no (by decide) ?_
  | ((try first | refine WO_op rfl rfl rfl ?_ | refine WO_op0 rfl rfl ?_ | refine WD_op rfl rfl rfl ?_ | refine WD_op0 rfl rfl ?_); (refine WV_gen fun Q_ hQ_ => ?_; simp (disch := first | omega | (simp only [List.length_cons, List.length_nil, List.length_append]; omega)) only [bb, bp, argF, ↓reduceIte, reduceCtorEq, Nat.reduceEqDiff, Nat.reduceLT, Nat.reduceLeDiff, Nat.reduceAdd, Nat.reduceMul, Nat.reduceSub, Nat.reduceBEq, Int.reduceToNat, cond_true, cond_false, eq_self, beq_self_eq_true, f1, f2, f3, f4, g1, g4, g5, g12, g13, g14, hlb, newPtr_X wf, load1_X wf, loadAgg_X wf, store1_X wf, writeCells_X wf, makeFunc_def, tEvZ15, bsl_22, bsl_42, bsl_63, bsl_90, newSlice_X wf]; first | (refine dec_split (Q := Q_) (fun hp_ => ?_) (fun hp_ => ?_) <;> first | (exfalso; omega) | (refine hQ_ _ _ ?_; clear hQ_ Q_)) | (refine dec_splitn (Q := Q_) (fun hp_ => ?_) (fun hp_ => ?_) <;> first | (exfalso; omega) | (refine hQ_ _ _ ?_; clear hQ_ Q_)) | (refine hQ_ _ _ ?_; clear hQ_ Q_)))
  | (refine WC_cond fun K_ hK_ => ?_; simp (disch := omega) only [evT_tmp, upd_apply, WB_some, ↓reduceIte, reduceCtorEq, Nat.reduceEqDiff, Nat.reduceLT]; refine hK_ _ ?_; clear hK_ K_)))
      refine endQ_ret _ _ rfl (retc0 (by decide) (by simp (disch := first | omega | (simp only [List.length_cons, List.length_nil, List.length_append]; omega)) only [bb, bp, argF, ↓reduceIte, reduceCtorEq, Nat.reduceEqDiff, Nat.reduceLT, Nat.reduceLeDiff, Nat.reduceAdd, Nat.reduceMul, Nat.reduceSub, Nat.reduceBEq, Int.reduceToNat, cond_true, cond_false, eq_self, beq_self_eq_true, g4, loadAgg_X wf, tEvZ15, bsl_22, bsl_42, bsl_63, bsl_90, newSlice_X wf]; rfl)) ?_
      refine WV_flat rfl (by omega) ?_
      exact ⟨rfl, rfl⟩
  · exact ⟨by omega, rfl, rfl, rfl, rfl, rfl, rfl, rfl, [], h.clock, by omega, by omega, by rw [List.take_zero]; rfl⟩
theorem strongest (l : List Att) (hne : l ≠ []) (hn : l.length ≤ 1000) (hok : ∀ x ∈ l, OkA x) (a : AV) (hc : CapU 4 a) (h : H) (wf : Wf h) (hs : Sl h a 4 l.length (l.flatMap attC)) :
    (om Try.prog KK).call (.fn 55 [a]) h = .ok (.agg (attC (bestA l))) h := by
  obtain ⟨f1, f2⟩ := sl_flat hs
  have c1 : ∀ (J : List AO) (w : Nat), w ≤ h.clock + J.length → (om Try.prog KK).call (.fn 73 [a, .fn 74 [] []]) (X h J w) = .ok (.agg [uu ((bestA l).T % 2 ^ 64), uu ((bestA l).T >>> 64), ii ((bestA l).L : Int), ii (bestA l).at_]) (X h J w) := fun J w hw => by
    match l, hne with
    | m :: l, _ => exact bestC m l (by simp at hn; omega) hok a hc _ (wf.X hw) (hs.up wf J w)
  refine WV_to (WV_call (fn := Try.f55) Try.func55 rfl rfl rfl rfl rfl ?_)
  simp only [argF]
  unfold attC
  (repeat' (first
  | (with_reducible first | refine WC_seq ?_ | refine WC_skip ?_ | refine WC_label ?_ | refine WC_scope ?_ | refine WC_block ?_ | refine WC_ret ?_ | refine WC_exit ?_ | refine seqQ_norm ?_ | refine seqQ_ret ?_ | refine seqQ_exit ?_ | refine blkQ_norm ?_ | refine blkQ_ret ?_ | refine blkQ_here ?_ | refine gateK_yes ?_ | refine gateK_none ?_ | refine condK_tt ?_ | refine condK_ff ?_ | refine roundQ_exit ?_ | refine roundQ_ret ?_)
  | refine WC_region ?_ | refine blkQ_out rfl ?_ | refine WO_nil ?_ | refine WD_nil ?_
  | ((first | refine WD_gate rfl rfl rfl rfl rfl fun K_ hK_ => ?_ | refine WO_gate rfl rfl rfl rfl rfl fun K_ hK_ => ?_); simp only [upd_apply, asB_bool, asB_tup, ↓reduceIte, reduceCtorEq, Nat.reduceEqDiff, Bool.not_true, Bool.not_false]; refine hK_ _ ?_; clear hK_ K_)
  | refine gateK_no (by decide) ?_
  | ((try first | refine WO_op rfl rfl rfl ?_ | refine WO_op0 rfl rfl ?_ | refine WD_op rfl rfl rfl ?_ | refine WD_op0 rfl rfl ?_); (refine WV_gen fun Q_ hQ_ => ?_; simp (disch := first | omega | (simp only [List.length_cons, List.length_nil, List.length_append]; omega)) only [bb, bp, argF, ↓reduceIte, reduceCtorEq, Nat.reduceEqDiff, Nat.reduceLT, Nat.reduceLeDiff, Nat.reduceAdd, Nat.reduceMul, Nat.reduceSub, Nat.reduceBEq, Int.reduceToNat, cond_true, cond_false, eq_self, beq_self_eq_true, f1, f2, newPtr_X wf, load1_X wf, loadAgg_X wf, store1_X wf, writeCells_X wf, makeFunc_def, tEvZ15, bsl_22, bsl_42, bsl_63, bsl_90, newSlice_X wf]; first | (refine dec_split (Q := Q_) (fun hp_ => ?_) (fun hp_ => ?_) <;> first | (exfalso; omega) | (refine hQ_ _ _ ?_; clear hQ_ Q_)) | (refine dec_splitn (Q := Q_) (fun hp_ => ?_) (fun hp_ => ?_) <;> first | (exfalso; omega) | (refine hQ_ _ _ ?_; clear hQ_ Q_)) | (refine hQ_ _ _ ?_; clear hQ_ Q_) | (refine WV_eq (c1 _ _ (by first | omega | (simp only [List.length_append, List.length_cons, List.length_nil]; omega))) ?_; refine hQ_ _ _ ?_; clear hQ_ Q_)))
  | (refine WC_cond fun K_ hK_ => ?_; simp (disch := omega) only [evT_tmp, upd_apply, WB_some, ↓reduceIte, reduceCtorEq, Nat.reduceEqDiff, Nat.reduceLT]; refine hK_ _ ?_; clear hK_ K_)))
  refine endQ_ret _ _ rfl (retc0 (by decide) (by simp (disch := first | omega | (simp only [List.length_cons, List.length_nil, List.length_append]; omega)) only [bb, bp, argF, ↓reduceIte, reduceCtorEq, Nat.reduceEqDiff, Nat.reduceLT, Nat.reduceLeDiff, Nat.reduceAdd, Nat.reduceMul, Nat.reduceSub, Nat.reduceBEq, Int.reduceToNat, cond_true, cond_false, eq_self, beq_self_eq_true, loadAgg_X wf, tEvZ15, bsl_22, bsl_42, bsl_63, bsl_90, newSlice_X wf]; rfl)) ?_
  refine WV_flat rfl (by omega) ?_
  exact ⟨rfl, rfl⟩
end Go.Proofs.Ytmincoafjnnkpaa
end

/- EvL23 -/
section
/-
  SLICES OF WIDE ELEMENTS THAT ARE MADE; PARTS OF THEM.
-/
namespace Go.Ev
section
variable {P : Program}
end
end Go.Ev
end

/- EvL24 -/
section
/-
  A FULL SLICE GROWS; A LINE THAT GROWS.
-/
namespace Go.Ev
section
variable {P : Program}
theorem append_full {h0 : H} (wf : Wf h0) {t e size bytes k len : Nat} {z x : AV} (hu : P.underlying t = some (.slice e)) (hz : sizeE P e = some size) (E : El P e size bytes z) {n : Nat} {new old : List AV} {l : List AO} {w e' : Nat} (hn : len + n ≤ 10000000) (hn0 : n ≠ 0) (hb : bytes ≤ 100000)
    (hk : l[k]? = some (.cells (mkCells old) e')) (ho : old.length = len * size) (hs : srcCells (X h0 l w) size x = some (n, new)) (hc : new.length = n * size) : appendE P t (.sl (nx h0 k) 0 len (some len) size) x (X h0 l w) = .ok (.sl (nx h0 l.length) 0 (len + n) none size) (X h0 (l ++ [.cells (mkCells (old ++ new)) e]) w) := by
  unfold appendE
  rw [hu]; dsimp only; rw [hz]; dsimp only; rw [hs]; dsimp only
  rw [show Nat.beq n 0 = false from by cases hb : Nat.beq n 0 with | false => rfl | true => exact absurd (Nat.eq_of_beq_eq_true hb) hn0]
  show appendSome P e size n new (.sl (nx h0 k) 0 len (some len) size) (X h0 l w) = _
  unfold appendSome
  dsimp only
  rw [show Nat.beq size size = true from Nat.beq_refl size]
  dsimp only [cond]
  rw [show Nat.ble (Nat.add len n) len = false from by
    cases hb : Nat.ble (Nat.add len n) len with
    | false => rfl
    | true => exact absurd (Nat.le_of_ble_eq_true hb) (by show ¬ len + n ≤ len; omega)]
  dsimp only [cond]
  rw [show readCells (X h0 l w) (nx h0 k) 0 (len * size) = some old from by
    unfold readCells
    rw [getObj_new wf, hk]
    show readM _ (len * size) 0 = some old
    rw [readM_cells _ _ _ (by omega), List.drop_zero, List.take_of_length_le (by omega)]]
  dsimp only
  rw [forceNat_eq, show Nat.add len n = len + n from rfl]
  exact growE_X wf E hn hb (by rw [List.length_append, ho, hc, Nat.add_mul])
/-- A list that is a slice of all of an object. -/
def LineV (h : H) (L : List AO) (e : TypeId) (lv : AV) (cs : List AV) : Prop := ∃ idx c, lv = .sl (nx h idx) 0 cs.length c 1 ∧ L[idx]? = some (.cells (mkCells cs) e) ∧ (c = none ∨ c = some cs.length)
theorem LineV.flat {h : H} {L : List AO} {e : TypeId} {lv : AV} {cs : List AV} (x : LineV h L e lv cs) : AV.cells lv = [lv] ∧ oneB lv = true := by obtain ⟨_, _, rfl, _⟩ := x; exact ⟨rfl, rfl⟩
theorem LineV.resz {h : H} {L : List AO} {e : TypeId} {lv : AV} {cs : List AV} (x : LineV h L e lv cs) {t : TypeId} (hu : P.underlying t = some (.slice e)) (hz : sizeE P e = some 1) : reszT P t lv = lv := by
  obtain ⟨_, c, rfl, _, hc⟩ := x
  cases c with
  | none => exact reszT_none
  | some c => exact reszT_some hu hz
theorem LineV.sl {h : H} (wf : Wf h) {L : List AO} {e : TypeId} {lv : AV} {cs : List AV} (x : LineV h L e lv cs) (w : Nat) : Sl (X h L w) lv 1 cs.length cs := by
  obtain ⟨idx, c, rfl, hk, hc⟩ := x
  exact Sl.new wf (by rw [Nat.mul_one]) hk
/-- One number more. -/
theorem LineV.app {h : H} (wf : Wf h) {L : List AO} {e bytes : Nat} {z lv v : AV} {cs : List AV} (x : LineV h L e lv cs) {t : TypeId} (hu : P.underlying t = some (.slice e)) (hz : sizeE P e = some 1) (E : El P e 1 bytes z) (hn : cs.length ≤ 1000000) (hb : bytes ≤ 100000) (hv : oneB v = true) (c : Nat) (w : Nat) (hw : h.clock ≤ w) :
    ∃ lv' L' o w', Chg e L L' ∧ LineV h (L' ++ [.cells (mkCells [v]) e, o]) e lv' (cs ++ [v]) ∧ h.clock ≤ w' ∧ w' ≤ w ∧ appendE P t lv (.sl (nx h L.length) 0 1 (some c) 1) (X h (L ++ [.cells (mkCells [v]) e]) w) = .ok lv' (X h (L' ++ [.cells (mkCells [v]) e, o]) w') := by
  obtain ⟨idx, c0, rfl, hk, hc⟩ := x
  have hkl := lt_of_get hk
  have hk' : (L ++ [.cells (mkCells [v]) e])[idx]? = some (.cells (mkCells cs) e) := by rw [List.getElem?_append_left hkl]; exact hk
  have hs : srcCells (X h (L ++ [.cells (mkCells [v]) e]) w) 1 (.sl (nx h L.length) 0 1 (some c) 1) = some (1, [v]) := src_new (e := e) wf (by rw [app_len0]; rfl) rfl
  have hlen : (L ++ [AO.cells (mkCells [v]) e]).length = L.length + 1 := by rw [List.length_append]; rfl
  rcases hc with rfl | rfl
  · refine ⟨_, L.set idx .dead, .cells (mkCells (cs ++ [v])) e, min (h.clock + idx) w, ⟨by simp, fun k o hk2 hno => ?_⟩, ⟨L.length + 1, none, rfl, ?_, .inl rfl⟩, ?_, ?_, ?_⟩
    rotate_right 1
    · rw [append_more wf hu hz E (by omega) (by decide) hb hk' (by rw [Nat.mul_one]) hs rfl (by rw [allOne_cons, hv]; rfl), hlen, List.set_append_left _ _ hkl, List.append_assoc, List.length_append]
      rfl
    · have hne : idx ≠ k := fun e1 => by
        subst e1
        rw [hk] at hk2
        cases hk2
        exact hno _ rfl
      rw [List.getElem?_set_ne hne]; exact hk2
    · rw [List.getElem?_append_right (by simp), List.length_set, Nat.add_sub_cancel_left]; rfl
    · omega
    · omega
  · refine ⟨_, L, .cells (mkCells (cs ++ [v])) e, w, Chg.rfl' _, ⟨L.length + 1, none, rfl, ?_, .inl rfl⟩, ?_, ?_, ?_⟩
    rotate_right 1
    · rw [append_full wf hu hz E (by omega) (by decide) hb hk' (by rw [Nat.mul_one]) hs rfl, hlen, List.append_assoc, List.length_append]
      rfl
    · rw [List.getElem?_append_right (by omega), Nat.add_sub_cancel_left]; rfl
    · exact hw
    · exact Nat.le_refl _
end
end Go.Ev
namespace Go.Ev
theorem LineV.keep {h : H} {L L' : List AO} {e : TypeId} {lv : AV} {cs : List AV} (x : LineV h L e lv cs) (k : Keep e L L') : LineV h L' e lv cs := by
  obtain ⟨idx, c, rfl, hk, hc⟩ := x
  exact ⟨idx, c, rfl, k _ _ hk, hc⟩
end Go.Ev
namespace Go.Ev
/-- As seen from a heap before. -/
theorem LineV.down {h : H} {G M : List AO} {w : Nat} {e : TypeId} {lv : AV} {cs : List AV} (x : LineV (X h G w) M e lv cs) : LineV h (G ++ M) e lv cs := by
  obtain ⟨idx, c, rfl, hk, hc⟩ := x
  exact ⟨G.length + idx, c, by rw [nx_X], by rw [List.getElem?_append_right (by omega), Nat.add_sub_cancel_left]; exact hk, hc⟩
/-- A list of lines. -/
def LV (h : H) (G : List AO) (vs : List AV) (ls : List (List Int)) : Prop := vs.length = ls.length ∧ ∀ (i : Nat) (u : AV) (l : List Int), vs[i]? = some u → ls[i]? = some l → LineV h G 2 u (l.map fun n => .int .i64 n)
theorem LV.nil (h : H) (G : List AO) : LV h G [] [] := ⟨rfl, fun i u l h1 _ => by simp at h1⟩
theorem LV.append {h : H} {G : List AO} {vs us : List AV} {ls ms : List (List Int)} (x : LV h G vs ls) (y : LV h G us ms) : LV h G (vs ++ us) (ls ++ ms) := by
  refine ⟨by rw [List.length_append, List.length_append, x.1, y.1], fun i u l h1 h2 => ?_⟩
  rcases Nat.lt_or_ge i vs.length with hi | hi
  · rw [List.getElem?_append_left hi] at h1
    rw [List.getElem?_append_left (by rw [← x.1]; exact hi)] at h2
    exact x.2 i u l h1 h2
  · rw [List.getElem?_append_right hi] at h1
    rw [List.getElem?_append_right (by rw [← x.1]; exact hi), ← x.1] at h2
    exact y.2 _ u l h1 h2
theorem LV.all {h : H} {G : List AO} {vs : List AV} {ls : List (List Int)} (x : LV h G vs ls) : allOne vs = true := by
  have key : ∀ vs : List AV, (∀ u ∈ vs, oneB u = true) → allOne vs = true := by
    intro vs
    induction vs with
    | nil => intro _; rfl
    | cons u vs ih => intro hu; rw [allOne_cons, hu u (by simp), ih fun w hw => hu w (by simp [hw])]; rfl
  refine key vs fun u hu => ?_
  obtain ⟨i, hi⟩ := List.getElem?_of_mem hu
  have hl := lt_of_get hi
  exact (x.2 i u _ hi (List.getElem?_eq_getElem (by rw [← x.1]; exact hl))).flat.2
theorem LV.mono {h : H} {G G' : List AO} {vs : List AV} {ls : List (List Int)} (x : LV h G vs ls) (k : ∀ u cs, LineV h G 2 u cs → LineV h G' 2 u cs) : LV h G' vs ls := ⟨x.1, fun i u l h1 h2 => k _ _ (x.2 i u l h1 h2)⟩
theorem LineV.more {h : H} {L : List AO} {e : TypeId} {lv : AV} {cs : List AV} (x : LineV h L e lv cs) (M : List AO) : LineV h (L ++ M) e lv cs := x.keep (Keep.more _ _)
end Go.Ev
namespace Go.Ev
end Go.Ev
end

/- EvZ16 -/
section
/-
  LAYER 5: the registers that are tried for bits.
-/
namespace Go.Proofs.Ytmincoafjnnkpaa
open Go.Ev
set_option maxRecDepth 100000
set_option linter.unusedSimpArgs false
set_option linter.unusedVariables false
set_option maxHeartbeats 2000000
theorem tEvZ16 : type_of% (And.intro (And.intro (And.intro (And.intro (And.intro (And.intro (And.intro (@bs_33) (@bs_34)) (And.intro (@bs_57) (@bs_59))) (And.intro (And.intro (@bs_67) (@bs_78)) (And.intro (@ia_2) (And.intro (@ia_3) (@ia_4))))) (And.intro (And.intro (And.intro (@ia_5) (@ia_22)) (And.intro (@ia_24) (@ia_25))) (And.intro (And.intro (@ia_33) (@ia_34)) (And.intro (@ia_42) (And.intro (@ia_55) (@ia_57)))))) (And.intro (And.intro (And.intro (And.intro (@ia_59) (@ia_63)) (And.intro (@ia_67) (@ia_74))) (And.intro (And.intro (@ia_78) (@ia_85)) (And.intro (@ia_87) (And.intro (@ia_90) (@sz_2))))) (And.intro (And.intro (And.intro (@sz_3) (@sz_4)) (And.intro (@sz_5) (And.intro (@sz_22) (@sz_24)))) (And.intro (And.intro (@sz_25) (@sz_33)) (And.intro (@sz_34) (And.intro (@sz_42) (@sz_55))))))) (And.intro (And.intro (And.intro (And.intro (And.intro (@sz_57) (@sz_59)) (And.intro (@sz_63) (@sz_67))) (And.intro (And.intro (@sz_74) (@sz_78)) (And.intro (@sz_85) (And.intro (@sz_87) (@sz_90))))) (And.intro (And.intro (And.intro (@ze_2) (@ze_3)) (And.intro (@ze_4) (And.intro (@ze_5) (@ze_22)))) (And.intro (And.intro (@ze_24) (@ze_33)) (And.intro (@ze_34) (And.intro (@ze_42) (@ze_55)))))) (And.intro (And.intro (And.intro (And.intro (@ze_57) (@ze_59)) (And.intro (@ze_63) (@ze_67))) (And.intro (And.intro (@ze_74) (@ze_78)) (And.intro (@ze_85) (And.intro (@ze_87) (@ze_90))))) (And.intro (And.intro (And.intro (@fo_33_0) (@fo_33_1)) (And.intro (@fo_34_0) (And.intro (@fo_34_1) (@fo_59_0)))) (And.intro (And.intro (@fo_59_1) (@fo_67_0)) (And.intro (@fo_67_1) (And.intro (@fo_78_0) (@pb_15)))))))) (And.intro (And.intro (And.intro (And.intro (And.intro (And.intro (@pb_16) (@pb_17)) (And.intro (@pb_18) (@pb_19))) (And.intro (And.intro (@pb_20) (@pb_21)) (And.intro (@pb_22) (And.intro (@pb_23) (@pb_24))))) (And.intro (And.intro (And.intro (@pb_25) (@pb_26)) (And.intro (@pb_27) (@pb_28))) (And.intro (And.intro (@pb_29) (@pb_30)) (And.intro (@pb_31) (And.intro (@pb_32) (@pb_33)))))) (And.intro (And.intro (And.intro (And.intro (@pb_34) (@pb_35)) (And.intro (@pb_36) (@pb_37))) (And.intro (And.intro (@pb_38) (@pb_39)) (And.intro (@pb_40) (And.intro (@pb_41) (@pb_42))))) (And.intro (And.intro (And.intro (@pb_43) (@pb_44)) (And.intro (@pb_45) (And.intro (@pb_46) (@pb_47)))) (And.intro (And.intro (@pb_48) (@pb_49)) (And.intro (@pb_50) (And.intro (@pb_51) (@pb_52))))))) (And.intro (And.intro (And.intro (And.intro (And.intro (@pb_53) (@pb_54)) (And.intro (@pb_55) (@pb_56))) (And.intro (And.intro (@pb_57) (@pb_58)) (And.intro (@pb_59) (And.intro (@pb_60) (@pb_61))))) (And.intro (And.intro (And.intro (@pb_62) (@pb_63)) (And.intro (@pb_64) (And.intro (@pb_65) (@pb_66)))) (And.intro (And.intro (@pb_67) (@pb_68)) (And.intro (@pb_69) (And.intro (@pb_70) (@pb_71)))))) (And.intro (And.intro (And.intro (And.intro (@pb_72) (@pb_73)) (And.intro (@pb_74) (@pb_75))) (And.intro (And.intro (@pb_76) (@pb_77)) (And.intro (@pb_78) (And.intro (@pb_79) (@pb_80))))) (And.intro (And.intro (And.intro (@pb_81) (@pb_82)) (And.intro (@ik_22) (And.intro (@ik_42) (@ik_57)))) (And.intro (And.intro (@ik_63) (@ik_90)) (And.intro (@ni_22) (And.intro (@ni_42) (@ni_63))))))))) := And.intro (And.intro (And.intro (And.intro (And.intro (And.intro (And.intro (@bs_33) (@bs_34)) (And.intro (@bs_57) (@bs_59))) (And.intro (And.intro (@bs_67) (@bs_78)) (And.intro (@ia_2) (And.intro (@ia_3) (@ia_4))))) (And.intro (And.intro (And.intro (@ia_5) (@ia_22)) (And.intro (@ia_24) (@ia_25))) (And.intro (And.intro (@ia_33) (@ia_34)) (And.intro (@ia_42) (And.intro (@ia_55) (@ia_57)))))) (And.intro (And.intro (And.intro (And.intro (@ia_59) (@ia_63)) (And.intro (@ia_67) (@ia_74))) (And.intro (And.intro (@ia_78) (@ia_85)) (And.intro (@ia_87) (And.intro (@ia_90) (@sz_2))))) (And.intro (And.intro (And.intro (@sz_3) (@sz_4)) (And.intro (@sz_5) (And.intro (@sz_22) (@sz_24)))) (And.intro (And.intro (@sz_25) (@sz_33)) (And.intro (@sz_34) (And.intro (@sz_42) (@sz_55))))))) (And.intro (And.intro (And.intro (And.intro (And.intro (@sz_57) (@sz_59)) (And.intro (@sz_63) (@sz_67))) (And.intro (And.intro (@sz_74) (@sz_78)) (And.intro (@sz_85) (And.intro (@sz_87) (@sz_90))))) (And.intro (And.intro (And.intro (@ze_2) (@ze_3)) (And.intro (@ze_4) (And.intro (@ze_5) (@ze_22)))) (And.intro (And.intro (@ze_24) (@ze_33)) (And.intro (@ze_34) (And.intro (@ze_42) (@ze_55)))))) (And.intro (And.intro (And.intro (And.intro (@ze_57) (@ze_59)) (And.intro (@ze_63) (@ze_67))) (And.intro (And.intro (@ze_74) (@ze_78)) (And.intro (@ze_85) (And.intro (@ze_87) (@ze_90))))) (And.intro (And.intro (And.intro (@fo_33_0) (@fo_33_1)) (And.intro (@fo_34_0) (And.intro (@fo_34_1) (@fo_59_0)))) (And.intro (And.intro (@fo_59_1) (@fo_67_0)) (And.intro (@fo_67_1) (And.intro (@fo_78_0) (@pb_15)))))))) (And.intro (And.intro (And.intro (And.intro (And.intro (And.intro (@pb_16) (@pb_17)) (And.intro (@pb_18) (@pb_19))) (And.intro (And.intro (@pb_20) (@pb_21)) (And.intro (@pb_22) (And.intro (@pb_23) (@pb_24))))) (And.intro (And.intro (And.intro (@pb_25) (@pb_26)) (And.intro (@pb_27) (@pb_28))) (And.intro (And.intro (@pb_29) (@pb_30)) (And.intro (@pb_31) (And.intro (@pb_32) (@pb_33)))))) (And.intro (And.intro (And.intro (And.intro (@pb_34) (@pb_35)) (And.intro (@pb_36) (@pb_37))) (And.intro (And.intro (@pb_38) (@pb_39)) (And.intro (@pb_40) (And.intro (@pb_41) (@pb_42))))) (And.intro (And.intro (And.intro (@pb_43) (@pb_44)) (And.intro (@pb_45) (And.intro (@pb_46) (@pb_47)))) (And.intro (And.intro (@pb_48) (@pb_49)) (And.intro (@pb_50) (And.intro (@pb_51) (@pb_52))))))) (And.intro (And.intro (And.intro (And.intro (And.intro (@pb_53) (@pb_54)) (And.intro (@pb_55) (@pb_56))) (And.intro (And.intro (@pb_57) (@pb_58)) (And.intro (@pb_59) (And.intro (@pb_60) (@pb_61))))) (And.intro (And.intro (And.intro (@pb_62) (@pb_63)) (And.intro (@pb_64) (And.intro (@pb_65) (@pb_66)))) (And.intro (And.intro (@pb_67) (@pb_68)) (And.intro (@pb_69) (And.intro (@pb_70) (@pb_71)))))) (And.intro (And.intro (And.intro (And.intro (@pb_72) (@pb_73)) (And.intro (@pb_74) (@pb_75))) (And.intro (And.intro (@pb_76) (@pb_77)) (And.intro (@pb_78) (And.intro (@pb_79) (@pb_80))))) (And.intro (And.intro (And.intro (@pb_81) (@pb_82)) (And.intro (@ik_22) (And.intro (@ik_42) (@ik_57)))) (And.intro (And.intro (@ik_63) (@ik_90)) (And.intro (@ni_22) (And.intro (@ni_42) (@ni_63))))))))
theorem rettc {P : Program} {h : H} {a t u : Nat} {f : TF} {v : AV} (hu : u < 384) (ha : a < 384) (hl : loadE P t (f a) h = some v) : retE P [.tmp u, .cell a t] (mkM f) h = .ok (.tup [f u, v]) h := by
  simp only [retE, resultsE, resultE, get_mkM _ _ ha, get_mkM _ _ hu, hl]
/-- A list of attempts in memory. -/
def AttsAt (h : H) (M : List AO) (idx : Nat) (l : List Att) (v : AV) : Prop := ∃ cap, v = .sl (nx h idx) 0 l.length cap 4 ∧ M[idx]? = some (.cells (mkCells (l.flatMap attC)) 67) ∧ (cap = none ∨ cap = some l.length)
theorem AttsAt.sl {h : H} (wf : Wf h) {M : List AO} {idx : Nat} {l : List Att} {v : AV} (x : AttsAt h M idx l v) (w : Nat) : Sl (X h M w) v 4 l.length (l.flatMap attC) := by
  obtain ⟨cap, rfl, hM, _⟩ := x
  exact Sl.new wf (flat_len attC_length l) hM
theorem AttsAt.capU {h : H} {M : List AO} {idx : Nat} {l : List Att} {v : AV} (x : AttsAt h M idx l v) : CapU 4 v := by
  obtain ⟨cap, rfl, hM, rfl | rfl⟩ := x
  · exact capu_none
  · exact capu_some (Nat.le_refl _)
theorem AttsAt.more {h : H} {M : List AO} {idx : Nat} {l : List Att} {v : AV} (x : AttsAt h M idx l v) (J : List AO) : AttsAt h (M ++ J) idx l v := by
  obtain ⟨cap, rfl, hM, hc⟩ := x
  exact ⟨cap, rfl, by rw [List.getElem?_append_left (lt_of_get hM)]; exact hM, hc⟩
theorem AttsAt.app {h : H} (wf : Wf h) {M : List AO} {idx : Nat} {l : List Att} {v : AV} (x : AttsAt h M idx l v) (a : Att) (hn : l.length ≤ 1000) :
    ∃ v' M', AttsAt h M' (M.length + 1) (l ++ [a]) v' ∧ M'.length = M.length + 2 ∧ (∀ k o, k ≠ idx → M[k]? = some o → M'[k]? = some o) ∧ ∀ w, ∃ w', min (h.clock + idx) w ≤ w' ∧ w' ≤ w ∧
      appendE Try.prog 63 (reszT Try.prog 63 v) (.sl (nx h M.length) 0 1 (some 1) 4) (X h (M ++ [.cells (mkCells (attC a)) 67]) w) = .ok v' (X h M' w') := by
  obtain ⟨cap, rfl, hM, hc⟩ := x
  have hlt := lt_of_get hM
  have hM' : (M ++ [AO.cells (mkCells (attC a)) 67])[idx]? = some (.cells (mkCells (l.flatMap attC)) 67) := by rw [List.getElem?_append_left hlt]; exact hM
  have hs : ∀ w, srcCells (X h (M ++ [.cells (mkCells (attC a)) 67]) w) 4 (.sl (nx h M.length) 0 1 (some 1) 4) = some (1, attC a) := fun w => src_new (e := 67) wf (by rw [app_len0]; rfl) rfl
  have hlen : (M ++ [AO.cells (mkCells (attC a)) 67]).length = M.length + 1 := by rw [List.length_append]; rfl
  have hfm : (l ++ [a]).flatMap attC = l.flatMap attC ++ attC a := by rw [List.flatMap_append]; simp
  rcases hc with rfl | rfl
  · have happ := fun w => append_more (P := Try.prog) (t := 63) (w := w) wf un_63 sz_67 el_67 (n := 1) (by omega) (by decide) (by decide) hM' (flat_len attC_length l) (hs w) rfl rfl
    simp only [hlen] at happ
    refine ⟨_, _, ⟨none, by rw [List.length_append]; try rfl, ?_, .inl rfl⟩, ?_, ?_, fun w => ⟨_, Nat.le_refl _, Nat.min_le_right _ _, by rw [reszT_none]; exact happ w⟩⟩
    · rw [hfm]; simp
    · simp
    · intro k o hk ho
      have hkl := lt_of_get ho
      rw [List.getElem?_append_left (by simp; omega), List.getElem?_set_ne (Ne.symm hk), List.getElem?_append_left hkl]; exact ho
  · have happ := fun w => append_full (P := Try.prog) (t := 63) (w := w) wf un_63 sz_67 el_67 (n := 1) (by omega) (by decide) (by decide) hM' (flat_len attC_length l) (hs w) rfl
    simp only [hlen] at happ
    refine ⟨_, _, ⟨none, by rw [List.length_append]; try rfl, ?_, .inl rfl⟩, ?_, ?_, fun w => ⟨w, Nat.min_le_right _ _, Nat.le_refl _, by rw [reszT_some un_63 sz_67]; exact happ w⟩⟩
    · rw [hfm]; simp
    · simp
    · intro k o hk ho
      have hkl := lt_of_get ho
      rw [List.append_assoc, List.getElem?_append_left hkl]; exact ho
theorem chain_ok {s : Nat → Bool} {l : List Att} {T L p : Nat} {prof : List Nat} (h : Chain s l T L p prof) : (∀ x ∈ l, OkA x) ∧ l.length ≤ p + 1 := by
  induction h with
  | nil => exact ⟨fun x hx => by rw [List.mem_singleton.1 hx]; exact ⟨by decide, by decide⟩, by simp⟩
  | @snoc l T L p q prof hc hpq w hq ih =>
    have hf := hc.facts
    refine ⟨fun x hx => ?_, by rw [List.length_append]; simp; omega⟩
    rcases List.mem_append.1 hx with h | h
    · exact ih.1 x h
    · rw [List.mem_singleton.1 h]
      have := hf.le
      have := hf.p_le
      exact ⟨⟨by show (-1 : Int) ≤ (q : Int); omega, by show (q : Int) ≤ (128 : Int); omega⟩, by show L ≤ 128; omega⟩
theorem seek (bs : List Bool) (hb : bs.length ≤ 128) (a : AV) (hc : CapU 1 a) (h : H) (wf : Wf h) (hs : Sl h a 1 bs.length (bs.map bi)) :
    ∃ l T L p prof v M idx, Chain (sq bs) l T L p prof ∧ p ≤ bs.length ∧ Makes T L (sq bs) bs.length ∧ AttsAt h M idx l v ∧ (om Try.prog KK).call (.fn 49 [a]) h = .ok (.tup [v, .agg (rg T L)]) (X h M h.w) := by
  suffices hW : WV ((om Try.prog KK).call (.fn 49 [a]) h) fun r h' => ∃ l T L p prof v M idx, Chain (sq bs) l T L p prof ∧ p ≤ bs.length ∧ Makes T L (sq bs) bs.length ∧ AttsAt h M idx l v ∧ r = .tup [v, .agg (rg T L)] ∧ h' = X h M h.w by
    obtain ⟨r, h', e, l, T, L, p, prof, v, M, idx, h1, h2, h3, h4, rfl, rfl⟩ := hW
    exact ⟨l, T, L, p, prof, v, M, idx, h1, h2, h3, h4, e⟩
  have hl : ∀ h', lenE Try.prog 22 a h' = some (ii (bs.length : Int)) := fun h' => hs.len un_22
  obtain ⟨f1, f2⟩ := sl_flat hs
  refine WV_call (fn := Try.f49) Try.func49 rfl rfl rfl rfl rfl ?_
  simp only [argF]
  (repeat' (first
  | (with_reducible first | refine WC_seq ?_ | refine WC_skip ?_ | refine WC_label ?_ | refine WC_scope ?_ | refine WC_block ?_ | refine WC_ret ?_ | refine WC_exit ?_ | refine seqQ_norm ?_ | refine seqQ_ret ?_ | refine seqQ_exit ?_ | refine blkQ_norm ?_ | refine blkQ_ret ?_ | refine blkQ_here ?_ | refine gateK_yes ?_ | refine gateK_none ?_ | refine condK_tt ?_ | refine condK_ff ?_ | refine roundQ_exit ?_ | refine roundQ_ret ?_)
  | refine WC_region ?_ | refine blkQ_out rfl ?_ | refine WO_nil ?_ | refine WD_nil ?_
  | ((first | refine WD_gate rfl rfl rfl rfl rfl fun K_ hK_ => ?_ | refine WO_gate rfl rfl rfl rfl rfl fun K_ hK_ => ?_); simp only [upd_apply, asB_bool, asB_tup, ↓reduceIte, reduceCtorEq, Nat.reduceEqDiff, Bool.not_true, Bool.not_false]; refine hK_ _ ?_; clear hK_ K_)
  | refine gateK_no (by decide) ?_
  | ((try first | refine WO_op rfl rfl rfl ?_ | refine WO_op0 rfl rfl ?_ | refine WD_op rfl rfl rfl ?_ | refine WD_op0 rfl rfl ?_); (refine WV_gen fun Q_ hQ_ => ?_; simp (disch := first | omega | (simp only [List.length_cons, List.length_nil, List.length_append]; omega)) only [bb, bp, argF, ↓reduceIte, reduceCtorEq, Nat.reduceEqDiff, Nat.reduceLT, Nat.reduceLeDiff, Nat.reduceAdd, Nat.reduceMul, Nat.reduceSub, Nat.reduceBEq, Int.reduceToNat, cond_true, cond_false, eq_self, beq_self_eq_true, hl, f1, f2, newPtr_X wf, load1_X wf, loadAgg_X wf, store1_X wf, writeCells_X wf, makeFunc_def, tEvZ16, bsl_22, bsl_42, bsl_63, bsl_90, newSlice_X wf]; first | (refine dec_split (Q := Q_) (fun hp_ => ?_) (fun hp_ => ?_) <;> first | (exfalso; omega) | (refine hQ_ _ _ ?_; clear hQ_ Q_)) | (refine dec_splitn (Q := Q_) (fun hp_ => ?_) (fun hp_ => ?_) <;> first | (exfalso; omega) | (refine hQ_ _ _ ?_; clear hQ_ Q_)) | (refine hQ_ _ _ ?_; clear hQ_ Q_)))
  | (refine WC_cond fun K_ hK_ => ?_; simp (disch := omega) only [evT_tmp, upd_apply, WB_some, ↓reduceIte, reduceCtorEq, Nat.reduceEqDiff, Nat.reduceLT]; refine hK_ _ ?_; clear hK_ K_)))
  refine WC_loop (α := Nat) (fun (p : Nat) f d h' => p ≤ bs.length ∧ f 0 = a ∧ f 3 = .ptr (nx h 0) 0 ∧ f 5 = .ptr (nx h 2) 0 ∧ d = [] ∧
    ∃ l T L prof v M w idx, f 4 = v ∧ Chain (sq bs) l T L p prof ∧ AttsAt h M idx l v ∧ idx ≠ 0 ∧ idx ≠ 2 ∧ M[0]? = some (.cells (mkCells [.int .u64 0, .int .u64 0, .int .i64 0]) 59) ∧ M[2]? = some (.cells (mkCells (rg T L)) 59) ∧ h' = X h M w ∧ h.clock ≤ w ∧ w ≤ h.clock + M.length) (fun p => bs.length + 1 - p) ?_ (bs.length + 2) 0 (by omega) ?_
  · rintro p f d h' ⟨hp, g0, g3, g5, rfl, l, T, L, prof, v, M, w, idx, g4, hch, hat, hi0, hi2, hM0, hM2, rfl, hw, hw2⟩
    have hf := hch.facts
    obtain ⟨hok, hln⟩ := chain_ok hch
    have hple := hf.p_le
    have hT : T < 2 ^ 128 := Nat.lt_of_lt_of_le hf.lt (Nat.pow_le_pow_right (by decide) (by have := hf.le; omega))
    have hL : L ≤ 128 := by have := hf.le; omega
    have get : ∀ {k : Nat} {o : AO}, M[k]? = some o → ∀ J, (M ++ J)[k]? = some o := fun {k o} hq J => by rw [List.getElem?_append_left (lt_of_get hq)]; exact hq
    have hMl := lt_of_get hM2
    have s0 : ∀ J o, (M ++ J).set 0 o = M.set 0 o ++ J := fun J o => List.set_append_left _ _ (by omega)
    have s2 : ∀ J o, (M ++ J).set 2 o = M.set 2 o ++ J := fun J o => List.set_append_left _ _ (by omega)
    have sM0 : M.set 0 (.cells (mkCells [uu (T % 2 ^ 64), uu (T >>> 64), ii (L : Int)]) 59) = M.set 0 (.cells (mkCells (rg T L)) 59) := rfl
    obtain ⟨v1, h1, e1, r, hr, rfl, rfl⟩ := wrong T L hT hL bs hb a hc _ (wf.X (l := M) (w := w) hw2) (hs.up wf M w)
    have hrn : L ≤ r ∧ r ≤ bs.length ∧ Makes T L (sq bs) r ∧ (r < bs.length → sq bs r ≠ pred T L (sq bs) r) := by
      rcases hr with ⟨h1, _⟩ | ⟨_, h2, h3, h4, h5⟩
      · have := hf.le; omega
      · exact ⟨h2, h3, h4, h5⟩
    obtain ⟨fv1, fv2⟩ := sl_flat (hat.sl wf w)
    unfold rg at e1 hM2
    by_cases hrb : r = bs.length
    · rw [hrb] at e1
      (repeat' (first
  | (with_reducible first | refine WC_seq ?_ | refine WC_skip ?_ | refine WC_label ?_ | refine WC_scope ?_ | refine WC_block ?_ | refine WC_ret ?_ | refine WC_exit ?_ | refine seqQ_norm ?_ | refine seqQ_ret ?_ | refine seqQ_exit ?_ | refine blkQ_norm ?_ | refine blkQ_ret ?_ | refine blkQ_here ?_ | refine gateK_yes ?_ | refine gateK_none ?_ | refine condK_tt ?_ | refine condK_ff ?_ | refine roundQ_exit ?_ | refine roundQ_ret ?_)
  | refine WC_region ?_ | refine blkQ_out rfl ?_ | refine WO_nil ?_ | refine WD_nil ?_
  | ((first | refine WD_gate rfl rfl rfl rfl rfl fun K_ hK_ => ?_ | refine WO_gate rfl rfl rfl rfl rfl fun K_ hK_ => ?_); simp only [upd_apply, asB_bool, asB_tup, ↓reduceIte, reduceCtorEq, Nat.reduceEqDiff, Bool.not_true, Bool.not_false]; refine hK_ _ ?_; clear hK_ K_)
  | refine gateK_no (by decide) ?_
  | ((try first | refine WO_op rfl rfl rfl ?_ | refine WO_op0 rfl rfl ?_ | refine WD_op rfl rfl rfl ?_ | refine WD_op0 rfl rfl ?_); (refine WV_gen fun Q_ hQ_ => ?_; simp (disch := first | omega | (simp only [List.length_cons, List.length_nil, List.length_append]; omega)) only [bb, bp, argF, ↓reduceIte, reduceCtorEq, Nat.reduceEqDiff, Nat.reduceLT, Nat.reduceLeDiff, Nat.reduceAdd, Nat.reduceMul, Nat.reduceSub, Nat.reduceBEq, Int.reduceToNat, cond_true, cond_false, eq_self, beq_self_eq_true, hl, f1, f2, g0, g3, g4, g5, hM2, hM0, fv1, fv2, newPtr_X wf, load1_X wf, loadAgg_X wf, store1_X wf, writeCells_X wf, makeFunc_def, tEvZ16, bsl_22, bsl_42, bsl_63, bsl_90, newSlice_X wf]; first | (refine dec_split (Q := Q_) (fun hp_ => ?_) (fun hp_ => ?_) <;> first | (exfalso; omega) | (refine hQ_ _ _ ?_; clear hQ_ Q_)) | (refine dec_splitn (Q := Q_) (fun hp_ => ?_) (fun hp_ => ?_) <;> first | (exfalso; omega) | (refine hQ_ _ _ ?_; clear hQ_ Q_)) | (refine hQ_ _ _ ?_; clear hQ_ Q_) | (refine WV_eq (e1) ?_; refine hQ_ _ _ ?_; clear hQ_ Q_)))
  | (refine WC_cond fun K_ hK_ => ?_; simp (disch := omega) only [evT_tmp, upd_apply, WB_some, ↓reduceIte, reduceCtorEq, Nat.reduceEqDiff, Nat.reduceLT]; refine hK_ _ ?_; clear hK_ K_)))
      refine WC_drawnB [.no, .full, .no, .full] (by kernel_rfl) ?_
      (repeat' (first
  | (with_reducible first | refine WC_seq ?_ | refine WC_skip ?_ | refine WC_label ?_ | refine WC_scope ?_ | refine WC_block ?_ | refine WC_ret ?_ | refine WC_exit ?_ | refine seqQ_norm ?_ | refine seqQ_ret ?_ | refine seqQ_exit ?_ | refine blkQ_norm ?_ | refine blkQ_ret ?_ | refine blkQ_here ?_ | refine gateK_yes ?_ | refine gateK_none ?_ | refine condK_tt ?_ | refine condK_ff ?_ | refine roundQ_exit ?_ | refine roundQ_ret ?_)
  | refine WC_region ?_ | refine blkQ_out rfl ?_ | refine WO_nil ?_ | refine WD_nil ?_
  | ((first | refine WD_gate rfl rfl rfl rfl rfl fun K_ hK_ => ?_ | refine WO_gate rfl rfl rfl rfl rfl fun K_ hK_ => ?_); simp only [upd_apply, asB_bool, asB_tup, ↓reduceIte, reduceCtorEq, Nat.reduceEqDiff, Bool.not_true, Bool.not_false]; refine hK_ _ ?_; clear hK_ K_)
  | refine gateK_no (by decide) ?_
  | ((try first | refine WO_op rfl rfl rfl ?_ | refine WO_op0 rfl rfl ?_ | refine WD_op rfl rfl rfl ?_ | refine WD_op0 rfl rfl ?_); (refine WV_gen fun Q_ hQ_ => ?_; simp (disch := first | omega | (simp only [List.length_cons, List.length_nil, List.length_append]; omega)) only [bb, bp, argF, ↓reduceIte, reduceCtorEq, Nat.reduceEqDiff, Nat.reduceLT, Nat.reduceLeDiff, Nat.reduceAdd, Nat.reduceMul, Nat.reduceSub, Nat.reduceBEq, Int.reduceToNat, cond_true, cond_false, eq_self, beq_self_eq_true, hl, f1, f2, g0, g3, g4, g5, hM2, hM0, fv1, fv2, newPtr_X wf, load1_X wf, loadAgg_X wf, store1_X wf, writeCells_X wf, makeFunc_def, tEvZ16, bsl_22, bsl_42, bsl_63, bsl_90, newSlice_X wf]; first | (refine dec_split (Q := Q_) (fun hp_ => ?_) (fun hp_ => ?_) <;> first | (exfalso; omega) | (refine hQ_ _ _ ?_; clear hQ_ Q_)) | (refine dec_splitn (Q := Q_) (fun hp_ => ?_) (fun hp_ => ?_) <;> first | (exfalso; omega) | (refine hQ_ _ _ ?_; clear hQ_ Q_)) | (refine hQ_ _ _ ?_; clear hQ_ Q_)))
  | (refine WC_cond fun K_ hK_ => ?_; simp (disch := omega) only [evT_tmp, upd_apply, WB_some, ↓reduceIte, reduceCtorEq, Nat.reduceEqDiff, Nat.reduceLT]; refine hK_ _ ?_; clear hK_ K_)))
      have hld : loadE Try.prog 59 (.ptr (nx h 0) 0) (X h (M.set 0 (.cells (mkCells [uu (T % 2 ^ 64), uu (T >>> 64), ii (L : Int)]) 59)) (min w h.clock)) = some (.agg [uu (T % 2 ^ 64), uu (T >>> 64), ii (L : Int)]) := by
        have e : (M.set 0 (AO.cells (mkCells [uu (T % 2 ^ 64), uu (T >>> 64), ii (L : Int)]) 59))[0]? = some (.cells (mkCells [uu (T % 2 ^ 64), uu (T >>> 64), ii (L : Int)]) 59) := List.getElem?_set_self (by omega)
        simp (disch := first | omega | (simp only [List.length_cons, List.length_nil, List.length_append]; omega)) only [bb, bp, argF, ↓reduceIte, reduceCtorEq, Nat.reduceEqDiff, Nat.reduceLT, Nat.reduceLeDiff, Nat.reduceAdd, Nat.reduceMul, Nat.reduceSub, Nat.reduceBEq, Int.reduceToNat, cond_true, cond_false, eq_self, beq_self_eq_true, loadAgg_X wf, e, tEvZ16, bsl_22, bsl_42, bsl_63, bsl_90, newSlice_X wf]
      refine endQ_ret _ _ rfl (rettc (by decide) (by decide) (by simp only [upd_apply, ↓reduceIte, reduceCtorEq, Nat.reduceEqDiff]; rw [g3]; exact hld)) ?_
      simp only [upd_apply, ↓reduceIte, reduceCtorEq, Nat.reduceEqDiff]
      obtain ⟨cap, hve, hMi, hcap⟩ := hat
      subst hve
      refine WV_keep wf (by omega) (fun hfl => absurd (show false = true from hfl) (by decide)) (fun _ => ?_)
      exact ⟨l, T, L, p, prof, _, M.set 0 (.cells (mkCells [uu (T % 2 ^ 64), uu (T >>> 64), ii (L : Int)]) 59), idx, hch, hp, by have := hrn.2.2.1; rw [hrb] at this; exact this, ⟨cap, rfl, by rw [List.getElem?_set_ne (Ne.symm hi0)]; exact hMi, hcap⟩, rfl, rfl⟩
    · have hw' : Wrong T L (sq bs) r := ⟨hrn.1, hrn.2.2.1, hrn.2.2.2 (by omega)⟩
      have hpr : p ≤ r := Nat.le_of_not_lt fun hlt => hw'.bad (hf.makes r hrn.1 hlt)
      have hch2 := Chain.snoc hch hpr hw' (by omega)
      have hrn' : ¬ ((r : Nat) : Int) = (bs.length : Int) := by omega
      have hBok := hok _ (bestA_mem hf.ne)
      have hBT : (bestA l).T < 2 ^ 128 := by
        rcases hf.by_ with h | ⟨h1, _⟩
        · rw [h]; decide
        · exact Nat.lt_of_lt_of_le h1 (Nat.pow_le_pow_right (by decide) hBok.2)
      have hBat : (bestA l).at_ < (r : Int) := by
        rcases hf.by_ with h | ⟨_, q', h, h2, _⟩
        · rw [h]; show (-1 : Int) < _; omega
        · omega
      have hBat2 := hBok.1.1
      generalize hgg : ((r : Int) - (bestA l).at_).toNat = g at *
      have hgg' : (⟨T, L, (r : Int)⟩ : Att).at_ - (bestA l).at_ = (g : Int) := by show (r : Int) - _ = _; omega
      have cS : ∀ (J : List AO) (w : Nat), w ≤ h.clock + (M.length + J.length) → (om Try.prog KK).call (.fn 55 [v]) (X h (M ++ J) w) = .ok (.agg [uu ((bestA l).T % 2 ^ 64), uu ((bestA l).T >>> 64), ii ((bestA l).L : Int), ii (bestA l).at_]) (X h (M ++ J) w) := fun J w hw => strongest l hf.ne (by omega) hok v hat.capU _ (wf.X (by rw [List.length_append]; exact hw)) ((hat.more J).sl wf w)
      have cM : ∀ (J : List AO) (w : Nat), w ≤ h.clock + J.length → (om Try.prog KK).call (.fn 71 [.agg [uu (T % 2 ^ 64), uu (T >>> 64), ii (L : Int), ii (r : Int)], .agg [uu ((bestA l).T % 2 ^ 64), uu ((bestA l).T >>> 64), ii ((bestA l).L : Int), ii (bestA l).at_]]) (X h J w) = .ok (.agg [uu (mend T g (bestA l).T % 2 ^ 64), uu (mend T g (bestA l).T >>> 64), ii ((max L ((bestA l).L + g) : Nat) : Int)]) (X h J w) := fun J w hw => mendC ⟨T, L, (r : Int)⟩ (bestA l) g hgg' (by omega) hT hBT ⟨hL, hBok.2⟩ _ (wf.X hw)
      generalize mend T g (bestA l).T = T2 at *
      generalize max L ((bestA l).L + g) = L2 at *
      generalize hBa : bestA l = B at *
      -- the register that is tried, and the one behind it
      have hat2 : AttsAt h (M.set 2 (.cells (mkCells [uu (T2 % 2 ^ 64), uu (T2 >>> 64), ii (L2 : Int)]) 59) ++ [.cells (mkCells (attC ⟨T, L, (r : Int)⟩)) 67]) idx l v := by
        obtain ⟨cap, hve, hMi, hcap⟩ := hat
        exact ⟨cap, hve, by rw [List.getElem?_append_left (by rw [List.length_set]; exact lt_of_get hMi), List.getElem?_set_ne (Ne.symm hi2)]; exact hMi, hcap⟩
      obtain ⟨v', M', hat', hlen', hkeep, happ⟩ := hat2.app wf ⟨T, L, (r : Int)⟩ (by omega)
      obtain ⟨w', hw1', hw2', happ⟩ := happ (min (min (h.clock + M.length) w) (min (h.clock + 2) (h.clock + (M.length + 1))))
      have hM0' : M'[0]? = some (.cells (mkCells [.int .u64 0, .int .u64 0, .int .i64 0]) 59) := hkeep 0 _ (Ne.symm hi0) (by rw [List.getElem?_append_left (by rw [List.length_set]; omega), List.getElem?_set_ne (by decide)]; exact hM0)
      have hM2' : M'[2]? = some (.cells (mkCells [uu (T2 % 2 ^ 64), uu (T2 >>> 64), ii (L2 : Int)]) 59) := hkeep 2 _ (Ne.symm hi2) (by rw [List.getElem?_append_left (by rw [List.length_set]; omega), List.getElem?_set_self (by omega)])
      have hl7 : ∀ (N : List AO), N.length = M.length → ∀ J w, loadAgg (nx h M.length) 0 (some 4) (X h (N ++ .cells (mkCells [uu (T % 2 ^ 64), uu (T >>> 64), ii (L : Int), ii (r : Int)]) 67 :: J) w) = some (.agg [uu (T % 2 ^ 64), uu (T >>> 64), ii (L : Int), ii (r : Int)]) := fun N hN J w => by
        rw [loadAgg_X wf, ← hN, app_len0, List.getElem?_cons_zero, aggAt_cells (by decide)]; rfl
      have hl7a := hl7 M rfl
      have hl7b := hl7 (M.set 2 (.cells (mkCells [uu (T2 % 2 ^ 64), uu (T2 >>> 64), ii (L2 : Int)]) 59)) (by rw [List.length_set])
      have hsl : (M.set 2 (AO.cells (mkCells [uu (T2 % 2 ^ 64), uu (T2 >>> 64), ii (L2 : Int)]) 59)).length = M.length := List.length_set
      have hset : ∀ J w, writeCells (nx h 2) 0 [uu (T2 % 2 ^ 64), uu (T2 >>> 64), ii (L2 : Int)] (X h (M ++ J) w) = some (X h (M.set 2 (.cells (mkCells [uu (T2 % 2 ^ 64), uu (T2 >>> 64), ii (L2 : Int)]) 59) ++ J) (min (h.clock + 2) w)) := fun J w => by
        rw [writeCells_X wf, get hM2 J, writeAt_cells]
        have ho : allOne [uu (T2 % 2 ^ 64), uu (T2 >>> 64), ii (L2 : Int)] = true := rfl
        rw [ho, cond_true, if_pos (by show 0 + 3 ≤ 3; decide)]
        show some (X h ((M ++ J).set 2 _) _) = _
        rw [s2]
        rfl
      have hat4 := hat'.more []
      rw [List.append_nil] at hat4
      unfold attC at happ
      simp only [List.append_assoc, List.cons_append, List.nil_append, List.length_append, hsl, List.length_cons, List.length_nil, Nat.zero_add] at happ
      obtain ⟨fw1, fw2⟩ := sl_flat (hat'.sl wf h.clock)
      have hrz : ∀ id off l c esz, reszT Try.prog 63 (.sl id off l (some c) esz) = .sl id off l (some c) 4 := fun _ _ _ _ _ => reszT_some un_63 sz_67
      (repeat' (first
  | (with_reducible first | refine WC_seq ?_ | refine WC_skip ?_ | refine WC_label ?_ | refine WC_scope ?_ | refine WC_block ?_ | refine WC_ret ?_ | refine WC_exit ?_ | refine seqQ_norm ?_ | refine seqQ_ret ?_ | refine seqQ_exit ?_ | refine blkQ_norm ?_ | refine blkQ_ret ?_ | refine blkQ_here ?_ | refine gateK_yes ?_ | refine gateK_none ?_ | refine condK_tt ?_ | refine condK_ff ?_ | refine roundQ_exit ?_ | refine roundQ_ret ?_)
  | refine WC_region ?_ | refine blkQ_out rfl ?_ | refine WO_nil ?_ | refine WD_nil ?_
  | ((first | refine WD_gate rfl rfl rfl rfl rfl fun K_ hK_ => ?_ | refine WO_gate rfl rfl rfl rfl rfl fun K_ hK_ => ?_); simp only [upd_apply, asB_bool, asB_tup, ↓reduceIte, reduceCtorEq, Nat.reduceEqDiff, Bool.not_true, Bool.not_false]; refine hK_ _ ?_; clear hK_ K_)
  | refine gateK_no (by decide) ?_
  | ((try first | refine WO_op rfl rfl rfl ?_ | refine WO_op0 rfl rfl ?_ | refine WD_op rfl rfl rfl ?_ | refine WD_op0 rfl rfl ?_); (refine WV_gen fun Q_ hQ_ => ?_; simp (disch := first | omega | (simp only [List.length_cons, List.length_nil, List.length_append]; omega)) only [bb, bp, argF, ↓reduceIte, reduceCtorEq, Nat.reduceEqDiff, Nat.reduceLT, Nat.reduceLeDiff, Nat.reduceAdd, Nat.reduceMul, Nat.reduceSub, Nat.reduceBEq, Int.reduceToNat, cond_true, cond_false, eq_self, beq_self_eq_true, hl, f1, f2, g0, g3, g4, g5, hM2, hM0, fv1, fv2, newPtr_X wf, load1_X wf, loadAgg_X wf, store1_X wf, writeCells_X wf, makeFunc_def, tEvZ16, bsl_22, bsl_42, bsl_63, bsl_90, newSlice_X wf]; first | (refine dec_split (Q := Q_) (fun hp_ => ?_) (fun hp_ => ?_) <;> first | (exfalso; omega) | (refine hQ_ _ _ ?_; clear hQ_ Q_)) | (refine dec_splitn (Q := Q_) (fun hp_ => ?_) (fun hp_ => ?_) <;> first | (exfalso; omega) | (refine hQ_ _ _ ?_; clear hQ_ Q_)) | (refine hQ_ _ _ ?_; clear hQ_ Q_) | (refine WV_eq (e1) ?_; refine hQ_ _ _ ?_; clear hQ_ Q_)))
  | (refine WC_cond fun K_ hK_ => ?_; simp (disch := omega) only [evT_tmp, upd_apply, WB_some, ↓reduceIte, reduceCtorEq, Nat.reduceEqDiff, Nat.reduceLT]; refine hK_ _ ?_; clear hK_ K_)))
      refine WC_drawnB [.no, .no, .no, .full, .full] (by kernel_rfl) ?_
      (repeat' (first
  | (with_reducible first | refine WC_seq ?_ | refine WC_skip ?_ | refine WC_label ?_ | refine WC_scope ?_ | refine WC_block ?_ | refine WC_ret ?_ | refine WC_exit ?_ | refine seqQ_norm ?_ | refine seqQ_ret ?_ | refine seqQ_exit ?_ | refine blkQ_norm ?_ | refine blkQ_ret ?_ | refine blkQ_here ?_ | refine gateK_yes ?_ | refine gateK_none ?_ | refine condK_tt ?_ | refine condK_ff ?_ | refine roundQ_exit ?_ | refine roundQ_ret ?_)
  | refine WC_region ?_ | refine blkQ_out rfl ?_ | refine WO_nil ?_ | refine WD_nil ?_
  | ((first | refine WD_gate rfl rfl rfl rfl rfl fun K_ hK_ => ?_ | refine WO_gate rfl rfl rfl rfl rfl fun K_ hK_ => ?_); simp only [upd_apply, asB_bool, asB_tup, ↓reduceIte, reduceCtorEq, Nat.reduceEqDiff, Bool.not_true, Bool.not_false]; refine hK_ _ ?_; clear hK_ K_)
  | refine gateK_no (by decide) ?_
  | ((try first | refine WO_op rfl rfl rfl ?_ | refine WO_op0 rfl rfl ?_ | refine WD_op rfl rfl rfl ?_ | refine WD_op0 rfl rfl ?_); (refine WV_gen fun Q_ hQ_ => ?_; simp (disch := first | omega | (simp only [List.length_cons, List.length_nil, List.length_append]; omega)) only [bb, bp, argF, ↓reduceIte, reduceCtorEq, Nat.reduceEqDiff, Nat.reduceLT, Nat.reduceLeDiff, Nat.reduceAdd, Nat.reduceMul, Nat.reduceSub, Nat.reduceBEq, Int.reduceToNat, cond_true, cond_false, eq_self, beq_self_eq_true, hl, f1, f2, g0, g3, g4, g5, hM2, hM0, fv1, fv2, hl7a, cS, cM, hset, tEvZ16, bsl_22, bsl_42, bsl_63, bsl_90, newSlice_X wf]; first | (refine dec_split (Q := Q_) (fun hp_ => ?_) (fun hp_ => ?_) <;> first | (exfalso; omega) | (refine hQ_ _ _ ?_; clear hQ_ Q_)) | (refine dec_splitn (Q := Q_) (fun hp_ => ?_) (fun hp_ => ?_) <;> first | (exfalso; omega) | (refine hQ_ _ _ ?_; clear hQ_ Q_)) | (refine hQ_ _ _ ?_; clear hQ_ Q_)))
  | (refine WC_cond fun K_ hK_ => ?_; simp (disch := omega) only [evT_tmp, upd_apply, WB_some, ↓reduceIte, reduceCtorEq, Nat.reduceEqDiff, Nat.reduceLT]; refine hK_ _ ?_; clear hK_ K_)))
      (repeat' (first
  | (with_reducible first | refine WC_seq ?_ | refine WC_skip ?_ | refine WC_label ?_ | refine WC_scope ?_ | refine WC_block ?_ | refine WC_ret ?_ | refine WC_exit ?_ | refine seqQ_norm ?_ | refine seqQ_ret ?_ | refine seqQ_exit ?_ | refine blkQ_norm ?_ | refine blkQ_ret ?_ | refine blkQ_here ?_ | refine gateK_yes ?_ | refine gateK_none ?_ | refine condK_tt ?_ | refine condK_ff ?_ | refine roundQ_exit ?_ | refine roundQ_ret ?_)
  | refine WC_region ?_ | refine blkQ_out rfl ?_ | refine WO_nil ?_ | refine WD_nil ?_
  | ((first | refine WD_gate rfl rfl rfl rfl rfl fun K_ hK_ => ?_ | refine WO_gate rfl rfl rfl rfl rfl fun K_ hK_ => ?_); simp only [upd_apply, asB_bool, asB_tup, ↓reduceIte, reduceCtorEq, Nat.reduceEqDiff, Bool.not_true, Bool.not_false]; refine hK_ _ ?_; clear hK_ K_)
  | refine gateK_no (by decide) ?_
  | ((try first | refine WO_op rfl rfl rfl ?_ | refine WO_op0 rfl rfl ?_ | refine WD_op rfl rfl rfl ?_ | refine WD_op0 rfl rfl ?_); (refine WV_gen fun Q_ hQ_ => ?_; simp (disch := first | omega | (simp only [List.length_cons, List.length_nil, List.length_append]; omega)) only [bb, bp, argF, ↓reduceIte, reduceCtorEq, Nat.reduceEqDiff, Nat.reduceLT, Nat.reduceLeDiff, Nat.reduceAdd, Nat.reduceMul, Nat.reduceSub, Nat.reduceBEq, Int.reduceToNat, cond_true, cond_false, eq_self, beq_self_eq_true, hl, f1, f2, g0, g3, g4, g5, hl7b, fv1, fv2, fw1, fw2, happ, hrz, hsl, ni_63, tEvZ16, bsl_22, bsl_42, bsl_63, bsl_90, newSlice_X wf]; first | (refine dec_split (Q := Q_) (fun hp_ => ?_) (fun hp_ => ?_) <;> first | (exfalso; omega) | (refine hQ_ _ _ ?_; clear hQ_ Q_)) | (refine dec_splitn (Q := Q_) (fun hp_ => ?_) (fun hp_ => ?_) <;> first | (exfalso; omega) | (refine hQ_ _ _ ?_; clear hQ_ Q_)) | (refine hQ_ _ _ ?_; clear hQ_ Q_)))
  | (refine WC_cond fun K_ hK_ => ?_; simp (disch := omega) only [evT_tmp, upd_apply, WB_some, ↓reduceIte, reduceCtorEq, Nat.reduceEqDiff, Nat.reduceLT]; refine hK_ _ ?_; clear hK_ K_)))
      have hM2'' : M'[2]? = some (.cells (mkCells (rg T2 L2)) 59) := hM2'
      rw [List.length_append, hsl] at hlen' hat'
      refine roundQ_again (r + 1) (by omega) ⟨by omega, by simp only [upd_apply, ↓reduceIte, reduceCtorEq, Nat.reduceEqDiff]; exact g0, by simp only [upd_apply, ↓reduceIte, reduceCtorEq, Nat.reduceEqDiff]; exact g3, by simp only [upd_apply, ↓reduceIte, reduceCtorEq, Nat.reduceEqDiff]; exact g5, rfl, l ++ [⟨T, L, (r : Int)⟩], T2, L2, _, v', M', w', _, by simp only [upd_apply, ↓reduceIte, reduceCtorEq, Nat.reduceEqDiff], hch2, hat', by omega, by simp only [List.length_cons, List.length_nil]; omega, hM0', hM2'', rfl, by omega, ?_⟩
      simp only [List.length_cons, List.length_nil] at hlen'
      omega
  · exact ⟨Nat.zero_le _, rfl, rfl, rfl, rfl, [⟨0, 0, -1⟩], 0, 0, [], _, _, _, 1, rfl, .nil, ⟨some 1, rfl, rfl, .inr rfl⟩, by decide, by decide, rfl, rfl, rfl, by omega, by show _ ≤ h.clock + 3; omega⟩
end Go.Proofs.Ytmincoafjnnkpaa
end

/- EvZ13 -/
section
/-
  LAYER 5: the statement about registers that run on.
-/
namespace Go.Proofs.Ytmincoafjnnkpaa
open Go.Ev
set_option maxRecDepth 100000
set_option linter.unusedSimpArgs false
set_option linter.unusedVariables false
set_option maxHeartbeats 2000000
theorem tEvZ13 : type_of% (And.intro (And.intro (And.intro (And.intro (And.intro (And.intro (And.intro (@bs_33) (@bs_34)) (And.intro (@bs_57) (@bs_59))) (And.intro (And.intro (@bs_67) (@bs_78)) (And.intro (@ia_2) (And.intro (@ia_3) (@ia_4))))) (And.intro (And.intro (And.intro (@ia_5) (@ia_22)) (And.intro (@ia_24) (@ia_25))) (And.intro (And.intro (@ia_33) (@ia_34)) (And.intro (@ia_42) (And.intro (@ia_55) (@ia_57)))))) (And.intro (And.intro (And.intro (And.intro (@ia_59) (@ia_63)) (And.intro (@ia_67) (@ia_74))) (And.intro (And.intro (@ia_78) (@ia_85)) (And.intro (@ia_87) (And.intro (@ia_90) (@sz_2))))) (And.intro (And.intro (And.intro (@sz_3) (@sz_4)) (And.intro (@sz_5) (And.intro (@sz_22) (@sz_24)))) (And.intro (And.intro (@sz_25) (@sz_33)) (And.intro (@sz_34) (And.intro (@sz_42) (@sz_55))))))) (And.intro (And.intro (And.intro (And.intro (And.intro (@sz_57) (@sz_59)) (And.intro (@sz_63) (@sz_67))) (And.intro (And.intro (@sz_74) (@sz_78)) (And.intro (@sz_85) (And.intro (@sz_87) (@sz_90))))) (And.intro (And.intro (And.intro (@ze_2) (@ze_3)) (And.intro (@ze_4) (And.intro (@ze_5) (@ze_22)))) (And.intro (And.intro (@ze_24) (@ze_33)) (And.intro (@ze_34) (And.intro (@ze_42) (@ze_55)))))) (And.intro (And.intro (And.intro (And.intro (@ze_57) (@ze_59)) (And.intro (@ze_63) (@ze_67))) (And.intro (And.intro (@ze_74) (@ze_78)) (And.intro (@ze_85) (And.intro (@ze_87) (@ze_90))))) (And.intro (And.intro (And.intro (@fo_33_0) (@fo_33_1)) (And.intro (@fo_34_0) (And.intro (@fo_34_1) (@fo_59_0)))) (And.intro (And.intro (@fo_59_1) (@fo_67_0)) (And.intro (@fo_67_1) (And.intro (@fo_78_0) (@pb_15)))))))) (And.intro (And.intro (And.intro (And.intro (And.intro (And.intro (@pb_16) (@pb_17)) (And.intro (@pb_18) (@pb_19))) (And.intro (And.intro (@pb_20) (@pb_21)) (And.intro (@pb_22) (And.intro (@pb_23) (@pb_24))))) (And.intro (And.intro (And.intro (@pb_25) (@pb_26)) (And.intro (@pb_27) (@pb_28))) (And.intro (And.intro (@pb_29) (@pb_30)) (And.intro (@pb_31) (And.intro (@pb_32) (@pb_33)))))) (And.intro (And.intro (And.intro (And.intro (@pb_34) (@pb_35)) (And.intro (@pb_36) (@pb_37))) (And.intro (And.intro (@pb_38) (@pb_39)) (And.intro (@pb_40) (And.intro (@pb_41) (@pb_42))))) (And.intro (And.intro (And.intro (@pb_43) (@pb_44)) (And.intro (@pb_45) (And.intro (@pb_46) (@pb_47)))) (And.intro (And.intro (@pb_48) (@pb_49)) (And.intro (@pb_50) (And.intro (@pb_51) (@pb_52))))))) (And.intro (And.intro (And.intro (And.intro (And.intro (@pb_53) (@pb_54)) (And.intro (@pb_55) (@pb_56))) (And.intro (And.intro (@pb_57) (@pb_58)) (And.intro (@pb_59) (And.intro (@pb_60) (@pb_61))))) (And.intro (And.intro (And.intro (@pb_62) (@pb_63)) (And.intro (@pb_64) (And.intro (@pb_65) (@pb_66)))) (And.intro (And.intro (@pb_67) (@pb_68)) (And.intro (@pb_69) (And.intro (@pb_70) (@pb_71)))))) (And.intro (And.intro (And.intro (And.intro (@pb_72) (@pb_73)) (And.intro (@pb_74) (@pb_75))) (And.intro (And.intro (@pb_76) (@pb_77)) (And.intro (@pb_78) (And.intro (@pb_79) (@pb_80))))) (And.intro (And.intro (And.intro (@pb_81) (@pb_82)) (And.intro (@ik_22) (And.intro (@ik_42) (@ik_57)))) (And.intro (And.intro (@ik_63) (@ik_90)) (And.intro (@ni_22) (And.intro (@ni_42) (@ni_63))))))))) := And.intro (And.intro (And.intro (And.intro (And.intro (And.intro (And.intro (@bs_33) (@bs_34)) (And.intro (@bs_57) (@bs_59))) (And.intro (And.intro (@bs_67) (@bs_78)) (And.intro (@ia_2) (And.intro (@ia_3) (@ia_4))))) (And.intro (And.intro (And.intro (@ia_5) (@ia_22)) (And.intro (@ia_24) (@ia_25))) (And.intro (And.intro (@ia_33) (@ia_34)) (And.intro (@ia_42) (And.intro (@ia_55) (@ia_57)))))) (And.intro (And.intro (And.intro (And.intro (@ia_59) (@ia_63)) (And.intro (@ia_67) (@ia_74))) (And.intro (And.intro (@ia_78) (@ia_85)) (And.intro (@ia_87) (And.intro (@ia_90) (@sz_2))))) (And.intro (And.intro (And.intro (@sz_3) (@sz_4)) (And.intro (@sz_5) (And.intro (@sz_22) (@sz_24)))) (And.intro (And.intro (@sz_25) (@sz_33)) (And.intro (@sz_34) (And.intro (@sz_42) (@sz_55))))))) (And.intro (And.intro (And.intro (And.intro (And.intro (@sz_57) (@sz_59)) (And.intro (@sz_63) (@sz_67))) (And.intro (And.intro (@sz_74) (@sz_78)) (And.intro (@sz_85) (And.intro (@sz_87) (@sz_90))))) (And.intro (And.intro (And.intro (@ze_2) (@ze_3)) (And.intro (@ze_4) (And.intro (@ze_5) (@ze_22)))) (And.intro (And.intro (@ze_24) (@ze_33)) (And.intro (@ze_34) (And.intro (@ze_42) (@ze_55)))))) (And.intro (And.intro (And.intro (And.intro (@ze_57) (@ze_59)) (And.intro (@ze_63) (@ze_67))) (And.intro (And.intro (@ze_74) (@ze_78)) (And.intro (@ze_85) (And.intro (@ze_87) (@ze_90))))) (And.intro (And.intro (And.intro (@fo_33_0) (@fo_33_1)) (And.intro (@fo_34_0) (And.intro (@fo_34_1) (@fo_59_0)))) (And.intro (And.intro (@fo_59_1) (@fo_67_0)) (And.intro (@fo_67_1) (And.intro (@fo_78_0) (@pb_15)))))))) (And.intro (And.intro (And.intro (And.intro (And.intro (And.intro (@pb_16) (@pb_17)) (And.intro (@pb_18) (@pb_19))) (And.intro (And.intro (@pb_20) (@pb_21)) (And.intro (@pb_22) (And.intro (@pb_23) (@pb_24))))) (And.intro (And.intro (And.intro (@pb_25) (@pb_26)) (And.intro (@pb_27) (@pb_28))) (And.intro (And.intro (@pb_29) (@pb_30)) (And.intro (@pb_31) (And.intro (@pb_32) (@pb_33)))))) (And.intro (And.intro (And.intro (And.intro (@pb_34) (@pb_35)) (And.intro (@pb_36) (@pb_37))) (And.intro (And.intro (@pb_38) (@pb_39)) (And.intro (@pb_40) (And.intro (@pb_41) (@pb_42))))) (And.intro (And.intro (And.intro (@pb_43) (@pb_44)) (And.intro (@pb_45) (And.intro (@pb_46) (@pb_47)))) (And.intro (And.intro (@pb_48) (@pb_49)) (And.intro (@pb_50) (And.intro (@pb_51) (@pb_52))))))) (And.intro (And.intro (And.intro (And.intro (And.intro (@pb_53) (@pb_54)) (And.intro (@pb_55) (@pb_56))) (And.intro (And.intro (@pb_57) (@pb_58)) (And.intro (@pb_59) (And.intro (@pb_60) (@pb_61))))) (And.intro (And.intro (And.intro (@pb_62) (@pb_63)) (And.intro (@pb_64) (And.intro (@pb_65) (@pb_66)))) (And.intro (And.intro (@pb_67) (@pb_68)) (And.intro (@pb_69) (And.intro (@pb_70) (@pb_71)))))) (And.intro (And.intro (And.intro (And.intro (@pb_72) (@pb_73)) (And.intro (@pb_74) (@pb_75))) (And.intro (And.intro (@pb_76) (@pb_77)) (And.intro (@pb_78) (And.intro (@pb_79) (@pb_80))))) (And.intro (And.intro (And.intro (@pb_81) (@pb_82)) (And.intro (@ik_22) (And.intro (@ik_42) (@ik_57)))) (And.intro (And.intro (@ik_63) (@ik_90)) (And.intro (@ni_22) (And.intro (@ni_42) (@ni_63))))))))
theorem runErr (xs ys : List Int) (many : Int) (a b : AV) (h : H) (wf : Wf h) (hs : Sl h a 1 xs.length (xs.map ii)) (ht : Sl h b 1 ys.length (ys.map ii)) (hne : errRun xs ys many ≠ 0) : (om Try.prog KK).call (.fn 16 [a, b, ii many]) h = .ok (.tup [.nils, ii (errRun xs ys many)]) h := by
  obtain ⟨f1, f2⟩ := sl_flat ht
  have cst : ∀ (l : List AO) (w : Nat), w ≤ h.clock + l.length → (om Try.prog KK).call (.fn 41 [a, b]) (X h l w) = .ok (ii (err3 xs ys)) (X h l w) := fun l w hw => checkStart xs ys a b _ (wf.X hw) (hs.up wf l w) (ht.up wf l w)
  unfold errRun at *
  refine WV_to (WV_call (fn := Try.f16) Try.func16 rfl rfl rfl rfl rfl ?_)
  simp only [argF]
  by_cases he : err3 xs ys = 0
  · rw [if_pos he] at hne ⊢
    rw [he] at cst
    by_cases h0 : many < 0
    · rw [if_pos h0]
      (repeat' (first
  | (with_reducible first | refine WC_seq ?_ | refine WC_skip ?_ | refine WC_label ?_ | refine WC_scope ?_ | refine WC_block ?_ | refine WC_ret ?_ | refine WC_exit ?_ | refine seqQ_norm ?_ | refine seqQ_ret ?_ | refine seqQ_exit ?_ | refine blkQ_norm ?_ | refine blkQ_ret ?_ | refine blkQ_here ?_ | refine gateK_yes ?_ | refine gateK_none ?_ | refine condK_tt ?_ | refine condK_ff ?_ | refine roundQ_exit ?_ | refine roundQ_ret ?_)
  | refine WC_region ?_ | refine blkQ_out rfl ?_ | refine WO_nil ?_ | refine WD_nil ?_
  | ((first | refine WD_gate rfl rfl rfl rfl rfl fun K_ hK_ => ?_ | refine WO_gate rfl rfl rfl rfl rfl fun K_ hK_ => ?_); simp only [upd_apply, asB_bool, asB_tup, ↓reduceIte, reduceCtorEq, Nat.reduceEqDiff, Bool.not_true, Bool.not_false]; refine hK_ _ ?_; clear hK_ K_)
  | refine gateK_no (by decide) ?_
  | ((try first | refine WO_op rfl rfl rfl ?_ | refine WO_op0 rfl rfl ?_ | refine WD_op rfl rfl rfl ?_ | refine WD_op0 rfl rfl ?_); (refine WV_gen fun Q_ hQ_ => ?_; simp (disch := first | omega | (simp only [List.length_cons, List.length_nil, List.length_append]; omega)) only [bb, bp, argF, ↓reduceIte, reduceCtorEq, Nat.reduceEqDiff, Nat.reduceLT, Nat.reduceLeDiff, Nat.reduceAdd, Nat.reduceMul, Nat.reduceSub, Nat.reduceBEq, Int.reduceToNat, cond_true, cond_false, eq_self, beq_self_eq_true, f1, f2, newPtr_X wf, load1_X wf, loadAgg_X wf, store1_X wf, writeCells_X wf, makeFunc_def, tEvZ13, bsl_22, bsl_42, bsl_63, bsl_90, newSlice_X wf]; first | (refine dec_split (Q := Q_) (fun hp_ => ?_) (fun hp_ => ?_) <;> first | (exfalso; omega) | (refine hQ_ _ _ ?_; clear hQ_ Q_)) | (refine dec_splitn (Q := Q_) (fun hp_ => ?_) (fun hp_ => ?_) <;> first | (exfalso; omega) | (refine hQ_ _ _ ?_; clear hQ_ Q_)) | (refine hQ_ _ _ ?_; clear hQ_ Q_) | (refine WV_eq (cst _ _ (by first | omega | (simp only [List.length_append, List.length_cons, List.length_nil]; omega))) ?_; refine hQ_ _ _ ?_; clear hQ_ Q_)))
  | (refine WC_cond fun K_ hK_ => ?_; simp (disch := omega) only [evT_tmp, upd_apply, WB_some, ↓reduceIte, reduceCtorEq, Nat.reduceEqDiff, Nat.reduceLT]; refine hK_ _ ?_; clear hK_ K_)))
      all_goals (refine endQ_ret _ _ rfl (ret2 (by decide) (by decide)) ?_; simp only [upd_apply, ↓reduceIte, reduceCtorEq, Nat.reduceEqDiff]; refine WV_flat rfl (by omega) ?_)
      all_goals exact ⟨rfl, rfl⟩
    · rw [if_neg h0] at hne ⊢
      by_cases h1 : 4096 < many
      · rw [if_pos h1]
        (repeat' (first
  | (with_reducible first | refine WC_seq ?_ | refine WC_skip ?_ | refine WC_label ?_ | refine WC_scope ?_ | refine WC_block ?_ | refine WC_ret ?_ | refine WC_exit ?_ | refine seqQ_norm ?_ | refine seqQ_ret ?_ | refine seqQ_exit ?_ | refine blkQ_norm ?_ | refine blkQ_ret ?_ | refine blkQ_here ?_ | refine gateK_yes ?_ | refine gateK_none ?_ | refine condK_tt ?_ | refine condK_ff ?_ | refine roundQ_exit ?_ | refine roundQ_ret ?_)
  | refine WC_region ?_ | refine blkQ_out rfl ?_ | refine WO_nil ?_ | refine WD_nil ?_
  | ((first | refine WD_gate rfl rfl rfl rfl rfl fun K_ hK_ => ?_ | refine WO_gate rfl rfl rfl rfl rfl fun K_ hK_ => ?_); simp only [upd_apply, asB_bool, asB_tup, ↓reduceIte, reduceCtorEq, Nat.reduceEqDiff, Bool.not_true, Bool.not_false]; refine hK_ _ ?_; clear hK_ K_)
  | refine gateK_no (by decide) ?_
  | ((try first | refine WO_op rfl rfl rfl ?_ | refine WO_op0 rfl rfl ?_ | refine WD_op rfl rfl rfl ?_ | refine WD_op0 rfl rfl ?_); (refine WV_gen fun Q_ hQ_ => ?_; simp (disch := first | omega | (simp only [List.length_cons, List.length_nil, List.length_append]; omega)) only [bb, bp, argF, ↓reduceIte, reduceCtorEq, Nat.reduceEqDiff, Nat.reduceLT, Nat.reduceLeDiff, Nat.reduceAdd, Nat.reduceMul, Nat.reduceSub, Nat.reduceBEq, Int.reduceToNat, cond_true, cond_false, eq_self, beq_self_eq_true, f1, f2, newPtr_X wf, load1_X wf, loadAgg_X wf, store1_X wf, writeCells_X wf, makeFunc_def, tEvZ13, bsl_22, bsl_42, bsl_63, bsl_90, newSlice_X wf]; first | (refine dec_split (Q := Q_) (fun hp_ => ?_) (fun hp_ => ?_) <;> first | (exfalso; omega) | (refine hQ_ _ _ ?_; clear hQ_ Q_)) | (refine dec_splitn (Q := Q_) (fun hp_ => ?_) (fun hp_ => ?_) <;> first | (exfalso; omega) | (refine hQ_ _ _ ?_; clear hQ_ Q_)) | (refine hQ_ _ _ ?_; clear hQ_ Q_) | (refine WV_eq (cst _ _ (by first | omega | (simp only [List.length_append, List.length_cons, List.length_nil]; omega))) ?_; refine hQ_ _ _ ?_; clear hQ_ Q_)))
  | (refine WC_cond fun K_ hK_ => ?_; simp (disch := omega) only [evT_tmp, upd_apply, WB_some, ↓reduceIte, reduceCtorEq, Nat.reduceEqDiff, Nat.reduceLT]; refine hK_ _ ?_; clear hK_ K_)))
        all_goals (refine endQ_ret _ _ rfl (ret2 (by decide) (by decide)) ?_; simp only [upd_apply, ↓reduceIte, reduceCtorEq, Nat.reduceEqDiff]; refine WV_flat rfl (by omega) ?_)
        all_goals exact ⟨rfl, rfl⟩
      · rw [if_neg h1] at hne
        exact absurd rfl hne
  · rw [if_neg he]
    generalize err3 xs ys = e at *
    (repeat' (first
  | (with_reducible first | refine WC_seq ?_ | refine WC_skip ?_ | refine WC_label ?_ | refine WC_scope ?_ | refine WC_block ?_ | refine WC_ret ?_ | refine WC_exit ?_ | refine seqQ_norm ?_ | refine seqQ_ret ?_ | refine seqQ_exit ?_ | refine blkQ_norm ?_ | refine blkQ_ret ?_ | refine blkQ_here ?_ | refine gateK_yes ?_ | refine gateK_none ?_ | refine condK_tt ?_ | refine condK_ff ?_ | refine roundQ_exit ?_ | refine roundQ_ret ?_)
  | refine WC_region ?_ | refine blkQ_out rfl ?_ | refine WO_nil ?_ | refine WD_nil ?_
  | ((first | refine WD_gate rfl rfl rfl rfl rfl fun K_ hK_ => ?_ | refine WO_gate rfl rfl rfl rfl rfl fun K_ hK_ => ?_); simp only [upd_apply, asB_bool, asB_tup, ↓reduceIte, reduceCtorEq, Nat.reduceEqDiff, Bool.not_true, Bool.not_false]; refine hK_ _ ?_; clear hK_ K_)
  | refine gateK_no (by decide) ?_
  | ((try first | refine WO_op rfl rfl rfl ?_ | refine WO_op0 rfl rfl ?_ | refine WD_op rfl rfl rfl ?_ | refine WD_op0 rfl rfl ?_); (refine WV_gen fun Q_ hQ_ => ?_; simp (disch := first | omega | (simp only [List.length_cons, List.length_nil, List.length_append]; omega)) only [bb, bp, argF, ↓reduceIte, reduceCtorEq, Nat.reduceEqDiff, Nat.reduceLT, Nat.reduceLeDiff, Nat.reduceAdd, Nat.reduceMul, Nat.reduceSub, Nat.reduceBEq, Int.reduceToNat, cond_true, cond_false, eq_self, beq_self_eq_true, f1, f2, newPtr_X wf, load1_X wf, loadAgg_X wf, store1_X wf, writeCells_X wf, makeFunc_def, tEvZ13, bsl_22, bsl_42, bsl_63, bsl_90, newSlice_X wf]; first | (refine dec_split (Q := Q_) (fun hp_ => ?_) (fun hp_ => ?_) <;> first | (exfalso; omega) | (refine hQ_ _ _ ?_; clear hQ_ Q_)) | (refine dec_splitn (Q := Q_) (fun hp_ => ?_) (fun hp_ => ?_) <;> first | (exfalso; omega) | (refine hQ_ _ _ ?_; clear hQ_ Q_)) | (refine hQ_ _ _ ?_; clear hQ_ Q_) | (refine WV_eq (cst _ _ (by first | omega | (simp only [List.length_append, List.length_cons, List.length_nil]; omega))) ?_; refine hQ_ _ _ ?_; clear hQ_ Q_)))
  | (refine WC_cond fun K_ hK_ => ?_; simp (disch := omega) only [evT_tmp, upd_apply, WB_some, ↓reduceIte, reduceCtorEq, Nat.reduceEqDiff, Nat.reduceLT]; refine hK_ _ ?_; clear hK_ K_)))
    all_goals (refine endQ_ret _ _ rfl (ret2 (by decide) (by decide)) ?_; simp only [upd_apply, ↓reduceIte, reduceCtorEq, Nat.reduceEqDiff]; refine WV_flat rfl (by omega) ?_)
    all_goals exact ⟨rfl, rfl⟩
/-- What is made, as numbers; nothing if there is an error. -/
def madeI (xs ys : List Int) (many : Int) : List Int := if errRun xs ys many = 0 then (mL (runS (bN (bitL xs)) (bitL xs).length (sq (bitL ys))) many.toNat).map (fun b => ((b.toNat : Nat) : Int)) else []
theorem map_bi (bs : List Bool) : (bs.map fun b => ((b.toNat : Nat) : Int)).map ii = bs.map bi := by rw [List.map_map]; rfl
theorem run_any (xs ys : List Int) (many : Int) (a b : AV) (hcb : CapU 1 b) (h : H) (wf : Wf h) (hs : Sl h a 1 xs.length (xs.map ii)) (ht : Sl h b 1 ys.length (ys.map ii)) :
    ∃ v L, Sl (X h L h.w) v 1 (madeI xs ys many).length ((madeI xs ys many).map ii) ∧ (om Try.prog KK).call (.fn 16 [a, b, ii many]) h = .ok (.tup [v, ii (errRun xs ys many)]) (X h L h.w) := by
  by_cases hne : errRun xs ys many = 0
  · have h3 : err3 xs ys = 0 := by
      unfold errRun at hne
      split at hne
      · assumption
      · contradiction
    have hm : ¬ many < 0 ∧ ¬ 4096 < many := by
      unfold errRun at hne
      rw [if_pos h3] at hne
      split at hne
      · contradiction
      · split at hne
        · contradiction
        · exact ⟨by assumption, by assumption⟩
    obtain ⟨⟨k1, k2⟩, k3, k4⟩ := err3_ok h3
    have hs' : Sl h a 1 (bitL xs).length ((bitL xs).map bi) := by rw [bitL_length, ← bitL_map k2]; exact hs
    have ht' : Sl h b 1 (bitL ys).length ((bitL ys).map bi) := by rw [bitL_length, ← bitL_map k3]; exact ht
    obtain ⟨L, hL, e⟩ := runOK (bitL xs) (bitL ys) (by rw [bitL_length]; exact k1) (by rw [bitL_length, bitL_length]; exact k4) many.toNat (by omega) a b h wf hs' ht' hcb xs ys (bitL_length xs).symm (bitL_map k2) (bitL_length ys).symm (bitL_map k3) h3
    rw [show ((many.toNat : Nat) : Int) = many from by omega] at e
    refine ⟨_, L, ?_, by rw [hne]; exact e⟩
    unfold madeI
    rw [if_pos hne, map_bi, List.length_map, mL_length]
    exact Sl.new wf (by rw [List.length_map, mL_length, Nat.mul_one]) hL
  · refine ⟨.nils, [], ?_, by rw [X_self]; exact runErr xs ys many a b h wf hs ht hne⟩
    unfold madeI
    rw [if_neg hne]
    exact Sl.nil _ _
end Go.Proofs.Ytmincoafjnnkpaa
end

/- EvZ17 -/
section
/-
  LAYER 5: Shortest.
-/
namespace Go.Proofs.Ytmincoafjnnkpaa
open Go.Ev
set_option maxRecDepth 100000
set_option linter.unusedSimpArgs false
set_option linter.unusedVariables false
set_option maxHeartbeats 2000000
theorem tEvZ17 : type_of% (And.intro (And.intro (And.intro (And.intro (And.intro (And.intro (And.intro (@bs_33) (@bs_34)) (And.intro (@bs_57) (@bs_59))) (And.intro (And.intro (@bs_67) (@bs_78)) (And.intro (@ia_2) (And.intro (@ia_3) (@ia_4))))) (And.intro (And.intro (And.intro (@ia_5) (@ia_22)) (And.intro (@ia_24) (@ia_25))) (And.intro (And.intro (@ia_33) (@ia_34)) (And.intro (@ia_42) (And.intro (@ia_55) (@ia_57)))))) (And.intro (And.intro (And.intro (And.intro (@ia_59) (@ia_63)) (And.intro (@ia_67) (@ia_74))) (And.intro (And.intro (@ia_78) (@ia_85)) (And.intro (@ia_87) (And.intro (@ia_90) (@sz_2))))) (And.intro (And.intro (And.intro (@sz_3) (@sz_4)) (And.intro (@sz_5) (And.intro (@sz_22) (@sz_24)))) (And.intro (And.intro (@sz_25) (@sz_33)) (And.intro (@sz_34) (And.intro (@sz_42) (@sz_55))))))) (And.intro (And.intro (And.intro (And.intro (And.intro (@sz_57) (@sz_59)) (And.intro (@sz_63) (@sz_67))) (And.intro (And.intro (@sz_74) (@sz_78)) (And.intro (@sz_85) (And.intro (@sz_87) (@sz_90))))) (And.intro (And.intro (And.intro (@ze_2) (@ze_3)) (And.intro (@ze_4) (And.intro (@ze_5) (@ze_22)))) (And.intro (And.intro (@ze_24) (@ze_33)) (And.intro (@ze_34) (And.intro (@ze_42) (@ze_55)))))) (And.intro (And.intro (And.intro (And.intro (@ze_57) (@ze_59)) (And.intro (@ze_63) (@ze_67))) (And.intro (And.intro (@ze_74) (@ze_78)) (And.intro (@ze_85) (And.intro (@ze_87) (@ze_90))))) (And.intro (And.intro (And.intro (@fo_33_0) (@fo_33_1)) (And.intro (@fo_34_0) (And.intro (@fo_34_1) (@fo_59_0)))) (And.intro (And.intro (@fo_59_1) (@fo_67_0)) (And.intro (@fo_67_1) (And.intro (@fo_78_0) (@pb_15)))))))) (And.intro (And.intro (And.intro (And.intro (And.intro (And.intro (@pb_16) (@pb_17)) (And.intro (@pb_18) (@pb_19))) (And.intro (And.intro (@pb_20) (@pb_21)) (And.intro (@pb_22) (And.intro (@pb_23) (@pb_24))))) (And.intro (And.intro (And.intro (@pb_25) (@pb_26)) (And.intro (@pb_27) (@pb_28))) (And.intro (And.intro (@pb_29) (@pb_30)) (And.intro (@pb_31) (And.intro (@pb_32) (@pb_33)))))) (And.intro (And.intro (And.intro (And.intro (@pb_34) (@pb_35)) (And.intro (@pb_36) (@pb_37))) (And.intro (And.intro (@pb_38) (@pb_39)) (And.intro (@pb_40) (And.intro (@pb_41) (@pb_42))))) (And.intro (And.intro (And.intro (@pb_43) (@pb_44)) (And.intro (@pb_45) (And.intro (@pb_46) (@pb_47)))) (And.intro (And.intro (@pb_48) (@pb_49)) (And.intro (@pb_50) (And.intro (@pb_51) (@pb_52))))))) (And.intro (And.intro (And.intro (And.intro (And.intro (@pb_53) (@pb_54)) (And.intro (@pb_55) (@pb_56))) (And.intro (And.intro (@pb_57) (@pb_58)) (And.intro (@pb_59) (And.intro (@pb_60) (@pb_61))))) (And.intro (And.intro (And.intro (@pb_62) (@pb_63)) (And.intro (@pb_64) (And.intro (@pb_65) (@pb_66)))) (And.intro (And.intro (@pb_67) (@pb_68)) (And.intro (@pb_69) (And.intro (@pb_70) (@pb_71)))))) (And.intro (And.intro (And.intro (And.intro (@pb_72) (@pb_73)) (And.intro (@pb_74) (@pb_75))) (And.intro (And.intro (@pb_76) (@pb_77)) (And.intro (@pb_78) (And.intro (@pb_79) (@pb_80))))) (And.intro (And.intro (And.intro (@pb_81) (@pb_82)) (And.intro (@ik_22) (And.intro (@ik_42) (@ik_57)))) (And.intro (And.intro (@ik_63) (@ik_90)) (And.intro (@ni_22) (And.intro (@ni_42) (@ni_63))))))))) := And.intro (And.intro (And.intro (And.intro (And.intro (And.intro (And.intro (@bs_33) (@bs_34)) (And.intro (@bs_57) (@bs_59))) (And.intro (And.intro (@bs_67) (@bs_78)) (And.intro (@ia_2) (And.intro (@ia_3) (@ia_4))))) (And.intro (And.intro (And.intro (@ia_5) (@ia_22)) (And.intro (@ia_24) (@ia_25))) (And.intro (And.intro (@ia_33) (@ia_34)) (And.intro (@ia_42) (And.intro (@ia_55) (@ia_57)))))) (And.intro (And.intro (And.intro (And.intro (@ia_59) (@ia_63)) (And.intro (@ia_67) (@ia_74))) (And.intro (And.intro (@ia_78) (@ia_85)) (And.intro (@ia_87) (And.intro (@ia_90) (@sz_2))))) (And.intro (And.intro (And.intro (@sz_3) (@sz_4)) (And.intro (@sz_5) (And.intro (@sz_22) (@sz_24)))) (And.intro (And.intro (@sz_25) (@sz_33)) (And.intro (@sz_34) (And.intro (@sz_42) (@sz_55))))))) (And.intro (And.intro (And.intro (And.intro (And.intro (@sz_57) (@sz_59)) (And.intro (@sz_63) (@sz_67))) (And.intro (And.intro (@sz_74) (@sz_78)) (And.intro (@sz_85) (And.intro (@sz_87) (@sz_90))))) (And.intro (And.intro (And.intro (@ze_2) (@ze_3)) (And.intro (@ze_4) (And.intro (@ze_5) (@ze_22)))) (And.intro (And.intro (@ze_24) (@ze_33)) (And.intro (@ze_34) (And.intro (@ze_42) (@ze_55)))))) (And.intro (And.intro (And.intro (And.intro (@ze_57) (@ze_59)) (And.intro (@ze_63) (@ze_67))) (And.intro (And.intro (@ze_74) (@ze_78)) (And.intro (@ze_85) (And.intro (@ze_87) (@ze_90))))) (And.intro (And.intro (And.intro (@fo_33_0) (@fo_33_1)) (And.intro (@fo_34_0) (And.intro (@fo_34_1) (@fo_59_0)))) (And.intro (And.intro (@fo_59_1) (@fo_67_0)) (And.intro (@fo_67_1) (And.intro (@fo_78_0) (@pb_15)))))))) (And.intro (And.intro (And.intro (And.intro (And.intro (And.intro (@pb_16) (@pb_17)) (And.intro (@pb_18) (@pb_19))) (And.intro (And.intro (@pb_20) (@pb_21)) (And.intro (@pb_22) (And.intro (@pb_23) (@pb_24))))) (And.intro (And.intro (And.intro (@pb_25) (@pb_26)) (And.intro (@pb_27) (@pb_28))) (And.intro (And.intro (@pb_29) (@pb_30)) (And.intro (@pb_31) (And.intro (@pb_32) (@pb_33)))))) (And.intro (And.intro (And.intro (And.intro (@pb_34) (@pb_35)) (And.intro (@pb_36) (@pb_37))) (And.intro (And.intro (@pb_38) (@pb_39)) (And.intro (@pb_40) (And.intro (@pb_41) (@pb_42))))) (And.intro (And.intro (And.intro (@pb_43) (@pb_44)) (And.intro (@pb_45) (And.intro (@pb_46) (@pb_47)))) (And.intro (And.intro (@pb_48) (@pb_49)) (And.intro (@pb_50) (And.intro (@pb_51) (@pb_52))))))) (And.intro (And.intro (And.intro (And.intro (And.intro (@pb_53) (@pb_54)) (And.intro (@pb_55) (@pb_56))) (And.intro (And.intro (@pb_57) (@pb_58)) (And.intro (@pb_59) (And.intro (@pb_60) (@pb_61))))) (And.intro (And.intro (And.intro (@pb_62) (@pb_63)) (And.intro (@pb_64) (And.intro (@pb_65) (@pb_66)))) (And.intro (And.intro (@pb_67) (@pb_68)) (And.intro (@pb_69) (And.intro (@pb_70) (@pb_71)))))) (And.intro (And.intro (And.intro (And.intro (@pb_72) (@pb_73)) (And.intro (@pb_74) (@pb_75))) (And.intro (And.intro (@pb_76) (@pb_77)) (And.intro (@pb_78) (And.intro (@pb_79) (@pb_80))))) (And.intro (And.intro (And.intro (@pb_81) (@pb_82)) (And.intro (@ik_22) (And.intro (@ik_42) (@ik_57)))) (And.intro (And.intro (@ik_63) (@ik_90)) (And.intro (@ni_22) (And.intro (@ni_42) (@ni_63))))))))
theorem errB_bits {xs : List Int} (h : errB xs = 0) : xs.length ≤ 128 ∧ xs.map ii = (bitL xs).map bi := ⟨(errB_ok.1 h).1, bitL_map (errB_ok.1 h).2⟩
theorem chain_cx {s : Nat → Bool} {l : List Att} {T L p n : Nat} {prof : List Nat} (h : Chain s l T L p prof) (hp : p ≤ n) (hm : Makes T L s n) : Cpx s n L :=
  ⟨⟨T, h.facts.lt, hm⟩, fun T' L' h' => h.facts.cx.least T' L' (h'.less hp)⟩
theorem shortOK (xs : List Int) (he : errB xs = 0) (a : AV) (hc : CapU 1 a) (h : H) (wf : Wf h) (hs : Sl h a 1 xs.length (xs.map ii)) :
    ∃ T L M idx, Cpx (sq (bitL xs)) xs.length L ∧ T < 2 ^ L ∧ L ≤ xs.length ∧ Makes T L (sq (bitL xs)) xs.length ∧ M[idx]? = some (.cells (mkCells ((bitsL T L).map bi)) 3) ∧ (om Try.prog KK).call (.fn 25 [a]) h = .ok (.tup [.sl (nx h idx) 0 L (some L) 1, ii 0]) (X h M h.w) := by
  obtain ⟨hx1, hx2⟩ := errB_bits he
  have hxl := bitL_length xs
  have hs' : Sl h a 1 (bitL xs).length ((bitL xs).map bi) := by rw [bitL_length, ← hx2]; exact hs
  obtain ⟨f1, f2⟩ := sl_flat hs
  have c1 : ∀ (l : List AO) (w : Nat), w ≤ h.clock + l.length → (om Try.prog KK).call (.fn 18 [a]) (X h l w) = .ok (ii 0) (X h l w) := fun l w hw => by rw [checkBits xs a _ (wf.X hw) (hs.up wf l w), he]
  obtain ⟨l, T, L, p, prof, v, M, idx, hch, hp, hm, hat, e⟩ := seek (bitL xs) (by omega) a hc (X h [] h.clock) (wf.X (by simp)) (hs'.up wf _ _)
  rw [X_X, X_w, List.nil_append] at e
  have hf := hch.facts
  have hL : L ≤ xs.length := by have := hf.le; omega
  obtain ⟨fv1, fv2⟩ := sl_flat (hat.sl (wf.X (by simp)) h.clock)
  have c2 : ∀ (l : List AO) (w : Nat), w ≤ h.clock + l.length → (om Try.prog KK).call (.fn 50 [.agg [uu (T % 2 ^ 64), uu (T >>> 64), ii (L : Int)]]) (X h l w) = .ok (.sl (nx h (l.length + 2)) 0 L (some L) 1) (X h (l ++ [.cells (mkCells (rg T L)) 59, .cells (mkCells (wd T)) 57, .cells (mkCells ((bitsL T L).map bi)) 3]) w) := fun l w hw => regList T L (by omega) h wf l w hw
  refine ⟨T, L, M ++ [.cells (mkCells [uu (T % 2 ^ 64), uu (T >>> 64), ii (L : Int)]) 59, .cells (mkCells (rg T L)) 59, .cells (mkCells (wd T)) 57, .cells (mkCells ((bitsL T L).map bi)) 3], M.length + 3, by rw [← hxl]; exact chain_cx hch hp hm, hf.lt, hL, by rw [← hxl]; exact hm, by rw [app_len]; rfl, ?_⟩
  unfold rg at e
  refine WV_to (WV_call (fn := Try.f25) Try.func25 rfl rfl rfl rfl rfl ?_)
  simp only [argF]
  (repeat' (first
  | (with_reducible first | refine WC_seq ?_ | refine WC_skip ?_ | refine WC_label ?_ | refine WC_scope ?_ | refine WC_block ?_ | refine WC_ret ?_ | refine WC_exit ?_ | refine seqQ_norm ?_ | refine seqQ_ret ?_ | refine seqQ_exit ?_ | refine blkQ_norm ?_ | refine blkQ_ret ?_ | refine blkQ_here ?_ | refine gateK_yes ?_ | refine gateK_none ?_ | refine condK_tt ?_ | refine condK_ff ?_ | refine roundQ_exit ?_ | refine roundQ_ret ?_)
  | refine WC_region ?_ | refine blkQ_out rfl ?_ | refine WO_nil ?_ | refine WD_nil ?_
  | ((first | refine WD_gate rfl rfl rfl rfl rfl fun K_ hK_ => ?_ | refine WO_gate rfl rfl rfl rfl rfl fun K_ hK_ => ?_); simp only [upd_apply, asB_bool, asB_tup, ↓reduceIte, reduceCtorEq, Nat.reduceEqDiff, Bool.not_true, Bool.not_false]; refine hK_ _ ?_; clear hK_ K_)
  | refine gateK_no (by decide) ?_
  | ((try first | refine WO_op rfl rfl rfl ?_ | refine WO_op0 rfl rfl ?_ | refine WD_op rfl rfl rfl ?_ | refine WD_op0 rfl rfl ?_); (refine WV_gen fun Q_ hQ_ => ?_; simp (disch := first | omega | (simp only [List.length_cons, List.length_nil, List.length_append]; omega)) only [bb, bp, argF, ↓reduceIte, reduceCtorEq, Nat.reduceEqDiff, Nat.reduceLT, Nat.reduceLeDiff, Nat.reduceAdd, Nat.reduceMul, Nat.reduceSub, Nat.reduceBEq, Int.reduceToNat, cond_true, cond_false, eq_self, beq_self_eq_true, f1, f2, fv1, fv2, newPtr_X wf, load1_X wf, loadAgg_X wf, store1_X wf, writeCells_X wf, makeFunc_def, tEvZ17, bsl_22, bsl_42, bsl_63, bsl_90, newSlice_X wf]; first | (refine dec_split (Q := Q_) (fun hp_ => ?_) (fun hp_ => ?_) <;> first | (exfalso; omega) | (refine hQ_ _ _ ?_; clear hQ_ Q_)) | (refine dec_splitn (Q := Q_) (fun hp_ => ?_) (fun hp_ => ?_) <;> first | (exfalso; omega) | (refine hQ_ _ _ ?_; clear hQ_ Q_)) | (refine hQ_ _ _ ?_; clear hQ_ Q_) | (refine WV_eq (c1 _ _ (by first | omega | (simp only [List.length_append, List.length_cons, List.length_nil]; omega))) ?_; refine hQ_ _ _ ?_; clear hQ_ Q_) | (refine WV_eq (e) ?_; refine hQ_ _ _ ?_; clear hQ_ Q_) | (refine WV_eq (c2 _ _ (by first | omega | (simp only [List.length_append, List.length_cons, List.length_nil]; omega))) ?_; refine hQ_ _ _ ?_; clear hQ_ Q_)))
  | (refine WC_cond fun K_ hK_ => ?_; simp (disch := omega) only [evT_tmp, upd_apply, WB_some, ↓reduceIte, reduceCtorEq, Nat.reduceEqDiff, Nat.reduceLT]; refine hK_ _ ?_; clear hK_ K_)))
  refine endQ_ret _ _ rfl (ret2 (by decide) (by decide)) ?_
  simp only [upd_apply, ↓reduceIte, reduceCtorEq, Nat.reduceEqDiff]
  simp only [List.append_assoc, List.cons_append, List.nil_append, List.length_append, List.length_cons, List.length_nil, Nat.add_assoc, Nat.zero_add, Nat.reduceAdd]
  refine WV_keep wf (by omega) (fun hfl => absurd (show false = true from hfl) (by decide)) (fun _ => ?_)
  exact ⟨rfl, rfl⟩
/-- Taps that are told, as numbers. -/
def tapI (T L : Nat) : List Int := (bitsL T L).map (fun b => ((b.toNat : Nat) : Int))
theorem tapI_len (T L : Nat) : (tapI T L).length = L := by unfold tapI; rw [List.length_map, bitsL_length]
theorem tapI_bits (T L : Nat) : (tapI T L).map ii = (bitsL T L).map bi := map_bi _
theorem fine (xs : List Int) (a : AV) (h : H) (wf : Wf h) (hs : Sl h a 1 xs.length (xs.map ii)) : (om Try.prog KK).call (.fn 37 [a]) h = .ok (.bool (decide (errB xs = 0))) h := by
  obtain ⟨f1, f2⟩ := sl_flat hs
  have c1 : ∀ (l : List AO) (w : Nat), w ≤ h.clock + l.length → (om Try.prog KK).call (.fn 19 [a]) (X h l w) = .ok (ii (errB xs)) (X h l w) := fun l w hw => rcheckBits xs a _ (wf.X hw) (hs.up wf l w)
  generalize errB xs = e at *
  refine WV_to (WV_call (fn := Try.f37) Try.func37 rfl rfl rfl rfl rfl ?_)
  simp only [argF]
  (repeat' (first
  | (with_reducible first | refine WC_seq ?_ | refine WC_skip ?_ | refine WC_label ?_ | refine WC_scope ?_ | refine WC_block ?_ | refine WC_ret ?_ | refine WC_exit ?_ | refine seqQ_norm ?_ | refine seqQ_ret ?_ | refine seqQ_exit ?_ | refine blkQ_norm ?_ | refine blkQ_ret ?_ | refine blkQ_here ?_ | refine gateK_yes ?_ | refine gateK_none ?_ | refine condK_tt ?_ | refine condK_ff ?_ | refine roundQ_exit ?_ | refine roundQ_ret ?_)
  | refine WC_region ?_ | refine blkQ_out rfl ?_ | refine WO_nil ?_ | refine WD_nil ?_
  | ((first | refine WD_gate rfl rfl rfl rfl rfl fun K_ hK_ => ?_ | refine WO_gate rfl rfl rfl rfl rfl fun K_ hK_ => ?_); simp only [upd_apply, asB_bool, asB_tup, ↓reduceIte, reduceCtorEq, Nat.reduceEqDiff, Bool.not_true, Bool.not_false]; refine hK_ _ ?_; clear hK_ K_)
  | refine gateK_no (by decide) ?_
  | ((try first | refine WO_op rfl rfl rfl ?_ | refine WO_op0 rfl rfl ?_ | refine WD_op rfl rfl rfl ?_ | refine WD_op0 rfl rfl ?_); (refine WV_gen fun Q_ hQ_ => ?_; simp (disch := first | omega | (simp only [List.length_cons, List.length_nil, List.length_append]; omega)) only [bb, bp, argF, ↓reduceIte, reduceCtorEq, Nat.reduceEqDiff, Nat.reduceLT, Nat.reduceLeDiff, Nat.reduceAdd, Nat.reduceMul, Nat.reduceSub, Nat.reduceBEq, Int.reduceToNat, cond_true, cond_false, eq_self, beq_self_eq_true, f1, f2, newPtr_X wf, load1_X wf, loadAgg_X wf, store1_X wf, writeCells_X wf, makeFunc_def, tEvZ17, bsl_22, bsl_42, bsl_63, bsl_90, newSlice_X wf]; first | (refine dec_split (Q := Q_) (fun hp_ => ?_) (fun hp_ => ?_) <;> first | (exfalso; omega) | (refine hQ_ _ _ ?_; clear hQ_ Q_)) | (refine dec_splitn (Q := Q_) (fun hp_ => ?_) (fun hp_ => ?_) <;> first | (exfalso; omega) | (refine hQ_ _ _ ?_; clear hQ_ Q_)) | (refine hQ_ _ _ ?_; clear hQ_ Q_) | (refine WV_eq (c1 _ _ (by first | omega | (simp only [List.length_append, List.length_cons, List.length_nil]; omega))) ?_; refine hQ_ _ _ ?_; clear hQ_ Q_)))
  | (refine WC_cond fun K_ hK_ => ?_; simp (disch := omega) only [evT_tmp, upd_apply, WB_some, ↓reduceIte, reduceCtorEq, Nat.reduceEqDiff, Nat.reduceLT]; refine hK_ _ ?_; clear hK_ K_)))
  all_goals (refine endQ_ret _ _ rfl (ret1 (by decide)) ?_; simp only [upd_apply, ↓reduceIte, reduceCtorEq, Nat.reduceEqDiff]; refine WV_flat rfl (by omega) ?_)
  all_goals exact ⟨by simp [*], rfl⟩
/-- Shortest, and what it tells, at any heap: the register as a list of numbers. -/
theorem short_any (xs : List Int) (he : errB xs = 0) (a : AV) (hc : CapU 1 a) (h : H) (wf : Wf h) (hs : Sl h a 1 xs.length (xs.map ii)) :
    ∃ T L M v, Cpx (sq (bitL xs)) xs.length L ∧ T < 2 ^ L ∧ L ≤ xs.length ∧ Makes T L (sq (bitL xs)) xs.length ∧ Capd v ∧ (∀ J w, Sl (X h (M ++ J) w) v 1 (tapI T L).length ((tapI T L).map ii)) ∧ (om Try.prog KK).call (.fn 25 [a]) h = .ok (.tup [v, ii 0]) (X h M h.w) := by
  obtain ⟨T, L, M, idx, h1, h2, h3, h4, h5, e⟩ := shortOK xs he a hc h wf hs
  refine ⟨T, L, M, _, h1, h2, h3, h4, capd_sl (Nat.le_refl _), fun J w => ?_, e⟩
  rw [tapI_len, tapI_bits]
  exact Sl.new wf (by rw [List.length_map, bitsL_length, Nat.mul_one]) (by rw [List.getElem?_append_left (lt_of_get h5)]; exact h5)
end Go.Proofs.Ytmincoafjnnkpaa
end

/- EvZ18 -/
section
/-
  LAYER 5: lists added; the statement about sums.
-/
namespace Go.Proofs.Ytmincoafjnnkpaa
open Go.Ev
set_option maxRecDepth 100000
set_option linter.unusedSimpArgs false
set_option linter.unusedVariables false
set_option maxHeartbeats 2000000
theorem tEvZ18 : type_of% (And.intro (And.intro (And.intro (And.intro (And.intro (And.intro (And.intro (@bs_33) (@bs_34)) (And.intro (@bs_57) (@bs_59))) (And.intro (And.intro (@bs_67) (@bs_78)) (And.intro (@ia_2) (And.intro (@ia_3) (@ia_4))))) (And.intro (And.intro (And.intro (@ia_5) (@ia_22)) (And.intro (@ia_24) (@ia_25))) (And.intro (And.intro (@ia_33) (@ia_34)) (And.intro (@ia_42) (And.intro (@ia_55) (@ia_57)))))) (And.intro (And.intro (And.intro (And.intro (@ia_59) (@ia_63)) (And.intro (@ia_67) (@ia_74))) (And.intro (And.intro (@ia_78) (@ia_85)) (And.intro (@ia_87) (And.intro (@ia_90) (@sz_2))))) (And.intro (And.intro (And.intro (@sz_3) (@sz_4)) (And.intro (@sz_5) (And.intro (@sz_22) (@sz_24)))) (And.intro (And.intro (@sz_25) (@sz_33)) (And.intro (@sz_34) (And.intro (@sz_42) (@sz_55))))))) (And.intro (And.intro (And.intro (And.intro (And.intro (@sz_57) (@sz_59)) (And.intro (@sz_63) (@sz_67))) (And.intro (And.intro (@sz_74) (@sz_78)) (And.intro (@sz_85) (And.intro (@sz_87) (@sz_90))))) (And.intro (And.intro (And.intro (@ze_2) (@ze_3)) (And.intro (@ze_4) (And.intro (@ze_5) (@ze_22)))) (And.intro (And.intro (@ze_24) (@ze_33)) (And.intro (@ze_34) (And.intro (@ze_42) (@ze_55)))))) (And.intro (And.intro (And.intro (And.intro (@ze_57) (@ze_59)) (And.intro (@ze_63) (@ze_67))) (And.intro (And.intro (@ze_74) (@ze_78)) (And.intro (@ze_85) (And.intro (@ze_87) (@ze_90))))) (And.intro (And.intro (And.intro (@fo_33_0) (@fo_33_1)) (And.intro (@fo_34_0) (And.intro (@fo_34_1) (@fo_59_0)))) (And.intro (And.intro (@fo_59_1) (@fo_67_0)) (And.intro (@fo_67_1) (And.intro (@fo_78_0) (@pb_15)))))))) (And.intro (And.intro (And.intro (And.intro (And.intro (And.intro (@pb_16) (@pb_17)) (And.intro (@pb_18) (@pb_19))) (And.intro (And.intro (@pb_20) (@pb_21)) (And.intro (@pb_22) (And.intro (@pb_23) (@pb_24))))) (And.intro (And.intro (And.intro (@pb_25) (@pb_26)) (And.intro (@pb_27) (@pb_28))) (And.intro (And.intro (@pb_29) (@pb_30)) (And.intro (@pb_31) (And.intro (@pb_32) (@pb_33)))))) (And.intro (And.intro (And.intro (And.intro (@pb_34) (@pb_35)) (And.intro (@pb_36) (@pb_37))) (And.intro (And.intro (@pb_38) (@pb_39)) (And.intro (@pb_40) (And.intro (@pb_41) (@pb_42))))) (And.intro (And.intro (And.intro (@pb_43) (@pb_44)) (And.intro (@pb_45) (And.intro (@pb_46) (@pb_47)))) (And.intro (And.intro (@pb_48) (@pb_49)) (And.intro (@pb_50) (And.intro (@pb_51) (@pb_52))))))) (And.intro (And.intro (And.intro (And.intro (And.intro (@pb_53) (@pb_54)) (And.intro (@pb_55) (@pb_56))) (And.intro (And.intro (@pb_57) (@pb_58)) (And.intro (@pb_59) (And.intro (@pb_60) (@pb_61))))) (And.intro (And.intro (And.intro (@pb_62) (@pb_63)) (And.intro (@pb_64) (And.intro (@pb_65) (@pb_66)))) (And.intro (And.intro (@pb_67) (@pb_68)) (And.intro (@pb_69) (And.intro (@pb_70) (@pb_71)))))) (And.intro (And.intro (And.intro (And.intro (@pb_72) (@pb_73)) (And.intro (@pb_74) (@pb_75))) (And.intro (And.intro (@pb_76) (@pb_77)) (And.intro (@pb_78) (And.intro (@pb_79) (@pb_80))))) (And.intro (And.intro (And.intro (@pb_81) (@pb_82)) (And.intro (@ik_22) (And.intro (@ik_42) (@ik_57)))) (And.intro (And.intro (@ik_63) (@ik_90)) (And.intro (@ni_22) (And.intro (@ni_42) (@ni_63))))))))) := And.intro (And.intro (And.intro (And.intro (And.intro (And.intro (And.intro (@bs_33) (@bs_34)) (And.intro (@bs_57) (@bs_59))) (And.intro (And.intro (@bs_67) (@bs_78)) (And.intro (@ia_2) (And.intro (@ia_3) (@ia_4))))) (And.intro (And.intro (And.intro (@ia_5) (@ia_22)) (And.intro (@ia_24) (@ia_25))) (And.intro (And.intro (@ia_33) (@ia_34)) (And.intro (@ia_42) (And.intro (@ia_55) (@ia_57)))))) (And.intro (And.intro (And.intro (And.intro (@ia_59) (@ia_63)) (And.intro (@ia_67) (@ia_74))) (And.intro (And.intro (@ia_78) (@ia_85)) (And.intro (@ia_87) (And.intro (@ia_90) (@sz_2))))) (And.intro (And.intro (And.intro (@sz_3) (@sz_4)) (And.intro (@sz_5) (And.intro (@sz_22) (@sz_24)))) (And.intro (And.intro (@sz_25) (@sz_33)) (And.intro (@sz_34) (And.intro (@sz_42) (@sz_55))))))) (And.intro (And.intro (And.intro (And.intro (And.intro (@sz_57) (@sz_59)) (And.intro (@sz_63) (@sz_67))) (And.intro (And.intro (@sz_74) (@sz_78)) (And.intro (@sz_85) (And.intro (@sz_87) (@sz_90))))) (And.intro (And.intro (And.intro (@ze_2) (@ze_3)) (And.intro (@ze_4) (And.intro (@ze_5) (@ze_22)))) (And.intro (And.intro (@ze_24) (@ze_33)) (And.intro (@ze_34) (And.intro (@ze_42) (@ze_55)))))) (And.intro (And.intro (And.intro (And.intro (@ze_57) (@ze_59)) (And.intro (@ze_63) (@ze_67))) (And.intro (And.intro (@ze_74) (@ze_78)) (And.intro (@ze_85) (And.intro (@ze_87) (@ze_90))))) (And.intro (And.intro (And.intro (@fo_33_0) (@fo_33_1)) (And.intro (@fo_34_0) (And.intro (@fo_34_1) (@fo_59_0)))) (And.intro (And.intro (@fo_59_1) (@fo_67_0)) (And.intro (@fo_67_1) (And.intro (@fo_78_0) (@pb_15)))))))) (And.intro (And.intro (And.intro (And.intro (And.intro (And.intro (@pb_16) (@pb_17)) (And.intro (@pb_18) (@pb_19))) (And.intro (And.intro (@pb_20) (@pb_21)) (And.intro (@pb_22) (And.intro (@pb_23) (@pb_24))))) (And.intro (And.intro (And.intro (@pb_25) (@pb_26)) (And.intro (@pb_27) (@pb_28))) (And.intro (And.intro (@pb_29) (@pb_30)) (And.intro (@pb_31) (And.intro (@pb_32) (@pb_33)))))) (And.intro (And.intro (And.intro (And.intro (@pb_34) (@pb_35)) (And.intro (@pb_36) (@pb_37))) (And.intro (And.intro (@pb_38) (@pb_39)) (And.intro (@pb_40) (And.intro (@pb_41) (@pb_42))))) (And.intro (And.intro (And.intro (@pb_43) (@pb_44)) (And.intro (@pb_45) (And.intro (@pb_46) (@pb_47)))) (And.intro (And.intro (@pb_48) (@pb_49)) (And.intro (@pb_50) (And.intro (@pb_51) (@pb_52))))))) (And.intro (And.intro (And.intro (And.intro (And.intro (@pb_53) (@pb_54)) (And.intro (@pb_55) (@pb_56))) (And.intro (And.intro (@pb_57) (@pb_58)) (And.intro (@pb_59) (And.intro (@pb_60) (@pb_61))))) (And.intro (And.intro (And.intro (@pb_62) (@pb_63)) (And.intro (@pb_64) (And.intro (@pb_65) (@pb_66)))) (And.intro (And.intro (@pb_67) (@pb_68)) (And.intro (@pb_69) (And.intro (@pb_70) (@pb_71)))))) (And.intro (And.intro (And.intro (And.intro (@pb_72) (@pb_73)) (And.intro (@pb_74) (@pb_75))) (And.intro (And.intro (@pb_76) (@pb_77)) (And.intro (@pb_78) (And.intro (@pb_79) (@pb_80))))) (And.intro (And.intro (And.intro (@pb_81) (@pb_82)) (And.intro (@ik_22) (And.intro (@ik_42) (@ik_57)))) (And.intro (And.intro (@ik_63) (@ik_90)) (And.intro (@ni_22) (And.intro (@ni_42) (@ni_63))))))))
/-- Two lists, added. -/
def addI (xs ys : List Int) : List Int := (List.range (min xs.length ys.length)).map fun i => ((((sq (bitL xs) i ^^ sq (bitL ys) i).toNat : Nat)) : Int)
theorem addI_len (xs ys : List Int) : (addI xs ys).length = min xs.length ys.length := by unfold addI; simp
def addN (xs ys : List Int) (n : Nat) : List AV := (List.range n).map fun i => bi (sq (bitL xs) i ^^ sq (bitL ys) i)
theorem addN_succ (xs ys : List Int) (n : Nat) : addN xs ys (n + 1) = addN xs ys n ++ [bi (sq (bitL xs) n ^^ sq (bitL ys) n)] := by unfold addN; rw [List.range_succ, List.map_append]; rfl
theorem add_bi (x y : Bool) : (((x.toNat : Nat) : Int) + ((y.toNat : Nat) : Int)).tmod 2 = (((x ^^ y).toNat : Nat) : Int) := by cases x <;> cases y <;> rfl
theorem sumI (xs ys : List Int) (hx : errB xs = 0) (hy : errB ys = 0) (a b : AV) (h : H) (wf : Wf h) (hs : Sl h a 1 xs.length (xs.map ii)) (ht : Sl h b 1 ys.length (ys.map ii)) :
    ∃ M v, CapU 1 v ∧ Sl (X h M h.w) v 1 (addI xs ys).length ((addI xs ys).map ii) ∧ (om Try.prog KK).call (.fn 39 [a, b]) h = .ok v (X h M h.w) := by
  suffices hW : WV ((om Try.prog KK).call (.fn 39 [a, b]) h) fun v h' => CapU 1 v ∧ ∃ M, Sl (X h M h.w) v 1 (addI xs ys).length ((addI xs ys).map ii) ∧ h' = X h M h.w by
    obtain ⟨v, h', e, hc, M, hsl, rfl⟩ := hW
    exact ⟨M, v, hc, hsl, e⟩
  obtain ⟨hx1, hx2⟩ := errB_bits hx
  obtain ⟨hy1, hy2⟩ := errB_bits hy
  have hxl := bitL_length xs
  have hyl := bitL_length ys
  have hs' : Sl h a 1 (bitL xs).length ((bitL xs).map bi) := by rw [bitL_length, ← hx2]; exact hs
  have ht' : Sl h b 1 (bitL ys).length ((bitL ys).map bi) := by rw [bitL_length, ← hy2]; exact ht
  have hl : ∀ h', lenE Try.prog 22 a h' = some (ii (xs.length : Int)) := fun h' => hs.len un_22
  have hl2 : ∀ h', lenE Try.prog 22 b h' = some (ii (ys.length : Int)) := fun h' => ht.len un_22
  obtain ⟨f1, f2⟩ := sl_flat hs
  obtain ⟨f3, f4⟩ := sl_flat ht
  have n2 : (2 : Int) ≠ 0 := by decide
  have hfin : (addI xs ys).map ii = addN xs ys (min xs.length ys.length) := by unfold addI addN; rw [List.map_map]; rfl
  refine WV_call (fn := Try.f39) Try.func39 rfl rfl rfl rfl rfl ?_
  simp only [argF]
  (repeat' (first
  | (with_reducible first | refine WC_seq ?_ | refine WC_skip ?_ | refine WC_label ?_ | refine WC_scope ?_ | refine WC_block ?_ | refine WC_ret ?_ | refine WC_exit ?_ | refine seqQ_norm ?_ | refine seqQ_ret ?_ | refine seqQ_exit ?_ | refine blkQ_norm ?_ | refine blkQ_ret ?_ | refine blkQ_here ?_ | refine gateK_yes ?_ | refine gateK_none ?_ | refine condK_tt ?_ | refine condK_ff ?_ | refine roundQ_exit ?_ | refine roundQ_ret ?_)
  | refine WC_region ?_ | refine blkQ_out rfl ?_ | refine WO_nil ?_ | refine WD_nil ?_
  | ((first | refine WD_gate rfl rfl rfl rfl rfl fun K_ hK_ => ?_ | refine WO_gate rfl rfl rfl rfl rfl fun K_ hK_ => ?_); simp only [upd_apply, asB_bool, asB_tup, ↓reduceIte, reduceCtorEq, Nat.reduceEqDiff, Bool.not_true, Bool.not_false]; refine hK_ _ ?_; clear hK_ K_)
  | refine gateK_no (by decide) ?_
  | ((try first | refine WO_op rfl rfl rfl ?_ | refine WO_op0 rfl rfl ?_ | refine WD_op rfl rfl rfl ?_ | refine WD_op0 rfl rfl ?_); (refine WV_gen fun Q_ hQ_ => ?_; simp (disch := first | omega | (simp only [List.length_cons, List.length_nil, List.length_append]; omega)) only [bb, bp, argF, ↓reduceIte, reduceCtorEq, Nat.reduceEqDiff, Nat.reduceLT, Nat.reduceLeDiff, Nat.reduceAdd, Nat.reduceMul, Nat.reduceSub, Nat.reduceBEq, Int.reduceToNat, cond_true, cond_false, eq_self, beq_self_eq_true, hl, hl2, f1, f2, f3, f4, newPtr_X wf, load1_X wf, loadAgg_X wf, store1_X wf, writeCells_X wf, makeFunc_def, tEvZ18, bsl_22, bsl_42, bsl_63, bsl_90, newSlice_X wf]; first | (refine dec_split (Q := Q_) (fun hp_ => ?_) (fun hp_ => ?_) <;> first | (exfalso; omega) | (refine hQ_ _ _ ?_; clear hQ_ Q_)) | (refine dec_splitn (Q := Q_) (fun hp_ => ?_) (fun hp_ => ?_) <;> first | (exfalso; omega) | (refine hQ_ _ _ ?_; clear hQ_ Q_)) | (refine hQ_ _ _ ?_; clear hQ_ Q_)))
  | (refine WC_cond fun K_ hK_ => ?_; simp (disch := omega) only [evT_tmp, upd_apply, WB_some, ↓reduceIte, reduceCtorEq, Nat.reduceEqDiff, Nat.reduceLT]; refine hK_ _ ?_; clear hK_ K_)))
  refine WC_loop (α := Nat) (fun (i : Nat) f d h' => i ≤ min xs.length ys.length ∧ f 0 = a ∧ f 1 = b ∧ f 6 = ii (i : Int) ∧ d = [] ∧
    ∃ v G, f 5 = v ∧ Grow h [] G v 1 3 i (addN xs ys i) ∧ h' = X h ([] ++ G) h.clock) (fun i => min xs.length ys.length - i) ?_ (min xs.length ys.length + 1) 0 (by omega) ?_
  · rintro i f d h' ⟨hi, g0, g1, g6, rfl, v, G, g5, hg, rfl⟩
    obtain ⟨fv1, fv2⟩ := hg.flat
    by_cases hlt : i < min xs.length ys.length
    · obtain ⟨id, off, hix, hld⟩ := bget wf hs' (i := i) (by omega)
      obtain ⟨id2, off2, hix2, hld2⟩ := bget wf ht' (i := i) (by omega)
      have hadd := add_bi (sq (bitL xs) i) (sq (bitL ys) i)
      obtain ⟨v', G', hg', hD, hD2⟩ := hg.appendD (P := Try.prog) wf un_22 sz_3 el_3 (n := 1) (new := [bi (sq (bitL xs) i ^^ sq (bitL ys) i)]) (by omega) (by omega) (by decide) rfl rfl
      rw [← addN_succ] at hg'
      have hob : oneB (bi (sq (bitL xs) i ^^ sq (bitL ys) i)) = true := rfl
      have hob2 : AV.cells (bi (sq (bitL xs) i ^^ sq (bitL ys) i)) = [bi (sq (bitL xs) i ^^ sq (bitL ys) i)] := rfl
      have hx0 : (0:Int) ≤ (((sq (bitL xs) i).toNat : Nat) : Int) ∧ (((sq (bitL xs) i).toNat : Nat) : Int) ≤ 1 := by cases sq (bitL xs) i <;> simp
      have hy0 : (0:Int) ≤ (((sq (bitL ys) i).toNat : Nat) : Int) ∧ (((sq (bitL ys) i).toNat : Nat) : Int) ≤ 1 := by cases sq (bitL ys) i <;> simp
      generalize hx1 : (((sq (bitL xs) i).toNat : Nat) : Int) = x1 at *
      generalize hy1 : (((sq (bitL ys) i).toNat : Nat) : Int) = y1 at *
      have hld : ∀ l w, load1 id off (X h l w) = some (ii x1) := fun l w => by rw [hld, ← hx1]
      have hld2 : ∀ l w, load1 id2 off2 (X h l w) = some (ii y1) := fun l w => by rw [hld2, ← hy1]
      have hr : reszT Try.prog 22 v = v := hg.resz 22
      have hrz : ∀ id off l c esz, reszT Try.prog 22 (.sl id off l (some c) esz) = .sl id off l (some c) 1 := fun _ _ _ _ _ => reszT_some un_22 sz_3
      simp only [List.nil_append, List.length_nil, Nat.zero_add] at hD hD2 ⊢
      (repeat' (first
  | (with_reducible first | refine WC_seq ?_ | refine WC_skip ?_ | refine WC_label ?_ | refine WC_scope ?_ | refine WC_block ?_ | refine WC_ret ?_ | refine WC_exit ?_ | refine seqQ_norm ?_ | refine seqQ_ret ?_ | refine seqQ_exit ?_ | refine blkQ_norm ?_ | refine blkQ_ret ?_ | refine blkQ_here ?_ | refine gateK_yes ?_ | refine gateK_none ?_ | refine condK_tt ?_ | refine condK_ff ?_ | refine roundQ_exit ?_ | refine roundQ_ret ?_)
  | refine WC_region ?_ | refine blkQ_out rfl ?_ | refine WO_nil ?_ | refine WD_nil ?_
  | ((first | refine WD_gate rfl rfl rfl rfl rfl fun K_ hK_ => ?_ | refine WO_gate rfl rfl rfl rfl rfl fun K_ hK_ => ?_); simp only [upd_apply, asB_bool, asB_tup, ↓reduceIte, reduceCtorEq, Nat.reduceEqDiff, Bool.not_true, Bool.not_false]; refine hK_ _ ?_; clear hK_ K_)
  | refine gateK_no (by decide) ?_
  | ((try first | refine WO_op rfl rfl rfl ?_ | refine WO_op0 rfl rfl ?_ | refine WD_op rfl rfl rfl ?_ | refine WD_op0 rfl rfl ?_); (refine WV_gen fun Q_ hQ_ => ?_; simp (disch := first | omega | (simp only [List.length_cons, List.length_nil, List.length_append]; omega)) only [bb, bp, argF, ↓reduceIte, reduceCtorEq, Nat.reduceEqDiff, Nat.reduceLT, Nat.reduceLeDiff, Nat.reduceAdd, Nat.reduceMul, Nat.reduceSub, Nat.reduceBEq, Int.reduceToNat, cond_true, cond_false, eq_self, beq_self_eq_true, hl, hl2, g0, g1, g5, g6, f1, f2, f3, f4, fv1, fv2, newPtr_X wf, load1_X wf, loadAgg_X wf, store1_X wf, writeCells_X wf, makeFunc_def, tEvZ18, bsl_22, bsl_42, bsl_63, bsl_90, newSlice_X wf]; first | (refine dec_split (Q := Q_) (fun hp_ => ?_) (fun hp_ => ?_) <;> first | (exfalso; omega) | (refine hQ_ _ _ ?_; clear hQ_ Q_)) | (refine dec_splitn (Q := Q_) (fun hp_ => ?_) (fun hp_ => ?_) <;> first | (exfalso; omega) | (refine hQ_ _ _ ?_; clear hQ_ Q_)) | (refine hQ_ _ _ ?_; clear hQ_ Q_)))
  | (refine WC_cond fun K_ hK_ => ?_; simp (disch := omega) only [evT_tmp, upd_apply, WB_some, ↓reduceIte, reduceCtorEq, Nat.reduceEqDiff, Nat.reduceLT]; refine hK_ _ ?_; clear hK_ K_)))
      refine WC_drawnB [.no, .no, .no, .no, .no, .no, .no, .no, .no, .full, .full, .full, .full, .full] (by kernel_rfl) ?_
      (repeat' (first
  | (with_reducible first | refine WC_seq ?_ | refine WC_skip ?_ | refine WC_label ?_ | refine WC_scope ?_ | refine WC_block ?_ | refine WC_ret ?_ | refine WC_exit ?_ | refine seqQ_norm ?_ | refine seqQ_ret ?_ | refine seqQ_exit ?_ | refine blkQ_norm ?_ | refine blkQ_ret ?_ | refine blkQ_here ?_ | refine gateK_yes ?_ | refine gateK_none ?_ | refine condK_tt ?_ | refine condK_ff ?_ | refine roundQ_exit ?_ | refine roundQ_ret ?_)
  | refine WC_region ?_ | refine blkQ_out rfl ?_ | refine WO_nil ?_ | refine WD_nil ?_
  | ((first | refine WD_gate rfl rfl rfl rfl rfl fun K_ hK_ => ?_ | refine WO_gate rfl rfl rfl rfl rfl fun K_ hK_ => ?_); simp only [upd_apply, asB_bool, asB_tup, ↓reduceIte, reduceCtorEq, Nat.reduceEqDiff, Bool.not_true, Bool.not_false]; refine hK_ _ ?_; clear hK_ K_)
  | refine gateK_no (by decide) ?_
  | ((try first | refine WO_op rfl rfl rfl ?_ | refine WO_op0 rfl rfl ?_ | refine WD_op rfl rfl rfl ?_ | refine WD_op0 rfl rfl ?_); (refine WV_gen fun Q_ hQ_ => ?_; simp (disch := first | omega | (simp only [List.length_cons, List.length_nil, List.length_append]; omega)) only [bb, bp, argF, ↓reduceIte, reduceCtorEq, Nat.reduceEqDiff, Nat.reduceLT, Nat.reduceLeDiff, Nat.reduceAdd, Nat.reduceMul, Nat.reduceSub, Nat.reduceBEq, Int.reduceToNat, cond_true, cond_false, eq_self, beq_self_eq_true, hl, hl2, g0, g1, g5, g6, f1, f2, f3, f4, fv1, fv2, hix, hld, hix2, hld2, b_rem n2, hadd, hob, hob2, hr, hrz, hD, hD2, ni_22, newPtr_X wf, load1_X wf, loadAgg_X wf, store1_X wf, writeCells_X wf, makeFunc_def, tEvZ18, bsl_22, bsl_42, bsl_63, bsl_90, newSlice_X wf]; first | (refine dec_split (Q := Q_) (fun hp_ => ?_) (fun hp_ => ?_) <;> first | (exfalso; omega) | (refine hQ_ _ _ ?_; clear hQ_ Q_)) | (refine dec_splitn (Q := Q_) (fun hp_ => ?_) (fun hp_ => ?_) <;> first | (exfalso; omega) | (refine hQ_ _ _ ?_; clear hQ_ Q_)) | (refine hQ_ _ _ ?_; clear hQ_ Q_)))
  | (refine WC_cond fun K_ hK_ => ?_; simp (disch := omega) only [evT_tmp, upd_apply, WB_some, ↓reduceIte, reduceCtorEq, Nat.reduceEqDiff, Nat.reduceLT]; refine hK_ _ ?_; clear hK_ K_)))
      exact roundQ_again (i + 1) (by omega) ⟨hlt, by simp only [upd_apply, ↓reduceIte, reduceCtorEq, Nat.reduceEqDiff]; exact g0, by simp only [upd_apply, ↓reduceIte, reduceCtorEq, Nat.reduceEqDiff]; exact g1, by simp only [upd_apply, ↓reduceIte, reduceCtorEq, Nat.reduceEqDiff]; rfl, rfl, v', G', by simp only [upd_apply, ↓reduceIte, reduceCtorEq, Nat.reduceEqDiff], hg', rfl⟩
    · have hie : i = min xs.length ys.length := by omega
      (repeat' (first
  | (with_reducible first | refine WC_seq ?_ | refine WC_skip ?_ | refine WC_label ?_ | refine WC_scope ?_ | refine WC_block ?_ | refine WC_ret ?_ | refine WC_exit ?_ | refine seqQ_norm ?_ | refine seqQ_ret ?_ | refine seqQ_exit ?_ | refine blkQ_norm ?_ | refine blkQ_ret ?_ | refine blkQ_here ?_ | refine gateK_yes ?_ | refine gateK_none ?_ | refine condK_tt ?_ | refine condK_ff ?_ | refine roundQ_exit ?_ | refine roundQ_ret ?_)
  | refine WC_region ?_ | refine blkQ_out rfl ?_ | refine WO_nil ?_ | refine WD_nil ?_
  | ((first | refine WD_gate rfl rfl rfl rfl rfl fun K_ hK_ => ?_ | refine WO_gate rfl rfl rfl rfl rfl fun K_ hK_ => ?_); simp only [upd_apply, asB_bool, asB_tup, ↓reduceIte, reduceCtorEq, Nat.reduceEqDiff, Bool.not_true, Bool.not_false]; refine hK_ _ ?_; clear hK_ K_)
  | refine gateK_no (by decide) ?_
  | ((try first | refine WO_op rfl rfl rfl ?_ | refine WO_op0 rfl rfl ?_ | refine WD_op rfl rfl rfl ?_ | refine WD_op0 rfl rfl ?_); (refine WV_gen fun Q_ hQ_ => ?_; simp (disch := first | omega | (simp only [List.length_cons, List.length_nil, List.length_append]; omega)) only [bb, bp, argF, ↓reduceIte, reduceCtorEq, Nat.reduceEqDiff, Nat.reduceLT, Nat.reduceLeDiff, Nat.reduceAdd, Nat.reduceMul, Nat.reduceSub, Nat.reduceBEq, Int.reduceToNat, cond_true, cond_false, eq_self, beq_self_eq_true, hl, hl2, g0, g1, g5, g6, f1, f2, f3, f4, fv1, fv2, newPtr_X wf, load1_X wf, loadAgg_X wf, store1_X wf, writeCells_X wf, makeFunc_def, tEvZ18, bsl_22, bsl_42, bsl_63, bsl_90, newSlice_X wf]; first | (refine dec_split (Q := Q_) (fun hp_ => ?_) (fun hp_ => ?_) <;> first | (exfalso; omega) | (refine hQ_ _ _ ?_; clear hQ_ Q_)) | (refine dec_splitn (Q := Q_) (fun hp_ => ?_) (fun hp_ => ?_) <;> first | (exfalso; omega) | (refine hQ_ _ _ ?_; clear hQ_ Q_)) | (refine hQ_ _ _ ?_; clear hQ_ Q_)))
  | (refine WC_cond fun K_ hK_ => ?_; simp (disch := omega) only [evT_tmp, upd_apply, WB_some, ↓reduceIte, reduceCtorEq, Nat.reduceEqDiff, Nat.reduceLT]; refine hK_ _ ?_; clear hK_ K_)))
      all_goals refine endQ_ret _ _ rfl (ret1 (by decide)) ?_
      all_goals simp only [upd_apply, ↓reduceIte, reduceCtorEq, Nat.reduceEqDiff]
      all_goals rw [← List.nil_append G]
      all_goals refine hg.ret wf (fun M hM => ?_) (Nat.le_refl _)
      all_goals refine ⟨?_, M, ?_, rfl⟩
      all_goals first
        | (obtain ⟨_, h1 | ⟨idx, h1, _⟩⟩ := hg
           · rw [h1.2]; exact ⟨fun _ _ _ _ _ e => (by cases e), fun _ _ _ _ e => (by cases e)⟩
           · rw [h1]; exact capu_none)
        | (rw [hfin, addI_len, ← hie]; exact hM)
  · exact ⟨Nat.zero_le _, rfl, rfl, rfl, rfl, .nils, [], rfl, Grow.nil _ _ _ _ _, rfl⟩
theorem sq_bitL_take {xs : List Int} {n i : Nat} (hi : i < n) : sq (bitL (xs.take n)) i = sq (bitL xs) i := by
  unfold bitL sq
  rw [List.map_take]
  simp only [List.getD_eq_getElem?_getD, List.getElem?_take, if_pos hi]
theorem good_take {xs : List Int} (n : Nat) (h : good xs = true) : good (xs.take n) = true := by
  unfold good at *
  rw [List.all_eq_true] at *
  exact fun x hx => h x (List.mem_of_mem_take hx)
theorem errB_take {xs : List Int} (n : Nat) (h : errB xs = 0) : errB (xs.take n) = 0 := by
  obtain ⟨h1, h2⟩ := errB_ok.1 h
  exact errB_ok.2 ⟨by rw [List.length_take]; omega, good_take n h2⟩
theorem addI_ok {xs ys : List Int} (hx : errB xs = 0) : errB (addI xs ys) = 0 := by
  obtain ⟨h1, h2⟩ := errB_ok.1 hx
  refine errB_ok.2 ⟨by rw [addI_len]; omega, ?_⟩
  unfold good addI
  rw [List.all_map]
  refine List.all_eq_true.2 fun i _ => ?_
  show ((((sq (bitL xs) i ^^ sq (bitL ys) i).toNat : Nat) : Int) == 0 || (((sq (bitL xs) i ^^ sq (bitL ys) i).toNat : Nat) : Int) == 1) = true
  cases (sq (bitL xs) i ^^ sq (bitL ys) i) <;> rfl
theorem sq_addI {xs ys : List Int} {i : Nat} (hi : i < min xs.length ys.length) : sq (bitL (addI xs ys)) i = (sq (bitL xs) i ^^ sq (bitL ys) i) := by
  unfold addI
  show (List.map (fun x : Int => x == 1) _).getD i false = _
  rw [List.map_map, List.getD_eq_getElem?_getD, List.getElem?_map, List.getElem?_range hi]
  show ((((sq (bitL xs) i ^^ sq (bitL ys) i).toNat : Nat) : Int) == 1) = _
  cases (sq (bitL xs) i ^^ sq (bitL ys) i) <;> rfl
theorem makes_congr {T L n : Nat} {s t : Nat → Bool} (h : Makes T L s n) (e : ∀ i, i < n → s i = t i) : Makes T L t n := fun i h1 h2 => by
  rw [← e i h2, h i h1 h2]
  exact pred_congr h1 fun j hj => e j (by omega)
theorem cpx_sum_le {x y z : Nat → Bool} {n a b c : Nat} (hx : Cpx x n a) (hy : Cpx y n b) (hz : Cpx z n c) (e : ∀ i, i < n → z i = (x i ^^ y i)) : c ≤ a + b := by
  obtain ⟨T1, h1, m1⟩ := hx.some
  obtain ⟨T2, h2, m2⟩ := hy.some
  obtain ⟨T, _, m⟩ := both_make h1 h2 m1 m2
  exact hz.least T _ (makes_congr m fun i hi => (e i hi).symm)
theorem lawTogether (xs ys : List Int) (a b : AV) (ha : CapU 1 a) (hb : CapU 1 b) (h : H) (wf : Wf h) (hs : Sl h a 1 xs.length (xs.map ii)) (ht : Sl h b 1 ys.length (ys.map ii)) :
    (om Try.prog KK).call (.fn 10 [a, b]) h = .ok (.bool true) h := by
  have hl : ∀ h', lenE Try.prog 22 a h' = some (ii (xs.length : Int)) := fun h' => hs.len un_22
  have hl2 : ∀ h', lenE Try.prog 22 b h' = some (ii (ys.length : Int)) := fun h' => ht.len un_22
  obtain ⟨f1, f2⟩ := sl_flat hs
  obtain ⟨f3, f4⟩ := sl_flat ht
  have cf1 : ∀ (l : List AO) (w : Nat), w ≤ h.clock + l.length → (om Try.prog KK).call (.fn 37 [a]) (X h l w) = .ok (.bool (decide (errB xs = 0))) (X h l w) := fun l w hw => fine xs a _ (wf.X hw) (hs.up wf l w)
  have cf2 : ∀ (l : List AO) (w : Nat), w ≤ h.clock + l.length → (om Try.prog KK).call (.fn 37 [b]) (X h l w) = .ok (.bool (decide (errB ys = 0))) (X h l w) := fun l w hw => fine ys b _ (wf.X hw) (ht.up wf l w)
  refine WV_to (WV_call (fn := Try.f10) Try.func10 rfl rfl rfl rfl rfl ?_)
  simp only [argF]
  by_cases hx : errB xs = 0
  · by_cases hy : errB ys = 0
    · rw [decide_eq_true hx] at cf1
      rw [decide_eq_true hy] at cf2
      obtain ⟨hx1, _⟩ := errB_bits hx
      obtain ⟨hy1, _⟩ := errB_bits hy
      generalize hn : min xs.length ys.length = n
      have hmin : min (xs.length : Int) (ys.length : Int) = (n : Int) := by omega
      obtain ⟨c, hcut, hsc, hcc⟩ := hs.cutTo (P := Try.prog) (k := n) (by omega) un_22 sz_3 (by omega) ha
      obtain ⟨d, hcut2, hsd, hcd⟩ := ht.cutTo (P := Try.prog) (k := n) (by omega) un_22 sz_3 (by omega) hb
      rw [Nat.mul_one, ← List.map_take] at hsc hsd
      have lc : (xs.take n).length = n := by rw [List.length_take]; omega
      have ld : (ys.take n).length = n := by rw [List.length_take]; omega
      obtain ⟨fc1, fc2⟩ := sl_flat hsc
      obtain ⟨fd1, fd2⟩ := sl_flat hsd
      obtain ⟨T1, L1, M1, v1, q1, t1, k1, _, _, s1, e1⟩ := short_any (xs.take n) (errB_take n hx) c hcc (X h [] h.clock) (wf.X (by simp)) (by rw [lc]; exact hsc.up wf _ _)
      rw [X_X, X_w, List.nil_append] at e1
      have w1 := wf.X (l := M1) (w := h.clock) (by omega)
      obtain ⟨T2, L2, M2, v2, q2, t2, k2, _, _, s2, e2⟩ := short_any (ys.take n) (errB_take n hy) d hcd (X h M1 h.clock) w1 (by rw [ld]; exact hsd.up wf _ _)
      rw [X_X, X_w] at e2
      have w2 := wf.X (l := M1 ++ M2) (w := h.clock) (by omega)
      obtain ⟨M3, v3, hcv3, s3, e3⟩ := sumI xs ys hx hy a b (X h (M1 ++ M2) h.clock) w2 (hs.up wf _ _) (ht.up wf _ _)
      rw [X_X, X_w] at s3 e3
      have w3 := wf.X (l := M1 ++ M2 ++ M3) (w := h.clock) (by omega)
      obtain ⟨T4, L4, M4, v4, q4, t4, k4, _, _, s4, e4⟩ := short_any (addI xs ys) (addI_ok hx) v3 hcv3 (X h (M1 ++ M2 ++ M3) h.clock) w3 s3
      rw [X_X, X_w] at e4
      simp only [List.append_assoc] at e3 e4
      rw [lc] at q1 k1
      rw [ld] at q2 k2
      rw [addI_len, hn] at q4 k4
      have r1 : L4 ≤ L1 + L2 := cpx_sum_le q1 q2 q4 fun i hi => by rw [sq_addI (by omega), sq_bitL_take hi, sq_bitL_take hi]
      have r2 : L1 ≤ L4 + L2 := cpx_sum_le q4 q2 q1 fun i hi => by
        rw [sq_addI (by omega), sq_bitL_take hi, sq_bitL_take hi]
        cases sq (bitL xs) i <;> cases sq (bitL ys) i <;> rfl
      have r3 : L2 ≤ L4 + L1 := cpx_sum_le q4 q1 q2 fun i hi => by
        rw [sq_addI (by omega), sq_bitL_take hi, sq_bitL_take hi]
        cases sq (bitL xs) i <;> cases sq (bitL ys) i <;> rfl
      have lv1 : ∀ h', lenE Try.prog 22 v1 h' = some (ii (L1 : Int)) := fun h' => by have := (s1 [] 0).len (P := Try.prog) (h' := h') un_22; rwa [tapI_len] at this
      have lv2 : ∀ h', lenE Try.prog 22 v2 h' = some (ii (L2 : Int)) := fun h' => by have := (s2 [] 0).len (P := Try.prog) (h' := h') un_22; rwa [tapI_len] at this
      have lv4 : ∀ h', lenE Try.prog 22 v4 h' = some (ii (L4 : Int)) := fun h' => by have := (s4 [] 0).len (P := Try.prog) (h' := h') un_22; rwa [tapI_len] at this
      obtain ⟨g1, g2⟩ := sl_flat (s1 [] 0)
      obtain ⟨g3, g4⟩ := sl_flat (s2 [] 0)
      obtain ⟨g5, g6⟩ := sl_flat s3
      obtain ⟨g7, g8⟩ := sl_flat (s4 [] 0)
      have u1 : ((L4 : Int) ≤ (L1 : Int) + (L2 : Int)) := by omega
      have u2 : ((L1 : Int) - (L2 : Int) ≤ (L4 : Int)) := by omega
      have u3 : ((L2 : Int) - (L1 : Int) ≤ (L4 : Int)) := by omega
      (repeat' (first
  | (with_reducible first | refine WC_seq ?_ | refine WC_skip ?_ | refine WC_label ?_ | refine WC_scope ?_ | refine WC_block ?_ | refine WC_ret ?_ | refine WC_exit ?_ | refine seqQ_norm ?_ | refine seqQ_ret ?_ | refine seqQ_exit ?_ | refine blkQ_norm ?_ | refine blkQ_ret ?_ | refine blkQ_here ?_ | refine gateK_yes ?_ | refine gateK_none ?_ | refine condK_tt ?_ | refine condK_ff ?_ | refine roundQ_exit ?_ | refine roundQ_ret ?_)
  | refine WC_region ?_ | refine blkQ_out rfl ?_ | refine WO_nil ?_ | refine WD_nil ?_
  | ((first | refine WD_gate rfl rfl rfl rfl rfl fun K_ hK_ => ?_ | refine WO_gate rfl rfl rfl rfl rfl fun K_ hK_ => ?_); simp only [upd_apply, asB_bool, asB_tup, ↓reduceIte, reduceCtorEq, Nat.reduceEqDiff, Bool.not_true, Bool.not_false]; refine hK_ _ ?_; clear hK_ K_)
  | refine gateK_no (by decide) ?_
  | ((try first | refine WO_op rfl rfl rfl ?_ | refine WO_op0 rfl rfl ?_ | refine WD_op rfl rfl rfl ?_ | refine WD_op0 rfl rfl ?_); (refine WV_gen fun Q_ hQ_ => ?_; simp (disch := first | omega | (simp only [List.length_cons, List.length_nil, List.length_append]; omega)) only [bb, bp, argF, ↓reduceIte, reduceCtorEq, Nat.reduceEqDiff, Nat.reduceLT, Nat.reduceLeDiff, Nat.reduceAdd, Nat.reduceMul, Nat.reduceSub, Nat.reduceBEq, Int.reduceToNat, cond_true, cond_false, eq_self, beq_self_eq_true, hl, hl2, hmin, hcut, hcut2, lv1, lv2, lv4, f1, f2, f3, f4, fc1, fc2, fd1, fd2, g1, g2, g3, g4, g5, g6, g7, g8, newPtr_X wf, load1_X wf, loadAgg_X wf, store1_X wf, writeCells_X wf, makeFunc_def, tEvZ18, bsl_22, bsl_42, bsl_63, bsl_90, newSlice_X wf]; first | (refine dec_split (Q := Q_) (fun hp_ => ?_) (fun hp_ => ?_) <;> first | (exfalso; omega) | (refine hQ_ _ _ ?_; clear hQ_ Q_)) | (refine dec_splitn (Q := Q_) (fun hp_ => ?_) (fun hp_ => ?_) <;> first | (exfalso; omega) | (refine hQ_ _ _ ?_; clear hQ_ Q_)) | (refine hQ_ _ _ ?_; clear hQ_ Q_) | (refine WV_eq (cf1 _ _ (by first | omega | (simp only [List.length_append, List.length_cons, List.length_nil]; omega))) ?_; refine hQ_ _ _ ?_; clear hQ_ Q_) | (refine WV_eq (cf2 _ _ (by first | omega | (simp only [List.length_append, List.length_cons, List.length_nil]; omega))) ?_; refine hQ_ _ _ ?_; clear hQ_ Q_) | (refine WV_eq (e1) ?_; refine hQ_ _ _ ?_; clear hQ_ Q_) | (refine WV_eq (e2) ?_; refine hQ_ _ _ ?_; clear hQ_ Q_) | (refine WV_eq (e3) ?_; refine hQ_ _ _ ?_; clear hQ_ Q_) | (refine WV_eq (e4) ?_; refine hQ_ _ _ ?_; clear hQ_ Q_) | (refine WV_eq (works _) ?_; refine hQ_ _ _ ?_; clear hQ_ Q_)))
  | (refine WC_cond fun K_ hK_ => ?_; simp (disch := omega) only [evT_tmp, upd_apply, WB_some, ↓reduceIte, reduceCtorEq, Nat.reduceEqDiff, Nat.reduceLT]; refine hK_ _ ?_; clear hK_ K_)))
      all_goals (refine endQ_ret _ _ rfl (ret1 (by decide)) ?_; simp only [upd_apply, ↓reduceIte, reduceCtorEq, Nat.reduceEqDiff]; refine WV_flat rfl (by omega) ?_)
      all_goals exact ⟨rfl, rfl⟩
    · rw [decide_eq_true hx] at cf1
      rw [decide_eq_false hy] at cf2
      (repeat' (first
  | (with_reducible first | refine WC_seq ?_ | refine WC_skip ?_ | refine WC_label ?_ | refine WC_scope ?_ | refine WC_block ?_ | refine WC_ret ?_ | refine WC_exit ?_ | refine seqQ_norm ?_ | refine seqQ_ret ?_ | refine seqQ_exit ?_ | refine blkQ_norm ?_ | refine blkQ_ret ?_ | refine blkQ_here ?_ | refine gateK_yes ?_ | refine gateK_none ?_ | refine condK_tt ?_ | refine condK_ff ?_ | refine roundQ_exit ?_ | refine roundQ_ret ?_)
  | refine WC_region ?_ | refine blkQ_out rfl ?_ | refine WO_nil ?_ | refine WD_nil ?_
  | ((first | refine WD_gate rfl rfl rfl rfl rfl fun K_ hK_ => ?_ | refine WO_gate rfl rfl rfl rfl rfl fun K_ hK_ => ?_); simp only [upd_apply, asB_bool, asB_tup, ↓reduceIte, reduceCtorEq, Nat.reduceEqDiff, Bool.not_true, Bool.not_false]; refine hK_ _ ?_; clear hK_ K_)
  | refine gateK_no (by decide) ?_
  | ((try first | refine WO_op rfl rfl rfl ?_ | refine WO_op0 rfl rfl ?_ | refine WD_op rfl rfl rfl ?_ | refine WD_op0 rfl rfl ?_); (refine WV_gen fun Q_ hQ_ => ?_; simp (disch := first | omega | (simp only [List.length_cons, List.length_nil, List.length_append]; omega)) only [bb, bp, argF, ↓reduceIte, reduceCtorEq, Nat.reduceEqDiff, Nat.reduceLT, Nat.reduceLeDiff, Nat.reduceAdd, Nat.reduceMul, Nat.reduceSub, Nat.reduceBEq, Int.reduceToNat, cond_true, cond_false, eq_self, beq_self_eq_true, hl, hl2, f1, f2, f3, f4, newPtr_X wf, load1_X wf, loadAgg_X wf, store1_X wf, writeCells_X wf, makeFunc_def, tEvZ18, bsl_22, bsl_42, bsl_63, bsl_90, newSlice_X wf]; first | (refine dec_split (Q := Q_) (fun hp_ => ?_) (fun hp_ => ?_) <;> first | (exfalso; omega) | (refine hQ_ _ _ ?_; clear hQ_ Q_)) | (refine dec_splitn (Q := Q_) (fun hp_ => ?_) (fun hp_ => ?_) <;> first | (exfalso; omega) | (refine hQ_ _ _ ?_; clear hQ_ Q_)) | (refine hQ_ _ _ ?_; clear hQ_ Q_) | (refine WV_eq (cf1 _ _ (by first | omega | (simp only [List.length_append, List.length_cons, List.length_nil]; omega))) ?_; refine hQ_ _ _ ?_; clear hQ_ Q_) | (refine WV_eq (cf2 _ _ (by first | omega | (simp only [List.length_append, List.length_cons, List.length_nil]; omega))) ?_; refine hQ_ _ _ ?_; clear hQ_ Q_) | (refine WV_eq (works _) ?_; refine hQ_ _ _ ?_; clear hQ_ Q_)))
  | (refine WC_cond fun K_ hK_ => ?_; simp (disch := omega) only [evT_tmp, upd_apply, WB_some, ↓reduceIte, reduceCtorEq, Nat.reduceEqDiff, Nat.reduceLT]; refine hK_ _ ?_; clear hK_ K_)))
      all_goals (refine endQ_ret _ _ rfl (ret1 (by decide)) ?_; simp only [upd_apply, ↓reduceIte, reduceCtorEq, Nat.reduceEqDiff]; refine WV_flat rfl (by omega) ?_)
      all_goals exact ⟨rfl, rfl⟩
  · rw [decide_eq_false hx] at cf1
    (repeat' (first
  | (with_reducible first | refine WC_seq ?_ | refine WC_skip ?_ | refine WC_label ?_ | refine WC_scope ?_ | refine WC_block ?_ | refine WC_ret ?_ | refine WC_exit ?_ | refine seqQ_norm ?_ | refine seqQ_ret ?_ | refine seqQ_exit ?_ | refine blkQ_norm ?_ | refine blkQ_ret ?_ | refine blkQ_here ?_ | refine gateK_yes ?_ | refine gateK_none ?_ | refine condK_tt ?_ | refine condK_ff ?_ | refine roundQ_exit ?_ | refine roundQ_ret ?_)
  | refine WC_region ?_ | refine blkQ_out rfl ?_ | refine WO_nil ?_ | refine WD_nil ?_
  | ((first | refine WD_gate rfl rfl rfl rfl rfl fun K_ hK_ => ?_ | refine WO_gate rfl rfl rfl rfl rfl fun K_ hK_ => ?_); simp only [upd_apply, asB_bool, asB_tup, ↓reduceIte, reduceCtorEq, Nat.reduceEqDiff, Bool.not_true, Bool.not_false]; refine hK_ _ ?_; clear hK_ K_)
  | refine gateK_no (by decide) ?_
  | ((try first | refine WO_op rfl rfl rfl ?_ | refine WO_op0 rfl rfl ?_ | refine WD_op rfl rfl rfl ?_ | refine WD_op0 rfl rfl ?_); (refine WV_gen fun Q_ hQ_ => ?_; simp (disch := first | omega | (simp only [List.length_cons, List.length_nil, List.length_append]; omega)) only [bb, bp, argF, ↓reduceIte, reduceCtorEq, Nat.reduceEqDiff, Nat.reduceLT, Nat.reduceLeDiff, Nat.reduceAdd, Nat.reduceMul, Nat.reduceSub, Nat.reduceBEq, Int.reduceToNat, cond_true, cond_false, eq_self, beq_self_eq_true, hl, hl2, f1, f2, f3, f4, newPtr_X wf, load1_X wf, loadAgg_X wf, store1_X wf, writeCells_X wf, makeFunc_def, tEvZ18, bsl_22, bsl_42, bsl_63, bsl_90, newSlice_X wf]; first | (refine dec_split (Q := Q_) (fun hp_ => ?_) (fun hp_ => ?_) <;> first | (exfalso; omega) | (refine hQ_ _ _ ?_; clear hQ_ Q_)) | (refine dec_splitn (Q := Q_) (fun hp_ => ?_) (fun hp_ => ?_) <;> first | (exfalso; omega) | (refine hQ_ _ _ ?_; clear hQ_ Q_)) | (refine hQ_ _ _ ?_; clear hQ_ Q_) | (refine WV_eq (cf1 _ _ (by first | omega | (simp only [List.length_append, List.length_cons, List.length_nil]; omega))) ?_; refine hQ_ _ _ ?_; clear hQ_ Q_) | (refine WV_eq (cf2 _ _ (by first | omega | (simp only [List.length_append, List.length_cons, List.length_nil]; omega))) ?_; refine hQ_ _ _ ?_; clear hQ_ Q_) | (refine WV_eq (works _) ?_; refine hQ_ _ _ ?_; clear hQ_ Q_)))
  | (refine WC_cond fun K_ hK_ => ?_; simp (disch := omega) only [evT_tmp, upd_apply, WB_some, ↓reduceIte, reduceCtorEq, Nat.reduceEqDiff, Nat.reduceLT]; refine hK_ _ ?_; clear hK_ K_)))
    all_goals (refine endQ_ret _ _ rfl (ret1 (by decide)) ?_; simp only [upd_apply, ↓reduceIte, reduceCtorEq, Nat.reduceEqDiff]; refine WV_flat rfl (by omega) ?_)
    all_goals exact ⟨rfl, rfl⟩
end Go.Proofs.Ytmincoafjnnkpaa
end

/- EvZc10 -/
section
/- The statement WaveTogether of layer 5: if bits are added to as many others, modulo 2, the complexity is at most the sum of both, and at least what they differ by, for all lists; no condition. -/
namespace Go.Proofs.Ytmincoafjnnkpaa.waveTogether
open Go.ChangeShapes Go.WideShapes Go.ChangeAt Go.RowKit Go.Ev
set_option maxRecDepth 100000
set_option maxHeartbeats 0

theorem contract (H : Type) (enc : TypeId × Value → H) (W : World) (base : Nat) (args : Array Value) (ds gs : List (DataW H)) (before : List MemPlace) (hval : ∀ (j : Nat) t v, Try.f10.params[j]? = some t → args[j]? = some v → Value.okWide Try.prog W .any base t v)
    (hW : DataW.Whole enc Try.prog Try.f10.params.toList Rows.waveTogetherSpec.vars false W args.toList ds gs before) :
    Calls Try.prog 10 args W fun e W' => ∃ v, e = .returned v ∧ Rows.waveTogetherSpec.post enc Try.prog Try.f10 false true false false W args v W' := by
  have hW' := hW
  obtain ⟨p, q, hA0, hV, rfl, hfz, hnd⟩ := hW
  have hA : DataW.TrodAll enc Try.prog W 0 (fun _ => true) true Try.f10.params.toList args.toList ds p := hA0
  rw [Try.params10] at hA hval
  obtain ⟨v0, v1, d0, d1, p0, p1, rfl, rfl, rfl, ⟨n0, h0⟩, ⟨n1, h1⟩⟩ := trodAll_two hA
  have k0 := (okWide_cell (P := Try.prog) Try.underlying22 (fun _ e => by cases e) (fun _ _ e => by cases e) (hval 0 22 v0 rfl rfl))
  rw [slice_cells Try.underlying22 k0] at h0
  obtain ⟨a0, ls0, w0, q0, x0⟩ := ints_in k0 h0
  have k1 := (okWide_cell (P := Try.prog) Try.underlying22 (fun _ e => by cases e) (fun _ _ e => by cases e) (hval 1 22 v1 rfl rfl))
  rw [slice_cells Try.underlying22 k1] at h1
  obtain ⟨a1, ls1, w1, q1, x1⟩ := ints_in k1 h1
  have walk := lawTogether ls0 ls1 a0 a1 (q0.capu 1) (q1.capu 1) (startW W) (startW_wf W) x0 x1
  have hargs : VL (startWR W) [a0, a1] (#[v0, v1] : Array Value).toList := (.cons _ _ _ _ w0 (.cons _ _ _ _ w1 .nil))
  refine (startW_true (P := Try.prog) mixed (K := KK) (fun c hc => by
    have : c = cW := List.mem_singleton.1 hc
    rw [this]; exact cW_ok) walk hargs).mono fun e W' ⟨he, hgr, hs⟩ => ?_
  subst he
  refine ⟨_, rfl, law_post laidOut (by
    rw [Try.params10]
    intro t ht
    rcases List.mem_cons.1 ht with rfl | ht
    · exact ⟨by kernel_rfl, of_decide_eq_true (by kernel_rfl)⟩
    rcases List.mem_cons.1 ht with rfl | ht
    · exact ⟨by kernel_rfl, of_decide_eq_true (by kernel_rfl)⟩
    cases ht) rfl (by kernel_rfl) Try.underlying4 (fun gs' ⟨q', hq⟩ => ?_) hW' hgr hs⟩
  obtain ⟨rfl, _⟩ := trodVars_none hq
  exact ⟨rfl, rfl, rfl⟩

theorem lifted (os : Os) (started : os.Started) (H : Type) (enc : TypeId × Value → H) :
    ReturnsInHanded {} Try.checked os 10 .any (Rows.waveTogetherSpec.pre6 enc Try.prog Try.f10 Rows.waveTogetherRow.domain false) (Rows.waveTogetherSpec.post enc Try.prog Try.f10 false true false false) := by
  refine returnsInHanded_of_change (C := Try.checked) own started (by kernel_rfl) Try.func10
    (ChangeSpec.witness6 (enc := enc) (C := Try.checked) false ⟨#[], #[.slice none 0 0, .slice none 0 0], []⟩ 8 (by kernel_rfl) (by kernel_rfl) (by kernel_rfl) (by kernel_rfl)) ?_
  intro W base args ds gs before hval hW _ _
  exact contract H enc W base args ds gs before hval hW

theorem holds : Rows.WaveTogetherSaid :=
  OpenClaim.holds_of_wide 10 Try.f10 rfl rfl rfl rfl rfl rfl rfl ⟨rfl, rfl, rfl, rfl, rfl⟩ rfl rfl rfl rfl rfl (by kernel_rfl) Try.func10 (by kernel_rfl)
    (of_decide_eq_true (by kernel_rfl)) (by unfold Func.isWrapper; first | (rw [if_pos (by decide +kernel)]; kernel_rfl) | (rw [if_neg (by decide +kernel)]; exact ⟨rfl, rfl⟩))
    (fun os started H enc _ => lifted os started H enc)
end Go.Proofs.Ytmincoafjnnkpaa.waveTogether
end
