/- The statement WaveOnly of layer 5: if there are at least twice as many bits as the complexity, just one register of this length makes them, and a shortest one goes on like the register that made them, for all registers, starts and numbers; no condition. -/
import Derived.Test.YtmincoafjnnkpaawoM8
import Derived.Test.YtmincoafjnnkpaaRows
import Derived.WalkKit
import Derived.ProofKit
import Derived.OpenShut
set_option linter.all false
/- EvZ19 -/
section
/-
  LAYER 5: the statement about one register alone.
-/
namespace Go.Proofs.Ytmincoafjnnkpaa
open Go.Ev
set_option maxRecDepth 100000
set_option linter.unusedSimpArgs false
set_option linter.unusedVariables false
set_option maxHeartbeats 2000000
theorem tEvZ19 : type_of% (And.intro (And.intro (And.intro (And.intro (And.intro (And.intro (And.intro (@bs_33) (@bs_34)) (And.intro (@bs_57) (@bs_59))) (And.intro (And.intro (@bs_67) (@bs_78)) (And.intro (@ia_2) (And.intro (@ia_3) (@ia_4))))) (And.intro (And.intro (And.intro (@ia_5) (@ia_22)) (And.intro (@ia_24) (@ia_25))) (And.intro (And.intro (@ia_33) (@ia_34)) (And.intro (@ia_42) (And.intro (@ia_55) (@ia_57)))))) (And.intro (And.intro (And.intro (And.intro (@ia_59) (@ia_63)) (And.intro (@ia_67) (@ia_74))) (And.intro (And.intro (@ia_78) (@ia_85)) (And.intro (@ia_87) (And.intro (@ia_90) (@sz_2))))) (And.intro (And.intro (And.intro (@sz_3) (@sz_4)) (And.intro (@sz_5) (And.intro (@sz_22) (@sz_24)))) (And.intro (And.intro (@sz_25) (@sz_33)) (And.intro (@sz_34) (And.intro (@sz_42) (@sz_55))))))) (And.intro (And.intro (And.intro (And.intro (And.intro (@sz_57) (@sz_59)) (And.intro (@sz_63) (@sz_67))) (And.intro (And.intro (@sz_74) (@sz_78)) (And.intro (@sz_85) (And.intro (@sz_87) (@sz_90))))) (And.intro (And.intro (And.intro (@ze_2) (@ze_3)) (And.intro (@ze_4) (And.intro (@ze_5) (@ze_22)))) (And.intro (And.intro (@ze_24) (@ze_33)) (And.intro (@ze_34) (And.intro (@ze_42) (@ze_55)))))) (And.intro (And.intro (And.intro (And.intro (@ze_57) (@ze_59)) (And.intro (@ze_63) (@ze_67))) (And.intro (And.intro (@ze_74) (@ze_78)) (And.intro (@ze_85) (And.intro (@ze_87) (@ze_90))))) (And.intro (And.intro (And.intro (@fo_33_0) (@fo_33_1)) (And.intro (@fo_34_0) (And.intro (@fo_34_1) (@fo_59_0)))) (And.intro (And.intro (@fo_59_1) (@fo_67_0)) (And.intro (@fo_67_1) (And.intro (@fo_78_0) (@pb_15)))))))) (And.intro (And.intro (And.intro (And.intro (And.intro (And.intro (@pb_16) (@pb_17)) (And.intro (@pb_18) (@pb_19))) (And.intro (And.intro (@pb_20) (@pb_21)) (And.intro (@pb_22) (And.intro (@pb_23) (@pb_24))))) (And.intro (And.intro (And.intro (@pb_25) (@pb_26)) (And.intro (@pb_27) (@pb_28))) (And.intro (And.intro (@pb_29) (@pb_30)) (And.intro (@pb_31) (And.intro (@pb_32) (@pb_33)))))) (And.intro (And.intro (And.intro (And.intro (@pb_34) (@pb_35)) (And.intro (@pb_36) (@pb_37))) (And.intro (And.intro (@pb_38) (@pb_39)) (And.intro (@pb_40) (And.intro (@pb_41) (@pb_42))))) (And.intro (And.intro (And.intro (@pb_43) (@pb_44)) (And.intro (@pb_45) (And.intro (@pb_46) (@pb_47)))) (And.intro (And.intro (@pb_48) (@pb_49)) (And.intro (@pb_50) (And.intro (@pb_51) (@pb_52))))))) (And.intro (And.intro (And.intro (And.intro (And.intro (@pb_53) (@pb_54)) (And.intro (@pb_55) (@pb_56))) (And.intro (And.intro (@pb_57) (@pb_58)) (And.intro (@pb_59) (And.intro (@pb_60) (@pb_61))))) (And.intro (And.intro (And.intro (@pb_62) (@pb_63)) (And.intro (@pb_64) (And.intro (@pb_65) (@pb_66)))) (And.intro (And.intro (@pb_67) (@pb_68)) (And.intro (@pb_69) (And.intro (@pb_70) (@pb_71)))))) (And.intro (And.intro (And.intro (And.intro (@pb_72) (@pb_73)) (And.intro (@pb_74) (@pb_75))) (And.intro (And.intro (@pb_76) (@pb_77)) (And.intro (@pb_78) (And.intro (@pb_79) (@pb_80))))) (And.intro (And.intro (And.intro (@pb_81) (@pb_82)) (And.intro (@ik_22) (And.intro (@ik_42) (@ik_57)))) (And.intro (And.intro (@ik_63) (@ik_90)) (And.intro (@ni_22) (And.intro (@ni_42) (@ni_63))))))))) := And.intro (And.intro (And.intro (And.intro (And.intro (And.intro (And.intro (@bs_33) (@bs_34)) (And.intro (@bs_57) (@bs_59))) (And.intro (And.intro (@bs_67) (@bs_78)) (And.intro (@ia_2) (And.intro (@ia_3) (@ia_4))))) (And.intro (And.intro (And.intro (@ia_5) (@ia_22)) (And.intro (@ia_24) (@ia_25))) (And.intro (And.intro (@ia_33) (@ia_34)) (And.intro (@ia_42) (And.intro (@ia_55) (@ia_57)))))) (And.intro (And.intro (And.intro (And.intro (@ia_59) (@ia_63)) (And.intro (@ia_67) (@ia_74))) (And.intro (And.intro (@ia_78) (@ia_85)) (And.intro (@ia_87) (And.intro (@ia_90) (@sz_2))))) (And.intro (And.intro (And.intro (@sz_3) (@sz_4)) (And.intro (@sz_5) (And.intro (@sz_22) (@sz_24)))) (And.intro (And.intro (@sz_25) (@sz_33)) (And.intro (@sz_34) (And.intro (@sz_42) (@sz_55))))))) (And.intro (And.intro (And.intro (And.intro (And.intro (@sz_57) (@sz_59)) (And.intro (@sz_63) (@sz_67))) (And.intro (And.intro (@sz_74) (@sz_78)) (And.intro (@sz_85) (And.intro (@sz_87) (@sz_90))))) (And.intro (And.intro (And.intro (@ze_2) (@ze_3)) (And.intro (@ze_4) (And.intro (@ze_5) (@ze_22)))) (And.intro (And.intro (@ze_24) (@ze_33)) (And.intro (@ze_34) (And.intro (@ze_42) (@ze_55)))))) (And.intro (And.intro (And.intro (And.intro (@ze_57) (@ze_59)) (And.intro (@ze_63) (@ze_67))) (And.intro (And.intro (@ze_74) (@ze_78)) (And.intro (@ze_85) (And.intro (@ze_87) (@ze_90))))) (And.intro (And.intro (And.intro (@fo_33_0) (@fo_33_1)) (And.intro (@fo_34_0) (And.intro (@fo_34_1) (@fo_59_0)))) (And.intro (And.intro (@fo_59_1) (@fo_67_0)) (And.intro (@fo_67_1) (And.intro (@fo_78_0) (@pb_15)))))))) (And.intro (And.intro (And.intro (And.intro (And.intro (And.intro (@pb_16) (@pb_17)) (And.intro (@pb_18) (@pb_19))) (And.intro (And.intro (@pb_20) (@pb_21)) (And.intro (@pb_22) (And.intro (@pb_23) (@pb_24))))) (And.intro (And.intro (And.intro (@pb_25) (@pb_26)) (And.intro (@pb_27) (@pb_28))) (And.intro (And.intro (@pb_29) (@pb_30)) (And.intro (@pb_31) (And.intro (@pb_32) (@pb_33)))))) (And.intro (And.intro (And.intro (And.intro (@pb_34) (@pb_35)) (And.intro (@pb_36) (@pb_37))) (And.intro (And.intro (@pb_38) (@pb_39)) (And.intro (@pb_40) (And.intro (@pb_41) (@pb_42))))) (And.intro (And.intro (And.intro (@pb_43) (@pb_44)) (And.intro (@pb_45) (And.intro (@pb_46) (@pb_47)))) (And.intro (And.intro (@pb_48) (@pb_49)) (And.intro (@pb_50) (And.intro (@pb_51) (@pb_52))))))) (And.intro (And.intro (And.intro (And.intro (And.intro (@pb_53) (@pb_54)) (And.intro (@pb_55) (@pb_56))) (And.intro (And.intro (@pb_57) (@pb_58)) (And.intro (@pb_59) (And.intro (@pb_60) (@pb_61))))) (And.intro (And.intro (And.intro (@pb_62) (@pb_63)) (And.intro (@pb_64) (And.intro (@pb_65) (@pb_66)))) (And.intro (And.intro (@pb_67) (@pb_68)) (And.intro (@pb_69) (And.intro (@pb_70) (@pb_71)))))) (And.intro (And.intro (And.intro (And.intro (@pb_72) (@pb_73)) (And.intro (@pb_74) (@pb_75))) (And.intro (And.intro (@pb_76) (@pb_77)) (And.intro (@pb_78) (And.intro (@pb_79) (@pb_80))))) (And.intro (And.intro (And.intro (@pb_81) (@pb_82)) (And.intro (@ik_22) (And.intro (@ik_42) (@ik_57)))) (And.intro (And.intro (@ik_63) (@ik_90)) (And.intro (@ni_22) (And.intro (@ni_42) (@ni_63))))))))
/-- What is made, where nothing is wrong. -/
theorem madeI_ok {xs ys : List Int} {many : Nat} (he : errRun xs ys (many : Int) = 0) : madeI xs ys (many : Int) = (mL (runS (bN (bitL xs)) (bitL xs).length (sq (bitL ys))) many).map (fun b => ((b.toNat : Nat) : Int)) := by
  unfold madeI
  rw [if_pos he, Int.toNat_natCast]
theorem bitL_ints (bs : List Bool) : bitL (bs.map fun b => ((b.toNat : Nat) : Int)) = bs := by
  unfold bitL
  rw [List.map_map]
  have : ((fun x : Int => x == 1) ∘ fun b : Bool => ((b.toNat : Nat) : Int)) = id := by
    funext b; cases b <;> rfl
  rw [this, List.map_id]
theorem good_ints (bs : List Bool) : good (bs.map fun b => ((b.toNat : Nat) : Int)) = true := by
  unfold good
  rw [List.all_map]
  refine List.all_eq_true.2 fun b _ => ?_
  cases b <;> rfl
theorem ints_bitL {xs : List Int} (h : good xs = true) : xs = (bitL xs).map fun b => ((b.toNat : Nat) : Int) := by
  unfold bitL
  rw [List.map_map]
  refine (List.map_id xs).symm.trans (List.map_congr_left fun x hx => ?_)
  have := List.all_eq_true.1 h x hx
  simp at this
  rcases this with rfl | rfl <;> rfl
theorem errRun_ok {xs ys : List Int} {n : Nat} (hx : errB xs = 0) (hy : errB ys = 0) (hl : ys.length = xs.length) (hn : n ≤ 4096) : errRun xs ys (n : Int) = 0 := by
  unfold errRun err3 err2
  rw [if_pos hx, if_pos hy, if_pos hl, if_pos rfl, if_neg (by omega), if_neg (by omega)]
theorem run_makes {T L n : Nat} {s m x : Nat → Bool} (h : IsRun T L s m) (e : ∀ i, i < n → x i = m i) : Makes T L x n := fun i h1 h2 => by
  rw [e i h2, h.then_ i h1]
  exact pred_congr h1 fun j hj => (e j (by omega)).symm
theorem bits_eq {T L : Nat} {os : List Int} (hg : good os = true) (hl : os.length = L) (e : ∀ j, j < L → (bN (bitL os)).testBit j = T.testBit j) : os = tapI T L := by
  rw [ints_bitL hg]
  unfold tapI
  congr 1
  apply List.ext_getElem?
  intro i
  have hbl := bitL_length os
  unfold bitsL
  rw [List.getElem?_map]
  by_cases hi : i < L
  · rw [List.getElem?_range hi, List.getElem?_eq_getElem (by omega)]
    have := e i hi
    rw [bN_bit, List.getD_eq_getElem?_getD, List.getElem?_eq_getElem (by omega)] at this
    exact congrArg some this
  · rw [List.getElem?_eq_none (by omega), List.getElem?_eq_none (by simp; omega)]; rfl
theorem conv_u8 {n : Int} (hn : 0 ≤ n ∧ n ≤ 255) : convE Try.prog 5 3 (.int .u8 n) = some (.int .i64 n) := by
  rw [c_int Try.underlying5 Try.underlying3]
  rw [wrap_in _ (by omega) (by omega)]
theorem regE_zero {bs ts : List Bool} : regE bs ts = 0 ↔ Makes (bN ts) ts.length (sq bs) bs.length := by
  unfold regE
  rw [← makesB_iff]
  cases makesB (bN ts) ts.length (sq bs) bs.length <;> simp
theorem errReg_ok {xs ys : List Int} (hx : errB xs = 0) (hy : errB ys = 0) : errReg xs ys = regE (bitL xs) (bitL ys) := by
  unfold errReg err2
  rw [if_pos hx, hy, if_pos rfl]
theorem errB_tapI {T L : Nat} (h : L ≤ 128) : errB (tapI T L) = 0 := errB_ok.2 ⟨by rw [tapI_len]; exact h, tapI_good T L⟩
theorem lawOnly (xs ys os : List Int) (k : Int) (hk : 0 ≤ k ∧ k ≤ 255) (a b c : AV) (ha : CapU 1 a) (hb : CapU 1 b) (hc : CapU 1 c) (h : H) (wf : Wf h) (hs : Sl h a 1 xs.length (xs.map ii)) (ht : Sl h b 1 ys.length (ys.map ii)) (hz : Sl h c 1 os.length (os.map ii)) :
    (om Try.prog KK).call (.fn 8 [a, b, .int .u8 k, c]) h = .ok (.bool true) h := by
  have hl : ∀ h', lenE Try.prog 22 a h' = some (ii (xs.length : Int)) := fun h' => hs.len un_22
  have hl2 : ∀ h', lenE Try.prog 22 b h' = some (ii (ys.length : Int)) := fun h' => ht.len un_22
  have hl3 : ∀ h', lenE Try.prog 22 c h' = some (ii (os.length : Int)) := fun h' => hz.len un_22
  obtain ⟨f1, f2⟩ := sl_flat hs
  obtain ⟨f3, f4⟩ := sl_flat ht
  obtain ⟨f5, f6⟩ := sl_flat hz
  have cf1 : ∀ (l : List AO) (w : Nat), w ≤ h.clock + l.length → (om Try.prog KK).call (.fn 37 [a]) (X h l w) = .ok (.bool (decide (errB xs = 0))) (X h l w) := fun l w hw => fine xs a _ (wf.X hw) (hs.up wf l w)
  have cf2 : ∀ (l : List AO) (w : Nat), w ≤ h.clock + l.length → (om Try.prog KK).call (.fn 37 [b]) (X h l w) = .ok (.bool (decide (errB ys = 0))) (X h l w) := fun l w hw => fine ys b _ (wf.X hw) (ht.up wf l w)
  have cf3 : ∀ (l : List AO) (w : Nat), w ≤ h.clock + l.length → (om Try.prog KK).call (.fn 37 [c]) (X h l w) = .ok (.bool (decide (errB os = 0))) (X h l w) := fun l w hw => fine os c _ (wf.X hw) (hz.up wf l w)
  refine WV_to (WV_call (fn := Try.f8) Try.func8 rfl rfl rfl rfl rfl ?_)
  simp only [argF]
  by_cases hg : errB xs = 0 ∧ errB ys = 0 ∧ ys.length = xs.length ∧ xs.length ≤ 40 ∧ os.length ≤ 128
  · obtain ⟨hx, hy, hlen, h40, ho⟩ := hg
    rw [decide_eq_true hx] at cf1
    rw [decide_eq_true hy] at cf2
    obtain ⟨n, hn⟩ : ∃ n : Nat, k.tmod 129 = (n : Int) := ⟨(k.tmod 129).toNat, by rw [Int.tmod_eq_emod_of_nonneg hk.1]; omega⟩
    have hn128 : n ≤ 128 := by rw [Int.tmod_eq_emod_of_nonneg hk.1] at hn; omega
    have n129 : (129 : Int) ≠ 0 := by decide
    have he := errRun_ok (n := n) hx hy hlen (by omega)
    have hxl := bitL_length xs
    -- the bits
    obtain ⟨v1, M1, hcv1, s1, e1⟩ := run_any xs ys (n : Int) a b hb (X h [] h.clock) (wf.X (by simp)) (hs.up wf _ _) (ht.up wf _ _)
    rw [X_X, X_w, List.nil_append, he] at e1
    rw [X_X, X_w, List.nil_append] at s1
    have hmade := madeI_ok he
    have hrun := runS_is (bN (bitL xs)) (bitL xs).length (sq (bitL ys))
    generalize hm : runS (bN (bitL xs)) (bitL xs).length (sq (bitL ys)) = m at *
    generalize hzs : madeI xs ys (n : Int) = zs at *
    have hzl : zs.length = n := by rw [hmade, List.length_map, mL_length]
    have hzb : bitL zs = mL m n := by rw [hmade, bitL_ints]
    have hze : errB zs = 0 := errB_ok.2 ⟨by omega, by rw [hmade]; exact good_ints _⟩
    have hsq : ∀ i, i < n → sq (bitL zs) i = m i := fun i hi => by rw [hzb, sq_mL m hi]
    have w1 := wf.X (l := M1) (w := h.clock) (by omega)
    obtain ⟨p1, p2⟩ := sl_flat s1
    have lv1 : ∀ h', lenE Try.prog 22 v1 h' = some (ii (n : Int)) := fun h' => by have := s1.len (P := Try.prog) (h' := h') un_22; rwa [hzl] at this
    -- the shortest register
    obtain ⟨T, L, M2, v2, q2, t2, k2, m2, cv2, s2, e2⟩ := short_any zs hze v1 hcv1 (X h M1 h.clock) w1 s1
    rw [X_X, X_w] at e2
    simp only [X_X] at s2
    rw [hzl] at q2 k2 m2
    obtain ⟨p3, p4⟩ := sl_flat (s2 [] 0)
    have lv2 : ∀ h', lenE Try.prog 22 v2 h' = some (ii (L : Int)) := fun h' => by have := (s2 [] 0).len (P := Try.prog) (h' := h') un_22; rwa [tapI_len] at this
    have hLx : L ≤ xs.length := by
      have := q2.least _ _ (run_makes hrun hsq)
      omega
    have w2 : ∀ J w, w ≤ h.clock + (M1.length + (M2.length + J.length)) → Wf (X h (M1 ++ (M2 ++ J)) w) := fun J w hw => wf.X (by simp only [List.length_append]; omega)
    have s1' : ∀ J w, Sl (X h (M1 ++ J) w) v1 1 zs.length (zs.map ii) := fun J w => by
      have := s1.up w1 J w
      rwa [X_X] at this
    have s2' : ∀ J w, Sl (X h (M1 ++ (M2 ++ J)) w) v2 1 (tapI T L).length ((tapI T L).map ii) := s2
    have hzB : bN (bitL (tapI T L)) = T := by rw [tapI_bitL, bN_bitsL t2]
    have htl : (bitL (tapI T L)).length = L := by rw [tapI_bitL, bitsL_length]
    have hbz : (bitL zs).length = n := by rw [bitL_length]; exact hzl
    have hte : errB (tapI T L) = 0 := errB_tapI (by omega)
    have er0 : errReg zs (tapI T L) = 0 := by
      rw [errReg_ok hze hte, regE_zero, hzB, htl, hbz]
      exact m2
    have cfz : ∀ J w, w ≤ h.clock + (M1.length + J.length) → (om Try.prog KK).call (.fn 37 [v1]) (X h (M1 ++ J) w) = .ok (.bool true) (X h (M1 ++ J) w) := fun J w hw => by
      rw [fine zs v1 _ (wf.X (by rw [List.length_append]; exact hw)) (s1' J w), decide_eq_true hze]
    have cr1 : ∀ w, w ≤ h.clock + (M1.length + M2.length) → (om Try.prog KK).call (.fn 22 [v1, v2]) (X h (M1 ++ M2) w) = .ok (ii 0) (X h (M1 ++ M2) w) := fun w hw => by
      have s2n := s2' [] w
      rw [List.append_nil] at s2n
      rw [rcheckRegister zs (tapI T L) v1 v2 hcv1 _ (wf.X (by rw [List.length_append]; exact hw)) (s1' M2 w) s2n, er0]
    have cr2 : ∀ w, w ≤ h.clock + (M1.length + M2.length) → (om Try.prog KK).call (.fn 21 [v1, c]) (X h (M1 ++ M2) w) = .ok (ii (errReg zs os)) (X h (M1 ++ M2) w) := fun w hw =>
      checkRegister zs os v1 c hcv1 _ (wf.X (by rw [List.length_append]; exact hw)) (s1' M2 w) (hz.up wf _ _)
    have hos : 2 * L ≤ n → os.length = L → errB os = 0 → errReg zs os = 0 → os = tapI T L := fun g1 g2 g3 g4 => by
      rw [errReg_ok hze g3, regE_zero, hbz, bitL_length, g2] at g4
      exact bits_eq (errB_ok.1 g3).2 g2 fun j hj => only_one q2.least g1 g4 m2 j hj
    have ci1 : os = tapI T L → ∀ w, w ≤ h.clock + (M1.length + M2.length) → (om Try.prog KK).call (.fn 20 [c, v2]) (X h (M1 ++ M2) w) = .ok (.bool true) (X h (M1 ++ M2) w) := fun ho2 w hw => by
      have s2n := s2' [] w
      rw [List.append_nil] at s2n
      rw [ints os (tapI T L) (by omega) c v2 _ (wf.X (by rw [List.length_append]; exact hw)) (hz.up wf _ _) s2n, decide_eq_true ho2]
    have hmul : ∀ j : Nat, j ≤ 1000 → IntKind.i64.wrap (2 * (j : Int)) = ((2 * j : Nat) : Int) := fun j hj => by
      rw [wrap_in _ (by omega) (by omega)]; omega
    have hmL := hmul L (by omega)
    have hmx := hmul xs.length (by omega)
    generalize hern : errReg zs os = er at *
    -- the runs
    obtain ⟨v3, M3, _, s3, e3⟩ := run_any xs ys (200 : Nat) a b hb (X h (M1 ++ M2) h.clock) (wf.X (by omega)) (hs.up wf _ _) (ht.up wf _ _)
    rw [X_X, X_w, errRun_ok hx hy hlen (by omega)] at e3
    rw [X_X, X_w] at s3
    obtain ⟨d, hcut, hsd, hcd⟩ := (s1' (M2 ++ M3) h.clock).cutTo (P := Try.prog) (k := L) (by omega) un_22 sz_3 (by omega) hcv1
    rw [Nat.mul_one, ← List.map_take] at hsd
    obtain ⟨p7, p8⟩ := sl_flat hsd
    have ltk : (zs.take L).length = L := by rw [List.length_take]; omega
    obtain ⟨v4, M4, _, s4, e4⟩ := run_any (tapI T L) (zs.take L) (200 : Nat) v2 d hcd (X h (M1 ++ (M2 ++ M3)) h.clock) (wf.X (by omega)) (s2' M3 h.clock) (by rw [ltk]; exact hsd)
    rw [X_X, X_w, errRun_ok hte (errB_take L hze) (by rw [ltk, tapI_len]) (by omega)] at e4
    rw [X_X, X_w] at s4
    simp only [List.append_assoc] at e3 e4 s3 s4
    obtain ⟨p5, p6⟩ := sl_flat s3
    obtain ⟨p9, p10⟩ := sl_flat s4
    have hsame : 2 * xs.length ≤ n → madeI xs ys ((200 : Nat) : Int) = madeI (tapI T L) (zs.take L) ((200 : Nat) : Int) := fun h2 => by
      rw [madeI_ok (errRun_ok hx hy hlen (by omega)), madeI_ok (errRun_ok hte (errB_take L hze) (by rw [ltk, tapI_len]) (by omega)), hm, hzB, htl]
      have hrun2 := runS_is T L (sq (bitL (zs.take L)))
      generalize runS T L (sq (bitL (zs.take L))) = m' at *
      have hrun3 : IsRun T L (sq (bitL zs)) m' := ⟨fun i hi => by rw [hrun2.first i hi, sq_bitL_take hi], hrun2.then_⟩
      have agree : ∀ i, i < (bitL xs).length + L → m i = m' i := fun i hi => by
        rw [← hsq i (by omega), hrun3.agree m2 (i + 1) i (by omega) (by omega)]
      have all := run_alike hrun hrun2 agree
      congr 1
      unfold mL
      exact List.map_congr_left fun i hi => all (i + 1) i (by omega)
    have hlen3 := madeI_len (xs := xs) (ys := ys) (many := ((200 : Nat) : Int))
    have ci2 : 2 * xs.length ≤ n → (om Try.prog KK).call (.fn 20 [v3, v4]) (X h (M1 ++ (M2 ++ (M3 ++ M4))) h.clock) = .ok (.bool true) (X h (M1 ++ (M2 ++ (M3 ++ M4))) h.clock) := fun h2 => by
      have w3 : Wf (X h (M1 ++ (M2 ++ M3)) h.clock) := wf.X (by omega)
      have s3' := s3.up w3 M4 h.clock
      rw [X_X] at s3'
      simp only [List.append_assoc] at s3'
      rw [ints _ _ (by omega) v3 v4 _ (wf.X (by omega)) s3' s4, decide_eq_true (hsame h2)]
    clear hsame
    have cfz0 : (om Try.prog KK).call (.fn 37 [v1]) (X h M1 h.clock) = .ok (.bool true) (X h M1 h.clock) := by
      have := cfz [] h.clock (by omega)
      rwa [List.append_nil] at this
    by_cases h2 : 2 * xs.length ≤ n
    · have ci2 := ci2 h2
      by_cases hAll : 2 * L ≤ n ∧ os.length = L ∧ errB os = 0 ∧ er = 0
      · have ci1 := ci1 (hos hAll.1 hAll.2.1 hAll.2.2.1 hAll.2.2.2)
        rw [decide_eq_true hAll.2.2.1] at cf3
        obtain ⟨_, _, _, rfl⟩ := hAll
        (repeat' (first
  | (with_reducible first | refine WC_seq ?_ | refine WC_skip ?_ | refine WC_label ?_ | refine WC_scope ?_ | refine WC_block ?_ | refine WC_ret ?_ | refine WC_exit ?_ | refine seqQ_norm ?_ | refine seqQ_ret ?_ | refine seqQ_exit ?_ | refine blkQ_norm ?_ | refine blkQ_ret ?_ | refine blkQ_here ?_ | refine gateK_yes ?_ | refine gateK_none ?_ | refine condK_tt ?_ | refine condK_ff ?_ | refine roundQ_exit ?_ | refine roundQ_ret ?_)
  | refine WC_region ?_ | refine blkQ_out rfl ?_ | refine WO_nil ?_ | refine WD_nil ?_
  | ((first | refine WD_gate rfl rfl rfl rfl rfl fun K_ hK_ => ?_ | refine WO_gate rfl rfl rfl rfl rfl fun K_ hK_ => ?_); simp only [upd_apply, asB_bool, asB_tup, ↓reduceIte, reduceCtorEq, Nat.reduceEqDiff, Bool.not_true, Bool.not_false]; refine hK_ _ ?_; clear hK_ K_)
  | refine gateK_no (by decide) ?_
  | ((try first | refine WO_op rfl rfl rfl ?_ | refine WO_op0 rfl rfl ?_ | refine WD_op rfl rfl rfl ?_ | refine WD_op0 rfl rfl ?_); (refine WV_gen fun Q_ hQ_ => ?_; simp (disch := first | omega | (simp only [List.length_cons, List.length_nil, List.length_append]; omega)) only [bb, bp, argF, ↓reduceIte, reduceCtorEq, Nat.reduceEqDiff, Nat.reduceLT, Nat.reduceLeDiff, Nat.reduceAdd, Nat.reduceMul, Nat.reduceSub, Nat.reduceBEq, Int.reduceToNat, cond_true, cond_false, eq_self, beq_self_eq_true, hl, hl2, hl3, lv1, lv2, hcut, conv_u8 hk, b_rem n129, hn, f1, f2, f3, f4, f5, f6, p1, p2, p3, p4, p5, p6, p7, p8, p9, p10, newPtr_X wf, load1_X wf, loadAgg_X wf, store1_X wf, writeCells_X wf, makeFunc_def, tEvZ19, bsl_22, bsl_42, bsl_63, bsl_90, newSlice_X wf]; first | (refine dec_split (Q := Q_) (fun hp_ => ?_) (fun hp_ => ?_) <;> first | (exfalso; omega) | (refine hQ_ _ _ ?_; clear hQ_ Q_)) | (refine dec_splitn (Q := Q_) (fun hp_ => ?_) (fun hp_ => ?_) <;> first | (exfalso; omega) | (refine hQ_ _ _ ?_; clear hQ_ Q_)) | (refine hQ_ _ _ ?_; clear hQ_ Q_) | (refine WV_eq (cf1 _ _ (by first | omega | (simp only [List.length_append, List.length_cons, List.length_nil]; omega))) ?_; refine hQ_ _ _ ?_; clear hQ_ Q_) | (refine WV_eq (cf2 _ _ (by first | omega | (simp only [List.length_append, List.length_cons, List.length_nil]; omega))) ?_; refine hQ_ _ _ ?_; clear hQ_ Q_) | (refine WV_eq (e1) ?_; refine hQ_ _ _ ?_; clear hQ_ Q_) | (refine WV_eq (cfz0) ?_; refine hQ_ _ _ ?_; clear hQ_ Q_) | (refine WV_eq (e2) ?_; refine hQ_ _ _ ?_; clear hQ_ Q_) | (refine WV_eq (cr1 _ (by first | omega | (simp only [List.length_append, List.length_cons, List.length_nil]; omega))) ?_; refine hQ_ _ _ ?_; clear hQ_ Q_) | (refine WV_eq (cr2 _ (by first | omega | (simp only [List.length_append, List.length_cons, List.length_nil]; omega))) ?_; refine hQ_ _ _ ?_; clear hQ_ Q_) | (refine WV_eq (e3) ?_; refine hQ_ _ _ ?_; clear hQ_ Q_) | (refine WV_eq (e4) ?_; refine hQ_ _ _ ?_; clear hQ_ Q_) | (refine WV_eq (cf3 _ _ (by first | omega | (simp only [List.length_append, List.length_cons, List.length_nil]; omega))) ?_; refine hQ_ _ _ ?_; clear hQ_ Q_) | (refine WV_eq (ci1 _ (by first | omega | (simp only [List.length_append, List.length_cons, List.length_nil]; omega))) ?_; refine hQ_ _ _ ?_; clear hQ_ Q_) | (refine WV_eq (ci2) ?_; refine hQ_ _ _ ?_; clear hQ_ Q_) | (refine WV_eq (works _) ?_; refine hQ_ _ _ ?_; clear hQ_ Q_)))
  | (refine WC_cond fun K_ hK_ => ?_; simp (disch := omega) only [evT_tmp, upd_apply, WB_some, ↓reduceIte, reduceCtorEq, Nat.reduceEqDiff, Nat.reduceLT]; refine hK_ _ ?_; clear hK_ K_)))
        all_goals (refine endQ_ret _ _ rfl (ret1 (by decide)) ?_; simp only [upd_apply, ↓reduceIte, reduceCtorEq, Nat.reduceEqDiff]; refine WV_flat rfl (by omega) ?_)
        all_goals exact ⟨rfl, rfl⟩
      · (repeat' (first
  | (with_reducible first | refine WC_seq ?_ | refine WC_skip ?_ | refine WC_label ?_ | refine WC_scope ?_ | refine WC_block ?_ | refine WC_ret ?_ | refine WC_exit ?_ | refine seqQ_norm ?_ | refine seqQ_ret ?_ | refine seqQ_exit ?_ | refine blkQ_norm ?_ | refine blkQ_ret ?_ | refine blkQ_here ?_ | refine gateK_yes ?_ | refine gateK_none ?_ | refine condK_tt ?_ | refine condK_ff ?_ | refine roundQ_exit ?_ | refine roundQ_ret ?_)
  | refine WC_region ?_ | refine blkQ_out rfl ?_ | refine WO_nil ?_ | refine WD_nil ?_
  | ((first | refine WD_gate rfl rfl rfl rfl rfl fun K_ hK_ => ?_ | refine WO_gate rfl rfl rfl rfl rfl fun K_ hK_ => ?_); simp only [upd_apply, asB_bool, asB_tup, ↓reduceIte, reduceCtorEq, Nat.reduceEqDiff, Bool.not_true, Bool.not_false]; refine hK_ _ ?_; clear hK_ K_)
  | refine gateK_no (by decide) ?_
  | ((try first | refine WO_op rfl rfl rfl ?_ | refine WO_op0 rfl rfl ?_ | refine WD_op rfl rfl rfl ?_ | refine WD_op0 rfl rfl ?_); (refine WV_gen fun Q_ hQ_ => ?_; simp (disch := first | omega | (simp only [List.length_cons, List.length_nil, List.length_append]; omega)) only [bb, bp, argF, ↓reduceIte, reduceCtorEq, Nat.reduceEqDiff, Nat.reduceLT, Nat.reduceLeDiff, Nat.reduceAdd, Nat.reduceMul, Nat.reduceSub, Nat.reduceBEq, Int.reduceToNat, cond_true, cond_false, eq_self, beq_self_eq_true, hl, hl2, hl3, lv1, lv2, hcut, conv_u8 hk, b_rem n129, hn, f1, f2, f3, f4, f5, f6, p1, p2, p3, p4, p5, p6, p7, p8, p9, p10, newPtr_X wf, load1_X wf, loadAgg_X wf, store1_X wf, writeCells_X wf, makeFunc_def, tEvZ19, bsl_22, bsl_42, bsl_63, bsl_90, newSlice_X wf]; first | (refine dec_split (Q := Q_) (fun hp_ => ?_) (fun hp_ => ?_) <;> first | (exfalso; omega) | (refine hQ_ _ _ ?_; clear hQ_ Q_)) | (refine dec_splitn (Q := Q_) (fun hp_ => ?_) (fun hp_ => ?_) <;> first | (exfalso; omega) | (refine hQ_ _ _ ?_; clear hQ_ Q_)) | (refine hQ_ _ _ ?_; clear hQ_ Q_) | (refine WV_eq (cf1 _ _ (by first | omega | (simp only [List.length_append, List.length_cons, List.length_nil]; omega))) ?_; refine hQ_ _ _ ?_; clear hQ_ Q_) | (refine WV_eq (cf2 _ _ (by first | omega | (simp only [List.length_append, List.length_cons, List.length_nil]; omega))) ?_; refine hQ_ _ _ ?_; clear hQ_ Q_) | (refine WV_eq (e1) ?_; refine hQ_ _ _ ?_; clear hQ_ Q_) | (refine WV_eq (cfz0) ?_; refine hQ_ _ _ ?_; clear hQ_ Q_) | (refine WV_eq (e2) ?_; refine hQ_ _ _ ?_; clear hQ_ Q_) | (refine WV_eq (cr1 _ (by first | omega | (simp only [List.length_append, List.length_cons, List.length_nil]; omega))) ?_; refine hQ_ _ _ ?_; clear hQ_ Q_) | (refine WV_eq (cr2 _ (by first | omega | (simp only [List.length_append, List.length_cons, List.length_nil]; omega))) ?_; refine hQ_ _ _ ?_; clear hQ_ Q_) | (refine WV_eq (e3) ?_; refine hQ_ _ _ ?_; clear hQ_ Q_) | (refine WV_eq (e4) ?_; refine hQ_ _ _ ?_; clear hQ_ Q_) | (refine WV_eq (cf3 _ _ (by first | omega | (simp only [List.length_append, List.length_cons, List.length_nil]; omega))) ?_; first | (refine dec_split (Q := Q_) (fun hp_ => ?_) (fun hp_ => ?_) <;> first | (exfalso; omega) | (refine hQ_ _ _ ?_; clear hQ_ Q_)) | (refine hQ_ _ _ ?_; clear hQ_ Q_)) | (refine WV_unmarkc (cf3 _ _ (by first | omega | (simp only [List.length_append, List.length_cons, List.length_nil]; omega))) ?_; first | (refine dec_split (Q := Q_) (fun hp_ => ?_) (fun hp_ => ?_) <;> first | (exfalso; omega) | (refine hQ_ _ _ ?_; clear hQ_ Q_)) | (refine hQ_ _ _ ?_; clear hQ_ Q_)) | (refine WV_eq (ci2) ?_; refine hQ_ _ _ ?_; clear hQ_ Q_) | (refine WV_eq (works _) ?_; refine hQ_ _ _ ?_; clear hQ_ Q_)))
  | (refine WC_cond fun K_ hK_ => ?_; simp (disch := omega) only [evT_tmp, upd_apply, WB_some, ↓reduceIte, reduceCtorEq, Nat.reduceEqDiff, Nat.reduceLT]; refine hK_ _ ?_; clear hK_ K_)))
        all_goals (refine endQ_ret _ _ rfl (ret1 (by decide)) ?_; simp only [upd_apply, ↓reduceIte, reduceCtorEq, Nat.reduceEqDiff]; refine WV_flat rfl (by omega) ?_)
        all_goals exact ⟨rfl, rfl⟩
    · by_cases hAll : 2 * L ≤ n ∧ os.length = L ∧ errB os = 0 ∧ er = 0
      · have ci1 := ci1 (hos hAll.1 hAll.2.1 hAll.2.2.1 hAll.2.2.2)
        rw [decide_eq_true hAll.2.2.1] at cf3
        obtain ⟨_, _, _, rfl⟩ := hAll
        (repeat' (first
  | (with_reducible first | refine WC_seq ?_ | refine WC_skip ?_ | refine WC_label ?_ | refine WC_scope ?_ | refine WC_block ?_ | refine WC_ret ?_ | refine WC_exit ?_ | refine seqQ_norm ?_ | refine seqQ_ret ?_ | refine seqQ_exit ?_ | refine blkQ_norm ?_ | refine blkQ_ret ?_ | refine blkQ_here ?_ | refine gateK_yes ?_ | refine gateK_none ?_ | refine condK_tt ?_ | refine condK_ff ?_ | refine roundQ_exit ?_ | refine roundQ_ret ?_)
  | refine WC_region ?_ | refine blkQ_out rfl ?_ | refine WO_nil ?_ | refine WD_nil ?_
  | ((first | refine WD_gate rfl rfl rfl rfl rfl fun K_ hK_ => ?_ | refine WO_gate rfl rfl rfl rfl rfl fun K_ hK_ => ?_); simp only [upd_apply, asB_bool, asB_tup, ↓reduceIte, reduceCtorEq, Nat.reduceEqDiff, Bool.not_true, Bool.not_false]; refine hK_ _ ?_; clear hK_ K_)
  | refine gateK_no (by decide) ?_
  | ((try first | refine WO_op rfl rfl rfl ?_ | refine WO_op0 rfl rfl ?_ | refine WD_op rfl rfl rfl ?_ | refine WD_op0 rfl rfl ?_); (refine WV_gen fun Q_ hQ_ => ?_; simp (disch := first | omega | (simp only [List.length_cons, List.length_nil, List.length_append]; omega)) only [bb, bp, argF, ↓reduceIte, reduceCtorEq, Nat.reduceEqDiff, Nat.reduceLT, Nat.reduceLeDiff, Nat.reduceAdd, Nat.reduceMul, Nat.reduceSub, Nat.reduceBEq, Int.reduceToNat, cond_true, cond_false, eq_self, beq_self_eq_true, hl, hl2, hl3, lv1, lv2, hcut, conv_u8 hk, b_rem n129, hn, f1, f2, f3, f4, f5, f6, p1, p2, p3, p4, p5, p6, p7, p8, p9, p10, newPtr_X wf, load1_X wf, loadAgg_X wf, store1_X wf, writeCells_X wf, makeFunc_def, tEvZ19, bsl_22, bsl_42, bsl_63, bsl_90, newSlice_X wf]; first | (refine dec_split (Q := Q_) (fun hp_ => ?_) (fun hp_ => ?_) <;> first | (exfalso; omega) | (refine hQ_ _ _ ?_; clear hQ_ Q_)) | (refine dec_splitn (Q := Q_) (fun hp_ => ?_) (fun hp_ => ?_) <;> first | (exfalso; omega) | (refine hQ_ _ _ ?_; clear hQ_ Q_)) | (refine hQ_ _ _ ?_; clear hQ_ Q_) | (refine WV_eq (cf1 _ _ (by first | omega | (simp only [List.length_append, List.length_cons, List.length_nil]; omega))) ?_; refine hQ_ _ _ ?_; clear hQ_ Q_) | (refine WV_eq (cf2 _ _ (by first | omega | (simp only [List.length_append, List.length_cons, List.length_nil]; omega))) ?_; refine hQ_ _ _ ?_; clear hQ_ Q_) | (refine WV_eq (e1) ?_; refine hQ_ _ _ ?_; clear hQ_ Q_) | (refine WV_eq (cfz0) ?_; refine hQ_ _ _ ?_; clear hQ_ Q_) | (refine WV_eq (e2) ?_; refine hQ_ _ _ ?_; clear hQ_ Q_) | (refine WV_eq (cr1 _ (by first | omega | (simp only [List.length_append, List.length_cons, List.length_nil]; omega))) ?_; refine hQ_ _ _ ?_; clear hQ_ Q_) | (refine WV_eq (cr2 _ (by first | omega | (simp only [List.length_append, List.length_cons, List.length_nil]; omega))) ?_; refine hQ_ _ _ ?_; clear hQ_ Q_) | (refine WV_eq (e3) ?_; refine hQ_ _ _ ?_; clear hQ_ Q_) | (refine WV_eq (e4) ?_; refine hQ_ _ _ ?_; clear hQ_ Q_) | (refine WV_eq (cf3 _ _ (by first | omega | (simp only [List.length_append, List.length_cons, List.length_nil]; omega))) ?_; refine hQ_ _ _ ?_; clear hQ_ Q_) | (refine WV_eq (ci1 _ (by first | omega | (simp only [List.length_append, List.length_cons, List.length_nil]; omega))) ?_; refine hQ_ _ _ ?_; clear hQ_ Q_) | (refine WV_eq (works _) ?_; refine hQ_ _ _ ?_; clear hQ_ Q_)))
  | (refine WC_cond fun K_ hK_ => ?_; simp (disch := omega) only [evT_tmp, upd_apply, WB_some, ↓reduceIte, reduceCtorEq, Nat.reduceEqDiff, Nat.reduceLT]; refine hK_ _ ?_; clear hK_ K_)))
        all_goals (refine endQ_ret _ _ rfl (ret1 (by decide)) ?_; simp only [upd_apply, ↓reduceIte, reduceCtorEq, Nat.reduceEqDiff]; refine WV_flat rfl (by omega) ?_)
        all_goals exact ⟨rfl, rfl⟩
      · (repeat' (first
  | (with_reducible first | refine WC_seq ?_ | refine WC_skip ?_ | refine WC_label ?_ | refine WC_scope ?_ | refine WC_block ?_ | refine WC_ret ?_ | refine WC_exit ?_ | refine seqQ_norm ?_ | refine seqQ_ret ?_ | refine seqQ_exit ?_ | refine blkQ_norm ?_ | refine blkQ_ret ?_ | refine blkQ_here ?_ | refine gateK_yes ?_ | refine gateK_none ?_ | refine condK_tt ?_ | refine condK_ff ?_ | refine roundQ_exit ?_ | refine roundQ_ret ?_)
  | refine WC_region ?_ | refine blkQ_out rfl ?_ | refine WO_nil ?_ | refine WD_nil ?_
  | ((first | refine WD_gate rfl rfl rfl rfl rfl fun K_ hK_ => ?_ | refine WO_gate rfl rfl rfl rfl rfl fun K_ hK_ => ?_); simp only [upd_apply, asB_bool, asB_tup, ↓reduceIte, reduceCtorEq, Nat.reduceEqDiff, Bool.not_true, Bool.not_false]; refine hK_ _ ?_; clear hK_ K_)
  | refine gateK_no (by decide) ?_
  | ((try first | refine WO_op rfl rfl rfl ?_ | refine WO_op0 rfl rfl ?_ | refine WD_op rfl rfl rfl ?_ | refine WD_op0 rfl rfl ?_); (refine WV_gen fun Q_ hQ_ => ?_; simp (disch := first | omega | (simp only [List.length_cons, List.length_nil, List.length_append]; omega)) only [bb, bp, argF, ↓reduceIte, reduceCtorEq, Nat.reduceEqDiff, Nat.reduceLT, Nat.reduceLeDiff, Nat.reduceAdd, Nat.reduceMul, Nat.reduceSub, Nat.reduceBEq, Int.reduceToNat, cond_true, cond_false, eq_self, beq_self_eq_true, hl, hl2, hl3, lv1, lv2, hcut, conv_u8 hk, b_rem n129, hn, f1, f2, f3, f4, f5, f6, p1, p2, p3, p4, p5, p6, p7, p8, p9, p10, newPtr_X wf, load1_X wf, loadAgg_X wf, store1_X wf, writeCells_X wf, makeFunc_def, tEvZ19, bsl_22, bsl_42, bsl_63, bsl_90, newSlice_X wf]; first | (refine dec_split (Q := Q_) (fun hp_ => ?_) (fun hp_ => ?_) <;> first | (exfalso; omega) | (refine hQ_ _ _ ?_; clear hQ_ Q_)) | (refine dec_splitn (Q := Q_) (fun hp_ => ?_) (fun hp_ => ?_) <;> first | (exfalso; omega) | (refine hQ_ _ _ ?_; clear hQ_ Q_)) | (refine hQ_ _ _ ?_; clear hQ_ Q_) | (refine WV_eq (cf1 _ _ (by first | omega | (simp only [List.length_append, List.length_cons, List.length_nil]; omega))) ?_; refine hQ_ _ _ ?_; clear hQ_ Q_) | (refine WV_eq (cf2 _ _ (by first | omega | (simp only [List.length_append, List.length_cons, List.length_nil]; omega))) ?_; refine hQ_ _ _ ?_; clear hQ_ Q_) | (refine WV_eq (e1) ?_; refine hQ_ _ _ ?_; clear hQ_ Q_) | (refine WV_eq (cfz0) ?_; refine hQ_ _ _ ?_; clear hQ_ Q_) | (refine WV_eq (e2) ?_; refine hQ_ _ _ ?_; clear hQ_ Q_) | (refine WV_eq (cr1 _ (by first | omega | (simp only [List.length_append, List.length_cons, List.length_nil]; omega))) ?_; refine hQ_ _ _ ?_; clear hQ_ Q_) | (refine WV_eq (cr2 _ (by first | omega | (simp only [List.length_append, List.length_cons, List.length_nil]; omega))) ?_; refine hQ_ _ _ ?_; clear hQ_ Q_) | (refine WV_eq (e3) ?_; refine hQ_ _ _ ?_; clear hQ_ Q_) | (refine WV_eq (e4) ?_; refine hQ_ _ _ ?_; clear hQ_ Q_) | (refine WV_eq (cf3 _ _ (by first | omega | (simp only [List.length_append, List.length_cons, List.length_nil]; omega))) ?_; first | (refine dec_split (Q := Q_) (fun hp_ => ?_) (fun hp_ => ?_) <;> first | (exfalso; omega) | (refine hQ_ _ _ ?_; clear hQ_ Q_)) | (refine hQ_ _ _ ?_; clear hQ_ Q_)) | (refine WV_unmarkc (cf3 _ _ (by first | omega | (simp only [List.length_append, List.length_cons, List.length_nil]; omega))) ?_; first | (refine dec_split (Q := Q_) (fun hp_ => ?_) (fun hp_ => ?_) <;> first | (exfalso; omega) | (refine hQ_ _ _ ?_; clear hQ_ Q_)) | (refine hQ_ _ _ ?_; clear hQ_ Q_)) | (refine WV_eq (works _) ?_; refine hQ_ _ _ ?_; clear hQ_ Q_)))
  | (refine WC_cond fun K_ hK_ => ?_; simp (disch := omega) only [evT_tmp, upd_apply, WB_some, ↓reduceIte, reduceCtorEq, Nat.reduceEqDiff, Nat.reduceLT]; refine hK_ _ ?_; clear hK_ K_)))
        all_goals (refine endQ_ret _ _ rfl (ret1 (by decide)) ?_; simp only [upd_apply, ↓reduceIte, reduceCtorEq, Nat.reduceEqDiff]; refine WV_flat rfl (by omega) ?_)
        all_goals exact ⟨rfl, rfl⟩
  · by_cases hx : errB xs = 0
    · by_cases hy : errB ys = 0
      · rw [decide_eq_true hx] at cf1
        rw [decide_eq_true hy] at cf2
        (repeat' (first
  | (with_reducible first | refine WC_seq ?_ | refine WC_skip ?_ | refine WC_label ?_ | refine WC_scope ?_ | refine WC_block ?_ | refine WC_ret ?_ | refine WC_exit ?_ | refine seqQ_norm ?_ | refine seqQ_ret ?_ | refine seqQ_exit ?_ | refine blkQ_norm ?_ | refine blkQ_ret ?_ | refine blkQ_here ?_ | refine gateK_yes ?_ | refine gateK_none ?_ | refine condK_tt ?_ | refine condK_ff ?_ | refine roundQ_exit ?_ | refine roundQ_ret ?_)
  | refine WC_region ?_ | refine blkQ_out rfl ?_ | refine WO_nil ?_ | refine WD_nil ?_
  | ((first | refine WD_gate rfl rfl rfl rfl rfl fun K_ hK_ => ?_ | refine WO_gate rfl rfl rfl rfl rfl fun K_ hK_ => ?_); simp only [upd_apply, asB_bool, asB_tup, ↓reduceIte, reduceCtorEq, Nat.reduceEqDiff, Bool.not_true, Bool.not_false]; refine hK_ _ ?_; clear hK_ K_)
  | refine gateK_no (by decide) ?_
  | ((try first | refine WO_op rfl rfl rfl ?_ | refine WO_op0 rfl rfl ?_ | refine WD_op rfl rfl rfl ?_ | refine WD_op0 rfl rfl ?_); (refine WV_gen fun Q_ hQ_ => ?_; simp (disch := first | omega | (simp only [List.length_cons, List.length_nil, List.length_append]; omega)) only [bb, bp, argF, ↓reduceIte, reduceCtorEq, Nat.reduceEqDiff, Nat.reduceLT, Nat.reduceLeDiff, Nat.reduceAdd, Nat.reduceMul, Nat.reduceSub, Nat.reduceBEq, Int.reduceToNat, cond_true, cond_false, eq_self, beq_self_eq_true, hl, hl2, hl3, f1, f2, f3, f4, f5, f6, newPtr_X wf, load1_X wf, loadAgg_X wf, store1_X wf, writeCells_X wf, makeFunc_def, tEvZ19, bsl_22, bsl_42, bsl_63, bsl_90, newSlice_X wf]; first | (refine dec_split (Q := Q_) (fun hp_ => ?_) (fun hp_ => ?_) <;> first | (exfalso; omega) | (refine hQ_ _ _ ?_; clear hQ_ Q_)) | (refine dec_splitn (Q := Q_) (fun hp_ => ?_) (fun hp_ => ?_) <;> first | (exfalso; omega) | (refine hQ_ _ _ ?_; clear hQ_ Q_)) | (refine hQ_ _ _ ?_; clear hQ_ Q_) | (refine WV_eq (cf1 _ _ (by first | omega | (simp only [List.length_append, List.length_cons, List.length_nil]; omega))) ?_; refine hQ_ _ _ ?_; clear hQ_ Q_) | (refine WV_eq (cf2 _ _ (by first | omega | (simp only [List.length_append, List.length_cons, List.length_nil]; omega))) ?_; refine hQ_ _ _ ?_; clear hQ_ Q_) | (refine WV_eq (works _) ?_; refine hQ_ _ _ ?_; clear hQ_ Q_)))
  | (refine WC_cond fun K_ hK_ => ?_; simp (disch := omega) only [evT_tmp, upd_apply, WB_some, ↓reduceIte, reduceCtorEq, Nat.reduceEqDiff, Nat.reduceLT]; refine hK_ _ ?_; clear hK_ K_)))
        all_goals (refine endQ_ret _ _ rfl (ret1 (by decide)) ?_; simp only [upd_apply, ↓reduceIte, reduceCtorEq, Nat.reduceEqDiff]; refine WV_flat rfl (by omega) ?_)
        all_goals exact ⟨rfl, rfl⟩
      · rw [decide_eq_true hx] at cf1
        rw [decide_eq_false hy] at cf2
        (repeat' (first
  | (with_reducible first | refine WC_seq ?_ | refine WC_skip ?_ | refine WC_label ?_ | refine WC_scope ?_ | refine WC_block ?_ | refine WC_ret ?_ | refine WC_exit ?_ | refine seqQ_norm ?_ | refine seqQ_ret ?_ | refine seqQ_exit ?_ | refine blkQ_norm ?_ | refine blkQ_ret ?_ | refine blkQ_here ?_ | refine gateK_yes ?_ | refine gateK_none ?_ | refine condK_tt ?_ | refine condK_ff ?_ | refine roundQ_exit ?_ | refine roundQ_ret ?_)
  | refine WC_region ?_ | refine blkQ_out rfl ?_ | refine WO_nil ?_ | refine WD_nil ?_
  | ((first | refine WD_gate rfl rfl rfl rfl rfl fun K_ hK_ => ?_ | refine WO_gate rfl rfl rfl rfl rfl fun K_ hK_ => ?_); simp only [upd_apply, asB_bool, asB_tup, ↓reduceIte, reduceCtorEq, Nat.reduceEqDiff, Bool.not_true, Bool.not_false]; refine hK_ _ ?_; clear hK_ K_)
  | refine gateK_no (by decide) ?_
  | ((try first | refine WO_op rfl rfl rfl ?_ | refine WO_op0 rfl rfl ?_ | refine WD_op rfl rfl rfl ?_ | refine WD_op0 rfl rfl ?_); (refine WV_gen fun Q_ hQ_ => ?_; simp (disch := first | omega | (simp only [List.length_cons, List.length_nil, List.length_append]; omega)) only [bb, bp, argF, ↓reduceIte, reduceCtorEq, Nat.reduceEqDiff, Nat.reduceLT, Nat.reduceLeDiff, Nat.reduceAdd, Nat.reduceMul, Nat.reduceSub, Nat.reduceBEq, Int.reduceToNat, cond_true, cond_false, eq_self, beq_self_eq_true, hl, hl2, hl3, f1, f2, f3, f4, f5, f6, newPtr_X wf, load1_X wf, loadAgg_X wf, store1_X wf, writeCells_X wf, makeFunc_def, tEvZ19, bsl_22, bsl_42, bsl_63, bsl_90, newSlice_X wf]; first | (refine dec_split (Q := Q_) (fun hp_ => ?_) (fun hp_ => ?_) <;> first | (exfalso; omega) | (refine hQ_ _ _ ?_; clear hQ_ Q_)) | (refine dec_splitn (Q := Q_) (fun hp_ => ?_) (fun hp_ => ?_) <;> first | (exfalso; omega) | (refine hQ_ _ _ ?_; clear hQ_ Q_)) | (refine hQ_ _ _ ?_; clear hQ_ Q_) | (refine WV_eq (cf1 _ _ (by first | omega | (simp only [List.length_append, List.length_cons, List.length_nil]; omega))) ?_; refine hQ_ _ _ ?_; clear hQ_ Q_) | (refine WV_eq (cf2 _ _ (by first | omega | (simp only [List.length_append, List.length_cons, List.length_nil]; omega))) ?_; refine hQ_ _ _ ?_; clear hQ_ Q_) | (refine WV_eq (works _) ?_; refine hQ_ _ _ ?_; clear hQ_ Q_)))
  | (refine WC_cond fun K_ hK_ => ?_; simp (disch := omega) only [evT_tmp, upd_apply, WB_some, ↓reduceIte, reduceCtorEq, Nat.reduceEqDiff, Nat.reduceLT]; refine hK_ _ ?_; clear hK_ K_)))
        all_goals (refine endQ_ret _ _ rfl (ret1 (by decide)) ?_; simp only [upd_apply, ↓reduceIte, reduceCtorEq, Nat.reduceEqDiff]; refine WV_flat rfl (by omega) ?_)
        all_goals exact ⟨rfl, rfl⟩
    · rw [decide_eq_false hx] at cf1
      (repeat' (first
  | (with_reducible first | refine WC_seq ?_ | refine WC_skip ?_ | refine WC_label ?_ | refine WC_scope ?_ | refine WC_block ?_ | refine WC_ret ?_ | refine WC_exit ?_ | refine seqQ_norm ?_ | refine seqQ_ret ?_ | refine seqQ_exit ?_ | refine blkQ_norm ?_ | refine blkQ_ret ?_ | refine blkQ_here ?_ | refine gateK_yes ?_ | refine gateK_none ?_ | refine condK_tt ?_ | refine condK_ff ?_ | refine roundQ_exit ?_ | refine roundQ_ret ?_)
  | refine WC_region ?_ | refine blkQ_out rfl ?_ | refine WO_nil ?_ | refine WD_nil ?_
  | ((first | refine WD_gate rfl rfl rfl rfl rfl fun K_ hK_ => ?_ | refine WO_gate rfl rfl rfl rfl rfl fun K_ hK_ => ?_); simp only [upd_apply, asB_bool, asB_tup, ↓reduceIte, reduceCtorEq, Nat.reduceEqDiff, Bool.not_true, Bool.not_false]; refine hK_ _ ?_; clear hK_ K_)
  | refine gateK_no (by decide) ?_
  | ((try first | refine WO_op rfl rfl rfl ?_ | refine WO_op0 rfl rfl ?_ | refine WD_op rfl rfl rfl ?_ | refine WD_op0 rfl rfl ?_); (refine WV_gen fun Q_ hQ_ => ?_; simp (disch := first | omega | (simp only [List.length_cons, List.length_nil, List.length_append]; omega)) only [bb, bp, argF, ↓reduceIte, reduceCtorEq, Nat.reduceEqDiff, Nat.reduceLT, Nat.reduceLeDiff, Nat.reduceAdd, Nat.reduceMul, Nat.reduceSub, Nat.reduceBEq, Int.reduceToNat, cond_true, cond_false, eq_self, beq_self_eq_true, hl, hl2, hl3, f1, f2, f3, f4, f5, f6, newPtr_X wf, load1_X wf, loadAgg_X wf, store1_X wf, writeCells_X wf, makeFunc_def, tEvZ19, bsl_22, bsl_42, bsl_63, bsl_90, newSlice_X wf]; first | (refine dec_split (Q := Q_) (fun hp_ => ?_) (fun hp_ => ?_) <;> first | (exfalso; omega) | (refine hQ_ _ _ ?_; clear hQ_ Q_)) | (refine dec_splitn (Q := Q_) (fun hp_ => ?_) (fun hp_ => ?_) <;> first | (exfalso; omega) | (refine hQ_ _ _ ?_; clear hQ_ Q_)) | (refine hQ_ _ _ ?_; clear hQ_ Q_) | (refine WV_eq (cf1 _ _ (by first | omega | (simp only [List.length_append, List.length_cons, List.length_nil]; omega))) ?_; refine hQ_ _ _ ?_; clear hQ_ Q_) | (refine WV_eq (works _) ?_; refine hQ_ _ _ ?_; clear hQ_ Q_)))
  | (refine WC_cond fun K_ hK_ => ?_; simp (disch := omega) only [evT_tmp, upd_apply, WB_some, ↓reduceIte, reduceCtorEq, Nat.reduceEqDiff, Nat.reduceLT]; refine hK_ _ ?_; clear hK_ K_)))
      all_goals (refine endQ_ret _ _ rfl (ret1 (by decide)) ?_; simp only [upd_apply, ↓reduceIte, reduceCtorEq, Nat.reduceEqDiff]; refine WV_flat rfl (by omega) ?_)
      all_goals exact ⟨rfl, rfl⟩
end Go.Proofs.Ytmincoafjnnkpaa
end

/- EvZc8 -/
section
/- The statement WaveOnly of layer 5: if there are at least twice as many bits as the complexity, just one register of this length makes them, and a shortest one goes on like the register that made them, for all registers, starts and numbers; no condition. -/
namespace Go.Proofs.Ytmincoafjnnkpaa.waveOnly
open Go.ChangeShapes Go.WideShapes Go.ChangeAt Go.RowKit Go.Ev
set_option maxRecDepth 100000
set_option maxHeartbeats 0

theorem contract (H : Type) (enc : TypeId × Value → H) (W : World) (base : Nat) (args : Array Value) (ds gs : List (DataW H)) (before : List MemPlace) (hval : ∀ (j : Nat) t v, Try.f8.params[j]? = some t → args[j]? = some v → Value.okWide Try.prog W .any base t v)
    (hW : DataW.Whole enc Try.prog Try.f8.params.toList Rows.waveOnlySpec.vars false W args.toList ds gs before) :
    Calls Try.prog 8 args W fun e W' => ∃ v, e = .returned v ∧ Rows.waveOnlySpec.post enc Try.prog Try.f8 false true false false W args v W' := by
  have hW' := hW
  obtain ⟨p, q, hA0, hV, rfl, hfz, hnd⟩ := hW
  have hA : DataW.TrodAll enc Try.prog W 0 (fun _ => true) true Try.f8.params.toList args.toList ds p := hA0
  rw [Try.params8] at hA hval
  obtain ⟨v0, v1, v2, v3, d0, d1, d2, d3, p0, p1, p2, p3, rfl, rfl, rfl, ⟨n0, h0⟩, ⟨n1, h1⟩, ⟨n2, h2⟩, ⟨n3, h3⟩⟩ := trodAll_four hA
  have k0 := (okWide_cell (P := Try.prog) Try.underlying22 (fun _ e => by cases e) (fun _ _ e => by cases e) (hval 0 22 v0 rfl rfl))
  rw [slice_cells Try.underlying22 k0] at h0
  obtain ⟨a0, ls0, w0, q0, x0⟩ := ints_in k0 h0
  have k1 := (okWide_cell (P := Try.prog) Try.underlying22 (fun _ e => by cases e) (fun _ _ e => by cases e) (hval 1 22 v1 rfl rfl))
  rw [slice_cells Try.underlying22 k1] at h1
  obtain ⟨a1, ls1, w1, q1, x1⟩ := ints_in k1 h1
  obtain ⟨r2, hz2, hr2⟩ := okWideIntIn Try.underlying5 (okWide_cell (P := Try.prog) Try.underlying5 (fun _ e => by cases e) (fun _ _ e => by cases e) (hval 2 5 v2 rfl rfl))
  subst hz2
  have k3 := (okWide_cell (P := Try.prog) Try.underlying22 (fun _ e => by cases e) (fun _ _ e => by cases e) (hval 3 22 v3 rfl rfl))
  rw [slice_cells Try.underlying22 k3] at h3
  obtain ⟨a3, ls3, w3, q3, x3⟩ := ints_in k3 h3
  have walk := lawOnly ls0 ls1 ls3 r2 hr2 a0 a1 a3 (q0.capu 1) (q1.capu 1) (q3.capu 1) (startW W) (startW_wf W) x0 x1 x3
  have hargs : VL (startWR W) [a0, a1, .int .u8 r2, a3] (#[v0, v1, .int .u8 r2, v3] : Array Value).toList := (.cons _ _ _ _ w0 (.cons _ _ _ _ w1 (.cons _ _ _ _ (.int _ _) (.cons _ _ _ _ w3 .nil))))
  refine (startW_true (P := Try.prog) mixed (K := KK) (fun c hc => by
    have : c = cW := List.mem_singleton.1 hc
    rw [this]; exact cW_ok) walk hargs).mono fun e W' ⟨he, hgr, hs⟩ => ?_
  subst he
  refine ⟨_, rfl, law_post laidOut (by
    rw [Try.params8]
    intro t ht
    rcases List.mem_cons.1 ht with rfl | ht
    · exact ⟨by kernel_rfl, of_decide_eq_true (by kernel_rfl)⟩
    rcases List.mem_cons.1 ht with rfl | ht
    · exact ⟨by kernel_rfl, of_decide_eq_true (by kernel_rfl)⟩
    rcases List.mem_cons.1 ht with rfl | ht
    · exact ⟨by kernel_rfl, of_decide_eq_true (by kernel_rfl)⟩
    rcases List.mem_cons.1 ht with rfl | ht
    · exact ⟨by kernel_rfl, of_decide_eq_true (by kernel_rfl)⟩
    cases ht) rfl (by kernel_rfl) Try.underlying4 (fun gs' ⟨q', hq⟩ => ?_) hW' hgr hs⟩
  obtain ⟨rfl, _⟩ := trodVars_none hq
  exact ⟨rfl, rfl, rfl⟩

theorem lifted (os : Os) (started : os.Started) (H : Type) (enc : TypeId × Value → H) :
    ReturnsInHanded {} Try.checked os 8 .any (Rows.waveOnlySpec.pre6 enc Try.prog Try.f8 Rows.waveOnlyRow.domain false) (Rows.waveOnlySpec.post enc Try.prog Try.f8 false true false false) := by
  refine returnsInHanded_of_change (C := Try.checked) own started (by kernel_rfl) Try.func8
    (ChangeSpec.witness6 (enc := enc) (C := Try.checked) false ⟨#[], #[.slice none 0 0, .slice none 0 0, .int .u8 0, .slice none 0 0], []⟩ 8 (by kernel_rfl) (by kernel_rfl) (by kernel_rfl) (by kernel_rfl)) ?_
  intro W base args ds gs before hval hW _ _
  exact contract H enc W base args ds gs before hval hW

theorem holds : Rows.WaveOnlySaid :=
  OpenClaim.holds_of_wide 8 Try.f8 rfl rfl rfl rfl rfl rfl rfl ⟨rfl, rfl, rfl, rfl, rfl⟩ rfl rfl rfl rfl rfl (by kernel_rfl) Try.func8 (by kernel_rfl)
    (of_decide_eq_true (by kernel_rfl)) (by unfold Func.isWrapper; first | (rw [if_pos (by decide +kernel)]; kernel_rfl) | (rw [if_neg (by decide +kernel)]; exact ⟨rfl, rfl⟩))
    (fun os started H enc _ => lifted os started H enc)
end Go.Proofs.Ytmincoafjnnkpaa.waveOnly
end
