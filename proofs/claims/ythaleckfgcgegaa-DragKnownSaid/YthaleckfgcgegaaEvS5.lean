/-
  THE EVALUATOR'S SOUNDNESS, 5: addresses, slices, fields, numbers.
-/
import Derived.Test.YthaleckfgcgegaaEvS4
namespace Go.Ev

theorem fieldAddrE_run {P : Program} {ρ : R} {w : World} {s : TypeId} {f : Nat} {a v : AV} {a' : Value} (ha : VR ρ a a') (h : fieldAddrE P s a f = some v) : Pur P (Instr.fieldAt s a' f) ρ w v := by
  unfold fieldAddrE at h
  cases hp : asPtr a with
  | none => rw [hp] at h; cases h
  | some io =>
    obtain ⟨id, off⟩ := io
    rw [hp] at h
    obtain rfl := asPtr_some hp
    cases ha with
    | ptr _ _ b x hx hxp =>
      dsimp only at h
      unfold fieldOff at h
      cases hu : P.underlying s with
      | none => rw [hu] at h; cases h
      | some d =>
        rw [hu] at h
        cases d with
        | struct fields =>
          dsimp only at h
          cases hf : fields[f]? with
          | none => rw [hf] at h; cases h
          | some fd =>
            rw [hf] at h
            dsimp only at h
            cases hn : sizeE P fd.type with
            | none => rw [hn] at h; cases h
            | some n =>
              rw [hn] at h
              cases n with
              | zero => cases h
              | succ n =>
                dsimp only at h
                rw [forceNat_eq] at h
                unfold addOff at h
                dsimp only at h
                rw [forceNat_eq] at h
                cases h
                exact ⟨_, by simp [Instr.fieldAt, run_underlying hu, hf, Instr.sureAddr, fieldPlace, sizeE_run w hn, Addr.add_lit], .ptr _ _ b x hx hxp⟩
        | _ => cases h

theorem indexAddrE_run {P : Program} {ρ : R} {w : World} {t : TypeId} {a i v : AV} {a' i' : Value} (ha : VR ρ a a') (hi : VR ρ i i') (h : indexAddrE P t a i = some v) : Pur P (Instr.indexAt t a' i') ρ w v := by
  unfold indexAddrE at h
  cases hn : toNatE i with
  | none => rw [hn] at h; cases h
  | some k =>
    rw [hn] at h
    obtain ⟨ik, rfl⟩ := toNatE_some hn
    cases hi with
    | int _ _ =>
      dsimp only at h
      unfold idxKind at h
      cases hu : P.underlying t with
      | none => rw [hu] at h; cases h
      | some d =>
        rw [hu] at h
        cases d with
        | array len elem =>
          dsimp only at h
          cases hs : sizeE P elem with
          | none => rw [hs] at h; cases h
          | some n =>
            rw [hs] at h
            dsimp only [indexAt] at h
            cases hp : asPtr a with
            | none => rw [hp] at h; cases h
            | some io =>
              obtain ⟨id, off⟩ := io
              rw [hp] at h
              obtain rfl := asPtr_some hp
              cases ha with
              | ptr _ _ b x hx hxp =>
                dsimp only [elemAddr] at h
                cases hl : Nat.ble (Nat.succ k) len with
                | false => rw [hl] at h; cases h
                | true =>
                  rw [hl] at h
                  dsimp only [cond] at h
                  rw [forceNat_eq] at h
                  cases h
                  have hlt : k < len := Nat.le_of_ble_eq_true hl
                  refine ⟨_, ?_, .ptr _ _ b x hx hxp⟩
                  have hi : (0 : Int) ≤ (k : Int) ∧ (k : Int) < (len : Int) := by omega
                  simp [Instr.indexAt, asIntOf, run_underlying hu, Instr.sureAddr, sizeE_run w hs, Addr.add_lit, hlt]
        | slice elem =>
          dsimp only at h
          cases hs : sizeE P elem with
          | none => rw [hs] at h; cases h
          | some n =>
            rw [hs] at h
            dsimp only [indexAt] at h
            cases hp : asSl a with
            | none => rw [hp] at h; cases h
            | some io =>
              obtain ⟨id, off, len⟩ := io
              rw [hp] at h
              obtain ⟨cap, esz, rfl⟩ := asSl_some hp
              cases ha with
              | sl _ _ _ _ _ b cap' x hx hxp _ _ =>
                dsimp only [elemAddr] at h
                cases hl : Nat.ble (Nat.succ k) len with
                | false => rw [hl] at h; cases h
                | true =>
                  rw [hl] at h
                  dsimp only [cond] at h
                  rw [forceNat_eq] at h
                  cases h
                  have hlt : k < len := Nat.le_of_ble_eq_true hl
                  refine ⟨_, ?_, .ptr _ _ b x hx (fun c n e => (hxp c n e).1)⟩
                  simp [Instr.indexAt, asIntOf, run_underlying hu, sizeE_run w hs, Addr.add_lit, hlt]
              | slu _ _ _ c0 a0 x0 hx h0 =>
                dsimp only [elemAddr] at h
                rw [show Nat.ble (Nat.succ k) 0 = false from rfl] at h
                cases h
              | sle _ _ _ a0 hx =>
                dsimp only [elemAddr] at h
                rw [show Nat.ble (Nat.succ k) 0 = false from rfl] at h
                cases h
        | _ => cases h

theorem partE_run {P : Program} {ρ : R} {w : World} {t : TypeId} {cs : List AV} {cs' : Array Value} {off : Nat} {v : AV} (hc : VL ρ cs cs'.toList) (h : partE P t cs off = some v) : Pur P (part t cs' off) ρ w v := by
  unfold partE at h
  cases hA : isAggB P t with
  | none => rw [hA] at h; cases h
  | some g =>
    rw [hA] at h
    cases g with
    | true =>
      dsimp only at h
      cases hn : sizeE P t with
      | none => rw [hn] at h; cases h
      | some n =>
        rw [hn] at h
        cases h
        refine ⟨.agg (cs'.extract off (off + n)), by simp [part, isAggB_run w hA, sizeE_run w hn], .agg _ _ ?_⟩
        have : (cs'.extract off (off + n)).toList = (cs'.toList.drop off).take n := by
          rw [Array.toList_extract, List.extract_eq_take_drop]
          congr 1; omega
        rw [this]
        exact (hc.drop off).take n
    | false =>
      dsimp only at h
      obtain ⟨v', h1, h2⟩ := hc.get h
      have h1' : cs'[off]? = some v' := by simpa using h1
      exact ⟨v', by simp [part, isAggB_run w hA, h1'], h2⟩

theorem fieldE_run {P : Program} {ρ : R} {w : World} {t : TypeId} {f : Nat} {a v : AV} {a' : Value} (ha : VR ρ a a') (h : fieldE P t a f = some v) : Pur P (Instr.field t a' f) ρ w v := by
  unfold fieldE at h
  cases hu : P.underlying t with
  | none => rw [hu] at h; cases h
  | some d =>
    rw [hu] at h
    cases d with
    | struct fields =>
      cases ha with
      | agg cs cs' hc =>
        dsimp only at h
        cases hf : fields[f]? with
        | none => rw [hf] at h; cases h
        | some fd =>
          rw [hf] at h
          obtain ⟨v', h1, h2⟩ := partE_run (P := P) (w := w) hc h
          exact ⟨v', by simp [Instr.field, run_underlying hu, hf, asAgg, h1], h2⟩
      | _ => cases h
    | _ => cases h

theorem indexE_run {P : Program} {ρ : R} {w : World} {t : TypeId} {a i v : AV} {a' i' : Value} (ha : VR ρ a a') (hi : VR ρ i i') (h : indexE P t a i = some v) : Pur P (Instr.index t a' i') ρ w v := by
  unfold indexE at h
  cases hn : toNatE i with
  | none => rw [hn] at h; cases h
  | some k =>
    rw [hn] at h
    obtain ⟨ik, rfl⟩ := toNatE_some hn
    cases hi with
    | int _ _ =>
      dsimp only at h
      cases hu : P.underlying t with
      | none => rw [hu] at h; cases h
      | some d =>
        rw [hu] at h
        cases d with
        | array len elem =>
          cases ha with
          | agg cs cs' hc =>
            dsimp only at h
            cases hs : sizeE P elem with
            | none => rw [hs] at h; cases h
            | some n =>
              rw [hs] at h
              dsimp only at h
              cases hl : Nat.ble (Nat.succ k) len with
              | false => rw [hl] at h; cases h
              | true =>
                rw [hl] at h
                have hlt : k < len := Nat.le_of_ble_eq_true hl
                obtain ⟨v', h1, h2⟩ := partE_run (P := P) (w := w) hc h
                exact ⟨v', by simp [Instr.index, asIntOf, run_underlying hu, sizeE_run w hs, hlt, h1], h2⟩
          | _ => cases h
        | string =>
          cases ha with
          | str s =>
            dsimp only at h
            cases hb : s[k]? with
            | none => rw [hb] at h; cases h
            | some c =>
              rw [hb] at h
              cases h
              exact ⟨.int .u8 c.toNat, by simp [Instr.index, asIntOf, run_underlying hu, hb], .int _ _⟩
          | _ => cases h
        | _ => cases h

/-- Numbers of 64 bits. -/
theorem wrap_in (n : Int) (h1 : -9223372036854775808 ≤ n) (h2 : n ≤ 9223372036854775807) : IntKind.i64.wrap n = n := by
  have e1 : ((2 : Int) ^ IntKind.i64.bits) = 18446744073709551616 := by decide
  have e2 : ((2 : Int) ^ (IntKind.i64.bits - 1)) = 9223372036854775808 := by decide
  have e3 : IntKind.i64.signed = true := rfl
  unfold IntKind.wrap
  simp only [e1, e2, e3, Bool.true_and, decide_eq_true_eq]
  split <;> omega

theorem wrap_pos (m : Nat) (h : m ≤ 9223372036854775807) : IntKind.i64.wrap (Int.ofNat m) = Int.ofNat m := wrap_in _ (by simp only [Int.ofNat_eq_natCast]; omega) (by simp only [Int.ofNat_eq_natCast]; omega)
theorem wrap_neg (m : Nat) (h : m ≤ 9223372036854775807) : IntKind.i64.wrap (Int.negSucc m) = Int.negSucc m := wrap_in _ (by rw [Int.negSucc_eq]; omega) (by rw [Int.negSucc_eq]; omega)

theorem pick64 (m : Nat) (a b : Int) (h : m ≤ 9223372036854775807 → b = a) : (bif Nat.ble m 9223372036854775807 then a else b) = b := by
  generalize hk : 9223372036854775807 = k at h ⊢
  cases hb : Nat.ble m k with
  | false => rw [cond_false]
  | true => rw [cond_true]; exact (h (Nat.le_of_ble_eq_true hb)).symm

theorem wrap64E_eq (n : Int) : wrap64E n = IntKind.i64.wrap n := by
  cases n with
  | ofNat m => exact pick64 m _ _ (wrap_pos m)
  | negSucc m => exact pick64 m _ _ (wrap_neg m)

theorem int64E_eq (n : Int) : int64E n = some (.int .i64 (IntKind.i64.wrap n)) := by
  unfold int64E
  rw [forceInt_eq, wrap64E_eq]

theorem leInt_eq (a b : Int) : leInt a b = decide (a ≤ b) := by
  cases a with
  | ofNat a => cases b with
    | ofNat b =>
      show Nat.ble a b = decide ((a : Int) ≤ (b : Int))
      rw [Bool.eq_iff_iff, decide_eq_true_iff, Nat.ble_eq]; omega
    | negSucc b =>
      show false = decide ((a : Int) ≤ Int.negSucc b)
      symm; rw [decide_eq_false_iff_not]; omega
  | negSucc a => cases b with
    | ofNat b =>
      show true = decide (Int.negSucc a ≤ (b : Int))
      symm; rw [decide_eq_true_iff]; omega
    | negSucc b =>
      show Nat.ble b a = decide (Int.negSucc a ≤ Int.negSucc b)
      rw [Bool.eq_iff_iff, decide_eq_true_iff, Nat.ble_eq]; omega

theorem eqInt_eq (a b : Int) : eqInt a b = (a == b) := by
  cases a with
  | ofNat a => cases b with
    | ofNat b =>
      show Nat.beq a b = ((a : Int) == (b : Int))
      rw [Bool.eq_iff_iff, beq_iff_eq, Nat.beq_eq]; omega
    | negSucc b =>
      show false = ((a : Int) == Int.negSucc b)
      symm; rw [beq_eq_false_iff_ne]; omega
  | negSucc a => cases b with
    | ofNat b =>
      show false = (Int.negSucc a == (b : Int))
      symm; rw [beq_eq_false_iff_ne]; omega
    | negSucc b =>
      show Nat.beq a b = (Int.negSucc a == Int.negSucc b)
      rw [Bool.eq_iff_iff, beq_iff_eq, Nat.beq_eq]; omega

theorem bin64E_run {P : Program} {ρ : R} {w : World} {op : BinOp} {t : TypeId} {x y : Operand} {m n : Int} {v : AV} (h : bin64E op m n = some v) :
    Pur P (do eqGuard op t x y (.int .i64 m) (.int .i64 n); binOp op t (.int .i64 m) (.int .i64 n)) ρ w v := by
  have ar : ∀ k : Int, int64E k = some v → VR ρ v (.int .i64 (IntKind.i64.wrap k)) := fun k e => by rw [int64E_eq] at e; cases e; exact .int _ _
  cases op with
  | add => exact ⟨_, by simp [eqGuard_at_int, binOp_add, Op.intArith], ar (m + n) h⟩
  | sub => exact ⟨_, by simp [eqGuard_at_int, binOp_sub, Op.intArith], ar (m - n) h⟩
  | mul => exact ⟨_, by simp [eqGuard_at_int, binOp_mul, Op.intArith], ar (m * n) h⟩
  | eql =>
    have h' : some (AV.bool (eqInt m n)) = some v := h
    rw [eqInt_eq] at h'; cases h'
    exact ⟨_, by simp [eqGuard_at_int, binOp_eql], .bool _⟩
  | neq =>
    have h' : some (AV.bool (!eqInt m n)) = some v := h
    rw [eqInt_eq] at h'; cases h'
    exact ⟨.bool (m != n), by simp [eqGuard_at_int, binOp_neq], .bool _⟩
  | lss =>
    have h' : some (AV.bool (!leInt n m)) = some v := h
    rw [leInt_eq] at h'; cases h'
    exact ⟨.bool (decide (m < n)), by simp [eqGuard_at_int, binOp_lss], by
      have : (!decide (n ≤ m)) = decide (m < n) := by rw [← decide_not]; exact decide_eq_decide.2 (by omega)
      rw [this]; exact .bool _⟩
  | leq =>
    have h' : some (AV.bool (leInt m n)) = some v := h
    rw [leInt_eq] at h'; cases h'
    exact ⟨.bool (decide (m ≤ n)), by simp [eqGuard_at_int, binOp_leq], .bool _⟩
  | gtr =>
    have h' : some (AV.bool (!leInt m n)) = some v := h
    rw [leInt_eq] at h'; cases h'
    exact ⟨.bool (decide (m > n)), by simp [eqGuard_at_int, binOp_gtr], by
      have : (!decide (m ≤ n)) = decide (m > n) := by rw [← decide_not]; exact decide_eq_decide.2 (by omega)
      rw [this]; exact .bool _⟩
  | geq =>
    have h' : some (AV.bool (leInt n m)) = some v := h
    rw [leInt_eq] at h'; cases h'
    exact ⟨.bool (decide (m ≥ n)), by simp [eqGuard_at_int, binOp_geq], .bool _⟩
  | _ => cases h

end Go.Ev
