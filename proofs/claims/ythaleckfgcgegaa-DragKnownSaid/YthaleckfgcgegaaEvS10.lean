/-
  THE EVALUATOR'S SOUNDNESS, 10: copy, clear, len; numbers and comparisons; maps.
-/
import Derived.Test.YthaleckfgcgegaaEvS9
namespace Go.Ev

theorem copyE_run {P : Program} {ρ : R} {h h' : H} {w : World} (hr : HR ρ h w) {t u ty : TypeId} {d x v : AV} {d' x' : Value} (hd : VR ρ d d') (hx : VR ρ x x') (hc : copyE P t d x h = .ok v h') :
    Good P (Builtin.copy_ #[t, u] ty #[d', x']) ρ h w v h' := by
  unfold copyE at hc
  cases hu : P.underlying t with
  | none => rw [hu] at hc; cases hc
  | some dt =>
    rw [hu] at hc
    cases dt with
    | slice elem =>
      dsimp only at hc
      cases hn : sizeE P elem with
      | none => rw [hn] at hc; cases hc
      | some size =>
        rw [hn] at hc
        dsimp only at hc
        have hsz := sizeE_run (P := P) w hn
        cases hsc : srcCells h size x with
        | none => rw [hsc] at hc; cases hd <;> cases hc
        | some nc =>
          obtain ⟨n, cs⟩ := nc
          rw [hsc] at hc
          obtain ⟨hl, hnl, hfc⟩ := srcCells_run (P := P) hr hx hsc
          cases hd with
          | nils =>
            cases hc
            obtain ⟨c', e1, e2⟩ := hfc 0 (Nat.zero_le _)
            refine Pur.good ⟨goInt 0, ?_, .int _ _⟩ hr
            refine (step_ok (run_underlying hu w)).trans ?_
            refine (step_ok hl).trans ?_
            refine (step_ok hsz).trans ?_
            rw [show Nat.min n 0 = 0 from Nat.min_zero n]
            refine (step_ok e1).trans ?_
            rfl
          | sl id off len cap esz b cap' y hy hyp hcc hlc =>
            dsimp only at hc
            rw [forceNat_eq] at hc
            have hmin : (bif Nat.ble n len then n else len) = Nat.min n len := by
              cases hb : Nat.ble n len with
              | true => have := Nat.le_of_ble_eq_true hb; show n = min n len; omega
              | false =>
                have : ¬ n ≤ len := fun k => by rw [Nat.ble_eq_true_of_le k] at hb; cases hb
                show len = min n len; omega
            rw [hmin] at hc
            obtain ⟨c', e1, e2⟩ := hfc (Nat.min n len) (Nat.min_le_left _ _)
            have main : ∀ {w' : World}, (storeCells ⟨b, off, none⟩ c'.toList).run P w = .ok () w' → (Builtin.copy_ #[t, u] ty #[.slice (some ⟨b, off, none⟩) len cap', x']).run P w = .ok (goInt (Nat.min n len : Nat)) w' := by
              intro w' hst
              refine (step_ok (run_underlying hu w)).trans ?_
              refine (step_ok hl).trans ?_
              refine (step_ok hsz).trans ?_
              refine (step_ok e1).trans ?_
              refine (step_ok hst).trans ?_
              rfl
            cases h0 : Nat.beq (Nat.min n len) 0 with
            | true =>
              rw [h0] at hc
              cases hc
              have hz := Nat.eq_of_beq_eq_true h0
              rw [hz] at e2 main
              simp only [Nat.zero_mul, List.take_zero] at e2
              have hnil : c'.toList = [] := by cases hq : c'.toList with
                | nil => rfl
                | cons a l => rw [hq] at e2; cases e2
              exact Pur.good ⟨goInt 0, main (by rw [hnil]; rfl), .int _ _⟩ hr
            | false =>
              rw [h0] at hc
              dsimp only [cond] at hc
              cases hw : writeCells id off (cs.take (Nat.min n len * size)) h with
              | none => rw [hw] at hc; cases hc
              | some h2 =>
                rw [hw] at hc
                cases hc
                obtain ⟨w2, g1, g2, g3⟩ := writeCells_run (P := P) hr hy (fun c n e => (hyp c n e).1) e2 hw
                exact ⟨ρ, _, w2, main g1, .int _ _, g2, g3⟩
          | slu id off esz c0 a x0 hx0 h0 =>
            dsimp only at hc
            rw [forceNat_eq] at hc
            have hmin : (bif Nat.ble n 0 then n else 0) = 0 := by
              cases hb : Nat.ble n 0 with
              | true => have := Nat.le_of_ble_eq_true hb; show n = 0; omega
              | false => rfl
            rw [hmin] at hc
            rw [show Nat.beq 0 0 = true from rfl] at hc
            cases hc
            obtain ⟨c', e1, e2⟩ := hfc 0 (Nat.zero_le _)
            simp only [Nat.zero_mul, List.take_zero] at e2
            have hnil : c'.toList = [] := by cases hq : c'.toList with
              | nil => rfl
              | cons a l => rw [hq] at e2; cases e2
            refine Pur.good ⟨goInt 0, ?_, .int _ _⟩ hr
            refine (step_ok (run_underlying hu w)).trans ?_
            refine (step_ok hl).trans ?_
            refine (step_ok hsz).trans ?_
            rw [show Nat.min n 0 = 0 from Nat.min_zero n]
            refine (step_ok e1).trans ?_
            rw [hnil]
            rfl
          | sle id off esz a hx0 =>
            dsimp only at hc
            rw [forceNat_eq] at hc
            have hmin : (bif Nat.ble n 0 then n else 0) = 0 := by
              cases hb : Nat.ble n 0 with
              | true => have := Nat.le_of_ble_eq_true hb; show n = 0; omega
              | false => rfl
            rw [hmin] at hc
            rw [show Nat.beq 0 0 = true from rfl] at hc
            cases hc
            obtain ⟨c', e1, e2⟩ := hfc 0 (Nat.zero_le _)
            simp only [Nat.zero_mul, List.take_zero] at e2
            have hnil : c'.toList = [] := by cases hq : c'.toList with
              | nil => rfl
              | cons a l => rw [hq] at e2; cases e2
            refine Pur.good ⟨goInt 0, ?_, .int _ _⟩ hr
            refine (step_ok (run_underlying hu w)).trans ?_
            refine (step_ok hl).trans ?_
            refine (step_ok hsz).trans ?_
            rw [show Nat.min n 0 = 0 from Nat.min_zero n]
            refine (step_ok e1).trans ?_
            rw [hnil]
            rfl
          | _ => cases hc
    | _ => cases hc

theorem clearE_run {P : Program} {ρ : R} {h h' : H} {w : World} (hr : HR ρ h w) {t ty : TypeId} {x v : AV} {x' : Value} (hx : VR ρ x x') (hc : clearE P t x h = .ok v h') :
    Good P (Builtin.clear_ #[t] ty #[x']) ρ h w v h' := by
  unfold clearE at hc
  cases hu : P.underlying t with
  | none => rw [hu] at hc; cases hc
  | some dt =>
    rw [hu] at hc
    have unit : VR ρ (.tup []) (.tuple #[]) := .tup [] #[] .nil
    cases dt with
    | map kt et =>
      cases hx with
      | nilm => cases hc; exact Pur.good ⟨.tuple #[], by simp [Builtin.clear_, run_underlying hu], unit⟩ hr
      | map id b y hy hyp =>
        dsimp only at hc
        cases hg : getObj id h with
        | none => rw [hg] at hc; cases hc
        | some o =>
          rw [hg] at hc
          cases o with
          | map es clock =>
            dsimp only at hc
            cases hs : Ev.setObj id (.map [] clock) h with
            | none => rw [hs] at hc; cases hc
            | some h2 =>
              rw [hs] at hc
              cases hc
              obtain ⟨n, born, o', e1, e2, e3, e4⟩ := hr.at hy hyp hg (fun e => by cases e)
              cases e4 with
              | map _ _ es' he =>
                have hlt := (Array.getElem?_eq_some_iff.1 e3).1
                obtain ⟨a1, a2⟩ := hr.setObj (w' := { w with heap := w.heap.setIfInBounds b (.map #[] clock) }) hs (hy.trans (by rw [e1])) e2 (fun m e => by cases e) (OR.map [] clock #[] .nil) (by simp) (by simp [hlt]) (fun j hj => by simp [Array.getElem?_setIfInBounds_ne (Ne.symm hj)]) rfl rfl (fun a => by
                  by_cases ha : a.block = b
                  · have e3' : w.heap[b] = .map es' clock := (Array.getElem?_eq_some_iff.1 e3).2
                    simp [World.frozen?, ha, hlt, e3']
                  · simp [World.frozen?, Array.getElem?_setIfInBounds_ne (Ne.symm ha)])
                refine ⟨ρ, .tuple #[], _, ?_, unit, a1, a2⟩
                simp [Builtin.clear_, run_underlying hu, Go.getObj, Go.setObj, Sem.run, e3]
          | _ => cases hc
      | _ => cases hc
    | slice elem =>
      cases hx with
      | nils => cases hc; exact Pur.good ⟨.tuple #[], by simp [Builtin.clear_, run_underlying hu], unit⟩ hr
      | sl id off len cap esz b cap' y hy hyp hcc hlc =>
        dsimp only at hc
        cases hz : zeroE P elem with
        | none => rw [hz] at hc; cases hc
        | some z =>
          rw [hz] at hc
          dsimp only at hc
          cases hw : writeCells id off (zerosE z.cells len) h with
          | none => rw [hw] at hc; cases hc
          | some h2 =>
            rw [hw] at hc
            cases hc
            obtain ⟨z', hz1, hz2⟩ := zeroE_run (ρ := ρ) w hz
            obtain ⟨w2, g1, g2, g3⟩ := writeCells_run (P := P) hr hy (fun c n e => (hyp c n e).1) (zeros_vl hz2.cells len) hw
            cases len with
            | zero =>
              have hw2 : w2 = w := by
                have hnil : ((Array.range (0 * z'.cells.size)).map fun i => z'.cells[i % z'.cells.size]!).toList = [] := by rw [Nat.zero_mul]; simp [Array.range_zero']
                rw [hnil] at g1; cases g1; rfl
              subst hw2
              exact ⟨ρ, .tuple #[], _, by simp [Builtin.clear_, run_underlying hu], unit, g2, g3⟩
            | succ len =>
              refine ⟨ρ, .tuple #[], w2, ?_, unit, g2, g3⟩
              refine (step_ok (run_underlying hu w)).trans ?_
              refine (step_ok hz1).trans ?_
              refine (step_ok g1).trans ?_
              rfl
      | slu id off esz c0 a x0 hx0 h0 =>
        dsimp only at hc
        cases hz : zeroE P elem with
        | none => rw [hz] at hc; cases hc
        | some z =>
          rw [hz] at hc
          dsimp only at hc
          cases hw : writeCells id off (zerosE z.cells 0) h with
          | none => rw [hw] at hc; cases hc
          | some h2 =>
            rw [hw] at hc
            cases hc
            obtain ⟨z', hz1, hz2⟩ := zeroE_run (ρ := ρ) w hz
            cases x0 with
            | none =>
              obtain ⟨born, hd⟩ := hr.dead id hx0
              unfold writeCells Ev.getObj at hw
              rw [hd] at hw
              cases hw
            | some bn =>
              obtain ⟨b, n0⟩ := bn
              obtain ⟨w2, g1, g2, g3⟩ := writeCells_run (P := P) (b := b) hr hx0 (fun c n e => by cases e; rfl) (zeros_vl hz2.cells 0) hw
              have hw2 : w2 = w := by
                have hnil : ((Array.range (0 * z'.cells.size)).map fun i => z'.cells[i % z'.cells.size]!).toList = [] := by rw [Nat.zero_mul]; simp [Array.range_zero']
                rw [hnil] at g1; cases g1; rfl
              subst hw2
              exact ⟨ρ, .tuple #[], _, by simp [Builtin.clear_, run_underlying hu], unit, g2, g3⟩
      | sle id off esz a hx0 =>
        dsimp only at hc
        cases hz : zeroE P elem with
        | none => rw [hz] at hc; cases hc
        | some z =>
          rw [hz] at hc
          dsimp only at hc
          have hw : writeCells id off (zerosE z.cells 0) h = none := by
            obtain ⟨born, hd⟩ := hr.dead id hx0
            unfold writeCells Ev.getObj
            rw [hd]; rfl
          rw [hw] at hc
          cases hc
      | _ => cases hc
    | _ => cases hc

theorem ER.length {ρ : R} {es : List (Value × AV × Nat)} {es' : List MapEntry} (h : ER ρ es es') : es.length = es'.length := by
  induction h with
  | nil => rfl
  | cons _ _ _ _ _ _ _ _ ih => simp [ih]

theorem lenE_run {P : Program} {ρ : R} {h : H} {w : World} (hr : HR ρ h w) {t ty : TypeId} {x v : AV} {x' : Value} (hx : VR ρ x x') (hl : lenE P t x h = some v) : Pur P (Builtin.len_ #[t] ty #[x']) ρ w v := by
  unfold lenE at hl
  cases hu : P.underlying t with
  | none => rw [hu] at hl; cases hl
  | some d =>
    rw [hu] at hl
    cases d with
    | string =>
      cases hx with
      | str s => cases hl; exact ⟨_, by simp [Builtin.len_, run_underlying hu, goInt], .int _ _⟩
      | _ => cases hl
    | array n e => cases hl; exact ⟨goInt n, by simp [Builtin.len_, run_underlying hu], .int _ _⟩
    | pointer arr =>
      dsimp only at hl
      cases ha : P.underlying arr with
      | none => rw [ha] at hl; cases hl
      | some d2 =>
        rw [ha] at hl
        cases d2 with
        | array n e => cases hl; exact ⟨goInt n, by simp [Builtin.len_, run_underlying hu, run_underlying ha], .int _ _⟩
        | _ => cases hl
    | slice e =>
      cases hx with
      | sl id off len cap esz b cap' y hy hyp hcc hlc => cases hl; exact ⟨goInt len, by simp [Builtin.len_, run_underlying hu], .int _ _⟩
      | slu id off esz c0 a x0 hx0 h0 => cases hl; exact ⟨goInt 0, by simp [Builtin.len_, run_underlying hu, goInt], .int _ _⟩
      | sle id off esz a hx0 => cases hl; exact ⟨goInt 0, by simp [Builtin.len_, run_underlying hu, goInt], .int _ _⟩
      | nils => cases hl; exact ⟨goInt 0, by simp [Builtin.len_, run_underlying hu, goInt], .int _ _⟩
      | _ => cases hl
    | map kt et =>
      cases hx with
      | nilm => cases hl; exact ⟨goInt 0, by simp [Builtin.len_, run_underlying hu], .int _ _⟩
      | map id b y hy hyp =>
        dsimp only at hl
        cases hg : getObj id h with
        | none => rw [hg] at hl; cases hl
        | some o =>
          rw [hg] at hl
          cases o with
          | map es clock =>
            cases hl
            obtain ⟨n, born, o', e1, e2, e3, e4⟩ := hr.at hy hyp hg (fun e => by cases e)
            cases e4 with
            | map _ _ es' he =>
              refine ⟨goInt es'.size, by simp [Builtin.len_, run_underlying hu, Go.getObj, Sem.run, e3], ?_⟩
              have := he.length
              simp at this
              rw [this]
              exact .int _ _
          | _ => cases hl
      | _ => cases hl
    | _ => cases hl

theorem nilCmp_run {P : Program} {ρ : R} {w : World} {op : BinOp} {t : TypeId} {x y : Operand} {a b v : AV} {a' b' : Value} (ha : VR ρ a a') (hb : VR ρ b b') (h : nilCmp op (nilEqE P t a b) = some v) :
    Pur P (do eqGuard op t x y a' b'; binOp op t a' b') ρ w v := by
  cases hne : nilEqE P t a b with
  | none => rw [hne] at h; cases h
  | some r =>
    rw [hne] at h
    have eqv : (Op.equal t a' b').run P w = .ok r w ∧ (∀ op, eqGuard op t x y a' b' = pure ()) ∧ binOp .eql t a' b' = (do pure (.bool (← Op.equal t a' b'))) ∧ binOp .neq t a' b' = (do pure (.bool (!(← Op.equal t a' b')))) := by
      unfold nilEqE at hne
      cases hu : P.underlying t with
      | none => rw [hu] at hne; cases hne
      | some d =>
        rw [hu] at hne
        have hd : Op.maxDepth = 9999 + 1 := rfl
        cases d <;> first
          | (cases hne; done)
          | (cases ha <;> first
              | (cases hne; done)
              | (cases hb <;> first
                  | (cases hne; done)
                  | (cases hne; refine ⟨?_, fun op => by cases op <;> rfl, rfl, rfl⟩; rw [Op.equal, hd, Op.equalIn]; simp [run_underlying hu])))
    obtain ⟨q1, q2, q3, q4⟩ := eqv
    cases op <;> first
      | (cases h; done)
      | (cases h; exact ⟨.bool r, by simp [q2, q3, q1], .bool _⟩)
      | (cases h; exact ⟨.bool !r, by simp [q2, q4, q1], .bool _⟩)

theorem binSlow_run {P : Program} {ρ : R} {w : World} {op : BinOp} {t : TypeId} {x y : Operand} {a b v : AV} {a' b' : Value} (ha : VR ρ a a') (hb : VR ρ b b') (h : binSlow P op t x y a b = some v) :
    Pur P (do eqGuard op t x y a' b'; binOp op t a' b') ρ w v := by
  unfold binSlow at h
  cases c1 : conc0 a with
  | none => rw [c1] at h; exact nilCmp_run ha hb h
  | some u =>
    cases c2 : conc0 b with
    | none => rw [c1, c2] at h; exact nilCmp_run ha hb h
    | some u2 =>
      rw [c1, c2] at h
      rw [conc0_eq c1 ha, conc0_eq c2 hb]
      exact pureVal_run h w

theorem binE_run {P : Program} {ρ : R} {w : World} {op : BinOp} {t : TypeId} {x y : Operand} {a b v : AV} {a' b' : Value} (ha : VR ρ a a') (hb : VR ρ b b') (h : binE P op t x y a b = some v) :
    Pur P (do eqGuard op t x y a' b'; binOp op t a' b') ρ w v := by
  unfold binE at h
  cases h2 : bin2 op (asI64 a) (asI64 b) with
  | some u =>
    rw [h2] at h
    cases h
    cases h3 : asI64 a with
    | none => rw [h3] at h2; cases h2
    | some m =>
      cases h4 : asI64 b with
      | none => rw [h3, h4] at h2; cases h2
      | some n =>
        rw [h3, h4] at h2
        obtain rfl := asI64_some h3
        obtain rfl := asI64_some h4
        cases ha
        cases hb
        exact bin64E_run h2
  | none =>
    rw [h2] at h
    exact binSlow_run ha hb h

end Go.Ev
