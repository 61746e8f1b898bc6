/-
  THE EVALUATOR'S SOUNDNESS, 9: append, copy, clear, len, min, max.
-/
import Derived.Test.YthaleckfgcgegaaEvS8
namespace Go.Ev

/-- What is dead can't be read. -/
theorem dead_read {ρ : R} {h : H} {w : World} (hr : HR ρ h w) {id : Pos} (hx : ρ id = some none) (off n : Nat) : readCells h id off n = none := by
  obtain ⟨born, hd⟩ := hr.dead id hx
  unfold readCells getObj
  rw [hd]; rfl
theorem dead_srcs {ρ : R} {h : H} {w : World} (hr : HR ρ h w) {id : Pos} (hx : ρ id = some none) {off esz size : Nat} {y : Nat × List AV} (hs : srcCells h size (.sl id off 0 (some 0) esz) = some y) : False := by
  unfold srcCells at hs
  dsimp only at hs
  cases he : Nat.beq esz size with
  | false => rw [he] at hs; cases hs
  | true => rw [he] at hs; dsimp only [cond] at hs; rw [dead_read hr hx] at hs; cases hs

/-- What is read at the front of a value that is appended or copied. -/
theorem srcCells_run {P : Program} {ρ : R} {h : H} {w : World} (hr : HR ρ h w) {size n : Nat} {x : AV} {x' : Value} {cs : List AV} (hx : VR ρ x x') (hs : srcCells h size x = some (n, cs)) :
    (Builtin.lenOf x').run P w = .ok n w ∧ cs.length = n * size ∧
      ∀ k, k ≤ n → ∃ c', (Builtin.firstCells size k x').run P w = .ok c' w ∧ VL ρ (cs.take (k * size)) c'.toList := by
  cases hx with
  | nils =>
    cases hs
    refine ⟨rfl, by simp, fun k hk => ⟨#[], rfl, ?_⟩⟩
    simp only [List.take_nil]; exact .nil
  | sle id off esz a hx0 => exact (dead_srcs hr hx0 hs).elim
  | slu id off esz c0 a x0 hx0 h0 =>
    unfold srcCells at hs
    dsimp only at hs
    cases he : Nat.beq esz size with
    | false => rw [he] at hs; cases hs
    | true =>
      rw [he] at hs
      dsimp only [cond] at hs
      cases hrd : readCells h id off (0 * size) with
      | none => rw [hrd] at hs; cases hs
      | some us =>
        rw [hrd] at hs
        cases hs
        have hus : cs = [] := by
          unfold readCells at hrd
          rw [Nat.zero_mul] at hrd
          cases hg : getObj id h with
          | none => rw [hg] at hrd; cases hrd
          | some o =>
            rw [hg] at hrd
            dsimp only at hrd
            cases hm : cellsOf o with
            | none => rw [hm] at hrd; cases hrd
            | some m => rw [hm] at hrd; cases hrd; rfl
        subst hus
        refine ⟨rfl, by simp, fun k hk => ?_⟩
        obtain rfl : k = 0 := by omega
        refine ⟨#[], ?_, ?_⟩
        · unfold Builtin.firstCells; rw [Nat.zero_mul]; rfl
        · simp only [List.take_nil]; exact .nil
  | sl id off len cap esz b cap' y hy hyp hcc hlc =>
    unfold srcCells at hs
    dsimp only at hs
    cases he : Nat.beq esz size with
    | false => rw [he] at hs; cases hs
    | true =>
      rw [he] at hs
      dsimp only [cond] at hs
      cases hrd : readCells h id off (len * size) with
      | none => rw [hrd] at hs; cases hs
      | some us =>
        rw [hrd] at hs
        cases hs
        refine ⟨rfl, ?_, fun k hk => ?_⟩
        · unfold readCells at hrd
          cases hg : getObj id h with
          | none => rw [hg] at hrd; cases hrd
          | some o =>
            rw [hg] at hrd
            dsimp only at hrd
            cases hm : cellsOf o with
            | none => rw [hm] at hrd; cases hrd
            | some m => rw [hm] at hrd; exact (readM_get hrd).1
        · have hread : readCells h id off (k * size) = some (cs.take (k * size)) := by
            unfold readCells at hrd ⊢
            cases hg : getObj id h with
            | none => rw [hg] at hrd; cases hrd
            | some o =>
              rw [hg] at hrd
              dsimp only at hrd ⊢
              cases hm : cellsOf o with
              | none => rw [hm] at hrd; cases hrd
              | some m =>
                rw [hm] at hrd
                dsimp only at hrd ⊢
                have key : ∀ (p q i : Nat) (vs : List AV), p ≤ q → readM m q i = some vs → readM m p i = some (vs.take p) := by
                  intro p
                  induction p with
                  | zero => intro q i vs _ _; simp [readM]
                  | succ p ih =>
                    intro q i vs hpq hq
                    cases q with
                    | zero => omega
                    | succ q =>
                      unfold readM at hq ⊢
                      cases h1 : m i with
                      | none => rw [h1] at hq; cases hq
                      | some v =>
                        rw [h1] at hq
                        dsimp only at hq ⊢
                        cases h2 : readM m q (Nat.succ i) with
                        | none => rw [h2] at hq; cases hq
                        | some us =>
                          rw [h2] at hq
                          cases hq
                          rw [ih q (Nat.succ i) us (by omega) h2]
                          simp
                exact key _ _ _ _ (Nat.mul_le_mul_right _ hk) hrd
          obtain ⟨c', e1, e2⟩ := readCells_run (P := P) hr hy (fun c n e => (hyp c n e).1) hread
          exact ⟨c', e1, e2⟩
  | str s =>
    unfold srcCells at hs
    dsimp only at hs
    cases he : Nat.beq size 1 with
    | false => rw [he] at hs; cases hs
    | true =>
      rw [he] at hs
      cases hs
      obtain rfl := Nat.eq_of_beq_eq_true he
      refine ⟨rfl, by simp, fun k hk => ⟨_, rfl, ?_⟩⟩
      have : ∀ l : List UInt8, VL ρ (l.map fun b => AV.int .u8 (b.toNat : Int)) (l.map fun b => Value.int .u8 (b.toNat : Int)) := by
        intro l
        induction l with
        | nil => exact .nil
        | cons b l ih => exact .cons _ _ _ _ (.int _ _) ih
      have h2 := this ((s.extract 0 k).data.toList)
      simp only [Array.toList_map]
      have h3 : (s.data.toList.map fun b => AV.int .u8 (b.toNat : Int)).take (k * 1) = ((s.extract 0 k).data.toList.map fun b => AV.int .u8 (b.toNat : Int)) := by
        rw [← List.map_take]
        congr 1
        simp [ByteArray.data_extract, List.extract_eq_take_drop]
      rw [h3]
      exact h2
  | _ => cases hs

theorem srcCells_all {P : Program} {ρ : R} {h : H} {w : World} (hr : HR ρ h w) {size n : Nat} {x : AV} {x' : Value} {cs : List AV} (hx : VR ρ x x') (hs : srcCells h size x = some (n, cs)) :
    ∃ c', (Builtin.firstCells size n x').run P w = .ok c' w ∧ VL ρ cs c'.toList := by
  obtain ⟨_, h2, h3⟩ := srcCells_run (P := P) hr hx hs
  obtain ⟨c', e1, e2⟩ := h3 n (Nat.le_refl _)
  rw [← h2, List.take_length] at e2
  exact ⟨c', e1, e2⟩

theorem nextcap_le (need cap : Nat) (h : cap < need) : Builtin.nextslicecap need cap ≤ 2 * need + 1000 := by
  have key : ∀ (r c : Nat), c ≤ 2 * need + 1000 → Builtin.growBy need r c ≤ 2 * need + 1000 := by
    intro r
    induction r with
    | zero => intro c hc; exact hc
    | succ r ih =>
      intro c hc
      unfold Builtin.growBy
      split
      · exact hc
      · exact ih _ (by omega)
  unfold Builtin.nextslicecap
  split
  · omega
  · split
    · omega
    · exact key _ _ (by omega)

/-- The new row of a slice that grows. -/
theorem growE_run {P : Program} {ρ : R} {h h' : H} {w : World} (hr : HR ρ h w) {elem : TypeId} {need size newCap : Nat} {cs : List AV} {old new : Array Value} {v : AV} (hc : VL ρ cs (old ++ new).toList) (hcap : need ≤ newCap)
    (hg : growE P elem need size cs h = .ok v h') :
    Good P (do let rest := Builtin.zeroCells (← zeroValue elem).cells (newCap - need); pure (.slice (some (← newRow elem (old ++ new ++ rest))) need newCap)) ρ h w v h' := by
  unfold growE at hg
  cases hi : P.info? elem with
  | none => rw [hi] at hg; cases hg
  | some i =>
    cases hz : zeroE P elem with
    | none => rw [hi, hz] at hg; cases hg
    | some z =>
      rw [hi, hz] at hg
      dsimp only at hg
      cases hb : (Nat.ble ((2 * need + 1000) * i.bytes) 281474976710656 && Nat.ble need 1073741824 && Nat.beq z.cells.length size && Nat.beq cs.length (need * size)) with
      | false => rw [hb] at hg; cases hg
      | true =>
        rw [hb] at hg
        dsimp only [cond] at hg
        simp only [Bool.and_eq_true] at hb
        have b3 := Nat.eq_of_beq_eq_true hb.1.2
        have b4 := Nat.eq_of_beq_eq_true hb.2
        cases hn : newCells elem cs h with
        | none => rw [hn] at hg; cases hg
        | some ih =>
          obtain ⟨id, h2⟩ := ih
          rw [hn] at hg
          cases hg
          obtain ⟨z', hz1, hz2⟩ := zeroE_run (ρ := ρ) w hz
          have hzl := hz2.cells.length
          simp at hzl
          have hcl := hc.length
          simp at hcl
          generalize hrest : Builtin.zeroCells z'.cells (newCap - need) = rest
          have hrs : rest.size = (newCap - need) * size := by rw [← hrest]; simp [Builtin.zeroCells, ← hzl, b3]
          have hrows : RowsR ρ (mkCells cs) (old ++ new ++ rest) := rows_of_prefix (r := rest.toList) hc (by simp)
          obtain ⟨_, h3, h4⟩ := hr.newObj hn (OR.cells (mkCells cs) elem (old ++ new ++ rest) hrows) (fun i => by simp [World.frozen?])
          refine ⟨_, .slice (some ⟨w.heap.size, 0, none⟩) need newCap, _, ?_, ?_, h3, h4⟩
          · simp only [Sem.run_bind, hz1, Result.andThen_ok, hrest, newRow, run_newObj, Sem.run_pure]
          · refine .sl id 0 need none size w.heap.size newCap _ (show _ = some (some (w.heap.size, (old ++ new ++ rest).size)) by simp [R.new]) (fun c n e => ?_) (fun _ e => by cases e) hcap
            cases e
            refine ⟨rfl, ?_⟩
            simp only [Array.size_append, hrs]
            have : need * size + (newCap - need) * size = newCap * size := by rw [← Nat.add_mul]; congr 1; omega
            omega

theorem growE_small {P : Program} {h h' : H} {elem : TypeId} {need size : Nat} {cs : List AV} {v : AV} (hg : growE P elem need size cs h = .ok v h') {i : TypeInfo} (hi : P.info? elem = some i) :
    (2 * need + 1000) * i.bytes ≤ 281474976710656 ∧ need ≤ 1073741824 := by
  unfold growE at hg
  rw [hi] at hg
  cases hz : zeroE P elem with
  | none => rw [hz] at hg; cases hg
  | some z =>
    rw [hz] at hg
    dsimp only at hg
    cases hb : (Nat.ble ((2 * need + 1000) * i.bytes) 281474976710656 && Nat.ble need 1073741824 && Nat.beq z.cells.length size && Nat.beq cs.length (need * size)) with
    | false => rw [hb] at hg; cases hg
    | true =>
      simp only [Bool.and_eq_true] at hb
      exact ⟨Nat.le_of_ble_eq_true hb.1.1.1, Nat.le_of_ble_eq_true hb.1.1.2⟩

theorem step_ok {α β : Type} {P : Program} {w w1 : World} {x : Sem α} {a : α} {f : α → Sem β} (h : x.run P w = .ok a w1) : (x >>= f).run P w = (f a).run P w1 := by
  rw [Sem.run_bind, h]; rfl

/-- The model's append, where it grows. -/
theorem append_grows {P : Program} {w : World} {t u ty : TypeId} {elem size n sLen sCap : Nat} {base : Option Addr} {x : Value} {d : TypeDesc} {i : TypeInfo} {old new : Array Value}
    (hu : P.underlying t = some (.slice elem)) (hu2 : P.underlying u = some d) (hd : ∀ k, d ≠ .int k) (hs : (sizeOf elem).run P w = .ok size w) (hi : P.info? elem = some i) (hl : (Builtin.lenOf x).run P w = .ok n w)
    (hgt : sCap < sLen + n) (hb : (2 * (sLen + n) + 1000) * i.bytes ≤ 281474976710656) (hb2 : sLen + n ≤ 1073741824)
    (ho : ∀ w' : World, w'.heap = w.heap → (Builtin.firstCells size sLen (.slice base sLen sCap)).run P w' = .ok old w') (hn : ∀ w' : World, w'.heap = w.heap → (Builtin.firstCells size n x).run P w' = .ok new w') :
    ∃ newCap w1, sLen + n ≤ newCap ∧ w1.heap = w.heap ∧ w1.os = w.os ∧ w1.output = w.output ∧
      (Builtin.append_ #[t, u] ty #[.slice base sLen sCap, x]).run P w = (do let rest := Builtin.zeroCells (← zeroValue elem).cells (newCap - (sLen + n)); pure (.slice (some (← newRow elem (old ++ new ++ rest))) (sLen + n) newCap) : Sem Value).run P w1 := by
  refine ⟨(Question.appendCap (sLen + n) sCap elem).cut (w.tape w.drawn (.appendCap (sLen + n) sCap elem)), { w with drawn := w.drawn + 1 }, ?_, rfl, rfl, rfl, ?_⟩
  · simp [Question.cut]
  · have hle : ¬ (sLen + n ≤ sCap) := by omega
    have h1 : ¬ (((sLen + n : Nat) : Int) > IntKind.i64.max ∧ (False ∨ i.bytes = 0)) := by
      rw [IntKind.max_i64]; omega
    have hnc := nextcap_le (sLen + n) sCap hgt
    have h2 : ¬ (Builtin.nextslicecap (sLen + n) sCap * i.bytes > 2 ^ 48) := by
      have := Nat.mul_le_mul_right i.bytes hnc
      have e : (2 : Nat) ^ 48 = 281474976710656 := by decide
      omega
    have hz : (match d with | .int _ => true | _ => false) = false := by
      cases d <;> first | rfl | exact absurd rfl (hd _)
    have ho' := ho { w with drawn := w.drawn + 1 } rfl
    have hn' := hn { w with drawn := w.drawn + 1 } rfl
    refine (step_ok (run_underlying hu w)).trans ?_
    refine (step_ok hs).trans ?_
    refine (step_ok (run_underlying hu2 w)).trans ?_
    refine (step_ok (a := false) (w1 := w) (show (pure _ : Sem Bool).run P w = _ by cases d <;> first | rfl | exact absurd rfl (hd _))).trans ?_
    refine (step_ok hl).trans ?_
    refine (congrArg (fun s => Sem.run P s w) (if_neg hle)).trans ?_
    have ht : (typeInfo elem).run P w = .ok i w := by simp [typeInfo, hi]
    have ht' : (typeInfo elem).run P { w with drawn := w.drawn + 1 } = .ok i { w with drawn := w.drawn + 1 } := by simp [typeInfo, hi]
    refine (step_ok ht).trans ?_
    refine (congrArg (fun s => Sem.run P s w) (if_neg (by simpa using h1))).trans ?_
    refine (step_ok ht).trans ?_
    refine (congrArg (fun s => Sem.run P s w) (if_neg h2)).trans ?_
    refine (step_ok (a := (Question.appendCap (sLen + n) sCap elem).cut (w.tape w.drawn (.appendCap (sLen + n) sCap elem))) (w1 := { w with drawn := w.drawn + 1 }) (by simp [Question.forced])).trans ?_
    refine (step_ok ht').trans ?_
    refine (step_ok (run_askRoom P _ _)).trans ?_
    refine (step_ok ho').trans ?_
    refine (step_ok hn').trans ?_
    rfl

/-- The model's append, where there is room. -/
theorem append_fits {P : Program} {w w' : World} {t u ty : TypeId} {elem size n sLen sCap : Nat} {a : Addr} {x : Value} {d : TypeDesc} {new : Array Value}
    (hu : P.underlying t = some (.slice elem)) (hu2 : P.underlying u = some d) (hd : ∀ k, d ≠ .int k) (hs : (sizeOf elem).run P w = .ok size w) (hl : (Builtin.lenOf x).run P w = .ok n w)
    (hle : sLen + n ≤ sCap) (hn : (Builtin.firstCells size n x).run P w = .ok new w) (hst : (storeCells (a.add (sLen * size)) new.toList).run P w = .ok () w') :
    (Builtin.append_ #[t, u] ty #[.slice (some a) sLen sCap, x]).run P w = .ok (.slice (some a) (sLen + n) sCap) w' := by
  refine (step_ok (run_underlying hu w)).trans ?_
  refine (step_ok hs).trans ?_
  refine (step_ok (run_underlying hu2 w)).trans ?_
  refine (step_ok (a := false) (w1 := w) (show (pure _ : Sem Bool).run P w = _ by cases d <;> first | rfl | exact absurd rfl (hd _))).trans ?_
  refine (step_ok hl).trans ?_
  refine (congrArg (fun s => Sem.run P s w) (if_pos hle)).trans ?_
  refine (step_ok hn).trans ?_
  refine (step_ok hst).trans ?_
  rfl

theorem append_none {P : Program} {w : World} {t u ty : TypeId} {elem size : Nat} {x : Value} {d : TypeDesc} {new : Array Value}
    (hu : P.underlying t = some (.slice elem)) (hu2 : P.underlying u = some d) (hd : ∀ k, d ≠ .int k) (hs : (sizeOf elem).run P w = .ok size w) (hl : (Builtin.lenOf x).run P w = .ok 0 w)
    (hn : (Builtin.firstCells size 0 x).run P w = .ok new w) : (Builtin.append_ #[t, u] ty #[.slice none 0 0, x]).run P w = .ok (.slice none 0 0) w := by
  refine (step_ok (run_underlying hu w)).trans ?_
  refine (step_ok hs).trans ?_
  refine (step_ok (run_underlying hu2 w)).trans ?_
  refine (step_ok (a := false) (w1 := w) (show (pure _ : Sem Bool).run P w = _ by cases d <;> first | rfl | exact absurd rfl (hd _))).trans ?_
  refine (step_ok hl).trans ?_
  refine (congrArg (fun s => Sem.run P s w) (if_pos (Nat.le_refl 0))).trans ?_
  refine (step_ok hn).trans ?_
  rfl

theorem notInt_some {P : Program} {u : TypeId} (h : notInt P u = true) : ∃ d, P.underlying u = some d ∧ ∀ k, d ≠ .int k := by
  unfold notInt at h
  cases hu : P.underlying u with
  | none => rw [hu] at h; cases h
  | some d =>
    rw [hu] at h
    exact ⟨d, rfl, fun k e => by subst e; cases h⟩

theorem readCells_heap {P : Program} {b off n : Nat} {w w' : World} {cs : Array Value} (hh : w'.heap = w.heap) (h : (loadCells ⟨b, off, none⟩ n).run P w = .ok cs w) (hrd : ∀ i, i < n → ∃ v, w.cell? ⟨b, off + i, none⟩ = some v) :
    (loadCells ⟨b, off, none⟩ n).run P w' = .ok cs w' := by
  have key : ∀ (n i : Nat) (acc cs : Array Value), (∀ j, j < n → ∃ v, w.cell? ⟨b, off + (i + j), none⟩ = some v) → (loadCellsFrom ⟨b, off, none⟩ i n acc).run P w = .ok cs w → (loadCellsFrom ⟨b, off, none⟩ i n acc).run P w' = .ok cs w' := by
    intro n
    induction n with
    | zero => intro i acc cs _ h; cases h; rfl
    | succ n ih =>
      intro i acc cs hc h
      obtain ⟨v, hv⟩ := hc 0 (by omega)
      have hv' : w'.cell? ⟨b, off + i, none⟩ = some v := by unfold World.cell? at hv ⊢; rw [hh]; exact hv
      simp only [loadCellsFrom, Sem.run_bind, Addr.add_lit, run_load, Nat.add_zero] at h hv ⊢
      rw [hv] at h
      rw [hv']
      simp only [Result.andThen_ok] at h ⊢
      exact ih (i + 1) _ cs (fun j hj => by
        have := hc (j + 1) (by omega)
        rwa [show i + (j + 1) = i + 1 + j from by omega] at this) h
  exact key n 0 #[] cs (fun j hj => by simpa using hrd j hj) h

theorem firstCells_heap {P : Program} {ρ : R} {h : H} {w w' : World} (hr : HR ρ h w) (hh : w'.heap = w.heap) {size n : Nat} {x : AV} {x' : Value} {cs : List AV} (hx : VR ρ x x') (hs : srcCells h size x = some (n, cs)) {c' : Array Value}
    (h1 : (Builtin.firstCells size n x').run P w = .ok c' w) : (Builtin.firstCells size n x').run P w' = .ok c' w' := by
  have hr' : HR ρ h w' := hr.world hh
  obtain ⟨c2, e1, _⟩ := srcCells_all (P := P) hr' hx hs
  cases hx with
  | sl id off len cap esz b cap' y hy hyp hcc hlc =>
    unfold srcCells at hs
    dsimp only at hs
    cases he : Nat.beq esz size with
    | false => rw [he] at hs; cases hs
    | true =>
      rw [he] at hs
      dsimp only [cond] at hs
      cases hrd : readCells h id off (len * size) with
      | none => rw [hrd] at hs; cases hs
      | some us =>
        rw [hrd] at hs
        cases hs
        refine readCells_heap hh h1 (fun i hi => ?_)
        unfold readCells at hrd
        cases hg : getObj id h with
        | none => rw [hg] at hrd; cases hrd
        | some o =>
          rw [hg] at hrd
          dsimp only at hrd
          cases hm : cellsOf o with
          | none => rw [hm] at hrd; cases hrd
          | some m =>
            rw [hm] at hrd
            obtain ⟨g1, g2⟩ := readM_get hrd
            obtain ⟨c, e, f, q1, q2⟩ := hr.row hy (fun c n e => (hyp c n e).1) hg hm
            obtain ⟨v', q3, _⟩ := q2.cell q1 (g2 i _ (List.getElem?_eq_getElem (by omega)))
            exact ⟨v', q3⟩
  | sle id off esz a hx0 => exact (dead_srcs hr hx0 hs).elim
  | slu id off esz c0 a x0 hx0 h0 =>
    unfold srcCells at hs
    dsimp only at hs
    cases he : Nat.beq esz size with
    | false => rw [he] at hs; cases hs
    | true =>
      rw [he] at hs
      dsimp only [cond] at hs
      cases hrd : readCells h id off (0 * size) with
      | none => rw [hrd] at hs; cases hs
      | some us =>
        rw [hrd] at hs
        cases hs
        unfold Builtin.firstCells at h1 ⊢
        rw [Nat.zero_mul] at h1 ⊢
        cases h1
        rfl
  | nils => cases h1; rfl
  | str s => cases h1; rfl
  | _ => cases hs

theorem appendE_run {P : Program} {ρ : R} {h h' : H} {w : World} (hr : HR ρ h w) {t u ty : TypeId} {s x v : AV} {s' x' : Value} (hu2 : notInt P u = true) (hs : VR ρ s s') (hx : VR ρ x x') (ha : appendE P t s x h = .ok v h') :
    Good P (Builtin.append_ #[t, u] ty #[s', x']) ρ h w v h' := by
  obtain ⟨d, hd1, hd2⟩ := notInt_some hu2
  unfold appendE at ha
  cases hu : P.underlying t with
  | none => rw [hu] at ha; cases ha
  | some dt =>
    rw [hu] at ha
    cases dt with
    | slice elem =>
      dsimp only at ha
      cases hn : sizeE P elem with
      | none => rw [hn] at ha; cases ha
      | some size =>
        rw [hn] at ha
        dsimp only at ha
        have hsz := fun w => sizeE_run (P := P) w hn
        cases hsc : srcCells h size x with
        | none => rw [hsc] at ha; cases ha
        | some nc =>
          obtain ⟨n, new⟩ := nc
          rw [hsc] at ha
          dsimp only at ha
          obtain ⟨hl, hnl, hfc⟩ := srcCells_run (P := P) hr hx hsc
          obtain ⟨new', hn1, hn2⟩ := srcCells_all (P := P) hr hx hsc
          have hnew' : ∀ w' : World, w'.heap = w.heap → (Builtin.firstCells size n x').run P w' = .ok new' w' := fun w' hh => firstCells_heap hr hh hx hsc hn1
          cases hn0 : Nat.beq n 0 with
          | true =>
            rw [hn0] at ha
            dsimp only [cond] at ha
            obtain rfl := Nat.eq_of_beq_eq_true hn0
            have hnil : new'.toList = [] := by
              have := hn2.length
              rw [hnl] at this
              exact List.eq_nil_of_length_eq_zero (by simpa using this.symm)
            cases his : isSlice s with
            | false => rw [his] at ha; cases ha
            | true =>
              rw [his] at ha
              cases ha
              refine Pur.good ⟨s', ?_, hs⟩ hr
              cases hs with
              | nils => exact append_none hu hd1 hd2 (hsz w) hl hn1
              | sl id off len cap esz b cap' y hy hyp hcc hlc =>
                have := append_fits (P := P) (ty := ty) (w' := w) (a := ⟨b, off, none⟩) (sLen := len) (sCap := cap') hu hd1 hd2 (hsz w) hl (by omega) hn1 (by rw [hnil]; rfl)
                simpa using this
              | slu id off esz c0 a x0 hx0 h0 =>
                have := append_fits (P := P) (ty := ty) (w' := w) (a := a) (sLen := 0) (sCap := c0) hu hd1 hd2 (hsz w) hl (by omega) hn1 (by rw [hnil]; rfl)
                simpa using this
              | sle id off esz a hx0 =>
                have := append_fits (P := P) (ty := ty) (w' := w) (a := a) (sLen := 0) (sCap := 0) hu hd1 hd2 (hsz w) hl (by omega) hn1 (by rw [hnil]; rfl)
                simpa using this
              | _ => cases his
          | false =>
            rw [hn0] at ha
            dsimp only [cond] at ha
            have hnp : 0 < n := by
              cases n with
              | zero => cases hn0
              | succ n => omega
            obtain ⟨i, hi⟩ : ∃ i, P.info? elem = some i := by
              unfold sizeE at hn
              cases hi : P.info? elem with
              | none => rw [hi] at hn; cases hn
              | some i => exact ⟨i, rfl⟩
            -- growth, from what is known
            have grow : ∀ (base : Option Addr) (sLen sCap : Nat) (old' : Array Value) (old : List AV) (ρ1 : R) (h1 : H), sCap < sLen + n → R.le ρ ρ1 → HR ρ1 h1 w → Ext ρ h w ρ1 h1 w → VL ρ1 old old'.toList →
                (∀ w' : World, w'.heap = w.heap → (Builtin.firstCells size sLen (.slice base sLen sCap)).run P w' = .ok old' w') → growE P elem (sLen + n) size (old ++ new) h1 = .ok v h' →
                Good P (Builtin.append_ #[t, u] ty #[.slice base sLen sCap, x']) ρ h w v h' := by
              intro base sLen sCap old' old ρ1 h1 hlt hle hr1 ex1 hold hfirst hg
              obtain ⟨k1, k2⟩ := growE_small hg hi
              obtain ⟨newCap, w1, c1, c2, c3, c4, c5⟩ := append_grows (P := P) (ty := ty) (base := base) hu hd1 hd2 (hsz w) hi hl hlt k1 k2 hfirst hnew'
              have hvl : VL ρ1 (old ++ new) (old' ++ new').toList := by
                rw [Array.toList_append]; exact hold.append (hn2.up hle)
              obtain ⟨ρ2, v', w2, g1, g2, g3, g4⟩ := growE_run (P := P) (hr1.world c2) hvl c1 hg
              exact ⟨ρ2, v', w2, c5.trans g1, g2, g3, (ex1.trans (Ext.world c2 c3 c4)).trans g4⟩
            unfold appendSome at ha
            cases hs with
            | nils =>
              dsimp only at ha
              have := grow none 0 0 #[] [] ρ h (by omega) (R.le_refl ρ) hr .refl .nil (fun _ _ => rfl) (by simpa using ha)
              exact this
            | sl id off len cap esz b cap' y hy hyp hcc hlc =>
              cases cap with
              | some c =>
                dsimp only at ha
                obtain rfl := hcc c rfl
                cases he : Nat.beq esz size with
                | false => rw [he] at ha; cases ha
                | true =>
                  rw [he] at ha
                  dsimp only [cond] at ha
                  obtain rfl := Nat.eq_of_beq_eq_true he
                  cases hfit : Nat.ble (Nat.add len n) cap' with
                  | true =>
                    rw [hfit] at ha
                    dsimp only at ha
                    have hle := Nat.le_of_ble_eq_true hfit
                    cases hwc : writeCells id (off + len * esz) new h with
                    | none => rw [hwc] at ha; cases ha
                    | some h2 =>
                      rw [hwc] at ha
                      dsimp only at ha
                      rw [forceNat_eq] at ha
                      cases ha
                      obtain ⟨w2, e1, e2, e3⟩ := writeCells_run (P := P) hr hy (fun c n e => (hyp c n e).1) hn2 hwc
                      refine ⟨ρ, .slice (some ⟨b, off, none⟩) (len + n) cap', w2, ?_, ?_, e2, e3⟩
                      · exact append_fits hu hd1 hd2 (hsz w) hl hle hn1 (by rw [Addr.add_lit]; exact e1)
                      · exact .sl id off _ (some cap') esz b cap' y hy hyp hcc hle
                  | false =>
                    rw [hfit] at ha
                    dsimp only at ha
                    have hgt : cap' < len + n := by
                      rcases Nat.lt_or_ge cap' (len + n) with k | k
                      · exact k
                      · rw [show Nat.ble (Nat.add len n) cap' = true from Nat.ble_eq_true_of_le k] at hfit; cases hfit
                    cases hrd : readCells h id off (len * esz) with
                    | none => rw [hrd] at ha; cases ha
                    | some old =>
                      rw [hrd] at ha
                      dsimp only at ha
                      rw [forceNat_eq] at ha
                      have hsrc : srcCells h esz (.sl id off len (some cap') esz) = some (len, old) := by
                        unfold srcCells
                        dsimp only
                        rw [show Nat.beq esz esz = true from Nat.beq_refl esz]
                        dsimp only [cond]
                        rw [hrd]
                      have hsv : VR ρ (.sl id off len (some cap') esz) (.slice (some ⟨b, off, none⟩) len cap') := .sl id off len (some cap') esz b cap' y hy hyp hcc hlc
                      obtain ⟨old', o1, o2⟩ := srcCells_all (P := P) hr hsv hsrc
                      exact grow (some ⟨b, off, none⟩) len cap' old' old ρ h hgt (R.le_refl ρ) hr .refl o2 (fun w' hh => firstCells_heap hr hh hsv hsrc o1) ha
              | none =>
                dsimp only at ha
                cases he0 : (Nat.beq esz size && Nat.beq off 0) with
                | false => rw [he0] at ha; cases ha
                | true =>
                    rw [he0] at ha
                    dsimp only [cond] at ha
                    rw [Bool.and_eq_true] at he0
                    obtain rfl := Nat.eq_of_beq_eq_true he0.1
                    obtain rfl := Nat.eq_of_beq_eq_true he0.2
                    cases hg : getObj id h with
                    | none => rw [hg] at ha; cases ha
                    | some o =>
                      rw [hg] at ha
                      cases o with
                      | cells m e =>
                        dsimp only at ha
                        cases hc : (Nat.beq e elem && allOne new && Nat.beq new.length (n * esz)) with
                        | false => rw [hc] at ha; cases ha
                        | true =>
                          rw [hc] at ha
                          dsimp only at ha
                          simp only [Bool.and_eq_true] at hc
                          obtain rfl := Nat.eq_of_beq_eq_true hc.1.1
                          have hone := hc.1.2
                          cases hrd : readM m.get (len * esz) 0 with
                          | none => rw [hrd] at ha; cases ha
                          | some old =>
                            rw [hrd] at ha
                            dsimp only at ha
                            cases hk : Ev.setObj id .dead h with
                            | none => rw [hk] at ha; cases ha
                            | some h1 =>
                              rw [hk] at ha
                              dsimp only at ha
                              rw [forceNat_eq] at ha
                              obtain ⟨born, c, q1, q2, q3, q4⟩ := hr.rowW hy (fun c n e => (hyp c n e).1) hg (m := m) (e := e) rfl
                              obtain ⟨hr1, ex1⟩ := hr.kill q1 q2 hk
                              have hsrc : srcCells h esz (.sl id 0 len none esz) = some (len, old) := by
                                unfold srcCells
                                dsimp only
                                rw [show Nat.beq esz esz = true from Nat.beq_refl esz]
                                dsimp only [cond]
                                unfold readCells
                                rw [hg]
                                show (match readM m.get (len * esz) 0 with | some cs => some (len, cs) | none => none) = _
                                rw [hrd]
                              have hsv : VR ρ (.sl id 0 len none esz) (.slice (some ⟨b, 0, none⟩) len cap') := .sl id 0 len none esz b cap' y hy hyp hcc hlc
                              obtain ⟨old', o1, o2⟩ := srcCells_all (P := P) hr hsv hsrc
                              have hcsz : 0 + cap' * esz ≤ c.size := by
                                rw [hy] at q1
                                cases q1
                                exact (hyp b c.size rfl).2 rfl
                              rcases Nat.lt_or_ge cap' (len + n) with hgt | hfit
                              · exact grow (some ⟨b, 0, none⟩) len cap' old' old (ρ.kill id) h1 hgt R.le_kill hr1 ex1 (o2.up R.le_kill) (fun w' hh => firstCells_heap hr hh hsv hsrc o1) ha
                              · -- in place
                                have hlen1 : new'.toList.length = n * esz := by rw [← hn2.length, hnl]
                                have hmul : (len + n) * esz ≤ cap' * esz := Nat.mul_le_mul_right _ hfit
                                rw [Nat.add_mul] at hmul
                                obtain ⟨w2, c2, s1, s2, s3, s4, s5, s6, s7, s8⟩ := storeCells_conc (P := P) (b := b) (off := len * esz) (e := e) (vs := new'.toList) (allOne_cells hn2 hone) (i := 0) q3 (by rw [hlen1]; omega)
                                unfold growE at ha
                                cases hz : zeroE P e with
                                | none => rw [hi, hz] at ha; cases ha
                                | some z =>
                                  rw [hi, hz] at ha
                                  dsimp only at ha
                                  cases hb : (Nat.ble ((2 * Nat.add len n + 1000) * i.bytes) 281474976710656 && Nat.ble (Nat.add len n) 1073741824 && Nat.beq z.cells.length esz && Nat.beq (old ++ new).length (Nat.add len n * esz)) with
                                  | false => rw [hb] at ha; cases ha
                                  | true =>
                                    rw [hb] at ha
                                    dsimp only [cond] at ha
                                    cases hnc : newCells e (old ++ new) h1 with
                                    | none => rw [hnc] at ha; cases ha
                                    | some ih =>
                                      obtain ⟨id2, h2⟩ := ih
                                      rw [hnc] at ha
                                      cases ha
                                      have hle2 : R.le ρ ((ρ.kill id).new id2 (some (b, c.size))) := by
                                        obtain ⟨e1, e2, _⟩ := newObj_some hnc
                                        exact R.le_trans R.le_kill (R.le_new (by rw [e1]; exact hr1.fresh e2))
                                      have hcs2 : c2.size = c.size := by
                                        have q := congrArg List.length s3
                                        rw [List.length_append, List.length_append, List.length_take, List.length_drop] at q
                                        simp only [Array.length_toList] at q hlen1
                                        omega
                                      have hold : VL ρ old (c.toList.take (len * esz)) := by
                                        obtain ⟨r1, r2⟩ := readM_get hrd
                                        refine VL.of_get (by simp; omega) (fun j a hj => ?_)
                                        have hjl : j < len * esz := by rw [← r1]; exact (List.getElem?_eq_some_iff.1 hj).1
                                        obtain ⟨a', t1, t2⟩ := q4 (0 + j) a (r2 j a hj)
                                        refine ⟨a', ?_, t2⟩
                                        rw [List.getElem?_take_of_lt hjl]
                                        simpa using t1
                                      have hrow : RowsR ((ρ.kill id).new id2 (some (b, c.size))) (mkCells (old ++ new)) c2 := by
                                        refine rows_of_prefix (r := c.toList.drop (len * esz + 0 + new'.toList.length)) ((hold.append hn2).up hle2) ?_
                                        rw [s3]; simp
                                      obtain ⟨a1, a2⟩ := hr.adopt (w' := w2) q1 q2 hk hnc (fun m e => by cases e) (by have q := OR.cells (mkCells (old ++ new)) e c2 hrow; rwa [hcs2] at q) s5 s2 s4 s6 s7 s8
                                      refine ⟨_, .slice (some ⟨b, 0, none⟩) (len + n) cap', w2, ?_, ?_, a1, a2⟩
                                      · exact append_fits hu hd1 hd2 (hsz w) hl hfit hn1 (by rw [Addr.add_lit, Nat.zero_add]; exact s1)
                                      · exact .sl id2 0 _ none esz b cap' _ (show _ = some (some (b, c.size)) by simp [R.new]) (fun c' n' e' => by cases e'; exact ⟨rfl, fun _ => hcsz⟩) (fun _ e' => by cases e') hfit
                      | _ => cases ha
            | slu id off esz c0 a x0 hx0 h0 =>
              dsimp only at ha
              rw [show Nat.beq off 0 = false from by cases hq : Nat.beq off 0 with | false => rfl | true => exact absurd (Nat.eq_of_beq_eq_true hq) h0, Bool.and_false] at ha
              cases ha
            | sle id off esz a hx0 =>
              dsimp only at ha
              cases he : Nat.beq esz size with
              | false => rw [he] at ha; cases ha
              | true =>
                rw [he] at ha
                dsimp only [cond] at ha
                have hfit : Nat.ble (Nat.add 0 n) 0 = false := by
                  cases hq : Nat.ble (Nat.add 0 n) 0 with
                  | false => rfl
                  | true => have := Nat.le_of_ble_eq_true hq; exact absurd this (by show ¬ (0 + n ≤ 0); omega)
                rw [hfit] at ha
                dsimp only at ha
                rw [dead_read hr hx0] at ha
                cases ha
            | _ => cases ha
    | _ => cases ha

end Go.Ev
