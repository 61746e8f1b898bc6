/-
  THE EVALUATOR'S SOUNDNESS, 6: what is built and made; slices.
-/
import Derived.Test.YthaleckfgcgegaaEvS5
namespace Go.Ev

theorem rowsGo_get : ∀ (cs : List AV) (k : Nat) (row : List AV), row.length + k = 8 → ∀ i v,
    ((List.rec (motive := fun _ => Nat → List AV → M AV) (fun _ row => [row.reverse]) (fun v _ ih k row => Nat.rec (motive := fun _ => M AV) (row.reverse :: ih 7 [v]) (fun j _ => ih j (v :: row)) k) cs k row : M AV)[i / 8]?).bind (fun r => r[i % 8]?) = some v →
    (row.reverse ++ cs)[i]? = some v
  | [], k, row, hk, i, v, h => by
    have h' : (([row.reverse] : M AV)[i / 8]?).bind (fun r => r[i % 8]?) = some v := h
    by_cases hi : i / 8 = 0
    · have : i % 8 = i := by omega
      rw [hi, this] at h'
      simpa using h'
    · have : 1 ≤ i / 8 := by omega
      rw [List.getElem?_eq_none (by simpa using this)] at h'
      cases h'
  | c :: cs, 0, row, hk, i, v, h => by
    have h' : ((row.reverse :: (List.rec (motive := fun _ => Nat → List AV → M AV) (fun _ row => [row.reverse]) (fun v _ ih k row => Nat.rec (motive := fun _ => M AV) (row.reverse :: ih 7 [v]) (fun j _ => ih j (v :: row)) k) cs 7 [c] : M AV))[i / 8]?).bind (fun r => r[i % 8]?) = some v := h
    have hl : row.reverse.length = 8 := by simp; omega
    by_cases hi : i / 8 = 0
    · have h8 : i % 8 = i := by omega
      rw [hi, h8] at h'
      have h2 : row.reverse[i]? = some v := by simpa using h'
      rw [List.getElem?_append_left (by omega)]
      exact h2
    · obtain ⟨j, rfl⟩ : ∃ j, i = j + 8 := ⟨i - 8, by omega⟩
      have e1 : (j + 8) / 8 = j / 8 + 1 := by omega
      have e2 : (j + 8) % 8 = j % 8 := by omega
      rw [e1, e2, List.getElem?_cons_succ] at h'
      have := rowsGo_get cs 7 [c] (by simp) j v h'
      rw [List.getElem?_append_right (by omega), hl]
      simpa using this
  | c :: cs, k + 1, row, hk, i, v, h => by
    have := rowsGo_get cs k (c :: row) (by simp; omega) i v h
    simpa using this

theorem rowsOf_get {cs : List AV} {i : Nat} {v : AV} (h : (rowsOf cs).get i = some v) : cs[i]? = some v := by
  rw [M.get_eq] at h
  simpa using rowsGo_get cs 8 [] rfl i v h

theorem mkCells_get {cs : List AV} {i : Nat} {v : AV} (h : (mkCells cs).get i = some v) : cs[i]? = some v := by
  unfold mkCells at h
  split at h
  · rw [M.get_eq] at h
    by_cases hi : i / 8 = 0
    · rw [hi] at h
      by_cases h8 : i % 8 = 0
      · have : i = 0 := by omega
        subst this
        simpa using h
      · rw [List.getElem?_cons_zero, Option.bind_some, List.getElem?_eq_none (by simp; omega)] at h
        cases h
    · rw [List.getElem?_eq_none (by simp; omega)] at h
      cases h
  · exact rowsOf_get h

theorem mkCells_rows {ρ : R} {cs : List AV} {c : Array Value} (h : VL ρ cs c.toList) : RowsR ρ (mkCells cs) c := fun i v hv => by
  obtain ⟨v', h1, h2⟩ := h.get (mkCells_get hv)
  exact ⟨v', by simpa using h1, h2⟩

/-- A new row of cells. -/
theorem newCells_run {P : Program} {ρ : R} {h h' : H} {w : World} (hr : HR ρ h w) {elem : TypeId} {cs : List AV} {c : Array Value} {id : Pos} (hc : VL ρ cs c.toList) (hn : newCells elem cs h = some (id, h')) :
    ∃ ρ' w', (newRow elem c).run P w = .ok ⟨w.heap.size, 0, none⟩ w' ∧ R.le ρ ρ' ∧ ρ' id = some (some (w.heap.size, c.size)) ∧ HR ρ' h' w' ∧ Ext ρ h w ρ' h' w' := by
  obtain ⟨_, h1, h2⟩ := hr.newObj hn (OR.cells (mkCells cs) elem c (mkCells_rows hc)) (fun i => by simp [World.frozen?])
  exact ⟨_, _, by simp [newRow], h2.le, by simp [R.new], h1, h2⟩

theorem newPtr_run {P : Program} {ρ : R} {h h' : H} {w : World} (hr : HR ρ h w) {elem : TypeId} {v u : AV} {v' : Value} (hv : VR ρ v v') (hn : newPtr elem v.cells h = .ok u h') :
    Good P (do pure (.pointer (some (← newVar elem v')))) ρ h w u h' := by
  unfold newPtr at hn
  cases hc : newCells elem v.cells h with
  | none => rw [hc] at hn; cases hn
  | some ih =>
    obtain ⟨id, h2⟩ := ih
    rw [hc] at hn
    cases hn
    obtain ⟨ρ', w', e1, e2, e3, e4, e5⟩ := newCells_run (P := P) hr hv.cells hc
    exact ⟨ρ', .pointer (some ⟨w.heap.size, 0, none⟩), w', by simp only [newVar, Sem.run_bind, e1, Result.andThen_ok, Sem.run_pure], .ptr id 0 _ _ e3 (fun c n e => by cases e; rfl), e4, e5⟩

theorem allocE_run {P : Program} {ρ : R} {h h' : H} {w : World} (hr : HR ρ h w) {elem : TypeId} {u : AV} {old : Value} (hn : allocE P elem h = .ok u h') : Good P (Instr.alloc elem true old) ρ h w u h' := by
  unfold allocE at hn
  cases hz : zeroE P elem with
  | none => rw [hz] at hn; cases hn
  | some z =>
    rw [hz] at hn
    obtain ⟨v', h1, h2⟩ := zeroE_run (ρ := ρ) w hz
    obtain ⟨ρ', u', w', e1, e2⟩ := newPtr_run (P := P) hr h2 hn
    refine ⟨ρ', u', w', ?_, e2⟩
    simp only [Instr.alloc, Sem.run_bind, h1, Result.andThen_ok]
    exact e1

theorem boxE_run {P : Program} {ρ : R} {h h' : H} {w : World} (hr : HR ρ h w) {elem : TypeId} {v u : AV} {v' : Value} (hv : VR ρ v v') (hn : newPtr elem v.cells h = .ok u h') : Good P (Instr.box elem v') ρ h w u h' :=
  newPtr_run hr hv hn

/-- Parts. -/
inductive PL (ρ : R) : List (Nat × AV) → List (Nat × Value) → Prop
  | nil : PL ρ [] []
  | cons (i : Nat) (v : AV) (v' : Value) (ps : List (Nat × AV)) (ps' : List (Nat × Value)) : VR ρ v v' → PL ρ ps ps' → PL ρ ((i, v) :: ps) ((i, v') :: ps')

theorem evParts_pl {ρ : R} {n : Nat} {tm : M AV} {a : Act} (hg : GR ρ) (ht : TR ρ n tm a.tmps) : ∀ {ps : List (Nat × Operand)} {qs : List (Nat × AV)}, evParts tm ps = some qs → PL ρ qs (ps.map fun p => (p.1, a.eval p.2))
  | [], qs, h => by cases h; exact .nil
  | (i, x) :: ps, qs, h => by
    unfold evParts at h
    cases h1 : evT tm x with
    | none => rw [h1] at h; cases h
    | some v =>
      cases h2 : evParts tm ps with
      | none => rw [h1, h2] at h; cases h
      | some us => rw [h1, h2] at h; cases h; exact .cons _ _ _ _ _ (evT_vr hg ht h1) (evParts_pl hg ht h2)

theorem fold_lay (off : Nat) : ∀ (vs : List Value) (k : Nat) (cells : Array Value), off + k + vs.length ≤ cells.size →
    ((vs.zipIdx k).foldl (fun cs (p : Value × Nat) => cs.setIfInBounds (off + p.2) p.1) cells).toList = cells.toList.take (off + k) ++ vs ++ cells.toList.drop (off + k + vs.length)
  | [], k, cells, h => by simp
  | v :: vs, k, cells, h => by
    simp only [List.length_cons] at h
    have hk : off + k < cells.size := by omega
    simp only [List.zipIdx_cons, List.foldl_cons]
    rw [fold_lay off vs (k + 1) _ (by simp; omega)]
    have e1 : (cells.setIfInBounds (off + k) v).toList = cells.toList.set (off + k) v := by simp
    rw [e1]
    have hl : off + k < cells.toList.length := by simpa using hk
    have e2 : (cells.toList.set (off + k) v).take (off + (k + 1)) = cells.toList.take (off + k) ++ [v] := by
      rw [show off + (k + 1) = (off + k) + 1 from by omega, List.take_succ_eq_append_getElem (by simpa using hk)]
      simp [List.take_set_of_le]
    have e3 : (cells.toList.set (off + k) v).drop (off + (k + 1) + vs.length) = cells.toList.drop (off + k + (vs.length + 1)) := by
      rw [List.drop_set_of_lt (by omega)]
      congr 1; omega
    rw [e2, e3]
    simp

theorem fillE_run {ρ : R} {place : Nat → Option (Nat × Nat)} : ∀ {ps : List (Nat × AV)} {ps' : List (Nat × Value)}, PL ρ ps ps' → ∀ {cells cs : List AV} {cells' : Array Value}, VL ρ cells cells'.toList →
    fillE place cells ps = some cs → ∃ cs', Instr.fill place cells' ps' = some cs' ∧ VL ρ cs cs'.toList
  | _, _, .nil, cells, cs, cells', hc, h => by cases h; exact ⟨cells', rfl, hc⟩
  | _, _, .cons i v v' ps ps' hv hp, cells, cs, cells', hc, h => by
    unfold fillE at h
    cases hpl : place i with
    | none => rw [hpl] at h; cases h
    | some os =>
      obtain ⟨off, size⟩ := os
      rw [hpl] at h
      dsimp only at h
      cases hb : (Nat.beq v.cells.length size && Nat.ble (off + v.cells.length) cells.length) with
      | false => rw [hb] at h; cases h
      | true =>
        rw [hb] at h
        dsimp only [cond] at h
        rw [Bool.and_eq_true] at hb
        have h1 := Nat.eq_of_beq_eq_true hb.1
        have h2 := Nat.le_of_ble_eq_true hb.2
        have hvl := hv.cells.length
        have hcl := hc.length
        simp at hvl hcl
        have hlay : VL ρ (layOver cells off v.cells) (v'.cells.zipIdx.foldl (fun cs (p : Value × Nat) => cs.setIfInBounds (off + p.2) p.1) cells').toList := by
          rw [← Array.foldl_toList, Array.toList_zipIdx, fold_lay off _ 0 _ (by simp; omega)]
          unfold layOver
          have hlen : v'.cells.toList.length = v.cells.length := by simp [hvl]
          rw [Nat.add_zero, hlen]
          exact ((hc.take off).append hv.cells).append (hc.drop _)
        obtain ⟨cs', e1, e2⟩ := fillE_run hp hlay h
        refine ⟨cs', ?_, e2⟩
        unfold Instr.fill
        rw [hpl]
        dsimp only
        have hn : ¬ (v'.cells.size ≠ size || decide (off + v'.cells.size > cells'.size)) = true := by
          simp; omega
        rw [if_neg hn]
        exact e1

theorem placesE_run {P : Program} (w : World) : ∀ {fs : List Field} {ps : List (Nat × Nat)}, placesE P fs = some ps → (fs.mapM fun f => do pure (f.offset, ← sizeOf f.type) : Sem (List (Nat × Nat))).run P w = .ok ps w
  | [], ps, h => by cases h; rfl
  | f :: fs, ps, h => by
    unfold placesE at h
    cases h1 : sizeE P f.type with
    | none => rw [h1] at h; cases h
    | some n =>
      cases h2 : placesE P fs with
      | none => rw [h1, h2] at h; cases h
      | some r =>
        rw [h1, h2] at h
        cases h
        have := placesE_run w h2
        simp only [List.mapM_cons, Sem.run_bind, sizeE_run w h1, Result.andThen_ok, Sem.run_pure]
        rw [this]
        simp

theorem buildE_run {P : Program} {ρ : R} {w : World} {t : TypeId} {ps : List (Nat × AV)} {ps' : Array (Nat × Value)} {v : AV} (hp : PL ρ ps ps'.toList) (h : buildE P t ps = some v) : Pur P (Instr.build t ps') ρ w v := by
  unfold buildE at h
  cases hz : zeroE P t with
  | none => rw [hz] at h; cases h
  | some z =>
    rw [hz] at h
    dsimp only at h
    obtain ⟨z', hz1, hz2⟩ := zeroE_run (ρ := ρ) w hz
    cases hu : P.underlying t with
    | none => rw [hu] at h; cases h
    | some d =>
      rw [hu] at h
      cases d with
      | struct fields =>
        dsimp only at h
        cases hpl : placesE P fields.toList with
        | none => rw [hpl] at h; cases h
        | some pl =>
          rw [hpl] at h
          dsimp only at h
          cases hf : fillE (fun i => pl[i]?) z.cells ps with
          | none => rw [hf] at h; cases h
          | some cs =>
            rw [hf] at h
            cases h
            obtain ⟨cs', e1, e2⟩ := fillE_run hp hz2.cells hf
            have hm : (fields.mapM fun f => do pure (f.offset, ← sizeOf f.type) : Sem (Array (Nat × Nat))).run P w = .ok pl.toArray w := by
              rw [Array.mapM_eq_mapM_toList, Sem.run_map, placesE_run w hpl]; rfl
            have e1' : Instr.fill (fun i => pl.toArray[i]?) z'.cells ps'.toList = some cs' := by simpa using e1
            refine ⟨.agg cs', ?_, .agg _ _ e2⟩
            simp only [Instr.build, Sem.run_bind, hz1, Result.andThen_ok, run_underlying hu, hm, e1', Sem.run_pure]
      | array k elem =>
        dsimp only at h
        cases hn : sizeE P elem with
        | none => rw [hn] at h; cases h
        | some n =>
          rw [hn] at h
          dsimp only at h
          cases hf : fillE (fun i => some (i * n, n)) z.cells ps with
          | none => rw [hf] at h; cases h
          | some cs =>
            rw [hf] at h
            cases h
            obtain ⟨cs', e1, e2⟩ := fillE_run hp hz2.cells hf
            refine ⟨.agg cs', ?_, .agg _ _ e2⟩
            simp only [Instr.build, Sem.run_bind, hz1, Result.andThen_ok, run_underlying hu, sizeE_run w hn, e1, Sem.run_pure]
      | _ => cases h

end Go.Ev
