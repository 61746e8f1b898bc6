/-
  THE EVALUATOR'S SOUNDNESS, 4: reading, writing and making cells.
-/
import Derived.Test.YthaleckfgcgegaaEvS3
namespace Go.Ev

def Good (P : Program) (s : Sem Value) (ρ : R) (h : H) (w : World) (v : AV) (h' : H) : Prop :=
  ∃ ρ' v' w', s.run P w = .ok v' w' ∧ VR ρ' v v' ∧ HR ρ' h' w' ∧ Ext ρ h w ρ' h' w'
def GoodU (P : Program) (s : Sem Unit) (ρ : R) (h : H) (w : World) (h' : H) : Prop :=
  ∃ w', s.run P w = .ok () w' ∧ HR ρ h' w' ∧ Ext ρ h w ρ h' w'
def Pur (P : Program) (s : Sem Value) (ρ : R) (w : World) (v : AV) : Prop := ∃ v', s.run P w = .ok v' w ∧ VR ρ v v'

theorem Pur.good {P : Program} {s : Sem Value} {ρ : R} {h : H} {w : World} {v : AV} (p : Pur P s ρ w v) (hr : HR ρ h w) : Good P s ρ h w v h :=
  let ⟨v', a, b⟩ := p; ⟨ρ, v', w, a, b, hr, .refl⟩

theorem oneB_cell {ρ : R} {v : AV} {v' : Value} (h : oneB v = true) (r : VR ρ v v') : v'.oneCell' = true := by
  cases r <;> first | rfl | cases h

section
variable {w : World} {b k : Nat} {c : Array Value} {e : TypeId} {v : Value}
theorem setCell_here (hb : w.heap[b]? = some (.cells c e (0, 0))) : (w.setCell ⟨b, k, none⟩ v).heap[b]? = some (.cells (c.setIfInBounds k v) e (0, 0)) := by
  have hlt := (Array.getElem?_eq_some_iff.1 hb).1
  simp [World.setCell, Array.getElem?_modify, hb]
theorem setCell_else {j : Nat} (hj : j ≠ b) : (w.setCell ⟨b, k, none⟩ v).heap[j]? = w.heap[j]? := by
  simp [World.setCell, Array.getElem?_modify, Ne.symm hj]
theorem setCell_size : (w.setCell ⟨b, k, none⟩ v).heap.size = w.heap.size := by simp [World.setCell]
theorem unfrozen (hb : w.heap[b]? = some (.cells c e (0, 0))) : w.frozen? ⟨b, k, none⟩ = false := by simp [World.frozen?, hb]
end

theorem RowsR.set {ρ : R} {m m' : M AV} {c : Array Value} {k : Nat} {v : AV} {v' : Value} (hc : RowsR ρ m c) (hs : m.set k v = some m') (hv : VR ρ v v') : RowsR ρ m' (c.setIfInBounds k v') := by
  obtain ⟨h1, h2, u, h3⟩ := M.set_some hs
  obtain ⟨u', hu, _⟩ := hc k u h3
  intro i x hx
  by_cases e : i = k
  · subst e
    rw [h1] at hx
    cases hx
    exact ⟨v', by simp [(Array.getElem?_eq_some_iff.1 hu).1], hv⟩
  · rw [h2 i e] at hx
    obtain ⟨x', a, b⟩ := hc i x hx
    exact ⟨x', by rw [Array.getElem?_setIfInBounds_ne (Ne.symm e)]; exact a, b⟩

/-- What writing into block b has left. -/
structure Wrote (ρ : R) (w w' : World) (b : Nat) (m' : M AV) (n : Nat) (e : TypeId) : Prop where
  here : ∃ c', w'.heap[b]? = some (.cells c' e (0, 0)) ∧ RowsR ρ m' c' ∧ c'.size = n
  others : ∀ j, j ≠ b → w'.heap[j]? = w.heap[j]?
  size : w'.heap.size = w.heap.size
  os : w'.os = w.os
  out : w'.output = w.output
  frz : ∀ a, w'.frozen? a = w.frozen? a

theorem store_run {P : Program} {ρ : R} {w : World} {b k : Nat} {c : Array Value} {e : TypeId} {m m' : M AV} {v : AV} {v' : Value} (hb : w.heap[b]? = some (.cells c e (0, 0))) (hc : RowsR ρ m c)
    (h1 : oneB v = true) (hs : m.set k v = some m') (hv : VR ρ v v') : (store ⟨b, k, none⟩ v').run P w = .ok () (w.setCell ⟨b, k, none⟩ v') := by
  obtain ⟨_, _, u, h3⟩ := M.set_some hs
  obtain ⟨u', hu, _⟩ := hc.cell hb h3
  rw [run_store P w _ _ _ (oneB_cell h1 hv), hu, unfrozen hb]
  rfl

theorem setCell_wrote {ρ : R} {w : World} {b k : Nat} {c : Array Value} {e : TypeId} {m m' : M AV} {v : AV} {v' : Value} (hb : w.heap[b]? = some (.cells c e (0, 0))) (hc : RowsR ρ m c)
    (hs : m.set k v = some m') (hv : VR ρ v v') : Wrote ρ w (w.setCell ⟨b, k, none⟩ v') b m' c.size e :=
  { here := ⟨_, setCell_here hb, hc.set hs hv, by simp⟩, others := fun _ hj => setCell_else hj, size := setCell_size, os := rfl, out := rfl, frz := fun a => World.frozen?_setCell _ _ _ _ }

theorem storeCells_run {P : Program} {ρ : R} {b off n : Nat} {e : TypeId} : ∀ {vs : List AV} {vs' : List Value}, VL ρ vs vs' → allOne vs = true → ∀ {i : Nat} {m m' : M AV} {c : Array Value} {w : World},
    fillM m (off + i) vs = some m' → w.heap[b]? = some (.cells c e (0, 0)) → RowsR ρ m c → c.size = n → ∃ w', (storeCells ⟨b, off, none⟩ vs' i).run P w = .ok () w' ∧ Wrote ρ w w' b m' n e
  | _, _, .nil, _, i, m, m', c, w, hf, hb, hc, hn => by
    cases hf
    exact ⟨w, rfl, { here := ⟨c, hb, hc, hn⟩, others := fun _ _ => rfl, size := rfl, os := rfl, out := rfl, frz := fun _ => rfl }⟩
  | _, _, .cons v vs v' vs' hv hvs, h1, i, m, m', c, w, hf, hb, hc, hn => by
    have h1' : (bif oneB v then allOne vs else false) = true := h1
    cases ho : oneB v with
    | false => rw [ho] at h1'; cases h1'
    | true =>
      rw [ho] at h1'
      unfold fillM at hf
      cases hs : m.set (off + i) v with
      | none => rw [hs] at hf; cases hf
      | some m1 =>
        rw [hs] at hf
        have hst := store_run (P := P) hb hc ho hs hv
        have hw := setCell_wrote hb hc hs hv
        obtain ⟨c1, hb1, hc1, hn1⟩ := hw.here
        obtain ⟨w', hr, hw'⟩ := storeCells_run (P := P) (off := off) (n := n) (e := e) (b := b) hvs h1' (i := i + 1) hf hb1 hc1 (hn1.trans hn)
        refine ⟨w', ?_, ?_⟩
        · unfold storeCells
          simp only [Sem.run_bind, Addr.add_lit, hst, Result.andThen_ok]
          exact hr
        · exact { here := hw'.here, others := fun j hj => (hw'.others j hj).trans (hw.others j hj), size := hw'.size.trans hw.size, os := hw'.os.trans hw.os, out := hw'.out.trans hw.out, frz := fun a => (hw'.frz a).trans (hw.frz a) }

/-- A row of cells that may be written. -/
theorem HR.rowW {ρ : R} {h : H} {w : World} (hr : HR ρ h w) {id : Pos} {b : Nat} {x : Option (Nat × Nat)} (hx : ρ id = some x) (hp : ∀ c n, x = some (c, n) → c = b)
    {o : AO} {m : M AV} {e : TypeId} (hg : getObj id h = some o) (hm : cellsE o = some (m, e)) : ∃ born c, ρ id = some (some (b, c.size)) ∧ T.get id h.objs = some (born, .cells m e) ∧ w.heap[b]? = some (.cells c e (0, 0)) ∧ RowsR ρ m c := by
  obtain rfl := cellsE_some hm
  obtain ⟨n, born, o', h1, h2, h3, h4⟩ := hr.at hx hp hg (fun e => by cases e)
  cases h4 with
  | cells m e c hc => exact ⟨born, c, by rw [hx, h1], h2, h3, hc⟩

theorem HR.wrote {ρ : R} {h h' : H} {w w' : World} (hr : HR ρ h w) {id : Pos} {b born : Nat} {m m' : M AV} {e : TypeId} {n : Nat} (hid : ρ id = some (some (b, n))) (h0 : T.get id h.objs = some (born, .cells m e))
    (hs : Ev.setObj id (.cells m' e) h = some h') (hw : Wrote ρ w w' b m' n e) : HR ρ h' w' ∧ Ext ρ h w ρ h' w' := by
  obtain ⟨c', hb, hc, hn⟩ := hw.here
  exact hr.setObj hs hid h0 (fun _ e => by cases e) (hn ▸ OR.cells m' e c' hc) hw.size hb hw.others hw.os hw.out hw.frz

theorem writeCells_run {P : Program} {ρ : R} {h h' : H} {w : World} (hr : HR ρ h w) {id : Pos} {b off : Nat} {x : Option (Nat × Nat)} (hx : ρ id = some x) (hp : ∀ c n, x = some (c, n) → c = b)
    {vs : List AV} {vs' : List Value} (hv : VL ρ vs vs') (hw : writeCells id off vs h = some h') : GoodU P (storeCells ⟨b, off, none⟩ vs') ρ h w h' := by
  unfold writeCells at hw
  cases hg : getObj id h with
  | none => rw [hg] at hw; cases hw
  | some o =>
    rw [hg] at hw
    dsimp only at hw
    cases hm : cellsE o with
    | none => rw [hm] at hw; cases hw
    | some me =>
      obtain ⟨m, e⟩ := me
      rw [hm] at hw
      dsimp only at hw
      cases ho : allOne vs with
      | false => rw [ho] at hw; cases hw
      | true =>
        rw [ho] at hw
        dsimp only [cond] at hw
        cases hf : fillM m off vs with
        | none => rw [hf] at hw; cases hw
        | some m' =>
          rw [hf] at hw
          obtain ⟨born, c, h1, h2, h3, h4⟩ := hr.rowW hx hp hg hm
          obtain ⟨w', hrun, hwr⟩ := storeCells_run (P := P) (off := off) (i := 0) hv ho (by simpa using hf) h3 h4 rfl
          obtain ⟨a1, a2⟩ := hr.wrote h1 h2 hw hwr
          exact ⟨w', hrun, a1, a2⟩

theorem store1_run {P : Program} {ρ : R} {h h' : H} {w : World} (hr : HR ρ h w) {id : Pos} {b off : Nat} {x : Option (Nat × Nat)} (hx : ρ id = some x) (hp : ∀ c n, x = some (c, n) → c = b)
    {v : AV} {v' : Value} (hv : VR ρ v v') (hw : store1 id off v h = some h') : GoodU P (storeCells ⟨b, off, none⟩ [v']) ρ h w h' := by
  refine writeCells_run hr hx hp (.cons v [] v' [] hv .nil) ?_
  unfold store1 at hw
  unfold writeCells
  cases hg : getObj id h with
  | none => rw [hg] at hw; cases hw
  | some o =>
    rw [hg] at hw
    dsimp only at hw ⊢
    cases hm : cellsE o with
    | none => rw [hm] at hw; cases hw
    | some me =>
      obtain ⟨m, e⟩ := me
      rw [hm] at hw
      dsimp only at hw ⊢
      cases ho : oneB v with
      | false => rw [ho] at hw; cases hw
      | true =>
        rw [ho] at hw
        dsimp only [cond] at hw
        simp only [allOne, ho, cond, fillM]
        cases hs : m.set off v with
        | none => rw [hs] at hw; cases hw
        | some m' => rw [hs] at hw; exact hw

theorem storeAll_run {P : Program} {ρ : R} {h h' : H} {w : World} (hr : HR ρ h w) {id : Pos} {b off : Nat} {x : Option (Nat × Nat)} (hx : ρ id = some x) (hp : ∀ c n, x = some (c, n) → c = b)
    {vs : List AV} {vs' : List Value} (hv : VL ρ vs vs') (hw : storeAll id off vs h = some h') : GoodU P (storeCells ⟨b, off, none⟩ vs') ρ h w h' := by
  unfold storeAll at hw
  split at hw
  · cases hv with
    | cons _ _ v' _ h1 h2 => cases h2; exact store1_run hr hx hp h1 hw
  · exact writeCells_run hr hx hp hv hw

/-- Store, at an address. -/
theorem storeE_run {P : Program} {ρ : R} {h h' : H} {w : World} (hr : HR ρ h w) {t : TypeId} {a v : AV} {a' v' : Value} (ha : VR ρ a a') (hv : VR ρ v v') (hs : storeE P t a v h = some h') :
    GoodU P (Instr.storeAt t a' v') ρ h w h' := by
  unfold storeE at hs
  cases hp : asPtr a with
  | none => rw [hp] at hs; cases hs
  | some io =>
    obtain ⟨id, off⟩ := io
    rw [hp] at hs
    obtain rfl := asPtr_some hp
    cases ha with
    | ptr _ _ b x hx hxp =>
      dsimp only at hs
      unfold storeCs at hs
      cases hn : sizeE P t with
      | none => rw [hn] at hs; cases hs
      | some n =>
        rw [hn] at hs
        dsimp only at hs
        cases hl : Nat.beq v.cells.length n with
        | false => rw [hl] at hs; cases hs
        | true =>
          rw [hl] at hs
          obtain ⟨w', e1, e2, e3⟩ := storeAll_run (P := P) hr hx hxp hv.cells hs
          refine ⟨w', ?_, e2, e3⟩
          have hlen : v'.cells.size = n := by
            have := hv.cells.length
            rw [Nat.eq_of_beq_eq_true hl] at this
            simpa using this.symm
          simp [Instr.storeAt, Instr.sureAddr, storeVar, sizeE_run w hn, hlen, e1]

theorem load1_run {P : Program} {ρ : R} {h : H} {w : World} (hr : HR ρ h w) {id : Pos} {b off : Nat} {x : Option (Nat × Nat)} (hx : ρ id = some x) (hp : ∀ c n, x = some (c, n) → c = b)
    {v : AV} (hl : load1 id off h = some v) : Pur P (load ⟨b, off, none⟩) ρ w v := by
  unfold load1 at hl
  cases hg : getObj id h with
  | none => rw [hg] at hl; cases hl
  | some o =>
    rw [hg] at hl
    dsimp only at hl
    cases hm : cellsOf o with
    | none => rw [hm] at hl; cases hl
    | some m =>
      rw [hm] at hl
      obtain ⟨c, e, f, h1, h2⟩ := hr.row hx hp hg hm
      obtain ⟨v', h3, h4⟩ := h2.cell h1 hl
      exact ⟨v', by simp [h3], h4⟩

theorem readCells_run {P : Program} {ρ : R} {h : H} {w : World} (hr : HR ρ h w) {id : Pos} {b off n : Nat} {x : Option (Nat × Nat)} (hx : ρ id = some x) (hp : ∀ c n, x = some (c, n) → c = b)
    {vs : List AV} (hl : readCells h id off n = some vs) : ∃ cs, (loadCells ⟨b, off, none⟩ n).run P w = .ok cs w ∧ VL ρ vs cs.toList := by
  unfold readCells at hl
  cases hg : getObj id h with
  | none => rw [hg] at hl; cases hl
  | some o =>
    rw [hg] at hl
    dsimp only at hl
    cases hm : cellsOf o with
    | none => rw [hm] at hl; cases hl
    | some m =>
      rw [hm] at hl
      obtain ⟨c, e, f, h1, h2⟩ := hr.row hx hp hg hm
      obtain ⟨cs, e1, l, e2, e3⟩ := loadCells_run (P := P) h1 h2 n 0 #[] (vs := vs) (by simpa using hl)
      simp at e2
      exact ⟨cs, e1, e2 ▸ e3⟩

theorem loadE_var {P : Program} {ρ : R} {h : H} {w : World} (hr : HR ρ h w) {t : TypeId} {a v : AV} {a' : Value} (ha : VR ρ a a') (hl : loadE P t a h = some v) :
    ∃ b off, a' = .pointer (some ⟨b, off, none⟩) ∧ Pur P (loadVar t ⟨b, off, none⟩) ρ w v := by
  unfold loadE at hl
  cases hp : asPtr a with
  | none => rw [hp] at hl; cases hl
  | some io =>
    obtain ⟨id, off⟩ := io
    rw [hp] at hl
    obtain rfl := asPtr_some hp
    cases ha with
    | ptr _ _ b x hx hxp =>
      refine ⟨b, _, rfl, ?_⟩
      dsimp only at hl
      cases hA : isAggB P t with
      | none => rw [hA] at hl; cases hl
      | some g =>
        rw [hA] at hl
        have hA' := isAggB_run w hA
        cases g with
        | false =>
          obtain ⟨v', e1, e2⟩ := load1_run (P := P) hr hx hxp hl
          exact ⟨v', by simp only [loadVar, Sem.run_bind, hA', Result.andThen_ok, Bool.false_eq_true, if_false]; exact e1, e2⟩
        | true =>
          dsimp only [cond] at hl
          unfold loadAgg at hl
          cases hn : sizeE P t with
          | none => rw [hn] at hl; cases hl
          | some n =>
            rw [hn] at hl
            dsimp only at hl
            cases hc : readCells h id off n with
            | none => rw [hc] at hl; cases hl
            | some cs =>
              rw [hc] at hl
              cases hl
              obtain ⟨cs', e1, e2⟩ := readCells_run (P := P) hr hx hxp hc
              exact ⟨.agg cs', by simp [loadVar, hA', sizeE_run w hn, e1], .agg _ _ e2⟩

/-- Load, at an address. -/
theorem loadE_run {P : Program} {ρ : R} {h : H} {w : World} (hr : HR ρ h w) {t : TypeId} {a v : AV} {a' : Value} (ha : VR ρ a a') (hl : loadE P t a h = some v) : Pur P (Instr.loadAt t a') ρ w v := by
  obtain ⟨b, off, rfl, v', e1, e2⟩ := loadE_var (P := P) hr ha hl
  exact ⟨v', by simp [Instr.loadAt, Instr.sureAddr, e1], e2⟩

end Go.Ev
