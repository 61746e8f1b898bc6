/-
  THE EVALUATOR'S SOUNDNESS, 8: append.
-/
import Derived.Test.YthaleckfgcgegaaEvS7
namespace Go.Ev

def R.kill (ρ : R) (id : Pos) : R := fun j => if j = id then some none else ρ j

theorem R.le_kill {ρ : R} {id : Pos} : R.le ρ (ρ.kill id) := fun j y hy => by
  unfold R.kill
  by_cases e : j = id
  · rw [if_pos e]; exact .inr rfl
  · rw [if_neg e]; exact .inl hy

/-- A name dies. -/
theorem HR.kill {ρ : R} {h h' : H} {w : World} (hr : HR ρ h w) {id : Pos} {x : Option (Nat × Nat)} {born : Nat} {o0 : AO} (hx : ρ id = some x) (h0 : T.get id h.objs = some (born, o0)) (e : Ev.setObj id .dead h = some h') :
    HR (ρ.kill id) h' w ∧ Ext ρ h w (ρ.kill id) h' w := by
  obtain ⟨born', o0', hg, rfl⟩ := setObj_some e
  rw [h0] at hg
  cases hg
  have hle : R.le ρ (ρ.kill id) := R.le_kill
  refine ⟨⟨?_, ?_, ?_, ?_⟩, ?_⟩
  · intro j b n hj
    unfold R.kill at hj
    by_cases ej : j = id
    · rw [if_pos ej] at hj; cases hj
    · rw [if_neg ej] at hj
      obtain ⟨bj, p, p', h1, h2, h3⟩ := hr.live j b n hj
      exact ⟨bj, p, p', (T.get_set_ne _ _ _ _ ej).trans h1, h2, h3.up hle⟩
  · intro i j b n n' hi hj
    unfold R.kill at hi hj
    by_cases ei : i = id
    · rw [if_pos ei] at hi; cases hi
    · by_cases ej : j = id
      · rw [if_pos ej] at hj; cases hj
      · rw [if_neg ei] at hi; rw [if_neg ej] at hj; exact hr.inj i j b n n' hi hj
  · intro j hj
    unfold R.kill at hj
    by_cases ej : j = id
    · subst ej; exact ⟨born, T.get_set_same _ _ _⟩
    · rw [if_neg ej] at hj
      obtain ⟨bj, h1⟩ := hr.dead j hj
      exact ⟨bj, (T.get_set_ne _ _ _ _ ej).trans h1⟩
  · intro j bj p hj
    by_cases ej : j = id
    · subst ej; rw [T.get_set_same] at hj; cases hj; exact hr.old _ _ _ h0
    · rw [T.get_set_ne _ _ _ _ ej] at hj; exact hr.old j bj p hj
  · refine { Ext.refl (ρ := ρ) (h := h) (w := w) with le := hle, newd := ?_, rng := ?_, wr := ?_, keep := ?_, wle := ?_ }
    · intro j hj
      unfold R.kill
      by_cases ej : j = id
      · subst ej; rw [hx] at hj; cases hj
      · rw [if_neg ej]; exact .inl hj
    · intro j b n hj
      unfold R.kill at hj
      by_cases ej : j = id
      · rw [if_pos ej] at hj; cases hj
      · rw [if_neg ej] at hj; exact .inr ⟨j, n, hj⟩
    · rintro b _ ⟨j, n, hj, hro⟩
      unfold R.kill at hj
      by_cases ej : j = id
      · rw [if_pos ej] at hj; cases hj
      · rw [if_neg ej] at hj
        exact ⟨j, n, hj, fun ⟨bj, m, hm⟩ => hro ⟨bj, m, (T.get_set_ne _ _ _ _ ej).trans hm⟩⟩
    · intro j bj p hj
      by_cases ej : j = id
      · subst ej
        rw [h0] at hj
        cases hj
        refine ⟨⟨.dead, T.get_set_same _ _ _⟩, fun hlt => ?_⟩
        exfalso
        revert hlt
        show ¬ born < (bif Nat.ble born h.w then born else h.w)
        cases hb : Nat.ble born h.w with
        | true => exact Nat.lt_irrefl _
        | false =>
          show ¬ born < h.w
          intro hlt
          rw [Nat.ble_eq_true_of_le (Nat.le_of_lt hlt)] at hb
          cases hb
      · exact ⟨⟨p, (T.get_set_ne _ _ _ _ ej).trans hj⟩, fun _ => (T.get_set_ne _ _ _ _ ej).trans hj⟩
    · show (bif Nat.ble born h.w then born else h.w) ≤ h.w
      cases hb : Nat.ble born h.w with
      | false => exact Nat.le_refl _
      | true => exact Nat.le_of_ble_eq_true hb

/-- A new name takes over the block of one that has died, which has been written. -/
theorem HR.adopt {ρ : R} {h h1 h' : H} {w w' : World} (hr : HR ρ h w) {id id' : Pos} {b n : Nat} {m : M AV} {e : TypeId} {born : Nat} {o : AO} (hx : ρ id = some (some (b, n))) (h0 : T.get id h.objs = some (born, .cells m e))
    (hk : Ev.setObj id .dead h = some h1) (hn : Ev.newObj o h1 = some (id', h')) {o' : Obj} (hne : ∀ m, o ≠ .ro m)
    (ho : OR ((ρ.kill id).new id' (some (b, n))) n o o') (hs : w'.heap.size = w.heap.size) (hb : w'.heap[b]? = some o') (hot : ∀ j, j ≠ b → w'.heap[j]? = w.heap[j]?) (hos : w'.os = w.os) (hout : w'.output = w.output)
    (hf : ∀ a, w'.frozen? a = w.frozen? a) :
    HR ((ρ.kill id).new id' (some (b, n))) h' w' ∧ Ext ρ h w ((ρ.kill id).new id' (some (b, n))) h' w' := by
  obtain ⟨hr1, ex1⟩ := hr.kill hx h0 hk
  obtain ⟨rfl, hg, rfl⟩ := newObj_some hn
  have hfr := hr1.fresh hg
  have hle : R.le (ρ.kill id) ((ρ.kill id).new h1.next (some (b, n))) := R.le_new hfr
  have hnb : ∀ j c, (ρ.kill id) j ≠ some (some (b, c)) := by
    intro j c hj
    unfold R.kill at hj
    by_cases ej : j = id
    · rw [if_pos ej] at hj; cases hj
    · rw [if_neg ej] at hj; exact ej (hr.inj j id b c n hj hx)
  have hlt : b < w.heap.size := by
    obtain ⟨_, _, _, _, h2, _⟩ := hr.live id b n hx
    exact (Array.getElem?_eq_some_iff.1 h2).1
  have hW : Wr ρ h b := ⟨id, n, hx, fun ⟨_, m, hm⟩ => by rw [h0] at hm; cases hm⟩
  refine ⟨⟨?_, ?_, ?_, ?_⟩, ?_⟩
  · intro j c k hj
    unfold R.new at hj
    by_cases ej : j = h1.next
    · subst ej
      rw [if_pos rfl] at hj
      cases hj
      exact ⟨h1.clock, o, o', T.get_set_same _ _ _, hb, ho⟩
    · rw [if_neg ej] at hj
      obtain ⟨bj, p, p', g1, g2, g3⟩ := hr1.live j c k hj
      refine ⟨bj, p, p', (T.get_set_ne _ _ _ _ ej).trans g1, ?_, g3.up hle⟩
      rw [hot c (fun ec => hnb j k (ec ▸ hj))]
      exact g2
  · intro i j c k k' hi hj
    unfold R.new at hi hj
    by_cases ei : i = h1.next
    · by_cases ej : j = h1.next
      · rw [ei, ej]
      · rw [if_pos ei] at hi; rw [if_neg ej] at hj; cases hi
        exact absurd hj (hnb _ _)
    · by_cases ej : j = h1.next
      · rw [if_neg ei] at hi; rw [if_pos ej] at hj; cases hj
        exact absurd hi (hnb _ _)
      · rw [if_neg ei] at hi; rw [if_neg ej] at hj
        exact hr1.inj i j c k k' hi hj
  · intro j hj
    unfold R.new at hj
    by_cases ej : j = h1.next
    · rw [if_pos ej] at hj; cases hj
    · rw [if_neg ej] at hj
      obtain ⟨bj, g⟩ := hr1.dead j hj
      exact ⟨bj, (T.get_set_ne _ _ _ _ ej).trans g⟩
  · intro j bj p hj
    show bj < Nat.succ h1.clock
    by_cases ej : j = h1.next
    · subst ej; rw [T.get_set_same] at hj; cases hj; exact Nat.lt_succ_self _
    · rw [T.get_set_ne _ _ _ _ ej] at hj; exact Nat.lt_succ_of_lt (hr1.old j bj p hj)
  · refine { le := R.le_trans ex1.le hle, newd := ?_, rng := ?_, wr := ?_, frame := ?_, size := Nat.le_of_eq hs.symm, frz := hf, os := hos, out := hout, clk := Nat.le_succ_of_le ex1.clk, keep := ?_, wle := ex1.wle }
    · intro j hj
      rcases ex1.newd j hj with g | g
      · by_cases ej : j = h1.next
        · refine .inr ?_
          cases hgj : T.get j h.objs with
          | none => rfl
          | some bp =>
            obtain ⟨⟨o2, ho2⟩, _⟩ := ex1.keep j bp.1 bp.2 hgj
            rw [ej, hg] at ho2; cases ho2
        · exact .inl (by unfold R.new; rw [if_neg ej]; exact g)
      · exact .inr g
    · intro j c k hj
      unfold R.new at hj
      by_cases ej : j = h1.next
      · rw [if_pos ej] at hj; cases hj; exact .inr ⟨id, n, hx⟩
      · rw [if_neg ej] at hj; exact ex1.rng j c k hj
    · rintro c hc ⟨j, k, hj, hro⟩
      unfold R.new at hj
      by_cases ej : j = h1.next
      · rw [if_pos ej] at hj; cases hj; exact hW
      · rw [if_neg ej] at hj
        exact ex1.wr c hc ⟨j, k, hj, fun ⟨bj, m, hm⟩ => hro ⟨bj, m, (T.get_set_ne _ _ _ _ ej).trans hm⟩⟩
    · intro c _ hc
      exact hot c (fun ec => hc (ec ▸ hW))
    · intro j bj p hj
      obtain ⟨⟨o2, ho2⟩, hk2⟩ := ex1.keep j bj p hj
      have hne2 : j ≠ h1.next := fun e => by rw [e, hg] at ho2; cases ho2
      exact ⟨⟨o2, (T.get_set_ne _ _ _ _ hne2).trans ho2⟩, fun hl => (T.get_set_ne _ _ _ _ hne2).trans (hk2 hl)⟩

/-- Values written, one after the other, into a row of cells. -/
theorem storeCells_conc {P : Program} {b off : Nat} {e : TypeId} : ∀ {vs : List Value}, (∀ v ∈ vs, v.oneCell' = true) → ∀ {i : Nat} {c : Array Value} {w : World}, w.heap[b]? = some (.cells c e (0, 0)) → off + i + vs.length ≤ c.size →
    ∃ w' c', (storeCells ⟨b, off, none⟩ vs i).run P w = .ok () w' ∧ w'.heap[b]? = some (.cells c' e (0, 0)) ∧ c'.toList = c.toList.take (off + i) ++ vs ++ c.toList.drop (off + i + vs.length) ∧
      (∀ j, j ≠ b → w'.heap[j]? = w.heap[j]?) ∧ w'.heap.size = w.heap.size ∧ w'.os = w.os ∧ w'.output = w.output ∧ (∀ a, w'.frozen? a = w.frozen? a)
  | [], _, i, c, w, hb, hl => ⟨w, c, rfl, hb, by simp, fun _ _ => rfl, rfl, rfl, rfl, fun _ => rfl⟩
  | v :: vs, h1, i, c, w, hb, hl => by
    simp only [List.length_cons] at hl
    have hk : off + i < c.size := by omega
    have hst : (store ⟨b, off + i, none⟩ v).run P w = .ok () (w.setCell ⟨b, off + i, none⟩ v) := by
      rw [run_store P w _ _ _ (h1 v (by simp))]
      have : w.cell? ⟨b, off + i, none⟩ = some c[off + i] := by simp [World.cell?, hb, hk]
      rw [this, unfrozen hb]
      rfl
    obtain ⟨w', c', g1, g2, g3, g4, g5, g6, g7, g8⟩ := storeCells_conc (P := P) (b := b) (off := off) (e := e) (vs := vs) (fun u hu => h1 u (by simp [hu])) (i := i + 1) (setCell_here hb (k := off + i) (v := v)) (by simp; omega)
    refine ⟨w', c', ?_, g2, ?_, fun j hj => (g4 j hj).trans (setCell_else hj), g5.trans setCell_size, g6, g7, fun a => (g8 a).trans (World.frozen?_setCell _ _ _ _)⟩
    · unfold storeCells
      simp only [Sem.run_bind, Addr.add_lit, hst, Result.andThen_ok]
      exact g1
    · rw [g3]
      have e1 : (c.setIfInBounds (off + i) v).toList = c.toList.set (off + i) v := by simp
      rw [e1]
      have hl' : off + i < c.toList.length := by simpa using hk
      have e2 : (c.toList.set (off + i) v).take (off + (i + 1)) = c.toList.take (off + i) ++ [v] := by
        rw [show off + (i + 1) = (off + i) + 1 from by omega, List.take_succ_eq_append_getElem (by simpa using hk)]
        simp [List.take_set_of_le]
      have e3 : (c.toList.set (off + i) v).drop (off + (i + 1) + vs.length) = c.toList.drop (off + i + (vs.length + 1)) := by
        rw [List.drop_set_of_lt (by omega)]
        congr 1; omega
      rw [e2, e3]
      simp

theorem allOne_cells {ρ : R} : ∀ {vs : List AV} {vs' : List Value}, VL ρ vs vs' → allOne vs = true → ∀ v ∈ vs', v.oneCell' = true
  | _, _, .nil, _ => by simp
  | _, _, .cons v vs v' vs' hv hvs, h => by
    have h' : (bif oneB v then allOne vs else false) = true := h
    cases ho : oneB v with
    | false => rw [ho] at h'; cases h'
    | true =>
      rw [ho] at h'
      intro u hu
      rcases List.mem_cons.1 hu with rfl | hu
      · exact oneB_cell ho hv
      · exact allOne_cells hvs h' u hu

/-- What comes out of a row of known cells. -/
theorem readM_get {m : Nat → Option AV} : ∀ {n i : Nat} {vs : List AV}, readM m n i = some vs → vs.length = n ∧ ∀ j v, vs[j]? = some v → m (i + j) = some v
  | 0, i, vs, h => by cases h; exact ⟨rfl, fun j v hv => by simp at hv⟩
  | n + 1, i, vs, h => by
    unfold readM at h
    cases h1 : m i with
    | none => rw [h1] at h; cases h
    | some v =>
      rw [h1] at h
      dsimp only at h
      cases h2 : readM m n (Nat.succ i) with
      | none => rw [h2] at h; cases h
      | some us =>
        rw [h2] at h
        cases h
        obtain ⟨g1, g2⟩ := readM_get h2
        refine ⟨by simp [g1], fun j u hu => ?_⟩
        cases j with
        | zero => simp at hu; subst hu; exact h1
        | succ j =>
          have := g2 j u (by simpa using hu)
          rw [show i + (j + 1) = Nat.succ i + j from by omega]
          exact this

theorem VL.of_get {ρ : R} : ∀ {as : List AV} {vs : List Value}, as.length = vs.length → (∀ (i : Nat) (a : AV), as[i]? = some a → ∃ v, vs[i]? = some v ∧ VR ρ a v) → VL ρ as vs
  | [], [], _, _ => .nil
  | [], _ :: _, h, _ => by simp at h
  | _ :: _, [], h, _ => by simp at h
  | a :: as, v :: vs, h, k => by
    obtain ⟨u, h1, h2⟩ := k 0 a (by simp)
    simp at h1
    subst h1
    exact .cons _ _ _ _ h2 (VL.of_get (by simpa using h) (fun i b hb => by
      obtain ⟨u, g1, g2⟩ := k (i + 1) b (by simpa using hb)
      exact ⟨u, by simpa using g1, g2⟩))

/-- A row of abstract cells, whose beginning is that of a concrete one. -/
theorem rows_of_prefix {ρ : R} {cs : List AV} {l r : List Value} {c : Array Value} (h : VL ρ cs l) (hc : c.toList = l ++ r) : RowsR ρ (mkCells cs) c := fun i v hv => by
  obtain ⟨v', h1, h2⟩ := h.get (mkCells_get hv)
  refine ⟨v', ?_, h2⟩
  have : c.toList[i]? = some v' := by
    rw [hc, List.getElem?_append_left (List.getElem?_eq_some_iff.1 h1).1]
    exact h1
  simpa using this

end Go.Ev
