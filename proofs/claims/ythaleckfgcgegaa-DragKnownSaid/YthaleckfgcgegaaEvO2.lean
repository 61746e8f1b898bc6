/-
  CONTRACTS OF CALLS, 2: they are sound.
-/
import Derived.Test.YthaleckfgcgegaaEvO1
namespace Go.Ev

theorem nm_mem {t a : Pos} : ∀ {l : List (Pos × Pos)}, nm t l = some a → (t, a) ∈ l
  | [], h => by cases h
  | (k, d) :: r, h => by
    unfold nm at h
    by_cases e : t = k
    · rw [decide_eq_true e] at h; cases h; subst e; exact List.mem_cons_self
    · rw [decide_eq_false e] at h; exact List.mem_cons_of_mem _ (nm_mem h)

theorem holds1_spec {h : H} {a : Pos} {c : List AV} (e : holds1 h a c = true) : ∃ born o m, T.get a h.objs = some (born, o) ∧ cellsOf o = some m ∧ (∀ i v, c[i]? = some v → m i = some v) ∧ ∀ v ∈ c, flat1 v = true := by
  unfold holds1 at e
  cases h1 : getObj a h with
  | none => rw [h1] at e; cases e
  | some o =>
    rw [h1] at e
    dsimp only at e
    cases h2 : cellsOf o with
    | none => rw [h2] at e; cases e
    | some m =>
      rw [h2] at e
      dsimp only at e
      cases h3 : readM m c.length 0 with
      | none => rw [h3] at e; cases e
      | some vs =>
        rw [h3] at e
        obtain ⟨e1, e2⟩ := eqFL_spec e
        subst e1
        obtain ⟨born, hb⟩ := getObj_some h1
        refine ⟨born, o, m, hb, h2, fun i v hv => ?_, e2⟩
        have := (readM_get h3).2 i v hv
        rwa [Nat.zero_add] at this

theorem heldB_spec {tb : List (Pos × List AV)} {s : List (Pos × Pos)} {h : H} (e : heldB tb s h = true) {t : Pos} {c : List AV} (hm : (t, c) ∈ tb) : ∃ a, nm t s = some a ∧ holds1 h a c = true := by
  unfold heldB at e
  have := (List.all_eq_true.1 e) (t, c) hm
  dsimp only at this
  cases hn : nm t s with
  | none => rw [hn] at this; cases this
  | some a => rw [hn] at this; exact ⟨a, rfl, this⟩

theorem knownB_spec {tb : List (Pos × List AV)} {s : List (Pos × Pos)} (e : knownB tb s = true) {t a : Pos} (hn : nm t s = some a) : ∃ c, lk t tb = some c := by
  unfold knownB at e
  have := (List.all_eq_true.1 e) (t, a) (nm_mem hn)
  dsimp only at this
  cases hl : lk t tb with
  | none => rw [hl] at this; cases this
  | some c => exact ⟨c, rfl⟩

theorem apartB_spec {tb : List (Pos × List AV)} {s : List (Pos × Pos)} (e : apartB tb s = true) {t u : Pos} {c d : List AV} (h1 : (t, c) ∈ tb) (h2 : (u, d) ∈ tb) (h : nm t s = nm u s) : t = u := by
  unfold apartB at e
  have := (List.all_eq_true.1 e) (t, c) h1
  have := (List.all_eq_true.1 this) (u, d) h2
  dsimp only at this
  rw [decide_eq_true h] at this
  by_cases e : t = u
  · exact e
  · rw [decide_eq_false e] at this; cases this

theorem farB_spec {p : Pos} : ∀ {n : Nat}, farB n p = true → ∀ g, g < n → p ≠ posN g
  | 0, _, g, h => absurd h (Nat.not_lt_zero g)
  | n + 1, e, g, h => by
    have e' : (!decide (p = posN n) && farB n p) = true := e
    rw [Bool.and_eq_true] at e'
    by_cases hg : g = n
    · subst hg
      intro hp
      rw [decide_eq_true hp] at e'
      cases e'.1
    · exact farB_spec e'.2 g (by omega)

open Classical in
noncomputable def smallR (ρ : R) (tb : List (Pos × List AV)) (s : List (Pos × Pos)) : R := fun id => match lk id tb with
  | some _ => (match nm id s with | some a => ρ a | none => none)
  | none => if Has (smallH tb) id then some none else none

section
variable {ρ : R} {h : H} {w : World} {tb : List (Pos × List AV)} {s : List (Pos × Pos)}

theorem smallR_some {id : Pos} {x : Option (Nat × Nat)} (e : smallR ρ tb s id = some x) : (∃ c a, lk id tb = some c ∧ nm id s = some a ∧ ρ a = some x) ∨ (lk id tb = none ∧ Has (smallH tb) id ∧ x = none) := by
  unfold smallR at e
  cases hl : lk id tb with
  | none =>
    rw [hl] at e
    dsimp only at e
    split at e
    · cases e; exact .inr ⟨rfl, ‹_›, rfl⟩
    · cases e
  | some c =>
    rw [hl] at e
    dsimp only at e
    cases hn : nm id s with
    | none => rw [hn] at e; cases e
    | some a => rw [hn] at e; exact .inl ⟨c, a, rfl, rfl, e⟩

theorem smallR_at {id a : Pos} {c : List AV} (h1 : lk id tb = some c) (h2 : nm id s = some a) : smallR ρ tb s id = ρ a := by
  unfold smallR; rw [h1]; dsimp only; rw [h2]

theorem small_hr (hr : HR ρ h w) (hg : GR ρ) (hh : heldB tb s h = true) (ha : apartB tb s = true) (h0 : (∃ c, lk (posN 0) tb = some c) → nm (posN 0) s = some (posN 0)) (hf : ∀ t c, (t, c) ∈ tb → t = posN 0 ∨ ∀ g, g < 64 → t ≠ posN g) :
    HR (smallR ρ tb s) (smallH tb) w ∧ GR (smallR ρ tb s) ∧ ∀ b, ¬ Wr (smallR ρ tb s) (smallH tb) b := by
  have got : ∀ {id c}, lk id tb = some c → T.get id (smallH tb).objs = some (0, .ro (M.get (mkCells c))) := fun {id c} e => by
    have := small_get (id := id) tb
    rw [e] at this
    exact this
  refine ⟨⟨?_, ?_, ?_, ?_⟩, ?_, ?_⟩
  · intro id b n hid
    rcases smallR_some hid with ⟨c, a, h1, h2, h3⟩ | ⟨_, _, h3⟩
    · obtain ⟨a2, k1, k2⟩ := heldB_spec hh (lk_mem h1)
      rw [h2] at k1
      cases k1
      obtain ⟨born, o, m, g1, g2, g3, g4⟩ := holds1_spec k2
      obtain ⟨born2, o2, o', f1, f2, f3⟩ := hr.live a b n h3
      rw [g1] at f1
      cases f1
      have rows : ∀ c', RowsF ρ m c' → RowsR (smallR ρ tb s) (mkCells c) c' := fun c' hc i v hv => by
        have hv' := mkCells_get hv
        obtain ⟨v', e1, e2⟩ := hc i v (g3 i v hv')
        exact ⟨v', e1, flat1_down (g4 v (List.mem_of_getElem? hv')) e2⟩
      cases f3 with
      | cells _ e c' hc => cases g2; exact ⟨0, _, _, got h1, f2, .ro _ e c' (0, 0) (rows c' hc)⟩
      | ro _ e c' f hc => cases g2; exact ⟨0, _, _, got h1, f2, .ro _ e c' f (rows c' hc)⟩
      | _ => cases g2
    · cases h3
  · intro i j b n n' hi hj
    rcases smallR_some hi with ⟨c, a, h1, h2, h3⟩ | ⟨_, _, h3⟩
    · rcases smallR_some hj with ⟨d, a2, k1, k2, k3⟩ | ⟨_, _, k3⟩
      · have := hr.inj a a2 b n n' h3 k3
        subst this
        exact apartB_spec ha (lk_mem h1) (lk_mem k1) (h2.trans k2.symm)
      · cases k3
    · cases h3
  · intro id hid
    rcases smallR_some hid with ⟨c, a, h1, h2, h3⟩ | ⟨h1, ⟨p, hp⟩, _⟩
    · exfalso
      obtain ⟨a2, k1, k2⟩ := heldB_spec hh (lk_mem h1)
      rw [h2] at k1
      cases k1
      obtain ⟨born, o, m, g1, g2, _⟩ := holds1_spec k2
      obtain ⟨born2, f1⟩ := hr.dead a h3
      rw [g1] at f1
      cases f1
      cases g2
    · have := small_get (id := id) tb
      rw [h1] at this
      have hp' : T.get id (smallObjs tb) = some p := hp
      rw [this] at hp'
      have := deads_get 64 id p hp'
      subst this
      exact ⟨0, hp⟩
  · intro id born o hg2
    have hg' : T.get id (smallObjs tb) = some (born, o) := hg2
    rw [small_get (id := id) tb] at hg'
    cases hl : lk id tb with
    | some c => rw [hl] at hg'; cases hg'; exact Nat.zero_lt_one
    | none =>
      rw [hl] at hg'
      have := deads_get 64 id _ hg'
      cases this
      exact Nat.zero_lt_one
  · intro g hg2
    have key : ∀ p : Pos, p.succ ≠ posN 0 := fun p => by cases p <;> intro e <;> cases e
    cases hl : lk (posN g) tb with
    | some c =>
      rcases hf _ _ (lk_mem hl) with h1 | h1
      · have hg0 : g = 0 := by
          cases g with
          | zero => rfl
          | succ g => exact absurd h1 (key _)
        subst hg0
        obtain ⟨x, hx, hp⟩ := hg 0 (Nat.zero_le _)
        exact ⟨x, by rw [smallR_at hl (h0 ⟨c, hl⟩)]; exact hx, hp⟩
      · exact absurd rfl (h1 g (by omega))
    | none =>
      have hh2 : Has (smallH tb) (posN g) := by
        have := small_get (id := posN g) tb
        rw [hl] at this
        exact ⟨_, Eq.trans this (deads_has 64 g (by omega))⟩
      refine ⟨none, ?_, fun b n e => by cases e⟩
      unfold smallR
      rw [hl]
      dsimp only
      rw [if_pos hh2]
  · rintro b ⟨id, n, hid, hro⟩
    rcases smallR_some hid with ⟨c, a, h1, _, _⟩ | ⟨_, _, h3⟩
    · exact hro ⟨0, _, got h1⟩
    · cases h3

theorem eqF_vr {ρs : R} {t a : AV} {v : Value} (e : eqF t a = true) (r : VR ρ a v) : VR ρs t v := by
  obtain ⟨rfl, hfl⟩ := eqF_spec e
  exact flat1_down hfl r

theorem fit1_spec {ρs : R} (hk : ∀ t a, nm t s = some a → ρs t = ρ a) {t a : AV} {v : Value} (e : fit1 s t a = true) (r : VR ρ a v) : VR ρs t v := by
  cases t with
  | sl tid off len cap esz =>
    cases a with
    | sl id off2 len2 cap2 esz2 =>
      have e' : ((match nm tid s with | some id2 => decide (id2 = id) | none => false) && Nat.beq off off2 && Nat.beq len len2 && eqCap cap cap2 && Nat.beq esz esz2) = true := e
      simp only [Bool.and_eq_true] at e'
      obtain ⟨⟨⟨⟨e1, e2⟩, e3⟩, e4⟩, e5⟩ := e'
      have e2 := Nat.eq_of_beq_eq_true e2
      have e3 := Nat.eq_of_beq_eq_true e3
      have e5 := Nat.eq_of_beq_eq_true e5
      subst e2 e3 e5
      cases hn : nm tid s with
      | none => rw [hn] at e1; cases e1
      | some id2 =>
        rw [hn] at e1
        have := of_decide_eq_true e1
        subst this
        cases r with
        | sl _ _ _ _ _ b cap' x hx hp hc hl =>
          refine .sl tid off len cap esz b cap' x ((hk _ _ hn).trans hx) (fun c n e => ⟨(hp c n e).1, fun hcn => (hp c n e).2 (by subst hcn; cases cap2 with | none => rfl | some _ => cases e4)⟩) (fun c hcc => ?_) hl
          subst hcc
          cases cap2 with
          | none => cases e4
          | some y =>
            have : c = y := Nat.eq_of_beq_eq_true e4
            subst this
            exact hc _ rfl
        | slu _ _ _ c0 a0 x0 hx h0 =>
          cases cap with
          | none => exact .slu tid off esz c0 a0 x0 ((hk _ _ hn).trans hx) h0
          | some c => cases e4
        | sle _ _ _ a0 hx =>
          cases cap with
          | none => cases e4
          | some c =>
            have : c = 0 := Nat.eq_of_beq_eq_true e4
            subst this
            exact .sle tid off esz a0 ((hk _ _ hn).trans hx)
    | _ => cases e
  | _ => refine eqF_vr (a := a) ?_ r; exact e

theorem fitL_spec {ρs : R} (hk : ∀ t a, nm t s = some a → ρs t = ρ a) : ∀ {ts as : List AV} {vs : List Value}, fitL s ts as = true → VL ρ as vs → VL ρs ts vs
  | [], [], _, _, r => by cases r; exact .nil
  | t :: ts, a :: as, _, e, r => by
    have e' : (fit1 s t a && fitL s ts as) = true := e
    rw [Bool.and_eq_true] at e'
    cases r with
    | cons _ _ v vs hv hvs => exact .cons _ _ _ _ (fit1_spec hk e'.1 hv) (fitL_spec hk e'.2 hvs)
  | [], _ :: _, _, e, _ => by cases e
  | _ :: _, [], _, e, _ => by cases e

theorem fit_spec {ρs : R} (hk : ∀ t a, nm t s = some a → ρs t = ρ a) {t a : AV} {v : Value} (e : fit s t a = true) (r : VR ρ a v) : VR ρs t v := by
  cases t with
  | agg ts => cases a with
    | agg as => cases r with
      | agg _ cs' hc => exact .agg ts cs' (fitL_spec hk e hc)
    | _ => cases e
  | _ => refine fit1_spec hk ?_ r; exact e

theorem fits_spec {ρs : R} (hk : ∀ t a, nm t s = some a → ρs t = ρ a) : ∀ {ts as : List AV} {vs : List Value}, fits s ts as = true → VL ρ as vs → VL ρs ts vs
  | [], [], _, _, r => by cases r; exact .nil
  | t :: ts, a :: as, _, e, r => by
    have e' : (fit s t a && fits s ts as) = true := e
    rw [Bool.and_eq_true] at e'
    cases r with
    | cons _ _ v vs hv hvs => exact .cons _ _ _ _ (fit_spec hk e'.1 hv) (fits_spec hk e'.2 hvs)
  | [], _ :: _, _, e, _ => by cases e
  | _ :: _, [], _, e, _ => by cases e

theorem ren1_spec {ρs ρ' : R} (hk : ∀ t a, nm t s = some a → ρ' a = ρs t) {v u : AV} {v' : Value} (e : ren1 s v = some u) (r : VR ρs v v') : VR ρ' u v' := by
  cases v with
  | sl id off len cap esz =>
    have e' : (match nm id s with | some a => some (AV.sl a off len cap esz) | none => none) = some u := e
    cases hn : nm id s with
    | none => rw [hn] at e'; cases e'
    | some a =>
      rw [hn] at e'
      cases e'
      cases r with
      | sl _ _ _ _ _ b cap' x hx hp hc hl => exact .sl a off len cap esz b cap' x ((hk _ _ hn).trans hx) hp hc hl
      | sle _ _ _ a0 hx => exact .sle a off esz a0 ((hk _ _ hn).trans hx)
      | slu _ _ _ c0 a0 x0 hx h0 => exact .slu a off esz c0 a0 x0 ((hk _ _ hn).trans hx) h0
  | bool b => cases e; exact flat1_down rfl r
  | int k n => cases e; exact flat1_down rfl r
  | str b => cases e; exact flat1_down rfl r
  | nilp => cases e; exact flat1_down rfl r
  | nils => cases e; exact flat1_down rfl r
  | nilm => cases e; exact flat1_down rfl r
  | nilf => cases e; exact flat1_down rfl r
  | nili => cases e; exact flat1_down rfl r
  | _ => cases e

theorem renL_spec {ρs ρ' : R} (hk : ∀ t a, nm t s = some a → ρ' a = ρs t) : ∀ {vs us : List AV} {vs' : List Value}, renL s vs = some us → VL ρs vs vs' → VL ρ' us vs'
  | [], us, _, e, r => by cases e; cases r; exact .nil
  | v :: vs, us, _, e, r => by
    unfold renL at e
    cases h1 : ren1 s v with
    | none => rw [h1] at e; cases e
    | some u =>
      rw [h1] at e
      dsimp only at e
      cases h2 : renL s vs with
      | none => rw [h2] at e; cases e
      | some us2 =>
        rw [h2] at e
        cases e
        cases r with
        | cons _ _ v' vs' hv hvs => exact .cons _ _ _ _ (ren1_spec hk h1 hv) (renL_spec hk h2 hvs)

theorem ren_spec {ρs ρ' : R} (hk : ∀ t a, nm t s = some a → ρ' a = ρs t) {v u : AV} {v' : Value} (e : ren s v = some u) (r : VR ρs v v') : VR ρ' u v' := by
  cases v with
  | tup vs =>
    have e' : (match renL s vs with | some us => some (AV.tup us) | none => none) = some u := e
    cases h1 : renL s vs with
    | none => rw [h1] at e'; cases e'
    | some us =>
      rw [h1] at e'
      cases e'
      cases r with
      | tup _ cs' hc => exact .tup us cs' (renL_spec hk h1 hc)
  | _ => exact ren1_spec hk (by exact e) r

end

end Go.Ev
