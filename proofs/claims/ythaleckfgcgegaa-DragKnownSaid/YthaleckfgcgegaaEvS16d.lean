/-
  THE EVALUATOR'S SOUNDNESS, 16d: a step that writes nothing that was there, taken out of its turn.
-/
import Derived.Test.YthaleckfgcgegaaEvS16c
namespace Go.Ev

def Has (h : H) (id : Pos) : Prop := ∃ p, T.get id h.objs = some p
def Sub (h h2 : H) : Prop := ∀ id p, T.get id h.objs = some p → T.get id h2.objs = some p

noncomputable def Mrg (ρ ρi : R) (hm h' : H) : R := fun id => match T.get id hm.objs, T.get id h'.objs with
  | none, some _ => ρi id
  | _, _ => ρ id

theorem Mrg_new {ρ ρi : R} {hm h' : H} {id : Pos} (h1 : T.get id hm.objs = none) (h2 : Has h' id) : Mrg ρ ρi hm h' id = ρi id := by
  obtain ⟨p, h2⟩ := h2
  unfold Mrg; rw [h1, h2]
theorem Mrg_old {ρ ρi : R} {hm h' : H} {id : Pos} (h1 : T.get id hm.objs = none → T.get id h'.objs = none) : Mrg ρ ρi hm h' id = ρ id := by
  unfold Mrg
  cases ha : T.get id hm.objs with
  | none => rw [h1 ha]
  | some p => rfl

theorem not_has {h : H} {id : Pos} (hn : ¬ Has h id) : T.get id h.objs = none := by
  cases hg : T.get id h.objs with
  | none => rfl
  | some p => exact absurd ⟨p, hg⟩ hn

theorem HR.has {ρ : R} {h : H} {w : World} (hr : HR ρ h w) {id : Pos} {x : Option (Nat × Nat)} (hx : ρ id = some x) : Has h id := by
  cases hg : T.get id h.objs with
  | none => rw [hr.fresh hg] at hx; cases hx
  | some p => exact ⟨p, hg⟩

section
variable {ρ ρi : R} {hm h' : H} {w w' : World}

structure QS (ρ ρi : R) (hm h' : H) (w w' : World) : Prop where
  hrm : HR (Rst ρ hm) hm w
  hri : HR ρi h' w'
  ex : Ext (Rst ρ hm) hm w ρi h' w'
  hq : hm.clock ≤ h'.w
  fresh : ∀ id, Has h' id → T.get id hm.objs = none → ρ id = none

theorem QS.f1 (q : QS ρ ρi hm h' w w') : ∀ id x, Rst ρ hm id = some x → ρi id = some x := quiet_same q.hrm q.hri q.ex q.hq
theorem QS.f2 (q : QS ρ ρi hm h' w w') : Sub hm h' := fun id p hp => by
  obtain ⟨born, o⟩ := p
  exact quiet_objs q.hrm q.ex q.hq hp
theorem QS.f3 (q : QS ρ ρi hm h' w w') {id : Pos} {x : Option (Nat × Nat)} (h : ρ id = some x) : Mrg ρ ρi hm h' id = some x := by
  rw [Mrg_old]
  · exact h
  · intro hn
    cases hg : T.get id h'.objs with
    | none => rfl
    | some p => rw [q.fresh id ⟨p, hg⟩ hn] at h; cases h
theorem QS.f4 (q : QS ρ ρi hm h' w w') {id : Pos} {x : Option (Nat × Nat)} (h : ρi id = some x) : Mrg ρ ρi hm h' id = some x := by
  by_cases hm' : Has hm id
  · cases hr : Rst ρ hm id with
    | none =>
      rcases q.ex.newd id hr with h1 | h1
      · rw [h1] at h; cases h
      · obtain ⟨p, hp⟩ := hm'; rw [h1] at hp; cases hp
    | some y =>
      have h1 := q.f1 id y hr
      rw [h1] at h
      cases h
      exact q.f3 (Rst_some.1 hr).1
  · rw [Mrg_new (not_has hm') (q.hri.has h)]; exact h
theorem QS.f6 (q : QS ρ ρi hm h' w w') {id : Pos} {x : Option (Nat × Nat)} (h : Mrg ρ ρi hm h' id = some x) : (T.get id hm.objs = none ∧ Has h' id ∧ ρi id = some x) ∨ ρ id = some x := by
  by_cases hm' : Has hm id
  · rw [Mrg_old] at h
    · exact .inr h
    · intro hn; obtain ⟨p, hp⟩ := hm'; rw [hn] at hp; cases hp
  · by_cases hh : Has h' id
    · rw [Mrg_new (not_has hm') hh] at h; exact .inl ⟨not_has hm', hh, h⟩
    · rw [Mrg_old (fun _ => not_has hh)] at h; exact .inr h

def Rel (hm h' h2 : H) : Prop := Sub h2 hm ∨ Sub h' h2

theorem QS.le2 (q : QS ρ ρi hm h' w w') (h2 : H) : ∀ id x, Rst ρ h2 id = some x → Rst (Mrg ρ ρi hm h') h2 id = some x := fun id x h => by
  obtain ⟨a, b⟩ := Rst_some.1 h
  exact Rst_some.2 ⟨q.f3 a, b⟩

theorem QS.lei (q : QS ρ ρi hm h' w w') {h2 : H} (hs : Sub h' h2) : R.le ρi (Rst (Mrg ρ ρi hm h') h2) := fun id x h => by
  obtain ⟨p, hp⟩ := q.hri.has h
  exact .inl (Rst_some.2 ⟨q.f4 h, p, hs id p hp⟩)

/-- What stands for an object after the step. -/
theorem QS.or (q : QS ρ ρi hm h' w w') {h2 : H} (rel : Rel hm h' h2) {n : Nat} {o : AO} {o0 o1 : Obj} (a : OR (Rst ρ h2) n o o0) (b : OR ρi n o o1) : OR (Rst (Mrg ρ ρi hm h') h2) n o o1 := by
  rcases rel with hs | hs
  · refine (OR.down (fun id x h => ?_) a b).up (fun id x h => .inl (q.le2 h2 id x h))
    obtain ⟨h1, p, hp⟩ := Rst_some.1 h
    exact q.f1 id x (Rst_some.2 ⟨h1, p, hs id p hp⟩)
  · exact b.up (q.lei hs)

theorem QS.hr (q : QS ρ ρi hm h' w w') {h2 : H} (hr2 : HR (Rst ρ h2) h2 w) (rel : Rel hm h' h2) : HR (Rst (Mrg ρ ρi hm h') h2) h2 w' := by
  have new : ∀ id, Has h2 id → T.get id hm.objs = none → Has h' id → Sub h' h2 := fun id h2' hn _ => by
    rcases rel with hs | hs
    · obtain ⟨p, hp⟩ := h2'; rw [hs id p hp] at hn; cases hn
    · exact hs
  refine ⟨?_, ?_, ?_, hr2.old⟩
  · intro id b n hid
    obtain ⟨hid, hin⟩ := Rst_some.1 hid
    rcases q.f6 hid with ⟨c1, c2, c3⟩ | c
    · have hs := new id hin c1 c2
      obtain ⟨born, o, o', g1, g2, g3⟩ := q.hri.live id b n c3
      exact ⟨born, o, o', hs _ _ g1, g2, g3.up (q.lei hs)⟩
    · obtain ⟨born, o, o', g1, g2, g3⟩ := hr2.live id b n (Rst_some.2 ⟨c, hin⟩)
      by_cases hW : Wr (Rst ρ hm) hm b
      · obtain ⟨id0, n0, k1, k2⟩ := hW
        obtain ⟨k3, p0, k4⟩ := Rst_some.1 k1
        have hsame : id0 = id := by
          rcases rel with hs | hs
          · obtain ⟨p, hp⟩ := hin
            exact q.hrm.inj id0 id b n0 n k1 (Rst_some.2 ⟨c, p, hs id p hp⟩)
          · exact hr2.inj id0 id b n0 n (Rst_some.2 ⟨k3, p0, hs _ _ (q.f2 _ _ k4)⟩) (Rst_some.2 ⟨c, hin⟩)
        subst hsame
        have hn : n0 = n := by rw [k3] at c; cases c; rfl
        subst hn
        have hi := q.f1 _ _ k1
        obtain ⟨born2, o2, o2', m1, m2, m3⟩ := q.hri.live id0 b n0 hi
        have hobj : T.get id0 h'.objs = some (born, o) := by
          rcases rel with hs | hs
          · exact q.f2 _ _ (hs _ _ g1)
          · have e1 := q.f2 _ _ k4
            have e2 := hs _ _ e1
            rw [g1] at e2
            cases e2
            exact e1
        rw [hobj] at m1
        cases m1
        exact ⟨born, o, o2', g1, m2, q.or rel g3 m3⟩
      · have hlt := (Array.getElem?_eq_some_iff.1 g2).1
        exact ⟨born, o, o', g1, (q.ex.frame b hlt hW).trans g2, g3.up (fun j x h => .inl (q.le2 h2 j x h))⟩
  · intro i j b n n' hi hj
    obtain ⟨hi, hin⟩ := Rst_some.1 hi
    obtain ⟨hj, hjn⟩ := Rst_some.1 hj
    have mixed : ∀ id id' n n', Has h2 id' → T.get id hm.objs = none → ρi id = some (some (b, n)) → ρ id' = some (some (b, n')) → False := by
      intro id id' n n' hin' hnone hnew hold
      rcases q.ex.rng id b n hnew with hb | ⟨id0, n0, h0⟩
      · obtain ⟨_, _, o', _, g2, _⟩ := hr2.live id' b n' (Rst_some.2 ⟨hold, hin'⟩)
        exact absurd (Array.getElem?_eq_some_iff.1 g2).1 (Nat.not_lt.2 hb)
      · have := q.hri.inj id0 id b n0 n (q.f1 _ _ h0) hnew
        subst this
        obtain ⟨_, p, hp⟩ := Rst_some.1 h0
        rw [hp] at hnone; cases hnone
    rcases q.f6 hi with ⟨c1, c2, c3⟩ | c <;> rcases q.f6 hj with ⟨d1, d2, d3⟩ | d
    · exact q.hri.inj i j b n n' c3 d3
    · exact (mixed i j n n' hjn c1 c3 d).elim
    · exact (mixed j i n' n hin d1 d3 c).elim
    · exact hr2.inj i j b n n' (Rst_some.2 ⟨c, hin⟩) (Rst_some.2 ⟨d, hjn⟩)
  · intro id hid
    obtain ⟨hid, hin⟩ := Rst_some.1 hid
    rcases q.f6 hid with ⟨c1, c2, c3⟩ | c
    · have hs := new id hin c1 c2
      obtain ⟨born, g⟩ := q.hri.dead id c3
      exact ⟨born, hs _ _ g⟩
    · exact hr2.dead id (Rst_some.2 ⟨c, hin⟩)

theorem QS.wr (q : QS ρ ρi hm h' w w') {h2 : H} (rel : Rel hm h' h2) {b : Nat} (hb : b < w.heap.size) (hW : Wr (Rst (Mrg ρ ρi hm h') h2) h2 b) : Wr (Rst ρ hm) hm b ∨ Wr (Rst ρ h2) h2 b := by
  obtain ⟨id, n, h1, h2'⟩ := hW
  obtain ⟨h3, p, h4⟩ := Rst_some.1 h1
  rcases q.f6 h3 with ⟨c1, c2, c3⟩ | c
  · refine .inl (q.ex.wr b hb ⟨id, n, c3, ?_⟩)
    rintro ⟨born, m, hmm⟩
    rcases rel with hs | hs
    · rw [hs _ _ h4] at c1; cases c1
    · exact h2' ⟨born, m, hs _ _ hmm⟩
  · exact .inr ⟨id, n, Rst_some.2 ⟨c, p, h4⟩, h2'⟩

end

end Go.Ev
