import Derived.Test.YtmincoafjnnkpaawkM2
set_option linter.all false
/- EvO1 -/
section
/-
  CONTRACTS OF CALLS, 1: what a call does in a small memory, taken over into any memory that holds the like.
-/
namespace Go.Ev

noncomputable section

def eqF (a b : AV) : Bool := match a with
  | .bool x => (match b with | .bool y => (bif x then y else !y) | _ => false)
  | .int k m => (match b with | .int l n => decide (k = l) && decide (m = n) | _ => false)
  | .nilp => (match b with | .nilp => true | _ => false)
  | .nils => (match b with | .nils => true | _ => false)
  | .nilm => (match b with | .nilm => true | _ => false)
  | .nilf => (match b with | .nilf => true | _ => false)
  | .nili => (match b with | .nili => true | _ => false)
  | _ => false

theorem eqF_spec {a b : AV} (h : eqF a b = true) : a = b ∧ flat1 a = true := by
  cases a <;> cases b <;> first
    | (cases h; done)
    | exact ⟨rfl, rfl⟩
    | skip
  · rename_i x y; cases x <;> cases y <;> first | exact ⟨rfl, rfl⟩ | cases h
  · rename_i k m l n
    have h' : (decide (k = l) && decide (m = n)) = true := h
    rw [Bool.and_eq_true] at h'
    obtain ⟨h1, h2⟩ := h'
    have h1 := of_decide_eq_true h1
    have h2 := of_decide_eq_true h2
    subst h1 h2
    exact ⟨rfl, rfl⟩

def eqFL : List AV → List AV → Bool
  | [], [] => true
  | a :: as, b :: bs => eqF a b && eqFL as bs
  | _, _ => false

theorem eqFL_spec : ∀ {as bs : List AV}, eqFL as bs = true → as = bs ∧ ∀ a ∈ as, flat1 a = true
  | [], [], _ => ⟨rfl, fun _ h => by cases h⟩
  | a :: as, b :: bs, h => by
    have h' : (eqF a b && eqFL as bs) = true := h
    rw [Bool.and_eq_true] at h'
    obtain ⟨h1, h2⟩ := eqF_spec h'.1
    obtain ⟨h3, h4⟩ := eqFL_spec h'.2
    subst h1 h3
    exact ⟨rfl, fun x hx => by rcases List.mem_cons.1 hx with rfl | hx; exact h2; exact h4 x hx⟩
  | [], _ :: _, h => by cases h
  | _ :: _, [], h => by cases h

structure Con where
  g : FuncId
  args : List AV
  tb : List (Pos × List AV)
  ret : AV
  news : List (Pos × List AV × TypeId)

def lk (t : Pos) : List (Pos × List AV) → Option (List AV)
  | [] => none
  | (k, c) :: r => bif decide (t = k) then some c else lk t r

def nm (t : Pos) : List (Pos × Pos) → Option Pos
  | [] => none
  | (k, a) :: r => bif decide (t = k) then some a else nm t r

theorem lk_mem {t : Pos} : ∀ {l : List (Pos × List AV)} {c : List AV}, lk t l = some c → (t, c) ∈ l
  | [], _, h => by cases h
  | (k, d) :: r, c, h => by
    unfold lk at h
    by_cases e : t = k
    · rw [decide_eq_true e] at h; cases h; subst e; exact List.mem_cons_self
    · rw [decide_eq_false e] at h; exact List.mem_cons_of_mem _ (lk_mem h)

def smallObjs (tb : List (Pos × List AV)) : T (Nat × AO) := tb.foldr (fun x t => T.set (0, .ro (M.get (mkCells x.2))) x.1 t) (deads 64)
def smallH (tb : List (Pos × List AV)) : H := { objs := smallObjs tb, next := posN 128, clock := 1, w := 1 }

theorem small_get {id : Pos} : ∀ (tb : List (Pos × List AV)), T.get id (smallObjs tb) = match lk id tb with | some c => some (0, .ro (M.get (mkCells c))) | none => T.get id (deads 64)
  | [] => rfl
  | (k, c) :: r => by
    have e : smallObjs ((k, c) :: r) = T.set (0, .ro (M.get (mkCells c))) k (smallObjs r) := rfl
    rw [e]
    unfold lk
    by_cases h : id = k
    · subst h; rw [T.get_set_same, decide_eq_true rfl]; rfl
    · rw [T.get_set_ne _ _ _ _ h, decide_eq_false h]; exact small_get r

/-- An argument's pattern met. -/
def eqCap (a b : Option Nat) : Bool := match a with
  | none => match b with | none => true | some _ => false
  | some x => match b with | some y => Nat.beq x y | none => false

def fit1 (s : List (Pos × Pos)) (t a : AV) : Bool := match t with
  | .sl tid off len cap esz => (match a with
    | .sl id off2 len2 cap2 esz2 => (match nm tid s with | some id2 => decide (id2 = id) | none => false) && Nat.beq off off2 && Nat.beq len len2 && eqCap cap cap2 && Nat.beq esz esz2
    | _ => false)
  | t => eqF t a

def fitL (s : List (Pos × Pos)) : List AV → List AV → Bool
  | [], [] => true
  | t :: ts, a :: as => fit1 s t a && fitL s ts as
  | _, _ => false

def fit (s : List (Pos × Pos)) (t a : AV) : Bool := match t with
  | .agg ts => (match a with | .agg as => fitL s ts as | _ => false)
  | t => fit1 s t a

def fits (s : List (Pos × Pos)) : List AV → List AV → Bool
  | [], [] => true
  | t :: ts, a :: as => fit s t a && fits s ts as
  | _, _ => false

/-- Which name is which. -/
def pair1 (t a : AV) (s : List (Pos × Pos)) : List (Pos × Pos) := match t with
  | .sl tid _ _ _ _ => (match a with | .sl id _ _ _ _ => (tid, id) :: s | _ => s)
  | _ => s
def pairL : List AV → List AV → List (Pos × Pos)
  | t :: ts, a :: as => pair1 t a (pairL ts as)
  | _, _ => []
def pairs : List AV → List AV → List (Pos × Pos)
  | t :: ts, a :: as => (match t with
    | .agg us => (match a with | .agg vs => pairL us vs ++ pairs ts as | _ => [])
    | t => pair1 t a (pairs ts as))
  | _, _ => []

def holds1 (h : H) (a : Pos) (c : List AV) : Bool := match getObj a h with
  | some o => (match cellsOf o with
    | some m => (match readM m c.length 0 with | some vs => eqFL vs c | none => false)
    | none => false)
  | none => false

def ren1 (s : List (Pos × Pos)) (v : AV) : Option AV := match v with
  | .sl id off len cap esz => (match nm id s with | some a => some (.sl a off len cap esz) | none => none)
  | v => bif flat1 v then some v else none
def renL (s : List (Pos × Pos)) : List AV → Option (List AV)
  | [] => some []
  | v :: vs => match ren1 s v with
    | some u => (match renL s vs with | some us => some (u :: us) | none => none)
    | none => none
def ren (s : List (Pos × Pos)) (v : AV) : Option AV := match v with
  | .tup vs => (match renL s vs with | some us => some (.tup us) | none => none)
  | v => ren1 s v

def adopt : List (Pos × List AV × TypeId) → H → Option (List (Pos × Pos) × H)
  | [], h => some ([], h)
  | (t, c, e) :: r, h => match newObj (.cells (mkCells c) e) h with
    | some (id, h1) => (match adopt r h1 with | some (s, h2) => some ((t, id) :: s, h2) | none => none)
    | none => none

def apartB (tb : List (Pos × List AV)) (s : List (Pos × Pos)) : Bool := tb.all fun x => tb.all fun y => decide (x.1 = y.1) || !decide (nm x.1 s = nm y.1 s)
def heldB (tb : List (Pos × List AV)) (s : List (Pos × Pos)) (h : H) : Bool := tb.all fun x => match nm x.1 s with | some a => holds1 h a x.2 | none => false

def knownB (tb : List (Pos × List AV)) (s : List (Pos × Pos)) : Bool := s.all fun x => match lk x.1 tb with | some _ => true | none => false

/-- Block 0 has its own name, if the contract speaks of it. -/
def names0 (tb : List (Pos × List AV)) (l : List (Pos × Pos)) : List (Pos × Pos) := match lk (posN 0) tb with
  | some _ => (posN 0, posN 0) :: l
  | none => l

def applyCon (c : Con) (args : List AV) (h : H) : RV :=
  let s := names0 c.tb (pairs c.args args)
  bif fits s c.args args && heldB c.tb s h && apartB c.tb s && knownB c.tb s then
    match adopt c.news h with
    | some (n, h') => (match ren n c.ret with | some v => .ok v h' | none => .no)
    | none => .no
  else .no

/-- The same value. -/
def eqV1 (a b : AV) : Bool := match a with
  | .sl id off len cap esz => (match b with
    | .sl id2 off2 len2 cap2 esz2 => decide (id = id2) && Nat.beq off off2 && Nat.beq len len2 && decide (cap = cap2) && Nat.beq esz esz2
    | _ => false)
  | a => eqF a b
def eqVL : List AV → List AV → Bool
  | [], [] => true
  | a :: as, b :: bs => eqV1 a b && eqVL as bs
  | _, _ => false
def eqV (a b : AV) : Bool := match a with
  | .tup as => (match b with | .tup bs => eqVL as bs | _ => false)
  | a => eqV1 a b

theorem eqV1_spec {a b : AV} (h : eqV1 a b = true) : a = b := by
  cases a with
  | sl id off len cap esz =>
    cases b with
    | sl id2 off2 len2 cap2 esz2 =>
      have h' : (decide (id = id2) && Nat.beq off off2 && Nat.beq len len2 && decide (cap = cap2) && Nat.beq esz esz2) = true := h
      simp only [Bool.and_eq_true] at h'
      obtain ⟨⟨⟨⟨h1, h2⟩, h3⟩, h4⟩, h5⟩ := h'
      rw [of_decide_eq_true h1, Nat.eq_of_beq_eq_true h2, Nat.eq_of_beq_eq_true h3, of_decide_eq_true h4, Nat.eq_of_beq_eq_true h5]
    | _ => cases h
  | _ => refine And.left (eqF_spec (b := b) ?_); exact h
theorem eqVL_spec : ∀ {as bs : List AV}, eqVL as bs = true → as = bs
  | [], [], _ => rfl
  | a :: as, b :: bs, h => by
    have h' : (eqV1 a b && eqVL as bs) = true := h
    rw [Bool.and_eq_true] at h'
    rw [eqV1_spec h'.1, eqVL_spec h'.2]
  | [], _ :: _, h => by cases h
  | _ :: _, [], h => by cases h
theorem eqV_spec {a b : AV} (h : eqV a b = true) : a = b := by
  cases a with
  | tup as => cases b with
    | tup bs => rw [eqVL_spec (h : eqVL as bs = true)]
    | _ => cases h
  | _ => exact eqV1_spec h

def newB (tb : List (Pos × List AV)) (h' : H) (x : Pos × List AV × TypeId) : Bool := match getObj x.1 h' with
  | some o => (match cellsE o with
    | some (m, e) => decide (e = x.2.2) && (match readM m.get x.2.1.length 0 with | some vs => eqFL vs x.2.1 | none => false)
    | none => false)
  | none => false

def farB (n : Nat) (p : Pos) : Bool := match n with
  | 0 => true
  | n + 1 => !decide (p = posN n) && farB n p

def occ1 (p : Pos) (v : AV) : Bool := match v with
  | .sl id _ _ _ _ => decide (id = p)
  | _ => false
def occL (p : Pos) : List AV → Bool
  | [] => false
  | v :: vs => occ1 p v || occL p vs
def occB (p : Pos) (v : AV) : Bool := match v with
  | .tup vs => occL p vs
  | v => occ1 p v

/-- A small run is as the contract says. -/
def chk (c : Con) (r : RV) : Bool := match r with
  | .ok v h' => eqV v c.ret && Nat.ble 1 h'.w && (c.news.all fun x => newB c.tb h' x && occB x.1 c.ret && (match lk x.1 c.tb with | none => farB 64 x.1 | some _ => false)) && decide (c.news.map (·.1)).Nodup && (c.tb.all fun x => decide (x.1 = posN 0) || farB 64 x.1)
  | .no => false

end

end Go.Ev
end

/- EvO2 -/
section
/-
  CONTRACTS OF CALLS, 2: they are sound.
-/
namespace Go.Ev

theorem nm_mem {t a : Pos} : ∀ {l : List (Pos × Pos)}, nm t l = some a → (t, a) ∈ l
  | [], h => by cases h
  | (k, d) :: r, h => by
    unfold nm at h
    by_cases e : t = k
    · rw [decide_eq_true e] at h; cases h; subst e; exact List.mem_cons_self
    · rw [decide_eq_false e] at h; exact List.mem_cons_of_mem _ (nm_mem h)

theorem holds1_spec {h : H} {a : Pos} {c : List AV} (e : holds1 h a c = true) : ∃ born o m, T.get a h.objs = some (born, o) ∧ cellsOf o = some m ∧ (∀ i v, c[i]? = some v → m i = some v) ∧ ∀ v ∈ c, flat1 v = true := by
  unfold holds1 at e
  cases h1 : getObj a h with
  | none => rw [h1] at e; cases e
  | some o =>
    rw [h1] at e
    dsimp only at e
    cases h2 : cellsOf o with
    | none => rw [h2] at e; cases e
    | some m =>
      rw [h2] at e
      dsimp only at e
      cases h3 : readM m c.length 0 with
      | none => rw [h3] at e; cases e
      | some vs =>
        rw [h3] at e
        obtain ⟨e1, e2⟩ := eqFL_spec e
        subst e1
        obtain ⟨born, hb⟩ := getObj_some h1
        refine ⟨born, o, m, hb, h2, fun i v hv => ?_, e2⟩
        have := (readM_get h3).2 i v hv
        rwa [Nat.zero_add] at this

theorem heldB_spec {tb : List (Pos × List AV)} {s : List (Pos × Pos)} {h : H} (e : heldB tb s h = true) {t : Pos} {c : List AV} (hm : (t, c) ∈ tb) : ∃ a, nm t s = some a ∧ holds1 h a c = true := by
  unfold heldB at e
  have := (List.all_eq_true.1 e) (t, c) hm
  dsimp only at this
  cases hn : nm t s with
  | none => rw [hn] at this; cases this
  | some a => rw [hn] at this; exact ⟨a, rfl, this⟩

theorem knownB_spec {tb : List (Pos × List AV)} {s : List (Pos × Pos)} (e : knownB tb s = true) {t a : Pos} (hn : nm t s = some a) : ∃ c, lk t tb = some c := by
  unfold knownB at e
  have := (List.all_eq_true.1 e) (t, a) (nm_mem hn)
  dsimp only at this
  cases hl : lk t tb with
  | none => rw [hl] at this; cases this
  | some c => exact ⟨c, rfl⟩

theorem apartB_spec {tb : List (Pos × List AV)} {s : List (Pos × Pos)} (e : apartB tb s = true) {t u : Pos} {c d : List AV} (h1 : (t, c) ∈ tb) (h2 : (u, d) ∈ tb) (h : nm t s = nm u s) : t = u := by
  unfold apartB at e
  have := (List.all_eq_true.1 e) (t, c) h1
  have := (List.all_eq_true.1 this) (u, d) h2
  dsimp only at this
  rw [decide_eq_true h] at this
  by_cases e : t = u
  · exact e
  · rw [decide_eq_false e] at this; cases this

theorem farB_spec {p : Pos} : ∀ {n : Nat}, farB n p = true → ∀ g, g < n → p ≠ posN g
  | 0, _, g, h => absurd h (Nat.not_lt_zero g)
  | n + 1, e, g, h => by
    have e' : (!decide (p = posN n) && farB n p) = true := e
    rw [Bool.and_eq_true] at e'
    by_cases hg : g = n
    · subst hg
      intro hp
      rw [decide_eq_true hp] at e'
      cases e'.1
    · exact farB_spec e'.2 g (by omega)

open Classical in
noncomputable def smallR (ρ : R) (tb : List (Pos × List AV)) (s : List (Pos × Pos)) : R := fun id => match lk id tb with
  | some _ => (match nm id s with | some a => ρ a | none => none)
  | none => if Has (smallH tb) id then some none else none

section
variable {ρ : R} {h : H} {w : World} {tb : List (Pos × List AV)} {s : List (Pos × Pos)}

theorem smallR_some {id : Pos} {x : Option (Nat × Nat)} (e : smallR ρ tb s id = some x) : (∃ c a, lk id tb = some c ∧ nm id s = some a ∧ ρ a = some x) ∨ (lk id tb = none ∧ Has (smallH tb) id ∧ x = none) := by
  unfold smallR at e
  cases hl : lk id tb with
  | none =>
    rw [hl] at e
    dsimp only at e
    split at e
    · cases e; exact .inr ⟨rfl, ‹_›, rfl⟩
    · cases e
  | some c =>
    rw [hl] at e
    dsimp only at e
    cases hn : nm id s with
    | none => rw [hn] at e; cases e
    | some a => rw [hn] at e; exact .inl ⟨c, a, rfl, rfl, e⟩

theorem smallR_at {id a : Pos} {c : List AV} (h1 : lk id tb = some c) (h2 : nm id s = some a) : smallR ρ tb s id = ρ a := by
  unfold smallR; rw [h1]; dsimp only; rw [h2]

theorem small_hr (hr : HR ρ h w) (hg : GR ρ) (hh : heldB tb s h = true) (ha : apartB tb s = true) (h0 : (∃ c, lk (posN 0) tb = some c) → nm (posN 0) s = some (posN 0)) (hf : ∀ t c, (t, c) ∈ tb → t = posN 0 ∨ ∀ g, g < 64 → t ≠ posN g) :
    HR (smallR ρ tb s) (smallH tb) w ∧ GR (smallR ρ tb s) ∧ ∀ b, ¬ Wr (smallR ρ tb s) (smallH tb) b := by
  have got : ∀ {id c}, lk id tb = some c → T.get id (smallH tb).objs = some (0, .ro (M.get (mkCells c))) := fun {id c} e => by
    have := small_get (id := id) tb
    rw [e] at this
    exact this
  refine ⟨⟨?_, ?_, ?_, ?_⟩, ?_, ?_⟩
  · intro id b n hid
    rcases smallR_some hid with ⟨c, a, h1, h2, h3⟩ | ⟨_, _, h3⟩
    · obtain ⟨a2, k1, k2⟩ := heldB_spec hh (lk_mem h1)
      rw [h2] at k1
      cases k1
      obtain ⟨born, o, m, g1, g2, g3, g4⟩ := holds1_spec k2
      obtain ⟨born2, o2, o', f1, f2, f3⟩ := hr.live a b n h3
      rw [g1] at f1
      cases f1
      have rows : ∀ c', RowsF ρ m c' → RowsR (smallR ρ tb s) (mkCells c) c' := fun c' hc i v hv => by
        have hv' := mkCells_get hv
        obtain ⟨v', e1, e2⟩ := hc i v (g3 i v hv')
        exact ⟨v', e1, flat1_down (g4 v (List.mem_of_getElem? hv')) e2⟩
      cases f3 with
      | cells _ e c' hc => cases g2; exact ⟨0, _, _, got h1, f2, .ro _ e c' (0, 0) (rows c' hc)⟩
      | ro _ e c' f hc => cases g2; exact ⟨0, _, _, got h1, f2, .ro _ e c' f (rows c' hc)⟩
      | _ => cases g2
    · cases h3
  · intro i j b n n' hi hj
    rcases smallR_some hi with ⟨c, a, h1, h2, h3⟩ | ⟨_, _, h3⟩
    · rcases smallR_some hj with ⟨d, a2, k1, k2, k3⟩ | ⟨_, _, k3⟩
      · have := hr.inj a a2 b n n' h3 k3
        subst this
        exact apartB_spec ha (lk_mem h1) (lk_mem k1) (h2.trans k2.symm)
      · cases k3
    · cases h3
  · intro id hid
    rcases smallR_some hid with ⟨c, a, h1, h2, h3⟩ | ⟨h1, ⟨p, hp⟩, _⟩
    · exfalso
      obtain ⟨a2, k1, k2⟩ := heldB_spec hh (lk_mem h1)
      rw [h2] at k1
      cases k1
      obtain ⟨born, o, m, g1, g2, _⟩ := holds1_spec k2
      obtain ⟨born2, f1⟩ := hr.dead a h3
      rw [g1] at f1
      cases f1
      cases g2
    · have := small_get (id := id) tb
      rw [h1] at this
      have hp' : T.get id (smallObjs tb) = some p := hp
      rw [this] at hp'
      have := deads_get 64 id p hp'
      subst this
      exact ⟨0, hp⟩
  · intro id born o hg2
    have hg' : T.get id (smallObjs tb) = some (born, o) := hg2
    rw [small_get (id := id) tb] at hg'
    cases hl : lk id tb with
    | some c => rw [hl] at hg'; cases hg'; exact Nat.zero_lt_one
    | none =>
      rw [hl] at hg'
      have := deads_get 64 id _ hg'
      cases this
      exact Nat.zero_lt_one
  · intro g hg2
    have key : ∀ p : Pos, p.succ ≠ posN 0 := fun p => by cases p <;> intro e <;> cases e
    cases hl : lk (posN g) tb with
    | some c =>
      rcases hf _ _ (lk_mem hl) with h1 | h1
      · have hg0 : g = 0 := by
          cases g with
          | zero => rfl
          | succ g => exact absurd h1 (key _)
        subst hg0
        obtain ⟨x, hx, hp⟩ := hg 0 (Nat.zero_le _)
        exact ⟨x, by rw [smallR_at hl (h0 ⟨c, hl⟩)]; exact hx, hp⟩
      · exact absurd rfl (h1 g (by omega))
    | none =>
      have hh2 : Has (smallH tb) (posN g) := by
        have := small_get (id := posN g) tb
        rw [hl] at this
        exact ⟨_, Eq.trans this (deads_has 64 g (by omega))⟩
      refine ⟨none, ?_, fun b n e => by cases e⟩
      unfold smallR
      rw [hl]
      dsimp only
      rw [if_pos hh2]
  · rintro b ⟨id, n, hid, hro⟩
    rcases smallR_some hid with ⟨c, a, h1, _, _⟩ | ⟨_, _, h3⟩
    · exact hro ⟨0, _, got h1⟩
    · cases h3

theorem eqF_vr {ρs : R} {t a : AV} {v : Value} (e : eqF t a = true) (r : VR ρ a v) : VR ρs t v := by
  obtain ⟨rfl, hfl⟩ := eqF_spec e
  exact flat1_down hfl r

theorem fit1_spec {ρs : R} (hk : ∀ t a, nm t s = some a → ρs t = ρ a) {t a : AV} {v : Value} (e : fit1 s t a = true) (r : VR ρ a v) : VR ρs t v := by
  cases t with
  | sl tid off len cap esz =>
    cases a with
    | sl id off2 len2 cap2 esz2 =>
      have e' : ((match nm tid s with | some id2 => decide (id2 = id) | none => false) && Nat.beq off off2 && Nat.beq len len2 && eqCap cap cap2 && Nat.beq esz esz2) = true := e
      simp only [Bool.and_eq_true] at e'
      obtain ⟨⟨⟨⟨e1, e2⟩, e3⟩, e4⟩, e5⟩ := e'
      have e2 := Nat.eq_of_beq_eq_true e2
      have e3 := Nat.eq_of_beq_eq_true e3
      have e5 := Nat.eq_of_beq_eq_true e5
      subst e2 e3 e5
      cases hn : nm tid s with
      | none => rw [hn] at e1; cases e1
      | some id2 =>
        rw [hn] at e1
        have := of_decide_eq_true e1
        subst this
        cases r with
        | sl _ _ _ _ _ b cap' x hx hp hc hl =>
          refine .sl tid off len cap esz b cap' x ((hk _ _ hn).trans hx) (fun c n e => ⟨(hp c n e).1, fun hcn => (hp c n e).2 (by subst hcn; cases cap2 with | none => rfl | some _ => cases e4)⟩) (fun c hcc => ?_) hl
          subst hcc
          cases cap2 with
          | none => cases e4
          | some y =>
            have : c = y := Nat.eq_of_beq_eq_true e4
            subst this
            exact hc _ rfl
        | slu _ _ _ c0 a0 x0 hx h0 =>
          cases cap with
          | none => exact .slu tid off esz c0 a0 x0 ((hk _ _ hn).trans hx) h0
          | some c => cases e4
        | sle _ _ _ a0 hx =>
          cases cap with
          | none => cases e4
          | some c =>
            have : c = 0 := Nat.eq_of_beq_eq_true e4
            subst this
            exact .sle tid off esz a0 ((hk _ _ hn).trans hx)
    | _ => cases e
  | _ => refine eqF_vr (a := a) ?_ r; exact e

theorem fitL_spec {ρs : R} (hk : ∀ t a, nm t s = some a → ρs t = ρ a) : ∀ {ts as : List AV} {vs : List Value}, fitL s ts as = true → VL ρ as vs → VL ρs ts vs
  | [], [], _, _, r => by cases r; exact .nil
  | t :: ts, a :: as, _, e, r => by
    have e' : (fit1 s t a && fitL s ts as) = true := e
    rw [Bool.and_eq_true] at e'
    cases r with
    | cons _ _ v vs hv hvs => exact .cons _ _ _ _ (fit1_spec hk e'.1 hv) (fitL_spec hk e'.2 hvs)
  | [], _ :: _, _, e, _ => by cases e
  | _ :: _, [], _, e, _ => by cases e

theorem fit_spec {ρs : R} (hk : ∀ t a, nm t s = some a → ρs t = ρ a) {t a : AV} {v : Value} (e : fit s t a = true) (r : VR ρ a v) : VR ρs t v := by
  cases t with
  | agg ts => cases a with
    | agg as => cases r with
      | agg _ cs' hc => exact .agg ts cs' (fitL_spec hk e hc)
    | _ => cases e
  | _ => refine fit1_spec hk ?_ r; exact e

theorem fits_spec {ρs : R} (hk : ∀ t a, nm t s = some a → ρs t = ρ a) : ∀ {ts as : List AV} {vs : List Value}, fits s ts as = true → VL ρ as vs → VL ρs ts vs
  | [], [], _, _, r => by cases r; exact .nil
  | t :: ts, a :: as, _, e, r => by
    have e' : (fit s t a && fits s ts as) = true := e
    rw [Bool.and_eq_true] at e'
    cases r with
    | cons _ _ v vs hv hvs => exact .cons _ _ _ _ (fit_spec hk e'.1 hv) (fits_spec hk e'.2 hvs)
  | [], _ :: _, _, e, _ => by cases e
  | _ :: _, [], _, e, _ => by cases e

theorem ren1_spec {ρs ρ' : R} (hk : ∀ t a, nm t s = some a → ρ' a = ρs t) {v u : AV} {v' : Value} (e : ren1 s v = some u) (r : VR ρs v v') : VR ρ' u v' := by
  cases v with
  | sl id off len cap esz =>
    have e' : (match nm id s with | some a => some (AV.sl a off len cap esz) | none => none) = some u := e
    cases hn : nm id s with
    | none => rw [hn] at e'; cases e'
    | some a =>
      rw [hn] at e'
      cases e'
      cases r with
      | sl _ _ _ _ _ b cap' x hx hp hc hl => exact .sl a off len cap esz b cap' x ((hk _ _ hn).trans hx) hp hc hl
      | sle _ _ _ a0 hx => exact .sle a off esz a0 ((hk _ _ hn).trans hx)
      | slu _ _ _ c0 a0 x0 hx h0 => exact .slu a off esz c0 a0 x0 ((hk _ _ hn).trans hx) h0
  | bool b => cases e; exact flat1_down rfl r
  | int k n => cases e; exact flat1_down rfl r
  | str b => cases e; exact flat1_down rfl r
  | nilp => cases e; exact flat1_down rfl r
  | nils => cases e; exact flat1_down rfl r
  | nilm => cases e; exact flat1_down rfl r
  | nilf => cases e; exact flat1_down rfl r
  | nili => cases e; exact flat1_down rfl r
  | _ => cases e

theorem renL_spec {ρs ρ' : R} (hk : ∀ t a, nm t s = some a → ρ' a = ρs t) : ∀ {vs us : List AV} {vs' : List Value}, renL s vs = some us → VL ρs vs vs' → VL ρ' us vs'
  | [], us, _, e, r => by cases e; cases r; exact .nil
  | v :: vs, us, _, e, r => by
    unfold renL at e
    cases h1 : ren1 s v with
    | none => rw [h1] at e; cases e
    | some u =>
      rw [h1] at e
      dsimp only at e
      cases h2 : renL s vs with
      | none => rw [h2] at e; cases e
      | some us2 =>
        rw [h2] at e
        cases e
        cases r with
        | cons _ _ v' vs' hv hvs => exact .cons _ _ _ _ (ren1_spec hk h1 hv) (renL_spec hk h2 hvs)

theorem ren_spec {ρs ρ' : R} (hk : ∀ t a, nm t s = some a → ρ' a = ρs t) {v u : AV} {v' : Value} (e : ren s v = some u) (r : VR ρs v v') : VR ρ' u v' := by
  cases v with
  | tup vs =>
    have e' : (match renL s vs with | some us => some (AV.tup us) | none => none) = some u := e
    cases h1 : renL s vs with
    | none => rw [h1] at e'; cases e'
    | some us =>
      rw [h1] at e'
      cases e'
      cases r with
      | tup _ cs' hc => exact .tup us cs' (renL_spec hk h1 hc)
  | _ => exact ren1_spec hk (by exact e) r

end

end Go.Ev
end

/- EvO3 -/
section
/-
  CONTRACTS OF CALLS, 3: a run with contracts is sound.
-/
namespace Go.Ev

theorem HR.take {ρ : R} {h h' : H} {w : World} (hr : HR ρ h w) {o : AO} {id : Pos} (e : Ev.newObj o h = some (id, h')) {o' : Obj} {b n : Nat} (hb : w.heap[b]? = some o') (ho : OR ρ n o o') (hno : ∀ j k, ρ j ≠ some (some (b, k))) :
    ρ id = none ∧ HR (ρ.new id (some (b, n))) h' w := by
  obtain ⟨rfl, hg, rfl⟩ := newObj_some e
  have hn := hr.fresh hg
  have hle : R.le ρ (ρ.new h.next (some (b, n))) := R.le_new hn
  refine ⟨hn, ?_, ?_, ?_, ?_⟩
  · intro j c k hj
    unfold R.new at hj
    by_cases ej : j = h.next
    · subst ej
      rw [if_pos rfl] at hj
      cases hj
      exact ⟨h.clock, o, o', T.get_set_same _ _ _, hb, ho.up hle⟩
    · rw [if_neg ej] at hj
      obtain ⟨born, p, p', h1, h2, h3⟩ := hr.live j c k hj
      exact ⟨born, p, p', (T.get_set_ne _ _ _ _ ej).trans h1, h2, h3.up hle⟩
  · intro i j c k k' hi hj
    unfold R.new at hi hj
    by_cases ei : i = h.next
    · by_cases ej : j = h.next
      · rw [ei, ej]
      · rw [if_pos ei] at hi; rw [if_neg ej] at hj; cases hi
        exact absurd hj (hno _ _)
    · by_cases ej : j = h.next
      · rw [if_neg ei] at hi; rw [if_pos ej] at hj; cases hj
        exact absurd hi (hno _ _)
      · rw [if_neg ei] at hi; rw [if_neg ej] at hj
        exact hr.inj i j c k k' hi hj
  · intro j hj
    unfold R.new at hj
    by_cases ej : j = h.next
    · rw [if_pos ej] at hj; cases hj
    · rw [if_neg ej] at hj
      obtain ⟨born, hb⟩ := hr.dead j hj
      exact ⟨born, (T.get_set_ne _ _ _ _ ej).trans hb⟩
  · intro j born p hj
    show born < Nat.succ h.clock
    by_cases ej : j = h.next
    · subst ej; rw [T.get_set_same] at hj; cases hj; exact Nat.lt_succ_self _
    · rw [T.get_set_ne _ _ _ _ ej] at hj; exact Nat.lt_succ_of_lt (hr.old j born p hj)

theorem Ext.take {ρ0 ρ : R} {h0 h h' : H} {w0 w : World} (ex : Ext ρ0 h0 w0 ρ h w) (hr : HR ρ h w) {o : AO} {id : Pos} (e : Ev.newObj o h = some (id, h')) {b n : Nat} (hb : w0.heap.size ≤ b) : Ext ρ0 h0 w0 (ρ.new id (some (b, n))) h' w := by
  have hnone : ρ id = none := by obtain ⟨rfl, hg, rfl⟩ := newObj_some e; exact hr.fresh hg
  obtain ⟨rfl, hg, rfl⟩ := newObj_some e
  refine { le := R.le_trans ex.le (R.le_new hnone), newd := ?_, rng := ?_, wr := ?_, frame := ex.frame, size := ex.size, frz := ex.frz, os := ex.os, out := ex.out, clk := Nat.le_succ_of_le ex.clk, keep := ?_, wle := ex.wle }
  · intro j hj
    rcases ex.newd j hj with h1 | h1
    · by_cases ej : j = h.next
      · subst ej
        refine .inr ?_
        cases hg0 : T.get h.next h0.objs with
        | none => rfl
        | some p =>
          obtain ⟨⟨o', ho⟩, _⟩ := ex.keep _ p.1 p.2 hg0
          rw [hg] at ho; cases ho
      · exact .inl (by unfold R.new; rw [if_neg ej]; exact h1)
    · exact .inr h1
  · intro j c k hj
    unfold R.new at hj
    by_cases ej : j = h.next
    · rw [if_pos ej] at hj; cases hj; exact .inl hb
    · rw [if_neg ej] at hj; exact ex.rng j c k hj
  · rintro c hc ⟨j, k, hj, hro⟩
    unfold R.new at hj
    by_cases ej : j = h.next
    · rw [if_pos ej] at hj; cases hj; omega
    · rw [if_neg ej] at hj
      exact ex.wr c hc ⟨j, k, hj, fun ⟨born, m, hm⟩ => hro ⟨born, m, (T.get_set_ne _ _ _ _ ej).trans hm⟩⟩
  · intro j born p hj
    obtain ⟨⟨o', ho⟩, hk⟩ := ex.keep j born p hj
    have hne : j ≠ h.next := fun e => by rw [e, hg] at ho; cases ho
    exact ⟨⟨o', (T.get_set_ne _ _ _ _ hne).trans ho⟩, fun hb => (T.get_set_ne _ _ _ _ hne).trans (hk hb)⟩

/-- What a new block of the small run holds. -/
def NewOK (ρs : R) (w0 w : World) (ρ : R) (x : Pos × List AV × TypeId) : Prop :=
  ∃ (b : Nat) (c : Array Value), ρs x.1 = some (some (b, c.size)) ∧ w0.heap.size ≤ b ∧ w.heap[b]? = some (.cells c x.2.2 (0, 0)) ∧ (∀ (i : Nat) v, x.2.1[i]? = some v → flat1 v = true ∧ ∃ v', c[i]? = some v' ∧ VR ρs v v') ∧ ∀ j k, ρ j ≠ some (some (b, k))

theorem adopt_spec {ρ0 ρs : R} {h0 : H} {w0 w : World} (inj : ∀ id id' b n n', ρs id = some (some (b, n)) → ρs id' = some (some (b, n')) → id = id') : ∀ (news : List (Pos × List AV × TypeId)) (h : H) (ρ : R) (s : List (Pos × Pos)) (h2 : H), adopt news h = some (s, h2) →
    HR ρ h w → Ext ρ0 h0 w0 ρ h w → (∀ x ∈ news, NewOK ρs w0 w ρ x) → (news.map (·.1)).Nodup → ∃ ρ2, HR ρ2 h2 w ∧ Ext ρ0 h0 w0 ρ2 h2 w ∧ (∀ id x, ρ id = some x → ρ2 id = some x) ∧ ∀ t a, nm t s = some a → ρ2 a = ρs t
  | [], h, ρ, s, h2, e, hr, ex, _, _ => by cases e; exact ⟨ρ, hr, ex, fun _ _ h => h, fun t a h => by cases h⟩
  | (t, c, ty) :: r, h, ρ, s, h2, e, hr, ex, hn, hd => by
    unfold adopt at e
    cases h1 : newObj (.cells (mkCells c) ty) h with
    | none => rw [h1] at e; cases e
    | some p =>
      obtain ⟨id, hh⟩ := p
      rw [h1] at e
      dsimp only at e
      cases h3 : adopt r hh with
      | none => rw [h3] at e; cases e
      | some q =>
        obtain ⟨s2, h4⟩ := q
        rw [h3] at e
        cases e
        obtain ⟨b, cc, k1, k2, k3, k4, k5⟩ := hn (t, c, ty) List.mem_cons_self
        have ho : OR ρ cc.size (.cells (mkCells c) ty) (.cells cc ty (0, 0)) := .cells _ _ _ fun i v hv => by
          obtain ⟨g1, v', g2, g3⟩ := k4 i v (mkCells_get hv)
          exact ⟨v', g2, flat1_down g1 g3⟩
        obtain ⟨hnone, hr1⟩ := hr.take h1 k3 ho k5
        have ex1 := ex.take (n := cc.size) hr h1 k2
        rw [List.map_cons, List.nodup_cons] at hd
        obtain ⟨ρ2, f1, f2, f3, f4⟩ := adopt_spec inj r hh _ s2 h2 h3 hr1 ex1 (fun x hx => by
          obtain ⟨b2, c2, m1, m2, m3, m4, m5⟩ := hn x (List.mem_cons_of_mem _ hx)
          refine ⟨b2, c2, m1, m2, m3, m4, fun j k hj => ?_⟩
          unfold R.new at hj
          by_cases ej : j = id
          · rw [if_pos ej] at hj
            cases hj
            have := inj _ _ _ _ _ m1 k1
            exact hd.1 (this ▸ List.mem_map_of_mem hx)
          · rw [if_neg ej] at hj; exact m5 j k hj) hd.2
        refine ⟨ρ2, f1, f2, fun j x hj => f3 j x ?_, fun u a hu => ?_⟩
        · have : j ≠ id := fun e => by rw [e, hnone] at hj; cases hj
          unfold R.new; rw [if_neg this]; exact hj
        · unfold nm at hu
          by_cases eu : u = t
          · rw [decide_eq_true eu] at hu
            cases hu
            subst eu
            rw [f3 id _ (by unfold R.new; rw [if_pos rfl]), k1]
          · rw [decide_eq_false eu] at hu; exact f4 u a hu

theorem deads_none : ∀ (n : Nat) (id : Pos), (∀ g, g < n → id ≠ posN g) → T.get id (deads n) = none
  | 0, id, _ => T.get_nil id
  | n + 1, id, h => by
    have e : deads (n + 1) = T.set (0, .dead) (posN n) (deads n) := rfl
    rw [e, T.get_set_ne _ _ _ _ (h n (Nat.lt_succ_self n))]
    exact deads_none n id (fun g hg => h g (by omega))

theorem occ1_spec {ρ : R} {p : Pos} {v : AV} {v' : Value} (e : occ1 p v = true) (r : VR ρ v v') : ∃ x, ρ p = some x := by
  cases v with
  | sl id off len cap esz =>
    have := of_decide_eq_true (e : decide (id = p) = true)
    subst this
    cases r with
    | sl _ _ _ _ _ b cap' x hx hp hc hl => exact ⟨x, hx⟩
    | sle _ _ _ a0 hx => exact ⟨_, hx⟩
    | slu _ _ _ c0 a0 x0 hx h0 => exact ⟨x0, hx⟩
  | _ => cases e
theorem occL_spec {ρ : R} {p : Pos} : ∀ {vs : List AV} {vs' : List Value}, occL p vs = true → VL ρ vs vs' → ∃ x, ρ p = some x
  | [], _, e, _ => by cases e
  | v :: vs, _, e, r => by
    have e' : (occ1 p v || occL p vs) = true := e
    cases r with
    | cons _ _ _ _ hv hvs =>
      rcases Bool.or_eq_true_iff.1 e' with h | h
      · exact occ1_spec h hv
      · exact occL_spec h hvs
theorem occB_spec {ρ : R} {p : Pos} {v : AV} {v' : Value} (e : occB p v = true) (r : VR ρ v v') : ∃ x, ρ p = some x := by
  cases v with
  | tup vs => cases r with
    | tup _ cs' hc => exact occL_spec e hc
  | _ => exact occ1_spec (by exact e) r

def ConOK (P : Program) (c : Con) : Prop := ∀ args h u h2, applyCon c args h = .ok u h2 → TgtOK P (.fn c.g args) h u h2

theorem con_ok {P : Program} {c : Con} {v0 : AV} {hs : H} (hrun : TgtOK P (.fn c.g c.args) (smallH c.tb) v0 hs) (hchk : chk c (.ok v0 hs) = true) : ConOK P c := by
  intro args h u h2 he
  have hchk' : (eqV v0 c.ret && Nat.ble 1 hs.w && (c.news.all fun x => newB c.tb hs x && occB x.1 c.ret && (match lk x.1 c.tb with | none => farB 64 x.1 | some _ => false)) && decide (c.news.map (·.1)).Nodup && (c.tb.all fun x => decide (x.1 = posN 0) || farB 64 x.1)) = true := hchk
  simp only [Bool.and_eq_true] at hchk'
  obtain ⟨⟨⟨⟨c1, c2⟩, c3⟩, c4⟩, c5⟩ := hchk'
  have hret := eqV_spec c1
  subst hret
  have hq : (smallH c.tb).clock ≤ hs.w := Nat.le_of_ble_eq_true c2
  have hnd := of_decide_eq_true c4
  unfold applyCon at he
  dsimp only at he
  generalize hsd : names0 c.tb (pairs c.args args) = s at he
  have h0 : (∃ x, lk (posN 0) c.tb = some x) → nm (posN 0) s = some (posN 0) := by
    rintro ⟨x, hx⟩
    unfold names0 at hsd
    rw [hx] at hsd
    dsimp only at hsd
    rw [← hsd]; unfold nm; rw [decide_eq_true rfl]; rfl
  cases hcond : (fits s c.args args && heldB c.tb s h && apartB c.tb s && knownB c.tb s) with
  | false => rw [hcond] at he; cases he
  | true =>
    rw [hcond] at he
    dsimp only [cond] at he
    simp only [Bool.and_eq_true] at hcond
    obtain ⟨⟨⟨b1, b2⟩, b3⟩, b4⟩ := hcond
    cases had : adopt c.news h with
    | none => rw [had] at he; cases he
    | some p =>
      obtain ⟨n, h'⟩ := p
      rw [had] at he
      dsimp only at he
      cases hren : ren n c.ret with
      | none => rw [hren] at he; cases he
      | some v =>
        rw [hren] at he
        cases he
        intro ρ args' w hg hr ha frames
        obtain ⟨r1, r2, r3⟩ := small_hr (tb := c.tb) (s := s) hr hg b2 b3 h0 (fun t cc ht => by
          have := (List.all_eq_true.1 c5) (t, cc) ht
          dsimp only at this
          rcases Bool.or_eq_true_iff.1 this with h1 | h1
          · exact .inl (of_decide_eq_true h1)
          · exact .inr (farB_spec h1))
        have hk : ∀ t a, nm t s = some a → smallR ρ c.tb s t = ρ a := fun t a hn => by
          obtain ⟨cc, hcc⟩ := knownB_spec b4 hn
          exact smallR_at hcc hn
        obtain ⟨ρs, v', w', fr, a1, a2, a3, a4, a5, a6⟩ := hrun (smallR ρ c.tb s) args' w r2 r1 (fits_spec hk b1 ha) frames
        have same : ∀ b, b < w.heap.size → w'.heap[b]? = w.heap[b]? := fun b hb => a3.frame b hb (r3 b)
        have hlt : ∀ id b n, ρ id = some (some (b, n)) → b < w.heap.size := fun id b n e => by
          obtain ⟨_, _, o', _, hb, _⟩ := hr.live id b n e
          exact (Array.getElem?_eq_some_iff.1 hb).1
        have hlive : ∀ id b n, ρ id = some (some (b, n)) → ∃ born o o', T.get id h.objs = some (born, o) ∧ w'.heap[b]? = some o' ∧ OR ρ n o o' := fun id b n e => by
          obtain ⟨born, o, o', g1, g2, g3⟩ := hr.live id b n e
          exact ⟨born, o, o', g1, (same b (hlt id b n e)).trans g2, g3⟩
        have hr' : HR ρ h w' := ⟨hlive, hr.inj, hr.dead, hr.old⟩
        have ex' : Ext ρ h w ρ h w' := { Ext.refl (ρ := ρ) (h := h) (w := w) with frame := fun b hb _ => same b hb, size := a3.size, frz := a3.frz, os := a3.os, out := a3.out }
        have f1 := quiet_same r1 a2 a3 hq
        have hnew : ∀ x ∈ c.news, NewOK ρs w w' ρ x := by
          intro x hx
          obtain ⟨t, cc, ty⟩ := x
          have := (List.all_eq_true.1 c3) (t, cc, ty) hx
          simp only [Bool.and_eq_true] at this
          obtain ⟨⟨n1, n2⟩, n3⟩ := this
          cases hlk : lk t c.tb with
          | some _ => rw [hlk] at n3; cases n3
          | none =>
            rw [hlk] at n3
            dsimp only at n3
            have hnohas : T.get t (smallH c.tb).objs = none := by
              have h1 := small_get (id := t) c.tb
              rw [hlk] at h1
              exact Eq.trans h1 (deads_none 64 t (farB_spec n3))
            obtain ⟨y, hy⟩ := occB_spec n2 a1
            unfold newB at n1
            dsimp only at n1
            cases hgo : getObj t hs with
            | none => rw [hgo] at n1; cases n1
            | some o =>
              rw [hgo] at n1
              dsimp only at n1
              cases hce : cellsE o with
              | none => rw [hce] at n1; cases n1
              | some me =>
                obtain ⟨m, e⟩ := me
                rw [hce] at n1
                dsimp only at n1
                rw [Bool.and_eq_true] at n1
                obtain ⟨e1, e2⟩ := n1
                have e1 := of_decide_eq_true e1
                subst e1
                obtain rfl := cellsE_some hce
                obtain ⟨born, hb⟩ := getObj_some hgo
                cases hrm : readM m.get cc.length 0 with
                | none => rw [hrm] at e2; cases e2
                | some vs =>
                  rw [hrm] at e2
                  obtain ⟨e3, e4⟩ := eqFL_spec e2
                  subst e3
                  cases y with
                  | none =>
                    obtain ⟨_, hd⟩ := a2.dead t hy
                    rw [hb] at hd; cases hd
                  | some bn =>
                    obtain ⟨b, k⟩ := bn
                    obtain ⟨born2, o2, o', l1, l2, l3⟩ := a2.live t b k hy
                    rw [hb] at l1
                    cases l1
                    cases l3 with
                    | cells _ _ c' hc' =>
                      have hsz : w.heap.size ≤ b := by
                        rcases a3.rng t b _ hy with q1 | ⟨id0, n0, q1⟩
                        · exact q1
                        · have q2 := a2.inj id0 t b _ _ (f1 _ _ q1) hy
                          subst q2
                          obtain ⟨pp, hpp⟩ := r1.has q1
                          rw [hnohas] at hpp; cases hpp
                      refine ⟨b, c', hy, hsz, l2, fun i v hv => ?_, fun j k hj => ?_⟩
                      · refine ⟨e4 v (List.mem_of_getElem? hv), ?_⟩
                        have := (readM_get hrm).2 i v hv
                        rw [Nat.zero_add] at this
                        exact hc' i v this
                      · have := hlt j b k hj
                        omega
        obtain ⟨ρ2, g1, g2, g3, g4⟩ := adopt_spec (fun id id' b n n' => a2.inj id id' b n n') c.news h ρ n h2 had hr' ex' hnew hnd
        exact ⟨ρ2, v', w', fr, ren_spec g4 hren a1, g1, g2, a4, a5, a6⟩

/-- The evaluator with contracts. -/
noncomputable def tryCons (e : Tgt → H → RV) (g : FuncId) (args : List AV) (h : H) : List Con → RV
  | [] => e (.fn g args) h
  | c :: r => bif Nat.beq c.g g then (match applyCon c args h with | .ok v h' => .ok v h' | .no => tryCons e g args h r) else tryCons e g args h r

noncomputable def withCons (cons : List Con) (e : Evs) : Evs := ⟨e.code, fun t h => match t with | .fn g args => tryCons e.call g args h cons | .yld id args => e.call (.yld id args) h⟩

noncomputable def evc (P : Program) (cons : List Con) (n : Nat) : Evs := Nat.rec ⟨fun _ _ _ => .no, fun _ _ => .no⟩ (fun _ e => ⟨codeE P (withCons cons e), tgtE P (withCons cons e)⟩) n

theorem tryCons_ok {P : Program} {e : Tgt → H → RV} (he : ∀ t h v h', e t h = .ok v h' → TgtOK P t h v h') {g : FuncId} {args : List AV} {h : H} : ∀ (cons : List Con), (∀ c ∈ cons, ConOK P c) → ∀ {v h'}, tryCons e g args h cons = .ok v h' → TgtOK P (.fn g args) h v h'
  | [], _, v, h', hr => he _ _ _ _ hr
  | c :: r, hc, v, h', hr => by
    have rest := tryCons_ok he (g := g) (args := args) (h := h) r (fun c hm => hc c (List.mem_cons_of_mem _ hm)) (v := v) (h' := h')
    unfold tryCons at hr
    cases hb : Nat.beq c.g g with
    | false => rw [hb] at hr; exact rest hr
    | true =>
      rw [hb] at hr
      have hgg : c.g = g := Nat.eq_of_beq_eq_true hb
      dsimp only [cond] at hr
      cases ha : applyCon c args h with
      | no => rw [ha] at hr; exact rest hr
      | ok u h2 =>
        rw [ha] at hr
        cases hr
        have := hc c List.mem_cons_self args h _ _ ha
        rw [hgg] at this
        exact this

theorem withCons_ok {P : Program} {cons : List Con} {e : Evs} (hi : CallOK P e) (hc : ∀ c ∈ cons, ConOK P c) : CallOK P (withCons cons e) := by
  intro t h v h' he
  cases t with
  | fn g args => exact tryCons_ok (e := e.call) hi cons hc he
  | yld id args => exact hi _ _ _ _ he

theorem evc_ok {P : Program} (hm : P.follows .mixedOrders = true) {cons : List Con} (hc : ∀ c ∈ cons, ConOK P c) : ∀ n, CodeOK P (evc P cons n) ∧ CallOK P (evc P cons n)
  | 0 => ⟨(fun _ _ _ _ _ _ e => by cases e), (fun _ _ _ _ e => by cases e)⟩
  | n + 1 => by
    have hcode : CodeOK P (withCons cons (evc P cons n)) := (evc_ok hm hc n).1
    have hcall := withCons_ok (evc_ok hm hc n).2 hc
    exact ⟨codeE_run hm hcode hcall, tgtE_run hcode⟩

/-- ████ A RUN IN SMALL MEMORY GIVES A CONTRACT ████ -/
theorem con_run {P : Program} (hm : P.follows .mixedOrders = true) {cons : List Con} (hc : ∀ c ∈ cons, ConOK P c) {n : Nat} {c : Con} (h : chk c ((evc P cons n).call (.fn c.g c.args) (smallH c.tb)) = true) : ConOK P c := by
  cases hr : (evc P cons n).call (.fn c.g c.args) (smallH c.tb) with
  | no => rw [hr] at h; cases h
  | ok v h' => rw [hr] at h; exact con_ok ((evc_ok hm hc n).2 _ _ _ _ hr) h

end Go.Ev
end

/- EvL1 -/
section
/-
  THE LIMIT OF THE EVALUATOR: what a run comes to with any fuel that is enough.
-/
namespace Go.Ev

/-- From some number on. -/
def Evt (p : Nat → Prop) : Prop := ∃ n, ∀ m, n ≤ m → p m
theorem Evt.of {p : Nat → Prop} (h : ∀ n, p n) : Evt p := ⟨0, fun m _ => h m⟩
theorem Evt.and {p q : Nat → Prop} (a : Evt p) (b : Evt q) : Evt fun n => p n ∧ q n :=
  let ⟨n, hn⟩ := a; let ⟨m, hm⟩ := b; ⟨max n m, fun k hk => ⟨hn k (by omega), hm k (by omega)⟩⟩
theorem Evt.mono {p q : Nat → Prop} (h : ∀ n, p n → q n) (a : Evt p) : Evt q := let ⟨n, hn⟩ := a; ⟨n, fun m hm => h m (hn m hm)⟩
theorem Evt.some {p : Nat → Prop} (a : Evt p) : ∃ n, p n := let ⟨n, hn⟩ := a; ⟨n, hn n (Nat.le_refl n)⟩

/-- With so much fuel, and contracts. -/
noncomputable def EE (P : Program) (K : List Con) (n : Nat) : Evs := withCons K (evc P K n)
/-- No contract is of this function. -/
def noK (K : List Con) (g : FuncId) : Bool := K.all fun c => !Nat.beq c.g g
open Classical in
noncomputable def omC (P : Program) (K : List Con) (c : Code) (fs : FS) (h : H) : RJ :=
  if hx : ∃ r : J × FS × H, Evt fun m => (EE P K m).code c fs h = .ok r.1 r.2.1 r.2.2 then .ok (Classical.choose hx).1 (Classical.choose hx).2.1 (Classical.choose hx).2.2 else .no
open Classical in
noncomputable def omV (P : Program) (K : List Con) (t : Tgt) (h : H) : RV :=
  if hx : ∃ r : AV × H, Evt fun m => (EE P K m).call t h = .ok r.1 r.2 then .ok (Classical.choose hx).1 (Classical.choose hx).2 else .no
noncomputable def om (P : Program) (K : List Con) : Evs := ⟨omC P K, omV P K⟩

theorem om_code {P : Program} {K : List Con} {c : Code} {fs fs' : FS} {h h' : H} {j : J} (e : (om P K).code c fs h = .ok j fs' h') : Evt fun m => (EE P K m).code c fs h = .ok j fs' h' := by
  have e' : omC P K c fs h = .ok j fs' h' := e
  unfold omC at e'
  split at e'
  · rename_i hx; cases e'; exact Classical.choose_spec hx
  · cases e'
theorem om_call {P : Program} {K : List Con} {t : Tgt} {h h' : H} {v : AV} (e : (om P K).call t h = .ok v h') : Evt fun m => (EE P K m).call t h = .ok v h' := by
  have e' : omV P K t h = .ok v h' := e
  unfold omV at e'
  split at e'
  · rename_i hx; cases e'; exact Classical.choose_spec hx
  · cases e'
theorem om_call_of {P : Program} {K : List Con} {t : Tgt} {h h' : H} {v : AV} (e : Evt fun m => (EE P K m).call t h = .ok v h') : (om P K).call t h = .ok v h' := by
  have hx : ∃ r : AV × H, Evt fun m => (EE P K m).call t h = .ok r.1 r.2 := ⟨(v, h'), e⟩
  show omV P K t h = _
  unfold omV
  rw [dif_pos hx]
  obtain ⟨n, h1, h2⟩ := ((Classical.choose_spec hx).and e).some
  exact h1.symm.trans h2

section
variable {P : Program} {K : List Con}
def CV (P : Program) (K : List Con) (F : Evs → RV) : Prop := ∀ v h, F (om P K) = .ok v h → Evt fun m => F (EE P K m) = .ok v h
def CF (P : Program) (K : List Con) (F : Evs → RF) : Prop := ∀ fs h, F (om P K) = .ok fs h → Evt fun m => F (EE P K m) = .ok fs h
def CJ (P : Program) (K : List Con) (F : Evs → RJ) : Prop := ∀ j fs h, F (om P K) = .ok j fs h → Evt fun m => F (EE P K m) = .ok j fs h

theorem CV.const (r : RV) : CV P K fun _ => r := fun _ _ e => .of fun _ => e
theorem CF.const (r : RF) : CF P K fun _ => r := fun _ _ e => .of fun _ => e
theorem CJ.const (r : RJ) : CJ P K fun _ => r := fun _ _ _ e => .of fun _ => e
theorem CV.call (t : Tgt) (h : H) : CV P K fun ih => ih.call t h := fun _ _ e => om_call e
theorem CJ.code (c : Code) (fs : FS) (h : H) : CJ P K fun ih => ih.code c fs h := fun _ _ _ e => om_code e

/-- No contract stands in the way. -/
def free (K : List Con) : Tgt → Bool
  | .fn g _ => noK K g
  | .yld _ _ => true
/-- What a contract says. -/
theorem om_con {c : Con} {args : List AV} {h h' : H} {v : AV} (e : applyCon c args h = .ok v h') {r : List Con} : (om P (c :: r)).call (.fn c.g args) h = .ok v h' := by
  refine om_call_of (.of fun n => ?_)
  show tryCons (evc P (c :: r) n).call c.g args h (c :: r) = _
  unfold tryCons
  rw [show Nat.beq c.g c.g = true from Nat.beq_refl _]
  show (match applyCon c args h with | .ok v h' => RV.ok v h' | .no => tryCons (evc P (c :: r) n).call c.g args h r) = _
  rw [e]

/-- ████ WHAT THE LIMIT FINDS IS WHAT THE MODEL's PROGRAM DOES ████ -/
theorem om_ok (hm : P.follows .mixedOrders = true) (hK : ∀ c ∈ K, ConOK P c) {t : Tgt} {h h' : H} {v : AV} (e : (om P K).call t h = .ok v h') : TgtOK P t h v h' := by
  obtain ⟨n, hn⟩ := (om_call e).some
  exact withCons_ok (evc_ok hm hK n).2 hK t h v h' hn
end

/-- Code without its loops: by the text's own shape. -/
noncomputable def codeS (P : Program) (ω : Evs) : Code → FS → H → RJ
  | .skip, fs, h => .ok .norm fs h
  | .label _, fs, h => .ok .norm fs h
  | .region _ ops draw, fs, h => normE (regionE P ω ops draw fs h)
  | .seq a b, fs, h => thenE (codeS P ω b) (codeS P ω a fs h)
  | .cond c a b, fs, h => match evT fs.tm c with
    | some v => match asB v with
      | some t => bif t then codeS P ω a fs h else codeS P ω b fs h
      | none => .no
    | none => .no
  | .block id b, fs, h => outE id (codeS P ω b fs h)
  | .loop b, fs, h => ω.code (.loop b) fs h
  | .rangeFunc f params assign body, fs, h => rangeE P ω f params assign body fs h
  | .exit id, fs, h => .ok (.exit id) fs h
  | .scope b, fs, h => codeS P ω b fs h
  | .ret, fs, h => .ok .ret fs h
  | .goto _, _, _ => .no
  | .refuse _, _, _ => .no

end Go.Ev
end

/- EvL2 -/
section
/-
  HEAPS WITH NEW OBJECTS, AND FRAMES THAT ARE FUNCTIONS.
-/
namespace Go.Ev

/-! ### Names -/
def Pos.val : Pos → Nat
  | .e => 0
  | .o p => 2 * p.val + 1
  | .i p => 2 * p.val + 2
theorem Pos.val_succ : ∀ p : Pos, p.succ.val = p.val + 1
  | .e => rfl
  | .o p => rfl
  | .i p => by
    have e : (Pos.i p).succ = .o p.succ := rfl
    rw [e]
    simp only [Pos.val, Pos.val_succ p]; omega
theorem Pos.val_inj : ∀ {p q : Pos}, p.val = q.val → p = q
  | .e, .e, _ => rfl
  | .e, .o _, h => by simp [Pos.val] at h
  | .e, .i _, h => by simp [Pos.val] at h
  | .o _, .e, h => by simp [Pos.val] at h
  | .i _, .e, h => by simp [Pos.val] at h
  | .o p, .o q, h => by rw [Pos.val_inj (p := p) (q := q) (by simp only [Pos.val] at h; omega)]
  | .i p, .i q, h => by rw [Pos.val_inj (p := p) (q := q) (by simp only [Pos.val] at h; omega)]
  | .o p, .i q, h => by simp only [Pos.val] at h; omega
  | .i p, .o q, h => by simp only [Pos.val] at h; omega

noncomputable def nxP (p : Pos) : Nat → Pos
  | 0 => p
  | k + 1 => (nxP p k).succ
theorem nxP_val (p : Pos) : ∀ k, (nxP p k).val = p.val + k
  | 0 => rfl
  | k + 1 => by rw [nxP, Pos.val_succ, nxP_val p k]; omega
theorem nxP_inj {p : Pos} {i j : Nat} (h : nxP p i = nxP p j) : i = j := by
  have := congrArg Pos.val h
  rw [nxP_val, nxP_val] at this
  omega
theorem nxP_add (p : Pos) (i : Nat) : ∀ j, nxP (nxP p i) j = nxP p (i + j)
  | 0 => rfl
  | j + 1 => by show (nxP (nxP p i) j).succ = (nxP p (i + j)).succ; rw [nxP_add p i j]

noncomputable def nx (h : H) (k : Nat) : Pos := nxP h.next k

/-! ### Heaps -/
noncomputable def pushAll (objs : T (Nat × AO)) (p : Pos) (c : Nat) : List AO → T (Nat × AO)
  | [] => objs
  | o :: l => pushAll (T.set (c, o) p objs) p.succ (c + 1) l

theorem nxP_succ (p : Pos) (k : Nat) : nxP p.succ k = nxP p (k + 1) := by
  have := nxP_add p 1 k
  rw [show 1 + k = k + 1 from by omega] at this
  exact this

theorem pushAll_get_ne {q : Pos} : ∀ (l : List AO) (objs : T (Nat × AO)) (p : Pos) (c : Nat), (∀ k, k < l.length → q ≠ nxP p k) → T.get q (pushAll objs p c l) = T.get q objs
  | [], _, _, _, _ => rfl
  | a :: l, objs, p, c, h => by
    show T.get q (pushAll (T.set (c, a) p objs) p.succ (c + 1) l) = _
    rw [pushAll_get_ne l _ _ _ (fun k hk => by rw [nxP_succ]; exact h (k + 1) (by simp; omega)), T.get_set_ne _ _ _ _ (show q ≠ p from h 0 (by simp))]

theorem pushAll_get : ∀ (l : List AO) (objs : T (Nat × AO)) (p : Pos) (c k : Nat), k < l.length → T.get (nxP p k) (pushAll objs p c l) = (l[k]?).map fun o => (c + k, o)
  | [], _, _, _, k, h => absurd h (Nat.not_lt_zero k)
  | a :: l, objs, p, c, 0, _ => by
    show T.get p (pushAll (T.set (c, a) p objs) p.succ (c + 1) l) = _
    rw [pushAll_get_ne l _ _ _ (fun k _ e => by rw [nxP_succ] at e; have := nxP_inj (i := 0) (j := k + 1) e; omega), T.get_set_same]
    rfl
  | a :: l, objs, p, c, k + 1, h => by
    show T.get (nxP p (k + 1)) (pushAll (T.set (c, a) p objs) p.succ (c + 1) l) = _
    rw [← nxP_succ, pushAll_get l _ _ _ k (by simpa using h)]
    simp only [List.getElem?_cons_succ]
    rw [show c + 1 + k = c + (k + 1) from by omega]

/-- A heap, with new objects behind it, and a mark. -/
noncomputable def X (h : H) (l : List AO) (w : Nat) : H := ⟨pushAll h.objs h.next h.clock l, nxP h.next l.length, h.clock + l.length, w⟩

structure Wf (h : H) : Prop where
  fresh : ∀ k, T.get (nx h k) h.objs = none
  old : ∀ id born o, T.get id h.objs = some (born, o) → born < h.clock
  wle : h.w ≤ h.clock

theorem nx_X (h : H) (l : List AO) (w k : Nat) : nx (X h l w) k = nx h (l.length + k) := nxP_add _ _ _
theorem Wf.X {h : H} (wf : Wf h) {l : List AO} {w : Nat} (hw : w ≤ h.clock + l.length) : Wf (X h l w) where
  fresh := fun k => by
    rw [nx_X]
    show T.get (nxP h.next (l.length + k)) (pushAll h.objs h.next h.clock l) = none
    rw [pushAll_get_ne l _ _ _ (fun j hj e => by have := nxP_inj e; omega)]
    exact wf.fresh _
  old := fun id born o hid => by
    have hid' : T.get id (pushAll h.objs h.next h.clock l) = some (born, o) := hid
    show born < h.clock + l.length
    by_cases hx : ∃ k, k < l.length ∧ id = nxP h.next k
    · obtain ⟨k, hk, rfl⟩ := hx
      rw [pushAll_get l _ _ _ k hk] at hid'
      simp only [Option.map_eq_some_iff, Prod.mk.injEq] at hid'
      obtain ⟨_, _, rfl, _⟩ := hid'
      omega
    · rw [pushAll_get_ne l _ _ _ (fun k hk e => hx ⟨k, hk, e⟩)] at hid'
      have := wf.old _ _ _ hid'
      omega
  wle := hw

theorem getObj_eq (id : Pos) (h : H) : getObj id h = (T.get id h.objs).map (·.2) := by
  unfold getObj
  cases T.get id h.objs <;> rfl

theorem getObj_new {h : H} (wf : Wf h) (l : List AO) (w k : Nat) : getObj (nx h k) (X h l w) = l[k]? := by
  rw [getObj_eq]
  show Option.map (·.2) (T.get (nxP h.next k) (pushAll h.objs h.next h.clock l)) = _
  by_cases hk : k < l.length
  · rw [pushAll_get l _ _ _ k hk]; cases l[k]? <;> rfl
  · rw [pushAll_get_ne l _ _ _ (fun j hj e => by have := nxP_inj e; omega)]
    have := wf.fresh k
    unfold nx at this
    rw [this, List.getElem?_eq_none (by omega)]
    rfl

theorem getObj_old {h : H} (wf : Wf h) {id : Pos} {o : AO} (hg : getObj id h = some o) (l : List AO) (w : Nat) : getObj id (X h l w) = some o := by
  rw [getObj_eq] at hg ⊢
  show Option.map (·.2) (T.get id (pushAll h.objs h.next h.clock l)) = _
  rw [pushAll_get_ne l _ _ _ (fun j hj e => by
    have := wf.fresh j
    unfold nx at this
    rw [e, this] at hg
    cases hg)]
  exact hg

/-! ### Frames -/
abbrev TF := Nat → AV
def upd (f : TF) (k : Nat) (v : AV) : TF := fun j => if j = k then v else f j
def mkM (f : TF) : M AV := (List.range 48).map fun r => (List.range 8).map fun c => f (8 * r + c)

def ini : TF := fun _ => .tup []
end Go.Ev
end

/- EvS20 -/
section
/-
  A START: some of the world's blocks of cells are known.
-/
namespace Go.Ev
open Go.RowKit

theorem posN_val : ∀ n, (posN n).val = n
  | 0 => rfl
  | n + 1 => by show (posN n).succ.val = n + 1; rw [Pos.val_succ, posN_val n]
theorem val_posN (p : Pos) : posN p.val = p := Pos.val_inj (posN_val _)

noncomputable def startT (D : Nat → Option (Nat → Option AV)) : Nat → T (Nat × AO)
  | 0 => .nil
  | k + 1 => T.set (0, (D k).elim .dead .ro) (posN k) (startT D k)
noncomputable def startG (D : Nat → Option (Nat → Option AV)) (N : Nat) : H := ⟨startT D N, posN N, 1, 1⟩

theorem startT_get (D : Nat → Option (Nat → Option AV)) (id : Pos) : ∀ N, T.get id (startT D N) = if id.val < N then some (0, (D id.val).elim .dead .ro) else none
  | 0 => by rw [if_neg (Nat.not_lt_zero _)]; exact T.get_nil id
  | N + 1 => by
    show T.get id (T.set _ (posN N) (startT D N)) = _
    by_cases he : id = posN N
    · subst he; rw [T.get_set_same, posN_val, if_pos (Nat.lt_succ_self N)]
    · rw [T.get_set_ne _ _ _ _ he, startT_get D id N]
      have hne : id.val ≠ N := fun e => he (by rw [← e, val_posN])
      by_cases hl : id.val < N
      · rw [if_pos hl, if_pos (by omega)]
      · rw [if_neg hl, if_neg (by omega)]

theorem startG_wf (D : Nat → Option (Nat → Option AV)) (N : Nat) : Wf (startG D N) where
  fresh := fun k => by
    show T.get (nxP (posN N) k) (startT D N) = none
    rw [startT_get, if_neg (by rw [nxP_val, posN_val]; omega)]
  old := fun id born o hid => by
    have h' : T.get id (startT D N) = some (born, o) := hid
    rw [startT_get] at h'
    split at h'
    · cases h'; exact Nat.zero_lt_one
    · cases h'
  wle := Nat.le_refl _

def cellsSize (W : World) (b : Nat) : Nat := match W.heap[b]? with
  | some (.cells c _ _) => c.size
  | _ => 0

open Classical in
noncomputable def startGR (D : Nat → Option (Nat → Option AV)) (N : Nat) (W : World) : R := fun id => if id.val < N then (D id.val).elim (some none) (fun _ => some (some (id.val, cellsSize W id.val))) else none

/-- What is known of blocks is so. -/
def Known (D : Nat → Option (Nat → Option AV)) (N : Nat) (W : World) : Prop := ∀ b m, D b = some m → b < N ∧ ∃ c e f, W.heap[b]? = some (.cells c e f) ∧ RowsF (startGR D N W) m c

theorem startG_hr {D : Nat → Option (Nat → Option AV)} {N : Nat} {W : World} (hN : 64 ≤ N) (h : Known D N W) : HR (startGR D N W) (startG D N) W ∧ GR (startGR D N W) ∧ ∀ b, ¬ Wr (startGR D N W) (startG D N) b := by
  have key : ∀ id x, startGR D N W id = some x → (id.val < N ∧ D id.val = none ∧ x = none) ∨ (∃ m, id.val < N ∧ D id.val = some m ∧ x = some (id.val, cellsSize W id.val)) := fun id x hx => by
    unfold startGR at hx
    split at hx
    · rename_i hl
      cases hd : D id.val with
      | none => rw [hd] at hx; cases hx; exact .inl ⟨hl, rfl, rfl⟩
      | some m => rw [hd] at hx; cases hx; exact .inr ⟨m, hl, rfl, rfl⟩
    · cases hx
  have obj : ∀ id, id.val < N → T.get id (startG D N).objs = some (0, (D id.val).elim .dead .ro) := fun id hl => by
    show T.get id (startT D N) = _
    rw [startT_get, if_pos hl]
  refine ⟨⟨?_, ?_, ?_, ?_⟩, ?_, ?_⟩
  · intro id b n hid
    rcases key id _ hid with ⟨_, _, hx⟩ | ⟨m, hl, hd, hx⟩
    · cases hx
    · cases hx
      obtain ⟨_, c, e, f, hb, hc⟩ := h _ _ hd
      refine ⟨0, .ro m, .cells c e f, by rw [obj id hl, hd]; rfl, hb, ?_⟩
      have hs : cellsSize W id.val = c.size := by unfold cellsSize; rw [hb]
      rw [hs]
      exact .ro m e c f hc
  · intro i j b n n' hi hj
    rcases key i _ hi with ⟨_, _, hx⟩ | ⟨_, _, _, hx⟩
    · cases hx
    · rcases key j _ hj with ⟨_, _, hy⟩ | ⟨_, _, _, hy⟩
      · cases hy
      · have e1 := congrArg Prod.fst (Option.some.inj hx)
        have e2 := congrArg Prod.fst (Option.some.inj hy)
        exact Pos.val_inj (e1.symm.trans e2)
  · intro id hid
    rcases key id _ hid with ⟨hl, hd, _⟩ | ⟨_, _, _, hx⟩
    · exact ⟨0, by rw [obj id hl, hd]; rfl⟩
    · cases hx
  · intro id born o hid
    exact (startG_wf D N).old id born o hid
  · intro g hg
    have hl : (posN g).val < N := by rw [posN_val]; omega
    unfold startGR
    rw [if_pos hl]
    cases hd : D (posN g).val with
    | none => exact ⟨none, rfl, fun b n e => by cases e⟩
    | some m => exact ⟨_, rfl, fun b n e => by cases e; rw [posN_val]⟩
  · rintro b ⟨id, n, hid, hro⟩
    rcases key id _ hid with ⟨_, _, hx⟩ | ⟨m, hl, hd, hx⟩
    · cases hx
    · exact hro ⟨0, m, by rw [obj id hl, hd]; rfl⟩

theorem startG_calls {P : Program} {g : FuncId} {D : Nat → Option (Nat → Option AV)} {N : Nat} {args : List AV} {v : AV} {h' : H} (ok : TgtOK P (.fn g args) (startG D N) v h') {W : World} (hN : 64 ≤ N) (hW : Known D N W)
    {args' : Array Value} (ha : VL (startGR D N W) args args'.toList) : Calls P g args' W fun e w' => (∃ ρ v', e = .returned v' ∧ VR ρ v v' ∧ HR ρ h' w') ∧ Grown W w' ∧ ∀ b, b < W.heap.size → w'.heap[b]? = W.heap[b]? := by
  obtain ⟨hr, hg, hwr⟩ := startG_hr hN hW
  intro frames
  obtain ⟨ρ', v', w', fr, a1, a2, a3, a4, a5, a6⟩ := ok (startGR D N W) args' W hg hr ha frames
  refine ⟨.returned v', w', fr, ⟨⟨ρ', v', rfl, a1, a2⟩, ⟨⟨a3.os, a3.out, fun i hi => ?_⟩, a3.frz, a3.size⟩, fun b hb => a3.frame b hb (hwr b)⟩, a4, a5, a6⟩
  have := a3.frame i hi (hwr i)
  rw [this]
  have hsome : W.heap[i]? = some W.heap[i] := by simp [hi]
  rw [hsome]
  cases W.heap[i] with
  | cells c t fr => exact ⟨rfl, rfl, rfl, fun _ _ => rfl⟩
  | map es clock => exact .inr ⟨rfl, rfl⟩
  | _ => rfl

/-- Nothing is known. -/
noncomputable def startN : H := startG (fun _ => none) 64

end Go.Ev
end

/- EvL3 -/
section
/-
  CELLS OF A BLOCK AS A LIST.
-/
namespace Go.Ev

theorem rowsGo_eq : ∀ (cs : List AV) (k : Nat) (row : List AV), row.length + k = 8 → ∀ i,
    M.get (List.rec (motive := fun _ => Nat → List AV → M AV) (fun _ row => [row.reverse]) (fun v _ ih k row => Nat.rec (motive := fun _ => M AV) (row.reverse :: ih 7 [v]) (fun j _ => ih j (v :: row)) k) cs k row) i = (row.reverse ++ cs)[i]?
  | [], k, row, h, i => by
    show M.get [row.reverse] i = _
    rw [M.get_eq, List.append_nil]
    by_cases hi : i / 8 = 0
    · rw [hi]
      show row.reverse[i % 8]? = _
      rw [show i % 8 = i from by omega]
    · rw [List.getElem?_eq_none (by simp; omega), List.getElem?_eq_none (by simp; omega)]; rfl
  | v :: vs, 0, row, h, i => by
    show M.get (row.reverse :: List.rec (motive := fun _ => Nat → List AV → M AV) (fun _ row => [row.reverse]) (fun v _ ih k row => Nat.rec (motive := fun _ => M AV) (row.reverse :: ih 7 [v]) (fun j _ => ih j (v :: row)) k) vs 7 [v]) i = _
    have ih := rowsGo_eq vs 7 [v] rfl
    rw [M.get_eq]
    by_cases hi : i / 8 = 0
    · rw [hi]
      show row.reverse[i % 8]? = _
      rw [List.getElem?_append_left (by simp; omega), show i % 8 = i from by omega]
    · obtain ⟨m, hm⟩ : ∃ m, i / 8 = m + 1 := ⟨i / 8 - 1, by omega⟩
      rw [hm, List.getElem?_cons_succ]
      have := ih (i - 8)
      rw [M.get_eq, show (i - 8) / 8 = m from by omega, show (i - 8) % 8 = i % 8 from by omega] at this
      rw [this, List.getElem?_append_right (l₁ := row.reverse) (by simp; omega)]
      simp only [List.length_reverse]
      rw [show row.length = 8 from by omega]; rfl
  | v :: vs, k + 1, row, h, i => by
    have := rowsGo_eq vs k (v :: row) (by simp; omega) i
    refine Eq.trans this ?_
    rw [List.reverse_cons, List.append_assoc]; rfl

theorem mkCells_eq (cs : List AV) (i : Nat) : (mkCells cs).get i = cs[i]? := by
  have gen : ∀ cs : List AV, (rowsOf cs).get i = cs[i]? := fun cs => rowsGo_eq cs 8 [] rfl i
  match cs with
  | [] => exact gen []
  | [v] =>
    show M.get [[v]] i = _
    rw [M.get_eq]
    by_cases hi : i = 0
    · subst hi; rfl
    · rw [List.getElem?_eq_none (l := [v]) (by simp; omega)]
      by_cases h8 : i / 8 = 0
      · rw [h8]
        show [v][i % 8]? = none
        rw [List.getElem?_eq_none (by simp; omega)]
      · rw [List.getElem?_eq_none (by simp; omega)]; rfl
  | a :: b :: l => exact gen (a :: b :: l)

noncomputable abbrev rowsGo (cs : List AV) (k : Nat) (row : List AV) : M AV := List.rec (motive := fun _ => Nat → List AV → M AV) (fun _ row => [row.reverse]) (fun v _ ih k row => Nat.rec (motive := fun _ => M AV) (row.reverse :: ih 7 [v]) (fun j _ => ih j (v :: row)) k) cs k row

/-- So many cells are other ones. -/
def splice (cs : List AV) (off : Nat) (vs : List AV) : List AV := cs.take off ++ vs ++ cs.drop (off + vs.length)
end Go.Ev
end

/- EvL4 -/
section
/-
  RULES: what is asked behind code, behind operations, behind calls.
-/
namespace Go.Ev

def WV (r : RV) (Q : AV → H → Prop) : Prop := ∃ v h, r = .ok v h ∧ Q v h
theorem WV.mono {r : RV} {Q Q' : AV → H → Prop} (w : WV r Q) (k : ∀ v h, Q v h → Q' v h) : WV r Q' := let ⟨v, h, e, q⟩ := w; ⟨v, h, e, k v h q⟩
structure Cx where
  P : Program
  K : List Con
  g : FuncId
  n : Nat
  r : Option Pos

def Cx.fs (x : Cx) (f : TF) (d : List Pos) : FS := ⟨x.g, x.n, mkM f, d, x.r⟩

abbrev CQ := J → TF → List Pos → H → Prop

/-- Code, from a frame and a heap on. -/
structure WC (x : Cx) (c : Code) (f : TF) (d : List Pos) (h : H) (Q : CQ) : Prop where
  out : ∃ j f' d' h', codeS x.P (om x.P x.K) c (x.fs f d) h = .ok j (x.fs f' d') h' ∧ Q j f' d' h'
theorem WC.mono {x : Cx} {c : Code} {f : TF} {d : List Pos} {h : H} {Q Q' : CQ} (w : WC x c f d h Q) (k : ∀ j f d h, Q j f d h → Q' j f d h) : WC x c f d h Q' :=
  let ⟨j, f', d', h', e, q⟩ := w; ⟨j, f', d', h', e, k _ _ _ _ q⟩

def seqQ (x : Cx) (b : Code) (Q : CQ) : CQ
  | .norm, f, d, h => WC x b f d h Q
  | .exit id, f, d, h => Q (.exit id) f d h
  | .ret, f, d, h => Q .ret f d h
def blkQ (id : Nat) (Q : CQ) : CQ
  | .norm, f, d, h => Q .norm f d h
  | .exit id', f, d, h => bif Nat.beq id' id then Q .norm f d h else Q (.exit id') f d h
  | .ret, f, d, h => Q .ret f d h

section
variable {x : Cx} {a b : Code} {f : TF} {d : List Pos} {h : H} {Q : CQ}

/-- A test. -/
def WB (o : Option AV) (K : Bool → Prop) : Prop := ∃ t, o = some (.bool t) ∧ K t
def condK (A B : Prop) (t : Bool) : Prop := (t = true → A) ∧ (t = false → B)
/-- Operations in the text's order. -/
structure WO (x : Cx) (ops : Array Oper) (l : List Oper) (f : TF) (d : List Pos) (h : H) (Q : TF → H → Prop) : Prop where
  out : ∃ f' h', opsE x.P (om x.P x.K) ops l (x.fs f d) h = .ok (x.fs f' d) h' ∧ Q f' h'
variable {ops : Array Oper} {o : Oper} {rest : List Oper} {Qo : TF → H → Prop}
/-- A guarded operation: is it wanted? -/
def gateK (want : Bool) (A B : Prop) (o : Option Bool) : Prop := (o = some want → A) ∧ (o ≠ some want → B)
end

/-! ### Regions whose order is drawn -/
structure WD (x : Cx) (ops : Array Oper) (l : List (Oper × Bar)) (f : TF) (d : List Pos) (h : H) (Q : TF → H → Prop) : Prop where
  out : ∃ f' h', opsD x.P (om x.P x.K) ops l (x.fs f d) h = .ok (x.fs f' d) h' ∧ Q f' h'
section
variable {x : Cx} {f : TF} {d : List Pos} {h : H} {Q : CQ} {ops : Array Oper} {o : Oper} {bar : Bar} {rest : List (Oper × Bar)} {Qo : TF → H → Prop}
end

/-! ### Loops -/
/-- A loop: what holds at the head of each round, and a measure. -/
def roundQ {α : Type} (S : α → TF → List Pos → H → Prop) (μ : α → Nat) (a : α) (Q : CQ) : CQ
  | .norm, f, d, h => ∃ a', μ a' < μ a ∧ S a' f d h
  | .exit id, f, d, h => Q (.exit id) f d h
  | .ret, f, d, h => Q .ret f d h
/-! ### Calls -/
/-- What is asked at a call's end: of the results, in the heap that is left. -/
def endQ (P : Program) (rs : List ResultVar) (h : H) (Q : AV → H → Prop) : CQ
  | .exit _, _, _, _ => False
  | .norm, f, d, h1 => ∃ h2 v, takeAll d h1 = some h2 ∧ retE P rs (mkM f) h2 = .ok v h2 ∧ WV (pureCall h (.ok v h2)) Q
  | .ret, f, d, h1 => ∃ h2 v, takeAll d h1 = some h2 ∧ retE P rs (mkM f) h2 = .ok v h2 ∧ WV (pureCall h (.ok v h2)) Q
def argF : TF → Nat → List AV → TF
  | f, _, [] => f
  | f, i, v :: vs => argF (upd f i v) (i + 1) vs
end Go.Ev
end

/- EvL5 -/
section
/-
  WHAT EACH OPERATION COMES TO: equations.
-/
namespace Go.Ev
section
variable {P : Program} {ω : Evs} {tm : M AV} {ty : TypeId} {h : H}
theorem toNatE_lit {k} {n : Nat} : toNatE (.int k (n : Int)) = some n := rfl
theorem indexAt_sl {n id off len cap esz i} (hi : i < len) : indexAt none n (.sl id off len cap esz) i = some (.ptr id (off + i * n)) := by
  show (bif Nat.ble (Nat.succ i) len then forceNat (Nat.add off (Nat.mul i n)) fun o => some (AV.ptr id o) else none) = _
  rw [Nat.ble_eq_true_of_le hi, forceNat_eq]; rfl
theorem indexAddrE_def {t x i} : indexAddrE P t x i = match toNatE i with | some i => (match idxKind P t with | some (k, n) => indexAt k n x i | none => none) | none => none := rfl
theorem load1_of {id off m o} (hg : getObj id h = some o) (hm : cellsOf o = some m) : load1 id off h = m off := by
  unfold load1; rw [hg]; dsimp only; rw [hm]
theorem readCells_of {id off n m o} (hg : getObj id h = some o) (hm : cellsOf o = some m) : readCells h id off n = readM m n off := by
  unfold readCells; rw [hg]; dsimp only; rw [hm]
noncomputable def cellAt : Option AO → Nat → Option AV
  | some (.cells m _), off => m.get off
  | some (.ro m), off => m off
  | _, _ => none
noncomputable def aggAt : Option AO → Nat → Nat → Option AV
  | some (.cells m _), off, n => (match readM m.get n off with | some cs => some (.agg cs) | none => none)
  | some (.ro m), off, n => (match readM m n off with | some cs => some (.agg cs) | none => none)
  | _, _, _ => none
noncomputable def storeAt : Option AO → Nat → AV → Option AO
  | some (.cells m e), off, v => bif oneB v then (match m.set off v with | some m' => some (.cells m' e) | none => none) else none
  | _, _, _ => none
noncomputable def writeAt : Option AO → Nat → List AV → Option AO
  | some (.cells m e), off, vs => bif allOne vs then (match fillM m off vs with | some m' => some (.cells m' e) | none => none) else none
  | _, _, _ => none
end
end Go.Ev
end

/- EvL6 -/
section
/-
  SLICES THAT ARE READ; BUILTINS; SMALL EQUATIONS.
-/
namespace Go.Ev
section
variable {P : Program}

/-- A slice of so many elements of m cells each: what its cells hold. -/
def Sl (h : H) (a : AV) (m len : Nat) (cells : List AV) : Prop :=
  cells.length = len * m ∧ ((a = .nils ∧ len = 0) ∨ ∃ id off cap esz o cs, a = .sl id off len cap esz ∧ getObj id h = some o ∧ cellsOf o = some cs ∧ ∀ k, k < len * m → cs (off + k) = cells[k]?)

theorem Sl.up {h : H} (wf : Wf h) {a : AV} {m len : Nat} {cells : List AV} (s : Sl h a m len cells) (l : List AO) (w : Nat) : Sl (X h l w) a m len cells := by
  obtain ⟨hl, ⟨ha, h0⟩ | ⟨id, off, cap, esz, o, cs, ha, hg, hc, hk⟩⟩ := s
  · exact ⟨hl, .inl ⟨ha, h0⟩⟩
  · exact ⟨hl, .inr ⟨id, off, cap, esz, o, cs, ha, getObj_old wf hg l w, hc, hk⟩⟩
theorem Sl.new {h : H} (wf : Wf h) {l : List AO} {w k m len : Nat} {cap : Option Nat} {esz e : Nat} {cells : List AV} (hl : cells.length = len * m) (hk : l[k]? = some (.cells (mkCells cells) e)) : Sl (X h l w) (.sl (nx h k) 0 len cap esz) m len cells :=
  ⟨hl, .inr ⟨_, 0, cap, esz, _, _, rfl, by rw [getObj_new wf]; exact hk, rfl, fun k _ => by rw [Nat.zero_add, mkCells_eq]⟩⟩
theorem Sl.nil (h : H) (m : Nat) : Sl h .nils m 0 [] := ⟨by simp, .inl ⟨rfl, rfl⟩⟩

theorem Sl.len {h h' : H} {a : AV} {m len : Nat} {cells : List AV} (s : Sl h a m len cells) {t e : TypeId} (hu : P.underlying t = some (.slice e)) : lenE P t a h' = some (.int .i64 (len : Int)) := by
  obtain ⟨_, ⟨rfl, rfl⟩ | ⟨id, off, cap, esz, o, cs, rfl, _, _, _⟩⟩ := s
  · unfold lenE; rw [hu]; rfl
  · unfold lenE; rw [hu]; rfl

/-- An element's address, and what lies there. -/
theorem Sl.at {h : H} (wf : Wf h) {a : AV} {m len : Nat} {cells : List AV} (s : Sl h a m len cells) {i : Nat} (hi : i < len) {t : TypeId} (hk : idxKind P t = some (none, m)) :
    ∃ id off, indexAddrE P t a (.int .i64 (i : Int)) = some (.ptr id off) ∧ ∀ l w, (∀ k, k < m → load1 id (off + k) (X h l w) = cells[i * m + k]?) ∧ loadAgg id off (some m) (X h l w) = some (.agg ((cells.drop (i * m)).take m)) := by
  obtain ⟨hl, ⟨rfl, rfl⟩ | ⟨id, off, cap, esz, o, cs, rfl, hg, hc, hx⟩⟩ := s
  · exact absurd hi (Nat.not_lt_zero _)
  · have him : i * m + m ≤ len * m := by rw [← Nat.succ_mul]; exact Nat.mul_le_mul_right m hi
    refine ⟨id, off + i * m, ?_, fun l w => ⟨fun k hkm => ?_, ?_⟩⟩
    · rw [indexAddrE_def, toNatE_lit]; dsimp only; rw [hk]; dsimp only; exact indexAt_sl hi
    · rw [load1_of (getObj_old wf hg l w) hc, Nat.add_assoc]
      exact hx _ (by omega)
    · unfold loadAgg
      dsimp only
      rw [readCells_of (getObj_old wf hg l w) hc]
      have hread : ∀ (n q : Nat), q + n ≤ m → readM cs n (off + i * m + q) = some ((cells.drop (i * m + q)).take n) := by
        intro n
        induction n with
        | zero => intro q _; simp [readM]
        | succ n ih =>
          intro q hq2
          unfold readM
          have h1 := hx (i * m + q) (by omega)
          rw [List.getElem?_eq_getElem (l := cells) (by omega), ← Nat.add_assoc] at h1
          rw [h1]
          dsimp only
          have h2 := ih (q + 1) (by omega)
          rw [show Nat.succ (off + i * m + q) = off + i * m + (q + 1) from rfl, h2, List.drop_eq_getElem_cons (i := i * m + q) (by omega)]
          rfl
      have hread0 := hread m 0 (by omega)
      rw [Nat.add_zero, Nat.add_zero] at hread0
      rw [hread0]
/-- The elements from k on. -/
theorem Sl.from {h : H} {a : AV} {m len : Nat} {cells : List AV} (s : Sl h a m len cells) {k : Nat} (hk : k ≤ len) {t e : TypeId} (hu : P.underlying t = some (.slice e)) (hz : sizeE P e = some m) (hcap : ∀ id off l esz, a ≠ .sl id off l none esz) (hesz : ∀ id off l c esz, a = .sl id off l (some c) esz → l ≤ c) :
    ∃ b, sliceE P t (reszT P t a) (some k) none none = some b ∧ Sl h b m (len - k) (cells.drop (k * m)) := by
  obtain ⟨hl, ⟨rfl, rfl⟩ | ⟨id, off, cap, esz, o, cs, rfl, hg, hc, hx⟩⟩ := s
  · have hk0 : k = 0 := by omega
    subst hk0
    refine ⟨.nils, ?_, by simp at hl; simp [hl]; exact Sl.nil h m⟩
    have hr : reszT P t .nils = .nils := by unfold reszT; rw [hu]; dsimp only; rw [hz]; rfl
    rw [hr]
    unfold sliceE; rw [hu]; dsimp only; rw [hz]; rfl
  · cases cap with
    | none => exact absurd rfl (hcap id off len esz)
    | some c =>
      have hlc := hesz id off len c esz rfl
      have hr : reszT P t (.sl id off len (some c) esz) = .sl id off len (some c) m := by unfold reszT; rw [hu]; dsimp only; rw [hz]; rfl
      rw [hr]
      clear hr
      have hb : boundsE len (some c) (some k) none none = some (k, len, some c) := by
        unfold boundsE
        show (bif Nat.ble len c && Nat.ble k len then some (k, len, some c) else none) = _
        rw [Nat.ble_eq_true_of_le hlc, Nat.ble_eq_true_of_le hk]; rfl
      refine ⟨.sl id (bif Nat.beq c k then off else off + k * m) (len - k) (some (c - k)) m, ?_, ?_, .inr ⟨_, _, _, _, o, cs, rfl, hg, hc, fun j hj => ?_⟩⟩
      · unfold sliceE; rw [hu]; dsimp only; rw [hz]; dsimp only
        rw [show Nat.beq m m = true from Nat.beq_refl m, hb]; rfl
      · rw [List.length_drop, hl, Nat.sub_mul]
      · have hmul : k * m ≤ len * m := Nat.mul_le_mul_right _ hk
        rw [List.getElem?_drop]
        have hj' : k * m + j < len * m := by rw [Nat.sub_mul] at hj; omega
        have := hx (k * m + j) hj'
        rw [← this]
        cases hbq : Nat.beq c k with
        | true =>
          have := Nat.eq_of_beq_eq_true hbq
          subst this
          have : len = c := by omega
          subst this
          omega
        | false => show cs (off + k * m + j) = _; rw [Nat.add_assoc]

variable {ty : TypeId} {h : H} {tm : M AV}
end
end Go.Ev
namespace Go.Ev
end Go.Ev
end

/- EvS21 -/
section
/-
  A START OUT OF ANY WORLD: each block of cells, as far as its values can be read.
-/
namespace Go.Ev
open Go.RowKit

/-- A value of one cell, read. -/
noncomputable def absV (N : Nat) : Value → Option AV
  | .bool b => some (.bool b)
  | .int k n => some (.int k n)
  | .string s => some (.str s)
  | .pointer none => some .nilp
  | .pointer (some ⟨b, off, none⟩) => if b < N then some (.ptr (posN b) off) else none
  | .slice none 0 0 => some .nils
  | .slice (some a) len cap => if a.block < N ∧ a.spot = none ∧ len ≤ cap then some (.sl (posN a.block) a.off len (some cap) 0) else if len = 0 ∧ cap = 0 then some (.sl (posN (N - 1)) 0 0 (some 0) 0) else none
  | .map none => some .nilm
  | .nilFunc => some .nilf
  | .nilIface => some .nili
  | _ => none

/-- How many names a start has: the last one is no block's. -/
abbrev NW (W : World) : Nat := max 64 (W.heap.size + 1)
theorem NW_gt (W : World) : W.heap.size < NW W := by unfold NW; omega
theorem NW_last (W : World) : NW W - 1 < NW W ∧ W.heap.size ≤ NW W - 1 := by unfold NW; omega
noncomputable def blockF (W : World) (b : Nat) : Option (Nat → Option AV) := match W.heap[b]? with
  | some (.cells c _ _) => some fun i => (c[i]?).bind (absV (NW W))
  | _ => none

noncomputable abbrev startW (W : World) : H := startG (blockF W) (NW W)
noncomputable abbrev startWR (W : World) : R := startGR (blockF W) (NW W) W

theorem startWR_name (W : World) {b : Nat} (hb : b < NW W) : ∃ x, startWR W (posN b) = some x ∧ ∀ c n, x = some (c, n) → c = b := by
  unfold startWR startGR
  rw [posN_val, if_pos hb]
  cases blockF W b with
  | none => exact ⟨none, rfl, fun c n e => by cases e⟩
  | some f => exact ⟨_, rfl, fun c n e => by cases e; rfl⟩

theorem startWR_last (W : World) : startWR W (posN (NW W - 1)) = some none := by
  unfold startWR startGR
  rw [posN_val, if_pos (NW_last W).1]
  have : blockF W (NW W - 1) = none := by
    unfold blockF
    rw [Array.getElem?_eq_none (NW_last W).2]
  rw [this]; rfl

theorem absV_vr {W : World} {v : Value} {a : AV} (h : absV (NW W) v = some a) : VR (startWR W) a v := by
  unfold absV at h
  split at h
  · cases h; exact .bool _
  · cases h; exact .int _ _
  · cases h; exact .str _
  · cases h; exact .nilp
  · split at h
    · rename_i hb
      cases h
      obtain ⟨x, h1, h2⟩ := startWR_name W hb
      exact .ptr _ _ _ x h1 h2
    · cases h
  · cases h; exact .nils
  · rename_i a len cap
    obtain ⟨b, off, spot⟩ := a
    split at h
    · rename_i hb
      obtain ⟨hb1, hb2, hb3⟩ := hb
      dsimp only at hb1 hb2
      subst hb2
      cases h
      obtain ⟨x, h1, h2⟩ := startWR_name W hb1
      exact .sl _ _ _ _ _ _ _ x h1 (fun c n e => ⟨h2 c n e, fun e => by cases e⟩) (fun c e => by cases e; rfl) hb3
    · split at h
      · rename_i hz
        obtain ⟨rfl, rfl⟩ := hz
        cases h
        exact .sle _ _ _ _ (startWR_last W)
      · cases h
  · cases h; exact .nilm
  · cases h; exact .nilf
  · cases h; exact .nili
  · cases h

theorem known0 (W : World) : Known (blockF W) (NW W) W := by
  intro b m hb
  unfold blockF at hb
  split at hb
  · rename_i c e f hc
    have hlt : b < W.heap.size := (Array.getElem?_eq_some_iff.1 hc).1
    cases hb
    refine ⟨Nat.lt_trans hlt (NW_gt W), c, e, f, hc, fun i v hv => ?_⟩
    obtain ⟨v', h1, h2⟩ := Option.bind_eq_some_iff.1 hv
    exact ⟨v', h1, absV_vr h2⟩
  · cases hb

/-- ████ WHAT THE LIMIT FINDS FROM ANY WORLD ████ -/
theorem startW_true {P : Program} (hm : P.follows .mixedOrders = true) {K : List Con} (hK : ∀ c ∈ K, ConOK P c) {g : FuncId} {W : World} {args : List AV} {h' : H} (he : (om P K).call (.fn g args) (startW W) = .ok (.bool true) h')
    {args' : Array Value} (ha : VL (startWR W) args args'.toList) : Calls P g args' W fun e w' => e = .returned (.bool true) ∧ Grown W w' ∧ ∀ b, b < W.heap.size → w'.heap[b]? = W.heap[b]? := by
  refine (startG_calls (om_ok hm hK he) (Nat.le_max_left _ _) (known0 W) ha).mono fun e w' ⟨⟨ρ, v', h1, h2, _⟩, h3⟩ => ⟨?_, h3⟩
  cases h2
  exact h1
end Go.Ev
end
