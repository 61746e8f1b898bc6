/-
  CONTRACTS OF CALLS, 1: what a call does in a small memory, taken over into any memory that holds the like.
-/
import Derived.Test.YthaleckfgcgegaaEvS19
namespace Go.Ev

noncomputable section

def eqF (a b : AV) : Bool := match a with
  | .bool x => (match b with | .bool y => (bif x then y else !y) | _ => false)
  | .int k m => (match b with | .int l n => decide (k = l) && decide (m = n) | _ => false)
  | .nilp => (match b with | .nilp => true | _ => false)
  | .nils => (match b with | .nils => true | _ => false)
  | .nilm => (match b with | .nilm => true | _ => false)
  | .nilf => (match b with | .nilf => true | _ => false)
  | .nili => (match b with | .nili => true | _ => false)
  | _ => false

theorem eqF_spec {a b : AV} (h : eqF a b = true) : a = b ∧ flat1 a = true := by
  cases a <;> cases b <;> first
    | (cases h; done)
    | exact ⟨rfl, rfl⟩
    | skip
  · rename_i x y; cases x <;> cases y <;> first | exact ⟨rfl, rfl⟩ | cases h
  · rename_i k m l n
    have h' : (decide (k = l) && decide (m = n)) = true := h
    rw [Bool.and_eq_true] at h'
    obtain ⟨h1, h2⟩ := h'
    have h1 := of_decide_eq_true h1
    have h2 := of_decide_eq_true h2
    subst h1 h2
    exact ⟨rfl, rfl⟩

def eqFL : List AV → List AV → Bool
  | [], [] => true
  | a :: as, b :: bs => eqF a b && eqFL as bs
  | _, _ => false

theorem eqFL_spec : ∀ {as bs : List AV}, eqFL as bs = true → as = bs ∧ ∀ a ∈ as, flat1 a = true
  | [], [], _ => ⟨rfl, fun _ h => by cases h⟩
  | a :: as, b :: bs, h => by
    have h' : (eqF a b && eqFL as bs) = true := h
    rw [Bool.and_eq_true] at h'
    obtain ⟨h1, h2⟩ := eqF_spec h'.1
    obtain ⟨h3, h4⟩ := eqFL_spec h'.2
    subst h1 h3
    exact ⟨rfl, fun x hx => by rcases List.mem_cons.1 hx with rfl | hx; exact h2; exact h4 x hx⟩
  | [], _ :: _, h => by cases h
  | _ :: _, [], h => by cases h

structure Con where
  g : FuncId
  args : List AV
  tb : List (Pos × List AV)
  ret : AV
  news : List (Pos × List AV × TypeId)

def lk (t : Pos) : List (Pos × List AV) → Option (List AV)
  | [] => none
  | (k, c) :: r => bif decide (t = k) then some c else lk t r

def nm (t : Pos) : List (Pos × Pos) → Option Pos
  | [] => none
  | (k, a) :: r => bif decide (t = k) then some a else nm t r

theorem lk_mem {t : Pos} : ∀ {l : List (Pos × List AV)} {c : List AV}, lk t l = some c → (t, c) ∈ l
  | [], _, h => by cases h
  | (k, d) :: r, c, h => by
    unfold lk at h
    by_cases e : t = k
    · rw [decide_eq_true e] at h; cases h; subst e; exact List.mem_cons_self
    · rw [decide_eq_false e] at h; exact List.mem_cons_of_mem _ (lk_mem h)

def smallObjs (tb : List (Pos × List AV)) : T (Nat × AO) := tb.foldr (fun x t => T.set (0, .ro (M.get (mkCells x.2))) x.1 t) (deads 64)
def smallH (tb : List (Pos × List AV)) : H := { objs := smallObjs tb, next := posN 128, clock := 1, w := 1 }

theorem small_get {id : Pos} : ∀ (tb : List (Pos × List AV)), T.get id (smallObjs tb) = match lk id tb with | some c => some (0, .ro (M.get (mkCells c))) | none => T.get id (deads 64)
  | [] => rfl
  | (k, c) :: r => by
    have e : smallObjs ((k, c) :: r) = T.set (0, .ro (M.get (mkCells c))) k (smallObjs r) := rfl
    rw [e]
    unfold lk
    by_cases h : id = k
    · subst h; rw [T.get_set_same, decide_eq_true rfl]; rfl
    · rw [T.get_set_ne _ _ _ _ h, decide_eq_false h]; exact small_get r

/-- An argument's pattern met. -/
def eqCap (a b : Option Nat) : Bool := match a with
  | none => match b with | none => true | some _ => false
  | some x => match b with | some y => Nat.beq x y | none => false

def fit1 (s : List (Pos × Pos)) (t a : AV) : Bool := match t with
  | .sl tid off len cap esz => (match a with
    | .sl id off2 len2 cap2 esz2 => (match nm tid s with | some id2 => decide (id2 = id) | none => false) && Nat.beq off off2 && Nat.beq len len2 && eqCap cap cap2 && Nat.beq esz esz2
    | _ => false)
  | t => eqF t a

def fitL (s : List (Pos × Pos)) : List AV → List AV → Bool
  | [], [] => true
  | t :: ts, a :: as => fit1 s t a && fitL s ts as
  | _, _ => false

def fit (s : List (Pos × Pos)) (t a : AV) : Bool := match t with
  | .agg ts => (match a with | .agg as => fitL s ts as | _ => false)
  | t => fit1 s t a

def fits (s : List (Pos × Pos)) : List AV → List AV → Bool
  | [], [] => true
  | t :: ts, a :: as => fit s t a && fits s ts as
  | _, _ => false

/-- Which name is which. -/
def pair1 (t a : AV) (s : List (Pos × Pos)) : List (Pos × Pos) := match t with
  | .sl tid _ _ _ _ => (match a with | .sl id _ _ _ _ => (tid, id) :: s | _ => s)
  | _ => s
def pairL : List AV → List AV → List (Pos × Pos)
  | t :: ts, a :: as => pair1 t a (pairL ts as)
  | _, _ => []
def pairs : List AV → List AV → List (Pos × Pos)
  | t :: ts, a :: as => (match t with
    | .agg us => (match a with | .agg vs => pairL us vs ++ pairs ts as | _ => [])
    | t => pair1 t a (pairs ts as))
  | _, _ => []

def holds1 (h : H) (a : Pos) (c : List AV) : Bool := match getObj a h with
  | some o => (match cellsOf o with
    | some m => (match readM m c.length 0 with | some vs => eqFL vs c | none => false)
    | none => false)
  | none => false

def ren1 (s : List (Pos × Pos)) (v : AV) : Option AV := match v with
  | .sl id off len cap esz => (match nm id s with | some a => some (.sl a off len cap esz) | none => none)
  | v => bif flat1 v then some v else none
def renL (s : List (Pos × Pos)) : List AV → Option (List AV)
  | [] => some []
  | v :: vs => match ren1 s v with
    | some u => (match renL s vs with | some us => some (u :: us) | none => none)
    | none => none
def ren (s : List (Pos × Pos)) (v : AV) : Option AV := match v with
  | .tup vs => (match renL s vs with | some us => some (.tup us) | none => none)
  | v => ren1 s v

def adopt : List (Pos × List AV × TypeId) → H → Option (List (Pos × Pos) × H)
  | [], h => some ([], h)
  | (t, c, e) :: r, h => match newObj (.cells (mkCells c) e) h with
    | some (id, h1) => (match adopt r h1 with | some (s, h2) => some ((t, id) :: s, h2) | none => none)
    | none => none

def apartB (tb : List (Pos × List AV)) (s : List (Pos × Pos)) : Bool := tb.all fun x => tb.all fun y => decide (x.1 = y.1) || !decide (nm x.1 s = nm y.1 s)
def heldB (tb : List (Pos × List AV)) (s : List (Pos × Pos)) (h : H) : Bool := tb.all fun x => match nm x.1 s with | some a => holds1 h a x.2 | none => false

def knownB (tb : List (Pos × List AV)) (s : List (Pos × Pos)) : Bool := s.all fun x => match lk x.1 tb with | some _ => true | none => false

/-- Block 0 has its own name, if the contract speaks of it. -/
def names0 (tb : List (Pos × List AV)) (l : List (Pos × Pos)) : List (Pos × Pos) := match lk (posN 0) tb with
  | some _ => (posN 0, posN 0) :: l
  | none => l

def applyCon (c : Con) (args : List AV) (h : H) : RV :=
  let s := names0 c.tb (pairs c.args args)
  bif fits s c.args args && heldB c.tb s h && apartB c.tb s && knownB c.tb s then
    match adopt c.news h with
    | some (n, h') => (match ren n c.ret with | some v => .ok v h' | none => .no)
    | none => .no
  else .no

/-- The same value. -/
def eqV1 (a b : AV) : Bool := match a with
  | .sl id off len cap esz => (match b with
    | .sl id2 off2 len2 cap2 esz2 => decide (id = id2) && Nat.beq off off2 && Nat.beq len len2 && decide (cap = cap2) && Nat.beq esz esz2
    | _ => false)
  | a => eqF a b
def eqVL : List AV → List AV → Bool
  | [], [] => true
  | a :: as, b :: bs => eqV1 a b && eqVL as bs
  | _, _ => false
def eqV (a b : AV) : Bool := match a with
  | .tup as => (match b with | .tup bs => eqVL as bs | _ => false)
  | a => eqV1 a b

theorem eqV1_spec {a b : AV} (h : eqV1 a b = true) : a = b := by
  cases a with
  | sl id off len cap esz =>
    cases b with
    | sl id2 off2 len2 cap2 esz2 =>
      have h' : (decide (id = id2) && Nat.beq off off2 && Nat.beq len len2 && decide (cap = cap2) && Nat.beq esz esz2) = true := h
      simp only [Bool.and_eq_true] at h'
      obtain ⟨⟨⟨⟨h1, h2⟩, h3⟩, h4⟩, h5⟩ := h'
      rw [of_decide_eq_true h1, Nat.eq_of_beq_eq_true h2, Nat.eq_of_beq_eq_true h3, of_decide_eq_true h4, Nat.eq_of_beq_eq_true h5]
    | _ => cases h
  | _ => refine And.left (eqF_spec (b := b) ?_); exact h
theorem eqVL_spec : ∀ {as bs : List AV}, eqVL as bs = true → as = bs
  | [], [], _ => rfl
  | a :: as, b :: bs, h => by
    have h' : (eqV1 a b && eqVL as bs) = true := h
    rw [Bool.and_eq_true] at h'
    rw [eqV1_spec h'.1, eqVL_spec h'.2]
  | [], _ :: _, h => by cases h
  | _ :: _, [], h => by cases h
theorem eqV_spec {a b : AV} (h : eqV a b = true) : a = b := by
  cases a with
  | tup as => cases b with
    | tup bs => rw [eqVL_spec (h : eqVL as bs = true)]
    | _ => cases h
  | _ => exact eqV1_spec h

def newB (tb : List (Pos × List AV)) (h' : H) (x : Pos × List AV × TypeId) : Bool := match getObj x.1 h' with
  | some o => (match cellsE o with
    | some (m, e) => decide (e = x.2.2) && (match readM m.get x.2.1.length 0 with | some vs => eqFL vs x.2.1 | none => false)
    | none => false)
  | none => false

def farB (n : Nat) (p : Pos) : Bool := match n with
  | 0 => true
  | n + 1 => !decide (p = posN n) && farB n p

def occ1 (p : Pos) (v : AV) : Bool := match v with
  | .sl id _ _ _ _ => decide (id = p)
  | _ => false
def occL (p : Pos) : List AV → Bool
  | [] => false
  | v :: vs => occ1 p v || occL p vs
def occB (p : Pos) (v : AV) : Bool := match v with
  | .tup vs => occL p vs
  | v => occ1 p v

/-- A small run is as the contract says. -/
def chk (c : Con) (r : RV) : Bool := match r with
  | .ok v h' => eqV v c.ret && Nat.ble 1 h'.w && (c.news.all fun x => newB c.tb h' x && occB x.1 c.ret && (match lk x.1 c.tb with | none => farB 64 x.1 | some _ => false)) && decide (c.news.map (·.1)).Nodup && (c.tb.all fun x => decide (x.1 = posN 0) || farB 64 x.1)
  | .no => false

end

end Go.Ev
