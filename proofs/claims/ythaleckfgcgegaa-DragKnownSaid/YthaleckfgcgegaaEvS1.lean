/-
  THE EVALUATOR'S SOUNDNESS, 1: trees and rows; how abstract values and memory stand for the model's.
-/
import Derived.Test.YthaleckfgcgegaaEvA
import Derived.Laws.Sem
import Derived.Laws.Entries
namespace Go.Ev

theorem T.get_set_same {α : Type} (a : α) (p : Pos) : ∀ t : T α, T.get p (T.set a p t) = some a := by
  induction p with
  | e => intro t; cases t <;> rfl
  | o p ih => intro t; cases t with
    | nil => exact ih .nil
    | node v l r => exact ih l
  | i p ih => intro t; cases t with
    | nil => exact ih .nil
    | node v l r => exact ih r

theorem T.get_nil {α : Type} (q : Pos) : T.get q (T.nil : T α) = none := by cases q <;> rfl

theorem T.get_set_ne {α : Type} (a : α) (p : Pos) : ∀ (q : Pos) (t : T α), q ≠ p → T.get q (T.set a p t) = T.get q t := by
  induction p with
  | e => intro q t h; cases q with
    | e => exact absurd rfl h
    | o q => cases t with
      | nil => exact T.get_nil q
      | node v l r => rfl
    | i q => cases t with
      | nil => exact T.get_nil q
      | node v l r => rfl
  | o p ih => intro q t h; cases q with
    | e => cases t <;> rfl
    | o q =>
      have hq : q ≠ p := fun e => h (by rw [e])
      cases t with
      | nil => exact (ih q .nil hq).trans (T.get_nil q)
      | node v l r => exact ih q l hq
    | i q => cases t with
      | nil => exact T.get_nil q
      | node v l r => rfl
  | i p ih => intro q t h; cases q with
    | e => cases t <;> rfl
    | i q =>
      have hq : q ≠ p := fun e => h (by rw [e])
      cases t with
      | nil => exact (ih q .nil hq).trans (T.get_nil q)
      | node v l r => exact ih q r hq
    | o q => cases t with
      | nil => exact T.get_nil q
      | node v l r => rfl

theorem lget_eq {α : Type} (l : List α) : ∀ k, lget l k = l[k]? := by
  induction l with
  | nil => intro k; rfl
  | cons a l ih => intro k; cases k with
    | zero => rfl
    | succ k => exact (ih k).trans (by simp)

theorem lset_eq {α : Type} (a : α) (l : List α) : ∀ k, lset a l k = if k < l.length then some (l.set k a) else none := by
  induction l with
  | nil => intro k; rfl
  | cons b l ih => intro k; cases k with
    | zero => rfl
    | succ k =>
      have e : lset a (b :: l) (k + 1) = Option.rec (motive := fun _ => Option (List α)) none (fun l' => some (b :: l')) (lset a l k) := rfl
      rw [e, ih k]
      by_cases h : k < l.length <;> simp [h]

theorem M.get_eq {α : Type} (m : M α) (k : Nat) : m.get k = (m[k / 8]?).bind fun row => row[k % 8]? := by
  unfold M.get
  rw [lget_eq]
  show (match m[k / 8]? with | some row => lget row (k % 8) | none => none) = _
  cases m[k / 8]? with
  | none => rfl
  | some row => exact lget_eq row _

theorem M.set_some {α : Type} {m m' : M α} {k : Nat} {a : α} (h : m.set k a = some m') :
    m'.get k = some a ∧ (∀ j, j ≠ k → m'.get j = m.get j) ∧ ∃ b, m.get k = some b := by
  unfold M.set at h
  rw [lget_eq] at h
  change (match m[k / 8]? with | some row => (match lset a row (k % 8) with | some row => lset row m (k / 8) | none => none) | none => none) = some m' at h
  cases hr : m[k / 8]? with
  | none => rw [hr] at h; cases h
  | some row =>
    rw [hr] at h
    dsimp only at h
    rw [lset_eq] at h
    by_cases hk : k % 8 < row.length
    · rw [if_pos hk] at h
      dsimp only at h
      rw [lset_eq] at h
      by_cases hm : k / 8 < m.length
      · rw [if_pos hm] at h
        cases h
        refine ⟨?_, ?_, ?_⟩
        · rw [M.get_eq]; simp [hm, hk]
        · intro j hj
          rw [M.get_eq, M.get_eq]
          by_cases e : j / 8 = k / 8
          · have hne : j % 8 ≠ k % 8 := fun e' => hj (by omega)
            rw [e, hr]
            simp [hm, List.getElem?_set_ne (Ne.symm hne)]
          · rw [List.getElem?_set_ne (Ne.symm e)]
        · refine ⟨row[k % 8], ?_⟩
          rw [M.get_eq, hr]
          simp [hk]
      · rw [if_neg hm] at h; cases h
    · rw [if_neg hk] at h; cases h

/-- How abstract blocks stand for blocks: none: no such block yet; some none: dead; some (some (b, n)): block b, of n cells. -/
abbrev R := Pos → Option (Option (Nat × Nat))

mutual
inductive VR (ρ : R) : AV → Value → Prop
  | bool (b : Bool) : VR ρ (.bool b) (.bool b)
  | int (k : IntKind) (n : Int) : VR ρ (.int k n) (.int k n)
  | str (s : ByteArray) : VR ρ (.str s) (.string s)
  | ptr (id : Pos) (off b : Nat) (x : Option (Nat × Nat)) : ρ id = some x → (∀ c n, x = some (c, n) → c = b) → VR ρ (.ptr id off) (.pointer (some ⟨b, off, none⟩))
  | nilp : VR ρ .nilp (.pointer none)
  | sl (id : Pos) (off len : Nat) (cap : Option Nat) (esz b cap' : Nat) (x : Option (Nat × Nat)) : ρ id = some x → (∀ c n, x = some (c, n) → c = b ∧ (cap = none → off + cap' * esz ≤ n)) →
      (∀ c, cap = some c → cap' = c) → len ≤ cap' → VR ρ (.sl id off len cap esz) (.slice (some ⟨b, off, none⟩) len cap')
  | sle (id : Pos) (off esz : Nat) (a : Addr) : ρ id = some none → VR ρ (.sl id off 0 (some 0) esz) (.slice (some a) 0 0)
  | slu (id : Pos) (off esz c : Nat) (a : Addr) (x : Option (Nat × Nat)) : ρ id = some x → off ≠ 0 → VR ρ (.sl id off 0 none esz) (.slice (some a) 0 c)
  | nils : VR ρ .nils (.slice none 0 0)
  | map (id : Pos) (b : Nat) (x : Option (Nat × Nat)) : ρ id = some x → (∀ c n, x = some (c, n) → c = b) → VR ρ (.map id) (.map (some b))
  | nilm : VR ρ .nilm (.map none)
  | fn (f : FuncId) (a c : List AV) (a' c' : Array Value) : VL ρ a a'.toList → VL ρ c c'.toList → VR ρ (.fn f a c) (.func (.func f) a' c')
  | yld (id : Pos) (b : Nat) (x : Option (Nat × Nat)) : ρ id = some x → (∀ c n, x = some (c, n) → c = b) → VR ρ (.yld id) (.func (.yield b) #[] #[])
  | nilf : VR ρ .nilf .nilFunc
  | iface (t : TypeId) (v : AV) (v' : Value) : VR ρ v v' → VR ρ (.iface t v) (.iface t v')
  | nili : VR ρ .nili .nilIface
  | agg (cs : List AV) (cs' : Array Value) : VL ρ cs cs'.toList → VR ρ (.agg cs) (.agg cs')
  | tup (cs : List AV) (cs' : Array Value) : VL ρ cs cs'.toList → VR ρ (.tup cs) (.tuple cs')
inductive VL (ρ : R) : List AV → List Value → Prop
  | nil : VL ρ [] []
  | cons (v : AV) (vs : List AV) (v' : Value) (vs' : List Value) : VR ρ v v' → VL ρ vs vs' → VL ρ (v :: vs) (v' :: vs')
end

/-- Later: what is known stays, or dies. -/
def R.le (ρ ρ' : R) : Prop := ∀ id x, ρ id = some x → ρ' id = some x ∨ ρ' id = some none

theorem R.le_refl (ρ : R) : R.le ρ ρ := fun _ _ h => .inl h
theorem R.le_trans {a b c : R} (h : R.le a b) (k : R.le b c) : R.le a c := fun id x hx => by
  rcases h id x hx with h1 | h1
  · exact k id x h1
  · rcases k id none h1 with h2 | h2 <;> exact .inr h2

theorem up1 {ρ ρ' : R} (h : R.le ρ ρ') {id : Pos} {x : Option (Nat × Nat)} (hx : ρ id = some x) {p : Nat → Nat → Prop} (hp : ∀ c n, x = some (c, n) → p c n) :
    ∃ y, ρ' id = some y ∧ ∀ c n, y = some (c, n) → p c n := by
  rcases h id x hx with h1 | h1
  · exact ⟨x, h1, hp⟩
  · exact ⟨none, h1, fun _ _ e => by cases e⟩

mutual
theorem VR.up {ρ ρ' : R} (h : R.le ρ ρ') : ∀ {v : AV} {v' : Value}, VR ρ v v' → VR ρ' v v'
  | _, _, .bool b => .bool b
  | _, _, .int k n => .int k n
  | _, _, .str s => .str s
  | _, _, .ptr id off b x hx hp => let ⟨y, hy, hq⟩ := up1 (p := fun c _ => c = b) h hx hp; .ptr id off b y hy hq
  | _, _, .nilp => .nilp
  | _, _, .sl id off len cap esz b cap' x hx hp hc hl => let ⟨y, hy, hq⟩ := up1 (p := fun c n => c = b ∧ (cap = none → off + cap' * esz ≤ n)) h hx hp; .sl id off len cap esz b cap' y hy hq hc hl
  | _, _, .sle id off esz a hx => .sle id off esz a (by rcases h id none hx with h1 | h1 <;> exact h1)
  | _, _, .slu id off esz c a x hx h0 => let ⟨y, hy, _⟩ := up1 (p := fun _ _ => True) h hx (fun _ _ _ => trivial); .slu id off esz c a y hy h0
  | _, _, .nils => .nils
  | _, _, .map id b x hx hp => let ⟨y, hy, hq⟩ := up1 (p := fun c _ => c = b) h hx hp; .map id b y hy hq
  | _, _, .nilm => .nilm
  | _, _, .fn f a c a' c' ha hc => .fn f a c a' c' (VL.up h ha) (VL.up h hc)
  | _, _, .yld id b x hx hp => let ⟨y, hy, hq⟩ := up1 (p := fun c _ => c = b) h hx hp; .yld id b y hy hq
  | _, _, .nilf => .nilf
  | _, _, .iface t v v' hv => .iface t v v' (VR.up h hv)
  | _, _, .nili => .nili
  | _, _, .agg cs cs' hc => .agg cs cs' (VL.up h hc)
  | _, _, .tup cs cs' hc => .tup cs cs' (VL.up h hc)
theorem VL.up {ρ ρ' : R} (h : R.le ρ ρ') : ∀ {v : List AV} {v' : List Value}, VL ρ v v' → VL ρ' v v'
  | _, _, .nil => .nil
  | _, _, .cons v vs v' vs' hv hvs => .cons v vs v' vs' (VR.up h hv) (VL.up h hvs)
end

end Go.Ev
