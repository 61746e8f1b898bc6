/- The statement FairTilted of layer 1: lines that are tilted, read from the end or mirrored change and bend as often, and the fairest lines cost as much, the tilted one being tilted likewise, for all spots, both numbers and lines by numbers; the package's table of costs is as the text lays it. -/
import Derived.Test.YtkmdidplmfdikaaDoorM6
import Derived.Test.YtkmdidplmfdikaaDoorChecked
import Derived.Eval
import Derived.KernelRfl
import Derived.Test.YtkmdidplmfdikaaDoorCards
import Derived.Test.YtkmdidplmfdikaaDoorTie
import Derived.WalkKit
import Derived.ProofKit
import Derived.OpenShut
import Derived.Deep.DeepHandedRow
import Derived.Lib.LaidTab
set_option linter.all false
/- EvL28 -/
section
/-
  TABLES OF WHAT LIES WHERE: each key's object has a place of its own among the new ones.
-/
namespace Go.Ev
abbrev KT := Nat → Option (Nat × AO)
def kt (T : KT) (k : Nat) (x : Option (Nat × AO)) : KT := fun i => if i = k then x else T i
theorem kt_apply {T : KT} {k : Nat} {x : Option (Nat × AO)} {i : Nat} : kt T k x i = if i = k then x else T i := rfl
structure Held (L : List AO) (T : KT) : Prop where
  at' : ∀ k p ob, T k = some (p, ob) → L[p]? = some ob
  inj : ∀ k k' p ob ob', T k = some (p, ob) → T k' = some (p, ob') → k = k'
section
variable {P : Program} {L : List AO} {T : KT}
theorem Held.get (x : Held L T) {k p : Nat} {ob : AO} (h : T k = some (p, ob)) : L[p]? = some ob := x.at' _ _ _ h
theorem Held.lt (x : Held L T) {k p : Nat} {ob : AO} (h : T k = some (p, ob)) : p < L.length := (List.getElem?_eq_some_iff.1 (x.get h)).1
theorem Held.push (x : Held L T) (M : List AO) : Held (L ++ M) T :=
  ⟨fun k p ob h => by rw [List.getElem?_append_left (x.lt h)]; exact x.get h, x.inj⟩
theorem Held.gets (x : Held L T) {k p : Nat} {ob : AO} (h : T k = some (p, ob)) (M : List AO) : (L ++ M)[p]? = some ob := (x.push M).get h
theorem Held.new (x : Held L T) (k : Nat) (ob : AO) (M : List AO) : Held (L ++ ob :: M) (kt T k (some (L.length, ob))) := by
  refine ⟨fun i p o h => ?_, fun i j p o o' h h' => ?_⟩
  · rw [kt_apply] at h
    by_cases hi : i = k
    · rw [if_pos hi] at h; cases h; exact app_len0
    · rw [if_neg hi] at h; exact (x.push _).get h
  · rw [kt_apply] at h h'
    by_cases hi : i = k
    · by_cases hj : j = k
      · rw [hi, hj]
      · rw [if_pos hi] at h; rw [if_neg hj] at h'; cases h; exact absurd (x.lt h') (Nat.lt_irrefl _)
    · by_cases hj : j = k
      · rw [if_neg hi] at h; rw [if_pos hj] at h'; cases h'; exact absurd (x.lt h) (Nat.lt_irrefl _)
      · rw [if_neg hi] at h; rw [if_neg hj] at h'; exact x.inj _ _ _ _ _ h h'
theorem Held.set (x : Held L T) {k p : Nat} {ob : AO} (hk : T k = some (p, ob)) (ob' : AO) : Held (L.set p ob') (kt T k (some (p, ob'))) := by
  refine ⟨fun i q o h => ?_, fun i j q o o' h h' => ?_⟩
  · rw [kt_apply] at h
    by_cases hi : i = k
    · rw [if_pos hi] at h; cases h
      rw [List.getElem?_set_self (x.lt hk)]
    · rw [if_neg hi] at h
      rw [List.getElem?_set_ne (fun e => hi (by subst e; exact x.inj _ _ _ _ _ h hk))]
      exact x.get h
  · rw [kt_apply] at h h'
    by_cases hi : i = k
    · by_cases hj : j = k
      · rw [hi, hj]
      · rw [if_pos hi] at h; rw [if_neg hj] at h'; cases h; exact absurd (x.inj _ _ _ _ _ h' hk) hj
    · by_cases hj : j = k
      · rw [if_neg hi] at h; rw [if_pos hj] at h'; cases h'; exact absurd (x.inj _ _ _ _ _ h hk) hi
      · rw [if_neg hi] at h; rw [if_neg hj] at h'; exact x.inj _ _ _ _ _ h h'
theorem Held.drop (x : Held L T) (k : Nat) : Held L (kt T k none) := by
  refine ⟨fun i p o h => ?_, fun i j p o o' h h' => ?_⟩
  · rw [kt_apply] at h
    by_cases hi : i = k
    · rw [if_pos hi] at h; cases h
    · rw [if_neg hi] at h; exact x.get h
  · rw [kt_apply] at h h'
    by_cases hi : i = k
    · rw [if_pos hi] at h; cases h
    · by_cases hj : j = k
      · rw [if_pos hj] at h'; cases h'
      · rw [if_neg hi] at h; rw [if_neg hj] at h'; exact x.inj _ _ _ _ _ h h'
theorem Held.empty (L : List AO) : Held L (fun _ => none) := ⟨fun _ _ _ h => (by cases h), fun _ _ _ _ _ h _ => (by cases h)⟩

/-- A slice that grows by append: what is at its key. -/
def SlK (h : H) (T : KT) (k : Nat) (v : AV) (sz e len : Nat) (cs : List AV) : Prop :=
  cs.length = len * sz ∧ ((len = 0 ∧ v = .nils ∧ T k = none) ∨ ∃ idx, v = .sl (nx h idx) 0 len none sz ∧ T k = some (idx, .cells (mkCells cs) e))
theorem SlK.nil (h : H) (T : KT) (k sz e : Nat) (hk : T k = none) : SlK h T k .nils sz e 0 [] := ⟨by simp, .inl ⟨rfl, rfl, hk⟩⟩
theorem SlK.keep {h : H} {T T' : KT} {k sz e len : Nat} {v : AV} {cs : List AV} (x : SlK h T k v sz e len cs) (e' : T' k = T k) : SlK h T' k v sz e len cs := by
  unfold SlK at *; rw [e']; exact x
theorem SlK.sl {h : H} (wf : Wf h) {k sz e len : Nat} {v : AV} {cs : List AV} (x : SlK h T k v sz e len cs) (hh : Held L T) (w : Nat) : Sl (X h L w) v sz len cs := by
  obtain ⟨hl, ⟨rfl, rfl, _⟩ | ⟨idx, rfl, hk⟩⟩ := x
  · have : cs = [] := List.length_eq_zero_iff.1 (by simpa using hl)
    subst this; exact Sl.nil _ _
  · exact Sl.new wf hl (hh.get hk)
theorem SlK.resz {h : H} {k sz e len : Nat} {v : AV} {cs : List AV} (x : SlK h T k v sz e len cs) (t : TypeId) : reszT P t v = v := by
  obtain ⟨hl, ⟨rfl, rfl, _⟩ | ⟨idx, rfl, hk⟩⟩ := x
  · exact reszT_nils
  · exact reszT_none
theorem SlK.flat {h : H} {k sz e len : Nat} {v : AV} {cs : List AV} (x : SlK h T k v sz e len cs) : AV.cells v = [v] ∧ oneB v = true := by
  obtain ⟨hl, ⟨rfl, rfl, _⟩ | ⟨idx, rfl, hk⟩⟩ := x <;> exact ⟨rfl, rfl⟩
theorem SlK.capu {h : H} {k sz e len : Nat} {v : AV} {cs : List AV} (x : SlK h T k v sz e len cs) (hm : len ≠ 0) : ∃ idx, v = .sl (nx h idx) 0 len none sz ∧ T k = some (idx, .cells (mkCells cs) e) := by
  obtain ⟨hl, ⟨rfl, rfl, _⟩ | h⟩ := x
  · exact absurd rfl hm
  · exact h
/-- One element more. -/
theorem SlK.app {h : H} (wf : Wf h) {k sz e len bytes : Nat} {z v : AV} {cs : List AV} (x : SlK h T k v sz e len cs) (hh : Held L T) {t : TypeId} (hu : P.underlying t = some (.slice e)) (hz : sizeE P e = some sz) (E : El P e sz bytes z)
    {new : List AV} (hn : len + 1 ≤ 10000000) (hb : bytes ≤ 100000) (hc : new.length = sz) (ho : allOne new = true) (c : Nat) (w : Nat) (hw : h.clock ≤ w) :
    ∃ v' L' w', SlK h (kt T k (some (L.length + 1, .cells (mkCells (cs ++ new)) e))) k v' sz e (len + 1) (cs ++ new) ∧ Held L' (kt T k (some (L.length + 1, .cells (mkCells (cs ++ new)) e))) ∧ L'.length = L.length + 2 ∧ h.clock ≤ w' ∧ w' ≤ w ∧
      appendE P t v (.sl (nx h L.length) 0 1 (some c) sz) (X h (L ++ [.cells (mkCells new) e]) w) = .ok v' (X h L' w') := by
  have sa : SlAt h L v sz e len cs ((T k).map (·.1)) := by
    obtain ⟨hl, ⟨rfl, rfl, hk⟩ | ⟨idx, rfl, hk⟩⟩ := x
    · rw [hk]; exact ⟨hl, rfl, rfl⟩
    · rw [hk]; exact ⟨hl, rfl, hh.get hk⟩
  obtain ⟨v', G', w', s', hl', keep, h1, h2, happ⟩ := sa.app (P := P) wf hu hz E hn hb hc ho c w hw
  refine ⟨v', G', w', ⟨s'.1, .inr ⟨_, s'.2.1, by rw [kt_apply, if_pos rfl]⟩⟩, ⟨fun i p o hi => ?_, fun i j p o o' hi hj => ?_⟩, hl', h1, h2, happ⟩
  · rw [kt_apply] at hi
    by_cases hik : i = k
    · rw [if_pos hik] at hi; cases hi; exact s'.2.2
    · rw [if_neg hik] at hi
      refine keep p o (fun he => ?_) (hh.get hi)
      cases hk : T k with
      | none => rw [hk] at he; cases he
      | some q =>
        obtain ⟨q, o2⟩ := q
        rw [hk] at he
        have : q = p := by simpa using he
        subst this
        exact hik (hh.inj _ _ _ _ _ hi hk)
  · rw [kt_apply] at hi hj
    by_cases hik : i = k
    · by_cases hjk : j = k
      · rw [hik, hjk]
      · rw [if_pos hik] at hi; rw [if_neg hjk] at hj; cases hi
        have := hh.lt hj
        omega
    · by_cases hjk : j = k
      · rw [if_neg hik] at hi; rw [if_pos hjk] at hj; cases hj
        have := hh.lt hi
        omega
      · rw [if_neg hik] at hi; rw [if_neg hjk] at hj; exact hh.inj _ _ _ _ _ hi hj
end
end Go.Ev
namespace Go.Ev
theorem Held.add {L : List AO} {T : KT} (x : Held L T) (k p : Nat) (ob : AO) (h : L[p]? = some ob) (hn : ∀ i o, T i ≠ some (p, o)) : Held L (kt T k (some (p, ob))) := by
  refine ⟨fun i q o hi => ?_, fun i j q o o' hi hj => ?_⟩
  · rw [kt_apply] at hi
    by_cases hk : i = k
    · rw [if_pos hk] at hi; cases hi; exact h
    · rw [if_neg hk] at hi; exact x.get hi
  · rw [kt_apply] at hi hj
    by_cases hik : i = k
    · by_cases hjk : j = k
      · rw [hik, hjk]
      · rw [if_pos hik] at hi; rw [if_neg hjk] at hj; cases hi; exact absurd hj (hn _ _)
    · by_cases hjk : j = k
      · rw [if_neg hik] at hi; rw [if_pos hjk] at hj; cases hj; exact absurd hi (hn _ _)
      · rw [if_neg hik] at hi; rw [if_neg hjk] at hj; exact x.inj _ _ _ _ _ hi hj
theorem kt_ne {T : KT} {k i : Nat} {x : Option (Nat × AO)} (h : i ≠ k) : kt T k x i = T i := by rw [kt_apply, if_neg h]
end Go.Ev
end

/- EvFr -/
section
/-
  FAIR LINES, ON LISTS: read from the end, mirrored, tilted.
-/
namespace Go.Ev
def chs : Int → List Int → Int
  | _, [] => 0
  | s, d :: ds => chgI s d + chs (nsg s d) ds
def lsg : Int → List Int → Int
  | s, [] => s
  | s, d :: ds => lsg (nsg s d) ds
def fsg : List Int → Int
  | [] => 0
  | d :: ds => if d = 0 then fsg ds else nsg 0 d
theorem nsg_zero (s : Int) : nsg s 0 = s := by unfold nsg; rfl
theorem nsg_ne (s : Int) {d : Int} (h : d ≠ 0) : nsg s d = nsg 0 d := by
  unfold nsg
  split
  · rfl
  · split
    · rfl
    · omega
theorem nsg_pos {d : Int} (h : d ≠ 0) : nsg 0 d = 1 ∨ nsg 0 d = 2 := by
  unfold nsg
  split
  · exact .inl rfl
  · split
    · exact .inr rfl
    · omega
theorem chgI_zero (s : Int) : chgI s 0 = 0 := by unfold chgI; rw [nsg_zero, if_neg (by omega)]
theorem chgI_from (d : Int) : chgI 0 d = 0 := by unfold chgI; rw [if_neg (by omega)]
def jn (s f : Int) : Int := if s ≠ 0 ∧ f ≠ 0 ∧ s ≠ f then 1 else 0
theorem chs_start : ∀ (ds : List Int) (s : Int), chs s ds = chs 0 ds + jn s (fsg ds)
  | [], s => by show (0 : Int) = 0 + jn s 0; unfold jn; rw [if_neg (by omega)]; rfl
  | d :: ds, s => by
    by_cases h : d = 0
    · subst h
      show chgI s 0 + chs (nsg s 0) ds = chgI 0 0 + chs (nsg 0 0) ds + jn s (fsg ds)
      rw [nsg_zero, nsg_zero, chgI_zero, chgI_zero]
      have := chs_start ds s
      omega
    · show chgI s d + chs (nsg s d) ds = chgI 0 d + chs (nsg 0 d) ds + jn s (if d = 0 then fsg ds else nsg 0 d)
      have e : chgI s d = jn s (nsg 0 d) := by
        unfold chgI jn
        rw [nsg_ne s h]
        have := nsg_pos h
        by_cases hs : s ≠ 0 ∧ s ≠ nsg 0 d
        · rw [if_pos hs, if_pos ⟨hs.1, by omega, hs.2⟩]
        · rw [if_neg hs, if_neg (by omega)]
      rw [if_neg h, nsg_ne s h, chgI_from, e]
      omega
theorem chs_app : ∀ (p : List Int) (s d : Int), chs s (p ++ [d]) = chs s p + chgI (lsg s p) d
  | [], s, d => by show chgI s d + 0 = 0 + chgI s d; omega
  | x :: p, s, d => by
    show chgI s x + chs (nsg s x) (p ++ [d]) = chgI s x + chs (nsg s x) p + chgI (lsg (nsg s x) p) d
    rw [chs_app p]
    omega
theorem lsg_app : ∀ (p : List Int) (s d : Int), lsg s (p ++ [d]) = nsg (lsg s p) d
  | [], _, _ => rfl
  | x :: p, s, d => lsg_app p (nsg s x) d
theorem lsg_rev : ∀ ds : List Int, lsg 0 ds.reverse = fsg ds
  | [] => rfl
  | d :: ds => by
    rw [List.reverse_cons, lsg_app, lsg_rev ds]
    show _ = if d = 0 then fsg ds else nsg 0 d
    by_cases h : d = 0
    · rw [if_pos h, h, nsg_zero]
    · rw [if_neg h, nsg_ne _ h]
theorem chs_rev : ∀ ds : List Int, chs 0 ds.reverse = chs 0 ds
  | [] => rfl
  | d :: ds => by
    rw [List.reverse_cons, chs_app, lsg_rev, chs_rev ds]
    show _ = chgI 0 d + chs (nsg 0 d) ds
    rw [chs_start ds (nsg 0 d), chgI_from]
    have e : chgI (fsg ds) d = jn (nsg 0 d) (fsg ds) := by
      by_cases h : d = 0
      · subst h
        rw [chgI_zero, nsg_zero]; unfold jn; rw [if_neg (by omega)]
      · unfold chgI jn
        rw [nsg_ne _ h]
        have := nsg_pos h
        by_cases hs : fsg ds ≠ 0 ∧ fsg ds ≠ nsg 0 d
        · rw [if_pos hs, if_pos ⟨by omega, hs.1, by omega⟩]
        · rw [if_neg hs, if_neg (by omega)]
    rw [e]
    omega
/-- The other sign. -/
def sw (s : Int) : Int := if s = 1 then 2 else if s = 2 then 1 else s
theorem sw_nsg (s d : Int) : nsg (sw s) (-d) = sw (nsg s d) := by
  unfold nsg
  by_cases h1 : 0 < d
  · rw [if_neg (by omega), if_pos (by omega), if_pos h1]; rfl
  · by_cases h2 : d < 0
    · rw [if_pos (by omega), if_neg h1, if_pos h2]; rfl
    · rw [if_neg (by omega), if_neg (by omega), if_neg h1, if_neg h2]
theorem sw_inj {s t : Int} (h : sw s = sw t) : s = t := by
  unfold sw at h
  split at h <;> split at h <;> (try split at h) <;> omega
theorem sw_zero {s : Int} : sw s = 0 ↔ s = 0 := by
  unfold sw
  split
  · omega
  · split <;> omega
theorem chs_neg : ∀ (ds : List Int) (s : Int), chs (sw s) (ds.map fun d => -d) = chs s ds
  | [], _ => rfl
  | d :: ds, s => by
    show chgI (sw s) (-d) + chs (nsg (sw s) (-d)) (ds.map fun d => -d) = chgI s d + chs (nsg s d) ds
    rw [sw_nsg, chs_neg ds]
    have e : chgI (sw s) (-d) = chgI s d := by
      unfold chgI
      rw [sw_nsg]
      by_cases h : s ≠ 0 ∧ s ≠ nsg s d
      · rw [if_pos h, if_pos ⟨fun e => h.1 (sw_zero.1 e), fun e => h.2 (sw_inj e)⟩]
      · rw [if_neg h, if_neg (fun k => h ⟨fun e => k.1 (sw_zero.2 e), fun e => k.2 (congrArg sw e)⟩)]
    rw [e]
def absI (d : Int) : Int := max d (0 - d)
def sa : List Int → Int
  | [] => 0
  | d :: ds => absI d + sa ds
theorem sa_app : ∀ p q : List Int, sa (p ++ q) = sa p + sa q
  | [], q => by show sa q = 0 + sa q; omega
  | d :: p, q => by show absI d + sa (p ++ q) = absI d + sa p + sa q; rw [sa_app p q]; omega
theorem sa_rev : ∀ ds : List Int, sa ds.reverse = sa ds
  | [] => rfl
  | d :: ds => by
    rw [List.reverse_cons, sa_app, sa_rev ds]
    show sa ds + (absI d + 0) = absI d + sa ds
    omega
theorem sa_neg : ∀ ds : List Int, sa (ds.map fun d => -d) = sa ds
  | [] => rfl
  | d :: ds => by
    show absI (-d) + sa (ds.map fun d => -d) = absI d + sa ds
    rw [sa_neg ds]
    unfold absI
    omega
/-- Second differences. -/
def sdl : List Int → List Int
  | a :: b :: c :: r => (a - 2 * b + c) :: sdl (b :: c :: r)
  | _ => []
theorem costL_sdl (t : Int) : ∀ (cs : List Int) (a b s : Int), costL (payI t) a b s cs = sa (sdl (a :: b :: cs)) + t * chs s (sdl (a :: b :: cs))
  | [], a, b, s => by show (0 : Int) = 0 + t * 0; omega
  | c :: cs, a, b, s => by
    show payI t a b s c + costL (payI t) b c (nsg s (a - 2 * b + c)) cs = absI (a - 2 * b + c) + sa (sdl (b :: c :: cs)) + t * (chgI s (a - 2 * b + c) + chs (nsg s (a - 2 * b + c)) (sdl (b :: c :: cs)))
    rw [costL_sdl t cs, Int.mul_add]
    unfold payI absI
    omega
theorem Cost_sdl (t : Int) : ∀ l : List Int, Cost (payI t) l = sa (sdl l) + t * chs 0 (sdl l)
  | [] => by show (0 : Int) = 0 + t * 0; omega
  | [_] => by show (0 : Int) = 0 + t * 0; omega
  | a :: b :: cs => costL_sdl t cs a b 0
theorem sdl_app (x y z : Int) : ∀ p : List Int, sdl (p ++ [x, y, z]) = sdl (p ++ [x, y]) ++ [x - 2 * y + z]
  | [] => rfl
  | [a] => rfl
  | [a, b] => rfl
  | a :: b :: c :: p => by
    have := sdl_app x y z (b :: c :: p)
    show (a - 2 * b + c) :: sdl (b :: c :: p ++ [x, y, z]) = (a - 2 * b + c) :: (sdl (b :: c :: p ++ [x, y]) ++ [x - 2 * y + z])
    rw [this]
theorem sdl_rev : ∀ l : List Int, sdl l.reverse = (sdl l).reverse
  | [] => rfl
  | [a] => rfl
  | [a, b] => rfl
  | a :: b :: c :: r => by
    have ih := sdl_rev (b :: c :: r)
    have e1 : (a :: b :: c :: r).reverse = r.reverse ++ [c, b, a] := by simp
    have e2 : (b :: c :: r).reverse = r.reverse ++ [c, b] := by simp
    rw [e1, sdl_app, ← e2, ih]
    show (sdl (b :: c :: r)).reverse ++ [c - 2 * b + a] = ((a - 2 * b + c) :: sdl (b :: c :: r)).reverse
    rw [List.reverse_cons, show c - 2 * b + a = a - 2 * b + c from by omega]
theorem sdl_neg : ∀ l : List Int, sdl (l.map fun d => -d) = (sdl l).map fun d => -d
  | [] => rfl
  | [a] => rfl
  | [a, b] => rfl
  | a :: b :: c :: r => by
    have ih := sdl_neg (b :: c :: r)
    show (-a - 2 * -b + -c) :: sdl ((b :: c :: r).map fun d => -d) = (-(a - 2 * b + c)) :: (sdl (b :: c :: r)).map fun d => -d
    rw [ih, show -a - 2 * -b + -c = -(a - 2 * b + c) from by omega]
/-- A number added to all, and another one times the index. -/
def tiltF (c t : Int) : List Int → List Int
  | [] => []
  | x :: l => (x + c) :: tiltF (c + t) t l
theorem sdl_tilt (t : Int) : ∀ (l : List Int) (c : Int), sdl (tiltF c t l) = sdl l
  | [], _ => rfl
  | [a], _ => rfl
  | [a, b], _ => rfl
  | a :: b :: d :: r, c => by
    have ih := sdl_tilt t (b :: d :: r) (c + t)
    show ((a + c) - 2 * (b + (c + t)) + (d + (c + t + t))) :: sdl (tiltF (c + t) t (b :: d :: r)) = (a - 2 * b + d) :: sdl (b :: d :: r)
    rw [ih, show (a + c) - 2 * (b + (c + t)) + (d + (c + t + t)) = a - 2 * b + d from by omega]
theorem Cost_rev (t : Int) (l : List Int) : Cost (payI t) l.reverse = Cost (payI t) l := by rw [Cost_sdl, Cost_sdl, sdl_rev, sa_rev, chs_rev]
theorem Cost_neg (t : Int) (l : List Int) : Cost (payI t) (l.map fun d => -d) = Cost (payI t) l := by
  rw [Cost_sdl, Cost_sdl, sdl_neg, sa_neg]
  have := chs_neg (sdl l) 0
  rw [show sw 0 = 0 from rfl] at this
  rw [this]
theorem Cost_tilt (t c k : Int) (l : List Int) : Cost (payI t) (tiltF c k l) = Cost (payI t) l := by rw [Cost_sdl, Cost_sdl, sdl_tilt]
end Go.Ev
end

/- EvFs -/
section
/-
  FAIR LINES, ON LISTS: the fairest one of spots that are tilted, reversed, mirrored.
-/
namespace Go.Ev
def tiltR (c t : Int) : List (Int × Int) → List (Int × Int)
  | [] => []
  | r :: R => (r.1 + c, r.2 + c) :: tiltR (c + t) t R
theorem InR.tilt (t : Int) : ∀ {R : List (Int × Int)} {l : List Int} (c : Int), InR R l → InR (tiltR c t R) (tiltF c t l)
  | [], _, _, h => by cases h; rfl
  | r :: R, _, c, ⟨x, l, rfl, h1, h2, h⟩ => ⟨x + c, tiltF (c + t) t l, rfl, by show r.1 + c ≤ x + c; omega, by show x + c ≤ r.2 + c; omega, h.tilt t (c + t)⟩
theorem InR.untilt (t : Int) : ∀ {R : List (Int × Int)} {m : List Int} (c : Int), InR (tiltR c t R) m → ∃ l, m = tiltF c t l ∧ InR R l
  | [], _, _, h => ⟨[], h, rfl⟩
  | r :: R, _, c, ⟨x, l, rfl, h1, h2, h⟩ => by
    obtain ⟨l', e, hl⟩ := InR.untilt t (c + t) h
    have h1' : r.1 + c ≤ x := h1
    have h2' : x ≤ r.2 + c := h2
    exact ⟨(x - c) :: l', by rw [e]; show x :: _ = (x - c + c) :: _; rw [show x - c + c = x from by omega], x - c, l', rfl, by omega, by omega, hl⟩
theorem Bef.untilt (t : Int) : ∀ {l m : List Int} (c : Int), Bef (tiltF c t l) (tiltF c t m) → Bef l m
  | [], _, _, h => by cases h
  | _ :: _, [], _, h => by cases h
  | a :: l, b :: m, c, h => by
    have h' : a + c < b + c ∨ a + c = b + c ∧ Bef (tiltF (c + t) t l) (tiltF (c + t) t m) := h
    rcases h' with h' | ⟨h1, h2⟩
    · exact .inl (by omega)
    · exact .inr ⟨by omega, Bef.untilt t (c + t) h2⟩
theorem Fairest.tilt {u : Int} {R : List (Int × Int)} {l : List Int} {n : Int} (x : Fairest (payI u) R l n) (c t : Int) : Fairest (payI u) (tiltR c t R) (tiltF c t l) n where
  within := x.within.tilt t c
  cost := by rw [Cost_tilt]; exact x.cost
  least m hm := by
    obtain ⟨l', rfl, hl⟩ := InR.untilt t c hm
    rw [Cost_tilt]; exact x.least _ hl
  first m hm hc hb := by
    obtain ⟨l', rfl, hl⟩ := InR.untilt t c hm
    rw [Cost_tilt] at hc
    exact x.first _ hl hc (Bef.untilt t c hb)
theorem InR.app : ∀ {R S : List (Int × Int)} {l m : List Int}, InR R l → InR S m → InR (R ++ S) (l ++ m)
  | [], _, _, _, h, k => by cases h; exact k
  | r :: R, _, _, _, ⟨x, l, e, h1, h2, h⟩, k => by subst e; exact ⟨x, _, rfl, h1, h2, h.app k⟩
theorem InR.rev : ∀ {R : List (Int × Int)} {l : List Int}, InR R l → InR R.reverse l.reverse
  | [], _, h => by cases h; rfl
  | r :: R, _, ⟨x, l, e, h1, h2, h⟩ => by
    subst e
    rw [List.reverse_cons, List.reverse_cons]
    exact h.rev.app ⟨x, [], rfl, h1, h2, rfl⟩
theorem fair_rev {u : Int} {R : List (Int × Int)} {l m : List Int} {n k : Int} (x : Fairest (payI u) R l n) (y : Fairest (payI u) R.reverse m k) : k = n := by
  have h1 := y.least _ x.within.rev
  rw [Cost_rev, x.cost] at h1
  have h2 := y.within.rev
  rw [List.reverse_reverse] at h2
  have h3 := x.least _ h2
  rw [Cost_rev, y.cost] at h3
  omega
def mirR (R : List (Int × Int)) : List (Int × Int) := R.map fun r => (-r.2, -r.1)
theorem InR.mir : ∀ {R : List (Int × Int)} {l : List Int}, InR R l → InR (mirR R) (l.map fun d => -d)
  | [], _, h => by cases h; rfl
  | r :: R, _, ⟨x, l, e, h1, h2, h⟩ => by
    subst e
    exact ⟨-x, _, rfl, by show -r.2 ≤ -x; omega, by show -x ≤ -r.1; omega, h.mir⟩
theorem mir_mir (R : List (Int × Int)) : mirR (mirR R) = R := by
  unfold mirR
  rw [List.map_map]
  have : ((fun r : Int × Int => (-r.2, -r.1)) ∘ fun r : Int × Int => (-r.2, -r.1)) = id := by
    funext r; show (- -r.1, - -r.2) = r; rw [Int.neg_neg, Int.neg_neg]
  rw [this, List.map_id]
theorem fair_mir {u : Int} {R : List (Int × Int)} {l m : List Int} {n k : Int} (x : Fairest (payI u) R l n) (y : Fairest (payI u) (mirR R) m k) : k = n := by
  have h1 := y.least _ x.within.mir
  rw [Cost_neg, x.cost] at h1
  have h2 := y.within.mir
  rw [mir_mir] at h2
  have h3 := x.least _ h2
  rw [Cost_neg, y.cost] at h3
  omega
end Go.Ev
end

/- EvFt -/
section
/-
  FAIR LINES, ON LISTS: what is tilted, read from the end, mirrored, element by element.
-/
namespace Go.Ev
theorem tiltR_snoc (t : Int) (r : Int × Int) : ∀ (R : List (Int × Int)) (c : Int), tiltR c t (R ++ [r]) = tiltR c t R ++ [(r.1 + (c + t * (R.length : Int)), r.2 + (c + t * (R.length : Int)))]
  | [], c => by
    show [(r.1 + c, r.2 + c)] = [(r.1 + (c + t * 0), r.2 + (c + t * 0))]
    rw [Int.mul_zero, Int.add_zero]
  | q :: R, c => by
    show (q.1 + c, q.2 + c) :: tiltR (c + t) t (R ++ [r]) = (q.1 + c, q.2 + c) :: (tiltR (c + t) t R ++ _)
    rw [tiltR_snoc t r R (c + t), List.length_cons]
    have e : c + t + t * (R.length : Int) = c + t * ((R.length + 1 : Nat) : Int) := by rw [Int.natCast_add, Int.mul_add]; simp; omega
    rw [e]
theorem tiltF_snoc (t x : Int) : ∀ (l : List Int) (c : Int), tiltF c t (l ++ [x]) = tiltF c t l ++ [x + (c + t * (l.length : Int))]
  | [], c => by
    show [x + c] = [x + (c + t * 0)]
    rw [Int.mul_zero, Int.add_zero]
  | q :: l, c => by
    show (q + c) :: tiltF (c + t) t (l ++ [x]) = (q + c) :: (tiltF (c + t) t l ++ _)
    rw [tiltF_snoc t x l (c + t), List.length_cons]
    have e : c + t + t * (l.length : Int) = c + t * ((l.length + 1 : Nat) : Int) := by rw [Int.natCast_add, Int.mul_add]; simp; omega
    rw [e]
theorem tiltR_len (t : Int) : ∀ (R : List (Int × Int)) (c : Int), (tiltR c t R).length = R.length
  | [], _ => rfl
  | _ :: R, c => by show (tiltR (c + t) t R).length + 1 = _; rw [tiltR_len t R, List.length_cons]
theorem tiltF_len (t : Int) : ∀ (l : List Int) (c : Int), (tiltF c t l).length = l.length
  | [], _ => rfl
  | _ :: l, c => by show (tiltF (c + t) t l).length + 1 = _; rw [tiltF_len t l, List.length_cons]
theorem tiltF_get (t : Int) : ∀ (l : List Int) (c : Int) (i : Nat) (x : Int), l[i]? = some x → (tiltF c t l)[i]? = some (x + (c + t * (i : Int)))
  | [], _, _, _, h => by simp at h
  | q :: l, c, 0, x, h => by
    cases h
    show some (q + c) = some (q + (c + t * 0))
    rw [Int.mul_zero, Int.add_zero]
  | q :: l, c, i + 1, x, h => by
    have := tiltF_get t l (c + t) i x (by simpa using h)
    show (tiltF (c + t) t l)[i]? = _
    rw [this]
    have e : c + t + t * (i : Int) = c + t * ((i + 1 : Nat) : Int) := by rw [Int.natCast_add, Int.mul_add]; simp; omega
    rw [e]
theorem mirR_len (R : List (Int × Int)) : (mirR R).length = R.length := by unfold mirR; simp
theorem rev_get {α : Type} {l : List α} {i : Nat} (hi : i < l.length) : l.reverse[i]? = l[l.length - 1 - i]? := List.getElem?_reverse hi
theorem take_snoc {α : Type} {l : List α} {i : Nat} {x : α} (h : l[i]? = some x) : l.take (i + 1) = l.take i ++ [x] := by
  obtain ⟨hi, e⟩ := List.getElem?_eq_some_iff.1 h
  rw [List.take_succ_eq_append_getElem hi, e]
end Go.Ev
namespace Go.Ev
theorem tiltR_step {sp : List (Int × Int)} {k : Nat} {lo hi : Int} (h : sp[k]? = some (lo, hi)) (c t : Int) : tiltR c t (sp.take (k + 1)) = tiltR c t (sp.take k) ++ [(lo + (c + t * (k : Int)), hi + (c + t * (k : Int)))] := by
  have hk := (List.getElem?_eq_some_iff.1 h).1
  rw [take_snoc h, tiltR_snoc, List.length_take_of_le (by omega)]
theorem tiltF_step {l : List Int} {k : Nat} {x : Int} (h : l[k]? = some x) (c t : Int) : tiltF c t (l.take (k + 1)) = tiltF c t (l.take k) ++ [x + (c + t * (k : Int))] := by
  have hk := (List.getElem?_eq_some_iff.1 h).1
  rw [take_snoc h, tiltF_snoc, List.length_take_of_le (by omega)]
theorem mirR_step {sp : List (Int × Int)} {k : Nat} {lo hi : Int} (h : sp[k]? = some (lo, hi)) : mirR (sp.take (k + 1)) = mirR (sp.take k) ++ [(-hi, -lo)] := by
  rw [take_snoc h]; unfold mirR; rw [List.map_append]; rfl
theorem rev_step {α : Type} {l : List α} {n k : Nat} {x : α} (hn : l.length = n) (hk : k < n) (h : l[n - 1 - k]? = some x) : l.reverse.take (k + 1) = l.reverse.take k ++ [x] := by
  subst hn
  exact take_snoc (by rw [rev_get hk]; exact h)
end Go.Ev
end

/- EvV5 -/
section
/-
  LAYER 1: the statement FairTilted: the loop that makes the spots and the lines (under way).
-/
namespace Go.Proofs.YtkmdidplmfdikaaDoor
open Go.Ev
set_option maxRecDepth 100000
set_option linter.unusedSimpArgs false
set_option linter.unusedVariables false
set_option maxHeartbeats 4000000

theorem tEvV5 : type_of% (And.intro (And.intro (And.intro (And.intro (And.intro (@bs_71) (@bs_24)) (And.intro (@bs_51) (@ia_2))) (And.intro (And.intro (@sz_2) (@ia_3)) (And.intro (@sz_3) (@ia_5)))) (And.intro (And.intro (And.intro (@sz_5) (@ia_22)) (And.intro (@sz_22) (@ia_45))) (And.intro (And.intro (@ia_25) (@sz_25)) (And.intro (@ia_52) (And.intro (@ia_27) (@ia_24)))))) (And.intro (And.intro (And.intro (And.intro (@sz_24) (@ia_51)) (And.intro (@sz_51) (@fo_51_0))) (And.intro (And.intro (@fo_51_1) (@fo_24_0)) (And.intro (@fo_24_1) (And.intro (@pb_28) (@pb_9))))) (And.intro (And.intro (And.intro (@pb_17) (@pb_10)) (And.intro (@pb_29) (@pb_12))) (And.intro (And.intro (@pb_15) (@ni_25)) (And.intro (@ni_22) (And.intro (@ze_24) (@ze_51))))))) := And.intro (And.intro (And.intro (And.intro (And.intro (@bs_71) (@bs_24)) (And.intro (@bs_51) (@ia_2))) (And.intro (And.intro (@sz_2) (@ia_3)) (And.intro (@sz_3) (@ia_5)))) (And.intro (And.intro (And.intro (@sz_5) (@ia_22)) (And.intro (@sz_22) (@ia_45))) (And.intro (And.intro (@ia_25) (@sz_25)) (And.intro (@ia_52) (And.intro (@ia_27) (@ia_24)))))) (And.intro (And.intro (And.intro (And.intro (@sz_24) (@ia_51)) (And.intro (@sz_51) (@fo_51_0))) (And.intro (And.intro (@fo_51_1) (@fo_24_0)) (And.intro (@fo_24_1) (And.intro (@pb_28) (@pb_9))))) (And.intro (And.intro (And.intro (@pb_17) (@pb_10)) (And.intro (@pb_29) (@pb_12))) (And.intro (And.intro (@pb_15) (@ni_25)) (And.intro (@ni_22) (And.intro (@ze_24) (@ze_51))))))
theorem barOk_store2 {f : TF} {a t u : Nat} {ty : TypeId} {x : Operand} {p q r : Pos} {off off' off2 : Nat} (ha : f a = .ptr p off) (ht : f t = .ptr q off') (hu : f u = .ptr r off2) (hne : q ≠ p) (hne2 : r ≠ p) (ha' : a < 384) (ht' : t < 384) (hu' : u < 384) : barOk (.soft [t, u]) (mkM f) (.store ty (.tmp a) x) = true := by
  show (match evT (mkM f) (.tmp a) with | some v => (match asPtr v with | some (id, _) => apartFrom (mkM f) id [t, u] | none => false) | none => false) = true
  rw [evT_tmp ha', ha]
  show apartFrom (mkM f) p [t, u] = true
  unfold apartFrom
  rw [get_mkM f t ht', ht]
  show (bif decide (q = p) then false else apartFrom (mkM f) p [u]) = true
  rw [decide_eq_false hne]
  show apartFrom (mkM f) p [u] = true
  unfold apartFrom
  rw [get_mkM f u hu', hu]
  show (bif decide (r = p) then false else apartFrom (mkM f) p []) = true
  rw [decide_eq_false hne2]; rfl

theorem InR.off : ∀ {R : List (Int × Int)} {l : List Int}, (∀ r ∈ R, SpotOK r) → InR R l → ∀ x ∈ l, Off x
  | [], _, _, h => fun x hx => by cases h; simp at hx
  | r :: R, _, hR, ⟨c, cs, rfl, h1, h2, h⟩ => fun x hx => by
    obtain ⟨⟨o1, o2⟩, ⟨o3, o4⟩, _, _⟩ := hR r (by simp)
    rcases List.mem_cons.1 hx with rfl | hx
    · exact ⟨by omega, by omega⟩
    · exact InR.off (fun r hr => hR r (by simp [hr])) h x hx

theorem lawTilted (sp : List (Int × Int)) (turn ad ti : Int) (bs : List Int) (had : -32768 ≤ ad ∧ ad ≤ 32767) (hti : -32768 ≤ ti ∧ ti ≤ 32767) (hb8 : ∀ n ∈ bs, 0 ≤ n ∧ n ≤ 255) (a b : AV) (hca : Capd a) (h : H) (wf : Wf h) (t : Tab h) (hs : Sl h a 2 sp.length (spotCells sp)) (hb : Sl h b 1 bs.length (bs.map u8)) :
    (om Tryd.prog KK).call (.fn 8 [.agg [a, ii turn], .int .i16 ad, .int .i16 ti, b]) h = .ok (.bool true) h := by
  have ha1 : oneB a = true ∧ AV.cells a = [a] := by obtain ⟨_, ⟨rfl, _⟩ | ⟨_, _, _, _, _, _, rfl, _⟩⟩ := hs <;> exact ⟨rfl, rfl⟩
  have hlen : ∀ h', lenE Tryd.prog 22 a h' = some (ii (sp.length : Int)) := fun h' => hs.len un_22
  have hlb : ∀ h', lenE Tryd.prog 45 b h' = some (ii (bs.length : Int)) := fun h' => hb.len un_45
  have works' : ∀ l w, (om Tryd.prog KK).call (.fn 9 []) (X h l w) = .ok (.bool true) (X h l w) := fun l w => works _ (t.up wf _ _)
  have hfine : ∀ l w, w ≤ h.clock + l.length → (om Tryd.prog KK).call (.fn 28 [.agg [a, ii turn]]) (X h l w) = .ok (.bool (decide (spotsR sp turn = 0))) (X h l w) := fun l w hw => fineSpots sp turn a _ (wf.X hw) (hs.up wf _ _)
  by_cases hgo : spotsR sp turn = 0 ∧ bs.length ≤ 40
  · obtain ⟨hs0, h40⟩ := hgo
    obtain ⟨n1, n24, hok, hturn⟩ := spotsR_ok hs0
    rw [decide_eq_true hs0] at hfine
    have hln : InR sp (lineB sp bs sp.length) := lineB_in bs (fun r hr => (hok r hr).2.2.1)
    have hll : (lineB sp bs sp.length).length = sp.length := lineB_length _ _ _
    obtain ⟨lv, h1, e1, M1, rfl, hlv⟩ := Line sp (by omega) n24 hok bs h40 hb8 a turn b (X h [.cells (mkCells [a, ii turn]) 24] h.clock) (wf.X (by omega)) (hs.up wf _ _) (hb.up wf _ _)
    rw [X_X, X_w] at e1
    have hlv1 := hlv.down
    simp only [List.cons_append, List.nil_append] at e1 hlv1
    generalize hline : lineB sp bs sp.length = line at *
    have hll2 : ∀ h', lenE Tryd.prog 25 lv h' = some (ii (sp.length : Int)) := fun h' => by
      have := (hlv1.sl wf h.clock).len un_25 (h' := h')
      rwa [List.length_map, hll] at this
    refine WV_to (WV_call (fn := Tryd.f8) Tryd.func8 rfl rfl rfl rfl rfl ?_)
    simp only [argF]
    (repeat' (first
  | (with_reducible first | refine WC_seq ?_ | refine WC_skip ?_ | refine WC_label ?_ | refine WC_scope ?_ | refine WC_block ?_ | refine WC_ret ?_ | refine WC_exit ?_ | refine seqQ_norm ?_ | refine seqQ_ret ?_ | refine seqQ_exit ?_ | refine blkQ_norm ?_ | refine blkQ_ret ?_ | refine blkQ_here ?_ | refine gateK_yes ?_ | refine gateK_none ?_ | refine condK_tt ?_ | refine condK_ff ?_ | refine roundQ_exit ?_ | refine roundQ_ret ?_)
  | refine WC_region ?_ | refine blkQ_out rfl ?_ | refine WO_nil ?_ | refine WD_nil ?_
  | ((first | refine WD_gate rfl rfl rfl rfl rfl fun K_ hK_ => ?_ | refine WO_gate rfl rfl rfl rfl rfl fun K_ hK_ => ?_); simp only [upd_apply, asB_bool, asB_tup, ↓reduceIte, reduceCtorEq, Nat.reduceEqDiff, Bool.not_true, Bool.not_false]; refine hK_ _ ?_; clear hK_ K_)
  | refine gateK_no (by decide) ?_
  | ((try first | refine WO_op rfl rfl rfl ?_ | refine WO_op0 rfl rfl ?_ | refine WD_op rfl rfl rfl ?_ | refine WD_op0 rfl rfl ?_); (refine WV_gen fun Q_ hQ_ => ?_; simp (disch := first | omega | (simp only [List.length_cons, List.length_nil, List.length_append]; omega)) only [bb, bp, argF, ↓reduceIte, reduceCtorEq, Nat.reduceEqDiff, Nat.reduceLT, Nat.reduceLeDiff, Nat.reduceAdd, Nat.reduceMul, Nat.reduceSub, Nat.reduceBEq, Int.reduceToNat, cond_true, cond_false, eq_self, beq_self_eq_true, hfine, hlen, hlb, e1, hlv.flat.1, hlv.flat.2, hll2, works', ha1.1, ha1.2, newPtr_X wf, load1_X wf, loadAgg_X wf, store1_X wf, writeCells_X wf, tEvV5, bsl_25, bsl_22, bsl_52, newSlice_X wf]; first | (refine dec_split (Q := Q_) (fun hp_ => ?_) (fun hp_ => ?_) <;> first | (exfalso; omega) | (refine hQ_ _ _ ?_; clear hQ_ Q_)) | (refine dec_splitn (Q := Q_) (fun hp_ => ?_) (fun hp_ => ?_) <;> first | (exfalso; omega) | (refine hQ_ _ _ ?_; clear hQ_ Q_)) | (refine hQ_ _ _ ?_; clear hQ_ Q_)))
  | (refine WC_cond fun K_ hK_ => ?_; simp (disch := omega) only [evT_tmp, upd_apply, WB_some, ↓reduceIte, reduceCtorEq, Nat.reduceEqDiff, Nat.reduceLT]; refine hK_ _ ?_; clear hK_ K_)))
    refine WC_drawnB [.no, .no, .no, .no, .no, .no, .no, .no, .no, .no, .no, .no, .soft [57, 60], .soft [60], .full] (by kernel_rfl) ?_
    (repeat' (first
  | (with_reducible first | refine WC_seq ?_ | refine WC_skip ?_ | refine WC_label ?_ | refine WC_scope ?_ | refine WC_block ?_ | refine WC_ret ?_ | refine WC_exit ?_ | refine seqQ_norm ?_ | refine seqQ_ret ?_ | refine seqQ_exit ?_ | refine blkQ_norm ?_ | refine blkQ_ret ?_ | refine blkQ_here ?_ | refine gateK_yes ?_ | refine gateK_none ?_ | refine condK_tt ?_ | refine condK_ff ?_ | refine roundQ_exit ?_ | refine roundQ_ret ?_)
  | refine WC_region ?_ | refine blkQ_out rfl ?_ | refine WO_nil ?_ | refine WD_nil ?_
  | ((first | refine WD_gate rfl rfl rfl rfl rfl fun K_ hK_ => ?_ | refine WO_gate rfl rfl rfl rfl rfl fun K_ hK_ => ?_); simp only [upd_apply, asB_bool, asB_tup, ↓reduceIte, reduceCtorEq, Nat.reduceEqDiff, Bool.not_true, Bool.not_false]; refine hK_ _ ?_; clear hK_ K_)
  | refine gateK_no (by decide) ?_
  | ((try first | refine WO_op rfl rfl rfl ?_ | refine WO_op0 rfl rfl ?_ | refine WD_op rfl rfl rfl ?_ | refine WD_op0 rfl rfl ?_); (refine WV_gen fun Q_ hQ_ => ?_; simp (disch := first | omega | (simp only [List.length_cons, List.length_nil, List.length_append]; omega)) only [bb, bp, argF, ↓reduceIte, reduceCtorEq, Nat.reduceEqDiff, Nat.reduceLT, Nat.reduceLeDiff, Nat.reduceAdd, Nat.reduceMul, Nat.reduceSub, Nat.reduceBEq, Int.reduceToNat, cond_true, cond_false, eq_self, beq_self_eq_true, newPtr_X wf, load1_X wf, loadAgg_X wf, store1_X wf, writeCells_X wf, tEvV5, bsl_25, bsl_22, bsl_52, newSlice_X wf]; first | (refine dec_split (Q := Q_) (fun hp_ => ?_) (fun hp_ => ?_) <;> first | (exfalso; omega) | (refine hQ_ _ _ ?_; clear hQ_ Q_)) | (refine dec_splitn (Q := Q_) (fun hp_ => ?_) (fun hp_ => ?_) <;> first | (exfalso; omega) | (refine hQ_ _ _ ?_; clear hQ_ Q_)) | (refine hQ_ _ _ ?_; clear hQ_ Q_)))
  | (refine WC_cond fun K_ hK_ => ?_; simp (disch := omega) only [evT_tmp, upd_apply, WB_some, ↓reduceIte, reduceCtorEq, Nat.reduceEqDiff, Nat.reduceLT]; refine hK_ _ ?_; clear hK_ K_)))
    have st0 : ∀ w, storeE Tryd.prog 24 (.ptr (nx h (M1.length + 1)) 0) (.agg [.nils, ii turn]) (X h (.cells (mkCells [a, ii turn]) 24 :: (M1 ++ [.cells (mkCells [.nils, ii 0]) 24, .cells (mkCells [.nils, ii 0]) 24, .cells (mkCells [.nils, ii 0]) 24])) w) = some (X h (.cells (mkCells [a, ii turn]) 24 :: (M1 ++ [.cells (mkCells [.nils, ii turn]) 24, .cells (mkCells [.nils, ii 0]) 24, .cells (mkCells [.nils, ii 0]) 24])) (min (h.clock + (M1.length + 1)) w)) := fun w => by
      rw [storeE_whole (old := [.nils, ii 0]) (ee := 24) wf sz_24 (by decide) rfl rfl (by simp only [List.getElem?_cons_succ, app_len0, List.getElem?_cons_zero]) rfl]
      simp only [List.set_cons_succ, set_app_len0, List.set_cons_zero]
    have st1 : ∀ w, storeE Tryd.prog 24 (.ptr (nx h (M1.length + 1 + 1)) 0) (.agg [.nils, ii turn]) (X h (.cells (mkCells [a, ii turn]) 24 :: (M1 ++ [.cells (mkCells [.nils, ii turn]) 24, .cells (mkCells [.nils, ii 0]) 24, .cells (mkCells [.nils, ii 0]) 24])) w) = some (X h (.cells (mkCells [a, ii turn]) 24 :: (M1 ++ [.cells (mkCells [.nils, ii turn]) 24, .cells (mkCells [.nils, ii turn]) 24, .cells (mkCells [.nils, ii 0]) 24])) (min (h.clock + (M1.length + 1 + 1)) w)) := fun w => by
      rw [storeE_whole (old := [.nils, ii 0]) (ee := 24) wf sz_24 (by decide) rfl rfl (by simp only [List.getElem?_cons_succ, app_len, List.getElem?_cons_zero]) rfl]
      simp only [List.set_cons_succ, set_app_len, List.set_cons_zero]
    refine WD_op0 rfl rfl (WV_soft (v := .tup []) (by
      rw [x_store, evT_tmp (by decide), on1_ok, evT_tmp (by decide), on1_ok]
      simp only [upd_apply, ↓reduceIte, reduceCtorEq, Nat.reduceEqDiff]
      rw [marked_X, st0]
      rfl) (barOk_store2 (by simp only [upd_apply, ↓reduceIte, reduceCtorEq, Nat.reduceEqDiff]; rfl) (by simp only [upd_apply, ↓reduceIte, reduceCtorEq, Nat.reduceEqDiff]; rfl) (by simp only [upd_apply, ↓reduceIte, reduceCtorEq, Nat.reduceEqDiff]; rfl) (nx_ne (by omega)) (nx_ne (by omega)) (by decide) (by decide) (by decide)) ?_)
    refine WD_op0 rfl rfl (WV_soft (v := .tup []) (by
      rw [x_store, evT_tmp (by decide), on1_ok, evT_tmp (by decide), on1_ok]
      simp only [upd_apply, ↓reduceIte, reduceCtorEq, Nat.reduceEqDiff]
      rw [marked_X, st1]
      rfl) (barOk_store1 (by simp only [upd_apply, ↓reduceIte, reduceCtorEq, Nat.reduceEqDiff]; rfl) (by simp only [upd_apply, ↓reduceIte, reduceCtorEq, Nat.reduceEqDiff]; rfl) (nx_ne (by omega)) (by decide) (by decide)) ?_)
    obtain ⟨jl, cl, elv, hjl, hcl⟩ := hlv1
    rw [List.length_map, hll] at elv
    have hjl0 : jl ≠ 0 := fun e => by
      subst e
      simp only [List.getElem?_cons_zero, Option.some.injEq] at hjl
      injection hjl with _ h2
      exact absurd h2 (by decide)
    have hH0 : Held ((AO.cells (mkCells [a, ii turn]) 24 :: (M1 ++ [.cells (mkCells [.nils, ii turn]) 24, .cells (mkCells [.nils, ii turn]) 24, .cells (mkCells [.nils, ii turn]) 24]))) (kt (kt (kt (kt (kt (fun _ => none) 0 (some (0, .cells (mkCells [a, ii turn]) 24))) 4 (some (jl, .cells (mkCells (line.map ii)) 2))) 1 (some (M1.length + 1, .cells (mkCells [.nils, ii turn]) 24))) 2 (some (M1.length + 1 + 1, .cells (mkCells [.nils, ii turn]) 24))) 3 (some (M1.length + 1 + 2, .cells (mkCells [.nils, ii turn]) 24))) := by
      have h0 := (Held.empty []).new 0 (AO.cells (mkCells [a, ii turn]) 24) M1
      have h1 := h0.add 4 jl _ (by simpa using hjl) (fun i o e => by
        rw [kt_apply] at e
        split at e
        · cases e; exact hjl0 rfl
        · cases e)
      have h2 := ((h1.new 1 (AO.cells (mkCells [.nils, ii turn]) 24) []).new 2 (AO.cells (mkCells [.nils, ii turn]) 24) []).new 3 (AO.cells (mkCells [.nils, ii turn]) 24) []
      simpa using h2
    (repeat' (first
  | (with_reducible first | refine WC_seq ?_ | refine WC_skip ?_ | refine WC_label ?_ | refine WC_scope ?_ | refine WC_block ?_ | refine WC_ret ?_ | refine WC_exit ?_ | refine seqQ_norm ?_ | refine seqQ_ret ?_ | refine seqQ_exit ?_ | refine blkQ_norm ?_ | refine blkQ_ret ?_ | refine blkQ_here ?_ | refine gateK_yes ?_ | refine gateK_none ?_ | refine condK_tt ?_ | refine condK_ff ?_ | refine roundQ_exit ?_ | refine roundQ_ret ?_)
  | refine WC_region ?_ | refine blkQ_out rfl ?_ | refine WO_nil ?_ | refine WD_nil ?_
  | ((first | refine WD_gate rfl rfl rfl rfl rfl fun K_ hK_ => ?_ | refine WO_gate rfl rfl rfl rfl rfl fun K_ hK_ => ?_); simp only [upd_apply, asB_bool, asB_tup, ↓reduceIte, reduceCtorEq, Nat.reduceEqDiff, Bool.not_true, Bool.not_false]; refine hK_ _ ?_; clear hK_ K_)
  | refine gateK_no (by decide) ?_
  | ((try first | refine WO_op rfl rfl rfl ?_ | refine WO_op0 rfl rfl ?_ | refine WD_op rfl rfl rfl ?_ | refine WD_op0 rfl rfl ?_); (refine WV_gen fun Q_ hQ_ => ?_; simp (disch := first | omega | (simp only [List.length_cons, List.length_nil, List.length_append]; omega)) only [bb, bp, argF, ↓reduceIte, reduceCtorEq, Nat.reduceEqDiff, Nat.reduceLT, Nat.reduceLeDiff, Nat.reduceAdd, Nat.reduceMul, Nat.reduceSub, Nat.reduceBEq, Int.reduceToNat, cond_true, cond_false, eq_self, beq_self_eq_true, hll2, newPtr_X wf, load1_X wf, loadAgg_X wf, store1_X wf, writeCells_X wf, tEvV5, bsl_25, bsl_22, bsl_52, newSlice_X wf]; first | (refine dec_split (Q := Q_) (fun hp_ => ?_) (fun hp_ => ?_) <;> first | (exfalso; omega) | (refine hQ_ _ _ ?_; clear hQ_ Q_)) | (refine dec_splitn (Q := Q_) (fun hp_ => ?_) (fun hp_ => ?_) <;> first | (exfalso; omega) | (refine hQ_ _ _ ?_; clear hQ_ Q_)) | (refine hQ_ _ _ ?_; clear hQ_ Q_)))
  | (refine WC_cond fun K_ hK_ => ?_; simp (disch := omega) only [evT_tmp, upd_apply, WB_some, ↓reduceIte, reduceCtorEq, Nat.reduceEqDiff, Nat.reduceLT]; refine hK_ _ ?_; clear hK_ K_)))
    have hw0 : ∀ (l : List AO) (q : Nat), q ≤ 1 → h.clock ≤ min (h.clock + (M1.length + 1 + q)) (min (h.clock + (M1.length + 1 + 1)) (h.clock + l.length)) := fun l q hq => by omega
    refine WC_loop (fun (k : Nat) f d h' => k ≤ sp.length ∧ f 1 = .int .i16 ad ∧ f 2 = .int .i16 ti ∧ f 3 = b ∧ f 4 = .ptr (nx h 0) 0 ∧ f 9 = lv ∧ f 10 = ii (sp.length : Int) ∧ f 11 = .ptr (nx h (M1.length + 1)) 0 ∧ f 12 = .ptr (nx h (M1.length + 1 + 1)) 0 ∧ f 13 = .ptr (nx h (M1.length + 1 + 2)) 0 ∧ f 17 = ii (k : Int) ∧ d = [] ∧
      ∃ (L : List AO) (w : Nat) (T : KT) (v1 v2 v3 : AV), h' = X h L w ∧ h.clock ≤ w ∧ w ≤ h.clock + L.length ∧ Held L T ∧ T 0 = some (0, .cells (mkCells [a, ii turn]) 24) ∧ T 4 = some (jl, .cells (mkCells (line.map ii)) 2) ∧
        T 1 = some (M1.length + 1, .cells (mkCells [v1, ii turn]) 24) ∧ T 2 = some (M1.length + 1 + 1, .cells (mkCells [v2, ii turn]) 24) ∧ T 3 = some (M1.length + 1 + 2, .cells (mkCells [v3, ii turn]) 24) ∧
        SlK h T 5 v1 2 51 k (pairCells (tiltR ad ti (sp.take k))) ∧ SlK h T 6 v2 2 51 k (pairCells (sp.reverse.take k)) ∧ SlK h T 7 v3 2 51 k (pairCells (mirR (sp.take k))) ∧
        SlK h T 8 (f 14) 1 2 k ((tiltF ad ti (line.take k)).map ii) ∧ SlK h T 9 (f 15) 1 2 k ((line.reverse.take k).map ii) ∧ SlK h T 10 (f 16) 1 2 k (((line.take k).map fun d => -d).map ii)) (fun k => sp.length - k) ?_ (sp.length + 1) 0 (by omega) ?_
    rotate_left 1
    · refine ⟨Nat.zero_le _, by simp only [upd_apply, ↓reduceIte, reduceCtorEq, Nat.reduceEqDiff], by simp only [upd_apply, ↓reduceIte, reduceCtorEq, Nat.reduceEqDiff], by simp only [upd_apply, ↓reduceIte, reduceCtorEq, Nat.reduceEqDiff], by simp only [upd_apply, ↓reduceIte, reduceCtorEq, Nat.reduceEqDiff], by simp only [upd_apply, ↓reduceIte, reduceCtorEq, Nat.reduceEqDiff], by simp only [upd_apply, ↓reduceIte, reduceCtorEq, Nat.reduceEqDiff], by simp only [upd_apply, ↓reduceIte, reduceCtorEq, Nat.reduceEqDiff], by simp only [upd_apply, ↓reduceIte, reduceCtorEq, Nat.reduceEqDiff], by simp only [upd_apply, ↓reduceIte, reduceCtorEq, Nat.reduceEqDiff], by simp only [upd_apply, ↓reduceIte, reduceCtorEq, Nat.reduceEqDiff]; rfl, rfl, _, _, _, .nils, .nils, .nils, rfl, ?_, ?_, hH0, by simp only [kt_apply]; rfl, by simp only [kt_apply]; rfl, by simp only [kt_apply]; rfl, by simp only [kt_apply]; rfl, by simp only [kt_apply]; rfl, SlK.nil _ _ _ _ _ rfl, SlK.nil _ _ _ _ _ rfl, SlK.nil _ _ _ _ _ rfl, by (try simp only [upd_apply, ↓reduceIte, reduceCtorEq, Nat.reduceEqDiff]); exact SlK.nil _ _ _ _ _ rfl, by (try simp only [upd_apply, ↓reduceIte, reduceCtorEq, Nat.reduceEqDiff]); exact SlK.nil _ _ _ _ _ rfl, by (try simp only [upd_apply, ↓reduceIte, reduceCtorEq, Nat.reduceEqDiff]); exact SlK.nil _ _ _ _ _ rfl⟩
      · first | omega | (simp only [List.length_cons, List.length_append, List.length_nil]; omega)
      · first | omega | (simp only [List.length_cons, List.length_append, List.length_nil]; omega)
    · rintro k f d h' ⟨hk, g1, g2, g3, g4, g9, g10, g11, g12, g13, g17, rfl, L, w, T, v1, v2, v3, rfl, hw1, hw2, hT, t0, t4, t1, t2, t3, s5, s6, s7, s8, s9, s10⟩
      have e1 := hT.get t1
      have e0 := hT.get t0
      have ra := s5.resz (P := Tryd.prog) 22
      generalize g14 : f 14 = u1 at *
      generalize g15 : f 15 = u2 at *
      generalize g16 : f 16 = u3 at *
      by_cases hlt : k < sp.length
      · have hc1 : convE Tryd.prog 49 2 (.int .i16 ad) = some (ii ad) := by rw [c_int un_49 un_2, wrap_in _ (by omega) (by omega)]
        have hc2 : convE Tryd.prog 49 2 (.int .i16 ti) = some (ii ti) := by rw [c_int un_49 un_2, wrap_in _ (by omega) (by omega)]
        have hm : -800000 ≤ ti * (k : Int) ∧ ti * (k : Int) ≤ 800000 := by
          have h1 : (k : Int) ≤ 24 := by omega
          have h2 : 0 ≤ (k : Int) := by omega
          constructor
          · have := Int.mul_le_mul_of_nonneg_right hti.1 h2; omega
          · have := Int.mul_le_mul_of_nonneg_right hti.2 h2; omega
        obtain ⟨id, off, hix, hld⟩ := hs.at wf hlt ik_22
        have hld' : ∀ l w, loadAgg id off (some 2) (X h l w) = some (.agg [ii (spot sp k).1, ii (spot sp k).2]) := fun l w => by rw [(hld l w).2, spotCells_at hlt, spot_get hlt]
        have ho := hok _ (List.getElem_mem hlt)
        rw [spot_get hlt] at ho
        obtain ⟨⟨o1, o2⟩, ⟨o3, o4⟩, o5, o6⟩ := ho
        generalize hlo : (spot sp k).1 = lo at *
        generalize hhi : (spot sp k).2 = hi at *
        have e1' : ∀ M, (L ++ M)[M1.length + 1]? = some (.cells (mkCells [v1, ii turn]) 24) := fun M => hT.gets t1 M
        (repeat' (first
  | (with_reducible first | refine WC_seq ?_ | refine WC_skip ?_ | refine WC_label ?_ | refine WC_scope ?_ | refine WC_block ?_ | refine WC_ret ?_ | refine WC_exit ?_ | refine seqQ_norm ?_ | refine seqQ_ret ?_ | refine seqQ_exit ?_ | refine blkQ_norm ?_ | refine blkQ_ret ?_ | refine blkQ_here ?_ | refine gateK_yes ?_ | refine gateK_none ?_ | refine condK_tt ?_ | refine condK_ff ?_ | refine roundQ_exit ?_ | refine roundQ_ret ?_)
  | refine WC_region ?_ | refine blkQ_out rfl ?_ | refine WO_nil ?_ | refine WD_nil ?_
  | ((first | refine WD_gate rfl rfl rfl rfl rfl fun K_ hK_ => ?_ | refine WO_gate rfl rfl rfl rfl rfl fun K_ hK_ => ?_); simp only [upd_apply, asB_bool, asB_tup, ↓reduceIte, reduceCtorEq, Nat.reduceEqDiff, Bool.not_true, Bool.not_false]; refine hK_ _ ?_; clear hK_ K_)
  | refine gateK_no (by decide) ?_
  | ((try first | refine WO_op rfl rfl rfl ?_ | refine WO_op0 rfl rfl ?_ | refine WD_op rfl rfl rfl ?_ | refine WD_op0 rfl rfl ?_); (refine WV_gen fun Q_ hQ_ => ?_; simp (disch := first | omega | (simp only [List.length_cons, List.length_nil, List.length_append]; omega)) only [bb, bp, argF, ↓reduceIte, reduceCtorEq, Nat.reduceEqDiff, Nat.reduceLT, Nat.reduceLeDiff, Nat.reduceAdd, Nat.reduceMul, Nat.reduceSub, Nat.reduceBEq, Int.reduceToNat, cond_true, cond_false, eq_self, beq_self_eq_true, g1, g2, g4, g9, g10, g11, g17, g14, g15, g16, hc1, hc2, hix, hld', e0, e1, e1', ra, newPtr_X wf, load1_X wf, loadAgg_X wf, store1_X wf, writeCells_X wf, tEvV5, bsl_25, bsl_22, bsl_52, newSlice_X wf]; first | (refine dec_split (Q := Q_) (fun hp_ => ?_) (fun hp_ => ?_) <;> first | (exfalso; omega) | (refine hQ_ _ _ ?_; clear hQ_ Q_)) | (refine dec_splitn (Q := Q_) (fun hp_ => ?_) (fun hp_ => ?_) <;> first | (exfalso; omega) | (refine hQ_ _ _ ?_; clear hQ_ Q_)) | (refine hQ_ _ _ ?_; clear hQ_ Q_)))
  | (refine WC_cond fun K_ hK_ => ?_; simp (disch := omega) only [evT_tmp, upd_apply, WB_some, ↓reduceIte, reduceCtorEq, Nat.reduceEqDiff, Nat.reduceLT]; refine hK_ _ ?_; clear hK_ K_)))
        have rs22 : ∀ (id : Pos) (off len c esz : Nat), reszT Tryd.prog 22 (.sl id off len (some c) esz) = .sl id off len (some c) 2 := fun id off len c esz => reszT_some un_22 sz_51
        have rs25 : ∀ (id : Pos) (off len c esz : Nat), reszT Tryd.prog 25 (.sl id off len (some c) esz) = .sl id off len (some c) 1 := fun id off len c esz => reszT_some un_25 sz_2
        have hT1 := hT.new 11 (.cells (mkCells [ii lo, ii hi]) 51) []
        obtain ⟨v1', L1, w1, s5', hT1, hl1, ha1, hb1, happ1⟩ := (s5.keep (T' := kt T 11 (some (L.length, .cells (mkCells [ii lo, ii hi]) 51))) (kt_ne (by decide))).app wf hT1 (P := Tryd.prog) (t := 22) un_22 sz_51 el_51 (new := [ii (lo + (ad + ti * (k : Int))), ii (hi + (ad + ti * (k : Int)))]) (by omega) (by decide) rfl rfl 1 (min (h.clock + L.length) w) (by omega)
        simp only [List.append_assoc, List.cons_append, List.nil_append, List.length_append, List.length_cons, List.length_nil, Nat.zero_add] at happ1 s5' hT1 hl1
        generalize hTn : kt (kt T 11 (some (L.length, AO.cells (mkCells [ii lo, ii hi]) 51))) 5 (some (L.length + 1 + 1, AO.cells (mkCells (pairCells (tiltR ad ti (sp.take k)) ++ [ii (lo + (ad + ti * (k : Int))), ii (hi + (ad + ti * (k : Int)))])) 51)) = T1 at *
        have t0' : T1 0 = some (0, .cells (mkCells [a, ii turn]) 24) := by subst hTn; exact t0
        have t1' : T1 1 = some (M1.length + 1, .cells (mkCells [v1, ii turn]) 24) := by subst hTn; exact t1
        have t2' : T1 2 = some (M1.length + 1 + 1, .cells (mkCells [v2, ii turn]) 24) := by subst hTn; exact t2
        have t3' : T1 3 = some (M1.length + 1 + 2, .cells (mkCells [v3, ii turn]) 24) := by subst hTn; exact t3
        have t4' : T1 4 = some (jl, .cells (mkCells (line.map ii)) 2) := by subst hTn; exact t4
        have t11' : T1 11 = some (L.length, .cells (mkCells [ii lo, ii hi]) 51) := by subst hTn; rfl
        replace s6 := s6.keep (T' := T1) (by subst hTn; rfl)
        replace s7 := s7.keep (T' := T1) (by subst hTn; rfl)
        replace s8 := s8.keep (T' := T1) (by subst hTn; rfl)
        replace s9 := s9.keep (T' := T1) (by subst hTn; rfl)
        replace s10 := s10.keep (T' := T1) (by subst hTn; rfl)
        have f1 := s5'.flat
        have e1b := hT1.get t1'
        (repeat' (first
  | (with_reducible first | refine WC_seq ?_ | refine WC_skip ?_ | refine WC_label ?_ | refine WC_scope ?_ | refine WC_block ?_ | refine WC_ret ?_ | refine WC_exit ?_ | refine seqQ_norm ?_ | refine seqQ_ret ?_ | refine seqQ_exit ?_ | refine blkQ_norm ?_ | refine blkQ_ret ?_ | refine blkQ_here ?_ | refine gateK_yes ?_ | refine gateK_none ?_ | refine condK_tt ?_ | refine condK_ff ?_ | refine roundQ_exit ?_ | refine roundQ_ret ?_)
  | refine WC_region ?_ | refine blkQ_out rfl ?_ | refine WO_nil ?_ | refine WD_nil ?_
  | ((first | refine WD_gate rfl rfl rfl rfl rfl fun K_ hK_ => ?_ | refine WO_gate rfl rfl rfl rfl rfl fun K_ hK_ => ?_); simp only [upd_apply, asB_bool, asB_tup, ↓reduceIte, reduceCtorEq, Nat.reduceEqDiff, Bool.not_true, Bool.not_false]; refine hK_ _ ?_; clear hK_ K_)
  | refine gateK_no (by decide) ?_
  | ((try first | refine WO_op rfl rfl rfl ?_ | refine WO_op0 rfl rfl ?_ | refine WD_op rfl rfl rfl ?_ | refine WD_op0 rfl rfl ?_); (refine WV_gen fun Q_ hQ_ => ?_; simp (disch := first | omega | (simp only [List.length_cons, List.length_nil, List.length_append]; omega)) only [bb, bp, argF, ↓reduceIte, reduceCtorEq, Nat.reduceEqDiff, Nat.reduceLT, Nat.reduceLeDiff, Nat.reduceAdd, Nat.reduceMul, Nat.reduceSub, Nat.reduceBEq, Int.reduceToNat, cond_true, cond_false, eq_self, beq_self_eq_true, g1, g2, g4, g9, g10, g11, g17, g14, g15, g16, hc1, hc2, hix, hld', e0, e1, e1', e1b, f1.1, f1.2, ra, rs22, happ1, newPtr_X wf, load1_X wf, loadAgg_X wf, store1_X wf, writeCells_X wf, tEvV5, bsl_25, bsl_22, bsl_52, newSlice_X wf]; first | (refine dec_split (Q := Q_) (fun hp_ => ?_) (fun hp_ => ?_) <;> first | (exfalso; omega) | (refine hQ_ _ _ ?_; clear hQ_ Q_)) | (refine dec_splitn (Q := Q_) (fun hp_ => ?_) (fun hp_ => ?_) <;> first | (exfalso; omega) | (refine hQ_ _ _ ?_; clear hQ_ Q_)) | (refine hQ_ _ _ ?_; clear hQ_ Q_)))
  | (refine WC_cond fun K_ hK_ => ?_; simp (disch := omega) only [evT_tmp, upd_apply, WB_some, ↓reduceIte, reduceCtorEq, Nat.reduceEqDiff, Nat.reduceLT]; refine hK_ _ ?_; clear hK_ K_)))
        clear happ1 e1b hTn e1 e1' e0
        have hT1b := hT1.set t1' (.cells (mkCells [v1', ii turn]) 24)
        have hl1b : (L1.set (M1.length + 1) (.cells (mkCells [v1', ii turn]) 24)).length = L.length + 3 := by rw [List.length_set]; omega
        generalize hLn : L1.set (M1.length + 1) (.cells (mkCells [v1', ii turn]) 24) = L1b at *
        have hnk : (sp.length : Int) - 1 - (k : Int) = ((sp.length - 1 - k : Nat) : Int) := by omega
        have hltr : sp.length - 1 - k < sp.length := by omega
        obtain ⟨idr, offr, hixr, hldr⟩ := hs.at wf hltr ik_22
        have hldr' : ∀ l w, loadAgg idr offr (some 2) (X h l w) = some (.agg [ii (spot sp (sp.length - 1 - k)).1, ii (spot sp (sp.length - 1 - k)).2]) := fun l w => by rw [(hldr l w).2, spotCells_at hltr, spot_get hltr]
        generalize hlor : (spot sp (sp.length - 1 - k)).1 = lor at *
        generalize hhir : (spot sp (sp.length - 1 - k)).2 = hir at *
        have e0 : L1b[0]? = some (.cells (mkCells [a, ii turn]) 24) := hT1b.get (k := 0) t0'
        have e0' : ∀ M, (L1b ++ M)[0]? = some (.cells (mkCells [a, ii turn]) 24) := fun M => hT1b.gets (k := 0) t0' M
        have e2 : L1b[M1.length + 1 + 1]? = some (.cells (mkCells [v2, ii turn]) 24) := hT1b.get (k := 2) t2'
        have ra := s6.resz (P := Tryd.prog) 22
        refine WC_drawnB [.no, .no, .no, .no, .no, .no, .no, .no, .no, .no, .no, .full, .full, .full] (by kernel_rfl) ?_
        (repeat' (first
  | (with_reducible first | refine WC_seq ?_ | refine WC_skip ?_ | refine WC_label ?_ | refine WC_scope ?_ | refine WC_block ?_ | refine WC_ret ?_ | refine WC_exit ?_ | refine seqQ_norm ?_ | refine seqQ_ret ?_ | refine seqQ_exit ?_ | refine blkQ_norm ?_ | refine blkQ_ret ?_ | refine blkQ_here ?_ | refine gateK_yes ?_ | refine gateK_none ?_ | refine condK_tt ?_ | refine condK_ff ?_ | refine roundQ_exit ?_ | refine roundQ_ret ?_)
  | refine WC_region ?_ | refine blkQ_out rfl ?_ | refine WO_nil ?_ | refine WD_nil ?_
  | ((first | refine WD_gate rfl rfl rfl rfl rfl fun K_ hK_ => ?_ | refine WO_gate rfl rfl rfl rfl rfl fun K_ hK_ => ?_); simp only [upd_apply, asB_bool, asB_tup, ↓reduceIte, reduceCtorEq, Nat.reduceEqDiff, Bool.not_true, Bool.not_false]; refine hK_ _ ?_; clear hK_ K_)
  | refine gateK_no (by decide) ?_
  | ((try first | refine WO_op rfl rfl rfl ?_ | refine WO_op0 rfl rfl ?_ | refine WD_op rfl rfl rfl ?_ | refine WD_op0 rfl rfl ?_); (refine WV_gen fun Q_ hQ_ => ?_; simp (disch := first | omega | (simp only [List.length_cons, List.length_nil, List.length_append]; omega)) only [bb, bp, argF, ↓reduceIte, reduceCtorEq, Nat.reduceEqDiff, Nat.reduceLT, Nat.reduceLeDiff, Nat.reduceAdd, Nat.reduceMul, Nat.reduceSub, Nat.reduceBEq, Int.reduceToNat, cond_true, cond_false, eq_self, beq_self_eq_true, g1, g2, g4, g9, g10, g11, g12, g13, g17, g14, g15, g16, hnk, hixr, hldr', e0, e0', e2, ra, rs22, newPtr_X wf, load1_X wf, loadAgg_X wf, store1_X wf, writeCells_X wf, tEvV5, bsl_25, bsl_22, bsl_52, newSlice_X wf]; first | (refine dec_split (Q := Q_) (fun hp_ => ?_) (fun hp_ => ?_) <;> first | (exfalso; omega) | (refine hQ_ _ _ ?_; clear hQ_ Q_)) | (refine dec_splitn (Q := Q_) (fun hp_ => ?_) (fun hp_ => ?_) <;> first | (exfalso; omega) | (refine hQ_ _ _ ?_; clear hQ_ Q_)) | (refine hQ_ _ _ ?_; clear hQ_ Q_)))
  | (refine WC_cond fun K_ hK_ => ?_; simp (disch := omega) only [evT_tmp, upd_apply, WB_some, ↓reduceIte, reduceCtorEq, Nat.reduceEqDiff, Nat.reduceLT]; refine hK_ _ ?_; clear hK_ K_)))
        obtain ⟨v2', L2, w2, s6', hT2, hl2, ha2, hb2, happ2⟩ := (s6.keep (T' := kt T1 1 (some (M1.length + 1, .cells (mkCells [v1', ii turn]) 24))) (kt_ne (by decide))).app wf hT1b (P := Tryd.prog) (t := 22) un_22 sz_51 el_51 (new := [ii lor, ii hir]) (by omega) (by decide) rfl rfl 1 (h.clock + (L1b.length + 1)) (by omega)
        generalize hTn : kt (kt T1 1 (some (M1.length + 1, AO.cells (mkCells [v1', ii turn]) 24))) 6 (some (L1b.length + 1, AO.cells (mkCells (pairCells (sp.reverse.take k) ++ [ii lor, ii hir])) 51)) = T2 at *
        have t0'' : T2 0 = some (0, .cells (mkCells [a, ii turn]) 24) := by subst hTn; exact t0'
        have t1'' : T2 1 = some (M1.length + 1, .cells (mkCells [v1', ii turn]) 24) := by subst hTn; rfl
        have t2'' : T2 2 = some (M1.length + 1 + 1, .cells (mkCells [v2, ii turn]) 24) := by subst hTn; exact t2'
        have t3'' : T2 3 = some (M1.length + 1 + 2, .cells (mkCells [v3, ii turn]) 24) := by subst hTn; exact t3'
        have t4'' : T2 4 = some (jl, .cells (mkCells (line.map ii)) 2) := by subst hTn; exact t4'
        have t11'' : T2 11 = some (L.length, .cells (mkCells [ii lo, ii hi]) 51) := by subst hTn; exact t11'
        replace s5 := s5'.keep (T' := T2) (by subst hTn; rfl)
        replace s7 := s7.keep (T' := T2) (by subst hTn; rfl)
        replace s8 := s8.keep (T' := T2) (by subst hTn; rfl)
        replace s9 := s9.keep (T' := T2) (by subst hTn; rfl)
        replace s10 := s10.keep (T' := T2) (by subst hTn; rfl)
        have f2 := s6'.flat
        have e2b := hT2.get t2''
        (repeat' (first
  | (with_reducible first | refine WC_seq ?_ | refine WC_skip ?_ | refine WC_label ?_ | refine WC_scope ?_ | refine WC_block ?_ | refine WC_ret ?_ | refine WC_exit ?_ | refine seqQ_norm ?_ | refine seqQ_ret ?_ | refine seqQ_exit ?_ | refine blkQ_norm ?_ | refine blkQ_ret ?_ | refine blkQ_here ?_ | refine gateK_yes ?_ | refine gateK_none ?_ | refine condK_tt ?_ | refine condK_ff ?_ | refine roundQ_exit ?_ | refine roundQ_ret ?_)
  | refine WC_region ?_ | refine blkQ_out rfl ?_ | refine WO_nil ?_ | refine WD_nil ?_
  | ((first | refine WD_gate rfl rfl rfl rfl rfl fun K_ hK_ => ?_ | refine WO_gate rfl rfl rfl rfl rfl fun K_ hK_ => ?_); simp only [upd_apply, asB_bool, asB_tup, ↓reduceIte, reduceCtorEq, Nat.reduceEqDiff, Bool.not_true, Bool.not_false]; refine hK_ _ ?_; clear hK_ K_)
  | refine gateK_no (by decide) ?_
  | ((try first | refine WO_op rfl rfl rfl ?_ | refine WO_op0 rfl rfl ?_ | refine WD_op rfl rfl rfl ?_ | refine WD_op0 rfl rfl ?_); (refine WV_gen fun Q_ hQ_ => ?_; simp (disch := first | omega | (simp only [List.length_cons, List.length_nil, List.length_append]; omega)) only [bb, bp, argF, ↓reduceIte, reduceCtorEq, Nat.reduceEqDiff, Nat.reduceLT, Nat.reduceLeDiff, Nat.reduceAdd, Nat.reduceMul, Nat.reduceSub, Nat.reduceBEq, Int.reduceToNat, cond_true, cond_false, eq_self, beq_self_eq_true, g1, g2, g4, g9, g10, g11, g12, g13, g17, g14, g15, g16, e2b, f2.1, f2.2, happ2, ra, rs22, newPtr_X wf, load1_X wf, loadAgg_X wf, store1_X wf, writeCells_X wf, tEvV5, bsl_25, bsl_22, bsl_52, newSlice_X wf]; first | (refine dec_split (Q := Q_) (fun hp_ => ?_) (fun hp_ => ?_) <;> first | (exfalso; omega) | (refine hQ_ _ _ ?_; clear hQ_ Q_)) | (refine dec_splitn (Q := Q_) (fun hp_ => ?_) (fun hp_ => ?_) <;> first | (exfalso; omega) | (refine hQ_ _ _ ?_; clear hQ_ Q_)) | (refine hQ_ _ _ ?_; clear hQ_ Q_)))
  | (refine WC_cond fun K_ hK_ => ?_; simp (disch := omega) only [evT_tmp, upd_apply, WB_some, ↓reduceIte, reduceCtorEq, Nat.reduceEqDiff, Nat.reduceLT]; refine hK_ _ ?_; clear hK_ K_)))
        clear happ2 e2b hTn e0 e0' e2
        clear t0' t1' t2' t3' t4' t11' t0 t1 t2 t3 t4 s5' s6
        have hT2b := hT2.set t2'' (.cells (mkCells [v2', ii turn]) 24)
        have hl2b : (L2.set (M1.length + 1 + 1) (.cells (mkCells [v2', ii turn]) 24)).length = L.length + 5 := by rw [List.length_set]; omega
        generalize hLm : L2.set (M1.length + 1 + 1) (.cells (mkCells [v2', ii turn]) 24) = L2b at *
        have e3 : L2b[M1.length + 1 + 2]? = some (.cells (mkCells [v3, ii turn]) 24) := hT2b.get (k := 3) t3''
        have e11 : L2b[L.length]? = some (.cells (mkCells [ii lo, ii hi]) 51) := hT2b.get (k := 11) t11''
        have ra3 := s7.resz (P := Tryd.prog) 22
        generalize hwB : min (min (min (h.clock + (M1.length + 1)) w1) w2) (min (h.clock + (M1.length + 1 + 1)) (h.clock + L2.length)) = wB
        have hwB1 : h.clock ≤ wB := by omega
        have hwB2 : wB ≤ h.clock + (L.length + 5) := by omega
        obtain ⟨v3', L3, w3, s7', hT3, hl3, ha3, hb3, happ3⟩ := (s7.keep (T' := kt T2 2 (some (M1.length + 1 + 1, .cells (mkCells [v2', ii turn]) 24))) (kt_ne (by decide))).app wf hT2b (P := Tryd.prog) (t := 22) un_22 sz_51 el_51 (new := [ii (0 - hi), ii (0 - lo)]) (by omega) (by decide) rfl rfl 1 wB hwB1
        generalize hTn : kt (kt T2 2 (some (M1.length + 1 + 1, AO.cells (mkCells [v2', ii turn]) 24))) 7 (some (L2b.length + 1, AO.cells (mkCells (pairCells (mirR (sp.take k)) ++ [ii (0 - hi), ii (0 - lo)])) 51)) = T3 at *
        have t0 : T3 0 = some (0, .cells (mkCells [a, ii turn]) 24) := by subst hTn; exact t0''
        have t1 : T3 1 = some (M1.length + 1, .cells (mkCells [v1', ii turn]) 24) := by subst hTn; exact t1''
        have t2 : T3 2 = some (M1.length + 1 + 1, .cells (mkCells [v2', ii turn]) 24) := by subst hTn; rfl
        have t3 : T3 3 = some (M1.length + 1 + 2, .cells (mkCells [v3, ii turn]) 24) := by subst hTn; exact t3''
        have t4 : T3 4 = some (jl, .cells (mkCells (line.map ii)) 2) := by subst hTn; exact t4''
        replace s5 := s5.keep (T' := T3) (by subst hTn; rfl)
        replace s6 := s6'.keep (T' := T3) (by subst hTn; rfl)
        replace s8 := s8.keep (T' := T3) (by subst hTn; rfl)
        replace s9 := s9.keep (T' := T3) (by subst hTn; rfl)
        replace s10 := s10.keep (T' := T3) (by subst hTn; rfl)
        have f3 := s7'.flat
        have e3b := hT3.get t3
        have e3' : ∀ M, (L2b ++ M)[L.length]? = some (.cells (mkCells [ii lo, ii hi]) 51) := fun M => hT2b.gets (k := 11) t11'' M
        have r8 := s8.resz (P := Tryd.prog) 25
        have r9 := s9.resz (P := Tryd.prog) 25
        have r10 := s10.resz (P := Tryd.prog) 25
        clear t0'' t1'' t2'' t3'' t4'' t11'' s6' hnk hixr
        (repeat' (first
  | (with_reducible first | refine WC_seq ?_ | refine WC_skip ?_ | refine WC_label ?_ | refine WC_scope ?_ | refine WC_block ?_ | refine WC_ret ?_ | refine WC_exit ?_ | refine seqQ_norm ?_ | refine seqQ_ret ?_ | refine seqQ_exit ?_ | refine blkQ_norm ?_ | refine blkQ_ret ?_ | refine blkQ_here ?_ | refine gateK_yes ?_ | refine gateK_none ?_ | refine condK_tt ?_ | refine condK_ff ?_ | refine roundQ_exit ?_ | refine roundQ_ret ?_)
  | refine WC_region ?_ | refine blkQ_out rfl ?_ | refine WO_nil ?_ | refine WD_nil ?_
  | ((first | refine WD_gate rfl rfl rfl rfl rfl fun K_ hK_ => ?_ | refine WO_gate rfl rfl rfl rfl rfl fun K_ hK_ => ?_); simp only [upd_apply, asB_bool, asB_tup, ↓reduceIte, reduceCtorEq, Nat.reduceEqDiff, Bool.not_true, Bool.not_false]; refine hK_ _ ?_; clear hK_ K_)
  | refine gateK_no (by decide) ?_
  | ((try first | refine WO_op rfl rfl rfl ?_ | refine WO_op0 rfl rfl ?_ | refine WD_op rfl rfl rfl ?_ | refine WD_op0 rfl rfl ?_); (refine WV_gen fun Q_ hQ_ => ?_; simp (disch := first | omega | (simp only [List.length_cons, List.length_nil, List.length_append]; omega)) only [bb, bp, argF, ↓reduceIte, reduceCtorEq, Nat.reduceEqDiff, Nat.reduceLT, Nat.reduceLeDiff, Nat.reduceAdd, Nat.reduceMul, Nat.reduceSub, Nat.reduceBEq, Int.reduceToNat, cond_true, cond_false, eq_self, beq_self_eq_true, g1, g2, g4, g9, g10, g11, g12, g13, g17, g14, g15, g16, e3, e3b, e3', e11, f3.1, f3.2, happ3, ra3, rs22, newPtr_X wf, load1_X wf, loadAgg_X wf, store1_X wf, writeCells_X wf, tEvV5, bsl_25, bsl_22, bsl_52, newSlice_X wf]; first | (refine dec_split (Q := Q_) (fun hp_ => ?_) (fun hp_ => ?_) <;> first | (exfalso; omega) | (refine hQ_ _ _ ?_; clear hQ_ Q_)) | (refine dec_splitn (Q := Q_) (fun hp_ => ?_) (fun hp_ => ?_) <;> first | (exfalso; omega) | (refine hQ_ _ _ ?_; clear hQ_ Q_)) | (refine hQ_ _ _ ?_; clear hQ_ Q_)))
  | (refine WC_cond fun K_ hK_ => ?_; simp (disch := omega) only [evT_tmp, upd_apply, WB_some, ↓reduceIte, reduceCtorEq, Nat.reduceEqDiff, Nat.reduceLT]; refine hK_ _ ?_; clear hK_ K_)))
        clear happ3 e3b hTn e3 e3' e11
        have hT3b := hT3.set t3 (.cells (mkCells [v3', ii turn]) 24)
        have hl3b : (L3.set (M1.length + 1 + 2) (.cells (mkCells [v3', ii turn]) 24)).length = L.length + 7 := by rw [List.length_set]; omega
        generalize hLk : L3.set (M1.length + 1 + 2) (.cells (mkCells [v3', ii turn]) 24) = L3b at *
        generalize hTn : kt T3 3 (some (M1.length + 1 + 2, AO.cells (mkCells [v3', ii turn]) 24)) = T4 at *
        replace t0 : T4 0 = some (0, .cells (mkCells [a, ii turn]) 24) := by subst hTn; exact t0
        replace t1 : T4 1 = some (M1.length + 1, .cells (mkCells [v1', ii turn]) 24) := by subst hTn; exact t1
        replace t2 : T4 2 = some (M1.length + 1 + 1, .cells (mkCells [v2', ii turn]) 24) := by subst hTn; exact t2
        replace t3 : T4 3 = some (M1.length + 1 + 2, .cells (mkCells [v3', ii turn]) 24) := by subst hTn; rfl
        replace t4 : T4 4 = some (jl, .cells (mkCells (line.map ii)) 2) := by subst hTn; exact t4
        replace s5 := s5.keep (T' := T4) (by subst hTn; rfl)
        replace s6 := s6.keep (T' := T4) (by subst hTn; rfl)
        replace s7 := s7'.keep (T' := T4) (by subst hTn; rfl)
        replace s8 := s8.keep (T' := T4) (by subst hTn; rfl)
        replace s9 := s9.keep (T' := T4) (by subst hTn; rfl)
        replace s10 := s10.keep (T' := T4) (by subst hTn; rfl)
        clear hTn s7' hLk hLm hLn
        generalize hwC : min (h.clock + (M1.length + 1 + 2)) w3 = wC
        have hwC1 : h.clock ≤ wC := by omega
        have hwC2 : wC ≤ h.clock + (L.length + 7) := by omega
        have hkl : k < line.length := by omega
        have hrl : sp.length - 1 - k < line.length := by omega
        have hoff := InR.off hok hln
        have hy := List.getElem?_eq_getElem hkl
        have hz := List.getElem?_eq_getElem hrl
        have hy1 := hoff _ (List.getElem_mem hkl)
        have hz1 := hoff _ (List.getElem_mem hrl)
        generalize line[k] = y at hy hy1
        generalize line[sp.length - 1 - k] = z at hz hz1
        obtain ⟨y1, y2⟩ := hy1
        obtain ⟨z1, z2⟩ := hz1
        have my : (line.map ii)[k]? = some (ii y) := by rw [List.getElem?_map, hy]; rfl
        have mz : (line.map ii)[sp.length - 1 - k]? = some (ii z) := by rw [List.getElem?_map, hz]; rfl
        have ixl : ∀ i, i < sp.length → indexAddrE Tryd.prog 25 lv (.int .i64 (i : Int)) = some (.ptr (nx h jl) i) := fun i hi => by
          rw [elv, indexAddrE_def, toNatE_lit]; dsimp only; rw [ik_25]; dsimp only; rw [indexAt_sl hi, Nat.zero_add, Nat.mul_one]
        have ix1 := ixl k hlt
        have ix2 := ixl _ hltr
        have hnk : (sp.length : Int) - 1 - (k : Int) = ((sp.length - 1 - k : Nat) : Int) := by omega
        have eL : L3b[jl]? = some (.cells (mkCells (line.map ii)) 2) := hT3b.get t4
        obtain ⟨u1', L4, w4, s8', hT4, hl4, ha4, hb4, happ4⟩ := s8.app wf hT3b (P := Tryd.prog) (t := 25) un_25 sz_2 el_2 (new := [ii (y + (ad + ti * (k : Int)))]) (by omega) (by decide) rfl rfl 1 wC hwC1
        generalize hTn : kt T4 8 (some (L3b.length + 1, AO.cells (mkCells ((tiltF ad ti (line.take k)).map ii ++ [ii (y + (ad + ti * (k : Int)))])) 2)) = T5 at *
        replace t0 : T5 0 = some (0, .cells (mkCells [a, ii turn]) 24) := by subst hTn; exact t0
        replace t1 : T5 1 = some (M1.length + 1, .cells (mkCells [v1', ii turn]) 24) := by subst hTn; exact t1
        replace t2 : T5 2 = some (M1.length + 1 + 1, .cells (mkCells [v2', ii turn]) 24) := by subst hTn; exact t2
        replace t3 : T5 3 = some (M1.length + 1 + 2, .cells (mkCells [v3', ii turn]) 24) := by subst hTn; exact t3
        replace t4 : T5 4 = some (jl, .cells (mkCells (line.map ii)) 2) := by subst hTn; exact t4
        replace s5 := s5.keep (T' := T5) (by subst hTn; rfl)
        replace s6 := s6.keep (T' := T5) (by subst hTn; rfl)
        replace s7 := s7.keep (T' := T5) (by subst hTn; rfl)
        replace s9 := s9.keep (T' := T5) (by subst hTn; rfl)
        replace s10 := s10.keep (T' := T5) (by subst hTn; rfl)
        have f4 := s8'.flat
        (repeat' (first
  | (with_reducible first | refine WC_seq ?_ | refine WC_skip ?_ | refine WC_label ?_ | refine WC_scope ?_ | refine WC_block ?_ | refine WC_ret ?_ | refine WC_exit ?_ | refine seqQ_norm ?_ | refine seqQ_ret ?_ | refine seqQ_exit ?_ | refine blkQ_norm ?_ | refine blkQ_ret ?_ | refine blkQ_here ?_ | refine gateK_yes ?_ | refine gateK_none ?_ | refine condK_tt ?_ | refine condK_ff ?_ | refine roundQ_exit ?_ | refine roundQ_ret ?_)
  | refine WC_region ?_ | refine blkQ_out rfl ?_ | refine WO_nil ?_ | refine WD_nil ?_
  | ((first | refine WD_gate rfl rfl rfl rfl rfl fun K_ hK_ => ?_ | refine WO_gate rfl rfl rfl rfl rfl fun K_ hK_ => ?_); simp only [upd_apply, asB_bool, asB_tup, ↓reduceIte, reduceCtorEq, Nat.reduceEqDiff, Bool.not_true, Bool.not_false]; refine hK_ _ ?_; clear hK_ K_)
  | refine gateK_no (by decide) ?_
  | ((try first | refine WO_op rfl rfl rfl ?_ | refine WO_op0 rfl rfl ?_ | refine WD_op rfl rfl rfl ?_ | refine WD_op0 rfl rfl ?_); (refine WV_gen fun Q_ hQ_ => ?_; simp (disch := first | omega | (simp only [List.length_cons, List.length_nil, List.length_append]; omega)) only [bb, bp, argF, ↓reduceIte, reduceCtorEq, Nat.reduceEqDiff, Nat.reduceLT, Nat.reduceLeDiff, Nat.reduceAdd, Nat.reduceMul, Nat.reduceSub, Nat.reduceBEq, Int.reduceToNat, cond_true, cond_false, eq_self, beq_self_eq_true, g1, g2, g4, g9, g10, g11, g12, g13, g17, g14, g15, g16, ix1, eL, my, f4.1, f4.2, happ4, r8, r9, r10, rs25, newPtr_X wf, load1_X wf, loadAgg_X wf, store1_X wf, writeCells_X wf, tEvV5, bsl_25, bsl_22, bsl_52, newSlice_X wf]; first | (refine dec_split (Q := Q_) (fun hp_ => ?_) (fun hp_ => ?_) <;> first | (exfalso; omega) | (refine hQ_ _ _ ?_; clear hQ_ Q_)) | (refine dec_splitn (Q := Q_) (fun hp_ => ?_) (fun hp_ => ?_) <;> first | (exfalso; omega) | (refine hQ_ _ _ ?_; clear hQ_ Q_)) | (refine hQ_ _ _ ?_; clear hQ_ Q_)))
  | (refine WC_cond fun K_ hK_ => ?_; simp (disch := omega) only [evT_tmp, upd_apply, WB_some, ↓reduceIte, reduceCtorEq, Nat.reduceEqDiff, Nat.reduceLT]; refine hK_ _ ?_; clear hK_ K_)))
        clear happ4 eL hTn
        have eL : L4[jl]? = some (.cells (mkCells (line.map ii)) 2) := hT4.get t4
        obtain ⟨u2', L5, w5, s9', hT5, hl5, ha5, hb5, happ5⟩ := s9.app wf hT4 (P := Tryd.prog) (t := 25) un_25 sz_2 el_2 (new := [ii z]) (by omega) (by decide) rfl rfl 1 w4 ha4
        generalize hTn : kt T5 9 (some (L4.length + 1, AO.cells (mkCells ((line.reverse.take k).map ii ++ [ii z])) 2)) = T6 at *
        replace t0 : T6 0 = some (0, .cells (mkCells [a, ii turn]) 24) := by subst hTn; exact t0
        replace t1 : T6 1 = some (M1.length + 1, .cells (mkCells [v1', ii turn]) 24) := by subst hTn; exact t1
        replace t2 : T6 2 = some (M1.length + 1 + 1, .cells (mkCells [v2', ii turn]) 24) := by subst hTn; exact t2
        replace t3 : T6 3 = some (M1.length + 1 + 2, .cells (mkCells [v3', ii turn]) 24) := by subst hTn; exact t3
        replace t4 : T6 4 = some (jl, .cells (mkCells (line.map ii)) 2) := by subst hTn; exact t4
        replace s5 := s5.keep (T' := T6) (by subst hTn; rfl)
        replace s6 := s6.keep (T' := T6) (by subst hTn; rfl)
        replace s7 := s7.keep (T' := T6) (by subst hTn; rfl)
        replace s8 := s8'.keep (T' := T6) (by subst hTn; rfl)
        replace s10 := s10.keep (T' := T6) (by subst hTn; rfl)
        have f5 := s9'.flat
        (repeat' (first
  | (with_reducible first | refine WC_seq ?_ | refine WC_skip ?_ | refine WC_label ?_ | refine WC_scope ?_ | refine WC_block ?_ | refine WC_ret ?_ | refine WC_exit ?_ | refine seqQ_norm ?_ | refine seqQ_ret ?_ | refine seqQ_exit ?_ | refine blkQ_norm ?_ | refine blkQ_ret ?_ | refine blkQ_here ?_ | refine gateK_yes ?_ | refine gateK_none ?_ | refine condK_tt ?_ | refine condK_ff ?_ | refine roundQ_exit ?_ | refine roundQ_ret ?_)
  | refine WC_region ?_ | refine blkQ_out rfl ?_ | refine WO_nil ?_ | refine WD_nil ?_
  | ((first | refine WD_gate rfl rfl rfl rfl rfl fun K_ hK_ => ?_ | refine WO_gate rfl rfl rfl rfl rfl fun K_ hK_ => ?_); simp only [upd_apply, asB_bool, asB_tup, ↓reduceIte, reduceCtorEq, Nat.reduceEqDiff, Bool.not_true, Bool.not_false]; refine hK_ _ ?_; clear hK_ K_)
  | refine gateK_no (by decide) ?_
  | ((try first | refine WO_op rfl rfl rfl ?_ | refine WO_op0 rfl rfl ?_ | refine WD_op rfl rfl rfl ?_ | refine WD_op0 rfl rfl ?_); (refine WV_gen fun Q_ hQ_ => ?_; simp (disch := first | omega | (simp only [List.length_cons, List.length_nil, List.length_append]; omega)) only [bb, bp, argF, ↓reduceIte, reduceCtorEq, Nat.reduceEqDiff, Nat.reduceLT, Nat.reduceLeDiff, Nat.reduceAdd, Nat.reduceMul, Nat.reduceSub, Nat.reduceBEq, Int.reduceToNat, cond_true, cond_false, eq_self, beq_self_eq_true, g1, g2, g4, g9, g10, g11, g12, g13, g17, g14, g15, g16, ix2, hnk, eL, mz, f5.1, f5.2, happ5, r8, r9, r10, rs25, newPtr_X wf, load1_X wf, loadAgg_X wf, store1_X wf, writeCells_X wf, tEvV5, bsl_25, bsl_22, bsl_52, newSlice_X wf]; first | (refine dec_split (Q := Q_) (fun hp_ => ?_) (fun hp_ => ?_) <;> first | (exfalso; omega) | (refine hQ_ _ _ ?_; clear hQ_ Q_)) | (refine dec_splitn (Q := Q_) (fun hp_ => ?_) (fun hp_ => ?_) <;> first | (exfalso; omega) | (refine hQ_ _ _ ?_; clear hQ_ Q_)) | (refine hQ_ _ _ ?_; clear hQ_ Q_)))
  | (refine WC_cond fun K_ hK_ => ?_; simp (disch := omega) only [evT_tmp, upd_apply, WB_some, ↓reduceIte, reduceCtorEq, Nat.reduceEqDiff, Nat.reduceLT]; refine hK_ _ ?_; clear hK_ K_)))
        clear happ5 eL hTn
        have eL : L5[jl]? = some (.cells (mkCells (line.map ii)) 2) := hT5.get t4
        obtain ⟨u3', L6, w6, s10', hT6, hl6, ha6, hb6, happ6⟩ := s10.app wf hT5 (P := Tryd.prog) (t := 25) un_25 sz_2 el_2 (new := [ii (0 - y)]) (by omega) (by decide) rfl rfl 1 w5 ha5
        generalize hTn : kt T6 10 (some (L5.length + 1, AO.cells (mkCells (((line.take k).map fun d => -d).map ii ++ [ii (0 - y)])) 2)) = T7 at *
        replace t0 : T7 0 = some (0, .cells (mkCells [a, ii turn]) 24) := by subst hTn; exact t0
        replace t1 : T7 1 = some (M1.length + 1, .cells (mkCells [v1', ii turn]) 24) := by subst hTn; exact t1
        replace t2 : T7 2 = some (M1.length + 1 + 1, .cells (mkCells [v2', ii turn]) 24) := by subst hTn; exact t2
        replace t3 : T7 3 = some (M1.length + 1 + 2, .cells (mkCells [v3', ii turn]) 24) := by subst hTn; exact t3
        replace t4 : T7 4 = some (jl, .cells (mkCells (line.map ii)) 2) := by subst hTn; exact t4
        replace s5 := s5.keep (T' := T7) (by subst hTn; rfl)
        replace s6 := s6.keep (T' := T7) (by subst hTn; rfl)
        replace s7 := s7.keep (T' := T7) (by subst hTn; rfl)
        replace s8 := s8.keep (T' := T7) (by subst hTn; rfl)
        replace s9 := s9'.keep (T' := T7) (by subst hTn; rfl)
        have f6 := s10'.flat
        (repeat' (first
  | (with_reducible first | refine WC_seq ?_ | refine WC_skip ?_ | refine WC_label ?_ | refine WC_scope ?_ | refine WC_block ?_ | refine WC_ret ?_ | refine WC_exit ?_ | refine seqQ_norm ?_ | refine seqQ_ret ?_ | refine seqQ_exit ?_ | refine blkQ_norm ?_ | refine blkQ_ret ?_ | refine blkQ_here ?_ | refine gateK_yes ?_ | refine gateK_none ?_ | refine condK_tt ?_ | refine condK_ff ?_ | refine roundQ_exit ?_ | refine roundQ_ret ?_)
  | refine WC_region ?_ | refine blkQ_out rfl ?_ | refine WO_nil ?_ | refine WD_nil ?_
  | ((first | refine WD_gate rfl rfl rfl rfl rfl fun K_ hK_ => ?_ | refine WO_gate rfl rfl rfl rfl rfl fun K_ hK_ => ?_); simp only [upd_apply, asB_bool, asB_tup, ↓reduceIte, reduceCtorEq, Nat.reduceEqDiff, Bool.not_true, Bool.not_false]; refine hK_ _ ?_; clear hK_ K_)
  | refine gateK_no (by decide) ?_
  | ((try first | refine WO_op rfl rfl rfl ?_ | refine WO_op0 rfl rfl ?_ | refine WD_op rfl rfl rfl ?_ | refine WD_op0 rfl rfl ?_); (refine WV_gen fun Q_ hQ_ => ?_; simp (disch := first | omega | (simp only [List.length_cons, List.length_nil, List.length_append]; omega)) only [bb, bp, argF, ↓reduceIte, reduceCtorEq, Nat.reduceEqDiff, Nat.reduceLT, Nat.reduceLeDiff, Nat.reduceAdd, Nat.reduceMul, Nat.reduceSub, Nat.reduceBEq, Int.reduceToNat, cond_true, cond_false, eq_self, beq_self_eq_true, g1, g2, g4, g9, g10, g11, g12, g13, g17, g14, g15, g16, ix1, eL, my, f6.1, f6.2, happ6, r8, r9, r10, rs25, newPtr_X wf, load1_X wf, loadAgg_X wf, store1_X wf, writeCells_X wf, tEvV5, bsl_25, bsl_22, bsl_52, newSlice_X wf]; first | (refine dec_split (Q := Q_) (fun hp_ => ?_) (fun hp_ => ?_) <;> first | (exfalso; omega) | (refine hQ_ _ _ ?_; clear hQ_ Q_)) | (refine dec_splitn (Q := Q_) (fun hp_ => ?_) (fun hp_ => ?_) <;> first | (exfalso; omega) | (refine hQ_ _ _ ?_; clear hQ_ Q_)) | (refine hQ_ _ _ ?_; clear hQ_ Q_)))
  | (refine WC_cond fun K_ hK_ => ?_; simp (disch := omega) only [evT_tmp, upd_apply, WB_some, ↓reduceIte, reduceCtorEq, Nat.reduceEqDiff, Nat.reduceLT]; refine hK_ _ ?_; clear hK_ K_)))
        have hspk : sp[k]? = some (lo, hi) := by rw [List.getElem?_eq_getElem hlt, spot_get hlt, ← hlo, ← hhi]
        have hspr : sp[sp.length - 1 - k]? = some (lor, hir) := by rw [List.getElem?_eq_getElem hltr, spot_get hltr, ← hlor, ← hhir]
        have pcs : ∀ (R : List (Int × Int)) (x : Int × Int), pairCells R ++ [ii x.1, ii x.2] = pairCells (R ++ [x]) := fun R x => by unfold pairCells; rw [List.flatMap_append]; rfl
        rw [pcs _ (_, _), ← tiltR_step hspk] at s5
        rw [pcs _ (_, _), ← rev_step rfl hlt hspr] at s6
        rw [pcs _ (_, _), Int.zero_sub, Int.zero_sub, ← mirR_step hspk] at s7
        have mps : ∀ (l : List Int) (x : Int), l.map ii ++ [ii x] = (l ++ [x]).map ii := fun l x => by rw [List.map_append]; rfl
        rw [mps, ← tiltF_step hy] at s8
        rw [mps, ← rev_step hll hlt hz] at s9
        rw [mps, Int.zero_sub, show (line.take k).map (fun d => -d) ++ [-y] = (line.take (k + 1)).map (fun d => -d) from by rw [take_snoc hy, List.map_append]; rfl] at s10'
        exact roundQ_again (k + 1) (by omega) ⟨hlt, by simp only [upd_apply, ↓reduceIte, reduceCtorEq, Nat.reduceEqDiff]; exact g1, by simp only [upd_apply, ↓reduceIte, reduceCtorEq, Nat.reduceEqDiff]; exact g2, by simp only [upd_apply, ↓reduceIte, reduceCtorEq, Nat.reduceEqDiff]; exact g3, by simp only [upd_apply, ↓reduceIte, reduceCtorEq, Nat.reduceEqDiff]; exact g4, by simp only [upd_apply, ↓reduceIte, reduceCtorEq, Nat.reduceEqDiff]; exact g9, by simp only [upd_apply, ↓reduceIte, reduceCtorEq, Nat.reduceEqDiff]; exact g10, by simp only [upd_apply, ↓reduceIte, reduceCtorEq, Nat.reduceEqDiff]; exact g11, by simp only [upd_apply, ↓reduceIte, reduceCtorEq, Nat.reduceEqDiff]; exact g12, by simp only [upd_apply, ↓reduceIte, reduceCtorEq, Nat.reduceEqDiff]; exact g13, by simp only [upd_apply, ↓reduceIte, reduceCtorEq, Nat.reduceEqDiff]; rfl, rfl, L6, w6, T7, v1', v2', v3', rfl, ha6, by omega, hT6, t0, t4, t1, t2, t3, s5, s6, s7, by simp only [upd_apply, ↓reduceIte, reduceCtorEq, Nat.reduceEqDiff]; exact s8, by simp only [upd_apply, ↓reduceIte, reduceCtorEq, Nat.reduceEqDiff]; exact s9, by simp only [upd_apply, ↓reduceIte, reduceCtorEq, Nat.reduceEqDiff]; exact s10'⟩
      · have hke : k = sp.length := by omega
        subst hke
        have hne : sp.length ≠ 0 := by omega
        rw [List.take_length] at s5 s7
        rw [show sp.reverse.take sp.length = sp.reverse from List.take_of_length_le (by simp)] at s6
        rw [show line.take sp.length = line from List.take_of_length_le (by omega)] at s8 s10
        rw [show line.reverse.take sp.length = line.reverse from List.take_of_length_le (by simp; omega)] at s9
        have q1 : ∀ M w, Sl (X h (L ++ M) w) v1 2 (tiltR ad ti sp).length (spotCells (tiltR ad ti sp)) := fun M w => by rw [tiltR_len]; exact s5.sl wf (hT.push M) w
        have q2 : ∀ M w, Sl (X h (L ++ M) w) v2 2 sp.reverse.length (spotCells sp.reverse) := fun M w => by rw [List.length_reverse]; exact s6.sl wf (hT.push M) w
        have q3 : ∀ M w, Sl (X h (L ++ M) w) v3 2 (mirR sp).length (spotCells (mirR sp)) := fun M w => by rw [mirR_len]; exact s7.sl wf (hT.push M) w
        have q1' : Sl (X h L w) v1 2 (tiltR ad ti sp).length (spotCells (tiltR ad ti sp)) := by have := q1 [] w; rwa [List.append_nil] at this
        have hfx : (om Tryd.prog KK).call (.fn 28 [.agg [v1, ii turn]]) (X h L w) = .ok (.bool (decide (spotsR (tiltR ad ti sp) turn = 0))) (X h L w) := fineSpots (tiltR ad ti sp) turn v1 _ (wf.X hw2) q1'
        have f1 := s5.flat
        by_cases htl : spotsR (tiltR ad ti sp) turn = 0
        · rw [decide_eq_true htl] at hfx
          obtain ⟨p1, p24, hokt, _⟩ := spotsR_ok htl
          have hokr : ∀ r ∈ sp.reverse, SpotOK r := fun r hr => hok r (List.mem_reverse.1 hr)
          have hokm : ∀ r ∈ mirR sp, SpotOK r := fun r hr => by
            obtain ⟨q, hq, rfl⟩ := List.mem_map.1 hr
            obtain ⟨⟨o1, o2⟩, ⟨o3, o4⟩, o5, o6⟩ := hok q hq
            exact ⟨⟨by show -1000000 ≤ -q.2; omega, by show -q.2 ≤ 1000000; omega⟩, ⟨by show -1000000 ≤ -q.1; omega, by show -q.1 ≤ 1000000; omega⟩, by show -q.2 ≤ -q.1; omega, by show -q.1 - -q.2 ≤ 4; omega⟩
          have hvr : spotsR sp.reverse turn = 0 := spotsR_of (by simpa using n1) (by simpa using n24) hokr hturn
          have hvm : spotsR (mirR sp) turn = 0 := spotsR_of (by rw [mirR_len]; exact n1) (by rw [mirR_len]; exact n24) hokm hturn
          have meq : ∀ l : List Int, (∀ t, Cost (payI t) l = Cost (payI t) line) → measOf l = measOf line := fun l hc => by
            have h0 := hc 0
            have h1 := hc 1
            rw [← cost_meas, ← cost_meas] at h0 h1
            exact Prod.ext (by omega) (by omega)
          have hmr : ∀ l : List Int, l.length = sp.length → (∀ x ∈ l, Off x) → measOf l = measOf line → measR l = ((measOf line).1, (measOf line).2, 0) := fun l hl hx he => by
            unfold measR
            rw [if_neg (by omega), if_pos hx, he]
          generalize (measOf line).1 = ch at *
          generalize (measOf line).2 = be at *
          have hofl := InR.off hok hln
          have capn : ∀ idx n, CapU 1 (.sl (nx h idx) 0 n none 1) := fun idx n => capu_none
          have hcu : CapU 1 lv := by
            rw [elv]
            rcases hcl with rfl | rfl
            · exact capu_none
            · rw [List.length_map, hll]; exact capu_some (Nat.le_refl _)
          have m0 : (om Tryd.prog KK).call (.fn 10 [lv]) (X h L w) = .ok (.tup [ii ch, ii be, ii 0]) (X h L w) := by
            have := Measure line lv (by omega) hcu (X h L w) (wf.X hw2) (by rw [elv, hll]; exact Sl.new wf (by rw [List.length_map, hll, Nat.mul_one]) (hT.get t4))
            rwa [hmr line hll hofl rfl] at this
          have mk : ∀ (key : Nat) (u : AV) (l : List Int), SlK h T key u 1 2 sp.length (l.map ii) → l.length = sp.length → (∀ x ∈ l, Off x) → measOf l = measOf line → (AV.cells u = [u] ∧ oneB u = true) ∧ ∀ M, (om Tryd.prog KK).call (.fn 10 [u]) (X h (L ++ M) w) = .ok (.tup [ii ch, ii be, ii 0]) (X h (L ++ M) w) := fun key u l su hl hx he => by
            refine ⟨su.flat, fun M => ?_⟩
            have hsl := su.sl wf (hT.push M) w
            obtain ⟨idx, rfl, _⟩ := su.capu hne
            have := Measure l _ (by omega) (capn idx sp.length) (X h (L ++ M) w) (wf.X (by rw [List.length_append]; omega)) (by rw [hl]; exact hsl)
            rwa [hmr l hl hx he] at this
          have mk1 := mk 8 u1 _ s8 (by rw [tiltF_len]; exact hll) (InR.off hokt (hln.tilt ti ad)) (meq _ fun t => Cost_tilt t ad ti line)
          have mk2 := mk 9 u2 _ s9 (by rw [List.length_reverse]; exact hll) (fun x hx => hofl x (List.mem_reverse.1 hx)) (meq _ fun t => Cost_rev t line)
          have mk3 := mk 10 u3 _ s10 (by rw [List.length_map]; exact hll) (fun x hx => by
            obtain ⟨q, hq, rfl⟩ := List.mem_map.1 hx
            obtain ⟨o1, o2⟩ := hofl q hq
            exact ⟨by omega, by omega⟩) (meq _ fun t => Cost_neg t line)
          have hmk : ∀ k, k < 3 → ∃ u, [u1, u2, u3][k]? = some u ∧ (AV.cells u = [u] ∧ oneB u = true) ∧ ∀ M, (om Tryd.prog KK).call (.fn 10 [u]) (X h (L ++ M) w) = .ok (.tup [ii ch, ii be, ii 0]) (X h (L ++ M) w) := fun k hk => by
            rcases (show k = 0 ∨ k = 1 ∨ k = 2 by omega) with rfl | rfl | rfl
            · exact ⟨u1, rfl, mk1⟩
            · exact ⟨u2, rfl, mk2⟩
            · exact ⟨u3, rfl, mk3⟩
          have rs52 : ∀ (id : Pos) (off len c esz : Nat), reszT Tryd.prog 52 (.sl id off len (some c) esz) = .sl id off len (some c) 1 := fun id off len c esz => reszT_some un_52 sz_25
          have r8 := s8.resz (P := Tryd.prog) 25
          have r9 := s9.resz (P := Tryd.prog) 25
          have r10 := s10.resz (P := Tryd.prog) 25
          have lf : AV.cells lv = [lv] ∧ oneB lv = true := by rw [elv]; exact ⟨rfl, rfl⟩
          (repeat' (first
  | (with_reducible first | refine WC_seq ?_ | refine WC_skip ?_ | refine WC_label ?_ | refine WC_scope ?_ | refine WC_block ?_ | refine WC_ret ?_ | refine WC_exit ?_ | refine seqQ_norm ?_ | refine seqQ_ret ?_ | refine seqQ_exit ?_ | refine blkQ_norm ?_ | refine blkQ_ret ?_ | refine blkQ_here ?_ | refine gateK_yes ?_ | refine gateK_none ?_ | refine condK_tt ?_ | refine condK_ff ?_ | refine roundQ_exit ?_ | refine roundQ_ret ?_)
  | refine WC_region ?_ | refine blkQ_out rfl ?_ | refine WO_nil ?_ | refine WD_nil ?_
  | ((first | refine WD_gate rfl rfl rfl rfl rfl fun K_ hK_ => ?_ | refine WO_gate rfl rfl rfl rfl rfl fun K_ hK_ => ?_); simp only [upd_apply, asB_bool, asB_tup, ↓reduceIte, reduceCtorEq, Nat.reduceEqDiff, Bool.not_true, Bool.not_false]; refine hK_ _ ?_; clear hK_ K_)
  | refine gateK_no (by decide) ?_
  | ((try first | refine WO_op rfl rfl rfl ?_ | refine WO_op0 rfl rfl ?_ | refine WD_op rfl rfl rfl ?_ | refine WD_op0 rfl rfl ?_); (refine WV_gen fun Q_ hQ_ => ?_; simp (disch := first | omega | (simp only [List.length_cons, List.length_nil, List.length_append]; omega)) only [bb, bp, argF, ↓reduceIte, reduceCtorEq, Nat.reduceEqDiff, Nat.reduceLT, Nat.reduceLeDiff, Nat.reduceAdd, Nat.reduceMul, Nat.reduceSub, Nat.reduceBEq, Int.reduceToNat, cond_true, cond_false, eq_self, beq_self_eq_true, g1, g2, g4, g9, g10, g11, g12, g13, g17, g14, g15, g16, e1, f1.1, f1.2, hfx, m0, lf.1, lf.2, mk1.1.1, mk1.1.2, mk2.1.1, mk2.1.2, mk3.1.1, mk3.1.2, r8, r9, r10, rs52, works', newPtr_X wf, load1_X wf, loadAgg_X wf, store1_X wf, writeCells_X wf, tEvV5, bsl_25, bsl_22, bsl_52, newSlice_X wf]; first | (refine dec_split (Q := Q_) (fun hp_ => ?_) (fun hp_ => ?_) <;> first | (exfalso; omega) | (refine hQ_ _ _ ?_; clear hQ_ Q_)) | (refine dec_splitn (Q := Q_) (fun hp_ => ?_) (fun hp_ => ?_) <;> first | (exfalso; omega) | (refine hQ_ _ _ ?_; clear hQ_ Q_)) | (refine hQ_ _ _ ?_; clear hQ_ Q_)))
  | (refine WC_cond fun K_ hK_ => ?_; simp (disch := omega) only [evT_tmp, upd_apply, WB_some, ↓reduceIte, reduceCtorEq, Nat.reduceEqDiff, Nat.reduceLT]; refine hK_ _ ?_; clear hK_ K_)))
          refine WC_loop (fun (k : Nat) f d h' => k ≤ 3 ∧ f 1 = .int .i16 ad ∧ f 2 = .int .i16 ti ∧ f 4 = .ptr (nx h 0) 0 ∧ f 10 = ii (sp.length : Int) ∧ f 11 = .ptr (nx h (M1.length + 1)) 0 ∧ f 12 = .ptr (nx h (M1.length + 1 + 1)) 0 ∧ f 13 = .ptr (nx h (M1.length + 1 + 2)) 0 ∧ f 20 = ii ch ∧ f 21 = ii be ∧ f 22 = ii 0 ∧ f 23 = .sl (nx h L.length) 0 3 (some 3) 1 ∧ f 24 = ii (k : Int) ∧ d = [] ∧ h' = X h (L ++ [.cells (mkCells [u1, u2, u3]) 25]) w) (fun k => 3 - k) ?_ 4 0 (by omega) ?_
          rotate_left 1
          · exact ⟨by omega, by (try simp only [upd_apply, ↓reduceIte, reduceCtorEq, Nat.reduceEqDiff]); exact g1, by (try simp only [upd_apply, ↓reduceIte, reduceCtorEq, Nat.reduceEqDiff]); exact g2, by (try simp only [upd_apply, ↓reduceIte, reduceCtorEq, Nat.reduceEqDiff]); exact g4, by (try simp only [upd_apply, ↓reduceIte, reduceCtorEq, Nat.reduceEqDiff]); exact g10, by (try simp only [upd_apply, ↓reduceIte, reduceCtorEq, Nat.reduceEqDiff]); exact g11, by (try simp only [upd_apply, ↓reduceIte, reduceCtorEq, Nat.reduceEqDiff]); exact g12, by (try simp only [upd_apply, ↓reduceIte, reduceCtorEq, Nat.reduceEqDiff]); exact g13, by simp only [upd_apply, ↓reduceIte, reduceCtorEq, Nat.reduceEqDiff], by simp only [upd_apply, ↓reduceIte, reduceCtorEq, Nat.reduceEqDiff], by simp only [upd_apply, ↓reduceIte, reduceCtorEq, Nat.reduceEqDiff], by simp only [upd_apply, ↓reduceIte, reduceCtorEq, Nat.reduceEqDiff], by simp only [upd_apply, ↓reduceIte, reduceCtorEq, Nat.reduceEqDiff]; rfl, rfl, rfl⟩
          clear g1 g2 g3 g4 g9 g10 g11 g12 g13 g14 g15 g16 g17
          rintro k f d h' ⟨hk, g1, g2, g4, g10, g11, g12, g13, g20, g21, g22, g23, g24, rfl, rfl⟩
          by_cases hlt : k < 3
          · obtain ⟨u, hu, hf, hm⟩ := hmk k hlt
            have ix52 : indexAddrE Tryd.prog 52 (.sl (nx h L.length) 0 3 (some 3) 1) (.int .i64 (k : Int)) = some (.ptr (nx h L.length) k) := by
              rw [indexAddrE_def, toNatE_lit]; dsimp only; rw [ik_52]; dsimp only; rw [indexAt_sl hlt, Nat.zero_add, Nat.mul_one]
            (repeat' (first
  | (with_reducible first | refine WC_seq ?_ | refine WC_skip ?_ | refine WC_label ?_ | refine WC_scope ?_ | refine WC_block ?_ | refine WC_ret ?_ | refine WC_exit ?_ | refine seqQ_norm ?_ | refine seqQ_ret ?_ | refine seqQ_exit ?_ | refine blkQ_norm ?_ | refine blkQ_ret ?_ | refine blkQ_here ?_ | refine gateK_yes ?_ | refine gateK_none ?_ | refine condK_tt ?_ | refine condK_ff ?_ | refine roundQ_exit ?_ | refine roundQ_ret ?_)
  | refine WC_region ?_ | refine blkQ_out rfl ?_ | refine WO_nil ?_ | refine WD_nil ?_
  | ((first | refine WD_gate rfl rfl rfl rfl rfl fun K_ hK_ => ?_ | refine WO_gate rfl rfl rfl rfl rfl fun K_ hK_ => ?_); simp only [upd_apply, asB_bool, asB_tup, ↓reduceIte, reduceCtorEq, Nat.reduceEqDiff, Bool.not_true, Bool.not_false]; refine hK_ _ ?_; clear hK_ K_)
  | refine gateK_no (by decide) ?_
  | ((try first | refine WO_op rfl rfl rfl ?_ | refine WO_op0 rfl rfl ?_ | refine WD_op rfl rfl rfl ?_ | refine WD_op0 rfl rfl ?_); (refine WV_gen fun Q_ hQ_ => ?_; simp (disch := first | omega | (simp only [List.length_cons, List.length_nil, List.length_append]; omega)) only [bb, bp, argF, ↓reduceIte, reduceCtorEq, Nat.reduceEqDiff, Nat.reduceLT, Nat.reduceLeDiff, Nat.reduceAdd, Nat.reduceMul, Nat.reduceSub, Nat.reduceBEq, Int.reduceToNat, cond_true, cond_false, eq_self, beq_self_eq_true, g1, g2, g4, g10, g11, g12, g13, g20, g21, g22, g23, g24, ix52, hu, hm, hf.1, hf.2, newPtr_X wf, load1_X wf, loadAgg_X wf, store1_X wf, writeCells_X wf, tEvV5, bsl_25, bsl_22, bsl_52, newSlice_X wf]; first | (refine dec_split (Q := Q_) (fun hp_ => ?_) (fun hp_ => ?_) <;> first | (exfalso; omega) | (refine hQ_ _ _ ?_; clear hQ_ Q_)) | (refine dec_splitn (Q := Q_) (fun hp_ => ?_) (fun hp_ => ?_) <;> first | (exfalso; omega) | (refine hQ_ _ _ ?_; clear hQ_ Q_)) | (refine hQ_ _ _ ?_; clear hQ_ Q_)))
  | (refine WC_cond fun K_ hK_ => ?_; simp (disch := omega) only [evT_tmp, upd_apply, WB_some, ↓reduceIte, reduceCtorEq, Nat.reduceEqDiff, Nat.reduceLT]; refine hK_ _ ?_; clear hK_ K_)))
            exact roundQ_again (k + 1) (by omega) ⟨by omega, by simp only [upd_apply, ↓reduceIte, reduceCtorEq, Nat.reduceEqDiff]; exact g1, by simp only [upd_apply, ↓reduceIte, reduceCtorEq, Nat.reduceEqDiff]; exact g2, by simp only [upd_apply, ↓reduceIte, reduceCtorEq, Nat.reduceEqDiff]; exact g4, by simp only [upd_apply, ↓reduceIte, reduceCtorEq, Nat.reduceEqDiff]; exact g10, by simp only [upd_apply, ↓reduceIte, reduceCtorEq, Nat.reduceEqDiff]; exact g11, by simp only [upd_apply, ↓reduceIte, reduceCtorEq, Nat.reduceEqDiff]; exact g12, by simp only [upd_apply, ↓reduceIte, reduceCtorEq, Nat.reduceEqDiff]; exact g13, by simp only [upd_apply, ↓reduceIte, reduceCtorEq, Nat.reduceEqDiff]; exact g20, by simp only [upd_apply, ↓reduceIte, reduceCtorEq, Nat.reduceEqDiff]; exact g21, by simp only [upd_apply, ↓reduceIte, reduceCtorEq, Nat.reduceEqDiff]; exact g22, by simp only [upd_apply, ↓reduceIte, reduceCtorEq, Nat.reduceEqDiff]; exact g23, by simp only [upd_apply, ↓reduceIte, reduceCtorEq, Nat.reduceEqDiff]; rfl, rfl, rfl⟩
          · have hke : k = 3 := by omega
            subst hke
            have hF := fairL_spec (turn := payI turn) (sp := sp) (fun r hr => (hok r hr).2.2.1) (fun e => by rw [e] at n1; simp at n1)
            have hFt := fairL_spec (turn := payI turn) (sp := tiltR ad ti sp) (fun r hr => (hokt r hr).2.2.1) (fun e => by rw [e] at p1; simp at p1)
            have hFr := fairL_spec (turn := payI turn) (sp := sp.reverse) (fun r hr => (hokr r hr).2.2.1) (fun e => by rw [List.reverse_eq_nil_iff.1 e] at n1; simp at n1)
            have hFm := fairL_spec (turn := payI turn) (sp := mirR sp) (fun r hr => (hokm r hr).2.2.1) (fun e => by have := mirR_len sp; rw [e] at this; simp at this; omega)
            obtain ⟨ex, ec⟩ := hFt.uniq (hF.tilt ad ti)
            have er := fair_rev hF hFr
            have em := fair_mir hF hFm
            have hxl : (fairL (payI turn) sp).1.length = sp.length := hF.within.length
            have hxo := InR.off hok hF.within
            obtain ⟨va, ha, c0, La, lva, rfl, rfl, hlva⟩ := fairestAll sp turn hs0 a (X h (L ++ [.cells (mkCells [u1, u2, u3]) 25]) w) (wf.X (by rw [List.length_append]; omega)) (t.up wf _ _) (hs.up wf _ _)
            rw [X_X, X_w] at c0
            replace hlva := hlva.down
            simp only [List.append_assoc, List.cons_append, List.nil_append] at c0 hlva
            obtain ⟨vb, hb', c1, Lb, lvb, rfl, rfl, hlvb⟩ := fairestAll (tiltR ad ti sp) turn htl v1 (X h (L ++ (.cells (mkCells [u1, u2, u3]) 25 :: La)) w) (wf.X (by rw [List.length_append]; omega)) (t.up wf _ _) (q1 _ _)
            rw [X_X, X_w] at c1
            replace hlvb := hlvb.down
            rw [ec] at c1
            rw [ex] at hlvb
            simp only [List.append_assoc, List.cons_append, List.nil_append] at c1 hlvb
            obtain ⟨vc, hc', c2, Lc, lvc, rfl, rfl, hlvc⟩ := fairestAll sp.reverse turn hvr v2 (X h (L ++ (.cells (mkCells [u1, u2, u3]) 25 :: (La ++ Lb))) w) (wf.X (by rw [List.length_append]; omega)) (t.up wf _ _) (q2 _ _)
            rw [X_X, X_w] at c2
            rw [er] at c2
            simp only [List.append_assoc, List.cons_append, List.nil_append] at c2
            obtain ⟨vd, hd', c3, Ld, lvd, rfl, rfl, hlvd⟩ := fairestAll (mirR sp) turn hvm v3 (X h (L ++ (.cells (mkCells [u1, u2, u3]) 25 :: (La ++ (Lb ++ Lc)))) w) (wf.X (by rw [List.length_append]; omega)) (t.up wf _ _) (q3 _ _)
            rw [X_X, X_w] at c3
            rw [em] at c3
            simp only [List.append_assoc, List.cons_append, List.nil_append] at c3
            replace hlva := hlva.more (Lb ++ (Lc ++ Ld))
            replace hlvb := hlvb.more (Lc ++ Ld)
            simp only [List.append_assoc, List.cons_append, List.nil_append] at hlva hlvb
            generalize (fairL (payI turn) sp).2 = cost at *
            generalize (fairL (payI turn) sp).1 = xs at *
            have b0 : ∀ M, (L ++ M)[0]? = some (.cells (mkCells [a, ii turn]) 24) := fun M => hT.gets t0 M
            have b1 : ∀ M, (L ++ M)[M1.length + 1]? = some (.cells (mkCells [v1, ii turn]) 24) := fun M => hT.gets t1 M
            have b2 : ∀ M, (L ++ M)[M1.length + 1 + 1]? = some (.cells (mkCells [v2, ii turn]) 24) := fun M => hT.gets t2 M
            have b3 : ∀ M, (L ++ M)[M1.length + 1 + 2]? = some (.cells (mkCells [v3, ii turn]) 24) := fun M => hT.gets t3 M
            have fa := hlva.flat
            have fb := hlvb.flat
            have fc := hlvc.flat
            have fd := hlvd.flat
            have na : ∀ h', lenE Tryd.prog 25 lva h' = some (ii (sp.length : Int)) := fun h' => by
              have := (hlva.sl wf h.clock).len un_25 (h' := h')
              rwa [List.length_map, hxl] at this
            have nb : ∀ h', lenE Tryd.prog 25 lvb h' = some (ii (sp.length : Int)) := fun h' => by
              have := (hlvb.sl wf h.clock).len un_25 (h' := h')
              rwa [List.length_map, tiltF_len, hxl] at this
            have fv2 := s6.flat
            have fv3 := s7.flat
            (repeat' (first
  | (with_reducible first | refine WC_seq ?_ | refine WC_skip ?_ | refine WC_label ?_ | refine WC_scope ?_ | refine WC_block ?_ | refine WC_ret ?_ | refine WC_exit ?_ | refine seqQ_norm ?_ | refine seqQ_ret ?_ | refine seqQ_exit ?_ | refine blkQ_norm ?_ | refine blkQ_ret ?_ | refine blkQ_here ?_ | refine gateK_yes ?_ | refine gateK_none ?_ | refine condK_tt ?_ | refine condK_ff ?_ | refine roundQ_exit ?_ | refine roundQ_ret ?_)
  | refine WC_region ?_ | refine blkQ_out rfl ?_ | refine WO_nil ?_ | refine WD_nil ?_
  | ((first | refine WD_gate rfl rfl rfl rfl rfl fun K_ hK_ => ?_ | refine WO_gate rfl rfl rfl rfl rfl fun K_ hK_ => ?_); simp only [upd_apply, asB_bool, asB_tup, ↓reduceIte, reduceCtorEq, Nat.reduceEqDiff, Bool.not_true, Bool.not_false]; refine hK_ _ ?_; clear hK_ K_)
  | refine gateK_no (by decide) ?_
  | ((try first | refine WO_op rfl rfl rfl ?_ | refine WO_op0 rfl rfl ?_ | refine WD_op rfl rfl rfl ?_ | refine WD_op0 rfl rfl ?_); (refine WV_gen fun Q_ hQ_ => ?_; simp (disch := first | omega | (simp only [List.length_cons, List.length_nil, List.length_append]; omega)) only [bb, bp, argF, ↓reduceIte, reduceCtorEq, Nat.reduceEqDiff, Nat.reduceLT, Nat.reduceLeDiff, Nat.reduceAdd, Nat.reduceMul, Nat.reduceSub, Nat.reduceBEq, Int.reduceToNat, cond_true, cond_false, eq_self, beq_self_eq_true, g1, g2, g4, g10, g11, g12, g13, g20, g21, g22, g23, g24, b0, b1, b2, b3, c0, c1, c2, c3, fa.1, fa.2, fb.1, fb.2, fc.1, fc.2, fd.1, fd.2, f1.1, f1.2, fv2.1, fv2.2, fv3.1, fv3.2, ha1.1, ha1.2, na, nb, newPtr_X wf, load1_X wf, loadAgg_X wf, store1_X wf, writeCells_X wf, tEvV5, bsl_25, bsl_22, bsl_52, newSlice_X wf]; first | (refine dec_split (Q := Q_) (fun hp_ => ?_) (fun hp_ => ?_) <;> first | (exfalso; omega) | (refine hQ_ _ _ ?_; clear hQ_ Q_)) | (refine dec_splitn (Q := Q_) (fun hp_ => ?_) (fun hp_ => ?_) <;> first | (exfalso; omega) | (refine hQ_ _ _ ?_; clear hQ_ Q_)) | (refine hQ_ _ _ ?_; clear hQ_ Q_)))
  | (refine WC_cond fun K_ hK_ => ?_; simp (disch := omega) only [evT_tmp, upd_apply, WB_some, ↓reduceIte, reduceCtorEq, Nat.reduceEqDiff, Nat.reduceLT]; refine hK_ _ ?_; clear hK_ K_)))
            refine WC_loop (fun (k : Nat) f d h' => k ≤ sp.length ∧ f 1 = .int .i16 ad ∧ f 2 = .int .i16 ti ∧ f 10 = ii (sp.length : Int) ∧ f 28 = lva ∧ f 30 = lvb ∧ f 39 = ii (k : Int) ∧ d = [] ∧ h' = X h (L ++ (.cells (mkCells [u1, u2, u3]) 25 :: (La ++ (Lb ++ (Lc ++ Ld))))) w) (fun k => sp.length - k) ?_ (sp.length + 1) 0 (by omega) ?_
            rotate_left 1
            · exact ⟨by omega, by (try simp only [upd_apply, ↓reduceIte, reduceCtorEq, Nat.reduceEqDiff]); exact g1, by (try simp only [upd_apply, ↓reduceIte, reduceCtorEq, Nat.reduceEqDiff]); exact g2, by (try simp only [upd_apply, ↓reduceIte, reduceCtorEq, Nat.reduceEqDiff]); exact g10, by simp only [upd_apply, ↓reduceIte, reduceCtorEq, Nat.reduceEqDiff], by simp only [upd_apply, ↓reduceIte, reduceCtorEq, Nat.reduceEqDiff], by simp only [upd_apply, ↓reduceIte, reduceCtorEq, Nat.reduceEqDiff]; rfl, rfl, rfl⟩
            clear g1 g2 g4 g10 g11 g12 g13 g20 g21 g22 g23 g24
            rintro k f d h' ⟨hk, g1, g2, g10, g28, g30, g39, rfl, rfl⟩
            by_cases hlt : k < sp.length
            · have hc1 : convE Tryd.prog 49 2 (.int .i16 ad) = some (ii ad) := by rw [c_int un_49 un_2, wrap_in _ (by omega) (by omega)]
              have hc2 : convE Tryd.prog 49 2 (.int .i16 ti) = some (ii ti) := by rw [c_int un_49 un_2, wrap_in _ (by omega) (by omega)]
              have hm : -800000 ≤ ti * (k : Int) ∧ ti * (k : Int) ≤ 800000 := by
                have h1 : (k : Int) ≤ 24 := by omega
                have h2 : 0 ≤ (k : Int) := by omega
                constructor
                · have := Int.mul_le_mul_of_nonneg_right hti.1 h2; omega
                · have := Int.mul_le_mul_of_nonneg_right hti.2 h2; omega
              have hkx : k < xs.length := by omega
              have hx := List.getElem?_eq_getElem hkx
              obtain ⟨x1, x2⟩ := hxo _ (List.getElem_mem hkx)
              generalize xs[k] = xk at hx x1 x2
              have hy := tiltF_get ti xs ad k xk hx
              obtain ⟨ja, ca, rfl, hja, _⟩ := hlva
              obtain ⟨jb, cb, rfl, hjb, _⟩ := hlvb
              have ixa : indexAddrE Tryd.prog 25 (.sl (nx h ja) 0 (xs.map ii).length ca 1) (.int .i64 (k : Int)) = some (.ptr (nx h ja) k) := by
                rw [indexAddrE_def, toNatE_lit]; dsimp only; rw [ik_25]; dsimp only; rw [indexAt_sl (by rw [List.length_map]; omega), Nat.zero_add, Nat.mul_one]
              have ixb : indexAddrE Tryd.prog 25 (.sl (nx h jb) 0 ((tiltF ad ti xs).map ii).length cb 1) (.int .i64 (k : Int)) = some (.ptr (nx h jb) k) := by
                rw [indexAddrE_def, toNatE_lit]; dsimp only; rw [ik_25]; dsimp only; rw [indexAt_sl (by rw [List.length_map, tiltF_len]; omega), Nat.zero_add, Nat.mul_one]
              have mx : (xs.map ii)[k]? = some (ii xk) := by rw [List.getElem?_map, hx]; rfl
              have my : ((tiltF ad ti xs).map ii)[k]? = some (ii (xk + (ad + ti * (k : Int)))) := by rw [List.getElem?_map, hy]; rfl
              have lda : ∀ w, load1 (nx h ja) k (X h (L ++ (.cells (mkCells [u1, u2, u3]) 25 :: (La ++ (Lb ++ (Lc ++ Ld))))) w) = some (ii xk) := fun w => by rw [load1_X wf, hja, cellAt_cells]; exact mx
              have ldb : ∀ w, load1 (nx h jb) k (X h (L ++ (.cells (mkCells [u1, u2, u3]) 25 :: (La ++ (Lb ++ (Lc ++ Ld))))) w) = some (ii (xk + (ad + ti * (k : Int)))) := fun w => by rw [load1_X wf, hjb, cellAt_cells]; exact my
              have hwL : w ≤ h.clock + (L ++ (AO.cells (mkCells [u1, u2, u3]) 25 :: (La ++ (Lb ++ (Lc ++ Ld))))).length := by rw [List.length_append]; omega
              generalize L ++ (AO.cells (mkCells [u1, u2, u3]) 25 :: (La ++ (Lb ++ (Lc ++ Ld)))) = LL at *
              (repeat' (first
  | (with_reducible first | refine WC_seq ?_ | refine WC_skip ?_ | refine WC_label ?_ | refine WC_scope ?_ | refine WC_block ?_ | refine WC_ret ?_ | refine WC_exit ?_ | refine seqQ_norm ?_ | refine seqQ_ret ?_ | refine seqQ_exit ?_ | refine blkQ_norm ?_ | refine blkQ_ret ?_ | refine blkQ_here ?_ | refine gateK_yes ?_ | refine gateK_none ?_ | refine condK_tt ?_ | refine condK_ff ?_ | refine roundQ_exit ?_ | refine roundQ_ret ?_)
  | refine WC_region ?_ | refine blkQ_out rfl ?_ | refine WO_nil ?_ | refine WD_nil ?_
  | ((first | refine WD_gate rfl rfl rfl rfl rfl fun K_ hK_ => ?_ | refine WO_gate rfl rfl rfl rfl rfl fun K_ hK_ => ?_); simp only [upd_apply, asB_bool, asB_tup, ↓reduceIte, reduceCtorEq, Nat.reduceEqDiff, Bool.not_true, Bool.not_false]; refine hK_ _ ?_; clear hK_ K_)
  | refine gateK_no (by decide) ?_
  | ((try first | refine WO_op rfl rfl rfl ?_ | refine WO_op0 rfl rfl ?_ | refine WD_op rfl rfl rfl ?_ | refine WD_op0 rfl rfl ?_); (refine WV_gen fun Q_ hQ_ => ?_; simp (disch := first | omega | (simp only [List.length_cons, List.length_nil, List.length_append]; omega)) only [bb, bp, argF, ↓reduceIte, reduceCtorEq, Nat.reduceEqDiff, Nat.reduceLT, Nat.reduceLeDiff, Nat.reduceAdd, Nat.reduceMul, Nat.reduceSub, Nat.reduceBEq, Int.reduceToNat, cond_true, cond_false, eq_self, beq_self_eq_true, g1, g2, g10, g28, g30, g39, tEvV5, bsl_25, bsl_22, bsl_52, newSlice_X wf]; first | (refine dec_split (Q := Q_) (fun hp_ => ?_) (fun hp_ => ?_) <;> first | (exfalso; omega) | (refine hQ_ _ _ ?_; clear hQ_ Q_)) | (refine dec_splitn (Q := Q_) (fun hp_ => ?_) (fun hp_ => ?_) <;> first | (exfalso; omega) | (refine hQ_ _ _ ?_; clear hQ_ Q_)) | (refine hQ_ _ _ ?_; clear hQ_ Q_)))
  | (refine WC_cond fun K_ hK_ => ?_; simp (disch := omega) only [evT_tmp, upd_apply, WB_some, ↓reduceIte, reduceCtorEq, Nat.reduceEqDiff, Nat.reduceLT]; refine hK_ _ ?_; clear hK_ K_)))
              refine WC_drawnB [.no, .no, .no, .no, .no, .no, .no, .no, .no, .no, .no, .no, .no, .no, .no, .no, .full] (by kernel_rfl) ?_
              (repeat' (first
  | (with_reducible first | refine WC_seq ?_ | refine WC_skip ?_ | refine WC_label ?_ | refine WC_scope ?_ | refine WC_block ?_ | refine WC_ret ?_ | refine WC_exit ?_ | refine seqQ_norm ?_ | refine seqQ_ret ?_ | refine seqQ_exit ?_ | refine blkQ_norm ?_ | refine blkQ_ret ?_ | refine blkQ_here ?_ | refine gateK_yes ?_ | refine gateK_none ?_ | refine condK_tt ?_ | refine condK_ff ?_ | refine roundQ_exit ?_ | refine roundQ_ret ?_)
  | refine WC_region ?_ | refine blkQ_out rfl ?_ | refine WO_nil ?_ | refine WD_nil ?_
  | ((first | refine WD_gate rfl rfl rfl rfl rfl fun K_ hK_ => ?_ | refine WO_gate rfl rfl rfl rfl rfl fun K_ hK_ => ?_); simp only [upd_apply, asB_bool, asB_tup, ↓reduceIte, reduceCtorEq, Nat.reduceEqDiff, Bool.not_true, Bool.not_false]; refine hK_ _ ?_; clear hK_ K_)
  | refine gateK_no (by decide) ?_
  | ((try first | refine WO_op rfl rfl rfl ?_ | refine WO_op0 rfl rfl ?_ | refine WD_op rfl rfl rfl ?_ | refine WD_op0 rfl rfl ?_); (refine WV_gen fun Q_ hQ_ => ?_; simp (disch := first | omega | (simp only [List.length_cons, List.length_nil, List.length_append]; omega)) only [bb, bp, argF, ↓reduceIte, reduceCtorEq, Nat.reduceEqDiff, Nat.reduceLT, Nat.reduceLeDiff, Nat.reduceAdd, Nat.reduceMul, Nat.reduceSub, Nat.reduceBEq, Int.reduceToNat, cond_true, cond_false, eq_self, beq_self_eq_true, g1, g2, g10, g28, g30, g39, hc1, hc2, ixa, ixb, lda, ldb, tEvV5, bsl_25, bsl_22, bsl_52, newSlice_X wf]; first | (refine dec_split (Q := Q_) (fun hp_ => ?_) (fun hp_ => ?_) <;> first | (exfalso; omega) | (refine hQ_ _ _ ?_; clear hQ_ Q_)) | (refine dec_splitn (Q := Q_) (fun hp_ => ?_) (fun hp_ => ?_) <;> first | (exfalso; omega) | (refine hQ_ _ _ ?_; clear hQ_ Q_)) | (refine hQ_ _ _ ?_; clear hQ_ Q_)))
  | (refine WC_cond fun K_ hK_ => ?_; simp (disch := omega) only [evT_tmp, upd_apply, WB_some, ↓reduceIte, reduceCtorEq, Nat.reduceEqDiff, Nat.reduceLT]; refine hK_ _ ?_; clear hK_ K_)))
              exact roundQ_again (k + 1) (by omega) ⟨hlt, by simp only [upd_apply, ↓reduceIte, reduceCtorEq, Nat.reduceEqDiff]; exact g1, by simp only [upd_apply, ↓reduceIte, reduceCtorEq, Nat.reduceEqDiff]; exact g2, by simp only [upd_apply, ↓reduceIte, reduceCtorEq, Nat.reduceEqDiff]; exact g10, by simp only [upd_apply, ↓reduceIte, reduceCtorEq, Nat.reduceEqDiff]; exact g28, by simp only [upd_apply, ↓reduceIte, reduceCtorEq, Nat.reduceEqDiff]; exact g30, by simp only [upd_apply, ↓reduceIte, reduceCtorEq, Nat.reduceEqDiff]; rfl, rfl, rfl⟩
            · (repeat' (first
  | (with_reducible first | refine WC_seq ?_ | refine WC_skip ?_ | refine WC_label ?_ | refine WC_scope ?_ | refine WC_block ?_ | refine WC_ret ?_ | refine WC_exit ?_ | refine seqQ_norm ?_ | refine seqQ_ret ?_ | refine seqQ_exit ?_ | refine blkQ_norm ?_ | refine blkQ_ret ?_ | refine blkQ_here ?_ | refine gateK_yes ?_ | refine gateK_none ?_ | refine condK_tt ?_ | refine condK_ff ?_ | refine roundQ_exit ?_ | refine roundQ_ret ?_)
  | refine WC_region ?_ | refine blkQ_out rfl ?_ | refine WO_nil ?_ | refine WD_nil ?_
  | ((first | refine WD_gate rfl rfl rfl rfl rfl fun K_ hK_ => ?_ | refine WO_gate rfl rfl rfl rfl rfl fun K_ hK_ => ?_); simp only [upd_apply, asB_bool, asB_tup, ↓reduceIte, reduceCtorEq, Nat.reduceEqDiff, Bool.not_true, Bool.not_false]; refine hK_ _ ?_; clear hK_ K_)
  | refine gateK_no (by decide) ?_
  | ((try first | refine WO_op rfl rfl rfl ?_ | refine WO_op0 rfl rfl ?_ | refine WD_op rfl rfl rfl ?_ | refine WD_op0 rfl rfl ?_); (refine WV_gen fun Q_ hQ_ => ?_; simp (disch := first | omega | (simp only [List.length_cons, List.length_nil, List.length_append]; omega)) only [bb, bp, argF, ↓reduceIte, reduceCtorEq, Nat.reduceEqDiff, Nat.reduceLT, Nat.reduceLeDiff, Nat.reduceAdd, Nat.reduceMul, Nat.reduceSub, Nat.reduceBEq, Int.reduceToNat, cond_true, cond_false, eq_self, beq_self_eq_true, g1, g2, g10, g28, g30, g39, works', tEvV5, bsl_25, bsl_22, bsl_52, newSlice_X wf]; first | (refine dec_split (Q := Q_) (fun hp_ => ?_) (fun hp_ => ?_) <;> first | (exfalso; omega) | (refine hQ_ _ _ ?_; clear hQ_ Q_)) | (refine dec_splitn (Q := Q_) (fun hp_ => ?_) (fun hp_ => ?_) <;> first | (exfalso; omega) | (refine hQ_ _ _ ?_; clear hQ_ Q_)) | (refine hQ_ _ _ ?_; clear hQ_ Q_)))
  | (refine WC_cond fun K_ hK_ => ?_; simp (disch := omega) only [evT_tmp, upd_apply, WB_some, ↓reduceIte, reduceCtorEq, Nat.reduceEqDiff, Nat.reduceLT]; refine hK_ _ ?_; clear hK_ K_)))
              (refine endQ_ret _ _ rfl (ret1 (by decide)) ?_; simp only [upd_apply, ↓reduceIte, reduceCtorEq, Nat.reduceEqDiff]; refine WV_flat rfl (by omega) ?_)
              exact ⟨rfl, rfl⟩
        · rw [decide_eq_false htl] at hfx
          (repeat' (first
  | (with_reducible first | refine WC_seq ?_ | refine WC_skip ?_ | refine WC_label ?_ | refine WC_scope ?_ | refine WC_block ?_ | refine WC_ret ?_ | refine WC_exit ?_ | refine seqQ_norm ?_ | refine seqQ_ret ?_ | refine seqQ_exit ?_ | refine blkQ_norm ?_ | refine blkQ_ret ?_ | refine blkQ_here ?_ | refine gateK_yes ?_ | refine gateK_none ?_ | refine condK_tt ?_ | refine condK_ff ?_ | refine roundQ_exit ?_ | refine roundQ_ret ?_)
  | refine WC_region ?_ | refine blkQ_out rfl ?_ | refine WO_nil ?_ | refine WD_nil ?_
  | ((first | refine WD_gate rfl rfl rfl rfl rfl fun K_ hK_ => ?_ | refine WO_gate rfl rfl rfl rfl rfl fun K_ hK_ => ?_); simp only [upd_apply, asB_bool, asB_tup, ↓reduceIte, reduceCtorEq, Nat.reduceEqDiff, Bool.not_true, Bool.not_false]; refine hK_ _ ?_; clear hK_ K_)
  | refine gateK_no (by decide) ?_
  | ((try first | refine WO_op rfl rfl rfl ?_ | refine WO_op0 rfl rfl ?_ | refine WD_op rfl rfl rfl ?_ | refine WD_op0 rfl rfl ?_); (refine WV_gen fun Q_ hQ_ => ?_; simp (disch := first | omega | (simp only [List.length_cons, List.length_nil, List.length_append]; omega)) only [bb, bp, argF, ↓reduceIte, reduceCtorEq, Nat.reduceEqDiff, Nat.reduceLT, Nat.reduceLeDiff, Nat.reduceAdd, Nat.reduceMul, Nat.reduceSub, Nat.reduceBEq, Int.reduceToNat, cond_true, cond_false, eq_self, beq_self_eq_true, g1, g2, g4, g9, g10, g11, g12, g13, g17, g14, g15, g16, e1, f1.1, f1.2, hfx, works', newPtr_X wf, load1_X wf, loadAgg_X wf, store1_X wf, writeCells_X wf, tEvV5, bsl_25, bsl_22, bsl_52, newSlice_X wf]; first | (refine dec_split (Q := Q_) (fun hp_ => ?_) (fun hp_ => ?_) <;> first | (exfalso; omega) | (refine hQ_ _ _ ?_; clear hQ_ Q_)) | (refine dec_splitn (Q := Q_) (fun hp_ => ?_) (fun hp_ => ?_) <;> first | (exfalso; omega) | (refine hQ_ _ _ ?_; clear hQ_ Q_)) | (refine hQ_ _ _ ?_; clear hQ_ Q_)))
  | (refine WC_cond fun K_ hK_ => ?_; simp (disch := omega) only [evT_tmp, upd_apply, WB_some, ↓reduceIte, reduceCtorEq, Nat.reduceEqDiff, Nat.reduceLT]; refine hK_ _ ?_; clear hK_ K_)))
          (refine endQ_ret _ _ rfl (ret1 (by decide)) ?_; simp only [upd_apply, ↓reduceIte, reduceCtorEq, Nat.reduceEqDiff]; refine WV_flat rfl (by omega) ?_)
          exact ⟨rfl, rfl⟩
  · refine WV_to (WV_call (fn := Tryd.f8) Tryd.func8 rfl rfl rfl rfl rfl ?_)
    simp only [argF]
    by_cases hs0 : spotsR sp turn = 0
    · rw [decide_eq_true hs0] at hfine
      (repeat' (first
  | (with_reducible first | refine WC_seq ?_ | refine WC_skip ?_ | refine WC_label ?_ | refine WC_scope ?_ | refine WC_block ?_ | refine WC_ret ?_ | refine WC_exit ?_ | refine seqQ_norm ?_ | refine seqQ_ret ?_ | refine seqQ_exit ?_ | refine blkQ_norm ?_ | refine blkQ_ret ?_ | refine blkQ_here ?_ | refine gateK_yes ?_ | refine gateK_none ?_ | refine condK_tt ?_ | refine condK_ff ?_ | refine roundQ_exit ?_ | refine roundQ_ret ?_)
  | refine WC_region ?_ | refine blkQ_out rfl ?_ | refine WO_nil ?_ | refine WD_nil ?_
  | ((first | refine WD_gate rfl rfl rfl rfl rfl fun K_ hK_ => ?_ | refine WO_gate rfl rfl rfl rfl rfl fun K_ hK_ => ?_); simp only [upd_apply, asB_bool, asB_tup, ↓reduceIte, reduceCtorEq, Nat.reduceEqDiff, Bool.not_true, Bool.not_false]; refine hK_ _ ?_; clear hK_ K_)
  | refine gateK_no (by decide) ?_
  | ((try first | refine WO_op rfl rfl rfl ?_ | refine WO_op0 rfl rfl ?_ | refine WD_op rfl rfl rfl ?_ | refine WD_op0 rfl rfl ?_); (refine WV_gen fun Q_ hQ_ => ?_; simp (disch := first | omega | (simp only [List.length_cons, List.length_nil, List.length_append]; omega)) only [bb, bp, argF, ↓reduceIte, reduceCtorEq, Nat.reduceEqDiff, Nat.reduceLT, Nat.reduceLeDiff, Nat.reduceAdd, Nat.reduceMul, Nat.reduceSub, Nat.reduceBEq, Int.reduceToNat, cond_true, cond_false, eq_self, beq_self_eq_true, hfine, hlen, hlb, works', ha1.1, ha1.2, newPtr_X wf, load1_X wf, loadAgg_X wf, store1_X wf, writeCells_X wf, tEvV5, bsl_25, bsl_22, bsl_52, newSlice_X wf]; first | (refine dec_split (Q := Q_) (fun hp_ => ?_) (fun hp_ => ?_) <;> first | (exfalso; omega) | (refine hQ_ _ _ ?_; clear hQ_ Q_)) | (refine dec_splitn (Q := Q_) (fun hp_ => ?_) (fun hp_ => ?_) <;> first | (exfalso; omega) | (refine hQ_ _ _ ?_; clear hQ_ Q_)) | (refine hQ_ _ _ ?_; clear hQ_ Q_)))
  | (refine WC_cond fun K_ hK_ => ?_; simp (disch := omega) only [evT_tmp, upd_apply, WB_some, ↓reduceIte, reduceCtorEq, Nat.reduceEqDiff, Nat.reduceLT]; refine hK_ _ ?_; clear hK_ K_)))
      all_goals first | (exfalso; omega) | skip
      all_goals (refine endQ_ret _ _ rfl (ret1 (by decide)) ?_; simp only [upd_apply, ↓reduceIte, reduceCtorEq, Nat.reduceEqDiff]; refine WV_flat rfl (by omega) ?_)
      all_goals exact ⟨rfl, rfl⟩
    · rw [decide_eq_false hs0] at hfine
      (repeat' (first
  | (with_reducible first | refine WC_seq ?_ | refine WC_skip ?_ | refine WC_label ?_ | refine WC_scope ?_ | refine WC_block ?_ | refine WC_ret ?_ | refine WC_exit ?_ | refine seqQ_norm ?_ | refine seqQ_ret ?_ | refine seqQ_exit ?_ | refine blkQ_norm ?_ | refine blkQ_ret ?_ | refine blkQ_here ?_ | refine gateK_yes ?_ | refine gateK_none ?_ | refine condK_tt ?_ | refine condK_ff ?_ | refine roundQ_exit ?_ | refine roundQ_ret ?_)
  | refine WC_region ?_ | refine blkQ_out rfl ?_ | refine WO_nil ?_ | refine WD_nil ?_
  | ((first | refine WD_gate rfl rfl rfl rfl rfl fun K_ hK_ => ?_ | refine WO_gate rfl rfl rfl rfl rfl fun K_ hK_ => ?_); simp only [upd_apply, asB_bool, asB_tup, ↓reduceIte, reduceCtorEq, Nat.reduceEqDiff, Bool.not_true, Bool.not_false]; refine hK_ _ ?_; clear hK_ K_)
  | refine gateK_no (by decide) ?_
  | ((try first | refine WO_op rfl rfl rfl ?_ | refine WO_op0 rfl rfl ?_ | refine WD_op rfl rfl rfl ?_ | refine WD_op0 rfl rfl ?_); (refine WV_gen fun Q_ hQ_ => ?_; simp (disch := first | omega | (simp only [List.length_cons, List.length_nil, List.length_append]; omega)) only [bb, bp, argF, ↓reduceIte, reduceCtorEq, Nat.reduceEqDiff, Nat.reduceLT, Nat.reduceLeDiff, Nat.reduceAdd, Nat.reduceMul, Nat.reduceSub, Nat.reduceBEq, Int.reduceToNat, cond_true, cond_false, eq_self, beq_self_eq_true, hfine, hlen, hlb, works', ha1.1, ha1.2, newPtr_X wf, load1_X wf, loadAgg_X wf, store1_X wf, writeCells_X wf, tEvV5, bsl_25, bsl_22, bsl_52, newSlice_X wf]; first | (refine dec_split (Q := Q_) (fun hp_ => ?_) (fun hp_ => ?_) <;> first | (exfalso; omega) | (refine hQ_ _ _ ?_; clear hQ_ Q_)) | (refine dec_splitn (Q := Q_) (fun hp_ => ?_) (fun hp_ => ?_) <;> first | (exfalso; omega) | (refine hQ_ _ _ ?_; clear hQ_ Q_)) | (refine hQ_ _ _ ?_; clear hQ_ Q_)))
  | (refine WC_cond fun K_ hK_ => ?_; simp (disch := omega) only [evT_tmp, upd_apply, WB_some, ↓reduceIte, reduceCtorEq, Nat.reduceEqDiff, Nat.reduceLT]; refine hK_ _ ?_; clear hK_ K_)))
      (refine endQ_ret _ _ rfl (ret1 (by decide)) ?_; simp only [upd_apply, ↓reduceIte, reduceCtorEq, Nat.reduceEqDiff]; refine WV_flat rfl (by omega) ?_)
      exact ⟨rfl, rfl⟩
end Go.Proofs.YtkmdidplmfdikaaDoor
end

/- EvX0 -/
section
/-
  The program's orders are mixed: what every run asks.
-/
namespace Go.Proofs.YtkmdidplmfdikaaDoor
open Go.Ev
theorem mixed : Tryd.prog.follows .mixedOrders = true := Checked.mixed Tryd.checked
theorem con_alone {n : Nat} {c : Con} (h : chk c ((evc Tryd.prog [] n).call (.fn c.g c.args) (smallH c.tb)) = true) : ConOK Tryd.prog c :=
  con_run (P := Tryd.prog) mixed (cons := []) (fun _ h => by cases h) (n := n) (c := c) h
end Go.Proofs.YtkmdidplmfdikaaDoor
end

/- EvXcS0 -/
section
/-
  WHAT A CALL OF THE PROGRAM COMES TO IN A SMALL MEMORY: run by the kernel.
-/

namespace Go.Proofs.YtkmdidplmfdikaaDoor
open Go.Ev
noncomputable def cS0 : Con := ⟨25, [(.agg [(.sl (.i (.o (.o (.o (.o (.o .e)))))) 0 5 (some 5) 2), (.int .i64 100)]), (.int .i64 0)], [(.e, [(.int .i64 1099511627776), (.int .i64 1099511627776), (.int .i64 1099511627776)]), ((.i (.o (.o (.o (.o (.o .e)))))), [(.int .i64 0), (.int .i64 0), (.int .i64 2), (.int .i64 3), (.int .i64 4), (.int .i64 4), (.int .i64 5), (.int .i64 7), (.int .i64 10), (.int .i64 10)])], (.tup [(.sl (.o (.o (.i (.o (.o (.o (.o .e))))))) 0 5 none 2), (.int .i64 0)]), [((.o (.o (.i (.o (.o (.o (.o .e))))))), [(.int .i64 0), (.int .i64 0), (.int .i64 2), (.int .i64 2), (.int .i64 4), (.int .i64 4), (.int .i64 6), (.int .i64 7), (.int .i64 10), (.int .i64 10)], 51)]⟩
set_option maxRecDepth 100000
set_option maxHeartbeats 0
theorem cS0_run : chk cS0 ((evc Tryd.prog [] 100000).call (.fn cS0.g cS0.args) (smallH cS0.tb)) = true := by kernel_rfl
theorem cS0_ok : ConOK Tryd.prog cS0 := con_alone (n := 100000) (c := cS0) cS0_run
end Go.Proofs.YtkmdidplmfdikaaDoor
end

/- EvXcF1 -/
section
/-
  WHAT A CALL OF THE PROGRAM COMES TO IN A SMALL MEMORY: run by the kernel.
-/

namespace Go.Proofs.YtkmdidplmfdikaaDoor
open Go.Ev
noncomputable def cF1 : Con := ⟨17, [(.agg [(.sl (.i (.o (.o (.o (.o (.o .e)))))) 0 5 (some 5) 2), (.int .i64 100)])], [(.e, [(.int .i64 1099511627776), (.int .i64 1099511627776), (.int .i64 1099511627776)]), ((.i (.o (.o (.o (.o (.o .e)))))), [(.int .i64 0), (.int .i64 0), (.int .i64 2), (.int .i64 3), (.int .i64 4), (.int .i64 4), (.int .i64 5), (.int .i64 7), (.int .i64 10), (.int .i64 10)])], (.tup [(.sl (.i (.o (.o (.o (.o (.i (.o (.i .e)))))))) 0 5 none 1), (.int .i64 1), (.int .i64 0)]), [((.i (.o (.o (.o (.o (.i (.o (.i .e)))))))), [(.int .i64 0), (.int .i64 2), (.int .i64 4), (.int .i64 7), (.int .i64 10)], 2)]⟩
set_option maxRecDepth 100000
set_option maxHeartbeats 0
theorem cF1_run : chk cF1 ((evc Tryd.prog [] 100000).call (.fn cF1.g cF1.args) (smallH cF1.tb)) = true := by kernel_rfl
theorem cF1_ok : ConOK Tryd.prog cF1 := con_alone (n := 100000) (c := cF1) cF1_run
end Go.Proofs.YtkmdidplmfdikaaDoor
end

/- EvXcL -/
section
/-
  WHAT A CALL OF THE PROGRAM COMES TO IN A SMALL MEMORY: run by the kernel.
-/

namespace Go.Proofs.YtkmdidplmfdikaaDoor
open Go.Ev
noncomputable def cL : Con := ⟨23, [(.agg [(.sl (.i (.o (.o (.o (.o (.o .e)))))) 0 5 (some 5) 2), (.int .i64 100)])], [(.e, [(.int .i64 1099511627776), (.int .i64 1099511627776), (.int .i64 1099511627776)]), ((.i (.o (.o (.o (.o (.o .e)))))), [(.int .i64 0), (.int .i64 0), (.int .i64 2), (.int .i64 3), (.int .i64 4), (.int .i64 4), (.int .i64 5), (.int .i64 7), (.int .i64 10), (.int .i64 10)])], (.tup [(.sl (.i (.i (.o (.i (.i (.i (.i (.i .e)))))))) 0 30 none 1), (.int .i64 0)]), [((.i (.i (.o (.i (.i (.i (.i (.i .e)))))))), [(.int .i64 0), (.int .i64 1099511627776), (.int .i64 1099511627776), (.int .i64 0), (.int .i64 1099511627776), (.int .i64 1099511627776), (.int .i64 0), (.int .i64 1099511627776), (.int .i64 1099511627776), (.int .i64 1099511627776), (.int .i64 1099511627776), (.int .i64 2), (.int .i64 1099511627776), (.int .i64 1099511627776), (.int .i64 1), (.int .i64 0), (.int .i64 103), (.int .i64 1099511627776), (.int .i64 1099511627776), (.int .i64 1), (.int .i64 1099511627776), (.int .i64 1099511627776), (.int .i64 105), (.int .i64 1099511627776), (.int .i64 1099511627776), (.int .i64 2), (.int .i64 1099511627776), (.int .i64 1099511627776), (.int .i64 1), (.int .i64 1099511627776)], 2)]⟩
set_option maxRecDepth 100000
set_option maxHeartbeats 0
theorem cL_run : chk cL ((evc Tryd.prog [] 100000).call (.fn cL.g cL.args) (smallH cL.tb)) = true := by kernel_rfl
theorem cL_ok : ConOK Tryd.prog cL := con_alone (n := 100000) (c := cL) cL_run
end Go.Proofs.YtkmdidplmfdikaaDoor
end

/- EvXcC1 -/
section
/-
  WHAT A CALL OF THE PROGRAM COMES TO IN A SMALL MEMORY: run by the kernel.
-/

namespace Go.Proofs.YtkmdidplmfdikaaDoor
open Go.Ev
noncomputable def cC1 : Con := ⟨21, [(.agg [(.sl (.i (.o (.o (.o (.o (.o .e)))))) 0 5 (some 5) 2), (.int .i64 100)]), (.sl (.o (.i (.o (.o (.o (.o .e)))))) 0 30 none 1)], [(.e, [(.int .i64 1099511627776), (.int .i64 1099511627776), (.int .i64 1099511627776)]), ((.i (.o (.o (.o (.o (.o .e)))))), [(.int .i64 0), (.int .i64 0), (.int .i64 2), (.int .i64 3), (.int .i64 4), (.int .i64 4), (.int .i64 5), (.int .i64 7), (.int .i64 10), (.int .i64 10)]), ((.o (.i (.o (.o (.o (.o .e)))))), [(.int .i64 0), (.int .i64 1099511627776), (.int .i64 1099511627776), (.int .i64 0), (.int .i64 1099511627776), (.int .i64 1099511627776), (.int .i64 0), (.int .i64 1099511627776), (.int .i64 1099511627776), (.int .i64 1099511627776), (.int .i64 1099511627776), (.int .i64 2), (.int .i64 1099511627776), (.int .i64 1099511627776), (.int .i64 1), (.int .i64 0), (.int .i64 103), (.int .i64 1099511627776), (.int .i64 1099511627776), (.int .i64 1), (.int .i64 1099511627776), (.int .i64 1099511627776), (.int .i64 105), (.int .i64 1099511627776), (.int .i64 1099511627776), (.int .i64 2), (.int .i64 1099511627776), (.int .i64 1099511627776), (.int .i64 1), (.int .i64 1099511627776)])], (.tup [(.int .i64 1), (.int .i64 0)]), []⟩
set_option maxRecDepth 100000
set_option maxHeartbeats 0
theorem cC1_run : chk cC1 ((evc Tryd.prog [] 100000).call (.fn cC1.g cC1.args) (smallH cC1.tb)) = true := by kernel_rfl
theorem cC1_ok : ConOK Tryd.prog cC1 := con_alone (n := 100000) (c := cC1) cC1_run
end Go.Proofs.YtkmdidplmfdikaaDoor
end

/- EvXcW -/
section
/-
  WHAT A CALL OF THE PROGRAM COMES TO IN A SMALL MEMORY: run by the kernel.
-/
namespace Go.Proofs.YtkmdidplmfdikaaDoor
open Go.Ev
set_option maxRecDepth 100000
set_option maxHeartbeats 0
theorem cW_run : chk cW ((evc Tryd.prog [cS0, cF1, cL, cC1] 100000).call (.fn cW.g cW.args) (smallH cW.tb)) = true := by kernel_rfl
theorem cW_ok : ConOK Tryd.prog cW := con_run (P := Tryd.prog) mixed (cons := [cS0, cF1, cL, cC1]) (n := 100000) (c := cW) (fun _ h => by
  simp only [List.mem_cons, List.not_mem_nil, or_false] at h
  rcases h with rfl | rfl | rfl | rfl
  · exact cS0_ok
  · exact cF1_ok
  · exact cL_ok
  · exact cC1_ok) cW_run
end Go.Proofs.YtkmdidplmfdikaaDoor
end

/- EvS24 -/
section
/-
  ARGUMENTS OPENED: slices of slices, of numbers, of ranges.
-/
namespace Go.Ev
open Go.ChangeShapes Go.WideShapes Go.ChangeAt Go.RowKit Go.Deep
section
variable {H : Type} {enc : TypeId × Value → H} {P : Program} {r : Reach} {bs : Nat}

end
end Go.Ev
end

/- EvL18 -/
section
/-
  BYTES THAT COME IN.
-/
namespace Go.Ev
open Go.ChangeShapes Go.WideShapes Go.ChangeAt Go.RowKit
section
variable {H : Type} {enc : TypeId × Value → H} {P : Program} {r : Reach} {bs : Nat}
theorem open_u8s {W : World} {t e : TypeId} {v : Value} {fuel : Nat} {x : DataW H × List MemPlace} (hu : P.underlying t = some (.slice e)) (he : P.underlying e = some (.int .u8)) (hc : P.cellsOf e = 1)
    (hval : Cell.okWide P W r bs t v) (h : DataW.trod enc P W 0 (fun _ => true) true fuel t [v] = some x) :
    ∃ (xs : List Int) (b : AV), VR (startWR W) b v ∧ Sl (startW W) b 1 xs.length (xs.map fun n => .int .u8 n) ∧ ∀ n ∈ xs, 0 ≤ n ∧ n ≤ 255 := by
  rcases slice_form hu hval with rfl | ⟨b, off, len, cap, rfl, hlc, hex⟩
  · exact ⟨[], .nils, .nils, Sl.nil _ _, fun n hn => by cases hn⟩
  · rcases open_ints hu he hc h with ⟨h0, _⟩ | ⟨a, len', cap', zs, h0, _, _, _, hz, _, hcell, hwf⟩
    · cases h0
    · cases h0
      simp only [if_true] at hz
      have hlen : (zs.take len).length = len := by rw [List.length_take]; omega
      refine ⟨zs.take len, .sl (posN b) off len (some cap) 0, startW_arg (lt_of_block hex) hlc, ?_, fun n hn => ?_⟩
      · rw [hlen]
        refine startW_sl hex (by rw [List.length_map, hlen]; omega) (fun k hk => ⟨.int .u8 (zs.getD k 0), ?_, ?_⟩)
        · rw [← add_at]; exact hcell k (by omega)
        · rw [show absV (NW W) (.int .u8 (zs.getD k 0)) = some (.int .u8 (zs.getD k 0)) from rfl, List.getElem?_map, List.getElem?_take_of_lt (by omega), List.getElem?_eq_getElem (by omega)]
          simp [show k < zs.length by omega]
      · have := hwf n (List.mem_of_mem_take hn)
        unfold Lit.wf at this
        rw [Bool.and_eq_true] at this
        exact ⟨of_decide_eq_true this.1, of_decide_eq_true this.2⟩
end
end Go.Ev
end

/- EvKt -/
section
/- The statement FairTilted of layer 1: lines that are tilted, read from the end or mirrored change and bend as often, and the fairest lines cost as much, the tilted one being tilted likewise, for all spots, both numbers and lines by numbers; the package's table of costs is as the text lays it. -/
namespace Go.Proofs.YtkmdidplmfdikaaDoor.fairTilted
open Go.ChangeShapes Go.WideShapes Go.ChangeAt Go.RowKit Go.Ev
set_option maxRecDepth 100000
set_option maxHeartbeats 0

theorem own : ownKnob Tryd.prog.godebug = none := by kernel_rfl
theorem laidOut : laidOutB Tryd.prog = true := by kernel_rfl
theorem gTab : Tryd.prog.globalNamed "tumblehome/fair.none" = some 0 := by kernel_rfl
theorem gTabType : (Tryd.prog.globals[0]?).map (·.type) = some 109 := by kernel_rfl
theorem cells109 : Tryd.prog.cellsOf 109 = 3 := by kernel_rfl
theorem cells2 : Tryd.prog.cellsOf 2 = 1 := by kernel_rfl
theorem cells22 : Tryd.prog.cellsOf 22 = 1 := by kernel_rfl
theorem cells24 : Tryd.prog.cellsOf 24 = 2 := by kernel_rfl
theorem cells51 : Tryd.prog.cellsOf 51 = 2 := by kernel_rfl
theorem types24 : Tryd.prog.cellTypes Tryd.prog.depth 24 = some [22, 2] := by kernel_rfl
theorem under24 : ∃ f0 f1 : Field, Tryd.prog.underlying 24 = some (.struct #[f0, f1]) ∧ f0.offset = 0 ∧ f1.offset = 1 ∧ f0.type = 22 ∧ f1.type = 2 := ⟨_, _, Tryd.underlying24, rfl, rfl, rfl, rfl⟩
theorem under51 : ∃ f0 f1 : Field, Tryd.prog.underlying 51 = some (.struct #[f0, f1]) ∧ f0.offset = 0 ∧ f1.offset = 1 ∧ f0.type = 2 ∧ f1.type = 2 := ⟨_, _, Tryd.underlying51, rfl, rfl, rfl, rfl⟩

theorem table {W : World} (h : laidMetH Tryd.prog Rows.fairTiltedRow.laid W) : Lib.TabIs Tryd.prog W "tumblehome/fair.none" .i64 [1099511627776, 1099511627776, 1099511627776] :=
  Lib.tabIs_of_head (rest := []) gTab gTabType Tryd.underlying109 Tryd.underlying2 cells2 cells109 h
theorem tab {W : World} (h : laidMetH Tryd.prog Rows.fairTiltedRow.laid W) : Tab (startW W) := by
  have t := table h
  have c0 : W.cell? ⟨0, 0, none⟩ = some (.int .i64 1099511627776) := t.cell gTab 0 (by decide)
  have c1 : W.cell? ⟨0, 1, none⟩ = some (.int .i64 1099511627776) := t.cell gTab 1 (by decide)
  have c2 : W.cell? ⟨0, 2, none⟩ = some (.int .i64 1099511627776) := t.cell gTab 2 (by decide)
  obtain ⟨c, e, f, h0, g0⟩ := cell_block c0
  obtain ⟨_, _, _, h1, g1⟩ := cell_block c1
  obtain ⟨_, _, _, h2, g2⟩ := cell_block c2
  rw [h0] at h1 h2
  cases h1
  cases h2
  exact ⟨_, startW_block h0, by show (c[0]?).bind _ = _; rw [g0]; rfl, by show (c[1]?).bind _ = _; rw [g1]; rfl, by show (c[2]?).bind _ = _; rw [g2]; rfl⟩

theorem cells5 : Tryd.prog.cellsOf 5 = 1 := by kernel_rfl
theorem okWideI16 {W : World} {t : TypeId} {v : Value} {r : Reach} {bs : Nat} (hu : Tryd.prog.underlying t = some (.int .i16)) (h : Cell.okWide Tryd.prog W r bs t v) : ∃ n, v = .int .i16 n ∧ -32768 ≤ n ∧ n ≤ 32767 := by
  unfold Cell.okWide at h
  rw [hu] at h
  have h' : Cell.ok Tryd.prog W r bs t v := by cases v <;> exact h
  unfold Cell.ok at h'
  rw [hu] at h'
  cases v with
  | int k' n =>
    obtain ⟨rfl, h1, h2⟩ := h'
    exact ⟨n, rfl, h1, h2⟩
  | _ => exact h'.elim
theorem trodAll_four {H : Type} {enc : TypeId × Value → H} {P : Program} {w : World} {base : Nat} {spare : Nat → Bool} {held : Bool} {t0 t1 t2 t3 : TypeId} {args : Array Value} {ds : List (DataW H)} {ps : List MemPlace} (h : DataW.TrodAll enc P w base spare held [t0, t1, t2, t3] args.toList ds ps) :
    ∃ v0 v1 v2 v3 d0 d1 d2 d3 p0 p3, args = #[v0, v1, v2, v3] ∧ ds = [d0, d1, d2, d3] ∧ DataW.Trod enc P w base spare held t0 v0 d0 p0 ∧ DataW.Trod enc P w base spare held t3 v3 d3 p3 := by
  obtain ⟨v0, vs, d0, ds', p, q, hargs, rfl, rfl, hd0, hrest⟩ := trodAll_cons h
  obtain ⟨v1, vs', d1, ds'', p', q', rfl, rfl, rfl, hd1, hrest'⟩ := trodAll_cons hrest
  obtain ⟨v2, vs2, d2, ds2, p2, q2, rfl, rfl, rfl, hd2, hrest2⟩ := trodAll_cons hrest'
  obtain ⟨v3, vs3, d3, ds3, p3, q3, rfl, rfl, rfl, hd3, hrest3⟩ := trodAll_cons hrest2
  obtain ⟨rfl, rfl, rfl⟩ := trodAll_nil hrest3
  exact ⟨v0, v1, v2, v3, d0, d1, d2, d3, _, _, by cases args; simp_all, rfl, hd0, hd3⟩

theorem contract (H : Type) (enc : TypeId × Value → H) (W : World) (base : Nat) (args : Array Value) (ds gs : List (DataW H)) (before : List MemPlace) (hval : ∀ (j : Nat) t v, Tryd.f8.params[j]? = some t → args[j]? = some v → Value.okWide Tryd.prog W .any base t v)
    (hW : DataW.Whole enc Tryd.prog Tryd.f8.params.toList Rows.fairTiltedSpec.vars false W args.toList ds gs before) (hL : laidMetH Tryd.prog Rows.fairTiltedRow.laid W) :
    Calls Tryd.prog 8 args W fun e W' => ∃ v, e = .returned v ∧ Rows.fairTiltedSpec.post enc Tryd.prog Tryd.f8 false true false false W args v W' := by
  have hW' := hW
  obtain ⟨p, q, hA0, hV, rfl, hfz, hnd⟩ := hW
  have hA : DataW.TrodAll enc Tryd.prog W 0 (fun _ => true) true Tryd.f8.params.toList args.toList ds p := hA0
  rw [Tryd.params8] at hA hval
  obtain ⟨v0, v1, v2, v3, d0, d1, d2, d3, p0, p3, rfl, rfl, ⟨n0, h0⟩, ⟨n4, h4⟩⟩ := trodAll_four hA
  obtain ⟨f0, f1, hu, o0, o1, t0, t1⟩ := under24
  obtain ⟨g0, g1, hg, go0, go1, gt0, gt1⟩ := under51
  obtain ⟨u, w, n, y, z, rfl, k0, k1, r0, r1⟩ := open_two hu cells24 o0 o1 t0 t1 cells22 cells2 types24 (hval 0 24 v0 rfl rfl) h0
  obtain ⟨turn, hz, _⟩ := DataW.trod_int Tryd.underlying2 r1
  cases hz
  obtain ⟨sp, a, va, ca, sa⟩ := open_pairs Tryd.underlying22 hg cells51 go0 go1 gt0 gt1 Tryd.underlying2 cells2 k0 r0
  obtain ⟨ad, hz, had⟩ := okWideI16 Tryd.underlying49 (okWide_cell (P := Tryd.prog) Tryd.underlying49 (fun _ e => by cases e) (fun _ _ e => by cases e) (hval 1 49 v1 rfl rfl))
  subst hz
  obtain ⟨ti, hz, hti⟩ := okWideI16 Tryd.underlying49 (okWide_cell (P := Tryd.prog) Tryd.underlying49 (fun _ e => by cases e) (fun _ _ e => by cases e) (hval 2 49 v2 rfl rfl))
  subst hz
  have kb := okWide_cell (P := Tryd.prog) Tryd.underlying45 (fun _ e => by cases e) (fun _ _ e => by cases e) (hval 3 45 v3 rfl rfl)
  rw [slice_cells Tryd.underlying45 kb] at h4
  obtain ⟨bys, b, vb, sb, hby⟩ := open_u8s Tryd.underlying45 Tryd.underlying5 cells5 kb h4
  have walk := lawTilted sp turn ad ti bys had hti hby a b ca (startW W) (startW_wf W) (tab hL) sa sb
  have hargs : VL (startWR W) [.agg [a, .int .i64 turn], .int .i16 ad, .int .i16 ti, b] (#[.agg #[u, .int .i64 turn], .int .i16 ad, .int .i16 ti, v3] : Array Value).toList :=
    .cons _ _ _ _ (.agg _ _ (.cons _ _ _ _ va (.cons _ _ _ _ (.int _ _) .nil))) (.cons _ _ _ _ (.int _ _) (.cons _ _ _ _ (.int _ _) (.cons _ _ _ _ vb .nil)))
  refine (startW_true (P := Tryd.prog) mixed (K := KK) (fun c hc => by
    have : c = cW := List.mem_singleton.1 hc
    rw [this]; exact cW_ok) walk hargs).mono fun e W' ⟨he, hgr, hs⟩ => ?_
  subst he
  refine ⟨_, rfl, law_post laidOut (by
    rw [Tryd.params8]
    intro t ht
    rcases List.mem_cons.1 ht with rfl | ht
    · exact ⟨by kernel_rfl, of_decide_eq_true (by kernel_rfl)⟩
    rcases List.mem_cons.1 ht with rfl | ht
    · exact ⟨by kernel_rfl, of_decide_eq_true (by kernel_rfl)⟩
    rcases List.mem_cons.1 ht with rfl | ht
    · exact ⟨by kernel_rfl, of_decide_eq_true (by kernel_rfl)⟩
    rcases List.mem_cons.1 ht with rfl | ht
    · exact ⟨by kernel_rfl, of_decide_eq_true (by kernel_rfl)⟩
    cases ht) rfl (by kernel_rfl) Tryd.underlying4 (fun gs' ⟨q', hq⟩ => ?_) hW' hgr hs⟩
  obtain ⟨rfl, _⟩ := trodVars_none hq
  exact ⟨rfl, rfl, rfl⟩

/-- A world for the witness. -/
noncomputable def laidWorld (os : Os) : World :=
  { World.holding Tryd.prog os ⟨#[], #[], []⟩ with heap := (World.holding Tryd.prog os ⟨#[], #[], []⟩).heap.modify 0 fun
      | .cells _ t frozen => .cells #[.int .i64 1099511627776, .int .i64 1099511627776, .int .i64 1099511627776] t frozen
      | o => o }
noncomputable def args0 : Array Value := #[.agg #[.slice none 0 0, .int .i64 0], .int .i16 0, .int .i16 0, .slice none 0 0]
theorem laid_met (os : Os) : laidMet Tryd.prog Rows.fairTiltedRow.laid ((laidWorld os).forCall (fun _ _ => 0) ⟨#[], args0, []⟩).memory :=
  laidMet_of_run' 8 (by kernel_rfl) (by kernel_rfl)
theorem reads (os : Os) {H : Type} (enc : TypeId × Value → H) : ∃ places, DataW.whole enc Tryd.prog ((laidWorld os).forCall (fun _ _ => 0) ⟨#[], args0, []⟩).memory Tryd.f8.params.toList Rows.fairTiltedSpec.vars false args0.toList 8 = some ([.agg [.nil, .lit (.int .i64 0)], .lit (.int .i16 0), .lit (.int .i16 0), .nil], [], places) :=
  ⟨[], by kernel_rfl⟩

theorem lifted (os : Os) (started : os.Started) (H : Type) (enc : TypeId × Value → H) (F : Stop.Interp) :
    ReturnsInHanded {} Tryd.checked os 8 .any ((OpenSpec.ofChange Rows.fairTiltedSpec).preRow enc Tryd.prog Tryd.f8 Rows.fairTiltedRow.domain false Rows.fairTiltedRow.laid) (((OpenSpec.ofChange Rows.fairTiltedSpec).at F).post enc Tryd.prog Tryd.f8 false true false false) := by
  obtain ⟨places, hx⟩ := reads os enc
  refine returnsInHanded_of_row (C := Tryd.checked) (s := OpenSpec.ofChange Rows.fairTiltedSpec) own started (by kernel_rfl) Tryd.func8
    (witness_row_at (enc := enc) (C := Tryd.checked) false (laidWorld os) args0 rfl (by kernel_rfl) (by kernel_rfl) (by kernel_rfl)
      (OpenSpec.preRow_of_cond 8 hx (by kernel_rfl) (fun k hk => by cases hk) (by kernel_rfl) (laid_met os))) ?_
  intro W base args ds gs before hval hW _ _ _ hL _ _
  exact contract H enc W base args ds gs before hval hW hL

theorem said : Rows.FairTiltedSaid :=
  OpenClaim.holds_of_cond 8 Tryd.f8 rfl rfl rfl rfl rfl rfl rfl ⟨rfl, rfl, rfl, rfl, rfl⟩ rfl rfl rfl rfl rfl (by kernel_rfl) Tryd.func8 (by kernel_rfl)
    (of_decide_eq_true (by kernel_rfl)) (by unfold Func.isWrapper; first | (rw [if_pos (by decide +kernel)]; kernel_rfl) | (rw [if_neg (by decide +kernel)]; exact ⟨rfl, rfl⟩))
    (fun os started H enc _ F => by rw [OpenClaim.pre_eq_preRow]; exact lifted os started H enc F)

theorem stand24 : Tryd.pinned.checked.prog.wantsStandIn 24 = false := by kernel_rfl
theorem stand49 : Tryd.pinned.checked.prog.wantsStandIn 49 = false := by kernel_rfl
theorem stand45 : Tryd.pinned.checked.prog.wantsStandIn 45 = false := by kernel_rfl
theorem plain (f : FuncId) (fn : Func) (hf : Tryd.pinned.checked.prog.funcNamed "tumblehome/tumblehomelaw01.FairTilted" = some f) (hfn : Tryd.pinned.checked.prog.funcs[f]? = some fn) :
    false = Tryd.pinned.checked.prog.looks [] ∧ ∀ (j : Nat) t, fn.params[j]? = some t → Tryd.pinned.checked.prog.wantsStandIn t = false := by
  obtain rfl : f = 8 := Option.some.inj ((show Tryd.prog.funcNamed "tumblehome/tumblehomelaw01.FairTilted" = some 8 by kernel_rfl).symm.trans hf) |>.symm
  obtain rfl : fn = Tryd.f8 := (Option.some.inj (Tryd.func8.symm.trans hfn)).symm
  refine ⟨by kernel_rfl, fun j t ht => ?_⟩
  rw [Tryd.params8] at ht
  match j, ht with
  | 0, ht =>
    have e : t = 24 := by simpa using ht.symm
    rw [e]
    exact stand24
  | 1, ht =>
    have e : t = 49 := by simpa using ht.symm
    rw [e]
    exact stand49
  | 2, ht =>
    have e : t = 49 := by simpa using ht.symm
    rw [e]
    exact stand49
  | 3, ht =>
    have e : t = 45 := by simpa using ht.symm
    rw [e]
    exact stand45
  | j + 4, ht => simp at ht

/-- ████ THE CARD ████ -/
theorem card : Rows.FairTiltedCardSaid :=
  Claim7.holds_tied_plain_at .later [] _ _ _ _ said (fun _ h => by cases h) (by kernel_rfl) (fun _ h => by cases h) fairTilted_row_tie rfl ⟨rfl, rfl⟩ (by kernel_rfl) rfl plain (by kernel_rfl)
end Go.Proofs.YtkmdidplmfdikaaDoor.fairTilted
end
