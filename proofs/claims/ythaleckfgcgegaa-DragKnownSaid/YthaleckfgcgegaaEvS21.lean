/-
  A START OUT OF ANY WORLD: each block of cells, as far as its values can be read.
-/
import Derived.Test.YthaleckfgcgegaaEvS20
import Derived.Test.YthaleckfgcgegaaEvL6
namespace Go.Ev
open Go.RowKit

/-- A value of one cell, read. -/
noncomputable def absV (N : Nat) : Value → Option AV
  | .bool b => some (.bool b)
  | .int k n => some (.int k n)
  | .string s => some (.str s)
  | .pointer none => some .nilp
  | .pointer (some ⟨b, off, none⟩) => if b < N then some (.ptr (posN b) off) else none
  | .slice none 0 0 => some .nils
  | .slice (some a) len cap => if a.block < N ∧ a.spot = none ∧ len ≤ cap then some (.sl (posN a.block) a.off len (some cap) 0) else if len = 0 ∧ cap = 0 then some (.sl (posN (N - 1)) 0 0 (some 0) 0) else none
  | .map none => some .nilm
  | .nilFunc => some .nilf
  | .nilIface => some .nili
  | _ => none

/-- How many names a start has: the last one is no block's. -/
abbrev NW (W : World) : Nat := max 64 (W.heap.size + 1)
theorem NW_gt (W : World) : W.heap.size < NW W := by unfold NW; omega
theorem NW_last (W : World) : NW W - 1 < NW W ∧ W.heap.size ≤ NW W - 1 := by unfold NW; omega
noncomputable def blockF (W : World) (b : Nat) : Option (Nat → Option AV) := match W.heap[b]? with
  | some (.cells c _ _) => some fun i => (c[i]?).bind (absV (NW W))
  | _ => none

noncomputable abbrev startW (W : World) : H := startG (blockF W) (NW W)
noncomputable abbrev startWR (W : World) : R := startGR (blockF W) (NW W) W

theorem startWR_name (W : World) {b : Nat} (hb : b < NW W) : ∃ x, startWR W (posN b) = some x ∧ ∀ c n, x = some (c, n) → c = b := by
  unfold startWR startGR
  rw [posN_val, if_pos hb]
  cases blockF W b with
  | none => exact ⟨none, rfl, fun c n e => by cases e⟩
  | some f => exact ⟨_, rfl, fun c n e => by cases e; rfl⟩

theorem startWR_last (W : World) : startWR W (posN (NW W - 1)) = some none := by
  unfold startWR startGR
  rw [posN_val, if_pos (NW_last W).1]
  have : blockF W (NW W - 1) = none := by
    unfold blockF
    rw [Array.getElem?_eq_none (NW_last W).2]
  rw [this]; rfl

theorem absV_vr {W : World} {v : Value} {a : AV} (h : absV (NW W) v = some a) : VR (startWR W) a v := by
  unfold absV at h
  split at h
  · cases h; exact .bool _
  · cases h; exact .int _ _
  · cases h; exact .str _
  · cases h; exact .nilp
  · split at h
    · rename_i hb
      cases h
      obtain ⟨x, h1, h2⟩ := startWR_name W hb
      exact .ptr _ _ _ x h1 h2
    · cases h
  · cases h; exact .nils
  · rename_i a len cap
    obtain ⟨b, off, spot⟩ := a
    split at h
    · rename_i hb
      obtain ⟨hb1, hb2, hb3⟩ := hb
      dsimp only at hb1 hb2
      subst hb2
      cases h
      obtain ⟨x, h1, h2⟩ := startWR_name W hb1
      exact .sl _ _ _ _ _ _ _ x h1 (fun c n e => ⟨h2 c n e, fun e => by cases e⟩) (fun c e => by cases e; rfl) hb3
    · split at h
      · rename_i hz
        obtain ⟨rfl, rfl⟩ := hz
        cases h
        exact .sle _ _ _ _ (startWR_last W)
      · cases h
  · cases h; exact .nilm
  · cases h; exact .nilf
  · cases h; exact .nili
  · cases h

theorem known0 (W : World) : Known (blockF W) (NW W) W := by
  intro b m hb
  unfold blockF at hb
  split at hb
  · rename_i c e f hc
    have hlt : b < W.heap.size := (Array.getElem?_eq_some_iff.1 hc).1
    cases hb
    refine ⟨Nat.lt_trans hlt (NW_gt W), c, e, f, hc, fun i v hv => ?_⟩
    obtain ⟨v', h1, h2⟩ := Option.bind_eq_some_iff.1 hv
    exact ⟨v', h1, absV_vr h2⟩
  · cases hb

theorem startW_wf (W : World) : Wf (startW W) := startG_wf _ _

/-- A block of cells, in the start. -/
theorem startW_block {W : World} {b : Nat} {c : Array Value} {e : TypeId} {f : Nat × Nat} (hb : W.heap[b]? = some (.cells c e f)) : Ev.getObj (posN b) (startW W) = some (.ro fun i => (c[i]?).bind (absV (NW W))) := by
  have hlt : b < W.heap.size := (Array.getElem?_eq_some_iff.1 hb).1
  refine startG_getObj (Nat.lt_trans hlt (NW_gt W)) ?_
  unfold blockF
  rw [hb]

theorem cell_block {W : World} {b off : Nat} {v : Value} (h : W.cell? ⟨b, off, none⟩ = some v) : ∃ c e f, W.heap[b]? = some (.cells c e f) ∧ c[off]? = some v := by
  unfold World.cell? at h
  dsimp only at h
  split at h
  · rename_i c e f hb
    exact ⟨_, _, _, hb, h⟩
  · cases h

/-- A slice that came in. -/
theorem startW_sl {W : World} {b off len cap m : Nat} {cells : List AV} (hex : ∃ c e f, W.heap[b]? = some (.cells c e f)) (hl : cells.length = len * m)
    (hk : ∀ k, k < len * m → ∃ v, W.cell? ⟨b, off + k, none⟩ = some v ∧ absV (NW W) v = cells[k]?) : Sl (startW W) (.sl (posN b) off len (some cap) 0) m len cells := by
  obtain ⟨c, e, f, hb⟩ := hex
  refine ⟨hl, .inr ⟨_, _, _, _, _, _, rfl, startW_block hb, rfl, fun k hkl => ?_⟩⟩
  obtain ⟨v, h1, h2⟩ := hk k hkl
  obtain ⟨c', e', f', hb', hc'⟩ := cell_block h1
  rw [hb] at hb'
  cases hb'
  show (c[off + k]?).bind _ = _
  rw [hc']
  exact h2

theorem startW_arg {W : World} {b off len cap : Nat} (hb : b < W.heap.size) (hl : len ≤ cap) : VR (startWR W) (.sl (posN b) off len (some cap) 0) (.slice (some ⟨b, off, none⟩) len cap) :=
  absV_vr (by show (if b < NW W ∧ none = none ∧ len ≤ cap then _ else _) = _; rw [if_pos ⟨Nat.lt_trans hb (NW_gt W), rfl, hl⟩])

/-- ████ WHAT THE LIMIT FINDS FROM ANY WORLD ████ -/
theorem startW_true {P : Program} (hm : P.follows .mixedOrders = true) {K : List Con} (hK : ∀ c ∈ K, ConOK P c) {g : FuncId} {W : World} {args : List AV} {h' : H} (he : (om P K).call (.fn g args) (startW W) = .ok (.bool true) h')
    {args' : Array Value} (ha : VL (startWR W) args args'.toList) : Calls P g args' W fun e w' => e = .returned (.bool true) ∧ Grown W w' ∧ ∀ b, b < W.heap.size → w'.heap[b]? = W.heap[b]? := by
  refine (startG_calls (om_ok hm hK he) (Nat.le_max_left _ _) (known0 W) ha).mono fun e w' ⟨⟨ρ, v', h1, h2, _⟩, h3⟩ => ⟨?_, h3⟩
  cases h2
  exact h1
end Go.Ev
