/-
  THE EVALUATOR'S SOUNDNESS, 14: what is known under fewer names; calls that leave memory as it was.
-/
import Derived.Test.YthaleckfgcgegaaEvS13
namespace Go.Ev

mutual
theorem VR.down {ρ ρ' : R} (h : ∀ id x, ρ id = some x → ρ' id = some x) : ∀ {v : AV} {u v' : Value}, VR ρ v u → VR ρ' v v' → VR ρ v v'
  | _, _, _, .bool b, r => by cases r; exact .bool b
  | _, _, _, .int k n, r => by cases r; exact .int k n
  | _, _, _, .str s, r => by cases r; exact .str s
  | _, _, _, .ptr id off b x hx hp, r => by
    cases r with
    | ptr _ _ b2 y hy hq => have := (h id x hx).symm.trans hy; cases this; exact .ptr id off b2 x hx hq
  | _, _, _, .nilp, r => by cases r; exact .nilp
  | _, _, _, .sl id off len cap esz b cap' x hx hp hc hl, r => by
    cases r with
    | sl _ _ _ _ _ b2 cap2 y hy hq hc2 hl2 => have := (h id x hx).symm.trans hy; cases this; exact .sl id off len cap esz b2 cap2 x hx hq hc2 hl2
    | sle _ _ _ a0 hy => have := (h id x hx).symm.trans hy; cases this; exact .sle id off esz a0 hx
    | slu _ _ _ c0 a0 y hy h0 => exact .slu id off esz c0 a0 x hx h0
  | _, _, _, .slu id off esz c a x hx h0, r => by
    cases r with
    | sl _ _ _ _ _ b2 cap2 y hy hq hc2 hl2 => have := (h id x hx).symm.trans hy; cases this; exact .sl id off 0 none esz b2 cap2 x hx hq hc2 hl2
    | slu _ _ _ c0 a0 y hy h1 => exact .slu id off esz c0 a0 x hx h1
  | _, _, _, .sle id off esz a hx, r => by
    cases r with
    | sl _ _ _ _ _ b2 cap2 y hy hq hc2 hl2 => have := (h id none hx).symm.trans hy; cases this; exact .sl id off 0 (some 0) esz b2 cap2 none hx hq hc2 hl2
    | sle _ _ _ a0 hy => exact .sle id off esz a0 hx
  | _, _, _, .nils, r => by cases r; exact .nils
  | _, _, _, .map id b x hx hp, r => by
    cases r with
    | map _ b2 y hy hq => have := (h id x hx).symm.trans hy; cases this; exact .map id b2 x hx hq
  | _, _, _, .nilm, r => by cases r; exact .nilm
  | _, _, _, .fn f a c a' c' ha hc, r => by
    cases r with
    | fn _ _ _ a2 c2 ha2 hc2 => exact .fn f a c a2 c2 (VL.down h ha ha2) (VL.down h hc hc2)
  | _, _, _, .yld id b x hx hp, r => by
    cases r with
    | yld _ b2 y hy hq => have := (h id x hx).symm.trans hy; cases this; exact .yld id b2 x hx hq
  | _, _, _, .nilf, r => by cases r; exact .nilf
  | _, _, _, .iface t v v' hv, r => by
    cases r with
    | iface _ _ v2 hv2 => exact .iface t v v2 (VR.down h hv hv2)
  | _, _, _, .nili, r => by cases r; exact .nili
  | _, _, _, .agg cs cs' hc, r => by
    cases r with
    | agg _ cs2 hc2 => exact .agg cs cs2 (VL.down h hc hc2)
  | _, _, _, .tup cs cs' hc, r => by
    cases r with
    | tup _ cs2 hc2 => exact .tup cs cs2 (VL.down h hc hc2)
theorem VL.down {ρ ρ' : R} (h : ∀ id x, ρ id = some x → ρ' id = some x) : ∀ {v : List AV} {u v' : List Value}, VL ρ v u → VL ρ' v v' → VL ρ v v'
  | _, _, _, .nil, r => by cases r; exact .nil
  | _, _, _, .cons v vs u us hv hvs, r => by
    cases r with
    | cons _ _ u2 us2 hv2 hvs2 => exact .cons v vs u2 us2 (VR.down h hv hv2) (VL.down h hvs hvs2)
end

theorem RowsF.down {ρ ρ' : R} (h : ∀ id x, ρ id = some x → ρ' id = some x) {m : Nat → Option AV} {c c' : Array Value} (a : RowsF ρ m c) (b : RowsF ρ' m c') : RowsF ρ m c' := fun i v hv => by
  obtain ⟨u, _, h1⟩ := a i v hv
  obtain ⟨v', h2, h3⟩ := b i v hv
  exact ⟨v', h2, h1.down h h3⟩
theorem TR.down {ρ ρ' : R} (h : ∀ id x, ρ id = some x → ρ' id = some x) {n : Nat} {m : M AV} {c c' : Array Value} (a : TR ρ n m c) (b : TR ρ' n m c') : TR ρ n m c' :=
  ⟨b.1, fun i v hv => (a.2 i v hv).down h (b.2 i v hv)⟩
theorem ER.down {ρ ρ' : R} (h : ∀ id x, ρ id = some x → ρ' id = some x) {es : List (Value × AV × Nat)} {c c' : List MapEntry} (a : ER ρ es c) : ER ρ' es c' → ER ρ es c' := by
  induction a generalizing c' with
  | nil => intro b; cases b; exact .nil
  | cons k v born u es c hv _ ih =>
    intro b
    cases b with
    | cons _ _ _ u2 _ c2 hv2 h2 => exact .cons k v born u2 es c2 (hv.down h hv2) (ih h2)
theorem OR.down {ρ ρ' : R} (h : ∀ id x, ρ id = some x → ρ' id = some x) {n : Nat} {o : AO} {c c' : Obj} (a : OR ρ n o c) (b : OR ρ' n o c') : OR ρ n o c' := by
  cases a with
  | cells m e c hc =>
    generalize hn : c.size = n at b
    cases b with
    | cells _ _ c2 hc2 => exact .cells m e c2 (hc.down h hc2)
  | ro m e c f hc =>
    generalize hn : c.size = n at b
    cases b with
    | ro _ e2 c2 f2 hc2 => exact .ro m e2 c2 f2 (hc.down h hc2)
  | map es clock es' he =>
    generalize hz : (0 : Nat) = z at b
    cases b with
    | map _ _ es2 he2 => exact .map es clock es2 (he.down h he2)
  | loop st pend fn n tm tmps params assign body d db x ht hd hx =>
    generalize hz : (0 : Nat) = z at b
    cases b with
    | loop _ _ _ _ _ tmps2 _ _ _ _ db2 y ht2 hd2 hy2 =>
      have := (h d x hd).symm.trans hd2
      cases this
      exact .loop st pend fn n tm tmps2 params assign body d db2 x (ht.down h ht2) hd hy2
  | dfr => generalize hz : (0 : Nat) = z at b; cases b; exact .dfr
  | taken => generalize hz : (0 : Nat) = z at b; cases b; exact .taken

theorem OR.notDead {ρ : R} {n : Nat} {o : AO} {c : Obj} (a : OR ρ n o c) : o ≠ .dead := by cases a <;> intro e <;> cases e

/-- Where nothing that was there has been written, no name has died. -/
theorem quiet_same {ρ ρ' : R} {h h' : H} {w w' : World} (hr : HR ρ h w) (hr' : HR ρ' h' w') (ex : Ext ρ h w ρ' h' w') (hq : h.clock ≤ h'.w) : ∀ id x, ρ id = some x → ρ' id = some x := by
  intro id x hx
  rcases ex.le id x hx with h1 | h1
  · exact h1
  · cases x with
    | none => exact h1
    | some bn =>
      obtain ⟨b, n⟩ := bn
      obtain ⟨born, o, o', g1, _, g3⟩ := hr.live id b n hx
      have hb := (ex.keep id born o g1).2 (Nat.lt_of_lt_of_le (hr.old id born o g1) hq)
      obtain ⟨b2, hd⟩ := hr'.dead id h1
      rw [hb] at hd
      cases hd
      exact absurd rfl g3.notDead

theorem quiet_objs {ρ ρ' : R} {h h' : H} {w w' : World} (hr : HR ρ h w) (ex : Ext ρ h w ρ' h' w') (hq : h.clock ≤ h'.w) {id : Pos} {born : Nat} {o : AO} (hg : T.get id h.objs = some (born, o)) : T.get id h'.objs = some (born, o) :=
  (ex.keep id born o hg).2 (Nat.lt_of_lt_of_le (hr.old id born o hg) hq)

theorem HR.marked {ρ : R} {h : H} {w : World} (hr : HR ρ h w) : HR ρ (marked h) w := { live := hr.live, inj := hr.inj, dead := hr.dead, old := hr.old }

theorem flat1_down {ρ ρ' : R} {v : AV} {v' : Value} (h : flat1 v = true) (r : VR ρ v v') : VR ρ' v v' := by
  cases r with
  | bool b => exact .bool b
  | int k n => exact .int k n
  | str s => exact .str s
  | nilp => exact .nilp
  | nils => exact .nils
  | nilm => exact .nilm
  | nilf => exact .nilf
  | nili => exact .nili
  | _ => cases h

theorem flatL_down {ρ ρ' : R} : ∀ {v : List AV} {v' : List Value}, VL ρ v v' → flatL v = true → VL ρ' v v'
  | _, _, .nil, _ => .nil
  | _, _, .cons v vs v' vs' hv hvs, h => by
    have h' : (bif flat1 v then flatL vs else false) = true := h
    cases hf : flat1 v with
    | false => rw [hf] at h'; cases h'
    | true => rw [hf] at h'; exact .cons v vs v' vs' (flat1_down hf hv) (flatL_down hvs h')

theorem flat2_down {ρ ρ' : R} {v : AV} {v' : Value} (h : flat2 v = true) (r : VR ρ v v') : VR ρ' v v' := by
  cases r with
  | agg cs cs' hc => exact .agg cs cs' (flatL_down hc h)
  | fn f a c a' c' ha hc =>
    have h' : (bif flatL a then flatL c else false) = true := h
    cases hf : flatL a with
    | false => rw [hf] at h'; cases h'
    | true => rw [hf] at h'; exact .fn f a c a' c' (flatL_down ha hf) (flatL_down hc h')
  | bool b => exact .bool b
  | int k n => exact .int k n
  | str s => exact .str s
  | nilp => exact .nilp
  | nils => exact .nils
  | nilm => exact .nilm
  | nilf => exact .nilf
  | nili => exact .nili
  | _ => cases h
theorem flatL2_down {ρ ρ' : R} : ∀ {v : List AV} {v' : List Value}, VL ρ v v' → flatL2 v = true → VL ρ' v v'
  | _, _, .nil, _ => .nil
  | _, _, .cons v vs v' vs' hv hvs, h => by
    have h' : (bif flat2 v then flatL2 vs else false) = true := h
    cases hf : flat2 v with
    | false => rw [hf] at h'; cases h'
    | true => rw [hf] at h'; exact .cons v vs v' vs' (flat2_down hf hv) (flatL2_down hvs h')
theorem flat_down {ρ ρ' : R} {v : AV} {v' : Value} (h : flat v = true) (r : VR ρ v v') : VR ρ' v v' := by
  cases v with
  | tup cs =>
    cases r with
    | tup _ cs' hc => exact .tup cs cs' (flatL2_down hc h)
  | _ => exact flat2_down h r

/-- From the mark to the memory with the mark as it was. -/
theorem Ext.unmarked {ρ ρ' : R} {h : H} {w w' : World} {objs : T (Nat × AO)} {next : Pos} {clock w1 : Nat} (ex : Ext ρ (Ev.marked h) w ρ' ⟨objs, next, clock, w1⟩ w') :
    Ext ρ h w ρ' ⟨objs, next, clock, bif Nat.ble h.w w1 then h.w else w1⟩ w' :=
  { le := ex.le, newd := ex.newd, rng := ex.rng, wr := ex.wr, frame := ex.frame, size := ex.size, frz := ex.frz, os := ex.os, out := ex.out, clk := ex.clk
    keep := fun id born o hg => by
      obtain ⟨k1, k2⟩ := ex.keep id born o hg
      refine ⟨k1, fun hb => k2 ?_⟩
      have : (bif Nat.ble h.w w1 then h.w else w1) ≤ w1 := by
        cases hq : Nat.ble h.w w1 with
        | true => exact Nat.le_of_ble_eq_true hq
        | false => exact Nat.le_refl _
      exact Nat.lt_of_lt_of_le hb this
    wle := by
      show (bif Nat.ble h.w w1 then h.w else w1) ≤ h.w
      cases hq : Nat.ble h.w w1 with
      | true => exact Nat.le_refl _
      | false =>
        show w1 ≤ h.w
        rcases Nat.le_total h.w w1 with k | k
        · rw [Nat.ble_eq_true_of_le k] at hq; cases hq
        · exact k }

theorem HR.remark {ρ : R} {w : World} {objs : T (Nat × AO)} {next : Pos} {clock w1 w2 : Nat} (hr : HR ρ ⟨objs, next, clock, w1⟩ w) : HR ρ ⟨objs, next, clock, w2⟩ w := { live := hr.live, inj := hr.inj, dead := hr.dead, old := hr.old }

/-- A call's memory, whether it is taken back or not. -/
theorem pureCall_run {ρ ρ' : R} {h h1 h' : H} {w w' : World} {v u : AV} {v' : Value} (hr : HR ρ h w) (hr1 : HR ρ' h1 w') (ex : Ext ρ (Ev.marked h) w ρ' h1 w') (hv : VR ρ' v v') (hp : pureCall h (.ok v h1) = .ok u h') :
    ∃ ρ2, u = v ∧ VR ρ2 u v' ∧ HR ρ2 h' w' ∧ Ext ρ h w ρ2 h' w' := by
  obtain ⟨objs, next, clock, w1⟩ := h1
  unfold pureCall at hp
  dsimp only at hp
  cases hc : (Nat.ble h.clock w1 && flat v) with
  | false =>
    have hp' : RV.ok v ⟨objs, next, clock, bif Nat.ble h.w w1 then h.w else w1⟩ = .ok u h' := by
      rw [hc] at hp
      exact hp
    cases hp'
    exact ⟨ρ', rfl, hv, hr1.remark, ex.unmarked⟩
  | true =>
    have hp' : RV.ok v h = .ok u h' := by
      rw [hc] at hp
      exact hp
    cases hp'
    rw [Bool.and_eq_true] at hc
    have hq : (Ev.marked h).clock ≤ w1 := Nat.le_of_ble_eq_true hc.1
    have same := quiet_same hr.marked hr1 ex hq
    refine ⟨ρ, rfl, flat_down hc.2 hv, ⟨?_, hr.inj, hr.dead, hr.old⟩, ?_⟩
    · intro id b n hid
      obtain ⟨born, o, o', g1, _, g3⟩ := hr.live id b n hid
      obtain ⟨born2, o2, o2', k1, k2, k3⟩ := hr1.live id b n (same id _ hid)
      have hobj := quiet_objs hr.marked ex hq g1
      rw [hobj] at k1
      cases k1
      exact ⟨born, o, o2', g1, k2, g3.down same k3⟩
    · refine { Ext.refl (ρ := ρ) (h := h) (w := w) with frame := ?_, size := ex.size, frz := ex.frz, os := ex.os, out := ex.out }
      exact ex.frame

end Go.Ev
