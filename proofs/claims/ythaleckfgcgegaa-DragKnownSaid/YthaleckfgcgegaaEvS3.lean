/-
  THE EVALUATOR'S SOUNDNESS, 3: values, operands, what a type tells, reading and writing cells.
-/
import Derived.Test.YthaleckfgcgegaaEvS2
namespace Go.Ev

theorem abs1_vr {ρ : R} {v : Value} {a : AV} (h : abs1 v = some a) : VR ρ a v := by
  unfold abs1 at h
  split at h <;> try cases h
  · exact .bool _
  · exact .int _ _
  · exact .str _
  · exact .nilp
  · exact .nils
  · exact .nilm
  · exact .nilf
  · exact .nili
  · rename_i f first captured
    cases hf : first.toList with
    | cons x xs => rw [hf] at h; cases h
    | nil =>
      cases hc : captured.toList with
      | cons x xs => rw [hf, hc] at h; cases h
      | nil =>
        rw [hf, hc] at h
        cases h
        exact .fn f [] [] first captured (by rw [hf]; exact .nil) (by rw [hc]; exact .nil)

theorem absL_vl {ρ : R} : ∀ {vs : List Value} {as : List AV}, absL vs = some as → VL ρ as vs
  | [], as, h => by cases h; exact .nil
  | v :: vs, as, h => by
    unfold absL at h
    cases h1 : abs1 v with
    | none => rw [h1] at h; cases h
    | some a =>
      cases h2 : absL vs with
      | none => rw [h1, h2] at h; cases h
      | some bs => rw [h1, h2] at h; cases h; exact .cons _ _ _ _ (abs1_vr h1) (absL_vl h2)

theorem abs0_vr {ρ : R} {v : Value} {a : AV} (h : abs0 v = some a) : VR ρ a v := by
  unfold abs0 at h
  split at h
  · rename_i cs
    cases hl : absL cs.toList with
    | none => rw [hl] at h; cases h
    | some l => rw [hl] at h; cases h; exact .agg _ _ (absL_vl hl)
  · rename_i cs
    cases hl : absL cs.toList with
    | none => rw [hl] at h; cases h
    | some l => rw [hl] at h; cases h; exact .tup _ _ (absL_vl hl)
  · exact abs1_vr h

theorem conc1_eq {ρ : R} {a : AV} {u v : Value} (h : conc1 a = some u) (r : VR ρ a v) : v = u := by
  cases r <;> simp [conc1] at h <;> exact h

theorem concL_eq {ρ : R} : ∀ {as : List AV} {us vs : List Value}, concL as = some us → VL ρ as vs → vs = us
  | [], us, vs, h, r => by cases r; cases h; rfl
  | a :: as, us, vs, h, r => by
    cases r with
    | cons _ _ v' vs' hv hvs =>
      unfold concL at h
      cases h1 : conc1 a with
      | none => rw [h1] at h; cases h
      | some u =>
        cases h2 : concL as with
        | none => rw [h1, h2] at h; cases h
        | some us' => rw [h1, h2] at h; cases h; rw [conc1_eq h1 hv, concL_eq h2 hvs]

theorem conc0_eq {ρ : R} {a : AV} {u v : Value} (h : conc0 a = some u) (r : VR ρ a v) : v = u := by
  cases r with
  | agg cs cs' hc =>
    simp only [conc0] at h
    cases hl : concL cs with
    | none => rw [hl] at h; cases h
    | some l => rw [hl] at h; cases h; have := concL_eq hl hc; cases cs'; simp at this; simp [this]
  | bool b => simp [conc0, conc1] at h; exact h
  | int k n => simp [conc0, conc1] at h; exact h
  | str s => simp [conc0, conc1] at h; exact h
  | nilp => simp [conc0, conc1] at h; exact h
  | nils => simp [conc0, conc1] at h; exact h
  | nilm => simp [conc0, conc1] at h; exact h
  | nilf => simp [conc0, conc1] at h; exact h
  | nili => simp [conc0, conc1] at h; exact h
  | _ => simp [conc0, conc1] at h

theorem pureRun_run {α : Type} {P : Program} {s : Sem α} {a : α} (h : pureRun P s = some a) (w : World) : s.run P w = .ok a w := by
  induction s generalizing w with
  | pure b => simp [pureRun] at h; subst h; rfl
  | program k ih => exact ih P h w
  | _ => simp [pureRun] at h

theorem forceNat_eq {β : Type} (n : Nat) (f : Nat → β) : forceNat n f = f n := by cases n <;> rfl
theorem forceInt_eq {β : Type} (n : Int) (f : Int → β) : forceInt n f = f n := by
  cases n with
  | ofNat m => exact forceNat_eq m (fun m => f (.ofNat m))
  | negSucc m => exact forceNat_eq m (fun m => f (.negSucc m))
theorem force0_eq (a : AV) : force0 a = some a := by
  cases a <;> first | rfl | exact forceInt_eq _ (fun n => some (AV.int _ n))

theorem pureVal_run {ρ : R} {P : Program} {s : Sem Value} {a : AV} (h : pureVal P s = some a) (w : World) : ∃ v, s.run P w = .ok v w ∧ VR ρ a v := by
  unfold pureVal at h
  cases h1 : pureRun P s with
  | none => rw [h1] at h; cases h
  | some v =>
    rw [h1] at h
    dsimp only at h
    cases h2 : abs0 v with
    | none => rw [h2] at h; cases h
    | some b => rw [h2] at h; dsimp only at h; rw [force0_eq] at h; cases h; exact ⟨v, pureRun_run h1 w, abs0_vr h2⟩

/-- The shapes of related values. -/
theorem asI64_some {a : AV} {n : Int} (h : asI64 a = some n) : a = .int .i64 n := by
  cases a with
  | int k m => cases k <;> first | (cases h; rfl) | cases h
  | _ => cases h
theorem asB_some {a : AV} {b : Bool} (h : asB a = some b) : a = .bool b := by cases a <;> first | (cases h; rfl) | cases h
theorem asPtr_some {a : AV} {x : Pos × Nat} (h : asPtr a = some x) : a = .ptr x.1 x.2 := by cases a <;> first | (cases h; rfl) | cases h
theorem asSl_some {a : AV} {id : Pos} {off len : Nat} (h : asSl a = some (id, off, len)) : ∃ cap esz, a = .sl id off len cap esz := by
  cases a <;> first | (cases h; exact ⟨_, _, rfl⟩) | cases h
theorem asTup_some {a : AV} {vs : List AV} (h : asTup a = some vs) : a = .tup vs := by cases a <;> first | (cases h; rfl) | cases h
theorem toNatE_some {a : AV} {n : Nat} (h : toNatE a = some n) : ∃ k, a = .int k (.ofNat n) := by
  cases a with
  | int k m => cases m with
    | ofNat m => cases h; exact ⟨k, rfl⟩
    | negSucc m => cases h
  | _ => cases h
theorem cellsOf_some {o : AO} {m : Nat → Option AV} (h : cellsOf o = some m) : (∃ m' e, o = .cells m' e ∧ m = m'.get) ∨ o = .ro m := by
  cases o with
  | cells m' e => cases h; exact .inl ⟨m', e, rfl, rfl⟩
  | ro f => cases h; exact .inr rfl
  | _ => cases h
theorem cellsE_some {o : AO} {m : M AV} {e : TypeId} (h : cellsE o = some (m, e)) : o = .cells m e := by
  cases o <;> first | (cases h; rfl) | cases h

theorem AV.cells_agg (cs : List AV) : (AV.agg cs).cells = cs := rfl
theorem VR.cells {ρ : R} {a : AV} {v : Value} (r : VR ρ a v) : VL ρ a.cells v.cells.toList := by
  cases r with
  | agg cs cs' hc => exact hc
  | bool b => exact .cons _ _ _ _ (.bool b) .nil
  | int k n => exact .cons _ _ _ _ (.int k n) .nil
  | str s => exact .cons _ _ _ _ (.str s) .nil
  | ptr id off b x h1 h2 => exact .cons _ _ _ _ (.ptr id off b x h1 h2) .nil
  | nilp => exact .cons _ _ _ _ .nilp .nil
  | sl id off len cap esz b cap' x h1 h2 h3 h4 => exact .cons _ _ _ _ (.sl id off len cap esz b cap' x h1 h2 h3 h4) .nil
  | sle id off esz a h => exact .cons _ _ _ _ (.sle id off esz a h) .nil
  | slu id off esz c a x h h0 => exact .cons _ _ _ _ (.slu id off esz c a x h h0) .nil
  | nils => exact .cons _ _ _ _ .nils .nil
  | map id b x h1 h2 => exact .cons _ _ _ _ (.map id b x h1 h2) .nil
  | nilm => exact .cons _ _ _ _ .nilm .nil
  | fn f a c a' c' h1 h2 => exact .cons _ _ _ _ (.fn f a c a' c' h1 h2) .nil
  | yld id b x h1 h2 => exact .cons _ _ _ _ (.yld id b x h1 h2) .nil
  | nilf => exact .cons _ _ _ _ .nilf .nil
  | iface t v v' h1 => exact .cons _ _ _ _ (.iface t v v' h1) .nil
  | nili => exact .cons _ _ _ _ .nili .nil
  | tup cs cs' h1 => exact .cons _ _ _ _ (.tup cs cs' h1) .nil

theorem VL.length {ρ : R} : ∀ {as : List AV} {vs : List Value}, VL ρ as vs → as.length = vs.length
  | _, _, .nil => rfl
  | _, _, .cons _ _ _ _ _ h => by simp [h.length]

theorem VL.get {ρ : R} : ∀ {as : List AV} {vs : List Value}, VL ρ as vs → ∀ {i : Nat} {a : AV}, as[i]? = some a → ∃ v, vs[i]? = some v ∧ VR ρ a v
  | _, _, .nil, i, a, h => by simp at h
  | _, _, .cons a as v vs hv hvs, i, b, h => by
    cases i with
    | zero => simp at h; subst h; exact ⟨v, by simp, hv⟩
    | succ i => simp at h; obtain ⟨u, h1, h2⟩ := hvs.get h; exact ⟨u, by simpa using h1, h2⟩

theorem VL.append {ρ : R} : ∀ {as : List AV} {vs : List Value} {bs : List AV} {us : List Value}, VL ρ as vs → VL ρ bs us → VL ρ (as ++ bs) (vs ++ us)
  | _, _, _, _, .nil, h => h
  | _, _, _, _, .cons a as v vs hv hvs, h => .cons a _ v _ hv (hvs.append h)

theorem VL.take {ρ : R} : ∀ (n : Nat) {as : List AV} {vs : List Value}, VL ρ as vs → VL ρ (as.take n) (vs.take n)
  | 0, _, _, _ => by simp only [List.take_zero]; exact .nil
  | n + 1, _, _, .nil => by simp only [List.take_nil]; exact .nil
  | n + 1, _, _, .cons a as v vs hv hvs => by simp only [List.take_succ_cons]; exact .cons a _ v _ hv (hvs.take n)

theorem VL.drop {ρ : R} : ∀ (n : Nat) {as : List AV} {vs : List Value}, VL ρ as vs → VL ρ (as.drop n) (vs.drop n)
  | 0, _, _, h => by simpa only [List.drop_zero] using h
  | n + 1, _, _, .nil => by simp only [List.drop_nil]; exact .nil
  | n + 1, _, _, .cons a as v vs hv hvs => by simp only [List.drop_succ_cons]; exact hvs.drop n

/-- The package-level variables have the first names. -/
def GR (ρ : R) : Prop := ∀ g, g ≤ 63 → ∃ x, ρ (posN g) = some x ∧ ∀ b n, x = some (b, n) → b = g

theorem GR.up {ρ ρ' : R} (h : R.le ρ ρ') (g : GR ρ) : GR ρ' := fun k hk => let ⟨_, hx, hp⟩ := g k hk; up1 (p := fun b _ => b = k) h hx hp

theorem evT_vr {ρ : R} {n : Nat} {tm : M AV} {a : Act} (hg : GR ρ) (ht : TR ρ n tm a.tmps) {x : Operand} {v : AV} (h : evT tm x = some v) : VR ρ v (a.eval x) := by
  cases x with
  | tmp t => exact ht.2 t v h
  | const c => exact abs0_vr h
  | global g =>
    have e : (bif Nat.ble g 63 then some (AV.ptr (posN g) 0) else none) = some v := h
    cases hb : Nat.ble g 63 with
    | false => rw [hb] at e; cases e
    | true =>
      rw [hb] at e
      cases e
      obtain ⟨x, hx, hp⟩ := hg g (Nat.le_of_ble_eq_true hb)
      exact .ptr _ _ g x hx hp
  | func f =>
    have e : (some (AV.fn f [] [])) = some v := h
    cases e
    exact .fn f [] [] #[] #[] .nil .nil

theorem evL_vl {ρ : R} {n : Nat} {tm : M AV} {a : Act} (hg : GR ρ) (ht : TR ρ n tm a.tmps) : ∀ {xs : List Operand} {vs : List AV}, evL tm xs = some vs → VL ρ vs (xs.map a.eval)
  | [], vs, h => by cases h; exact .nil
  | x :: xs, vs, h => by
    unfold evL at h
    cases h1 : evT tm x with
    | none => rw [h1] at h; cases h
    | some v =>
      cases h2 : evL tm xs with
      | none => rw [h1, h2] at h; cases h
      | some us => rw [h1, h2] at h; cases h; exact .cons _ _ _ _ (evT_vr hg ht h1) (evL_vl hg ht h2)

section
variable {P : Program} (w : World)
theorem sizeE_run {t : TypeId} {n : Nat} (h : sizeE P t = some n) : (sizeOf t).run P w = .ok n w := by
  unfold sizeE at h
  cases hi : P.info? t with
  | none => rw [hi] at h; cases h
  | some i => rw [hi] at h; dsimp only at h; rw [forceNat_eq] at h; cases h; simp [sizeOf, typeInfo, hi]
theorem isAggB_run {t : TypeId} {b : Bool} (h : isAggB P t = some b) : (isAgg t).run P w = .ok b w := by
  unfold isAggB at h
  cases hu : P.underlying t with
  | none => rw [hu] at h; cases h
  | some d => rw [hu] at h; cases d <;> cases h <;> simp [isAgg, underlying, hu]
theorem zeroE_run {ρ : R} {t : TypeId} {a : AV} (h : zeroE P t = some a) : ∃ v, (zeroValue t).run P w = .ok v w ∧ VR ρ a v := by
  unfold zeroE at h
  cases hi : P.info? t with
  | none => rw [hi] at h; cases h
  | some i =>
    rw [hi] at h
    dsimp only at h
    cases hz : i.zero with
    | none => rw [hz] at h; cases h
    | some v => rw [hz] at h; exact ⟨v, by simp [zeroValue, typeInfo, hi, hz], abs0_vr h⟩
end

/-- Where an address leads. -/
theorem HR.at {ρ : R} {h : H} {w : World} (hr : HR ρ h w) {id : Pos} {b : Nat} {x : Option (Nat × Nat)} (hx : ρ id = some x) (hp : ∀ c n, x = some (c, n) → c = b)
    {o : AO} (hg : getObj id h = some o) (ho : o ≠ .dead) : ∃ n born o', x = some (b, n) ∧ T.get id h.objs = some (born, o) ∧ w.heap[b]? = some o' ∧ OR ρ n o o' := by
  obtain ⟨born, hb⟩ := getObj_some hg
  cases x with
  | none => obtain ⟨b2, hd⟩ := hr.dead id hx; rw [hb] at hd; cases hd; exact absurd rfl ho
  | some cn =>
    obtain ⟨c, n⟩ := cn
    obtain rfl := hp c n rfl
    obtain ⟨b2, o2, o', h1, h2, h3⟩ := hr.live id c n hx
    rw [hb] at h1
    cases h1
    exact ⟨n, born, o', rfl, hb, h2, h3⟩

/-- A row of cells behind an address: its cells can be read. -/
theorem HR.row {ρ : R} {h : H} {w : World} (hr : HR ρ h w) {id : Pos} {b : Nat} {x : Option (Nat × Nat)} (hx : ρ id = some x) (hp : ∀ c n, x = some (c, n) → c = b)
    {o : AO} {m : Nat → Option AV} (hg : getObj id h = some o) (hm : cellsOf o = some m) : ∃ c e f, w.heap[b]? = some (.cells c e f) ∧ RowsF ρ m c := by
  have ho : o ≠ .dead := fun e => by subst e; cases hm
  obtain ⟨n, born, o', _, _, h3, h4⟩ := hr.at hx hp hg ho
  rcases cellsOf_some hm with ⟨m', e, rfl, rfl⟩ | rfl
  · cases h4 with
    | cells m e c hc => exact ⟨c, e, _, h3, hc⟩
  · cases h4 with
    | ro m e c f hc => exact ⟨c, e, f, h3, hc⟩

theorem RowsF.cell {ρ : R} {w : World} {m : Nat → Option AV} {b : Nat} {c : Array Value} {e : TypeId} {f : Nat × Nat} (hb : w.heap[b]? = some (.cells c e f)) (hc : RowsF ρ m c) {i : Nat} {v : AV} (hv : m i = some v) :
    ∃ v', w.cell? ⟨b, i, none⟩ = some v' ∧ VR ρ v v' := by
  obtain ⟨v', h1, h2⟩ := hc i v hv
  exact ⟨v', by simp [World.cell?, hb, h1], h2⟩

theorem loadCells_run {P : Program} {ρ : R} {w : World} {m : Nat → Option AV} {b off : Nat} {c : Array Value} {e : TypeId} {f : Nat × Nat} (hb : w.heap[b]? = some (.cells c e f)) (hc : RowsF ρ m c) :
    ∀ (n i : Nat) (acc : Array Value) {vs : List AV}, readM m n (off + i) = some vs → ∃ cs, (loadCellsFrom ⟨b, off, none⟩ i n acc).run P w = .ok cs w ∧ ∃ l, cs.toList = acc.toList ++ l ∧ VL ρ vs l := by
  intro n
  induction n with
  | zero => intro i acc vs h; cases h; exact ⟨acc, rfl, [], by simp, .nil⟩
  | succ n ih =>
    intro i acc vs h
    unfold readM at h
    cases h1 : m (off + i) with
    | none => rw [h1] at h; cases h
    | some v =>
      rw [h1] at h
      dsimp only at h
      cases h2 : readM m n (Nat.succ (off + i)) with
      | none => rw [h2] at h; cases h
      | some us =>
        rw [h2] at h
        cases h
        obtain ⟨v', hv', hr'⟩ := hc.cell hb h1
        obtain ⟨cs, e1, l, e2, e3⟩ := ih (i + 1) (acc.push v') (vs := us) h2
        refine ⟨cs, ?_, v' :: l, ?_, .cons _ _ _ _ hr' e3⟩
        · simp [loadCellsFrom, Addr.add_lit, hv', e1]
        · rw [e2]; simp

end Go.Ev
