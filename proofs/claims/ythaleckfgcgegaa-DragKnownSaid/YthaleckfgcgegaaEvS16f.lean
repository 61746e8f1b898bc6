/-
  THE EVALUATOR'S SOUNDNESS, 16f: what holds after some operations of a region are done, in whatever order.
-/
import Derived.Test.YthaleckfgcgegaaEvS16e
namespace Go.Ev

structure Inv (P : Program) (ih : Evs) (ops : Array Oper) (F : Nat → FS) (G : Nat → H) (ρ0 : R) (w0 : World) (S : Nat → Prop) (ρ : R) (tm : Array Value) (w : World) (q : Nat) : Prop where
  qn : q ≤ ops.size
  qa : ∀ k, k < ops.size → NQ P ih ops F G k → (S k ↔ k < q)
  qb : q = 0 ∨ ∃ k, q = k + 1 ∧ k < ops.size ∧ NQ P ih ops F G k
  mem : ∀ m, Seg P ih ops F G q m → HR (Rst ρ (G m)) (G m) w
  dom : ∀ id x, ρ id = some x → Has (G q) id ∨ ∃ k o, S k ∧ q ≤ k ∧ k < ops.size ∧ ops[k]? = some o ∧ touches o.op = true ∧ Has (G (k + 1)) id ∧ ¬ Has (G k) id
  tms : tm.size = (F 0).n
  tmp : ∀ t p v, Last ops S t p → (F p).tm.get t = some v → VR (Rst ρ (G (max p q))) v (tm.getD t undef)
  le : R.le ρ0 ρ
  newd : ∀ id, ρ0 id = none → ρ id = none ∨ T.get id (G 0).objs = none
  rng : ∀ id b n, ρ id = some (some (b, n)) → w0.heap.size ≤ b ∨ ∃ id0 n0, ρ0 id0 = some (some (b, n0))
  wr : ∀ m, Seg P ih ops F G q m → ∀ b, b < w0.heap.size → Wr (Rst ρ (G m)) (G m) b → Wr ρ0 (G 0) b
  frame : ∀ b, b < w0.heap.size → ¬ Wr ρ0 (G 0) b → w.heap[b]? = w0.heap[b]?
  size : w0.heap.size ≤ w.heap.size
  frz : ∀ a, w.frozen? a = w0.frozen? a
  os : w.os = w0.os
  out : w.output = w0.output

theorem Rst_dom {ρ : R} {h : H} (hd : ∀ id x, ρ id = some x → Has h id) : Rst ρ h = ρ := by
  funext id
  cases hx : ρ id with
  | none =>
    cases hr : Rst ρ h id with
    | none => rfl
    | some x => rw [(Rst_some.1 hr).1] at hx; cases hx
  | some x => exact Rst_some.2 ⟨hx, hd id x hx⟩

theorem HR.sub {ρ : R} {h h2 : H} {w : World} (hr : HR ρ h w) (hs : Sub h h2) (ho : ∀ id born o, T.get id h2.objs = some (born, o) → born < h2.clock) : HR ρ h2 w where
  live := fun id b n e => by
    obtain ⟨born, o, o', g1, g2, g3⟩ := hr.live id b n e
    exact ⟨born, o, o', hs _ _ g1, g2, g3⟩
  inj := hr.inj
  dead := fun id e => by obtain ⟨born, g⟩ := hr.dead id e; exact ⟨born, hs _ _ g⟩
  old := ho

section
variable {P : Program} {ih : Evs} {ops : Array Oper} {F : Nat → FS} {G : Nat → H} {ρ0 ρ : R} {w0 w : World} {S S' : Nat → Prop} {tm : Array Value} {q i : Nat} {o : Oper}

theorem Seg.refl (h : q ≤ ops.size) : Seg P ih ops F G q q := ⟨Nat.le_refl _, h, fun k k1 k2 => by omega⟩

theorem Rst_mono (c : Chn P ih ops F G) {a b : Nat} (h : a ≤ b) (hb : b ≤ ops.size) : R.le (Rst ρ (G a)) (Rst ρ (G b)) := fun id x hx => by
  obtain ⟨h1, h2⟩ := Rst_some.1 hx
  exact .inl (Rst_some.2 ⟨h1, c.has h hb h2⟩)

/-- What operation i reads. -/
theorem Inv.read (st : Static ops) (c : Chn P ih ops F G) (iv : Inv P ih ops F G ρ0 w0 S ρ tm w q) (r : Rdy ops S i o) {t : Tmp} (ht : t ∈ o.looksAt ops) {v : AV} (hv : (F i).tm.get t = some v) : VR (Rst ρ (G (max i q))) v (tm.getD t undef) := by
  obtain ⟨p, h1, h2, h3⟩ := r.last st c (.inl ht)
  rw [h3] at hv
  exact (iv.tmp t p v h2 hv).up (Rst_mono c (by omega) (Nat.max_le.2 ⟨Nat.le_of_lt r.isz, iv.qn⟩))

theorem Inv.gr (c : Chn P ih ops F G) (h0 : ∀ g, g ≤ 63 → Has (G 0) (posN g)) (hg : GR ρ0) (iv : Inv P ih ops F G ρ0 w0 S ρ tm w q) {m : Nat} (hm : m ≤ ops.size) : GR (Rst ρ (G m)) := fun g hg2 => by
  obtain ⟨x, hx, hp⟩ := (hg.up iv.le) g hg2
  exact ⟨x, Rst_some.2 ⟨hx, c.has (Nat.zero_le m) hm (h0 g hg2)⟩, hp⟩

theorem Inv.evs (st : Static ops) (c : Chn P ih ops F G) (iv : Inv P ih ops F G ρ0 w0 S ρ tm w q) (r : Rdy ops S i o) (hg : GR (Rst ρ (G (max i q)))) {df : List Deferred} : EvOk (Rst ρ (G (max i q))) (F i).tm ⟨tm, df⟩ o.op.operands.toList := by
  intro x hx v hv
  cases x with
  | tmp t =>
    refine iv.read st c r ?_ hv
    unfold Oper.looksAt
    exact List.mem_append_left _ (List.mem_filterMap.2 ⟨.tmp t, hx, rfl⟩)
  | const _ => exact evT_vr (n := tm.size) (tm := []) (a := ⟨tm, df⟩) hg ⟨rfl, fun i v h => by rw [M.get_eq] at h; simp at h⟩ hv
  | global _ => exact evT_vr (n := tm.size) (tm := []) (a := ⟨tm, df⟩) hg ⟨rfl, fun i v h => by rw [M.get_eq] at h; simp at h⟩ hv
  | func _ => exact evT_vr (n := tm.size) (tm := []) (a := ⟨tm, df⟩) hg ⟨rfl, fun i v h => by rw [M.get_eq] at h; simp at h⟩ hv

theorem Inv.wanted (st : Static ops) (c : Chn P ih ops F G) (iv : Inv P ih ops F G ρ0 w0 S ρ tm w q) (r : Rdy ops S i o) {b : Bool} (hw : wantE ops (F i).tm o.guard = some b) : Region.wanted o (yielded ops tm) = b := by
  refine wantE_run (ρ := Rst ρ (G (max i q))) (n := tm.size) (fun j want oj d hgd hj hd v hv => iv.read st c r ?_ hv) rfl hw
  unfold Oper.looksAt
  rw [hgd]
  refine List.mem_append_right _ ?_
  simp [hj, hd]

/-- Temporaries after operation i. -/
theorem tmp_step (st : Static ops) (c : Chn P ih ops F G) (r : Rdy ops S i o) (hS : ∀ k, S' k ↔ S k ∨ k = i) (htm : tm.size = (F 0).n) {v : AV} {v' : Value} (hp : PutR (F i) o.dst v (F (i + 1))) {A : Nat → R}
    (old : ∀ t p v, Last ops S t p → (F p).tm.get t = some v → VR (A p) v (tm.getD t undef)) (new : VR (A (i + 1)) v v') :
    ∀ t p v, Last ops S' t p → (F p).tm.get t = some v → VR (A p) v ((putA tm o.dst v').getD t undef) := by
  intro t p u hl hu
  by_cases hd : o.dst = some t
  · have hwi : Wt ops i t := ⟨o, r.op, hd⟩
    have hip := hl.2 i ((hS i).2 (.inr rfl)) hwi
    have hpi : p = i + 1 := by
      rcases hl.1 with e | ⟨k, e, hk, hwk⟩
      · omega
      · rcases (hS k).1 hk with h | h
        · have := (r.writers st (.inr hd) hwk).2 h
          omega
        · omega
    subst hpi
    rw [hd] at hp
    obtain ⟨h1, h2⟩ := hp.here
    rw [h2] at hu
    cases hu
    have hlt : t < tm.size := by rw [htm, ← c.nn i (Nat.le_of_lt r.isz)]; exact h1
    rw [hd]
    show VR _ _ ((tm.setIfInBounds t v').getD t undef)
    rw [Array.getD_eq_getD_getElem?]
    simp [hlt]
    exact new
  · have hno : ¬ Wt ops i t := fun ⟨o2, h1, h2⟩ => by rw [r.op] at h1; cases h1; exact hd h2
    have hl' : Last ops S t p := by
      refine ⟨?_, fun k hk hw => hl.2 k ((hS k).2 (.inl hk)) hw⟩
      rcases hl.1 with e | ⟨k, e, hk, hwk⟩
      · exact .inl e
      · rcases (hS k).1 hk with h | h
        · exact .inr ⟨k, e, h, hwk⟩
        · subst h; exact absurd hwk hno
    have := old t p u hl' hu
    have e : (putA tm o.dst v').getD t undef = tm.getD t undef := by
      cases hq : o.dst with
      | none => rfl
      | some d =>
        show (tm.setIfInBounds d v').getD t undef = _
        rw [Array.getD_eq_getD_getElem?, Array.getD_eq_getD_getElem?, Array.getElem?_setIfInBounds_ne (fun e => hd (by rw [hq, e]))]
    rw [e]
    exact this

theorem putA_size {dst : Option Tmp} {v : Value} : (putA tm dst v).size = tm.size := by
  cases dst with
  | none => rfl
  | some d => show (tm.setIfInBounds d v).size = _; simp

/-- An operation that hands a value alone. -/
theorem Inv.val (st : Static ops) (c : Chn P ih ops F G) (iv : Inv P ih ops F G ρ0 w0 S ρ tm w q) (r : Rdy ops S i o) (hS : ∀ k, S' k ↔ S k ∨ k = i) (hq : ¬ NQ P ih ops F G i) {v : AV} {v' : Value} (hp : PutR (F i) o.dst v (F (i + 1)))
    (hv : VR (Rst ρ (G (max (i + 1) q))) v v') : Inv P ih ops F G ρ0 w0 S' ρ (putA tm o.dst v') w q :=
  { iv with
    qa := fun k hk hn => by
      rw [hS k, ← iv.qa k hk hn]
      exact ⟨fun h => h.resolve_right (fun e => hq (e ▸ hn)), .inl⟩
    dom := fun id x hx => by
      rcases iv.dom id x hx with h | ⟨k, ok, h1, h2⟩
      · exact .inl h
      · exact .inr ⟨k, ok, (hS k).2 (.inl h1), h2⟩
    tms := by rw [putA_size]; exact iv.tms
    tmp := tmp_step st c r hS iv.tms hp (A := fun p => Rst ρ (G (max p q))) iv.tmp hv }

/-- Between q and an operation that touches memory and is next nothing that was there is written. -/
theorem Inv.seg (c : Chn P ih ops F G) (iv : Inv P ih ops F G ρ0 w0 S ρ tm w q) (r : Rdy ops S i o) (ht : touches o.op = true) (hqi : q ≤ i) : Seg P ih ops F G q i := by
  refine ⟨hqi, Nat.le_of_lt r.isz, fun k k1 k2 hn => ?_⟩
  have hk : k < ops.size := Nat.lt_trans k2 r.isz
  obtain ⟨ok, v, h', hop, _, _, _, hb, _⟩ := c.bar hk hn
  rcases bar_spec hb r.op ht (by omega) with h | ⟨h, _⟩
  · rw [ordered_gt k2] at h
    have := (iv.qa k hk hn).1 (r.before k2 h)
    omega
  · omega

/-- An operation that touches memory and was overtaken by one that writes: a load of another block. -/
theorem Inv.pend (c : Chn P ih ops F G) (iv : Inv P ih ops F G ρ0 w0 S ρ tm w q) (r : Rdy ops S i o) (ht : touches o.op = true) (hiq : i < q) :
    ∃ ty a, o.op = .load ty (.tmp a) ∧ ∃ u id off, (F i).tm.get a = some u ∧ asPtr u = some (id, off) ∧ ∀ p, T.get id (G i).objs = some p → T.get id (G q).objs = some p := by
  -- what each that writes says
  have each : ∀ k, i < k → k < q → NQ P ih ops F G k → ∃ ty a, o.op = .load ty (.tmp a) ∧ unwritten ops i a = true ∧ ∃ u id off, (F i).tm.get a = some u ∧ asPtr u = some (id, off) ∧ ∀ p, T.get id (G k).objs = some p → T.get id (G (k + 1)).objs = some p := by
    intro k k1 k2 hn
    have hk : k < ops.size := Nat.lt_of_lt_of_le k2 iv.qn
    obtain ⟨ok, v, h', hop, _, hx, _, hb, ho, _⟩ := c.bar hk hn
    rcases bar_spec hb r.op ht (by omega) with h | ⟨_, ty, a, h1, h2, id, u, id', off', g1, g4, g5, g6⟩
    · rw [ordered_lt k1] at h
      exact (r.after ((iv.qa k hk hn).2 k2) h).elim
    · refine ⟨ty, a, h1, h2, u, id', off', ?_, g5, fun p hp => ?_⟩
      · rw [← g4]
        exact (c.same (Nat.le_of_lt k1) (Nat.le_of_lt hk) fun m m1 m2 hw => by
          obtain ⟨om, w1, w2⟩ := hw
          exact unwritten_spec h2 w1 m1 w2).symm
      · rw [← ho]
        exact hits_else g1 hx g6 (h := marked (G k)) hp
  obtain ⟨k, hk⟩ : ∃ k, q = k + 1 ∧ k < ops.size ∧ NQ P ih ops F G k := by
    rcases iv.qb with h | h
    · omega
    · exact h
  obtain ⟨rfl, hks, hkn⟩ := hk
  have hik : i < k := by
    have : S k := (iv.qa k hks hkn).2 (by omega)
    rcases Nat.lt_or_ge i k with h | h
    · exact h
    · have : i = k := by omega
      subst this
      exact absurd ‹S i› r.no
  obtain ⟨ty, a, h1, h2, u, id, off, g1, g2, _⟩ := each k hik (by omega) hkn
  refine ⟨ty, a, h1, u, id, off, g1, g2, ?_⟩
  have go : ∀ m, i ≤ m → m ≤ k + 1 → ∀ p, T.get id (G i).objs = some p → T.get id (G m).objs = some p := by
    intro m
    induction m with
    | zero => intro m1 _ p hp; have : i = 0 := by omega
              subst this; exact hp
    | succ m ih2 =>
      intro m1 m2 p hp
      by_cases e : i = m + 1
      · rw [← e]; exact hp
      · have hm := ih2 (by omega) (by omega) p hp
        have hms : m < ops.size := by omega
        by_cases hn : NQ P ih ops F G m
        · have him : i < m := by
            have : S m := (iv.qa m hms hn).2 (by omega)
            rcases Nat.lt_or_ge i m with h | h
            · exact h
            · have : i = m := by omega
              subst this
              exact absurd ‹S i› r.no
          obtain ⟨ty2, a2, f1, _, u2, id2, off2, f2, f3, f4⟩ := each m him (by omega) hn
          rw [h1] at f1
          cases f1
          rw [g1] at f2
          cases f2
          rw [g2] at f3
          cases f3
          exact f4 p hm
        · exact c.sub m hms hn _ _ hm
  exact go (k + 1) (by omega) (Nat.le_refl _)

end

end Go.Ev
