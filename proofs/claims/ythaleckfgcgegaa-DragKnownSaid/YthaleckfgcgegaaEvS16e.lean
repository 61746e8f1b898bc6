/-
  THE EVALUATOR'S SOUNDNESS, 16e: the steps in the order of the text, and what they tell of memory.
-/
import Derived.Test.YthaleckfgcgegaaEvS16d
namespace Go.Ev

/-- Operation k writes what was there, or may. -/
def NQ (P : Program) (ih : Evs) (ops : Array Oper) (F : Nat → FS) (G : Nat → H) (k : Nat) : Prop :=
  ∃ o v h', ops[k]? = some o ∧ wantE ops (F k).tm o.guard = some true ∧ execE P ih (F k).tm o.type o.op (marked (G k)) = .ok v h' ∧ ¬ (G k).clock ≤ h'.w

structure Chn (P : Program) (ih : Evs) (ops : Array Oper) (F : Nat → FS) (G : Nat → H) : Prop where
  ls : ∀ k, k < ops.size → LS P ih ops k (F k) (G k) (F (k + 1)) (G (k + 1))
  ai : ∀ k, k ≤ ops.size → ∀ id born o, T.get id (G k).objs = some (born, o) → born < (G k).clock
  keep : ∀ k, k < ops.size → ∀ id, Has (G k) id → Has (G (k + 1)) id
  sub : ∀ k, k < ops.size → ¬ NQ P ih ops F G k → Sub (G k) (G (k + 1))
  nn : ∀ k, k ≤ ops.size → (F k).n = (F 0).n
  clk : (G 0).clock ≤ (G ops.size).clock
  keep0 : ∀ id born o, T.get id (G 0).objs = some (born, o) → (∃ o', T.get id (G ops.size).objs = some (born, o')) ∧ (born < (G ops.size).w → T.get id (G ops.size).objs = some (born, o))
  wle : (G ops.size).w ≤ (G 0).w

theorem reW_eq {h h' : H} : reW h h' = ⟨h'.objs, h'.next, h'.clock, bif Nat.ble h.w h'.w then h.w else h'.w⟩ := rfl

theorem lex_step {P : Program} {ih : Evs} (hi : CallOK P ih) {ops : Array Oper} {k : Nat} {fs fs1 : FS} {h h1 : H} (hl : LS P ih ops k fs h fs1 h1) {ρ : R} {rd : Option Nat} {tm : Array Value} {df : List Deferred} {w : World} (s : St ρ fs h rd tm df w) :
    ∃ ρ' tm' w', St ρ' fs1 h1 rd tm' df w' ∧ Ext ρ h w ρ' h1 w' := by
  obtain ⟨o, hop, hc⟩ := hl
  have wanted : ∀ b, wantE ops fs.tm o.guard = some b → Region.wanted o (yielded ops tm) = b := fun b hw =>
    wantE_run (ρ := ρ) (n := fs.n) (fun j want oj d _ _ _ v hv => s.tr.2 d v hv) s.tr.1 hw
  have put : ∀ {dst : Option Tmp} {v : AV} {ρ1 : R} {v' : Value} {h2 : H} {w1 : World}, PutR fs dst v fs1 → R.le ρ ρ1 → VR ρ1 v v' → HR ρ1 h2 w1 → ∃ tm', St ρ1 fs1 h2 rd tm' df w1 := by
    intro dst v ρ1 v' h2 w1 hp hle hv hr
    rcases hp with ⟨_, rfl⟩ | ⟨d, tm', _, hlt, hs, rfl⟩
    · exact ⟨tm, s.gr.up hle, s.tr.up hle, hr, s.dr.up hle, s.rd.up hle⟩
    · exact ⟨_, s.gr.up hle, s.tr.put hle hlt hs hv, hr, s.dr.up hle, s.rd.up hle⟩
  rcases hc with ⟨_, hp, rfl⟩ | ⟨hw, v, h', hx, _, rfl, hp⟩
  · obtain ⟨tm', g⟩ := put hp (R.le_refl ρ) (.tup [] #[] .nil : VR ρ (.tup []) undef) s.hr
    exact ⟨ρ, tm', w, g, .refl⟩
  · obtain ⟨ρ1, v', w1, b1, b2, b3, _⟩ := execE_step (df := df) hi s.gr s.hr.marked (EvOk.all (a := ⟨tm, df⟩) s.gr s.tr _) hx hop (wanted _ hw) 0 rd [] [] []
    have b2' : HR ρ1 (reW h h') w1 := HR.remark (clock := h'.clock) (next := h'.next) (objs := h'.objs) (w1 := h'.w) b2
    obtain ⟨tm', g⟩ := put hp b3.le b1 b2'
    exact ⟨ρ1, tm', w1, g, Ext.unmarked (objs := h'.objs) (next := h'.next) (clock := h'.clock) (w1 := h'.w) b3⟩

theorem chain_all {P : Program} {ih : Evs} (hi : CallOK P ih) {ops : Array Oper} {F : Nat → FS} {G : Nat → H} (hl : ∀ k, k < ops.size → LS P ih ops k (F k) (G k) (F (k + 1)) (G (k + 1)))
    {ρ : R} {rd : Option Nat} {tm : Array Value} {df : List Deferred} {w : World} (s : St ρ (F 0) (G 0) rd tm df w) : ∀ k, k ≤ ops.size → ∃ ρ' tm' w', St ρ' (F k) (G k) rd tm' df w' ∧ Ext ρ (G 0) w ρ' (G k) w' := by
  intro k
  induction k with
  | zero => intro _; exact ⟨ρ, tm, w, s, .refl⟩
  | succ k ih2 =>
    intro hk
    obtain ⟨ρ1, tm1, w1, s1, e1⟩ := ih2 (by omega)
    obtain ⟨ρ2, tm2, w2, s2, e2⟩ := lex_step hi (hl k (by omega)) s1
    exact ⟨ρ2, tm2, w2, s2, e1.trans e2⟩

theorem chain_chn {P : Program} {ih : Evs} (hi : CallOK P ih) {ops : Array Oper} {F : Nat → FS} {G : Nat → H} (hl : ∀ k, k < ops.size → LS P ih ops k (F k) (G k) (F (k + 1)) (G (k + 1)))
    {ρ : R} {rd : Option Nat} {tm : Array Value} {df : List Deferred} {w : World} (s : St ρ (F 0) (G 0) rd tm df w) : Chn P ih ops F G := by
  have all := chain_all hi hl s
  obtain ⟨_, _, _, _, eN⟩ := all ops.size (Nat.le_refl _)
  refine ⟨hl, ?_, ?_, ?_, ?_, eN.clk, eN.keep, eN.wle⟩
  · intro k hk id born o hg
    obtain ⟨_, _, _, s1, _⟩ := all k hk
    exact s1.hr.old id born o hg
  · intro k hk id ⟨p, hp⟩
    obtain ⟨ρ1, tm1, w1, s1, _⟩ := all k (by omega)
    obtain ⟨_, _, _, _, e2⟩ := lex_step hi (hl k hk) s1
    obtain ⟨born, o⟩ := p
    obtain ⟨⟨o', ho⟩, _⟩ := e2.keep id born o hp
    exact ⟨_, ho⟩
  · intro k hk hq
    obtain ⟨ρ1, tm1, w1, s1, _⟩ := all k (by omega)
    obtain ⟨o, hop, hc⟩ := hl k hk
    rcases hc with ⟨_, _, hG⟩ | ⟨hw, v, h', hx, _, hG, _⟩
    · rw [hG]; exact fun _ _ e => e
    · have hclk : (G k).clock ≤ h'.w := by
        by_cases h1 : (G k).clock ≤ h'.w
        · exact h1
        · exact absurd ⟨o, v, h', hop, hw, hx, h1⟩ hq
      have wanted : Region.wanted o (yielded ops tm1) = true := wantE_run (ρ := ρ1) (n := (F k).n) (fun j want oj d _ _ _ v hv => s1.tr.2 d v hv) s1.tr.1 hw
      obtain ⟨ρ2, v', w2, b1, b2, b3, _⟩ := execE_step (df := df) hi s1.gr s1.hr.marked (EvOk.all (a := ⟨tm1, df⟩) s1.gr s1.tr _) hx hop wanted 0 rd [] [] []
      intro id p hp
      rw [hG]
      obtain ⟨born, ob⟩ := p
      exact quiet_objs s1.hr.marked b3 hclk hp
  · intro k
    induction k with
    | zero => intro _; rfl
    | succ k ih2 =>
      intro hk
      rw [← ih2 (by omega)]
      obtain ⟨o, hop, hc⟩ := hl k (by omega)
      rcases hc with ⟨_, hp, _⟩ | ⟨_, _, _, _, _, _, hp⟩
      · exact hp.same.2.1
      · exact hp.same.2.1

section
variable {P : Program} {ih : Evs} {ops : Array Oper} {F : Nat → FS} {G : Nat → H}

theorem Chn.has (c : Chn P ih ops F G) {a b : Nat} (hab : a ≤ b) (hb : b ≤ ops.size) {id : Pos} (h : Has (G a) id) : Has (G b) id := by
  induction b with
  | zero => have : a = 0 := by omega
            subst this; exact h
  | succ b ih2 =>
    by_cases e : a = b + 1
    · subst e; exact h
    · exact c.keep b (by omega) id (ih2 (by omega) (by omega))

/-- From q to m nothing that was there is written. -/
def Seg (P : Program) (ih : Evs) (ops : Array Oper) (F : Nat → FS) (G : Nat → H) (q m : Nat) : Prop := q ≤ m ∧ m ≤ ops.size ∧ ∀ k, q ≤ k → k < m → ¬ NQ P ih ops F G k

theorem Chn.seg (c : Chn P ih ops F G) {q a b : Nat} (hs : Seg P ih ops F G q b) (h1 : q ≤ a) (h2 : a ≤ b) : Sub (G a) (G b) := by
  obtain ⟨g1, g2, g3⟩ := hs
  induction b with
  | zero => have : a = 0 := by omega
            subst this; exact fun _ _ e => e
  | succ b ih2 =>
    by_cases e : a = b + 1
    · subst e; exact fun _ _ e => e
    · intro id p hp
      exact c.sub b (by omega) (g3 b (by omega) (by omega)) id p (ih2 (by omega) (by omega) (by omega) (fun k k1 k2 => g3 k k1 (by omega)) id p hp)

theorem Chn.bar (c : Chn P ih ops F G) {k : Nat} (hk : k < ops.size) (hn : NQ P ih ops F G k) : ∃ o v h', ops[k]? = some o ∧ wantE ops (F k).tm o.guard = some true ∧ execE P ih (F k).tm o.type o.op (marked (G k)) = .ok v h' ∧
    touches o.op = true ∧ barOk (barOf ops (Region.before ops) o k) (F k).tm o.op = true ∧ h'.objs = (G (k + 1)).objs ∧ PutR (F k) o.dst v (F (k + 1)) ∧ G (k + 1) = reW (G k) h' := by
  obtain ⟨o, v, h', hop, hw, hx, hq⟩ := hn
  obtain ⟨o2, hop2, hc⟩ := c.ls k hk
  rw [hop] at hop2
  cases hop2
  rcases hc with ⟨hw2, _, _⟩ | ⟨_, v2, h2, hx2, hb, hG, hp⟩
  · rw [hw] at hw2; cases hw2
  · rw [hx] at hx2
    cases hx2
    refine ⟨o, v, h', hop, hw, hx, ?_, hb.resolve_left hq, by rw [hG]; rfl, hp, hG⟩
    cases ht : touches o.op with
    | true => rfl
    | false =>
      obtain ⟨e, _⟩ := execE_pure ht hx
      rw [e] at hq
      exact absurd (Nat.le_refl _) hq

def Wt (ops : Array Oper) (k : Nat) (t : Tmp) : Prop := ∃ o, ops[k]? = some o ∧ o.dst = some t

theorem Chn.same (c : Chn P ih ops F G) {a b : Nat} {t : Tmp} (hab : a ≤ b) (hb : b ≤ ops.size) (h : ∀ k, a ≤ k → k < b → ¬ Wt ops k t) : (F b).tm.get t = (F a).tm.get t := by
  induction b with
  | zero => have : a = 0 := by omega
            subst this; rfl
  | succ b ih2 =>
    by_cases e : a = b + 1
    · subst e; rfl
    · rw [← ih2 (by omega) (by omega) (fun k k1 k2 => h k k1 (by omega))]
      obtain ⟨o, hop, hc⟩ := c.ls b (by omega)
      have hne : o.dst ≠ some t := fun e => h b (by omega) (by omega) ⟨o, hop, e⟩
      rcases hc with ⟨_, hp, _⟩ | ⟨_, _, _, _, _, _, hp⟩ <;> exact hp.get hne

/-- The last of those that are done to write a temporary. -/
def Last (ops : Array Oper) (S : Nat → Prop) (t : Tmp) (p : Nat) : Prop := (p = 0 ∨ ∃ k, p = k + 1 ∧ S k ∧ Wt ops k t) ∧ ∀ k, S k → Wt ops k t → k < p

theorem greatest {A : Nat → Prop} : ∀ i, ∃ p, p ≤ i ∧ (p = 0 ∨ ∃ k, p = k + 1 ∧ A k) ∧ ∀ k, k < i → A k → k < p := by
  intro i
  induction i with
  | zero => exact ⟨0, Nat.le_refl _, .inl rfl, fun k h => absurd h (Nat.not_lt_zero k)⟩
  | succ i ih2 =>
    obtain ⟨p, h1, h2, h3⟩ := ih2
    by_cases h : A i
    · exact ⟨i + 1, Nat.le_refl _, .inr ⟨i, rfl, h⟩, fun k hk _ => hk⟩
    · refine ⟨p, by omega, h2, fun k hk ha => ?_⟩
      by_cases e : k = i
      · subst e; exact absurd ha h
      · exact h3 k (by omega) ha

end

theorem ordered_lt {b : Array Nat} {i j : Nat} (h : i < j) : ordered b i j = (b.getD j 0).testBit i := by
  unfold ordered
  rw [Nat.ble_eq_true_of_le (Nat.le_of_lt h)]; rfl
theorem ordered_gt {b : Array Nat} {i j : Nat} (h : j < i) : ordered b i j = (b.getD i 0).testBit j := by
  unfold ordered
  have : Nat.ble i j = false := by
    cases hb : Nat.ble i j with
    | false => rfl
    | true => exact absurd (Nat.le_of_ble_eq_true hb) (by omega)
  rw [this]; rfl

/-- Operation i is next. -/
structure Rdy (ops : Array Oper) (S : Nat → Prop) (i : Nat) (o : Oper) : Prop where
  cl : Closed ops S
  lt : ∀ k, S k → k < ops.size
  no : ¬ S i
  op : ops[i]? = some o
  deps : ∀ e ∈ o.after, Region.binds .any e = true → S e.on

section
variable {ops : Array Oper} {S : Nat → Prop} {i : Nat} {o : Oper}
theorem Rdy.isz (r : Rdy ops S i o) : i < ops.size := (Array.getElem?_eq_some_iff.1 r.op).1
theorem Rdy.before (r : Rdy ops S i o) {k : Nat} (hk : k < i) (h : ((Region.before ops).getD i 0).testBit k = true) : S k := before_ready r.cl r.op r.deps (by omega) h
theorem Rdy.after (r : Rdy ops S i o) {k : Nat} (hk : S k) (h : ((Region.before ops).getD k 0).testBit i = true) : False := r.no (before_closed r.cl k i hk h)

theorem share_look {a b : Oper} {t : Tmp} (h1 : a.dst = some t) (h2 : t ∈ b.looksAt ops ∨ b.dst = some t) : share ops a b = true ∧ share ops b a = true := by
  rcases h2 with h2 | h2
  · have : namesHit a.dst (b.looksAt ops) = true := by rw [h1]; exact List.contains_iff_mem.2 h2
    exact ⟨by unfold share; simp [this], by unfold share; simp [this]⟩
  · have e1 : sameDst a.dst b.dst = true := by rw [h1, h2]; exact Nat.beq_refl t
    have e2 : sameDst b.dst a.dst = true := by rw [h1, h2]; exact Nat.beq_refl t
    exact ⟨by unfold share; simp [e1], by unfold share; simp [e2]⟩

/-- Those that write what operation i reads or writes: done, if earlier, and not done, if later. -/
theorem Rdy.writers (st : Static ops) (r : Rdy ops S i o) {t : Tmp} (ht : t ∈ o.looksAt ops ∨ o.dst = some t) {k : Nat} (hw : Wt ops k t) : (k < i → S k) ∧ (S k → k < i) := by
  obtain ⟨ok, hk, hd⟩ := hw
  obtain ⟨s1, s2⟩ := share_look (ops := ops) hd ht
  refine ⟨fun hlt => r.before hlt (st.temps k i ok o hk r.op hlt s1), fun hS => ?_⟩
  rcases Nat.lt_trichotomy k i with h | h | h
  · exact h
  · subst h; exact absurd hS r.no
  · exact (r.after hS (st.temps i k o ok r.op hk h s2)).elim

theorem Rdy.last (st : Static ops) (r : Rdy ops S i o) {P : Program} {ih : Evs} {F : Nat → FS} {G : Nat → H} (c : Chn P ih ops F G) {t : Tmp} (ht : t ∈ o.looksAt ops ∨ o.dst = some t) :
    ∃ p, p ≤ i ∧ Last ops S t p ∧ (F i).tm.get t = (F p).tm.get t := by
  obtain ⟨p, h1, h2, h3⟩ := greatest (A := fun k => S k ∧ Wt ops k t) i
  refine ⟨p, h1, ⟨?_, fun k hk hw => h3 k ((r.writers st ht hw).2 hk) ⟨hk, hw⟩⟩, c.same h1 (Nat.le_of_lt r.isz) fun k k1 k2 hw => ?_⟩
  · rcases h2 with h | ⟨k, rfl, h⟩
    · exact .inl h
    · exact .inr ⟨k, rfl, h⟩
  · have := h3 k k2 ⟨(r.writers st ht hw).1 k2, hw⟩
    omega
end

end Go.Ev
