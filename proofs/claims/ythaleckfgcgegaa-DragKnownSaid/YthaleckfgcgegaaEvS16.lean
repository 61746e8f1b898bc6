/-
  THE EVALUATOR'S SOUNDNESS, 16: a region whose order is drawn.
-/
import Derived.Test.YthaleckfgcgegaaEvS16g
import Derived.Orders
namespace Go.Ev

theorem In_set {listed : Array Bool} {i : Nat} (h : i < listed.size) (k : Nat) : In (listed.setIfInBounds i true) k ↔ In listed k ∨ k = i := by
  unfold In
  by_cases e : k = i
  · subst e
    simp [h]
  · rw [getD_set_ne false (Ne.symm e)]
    simp [e]

section
variable {P : Program} {ih : Evs} {ops : Array Oper} {F : Nat → FS} {G : Nat → H} {ρ0 : R} {w0 : World}

theorem all_listed (st : Static ops) {listed : Array Bool} (hs : listed.size = ops.size) (h : Region.ready .any ops listed = []) : ∀ n k, k < n → k < ops.size → In listed k := by
  intro n
  induction n with
  | zero => intro k h; exact absurd h (Nat.not_lt_zero k)
  | succ n ih2 =>
    intro k hk hks
    by_cases e : k < n
    · exact ih2 k e hks
    · have hkn : k = n := by omega
      cases hb : listed.getD k false with
      | true => exact hb
      | false =>
        exfalso
        have hlt : k < listed.size := by omega
        have ho : ops[k]? = some ops[k] := by simp [hks]
        have hm : k ∈ Region.ready .any ops listed := by
          rw [mem_ready]
          refine ⟨?_, ops[k], ho, fun e he hbd => ?_⟩
          · rw [Array.getD_eq_getD_getElem?] at hb ⊢
            simp [hlt] at hb ⊢
            exact hb
          · have := st.edges k _ e ho he hbd
            exact ih2 e.on (by omega) (by omega)
        rw [h] at hm
        cases hm

theorem count_set {l : List Bool} : ∀ {i : Nat}, l[i]? = some false → (l.set i true).count false + 1 = l.count false := by
  induction l with
  | nil => intro i h; simp at h
  | cons b l ih2 =>
    intro i h
    cases i with
    | zero => simp at h; subst h; simp
    | succ i =>
      rw [List.getElem?_cons_succ] at h
      rw [List.set_cons_succ, List.count_cons, List.count_cons, ← ih2 h]
      omega

theorem run_any (hi : CallOK P ih) (st : Static ops) (c : Chn P ih ops F G) (h0 : ∀ g, g ≤ 63 → Has (G 0) (posN g)) (hg : GR ρ0) (fn : FuncId) (rd : Option Nat) (df : List Deferred) (k : List Item) (cs : List Frame) :
    ∀ (fuel t : Nat) (listed : Array Bool) (ρ : R) (tm : Array Value) (w : World) (q : Nat), listed.size = ops.size → Closed ops (In listed) → listed.toList.count false ≤ fuel → Inv P ih ops F G ρ0 w0 (In listed) ρ tm w q →
      ∃ S' ρ' tm' w' q', (∀ j, j < ops.size → S' j) ∧ (∀ j, S' j → j < ops.size) ∧ Inv P ih ops F G ρ0 w0 S' ρ' tm' w' q' ∧
        Steps P (lone (Fr fn rd tm df (.inRegion ops (Region.linearise.go .any ops fuel t listed []) :: k)) cs w) (lone (Fr fn rd tm' df (.inRegion ops [] :: k)) cs w') := by
  intro fuel
  have inlt : ∀ {listed : Array Bool}, listed.size = ops.size → ∀ j, In listed j → j < ops.size := by
    intro listed hs j hj
    unfold In at hj
    rw [Array.getD_eq_getD_getElem?] at hj
    rcases Nat.lt_or_ge j listed.size with h | h
    · omega
    · rw [Array.getElem?_eq_none h] at hj; simp at hj
  induction fuel with
  | zero =>
    intro t listed ρ tm w q hs hcl hf iv
    refine ⟨In listed, ρ, tm, w, q, fun j hj => ?_, inlt hs, iv, .refl _ _⟩
    have h1 : false ∉ listed.toList := List.count_eq_zero.1 (Nat.le_zero.1 hf)
    have hlt : j < listed.size := by omega
    unfold In
    rw [Array.getD_eq_getD_getElem?]
    simp [hlt]
    cases hb : listed[j] with
    | true => rfl
    | false => exact absurd (hb ▸ Array.getElem_mem_toList hlt) h1
  | succ fuel ih2 =>
    intro t listed ρ tm w q hs hcl hf iv
    simp only [Region.linearise.go]
    change ∃ S' ρ' tm' w' q', (∀ j, j < ops.size → S' j) ∧ (∀ j, S' j → j < ops.size) ∧ Inv P ih ops F G ρ0 w0 S' ρ' tm' w' q' ∧
        Steps P (lone (Fr fn rd tm df (.inRegion ops (match (Region.ready .any ops listed)[t % (Region.ready .any ops listed).length]? with
      | some i => Region.linearise.go .any ops fuel (t / (Region.ready .any ops listed).length) (listed.setIfInBounds i true) [i]
      | none => [].reverse) :: k)) cs w) (lone (Fr fn rd tm' df (.inRegion ops [] :: k)) cs w')
    cases hget : (Region.ready .any ops listed)[t % (Region.ready .any ops listed).length]? with
    | none =>
      have hnil : Region.ready .any ops listed = [] := by
        cases hr : Region.ready .any ops listed with
        | nil => rfl
        | cons x xs =>
          rw [hr] at hget
          have hlt : t % (x :: xs).length < (x :: xs).length := Nat.mod_lt _ (by simp)
          simp at hget
          simp at hlt
          omega
      exact ⟨In listed, ρ, tm, w, q, fun j hj => all_listed st hs hnil (j + 1) j (Nat.lt_succ_self j) hj, inlt hs, iv, .refl _ _⟩
    | some i =>
      have hm := List.mem_of_getElem? hget
      rw [mem_ready] at hm
      obtain ⟨hno, o, hop, hdeps⟩ := hm
      have hlt : i < listed.size := by rw [hs]; exact (Array.getElem?_eq_some_iff.1 hop).1
      have hfalse : listed[i]? = some false := by
        rw [Array.getD_eq_getD_getElem?] at hno
        simp [hlt] at hno
        simp [hlt, hno]
      have hni : ¬ In listed i := fun h => by
        unfold In at h
        rw [Array.getD_eq_getD_getElem?, hfalse] at h
        cases h
      have r : Rdy ops (In listed) i o := ⟨hcl, inlt hs, hni, hop, fun e he hb => hdeps e he hb⟩
      have hS := In_set (listed := listed) hlt
      obtain ⟨ρ1, tm1, w1, q1, iv1, st1⟩ := iv.step hi st c h0 hg r hS fn rd df (Region.linearise.go .any ops fuel (t / (Region.ready .any ops listed).length) (listed.setIfInBounds i true) []) k cs
      obtain ⟨S', ρ', tm', w', q', g1, g2, g3, g4⟩ := ih2 (t / (Region.ready .any ops listed).length) (listed.setIfInBounds i true) ρ1 tm1 w1 q1 (by simp [hs]) (by
        intro j oj hj hoj e he hb
        rw [hS] at hj ⊢
        rcases hj with hj | rfl
        · exact .inl (hcl j oj hj hoj e he hb)
        · rw [hop] at hoj; cases hoj; exact .inl (hdeps e he hb)) (by
        have := count_set (l := listed.toList) (i := i) (by simpa using hfalse)
        rw [Array.toList_setIfInBounds]
        omega) iv1
      refine ⟨S', ρ', tm', w', q', g1, g2, g3, ?_⟩
      dsimp only
      rw [linearise_go_acc, List.reverse_singleton, List.singleton_append]
      exact st1.trans g4

end

theorem opsD_run {P : Program} {ih : Evs} (hi : CallOK P ih) {ops : Array Oper} {l : List (Oper × Bar)} (hd : drawn ops = some l) {fs fs' : FS} {h h' : H} (he : opsD P ih ops l fs h = .ok fs' h') :
    fs'.fn = fs.fn ∧ fs'.n = fs.n ∧ fs'.round = fs.round ∧ fs'.defs = fs.defs ∧ ∀ ρ rd tm df w, St ρ fs h rd tm df w → ∀ fn k cs t, ∃ ρ' tm' w', St ρ' fs' h' rd tm' df w' ∧ Ext ρ h w ρ' h' w' ∧
      Steps P (lone (Fr fn rd tm df (.inRegion ops (Region.linearise .any ops t) :: k)) cs w) (lone (Fr fn rd tm' df (.inRegion ops [] :: k)) cs w') := by
  obtain ⟨st, rfl⟩ := drawn_some hd
  obtain ⟨F, G, f1, f2, f3, f4, f5⟩ := opsD_chain (withBars ops (Region.before ops)) 0 fs h (fun k => by rw [Nat.zero_add]; exact withBars_get k) he
  have hlen : (withBars ops (Region.before ops)).length = ops.size := by simp [withBars]
  rw [Nat.zero_add, hlen] at f3 f4
  rw [hlen] at f5
  have hl : ∀ k, k < ops.size → LS P ih ops k (F k) (G k) (F (k + 1)) (G (k + 1)) := fun k hk => f5 k (Nat.zero_le k) (by omega)
  have sames : ∀ k, k ≤ ops.size → (F k).fn = fs.fn ∧ (F k).n = fs.n ∧ (F k).defs = fs.defs ∧ (F k).round = fs.round := by
    intro k
    induction k with
    | zero => intro _; rw [f1]; exact ⟨rfl, rfl, rfl, rfl⟩
    | succ k ih2 =>
      intro hk
      obtain ⟨a1, a2, a3, a4⟩ := ih2 (by omega)
      obtain ⟨o, hop, hc⟩ := hl k (by omega)
      have : ∃ v, PutR (F k) o.dst v (F (k + 1)) := by
        rcases hc with ⟨_, hp, _⟩ | ⟨_, v, _, _, _, _, hp⟩
        · exact ⟨_, hp⟩
        · exact ⟨v, hp⟩
      obtain ⟨v, hp⟩ := this
      obtain ⟨b1, b2, b3, b4⟩ := hp.same
      exact ⟨b1.trans a1, b2.trans a2, b3.trans a3, b4.trans a4⟩
  obtain ⟨s1, s2, s3, s4⟩ := sames ops.size (Nat.le_refl _)
  rw [f3] at s1 s2 s3 s4
  refine ⟨s1, s2, s4, s3, fun ρ rd tm df w s fn k cs t => ?_⟩
  rw [← f1, ← f2] at s
  have c : Chn P ih ops F G := chain_chn hi hl s
  have h0 : ∀ g, g ≤ 63 → Has (G 0) (posN g) := fun g hg => by
    obtain ⟨x, hx, _⟩ := s.gr g hg
    exact s.hr.has hx
  have domN : ∀ {m}, m ≤ ops.size → Rst ρ (G m) = ρ := fun {m} hm => Rst_dom fun id x hx => c.has (Nat.zero_le m) hm (s.hr.has hx)
  have iv : Inv P ih ops F G ρ w (In (Array.replicate ops.size false)) ρ tm w 0 := by
    have none : ∀ j, ¬ In (Array.replicate ops.size false) j := fun j hj => by
      unfold In at hj
      rw [Array.getD_eq_getD_getElem?] at hj
      rcases Nat.lt_or_ge j ops.size with h | h
      · simp [Array.getElem?_replicate, h] at hj
      · rw [Array.getElem?_eq_none (by simp; omega)] at hj; simp at hj
    refine { qn := Nat.zero_le _, qa := fun k _ _ => ⟨fun h => absurd h (none k), fun h => absurd h (Nat.not_lt_zero k)⟩, qb := .inl rfl, mem := ?_, dom := fun id x hx => .inl (s.hr.has hx), tms := s.tr.1, tmp := ?_, le := R.le_refl ρ, newd := fun _ e => .inl e,
             rng := fun id b n e => .inr ⟨id, n, e⟩, wr := ?_, frame := fun _ _ _ => rfl, size := Nat.le_refl _, frz := fun _ => rfl, os := rfl, out := rfl }
    · intro m hm
      rw [domN hm.2.1]
      exact s.hr.sub (c.seg hm (Nat.le_refl _) (Nat.zero_le m)) (c.ai m hm.2.1)
    · intro t p v hl2 hv
      have hp : p = 0 := by
        rcases hl2.1 with e | ⟨k, _, hk, _⟩
        · exact e
        · exact absurd hk (none k)
      subst hp
      show VR (Rst ρ (G (max 0 0))) v _
      rw [Nat.max_self, domN (Nat.zero_le _)]
      exact s.tr.2 t v hv
    · intro m hm b hb hW
      obtain ⟨id, n, g1, g2⟩ := hW
      rw [domN hm.2.1] at g1
      exact ⟨id, n, g1, fun ⟨born, mm, hmm⟩ => g2 ⟨born, mm, c.seg hm (Nat.le_refl _) (Nat.zero_le m) _ _ hmm⟩⟩
  obtain ⟨S', ρ', tm', w', q', e1, e2, iv', e3⟩ := run_any hi st c h0 s.gr fn rd df k cs ops.size t (Array.replicate ops.size false) ρ tm w 0 (by simp) (by
    intro j oj hj
    exfalso
    unfold In at hj
    rw [Array.getD_eq_getD_getElem?] at hj
    rcases Nat.lt_or_ge j ops.size with h | h
    · simp [Array.getElem?_replicate, h] at hj
    · rw [Array.getElem?_eq_none (by simp; omega)] at hj; simp at hj) (by
    have := List.count_le_length (a := false) (l := (Array.replicate ops.size false).toList)
    simp at this ⊢) iv
  have seg : Seg P ih ops F G q' ops.size := ⟨iv'.qn, Nat.le_refl _, fun k k1 k2 hn => by
    have := (iv'.qa k k2 hn).1 (e1 k k2)
    omega⟩
  have rho : Rst ρ' (G ops.size) = ρ' := Rst_dom fun id x hx => by
    rcases iv'.dom id x hx with h | ⟨k, ok, k1, k2, k3, k4, k5, k6, k7⟩
    · exact c.has iv'.qn (Nat.le_refl _) h
    · exact c.has k3 (Nat.le_refl _) k6
  have hrN := iv'.mem ops.size seg
  rw [rho] at hrN
  rw [← f3, ← f4]
  refine ⟨ρ', tm', w', ⟨s.gr.up iv'.le, ⟨?_, fun t v hv => ?_⟩, hrN, ?_, ?_⟩, ?_, ?_⟩
  · rw [iv'.tms, c.nn ops.size (Nat.le_refl _)]
  · obtain ⟨p, p1, p2, p3⟩ := greatest (A := fun k => S' k ∧ Wt ops k t) ops.size
    have hl2 : Last ops S' t p := by
      refine ⟨?_, fun k hk hw => p3 k (e2 k hk) ⟨hk, hw⟩⟩
      rcases p2 with h | ⟨k, rfl, h⟩
      · exact .inl h
      · exact .inr ⟨k, rfl, h⟩
    have hsame := c.same (t := t) p1 (Nat.le_refl _) fun k k1 k2 hw => by
      have := p3 k k2 ⟨e1 k k2, hw⟩
      omega
    rw [hsame] at hv
    exact (iv'.tmp t p v hl2 hv).up (fun id x h => .inl (Rst_some.1 h).1)
  · rw [f3, s3, ← f1]; exact s.dr.up iv'.le
  · rw [f3, s4, ← f1]; exact s.rd.up iv'.le
  · rw [← f2]
    refine { le := iv'.le, newd := iv'.newd, rng := iv'.rng, wr := ?_, frame := iv'.frame, size := iv'.size, frz := iv'.frz, os := iv'.os, out := iv'.out, clk := c.clk, keep := c.keep0, wle := c.wle }
    intro b hb hW
    refine iv'.wr ops.size seg b hb ?_
    rw [rho]; exact hW
  · exact e3

end Go.Ev
