/-
  CONTRACTS OF CALLS, 3: a run with contracts is sound.
-/
import Derived.Test.YthaleckfgcgegaaEvO2
namespace Go.Ev

theorem HR.take {ρ : R} {h h' : H} {w : World} (hr : HR ρ h w) {o : AO} {id : Pos} (e : Ev.newObj o h = some (id, h')) {o' : Obj} {b n : Nat} (hb : w.heap[b]? = some o') (ho : OR ρ n o o') (hno : ∀ j k, ρ j ≠ some (some (b, k))) :
    ρ id = none ∧ HR (ρ.new id (some (b, n))) h' w := by
  obtain ⟨rfl, hg, rfl⟩ := newObj_some e
  have hn := hr.fresh hg
  have hle : R.le ρ (ρ.new h.next (some (b, n))) := R.le_new hn
  refine ⟨hn, ?_, ?_, ?_, ?_⟩
  · intro j c k hj
    unfold R.new at hj
    by_cases ej : j = h.next
    · subst ej
      rw [if_pos rfl] at hj
      cases hj
      exact ⟨h.clock, o, o', T.get_set_same _ _ _, hb, ho.up hle⟩
    · rw [if_neg ej] at hj
      obtain ⟨born, p, p', h1, h2, h3⟩ := hr.live j c k hj
      exact ⟨born, p, p', (T.get_set_ne _ _ _ _ ej).trans h1, h2, h3.up hle⟩
  · intro i j c k k' hi hj
    unfold R.new at hi hj
    by_cases ei : i = h.next
    · by_cases ej : j = h.next
      · rw [ei, ej]
      · rw [if_pos ei] at hi; rw [if_neg ej] at hj; cases hi
        exact absurd hj (hno _ _)
    · by_cases ej : j = h.next
      · rw [if_neg ei] at hi; rw [if_pos ej] at hj; cases hj
        exact absurd hi (hno _ _)
      · rw [if_neg ei] at hi; rw [if_neg ej] at hj
        exact hr.inj i j c k k' hi hj
  · intro j hj
    unfold R.new at hj
    by_cases ej : j = h.next
    · rw [if_pos ej] at hj; cases hj
    · rw [if_neg ej] at hj
      obtain ⟨born, hb⟩ := hr.dead j hj
      exact ⟨born, (T.get_set_ne _ _ _ _ ej).trans hb⟩
  · intro j born p hj
    show born < Nat.succ h.clock
    by_cases ej : j = h.next
    · subst ej; rw [T.get_set_same] at hj; cases hj; exact Nat.lt_succ_self _
    · rw [T.get_set_ne _ _ _ _ ej] at hj; exact Nat.lt_succ_of_lt (hr.old j born p hj)

theorem Ext.take {ρ0 ρ : R} {h0 h h' : H} {w0 w : World} (ex : Ext ρ0 h0 w0 ρ h w) (hr : HR ρ h w) {o : AO} {id : Pos} (e : Ev.newObj o h = some (id, h')) {b n : Nat} (hb : w0.heap.size ≤ b) : Ext ρ0 h0 w0 (ρ.new id (some (b, n))) h' w := by
  have hnone : ρ id = none := by obtain ⟨rfl, hg, rfl⟩ := newObj_some e; exact hr.fresh hg
  obtain ⟨rfl, hg, rfl⟩ := newObj_some e
  refine { le := R.le_trans ex.le (R.le_new hnone), newd := ?_, rng := ?_, wr := ?_, frame := ex.frame, size := ex.size, frz := ex.frz, os := ex.os, out := ex.out, clk := Nat.le_succ_of_le ex.clk, keep := ?_, wle := ex.wle }
  · intro j hj
    rcases ex.newd j hj with h1 | h1
    · by_cases ej : j = h.next
      · subst ej
        refine .inr ?_
        cases hg0 : T.get h.next h0.objs with
        | none => rfl
        | some p =>
          obtain ⟨⟨o', ho⟩, _⟩ := ex.keep _ p.1 p.2 hg0
          rw [hg] at ho; cases ho
      · exact .inl (by unfold R.new; rw [if_neg ej]; exact h1)
    · exact .inr h1
  · intro j c k hj
    unfold R.new at hj
    by_cases ej : j = h.next
    · rw [if_pos ej] at hj; cases hj; exact .inl hb
    · rw [if_neg ej] at hj; exact ex.rng j c k hj
  · rintro c hc ⟨j, k, hj, hro⟩
    unfold R.new at hj
    by_cases ej : j = h.next
    · rw [if_pos ej] at hj; cases hj; omega
    · rw [if_neg ej] at hj
      exact ex.wr c hc ⟨j, k, hj, fun ⟨born, m, hm⟩ => hro ⟨born, m, (T.get_set_ne _ _ _ _ ej).trans hm⟩⟩
  · intro j born p hj
    obtain ⟨⟨o', ho⟩, hk⟩ := ex.keep j born p hj
    have hne : j ≠ h.next := fun e => by rw [e, hg] at ho; cases ho
    exact ⟨⟨o', (T.get_set_ne _ _ _ _ hne).trans ho⟩, fun hb => (T.get_set_ne _ _ _ _ hne).trans (hk hb)⟩

/-- What a new block of the small run holds. -/
def NewOK (ρs : R) (w0 w : World) (ρ : R) (x : Pos × List AV × TypeId) : Prop :=
  ∃ (b : Nat) (c : Array Value), ρs x.1 = some (some (b, c.size)) ∧ w0.heap.size ≤ b ∧ w.heap[b]? = some (.cells c x.2.2 (0, 0)) ∧ (∀ (i : Nat) v, x.2.1[i]? = some v → flat1 v = true ∧ ∃ v', c[i]? = some v' ∧ VR ρs v v') ∧ ∀ j k, ρ j ≠ some (some (b, k))

theorem adopt_spec {ρ0 ρs : R} {h0 : H} {w0 w : World} (inj : ∀ id id' b n n', ρs id = some (some (b, n)) → ρs id' = some (some (b, n')) → id = id') : ∀ (news : List (Pos × List AV × TypeId)) (h : H) (ρ : R) (s : List (Pos × Pos)) (h2 : H), adopt news h = some (s, h2) →
    HR ρ h w → Ext ρ0 h0 w0 ρ h w → (∀ x ∈ news, NewOK ρs w0 w ρ x) → (news.map (·.1)).Nodup → ∃ ρ2, HR ρ2 h2 w ∧ Ext ρ0 h0 w0 ρ2 h2 w ∧ (∀ id x, ρ id = some x → ρ2 id = some x) ∧ ∀ t a, nm t s = some a → ρ2 a = ρs t
  | [], h, ρ, s, h2, e, hr, ex, _, _ => by cases e; exact ⟨ρ, hr, ex, fun _ _ h => h, fun t a h => by cases h⟩
  | (t, c, ty) :: r, h, ρ, s, h2, e, hr, ex, hn, hd => by
    unfold adopt at e
    cases h1 : newObj (.cells (mkCells c) ty) h with
    | none => rw [h1] at e; cases e
    | some p =>
      obtain ⟨id, hh⟩ := p
      rw [h1] at e
      dsimp only at e
      cases h3 : adopt r hh with
      | none => rw [h3] at e; cases e
      | some q =>
        obtain ⟨s2, h4⟩ := q
        rw [h3] at e
        cases e
        obtain ⟨b, cc, k1, k2, k3, k4, k5⟩ := hn (t, c, ty) List.mem_cons_self
        have ho : OR ρ cc.size (.cells (mkCells c) ty) (.cells cc ty (0, 0)) := .cells _ _ _ fun i v hv => by
          obtain ⟨g1, v', g2, g3⟩ := k4 i v (mkCells_get hv)
          exact ⟨v', g2, flat1_down g1 g3⟩
        obtain ⟨hnone, hr1⟩ := hr.take h1 k3 ho k5
        have ex1 := ex.take (n := cc.size) hr h1 k2
        rw [List.map_cons, List.nodup_cons] at hd
        obtain ⟨ρ2, f1, f2, f3, f4⟩ := adopt_spec inj r hh _ s2 h2 h3 hr1 ex1 (fun x hx => by
          obtain ⟨b2, c2, m1, m2, m3, m4, m5⟩ := hn x (List.mem_cons_of_mem _ hx)
          refine ⟨b2, c2, m1, m2, m3, m4, fun j k hj => ?_⟩
          unfold R.new at hj
          by_cases ej : j = id
          · rw [if_pos ej] at hj
            cases hj
            have := inj _ _ _ _ _ m1 k1
            exact hd.1 (this ▸ List.mem_map_of_mem hx)
          · rw [if_neg ej] at hj; exact m5 j k hj) hd.2
        refine ⟨ρ2, f1, f2, fun j x hj => f3 j x ?_, fun u a hu => ?_⟩
        · have : j ≠ id := fun e => by rw [e, hnone] at hj; cases hj
          unfold R.new; rw [if_neg this]; exact hj
        · unfold nm at hu
          by_cases eu : u = t
          · rw [decide_eq_true eu] at hu
            cases hu
            subst eu
            rw [f3 id _ (by unfold R.new; rw [if_pos rfl]), k1]
          · rw [decide_eq_false eu] at hu; exact f4 u a hu

theorem deads_none : ∀ (n : Nat) (id : Pos), (∀ g, g < n → id ≠ posN g) → T.get id (deads n) = none
  | 0, id, _ => T.get_nil id
  | n + 1, id, h => by
    have e : deads (n + 1) = T.set (0, .dead) (posN n) (deads n) := rfl
    rw [e, T.get_set_ne _ _ _ _ (h n (Nat.lt_succ_self n))]
    exact deads_none n id (fun g hg => h g (by omega))

theorem occ1_spec {ρ : R} {p : Pos} {v : AV} {v' : Value} (e : occ1 p v = true) (r : VR ρ v v') : ∃ x, ρ p = some x := by
  cases v with
  | sl id off len cap esz =>
    have := of_decide_eq_true (e : decide (id = p) = true)
    subst this
    cases r with
    | sl _ _ _ _ _ b cap' x hx hp hc hl => exact ⟨x, hx⟩
    | sle _ _ _ a0 hx => exact ⟨_, hx⟩
    | slu _ _ _ c0 a0 x0 hx h0 => exact ⟨x0, hx⟩
  | _ => cases e
theorem occL_spec {ρ : R} {p : Pos} : ∀ {vs : List AV} {vs' : List Value}, occL p vs = true → VL ρ vs vs' → ∃ x, ρ p = some x
  | [], _, e, _ => by cases e
  | v :: vs, _, e, r => by
    have e' : (occ1 p v || occL p vs) = true := e
    cases r with
    | cons _ _ _ _ hv hvs =>
      rcases Bool.or_eq_true_iff.1 e' with h | h
      · exact occ1_spec h hv
      · exact occL_spec h hvs
theorem occB_spec {ρ : R} {p : Pos} {v : AV} {v' : Value} (e : occB p v = true) (r : VR ρ v v') : ∃ x, ρ p = some x := by
  cases v with
  | tup vs => cases r with
    | tup _ cs' hc => exact occL_spec e hc
  | _ => exact occ1_spec (by exact e) r

def ConOK (P : Program) (c : Con) : Prop := ∀ args h u h2, applyCon c args h = .ok u h2 → TgtOK P (.fn c.g args) h u h2

theorem con_ok {P : Program} {c : Con} {v0 : AV} {hs : H} (hrun : TgtOK P (.fn c.g c.args) (smallH c.tb) v0 hs) (hchk : chk c (.ok v0 hs) = true) : ConOK P c := by
  intro args h u h2 he
  have hchk' : (eqV v0 c.ret && Nat.ble 1 hs.w && (c.news.all fun x => newB c.tb hs x && occB x.1 c.ret && (match lk x.1 c.tb with | none => farB 64 x.1 | some _ => false)) && decide (c.news.map (·.1)).Nodup && (c.tb.all fun x => decide (x.1 = posN 0) || farB 64 x.1)) = true := hchk
  simp only [Bool.and_eq_true] at hchk'
  obtain ⟨⟨⟨⟨c1, c2⟩, c3⟩, c4⟩, c5⟩ := hchk'
  have hret := eqV_spec c1
  subst hret
  have hq : (smallH c.tb).clock ≤ hs.w := Nat.le_of_ble_eq_true c2
  have hnd := of_decide_eq_true c4
  unfold applyCon at he
  dsimp only at he
  generalize hsd : names0 c.tb (pairs c.args args) = s at he
  have h0 : (∃ x, lk (posN 0) c.tb = some x) → nm (posN 0) s = some (posN 0) := by
    rintro ⟨x, hx⟩
    unfold names0 at hsd
    rw [hx] at hsd
    dsimp only at hsd
    rw [← hsd]; unfold nm; rw [decide_eq_true rfl]; rfl
  cases hcond : (fits s c.args args && heldB c.tb s h && apartB c.tb s && knownB c.tb s) with
  | false => rw [hcond] at he; cases he
  | true =>
    rw [hcond] at he
    dsimp only [cond] at he
    simp only [Bool.and_eq_true] at hcond
    obtain ⟨⟨⟨b1, b2⟩, b3⟩, b4⟩ := hcond
    cases had : adopt c.news h with
    | none => rw [had] at he; cases he
    | some p =>
      obtain ⟨n, h'⟩ := p
      rw [had] at he
      dsimp only at he
      cases hren : ren n c.ret with
      | none => rw [hren] at he; cases he
      | some v =>
        rw [hren] at he
        cases he
        intro ρ args' w hg hr ha frames
        obtain ⟨r1, r2, r3⟩ := small_hr (tb := c.tb) (s := s) hr hg b2 b3 h0 (fun t cc ht => by
          have := (List.all_eq_true.1 c5) (t, cc) ht
          dsimp only at this
          rcases Bool.or_eq_true_iff.1 this with h1 | h1
          · exact .inl (of_decide_eq_true h1)
          · exact .inr (farB_spec h1))
        have hk : ∀ t a, nm t s = some a → smallR ρ c.tb s t = ρ a := fun t a hn => by
          obtain ⟨cc, hcc⟩ := knownB_spec b4 hn
          exact smallR_at hcc hn
        obtain ⟨ρs, v', w', fr, a1, a2, a3, a4, a5, a6⟩ := hrun (smallR ρ c.tb s) args' w r2 r1 (fits_spec hk b1 ha) frames
        have same : ∀ b, b < w.heap.size → w'.heap[b]? = w.heap[b]? := fun b hb => a3.frame b hb (r3 b)
        have hlt : ∀ id b n, ρ id = some (some (b, n)) → b < w.heap.size := fun id b n e => by
          obtain ⟨_, _, o', _, hb, _⟩ := hr.live id b n e
          exact (Array.getElem?_eq_some_iff.1 hb).1
        have hlive : ∀ id b n, ρ id = some (some (b, n)) → ∃ born o o', T.get id h.objs = some (born, o) ∧ w'.heap[b]? = some o' ∧ OR ρ n o o' := fun id b n e => by
          obtain ⟨born, o, o', g1, g2, g3⟩ := hr.live id b n e
          exact ⟨born, o, o', g1, (same b (hlt id b n e)).trans g2, g3⟩
        have hr' : HR ρ h w' := ⟨hlive, hr.inj, hr.dead, hr.old⟩
        have ex' : Ext ρ h w ρ h w' := { Ext.refl (ρ := ρ) (h := h) (w := w) with frame := fun b hb _ => same b hb, size := a3.size, frz := a3.frz, os := a3.os, out := a3.out }
        have f1 := quiet_same r1 a2 a3 hq
        have hnew : ∀ x ∈ c.news, NewOK ρs w w' ρ x := by
          intro x hx
          obtain ⟨t, cc, ty⟩ := x
          have := (List.all_eq_true.1 c3) (t, cc, ty) hx
          simp only [Bool.and_eq_true] at this
          obtain ⟨⟨n1, n2⟩, n3⟩ := this
          cases hlk : lk t c.tb with
          | some _ => rw [hlk] at n3; cases n3
          | none =>
            rw [hlk] at n3
            dsimp only at n3
            have hnohas : T.get t (smallH c.tb).objs = none := by
              have h1 := small_get (id := t) c.tb
              rw [hlk] at h1
              exact Eq.trans h1 (deads_none 64 t (farB_spec n3))
            obtain ⟨y, hy⟩ := occB_spec n2 a1
            unfold newB at n1
            dsimp only at n1
            cases hgo : getObj t hs with
            | none => rw [hgo] at n1; cases n1
            | some o =>
              rw [hgo] at n1
              dsimp only at n1
              cases hce : cellsE o with
              | none => rw [hce] at n1; cases n1
              | some me =>
                obtain ⟨m, e⟩ := me
                rw [hce] at n1
                dsimp only at n1
                rw [Bool.and_eq_true] at n1
                obtain ⟨e1, e2⟩ := n1
                have e1 := of_decide_eq_true e1
                subst e1
                obtain rfl := cellsE_some hce
                obtain ⟨born, hb⟩ := getObj_some hgo
                cases hrm : readM m.get cc.length 0 with
                | none => rw [hrm] at e2; cases e2
                | some vs =>
                  rw [hrm] at e2
                  obtain ⟨e3, e4⟩ := eqFL_spec e2
                  subst e3
                  cases y with
                  | none =>
                    obtain ⟨_, hd⟩ := a2.dead t hy
                    rw [hb] at hd; cases hd
                  | some bn =>
                    obtain ⟨b, k⟩ := bn
                    obtain ⟨born2, o2, o', l1, l2, l3⟩ := a2.live t b k hy
                    rw [hb] at l1
                    cases l1
                    cases l3 with
                    | cells _ _ c' hc' =>
                      have hsz : w.heap.size ≤ b := by
                        rcases a3.rng t b _ hy with q1 | ⟨id0, n0, q1⟩
                        · exact q1
                        · have q2 := a2.inj id0 t b _ _ (f1 _ _ q1) hy
                          subst q2
                          obtain ⟨pp, hpp⟩ := r1.has q1
                          rw [hnohas] at hpp; cases hpp
                      refine ⟨b, c', hy, hsz, l2, fun i v hv => ?_, fun j k hj => ?_⟩
                      · refine ⟨e4 v (List.mem_of_getElem? hv), ?_⟩
                        have := (readM_get hrm).2 i v hv
                        rw [Nat.zero_add] at this
                        exact hc' i v this
                      · have := hlt j b k hj
                        omega
        obtain ⟨ρ2, g1, g2, g3, g4⟩ := adopt_spec (fun id id' b n n' => a2.inj id id' b n n') c.news h ρ n h2 had hr' ex' hnew hnd
        exact ⟨ρ2, v', w', fr, ren_spec g4 hren a1, g1, g2, a4, a5, a6⟩

/-- The evaluator with contracts. -/
noncomputable def tryCons (e : Tgt → H → RV) (g : FuncId) (args : List AV) (h : H) : List Con → RV
  | [] => e (.fn g args) h
  | c :: r => bif Nat.beq c.g g then (match applyCon c args h with | .ok v h' => .ok v h' | .no => tryCons e g args h r) else tryCons e g args h r

noncomputable def withCons (cons : List Con) (e : Evs) : Evs := ⟨e.code, fun t h => match t with | .fn g args => tryCons e.call g args h cons | .yld id args => e.call (.yld id args) h⟩

noncomputable def evc (P : Program) (cons : List Con) (n : Nat) : Evs := Nat.rec ⟨fun _ _ _ => .no, fun _ _ => .no⟩ (fun _ e => ⟨codeE P (withCons cons e), tgtE P (withCons cons e)⟩) n

theorem tryCons_ok {P : Program} {e : Tgt → H → RV} (he : ∀ t h v h', e t h = .ok v h' → TgtOK P t h v h') {g : FuncId} {args : List AV} {h : H} : ∀ (cons : List Con), (∀ c ∈ cons, ConOK P c) → ∀ {v h'}, tryCons e g args h cons = .ok v h' → TgtOK P (.fn g args) h v h'
  | [], _, v, h', hr => he _ _ _ _ hr
  | c :: r, hc, v, h', hr => by
    have rest := tryCons_ok he (g := g) (args := args) (h := h) r (fun c hm => hc c (List.mem_cons_of_mem _ hm)) (v := v) (h' := h')
    unfold tryCons at hr
    cases hb : Nat.beq c.g g with
    | false => rw [hb] at hr; exact rest hr
    | true =>
      rw [hb] at hr
      have hgg : c.g = g := Nat.eq_of_beq_eq_true hb
      dsimp only [cond] at hr
      cases ha : applyCon c args h with
      | no => rw [ha] at hr; exact rest hr
      | ok u h2 =>
        rw [ha] at hr
        cases hr
        have := hc c List.mem_cons_self args h _ _ ha
        rw [hgg] at this
        exact this

theorem withCons_ok {P : Program} {cons : List Con} {e : Evs} (hi : CallOK P e) (hc : ∀ c ∈ cons, ConOK P c) : CallOK P (withCons cons e) := by
  intro t h v h' he
  cases t with
  | fn g args => exact tryCons_ok (e := e.call) hi cons hc he
  | yld id args => exact hi _ _ _ _ he

theorem evc_ok {P : Program} (hm : P.follows .mixedOrders = true) {cons : List Con} (hc : ∀ c ∈ cons, ConOK P c) : ∀ n, CodeOK P (evc P cons n) ∧ CallOK P (evc P cons n)
  | 0 => ⟨(fun _ _ _ _ _ _ e => by cases e), (fun _ _ _ _ e => by cases e)⟩
  | n + 1 => by
    have hcode : CodeOK P (withCons cons (evc P cons n)) := (evc_ok hm hc n).1
    have hcall := withCons_ok (evc_ok hm hc n).2 hc
    exact ⟨codeE_run hm hcode hcall, tgtE_run hcode⟩

/-- ████ A RUN IN SMALL MEMORY GIVES A CONTRACT ████ -/
theorem con_run {P : Program} (hm : P.follows .mixedOrders = true) {cons : List Con} (hc : ∀ c ∈ cons, ConOK P c) {n : Nat} {c : Con} (h : chk c ((evc P cons n).call (.fn c.g c.args) (smallH c.tb)) = true) : ConOK P c := by
  cases hr : (evc P cons n).call (.fn c.g c.args) (smallH c.tb) with
  | no => rw [hr] at h; cases h
  | ok v h' => rw [hr] at h; exact con_ok ((evc_ok hm hc n).2 _ _ _ _ hr) h

/-- ████ A RUN THAT ANSWERS true, WITH CONTRACTS ████ -/
theorem startc_true {P : Program} (hm : P.follows .mixedOrders = true) {cons : List Con} (hc : ∀ c ∈ cons, ConOK P c) {n : Nat} {g : FuncId} {cs args : List AV} (he : (match (evc P cons n).call (.fn g args) (startH cs) with | .ok (.bool true) _ => true | _ => false) = true)
    {W : World} (hW : Table cs W) {args' : Array Value} (ha : VL (fun _ => none) args args'.toList) : Calls P g args' W fun e w' => e = .returned (.bool true) ∧ Go.RowKit.Grown W w' := by
  split at he
  · rename_i h' hh
    refine (start_calls ((evc_ok hm hc n).2 _ _ _ _ hh) hW ha).mono fun e w' ⟨⟨ρ, v', h1, h2, _⟩, h3⟩ => ⟨?_, h3⟩
    cases h2
    exact h1
  · cases he

end Go.Ev
