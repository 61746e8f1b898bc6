/-
  THE EVALUATOR'S SOUNDNESS, 16g: an operation that touches memory, in its turn among those that write.
-/
import Derived.Test.YthaleckfgcgegaaEvS16f
namespace Go.Ev

section
variable {P : Program} {ih : Evs} {ops : Array Oper} {F : Nat → FS} {G : Nat → H} {ρ0 ρ ρi : R} {w0 w w' : World} {S S' : Nat → Prop} {tm : Array Value} {q i : Nat} {o : Oper} {h' : H}

theorem Inv.quiet (st : Static ops) (c : Chn P ih ops F G) (iv : Inv P ih ops F G ρ0 w0 S ρ tm w q) (r : Rdy ops S i o) (hS : ∀ k, S' k ↔ S k ∨ k = i) (hnq : ¬ NQ P ih ops F G i) (ht : touches o.op = true) (hqi : q ≤ i)
    {v : AV} {v' : Value} (hp : PutR (F i) o.dst v (F (i + 1))) (ho : h'.objs = (G (i + 1)).objs) (hclk : (G i).clock ≤ h'.w) (hv : VR ρi v v') (hri : HR ρi h' w') (ex : Ext (Rst ρ (G i)) (marked (G i)) w ρi h' w') :
    Inv P ih ops F G ρ0 w0 S' (Mrg ρ ρi (marked (G i)) h') (putA tm o.dst v') w' q := by
  have sg := iv.seg c r ht hqi
  have hasE : ∀ {id : Pos}, Has h' id ↔ Has (G (i + 1)) id := fun {id} => by unfold Has; rw [ho]
  have fresh : ∀ id, Has h' id → T.get id (marked (G i)).objs = none → ρ id = none := by
    intro id h1 h2
    cases hx : ρ id with
    | none => rfl
    | some x =>
      exfalso
      have hno : ¬ Has (G i) id := fun ⟨p, hp⟩ => by
        have e : T.get id (marked (G i)).objs = T.get id (G i).objs := rfl
        rw [e, hp] at h2; cases h2
      rcases iv.dom id x hx with h | ⟨k, ok, k1, k2, k3, k4, k5, k6, k7⟩
      · exact hno (c.has hqi (Nat.le_of_lt r.isz) h)
      · rcases Nat.lt_trichotomy k i with h | h | h
        · exact hno (c.has h (Nat.le_of_lt r.isz) k6)
        · subst h; exact r.no k1
        · exact k7 (c.has h (Nat.le_of_lt k3) (hasE.1 h1))
  have Q : QS ρ ρi (marked (G i)) h' w w' := ⟨(iv.mem i sg).marked, hri, ex, hclk, fresh⟩
  have rel : ∀ m, Seg P ih ops F G q m → Rel (marked (G i)) h' (G m) := by
    intro m hm
    by_cases h : m ≤ i
    · exact .inl (c.seg sg hm.1 h)
    · refine .inr fun id p hp => ?_
      rw [ho] at hp
      exact c.seg hm (by omega) (by omega) id p hp
  have sub1 : Sub h' (G (i + 1)) := fun id p hp => by rw [ho] at hp; exact hp
  refine { qn := iv.qn, qa := ?_, qb := iv.qb, mem := ?_, dom := ?_, tms := ?_, tmp := ?_, le := ?_, newd := ?_, rng := ?_, wr := ?_, frame := ?_, size := ?_, frz := ?_, os := ?_, out := ?_ }
  · intro k hk hn
    rw [hS k, ← iv.qa k hk hn]
    exact ⟨fun h => h.resolve_right (fun e => hnq (e ▸ hn)), .inl⟩
  · intro m hm
    exact Q.hr (iv.mem m hm) (rel m hm)
  · intro id x hx
    rcases Q.f6 hx with ⟨c1, c2, _⟩ | h
    · refine .inr ⟨i, o, (hS i).2 (.inr rfl), hqi, r.isz, r.op, ht, hasE.1 c2, fun ⟨p, hp⟩ => ?_⟩
      have e : T.get id (marked (G i)).objs = T.get id (G i).objs := rfl
      rw [e, hp] at c1; cases c1
    · rcases iv.dom id x h with h | ⟨k, ok, h1, h2⟩
      · exact .inl h
      · exact .inr ⟨k, ok, (hS k).2 (.inl h1), h2⟩
  · rw [putA_size]; exact iv.tms
  · refine tmp_step st c r hS iv.tms hp (A := fun p => Rst (Mrg ρ ρi (marked (G i)) h') (G (max p q))) (fun t p u hl hu => ?_) ?_
    · exact (iv.tmp t p u hl hu).up (fun id x h => .inl (Q.le2 _ id x h))
    · have e : max (i + 1) q = i + 1 := by omega
      show VR (Rst (Mrg ρ ρi (marked (G i)) h') (G (max (i + 1) q))) v v'
      rw [e]
      exact hv.up (Q.lei sub1)
  · exact R.le_trans iv.le (fun id x h => .inl (Q.f3 h))
  · intro id hid
    cases hx : Mrg ρ ρi (marked (G i)) h' id with
    | none => exact .inl rfl
    | some x =>
      rcases Q.f6 hx with ⟨c1, _, _⟩ | h
      · refine .inr (not_has fun h0 => ?_)
        obtain ⟨p, hp⟩ := c.has (Nat.zero_le i) (Nat.le_of_lt r.isz) h0
        have e : T.get id (marked (G i)).objs = T.get id (G i).objs := rfl
        rw [e, hp] at c1; cases c1
      · rcases iv.newd id hid with h2 | h2
        · rw [h2] at h; cases h
        · exact .inr h2
  · intro id b n hx
    rcases Q.f6 hx with ⟨_, _, c3⟩ | h
    · rcases ex.rng id b n c3 with h1 | ⟨id0, n0, h1⟩
      · exact .inl (Nat.le_trans iv.size h1)
      · exact iv.rng id0 b n0 (Rst_some.1 h1).1
    · exact iv.rng id b n h
  · intro m hm b hb hW
    rcases Q.wr (rel m hm) (Nat.lt_of_lt_of_le hb iv.size) hW with h | h
    · exact iv.wr i sg b hb h
    · exact iv.wr m hm b hb h
  · intro b hb hn
    rw [← iv.frame b hb hn]
    exact ex.frame b (Nat.lt_of_lt_of_le hb iv.size) (fun hW => hn (iv.wr i sg b hb hW))
  · exact Nat.le_trans iv.size ex.size
  · intro a; exact (ex.frz a).trans (iv.frz a)
  · exact ex.os.trans iv.os
  · exact ex.out.trans iv.out

theorem Inv.writer (st : Static ops) (c : Chn P ih ops F G) (iv : Inv P ih ops F G ρ0 w0 S ρ tm w q) (r : Rdy ops S i o) (hS : ∀ k, S' k ↔ S k ∨ k = i) (hn : NQ P ih ops F G i) (ht : touches o.op = true) (hqi : q ≤ i)
    {v : AV} {v' : Value} (hp : PutR (F i) o.dst v (F (i + 1))) (ho : h'.objs = (G (i + 1)).objs) (hv : VR ρi v v') (hri : HR ρi h' w') (ex : Ext (Rst ρ (G i)) (marked (G i)) w ρi h' w') :
    Inv P ih ops F G ρ0 w0 S' ρi (putA tm o.dst v') w' (i + 1) := by
  have sg := iv.seg c r ht hqi
  obtain ⟨o2, _, _, hop2, _, _, _, hbar, _⟩ := c.bar r.isz hn
  rw [r.op] at hop2
  cases hop2
  have sub1 : Sub h' (G (i + 1)) := fun id p hp => by rw [ho] at hp; exact hp
  have hasi : ∀ {id x}, ρi id = some x → Has (G (i + 1)) id := fun {id x} h => by
    obtain ⟨p, hp⟩ := hri.has h
    exact ⟨p, sub1 _ _ hp⟩
  -- those that touch memory and come later are not done
  have later : ∀ k ok, i < k → ops[k]? = some ok → touches ok.op = true → ¬ S k := by
    intro k ok h1 h2 h3 hk
    rcases bar_spec hbar h2 h3 (by omega) with h | ⟨h, _⟩
    · rw [ordered_gt h1] at h
      exact r.after hk h
    · omega
  have rho : Rst ρ (G i) = ρ := Rst_dom fun id x hx => by
    rcases iv.dom id x hx with h | ⟨k, ok, k1, k2, k3, k4, k5, k6, k7⟩
    · exact c.has hqi (Nat.le_of_lt r.isz) h
    · rcases Nat.lt_trichotomy k i with h | h | h
      · exact c.has h (Nat.le_of_lt r.isz) k6
      · subst h; exact absurd k1 r.no
      · exact absurd k1 (later k ok h k4 k5)
  have mono : ∀ {m}, i + 1 ≤ m → m ≤ ops.size → Rst ρi (G m) = ρi := fun {m} h1 h2 => Rst_dom fun id x hx => c.has h1 h2 (hasi hx)
  refine { qn := r.isz, qa := ?_, qb := .inr ⟨i, rfl, r.isz, hn⟩, mem := ?_, dom := fun id x hx => .inl (hasi hx), tms := ?_, tmp := ?_, le := ?_, newd := ?_, rng := ?_, wr := ?_, frame := ?_, size := ?_, frz := ?_, os := ?_, out := ?_ }
  · intro k hk hkn
    rw [hS k]
    refine ⟨fun h => ?_, fun h => ?_⟩
    · rcases h with h | h
      · have := (iv.qa k hk hkn).1 h
        omega
      · omega
    · by_cases e : k = i
      · exact .inr e
      · have hlt : k < i := by omega
        obtain ⟨ok, _, _, hop, _, _, _, hb, _⟩ := c.bar hk hkn
        rcases bar_spec hb r.op ht (by omega) with g | ⟨g, _⟩
        · rw [ordered_gt hlt] at g
          exact .inl (r.before hlt g)
        · omega
  · intro m hm
    rw [mono hm.1 hm.2.1]
    refine hri.sub (fun id p hp => ?_) (c.ai m hm.2.1)
    exact c.seg hm (Nat.le_refl _) hm.1 id p (sub1 id p hp)
  · rw [putA_size]; exact iv.tms
  · refine tmp_step st c r hS iv.tms hp (A := fun p => Rst ρi (G (max p (i + 1)))) (fun t p u hl hu => ?_) ?_
    · have hps : p ≤ ops.size := by
        rcases hl.1 with e | ⟨k, e, _, ⟨ok, hok, _⟩⟩
        · omega
        · have := (Array.getElem?_eq_some_iff.1 hok).1; omega
      have hmx : max p (i + 1) ≤ ops.size := Nat.max_le.2 ⟨hps, r.isz⟩
      rw [mono (Nat.le_max_right _ _) hmx]
      refine (iv.tmp t p u hl hu).up (R.le_trans (fun id x h => .inl (Rst_some.1 h).1) ?_)
      rw [← rho]; exact ex.le
    · show VR (Rst ρi (G (max (i + 1) (i + 1)))) v v'
      rw [Nat.max_self, mono (Nat.le_refl _) r.isz]
      exact hv
  · refine R.le_trans iv.le ?_
    rw [← rho]; exact ex.le
  · intro id hid
    rcases iv.newd id hid with h | h
    · rcases ex.newd id (by rw [rho]; exact h) with h2 | h2
      · exact .inl h2
      · refine .inr (not_has fun h0 => ?_)
        obtain ⟨p, hp⟩ := c.has (Nat.zero_le i) (Nat.le_of_lt r.isz) h0
        have e : T.get id (marked (G i)).objs = T.get id (G i).objs := rfl
        rw [e, hp] at h2; cases h2
    · exact .inr h
  · intro id b n hx
    rcases ex.rng id b n hx with h1 | ⟨id0, n0, h1⟩
    · exact .inl (Nat.le_trans iv.size h1)
    · exact iv.rng id0 b n0 (Rst_some.1 h1).1
  · intro m hm b hb hW
    refine iv.wr i sg b hb (ex.wr b (Nat.lt_of_lt_of_le hb iv.size) ?_)
    obtain ⟨id, n, h1, h2⟩ := hW
    rw [mono hm.1 hm.2.1] at h1
    exact ⟨id, n, h1, fun ⟨born, mm, hmm⟩ => h2 ⟨born, mm, c.seg hm (Nat.le_refl _) hm.1 _ _ (sub1 _ _ hmm)⟩⟩
  · intro b hb hnW
    rw [← iv.frame b hb hnW]
    exact ex.frame b (Nat.lt_of_lt_of_le hb iv.size) (fun hW => hnW (iv.wr i sg b hb hW))
  · exact Nat.le_trans iv.size ex.size
  · intro a; exact (ex.frz a).trans (iv.frz a)
  · exact ex.os.trans iv.os
  · exact ex.out.trans iv.out

/-- One operation that is next. -/
theorem Inv.step (hi : CallOK P ih) (st : Static ops) (c : Chn P ih ops F G) (h0 : ∀ g, g ≤ 63 → Has (G 0) (posN g)) (hg : GR ρ0) (iv : Inv P ih ops F G ρ0 w0 S ρ tm w q) (r : Rdy ops S i o) (hS : ∀ k, S' k ↔ S k ∨ k = i)
    (fn : FuncId) (rd : Option Nat) (df : List Deferred) (rest : List Nat) (k : List Item) (cs : List Frame) :
    ∃ ρ' tm' w' q', Inv P ih ops F G ρ0 w0 S' ρ' tm' w' q' ∧ Steps P (lone (Fr fn rd tm df (.inRegion ops (i :: rest) :: k)) cs w) (lone (Fr fn rd tm' df (.inRegion ops rest :: k)) cs w') := by
  obtain ⟨o2, hop2, hc⟩ := c.ls i r.isz
  rw [r.op] at hop2
  cases hop2
  have hmx : max i q ≤ ops.size := Nat.max_le.2 ⟨Nat.le_of_lt r.isz, iv.qn⟩
  have hmx1 : max (i + 1) q ≤ ops.size := Nat.max_le.2 ⟨r.isz, iv.qn⟩
  have grm := iv.gr c h0 hg hmx
  have ev := iv.evs (df := df) st c r grm
  rcases hc with ⟨hw, hp, hG⟩ | ⟨hw, v, h', hx, hb, hG, hp⟩
  · have hnq : ¬ NQ P ih ops F G i := fun ⟨o3, _, _, e1, e2, _⟩ => by
      rw [r.op] at e1; cases e1; rw [hw] at e2; cases e2
    exact ⟨ρ, _, w, q, iv.val st c r hS hnq hp (v' := undef) (.tup [] #[] .nil), s_opSkip r.op (iv.wanted st c r hw)⟩
  · have hwt := iv.wanted st c r hw
    have hd : ∀ d, o.op ≠ .defer d := fun d e => by rw [e] at hx; cases hx
    cases ht : touches o.op with
    | false =>
      have hnq : ¬ NQ P ih ops F G i := fun hn => by
        obtain ⟨o3, _, _, e1, _, _, e4, _⟩ := c.bar r.isz hn
        rw [r.op] at e1; cases e1; rw [ht] at e4; cases e4
      obtain ⟨v', e1, e2⟩ := execE_val (w := w) ev ht hx
      exact ⟨ρ, _, w, q, iv.val st c r hS hnq hp (e2.up (Rst_mono c (by omega) hmx1)), s_opValue r.op hwt hd e1⟩
    | true =>
      by_cases hiq : i < q
      · obtain ⟨ty, a, hop, u, id, off, g1, g2, g3⟩ := iv.pend c r ht hiq
        have hnq : ¬ NQ P ih ops F G i := fun hn => r.no ((iv.qa i r.isz hn).2 hiq)
        have e : max i q = q := by omega
        rw [e] at ev grm
        obtain ⟨od, oop, oty, opos, oaf, og⟩ := o
        dsimp only at hop
        subst hop
        obtain ⟨u1, k1, k2⟩ := on1_some hx
        have k1' : (F i).tm.get a = some u1 := k1
        rw [g1] at k1'
        cases k1'
        obtain ⟨kk, _⟩ := of_some k2
        have hhas : Has (G i) id := by
          cases hgo : T.get id (G i).objs with
          | some p => exact ⟨p, hgo⟩
          | none =>
            exfalso
            have hno : Ev.getObj id (marked (G i)) = none := by
              show (Option.rec (motive := fun _ => Option AO) none (fun bo : Nat × AO => some bo.2) (T.get id (G i).objs)) = none
              rw [hgo]
            unfold loadE loadAgg load1 readCells at kk
            rw [g2] at kk
            dsimp only at kk
            rw [hno] at kk
            dsimp only at kk
            cases hb1 : isAggB P ty with
            | none => rw [hb1] at kk; cases kk
            | some bb =>
              rw [hb1] at kk
              cases bb with
              | false => cases kk
              | true =>
                cases hb2 : sizeE P ty with
                | none => rw [hb2] at kk; cases kk
                | some n => rw [hb2] at kk; cases kk
        obtain ⟨p, hp0⟩ := hhas
        have same : T.get id (marked (G i)).objs = T.get id (G q).objs := by
          have e1 : T.get id (marked (G i)).objs = T.get id (G i).objs := rfl
          rw [e1, g3 p hp0, hp0]
        rw [loadE_same g2 same] at kk
        have hl := loadE_run (P := P) (iv.mem q (Seg.refl iv.qn)) (ev (.tmp a) (by simp [Op.operands]) u g1) kk
        obtain ⟨v', f1, f2⟩ := hl.val
        exact ⟨ρ, _, w, q, iv.val st c r hS hnq hp (f2.up (Rst_mono c (by omega) hmx1)), s_opValue r.op hwt hd f1⟩
      · have hqi : q ≤ i := by omega
        have e : max i q = i := by omega
        rw [e] at ev grm
        have sg := iv.seg c r ht hqi
        obtain ⟨ρi, v', w', b1, b2, b3, b4⟩ := execE_step hi grm (iv.mem i sg).marked ev hx r.op hwt fn rd rest k cs
        have ho : h'.objs = (G (i + 1)).objs := by rw [hG]; rfl
        by_cases hn : NQ P ih ops F G i
        · exact ⟨ρi, _, w', i + 1, iv.writer st c r hS hn ht hqi hp ho b1 b2 b3, b4⟩
        · have hclk : (G i).clock ≤ h'.w := by
            by_cases h1 : (G i).clock ≤ h'.w
            · exact h1
            · exact absurd ⟨o, v, h', r.op, hw, hx, h1⟩ hn
          exact ⟨_, _, w', q, iv.quiet st c r hS hn ht hqi hp ho hclk b1 b2 b3, b4⟩

end

end Go.Ev
