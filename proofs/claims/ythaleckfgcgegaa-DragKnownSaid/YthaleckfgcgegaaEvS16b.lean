/-
  THE EVALUATOR'S SOUNDNESS, 16b: a region whose order is drawn: what the look at its text tells; the steps in the order of the text.
-/
import Derived.Test.YthaleckfgcgegaaEvS16a
namespace Go.Ev

/-- Memory under fewer names. -/
noncomputable def Rst (ρ : R) (h : H) : R := fun id => match T.get id h.objs with
  | some _ => ρ id
  | none => none

theorem Rst_some {ρ : R} {h : H} {id : Pos} {x : Option (Nat × Nat)} : Rst ρ h id = some x ↔ ρ id = some x ∧ ∃ p, T.get id h.objs = some p := by
  unfold Rst
  cases hg : T.get id h.objs with
  | none => simp
  | some p => simp

theorem Rst_none {ρ : R} {h : H} {id : Pos} (hn : T.get id h.objs = none) : Rst ρ h id = none := by unfold Rst; rw [hn]

theorem Rst_le {ρ ρ' : R} {h h' : H} (hle : R.le ρ ρ') (hm : ∀ id p, T.get id h.objs = some p → ∃ q, T.get id h'.objs = some q) : R.le (Rst ρ h) (Rst ρ' h') := by
  intro id x hx
  obtain ⟨h1, p, h2⟩ := Rst_some.1 hx
  obtain ⟨q, h3⟩ := hm id p h2
  rcases hle id x h1 with h4 | h4
  · exact .inl (Rst_some.2 ⟨h4, q, h3⟩)
  · exact .inr (Rst_some.2 ⟨h4, q, h3⟩)

theorem Rst_self {ρ : R} {h : H} {w : World} (hr : HR ρ h w) : Rst ρ h = ρ := by
  funext id
  unfold Rst
  cases hg : T.get id h.objs with
  | some p => rfl
  | none => exact (hr.fresh hg).symm

/-- A put. -/
def PutR (fs : FS) (dst : Option Tmp) (v : AV) (fs1 : FS) : Prop := (dst = none ∧ fs1 = fs) ∨ ∃ d tm', dst = some d ∧ d < fs.n ∧ fs.tm.set d v = some tm' ∧ fs1 = ⟨fs.fn, fs.n, tm', fs.defs, fs.round⟩

def reW (h h' : H) : H := ⟨h'.objs, h'.next, h'.clock, bif Nat.ble h.w h'.w then h.w else h'.w⟩

/-- One step in the order of the text. -/
def LS (P : Program) (ih : Evs) (ops : Array Oper) (i : Nat) (fs : FS) (h : H) (fs1 : FS) (h1 : H) : Prop :=
  ∃ o, ops[i]? = some o ∧ ((wantE ops fs.tm o.guard = some false ∧ PutR fs o.dst (.tup []) fs1 ∧ h1 = h) ∨
    (wantE ops fs.tm o.guard = some true ∧ ∃ v h', execE P ih fs.tm o.type o.op (marked h) = .ok v h' ∧ (h.clock ≤ h'.w ∨ barOk (barOf ops (Region.before ops) o i) fs.tm o.op = true) ∧ h1 = reW h h' ∧ PutR fs o.dst v fs1))

theorem opsD_chain {P : Program} {ih : Evs} {ops : Array Oper} {fs' : FS} {h' : H} : ∀ (l : List (Oper × Bar)) (i : Nat) (fs : FS) (h : H), (∀ k : Nat, l[k]? = (ops[i + k]?).map fun o => (o, barOf ops (Region.before ops) o (i + k))) →
    opsD P ih ops l fs h = .ok fs' h' → ∃ (F : Nat → FS) (G : Nat → H), F i = fs ∧ G i = h ∧ F (i + l.length) = fs' ∧ G (i + l.length) = h' ∧ ∀ k, i ≤ k → k < i + l.length → LS P ih ops k (F k) (G k) (F (k + 1)) (G (k + 1))
  | [], i, fs, h, _, he => by cases he; exact ⟨fun _ => fs', fun _ => h', rfl, rfl, rfl, rfl, fun k h1 h2 => by simp at h2; omega⟩
  | (o, bar) :: l, i, fs, h, hl, he => by
    have h0 := hl 0
    simp at h0
    have hop : ∃ o', ops[i]? = some o' ∧ o' = o ∧ bar = barOf ops (Region.before ops) o i := by
      cases hq : ops[i]? with
      | none => rw [hq] at h0; simp at h0
      | some o' => rw [hq] at h0; simp at h0; exact ⟨o', rfl, h0.1.symm, by rw [h0.2, h0.1]⟩
    obtain ⟨o', hop, rfl, rfl⟩ := hop
    have hl' : ∀ k : Nat, l[k]? = (ops[i + 1 + k]?).map fun o => (o, barOf ops (Region.before ops) o (i + 1 + k)) := fun k => by
      have := hl (k + 1)
      rw [List.getElem?_cons_succ] at this
      rw [this, show i + (k + 1) = i + 1 + k from by omega]
    have he' : oneD P ih ops (barOf ops (Region.before ops) o' i) o' fs h (opsD P ih ops l) = .ok fs' h' := he
    have cont : ∀ (v : AV) (h1 : H), putE o'.dst v fs h1 (opsD P ih ops l) = .ok fs' h' → (∀ fs1, PutR fs o'.dst v fs1 → LS P ih ops i fs h fs1 h1) →
        ∃ (F : Nat → FS) (G : Nat → H), F i = fs ∧ G i = h ∧ F (i + ((o', barOf ops (Region.before ops) o' i) :: l).length) = fs' ∧ G (i + ((o', barOf ops (Region.before ops) o' i) :: l).length) = h' ∧
          ∀ k, i ≤ k → k < i + ((o', barOf ops (Region.before ops) o' i) :: l).length → LS P ih ops k (F k) (G k) (F (k + 1)) (G (k + 1)) := by
      intro v h1 hp hls
      have key : ∃ fs1, PutR fs o'.dst v fs1 ∧ opsD P ih ops l fs1 h1 = .ok fs' h' := by
        rcases putE_some hp with ⟨a, b⟩ | ⟨d, tm', a, b, c, e⟩
        · exact ⟨fs, .inl ⟨a, rfl⟩, b⟩
        · exact ⟨_, .inr ⟨d, tm', a, b, c, rfl⟩, e⟩
      obtain ⟨fs1, k1, k2⟩ := key
      obtain ⟨F, G, f1, f2, f3, f4, f5⟩ := opsD_chain l (i + 1) fs1 h1 hl' k2
      refine ⟨fun k => if k = i then fs else F k, fun k => if k = i then h else G k, if_pos rfl, if_pos rfl, ?_, ?_, fun k g1 g2 => ?_⟩
      · simp only [List.length_cons]
        rw [if_neg (by omega), show i + (l.length + 1) = i + 1 + l.length from by omega]; exact f3
      · simp only [List.length_cons]
        rw [if_neg (by omega), show i + (l.length + 1) = i + 1 + l.length from by omega]; exact f4
      · simp only [List.length_cons] at g2
        by_cases hk : k = i
        · subst hk
          have e1 : ¬ k + 1 = k := by omega
          simp only [if_true, if_neg e1, f1, f2]
          exact hls fs1 k1
        · have e1 : ¬ k + 1 = i := by omega
          simp only [if_neg hk, if_neg e1]
          exact f5 k (by omega) (by omega)
    unfold oneD at he'
    cases hw : wantE ops fs.tm o'.guard with
    | none => rw [hw] at he'; cases he'
    | some wb =>
      rw [hw] at he'
      cases wb with
      | false => exact cont (.tup []) h he' (fun fs1 hp => ⟨o', hop, .inl ⟨hw, hp, rfl⟩⟩)
      | true =>
        dsimp only at he'
        cases hx : execE P ih fs.tm o'.type o'.op (marked h) with
        | no => rw [hx] at he'; cases he'
        | ok v h1 =>
          rw [hx] at he'
          obtain ⟨objs, next, clock, w1⟩ := h1
          cases hc : (Nat.ble h.clock w1 || barOk (barOf ops (Region.before ops) o' i) fs.tm o'.op) with
          | false =>
            have : unmark (barOf ops (Region.before ops) o' i) fs.tm o'.op h (.ok v ⟨objs, next, clock, w1⟩) = .no := by
              unfold unmark; dsimp only; rw [hc]; rfl
            rw [this] at he'
            cases he'
          | true =>
            have : unmark (barOf ops (Region.before ops) o' i) fs.tm o'.op h (.ok v ⟨objs, next, clock, w1⟩) = .ok v (reW h ⟨objs, next, clock, w1⟩) := by
              unfold unmark; dsimp only; rw [hc]; rfl
            rw [this] at he'
            refine cont v _ he' (fun fs1 hp => ⟨o', hop, .inr ⟨hw, v, _, hx, ?_, rfl, hp⟩⟩)
            rcases Bool.or_eq_true_iff.1 hc with h1 | h1
            · exact .inl (Nat.le_of_ble_eq_true h1)
            · exact .inr h1

/-- What the look at a region's text tells. -/
structure Static (ops : Array Oper) : Prop where
  temps : ∀ (i j : Nat) oi oj, ops[i]? = some oi → ops[j]? = some oj → i < j → share ops oi oj = true → ((Region.before ops).getD j 0).testBit i = true
  edges : ∀ (i : Nat) o e, ops[i]? = some o → e ∈ o.after → Region.binds .any e = true → e.on < i

theorem zipIdx_all {α : Type} {l : List α} {p : α × Nat → Bool} (h : l.zipIdx.all p = true) {i : Nat} {x : α} (hx : l[i]? = some x) : p (x, i) = true := by
  rw [List.all_eq_true] at h
  exact h (x, i) (by rw [List.mk_mem_zipIdx_iff_getElem?]; exact hx)

theorem drawn_some {ops : Array Oper} {l : List (Oper × Bar)} (h : drawn ops = some l) : Static ops ∧ l = withBars ops (Region.before ops) := by
  unfold drawn at h
  cases hc : (tempsOk ops (Region.before ops) && edgesOk ops) with
  | false => rw [hc] at h; cases h
  | true =>
    rw [hc] at h
    cases h
    rw [Bool.and_eq_true] at hc
    refine ⟨⟨fun i j oi oj hi hj hlt hs => ?_, fun i o e hi he hb => ?_⟩, rfl⟩
    · have h1 := zipIdx_all (l := ops.toList) hc.1 (i := j) (x := oj) (by simpa using hj)
      have h2 := zipIdx_all (l := ops.toList) h1 (i := i) (x := oi) (by simpa using hi)
      dsimp only at h2
      have h3 : Nat.ble (Nat.succ i) j = true := Nat.ble_eq_true_of_le hlt
      rw [h3, hs] at h2
      simpa using h2
    · have h1 := zipIdx_all (l := ops.toList) hc.2 (i := i) (x := o) (by simpa using hi)
      dsimp only at h1
      rw [List.all_eq_true] at h1
      have h2 := h1 e (by simpa using he)
      rw [hb] at h2
      exact Nat.le_of_ble_eq_true (by simpa using h2)

theorem withBars_get {ops : Array Oper} {b : Array Nat} (k : Nat) : (withBars ops b)[k]? = (ops[k]?).map fun o => (o, barOf ops b o k) := by
  unfold withBars
  rw [List.getElem?_map, List.getElem?_zipIdx]
  cases h : ops[k]? with
  | none => simp [h]
  | some o => simp [h]

/-- Which operations are done. -/
def In (listed : Array Bool) (i : Nat) : Prop := listed.getD i false = true

def Closed (ops : Array Oper) (S : Nat → Prop) : Prop := ∀ i o, S i → ops[i]? = some o → ∀ e ∈ o.after, Region.binds .any e = true → S e.on

theorem before_closed {ops : Array Oper} {S : Nat → Prop} (hS : Closed ops S) : ∀ j i, S j → ((Region.before ops).getD j 0).testBit i = true → S i := by
  have key : ∀ (l : List Oper) (k : Nat) (acc : Array Nat), acc.size = k → (∀ j : Nat, l[j]? = ops[k + j]?) → (∀ j i, S j → (acc.getD j 0).testBit i = true → S i) →
      ∀ j i, S j → ((l.foldl (fun (acc : Array Nat) (o : Oper) => acc.push (o.after.foldl (fun s e => if Region.binds .any e then s ||| 2 ^ e.on ||| acc.getD e.on 0 else s) 0)) acc).getD j 0).testBit i = true → S i := by
    intro l
    induction l with
    | nil => intro k acc _ _ hacc; exact hacc
    | cons o l ih =>
      intro k acc hk hl hacc
      simp only [List.foldl_cons]
      have hop : ops[k]? = some o := by have := hl 0; simp at this; exact this.symm
      refine ih (k + 1) _ (by simp [hk]) (fun j => by
        have := hl (j + 1)
        rw [List.getElem?_cons_succ] at this
        rw [this]; congr 1; omega) ?_
      intro j i hj hb
      by_cases hjk : j < k
      · refine hacc j i hj ?_
        have : (acc.push (o.after.foldl (fun s e => if Region.binds .any e then s ||| 2 ^ e.on ||| acc.getD e.on 0 else s) 0)).getD j 0 = acc.getD j 0 := by
          simp only [Array.getD_eq_getD_getElem?]
          rw [Array.getElem?_push, if_neg (by omega)]
        rw [this] at hb
        exact hb
      · by_cases hjk2 : j = k
        · subst hjk2
          have : (acc.push (o.after.foldl (fun s e => if Region.binds .any e then s ||| 2 ^ e.on ||| acc.getD e.on 0 else s) 0)).getD j 0 = o.after.foldl (fun s e => if Region.binds .any e then s ||| 2 ^ e.on ||| acc.getD e.on 0 else s) 0 := by
            simp only [Array.getD_eq_getD_getElem?]
            rw [Array.getElem?_push, if_pos hk.symm]
            rfl
          rw [this] at hb
          have hdep := hS j o hj hop
          rw [← Array.foldl_toList] at hb
          have inner : ∀ (es : List Edge) (s : Nat), (∀ e ∈ es, e ∈ o.after) → (s.testBit i = true → S i) → (es.foldl (fun s e => if Region.binds .any e then s ||| 2 ^ e.on ||| acc.getD e.on 0 else s) s).testBit i = true → S i := by
            intro es
            induction es with
            | nil => intro s _ h hb; exact h hb
            | cons e es ih2 =>
              intro s he hs hb
              simp only [List.foldl_cons] at hb
              refine ih2 _ (fun e' h' => he e' (by simp [h'])) ?_ hb
              intro hb2
              cases hbd : Region.binds .any e with
              | false => rw [hbd] at hb2; exact hs (by simpa using hb2)
              | true =>
                rw [hbd] at hb2
                simp only [if_true, Nat.testBit_or, Bool.or_eq_true] at hb2
                have hon : S e.on := hdep e (he e (by simp)) hbd
                rcases hb2 with (h1 | h1) | h1
                · exact hs h1
                · rw [Nat.testBit_two_pow] at h1
                  have : e.on = i := by simpa using h1
                  exact this ▸ hon
                · exact hacc e.on i hon h1
          exact inner o.after.toList 0 (fun e he => by simpa using he) (fun h => by simp at h) hb
        · have : (acc.push (o.after.foldl (fun s e => if Region.binds .any e then s ||| 2 ^ e.on ||| acc.getD e.on 0 else s) 0)).getD j 0 = 0 := by
            simp only [Array.getD_eq_getD_getElem?]
            rw [Array.getElem?_eq_none (by simp; omega)]
            rfl
          rw [this] at hb
          simp at hb
  intro j i hj hb
  unfold Region.before at hb
  rw [← Array.foldl_toList] at hb
  exact key ops.toList 0 #[] rfl (fun j => by simp) (fun j i _ h => by simp at h) j i hj hb

/-- An operation that is ready waits for those that are done. -/
theorem before_ready {ops : Array Oper} {S : Nat → Prop} (hS : Closed ops S) {j : Nat} {o : Oper} (hop : ops[j]? = some o) (hr : ∀ e ∈ o.after, Region.binds .any e = true → S e.on) {i : Nat} (hij : i ≠ j)
    (hb : ((Region.before ops).getD j 0).testBit i = true) : S i := by
  have hc : Closed ops (fun k => S k ∨ k = j) := by
    intro k o' hk ho' e he hbd
    rcases hk with hk | rfl
    · exact .inl (hS k o' hk ho' e he hbd)
    · rw [hop] at ho'; cases ho'; exact .inl (hr e he hbd)
  rcases before_closed hc j i (.inr rfl) hb with h | h
  · exact h
  · exact absurd h hij

theorem PutR.same {fs fs1 : FS} {dst : Option Tmp} {v : AV} (h : PutR fs dst v fs1) : fs1.fn = fs.fn ∧ fs1.n = fs.n ∧ fs1.defs = fs.defs ∧ fs1.round = fs.round := by
  rcases h with ⟨_, rfl⟩ | ⟨_, _, _, _, _, rfl⟩ <;> exact ⟨rfl, rfl, rfl, rfl⟩
theorem PutR.get {fs fs1 : FS} {dst : Option Tmp} {v : AV} (h : PutR fs dst v fs1) {t : Tmp} (ht : dst ≠ some t) : fs1.tm.get t = fs.tm.get t := by
  rcases h with ⟨_, rfl⟩ | ⟨d, tm', hd, _, hs, rfl⟩
  · rfl
  · exact (M.set_some hs).2.1 t (fun e => ht (by rw [hd, e]))
theorem PutR.here {fs fs1 : FS} {t : Tmp} {v : AV} (h : PutR fs (some t) v fs1) : t < fs.n ∧ fs1.tm.get t = some v := by
  rcases h with ⟨h, _⟩ | ⟨d, tm', hd, hlt, hs, rfl⟩
  · cases h
  · cases hd; exact ⟨hlt, (M.set_some hs).1⟩

end Go.Ev
