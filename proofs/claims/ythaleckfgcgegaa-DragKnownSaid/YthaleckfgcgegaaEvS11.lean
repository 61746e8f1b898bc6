/-
  THE EVALUATOR'S SOUNDNESS, 11: maps.
-/
import Derived.Test.YthaleckfgcgegaaEvS10
namespace Go.Ev

/-- Two lists of entries with the same keys. -/
inductive SK : List MapEntry → List MapEntry → Prop
  | nil : SK [] []
  | cons (e e' : MapEntry) (es es' : List MapEntry) : e.key = e'.key → SK es es' → SK (e :: es) (e' :: es')

inductive FR (es' : List MapEntry) (i : Nat) : Option (Nat × Value) → Option (Nat × Value) → Prop
  | none : FR es' i none none
  | some (j : Nat) (u : Value) (e : MapEntry) : i ≤ j → es'[j - i]? = some e → FR es' i (some (j, u)) (some (j, e.val))

theorem FR.step {e : MapEntry} {es : List MapEntry} {i : Nat} {a b : Option (Nat × Value)} (h : FR es (i + 1) a b) : FR (e :: es) i a b := by
  cases h with
  | none => exact .none
  | some j u x hj hx =>
    refine .some j u x (by omega) ?_
    rw [show j - i = (j - (i + 1)) + 1 from by omega, List.getElem?_cons_succ]
    exact hx

theorem findNow_same (kind : TypeDesc) (k : Value) {es es' : List MapEntry} (h : SK es es') : ∀ (i : Nat),
    (Instr.findNow kind k es i = none ∧ Instr.findNow kind k es' i = none) ∨ ∃ a b, Instr.findNow kind k es i = some a ∧ Instr.findNow kind k es' i = some b ∧ FR es' i a b := by
  induction h with
  | nil => intro i; exact .inr ⟨none, none, rfl, rfl, .none⟩
  | cons e e' es es' hk _ ih =>
    intro i
    unfold Instr.findNow
    rw [hk]
    cases Instr.sameNow kind k e'.key with
    | none => exact .inl ⟨rfl, rfl⟩
    | some b => cases b with
      | true => exact .inr ⟨_, _, rfl, rfl, .some i e.val e' (Nat.le_refl _) (by simp)⟩
      | false =>
        rcases ih (i + 1) with h | ⟨a, b, h1, h2, h3⟩
        · exact .inl h
        · exact .inr ⟨a, b, h1, h2, h3.step⟩

theorem pureRun_bind {α β : Type} {P : Program} {s : Sem α} {f : α → Sem β} {b : β} (h : pureRun P (s >>= f) = some b) : ∃ a, pureRun P s = some a ∧ pureRun P (f a) = some b := by
  have h' : pureRun P (s.bind f) = some b := h
  induction s with
  | pure a => exact ⟨a, rfl, h'⟩
  | program k ih => exact ih P h' h'
  | _ => cases h'

theorem findAsking_same {P : Program} (w : World) (kt : TypeId) (k : Value) {es es' : List MapEntry} (h : SK es es') : ∀ (i : Nat) {a : Option (Nat × Value)}, pureRun P (Instr.findAsking kt k es i) = some a →
    ∃ b, (Instr.findAsking kt k es' i).run P w = .ok b w ∧ FR es' i a b := by
  induction h with
  | nil => intro i a ha; cases ha; exact ⟨none, rfl, .none⟩
  | cons e e' es es' hk _ ih =>
    intro i a ha
    unfold Instr.findAsking at ha ⊢
    obtain ⟨q, h1, h2⟩ := pureRun_bind ha
    rw [hk] at h1
    have h1' := pureRun_run h1 w
    cases q with
    | true =>
      cases h2
      exact ⟨some (i, e'.val), (step_ok h1').trans rfl, .some i e.val e' (Nat.le_refl _) (by simp)⟩
    | false =>
      obtain ⟨b, g1, g2⟩ := ih (i + 1) h2
      exact ⟨b, (step_ok h1').trans g1, g2.step⟩

theorem findKey_same {P : Program} (w : World) (kt : TypeId) (k : Value) {es es' : List MapEntry} (h : SK es es') {a : Option (Nat × Value)} (ha : pureRun P (Instr.findKey kt k es) = some a) :
    ∃ b, (Instr.findKey kt k es').run P w = .ok b w ∧ FR es' 0 a b := by
  unfold Instr.findKey at ha ⊢
  obtain ⟨d, h1, h2⟩ := pureRun_bind ha
  have h1' := pureRun_run h1 w
  rcases findNow_same d k h 0 with ⟨q1, q2⟩ | ⟨x, y, q1, q2, q3⟩
  · rw [q1] at h2
    obtain ⟨b, g1, g2⟩ := findAsking_same w kt k h 0 h2
    refine ⟨b, (step_ok h1').trans ?_, g2⟩
    rw [q2]
    exact g1
  · rw [q1] at h2
    cases h2
    refine ⟨y, (step_ok h1').trans ?_, q3⟩
    rw [q2]
    rfl

theorem asEntries_sk {ρ : R} {es : List (Value × AV × Nat)} {es' : List MapEntry} (h : ER ρ es es') : SK (asEntries es) es' := by
  induction h with
  | nil => exact .nil
  | cons k v born v' es es' _ _ ih => exact .cons _ _ _ _ rfl ih

theorem ER.get {ρ : R} {es : List (Value × AV × Nat)} {es' : List MapEntry} (h : ER ρ es es') : ∀ {i : Nat} {x : Value × AV × Nat}, es[i]? = some x → ∃ e, es'[i]? = some e ∧ e.key = x.1 ∧ VR ρ x.2.1 e.val ∧ e.born = x.2.2 := by
  induction h with
  | nil => intro i x hx; simp at hx
  | cons k v born v' es es' hv _ ih =>
    intro i x hx
    cases i with
    | zero => simp at hx; subst hx; exact ⟨{ key := k, val := v', born := born }, by simp, rfl, hv, rfl⟩
    | succ i => simp at hx; obtain ⟨e, h1, h2⟩ := ih hx; exact ⟨e, by simpa using h1, h2⟩

/-- The place of a key. -/
theorem findE_run {P : Program} {ρ : R} (w : World) {empty : Bool} {kt : TypeId} {k : Value} {es : List (Value × AV × Nat)} {es' : Array MapEntry} (he : ER ρ es es'.toList) {r : Option Nat} (h : findE P empty kt k es = some r) :
    (Instr.checkKey empty 10000 kt k).run P w = .ok () w ∧ ∃ b, (Instr.findKey kt k es'.toList).run P w = .ok b w ∧
      ((r = none ∧ b = none) ∨ ∃ i e, r = some i ∧ b = some (i, e.val) ∧ es'[i]? = some e) := by
  unfold findE at h
  cases h1 : pureRun P (Instr.checkKey empty 10000 kt k) with
  | none => rw [h1] at h; cases h
  | some u =>
    rw [h1] at h
    dsimp only at h
    cases h2 : pureRun P (Instr.findKey kt k (asEntries es)) with
    | none => rw [h2] at h; cases h
    | some a =>
      rw [h2] at h
      obtain ⟨b, g1, g2⟩ := findKey_same w kt k (asEntries_sk he) h2
      refine ⟨pureRun_run h1 w, b, g1, ?_⟩
      cases g2 with
      | none => cases h; exact .inl ⟨rfl, rfl⟩
      | some j u e hj hx => cases h; exact .inr ⟨j, e, rfl, rfl, by simpa using hx⟩

theorem mapVal_vr {ρ : R} {ok b : Bool} {v : AV} {v' : Value} (hv : VR ρ v v') : VR ρ (mapVal ok v b) (if ok = true then .tuple #[v', .bool b] else v') := by
  cases ok with
  | true => exact .tup _ _ (.cons _ _ _ _ hv (.cons _ _ _ _ (.bool b) .nil))
  | false => exact hv

theorem lookupIn_run {P : Program} {ρ : R} (w : World) {kt et : TypeId} {k : Value} {ok : Bool} {es : List (Value × AV × Nat)} {es' : Array MapEntry} (he : ER ρ es es'.toList) {v : AV} (h : lookupIn P kt et k ok es = some v) :
    (Instr.checkKey es'.isEmpty 10000 kt k).run P w = .ok () w ∧ ∃ b, (Instr.findKey kt k es'.toList).run P w = .ok b w ∧
      ((b = none ∧ ∃ z, (zeroValue et).run P w = .ok z w ∧ VR ρ v (if ok = true then .tuple #[z, .bool false] else z)) ∨ ∃ i u, b = some (i, u) ∧ VR ρ v (if ok = true then .tuple #[u, .bool true] else u)) := by
  unfold lookupIn at h
  have hem : es.isEmpty = es'.isEmpty := by
    have := he.length
    cases es with
    | nil =>
      have h0 : es'.size = 0 := by simpa using this.symm
      simp [Array.eq_empty_of_size_eq_zero h0]
    | cons a l =>
      simp at this
      have : es'.size ≠ 0 := by omega
      simp; exact fun e => this (by simp [e])
  cases hf : findE P es.isEmpty kt k es with
  | none => rw [hf] at h; cases h
  | some r =>
    obtain ⟨g1, b, g2, g3⟩ := findE_run (P := P) w he hf
    rw [hf] at h
    refine ⟨hem ▸ g1, b, g2, ?_⟩
    rcases g3 with ⟨rfl, rfl⟩ | ⟨i, e, rfl, rfl, hi⟩
    · dsimp only at h
      cases hz : zeroE P et with
      | none => rw [hz] at h; cases h
      | some z =>
        rw [hz] at h
        cases h
        obtain ⟨z', hz1, hz2⟩ := zeroE_run (ρ := ρ) w hz
        exact .inl ⟨rfl, z', hz1, mapVal_vr hz2⟩
    · dsimp only at h
      cases hx : es[i]? with
      | none => rw [hx] at h; cases h
      | some x =>
        rw [hx] at h
        obtain ⟨x1, x2, x3⟩ := x
        cases h
        obtain ⟨e2, q1, _, q3, _⟩ := he.get hx
        have : e2 = e := by
          have : es'.toList[i]? = some e := by simpa using hi
          rw [q1] at this; cases this; rfl
        subst this
        exact .inr ⟨i, e2.val, rfl, mapVal_vr q3⟩

theorem lookupE_run {P : Program} {ρ : R} {h : H} {w : World} (hr : HR ρ h w) {t : TypeId} {x k v : AV} {x' k' : Value} {ok : Bool} (hx : VR ρ x x') (hk : VR ρ k k') (hl : lookupE P t x k ok h = some v) :
    Pur P (Instr.lookup t x' k' ok) ρ w v := by
  unfold lookupE at hl
  cases hu : P.underlying t with
  | none => rw [hu] at hl; cases hl
  | some d =>
    rw [hu] at hl
    cases d with
    | map kt et =>
      cases hc : conc0 k with
      | none => rw [hc] at hl; cases hl
      | some kv =>
        rw [hc] at hl
        obtain rfl := conc0_eq hc hk
        dsimp only at hl
        cases hx with
        | nilm =>
          dsimp only at hl
          obtain ⟨g1, b, g2, g3⟩ := lookupIn_run (P := P) (ρ := ρ) w (es' := #[]) .nil hl
          rcases g3 with ⟨rfl, z, hz1, hz2⟩ | ⟨i, u, rfl, hu2⟩
          · refine ⟨_, ?_, hz2⟩
            refine (step_ok (run_underlying hu w)).trans ?_
            refine (step_ok (a := #[]) (w1 := w) rfl).trans ?_
            refine (step_ok g1).trans ?_
            refine (step_ok g2).trans ?_
            refine (step_ok hz1).trans ?_
            rfl
          · refine ⟨_, ?_, hu2⟩
            refine (step_ok (run_underlying hu w)).trans ?_
            refine (step_ok (a := #[]) (w1 := w) rfl).trans ?_
            refine (step_ok g1).trans ?_
            refine (step_ok g2).trans ?_
            rfl
        | map id b y hy hyp =>
          dsimp only at hl
          cases hg : getObj id h with
          | none => rw [hg] at hl; cases hl
          | some o =>
            rw [hg] at hl
            cases o with
            | map es clock =>
              dsimp only at hl
              obtain ⟨n, born, o', e1, e2, e3, e4⟩ := hr.at hy hyp hg (fun e => by cases e)
              cases e4 with
              | map _ _ es' he =>
                have hgo : (Go.getObj b).run P w = .ok (.map es' clock) w := by simp [Go.getObj, Sem.run, e3]
                obtain ⟨g1, r, g2, g3⟩ := lookupIn_run (P := P) w he hl
                rcases g3 with ⟨rfl, z, hz1, hz2⟩ | ⟨i, u, rfl, hu2⟩
                · refine ⟨_, ?_, hz2⟩
                  refine (step_ok (run_underlying hu w)).trans ?_
                  refine (step_ok hgo).trans ?_
                  refine (step_ok g1).trans ?_
                  refine (step_ok g2).trans ?_
                  refine (step_ok hz1).trans ?_
                  rfl
                · refine ⟨_, ?_, hu2⟩
                  refine (step_ok (run_underlying hu w)).trans ?_
                  refine (step_ok hgo).trans ?_
                  refine (step_ok g1).trans ?_
                  refine (step_ok g2).trans ?_
                  rfl
            | _ => cases hl
        | _ => cases hl
    | _ => cases hl

theorem ER.set {ρ : R} {k : Value} {v : AV} {v' : Value} (hv : VR ρ v v') {es : List (Value × AV × Nat)} {es' : List MapEntry} (h : ER ρ es es') : ∀ (i : Nat),
    ER ρ (setAt es i k v) (es'.modify i fun e => { e with key := k, val := v' }) := by
  induction h with
  | nil => intro i; cases i <;> exact .nil
  | cons k0 v0 born v0' es es' hv0 h0 ih =>
    intro i
    cases i with
    | zero => simp only [setAt, List.modify_zero_cons]; exact .cons k v born v' es es' hv h0
    | succ i => simp only [setAt, List.modify_succ_cons]; exact .cons k0 v0 born v0' _ _ hv0 (ih i)

theorem ER.snoc {ρ : R} {k : Value} {v : AV} {v' : Value} {born : Nat} (hv : VR ρ v v') {es : List (Value × AV × Nat)} {es' : List MapEntry} (h : ER ρ es es') :
    ER ρ (es ++ [(k, v, born)]) (es' ++ [{ key := k, val := v', born := born }]) := by
  induction h with
  | nil => exact .cons k v born v' [] [] hv .nil
  | cons k0 v0 b0 v0' es es' hv0 _ ih => exact .cons k0 v0 b0 v0' _ _ hv0 ih

theorem updateE_run {P : Program} {ρ : R} {h h' : H} {w : World} (hr : HR ρ h w) {t : TypeId} {m k v : AV} {m' k' v' : Value} (hm : VR ρ m m') (hk : VR ρ k k') (hv : VR ρ v v') (hu0 : updateE P t m k v h = some h') :
    GoodU P (Instr.mapUpdate t m' k' v') ρ h w h' := by
  unfold updateE at hu0
  cases hu : P.underlying t with
  | none => rw [hu] at hu0; cases hu0
  | some d =>
    rw [hu] at hu0
    cases d with
    | map kt et =>
      cases hm with
      | map id b y hy hyp =>
        cases hc : conc0 k with
        | none => rw [hc] at hu0; cases hu0
        | some kv =>
          rw [hc] at hu0
          obtain rfl := conc0_eq hc hk
          dsimp only at hu0
          cases hg : getObj id h with
          | none => rw [hg] at hu0; cases hu0
          | some o =>
            rw [hg] at hu0
            cases o with
            | map es clock =>
              dsimp only at hu0
              obtain ⟨n, born, o', e1, e2, e3, e4⟩ := hr.at hy hyp hg (fun e => by cases e)
              cases e4 with
              | map _ _ es' he =>
                have hlt := (Array.getElem?_eq_some_iff.1 e3).1
                have hgo : (Go.getObj b).run P w = .ok (.map es' clock) w := by simp [Go.getObj, Sem.run, e3]
                have hso : ∀ o2, (Go.setObj b o2).run P w = .ok () { w with heap := w.heap.setIfInBounds b o2 } := fun o2 => by simp [Go.setObj, Sem.run, e3]
                have fin : ∀ (es2 : List (Value × AV × Nat)) (es2' : Array MapEntry) (clock2 : Nat) (h2 : H), ER ρ es2 es2'.toList → Ev.setObj id (.map es2 clock2) h = some h2 →
                    HR ρ h2 { w with heap := w.heap.setIfInBounds b (.map es2' clock2) } ∧ Ext ρ h w ρ h2 { w with heap := w.heap.setIfInBounds b (.map es2' clock2) } := by
                  intro es2 es2' clock2 h2 hes hs
                  refine hr.setObj (w' := { w with heap := w.heap.setIfInBounds b (.map es2' clock2) }) hs (hy.trans (by rw [e1])) e2 (fun m e => by cases e) (OR.map es2 clock2 es2' hes) (by simp) (by simp [hlt]) (fun j hj => by simp [Array.getElem?_setIfInBounds_ne (Ne.symm hj)]) rfl rfl (fun a => ?_)
                  by_cases ha : a.block = b
                  · have e3' : w.heap[b] = .map es' clock := (Array.getElem?_eq_some_iff.1 e3).2
                    simp [World.frozen?, ha, hlt, e3']
                  · simp [World.frozen?, Array.getElem?_setIfInBounds_ne (Ne.symm ha)]
                cases hup : updateIn P kt k' v es clock with
                | none => rw [hup] at hu0; cases hu0
                | some o2 =>
                  rw [hup] at hu0
                  unfold updateIn at hup
                  cases hf : findE P false kt k' es with
                  | none => rw [hf] at hup; cases hup
                  | some r =>
                    obtain ⟨g1, bb, g2, g3⟩ := findE_run (P := P) w he hf
                    rw [hf] at hup
                    rcases g3 with ⟨rfl, rfl⟩ | ⟨i, e, rfl, rfl, hi⟩
                    · cases hup
                      obtain ⟨a1, a2⟩ := fin (es ++ [(k', v, clock)]) (es'.push { key := k', val := v', born := clock }) (Nat.succ clock) h' (by rw [Array.toList_push]; exact he.snoc hv) hu0
                      refine ⟨_, ?_, a1, a2⟩
                      refine (step_ok (run_underlying hu w)).trans ?_
                      refine (step_ok hgo).trans ?_
                      refine (step_ok g1).trans ?_
                      refine (step_ok g2).trans ?_
                      exact hso _
                    · dsimp only at hup
                      cases hx : es[i]? with
                      | none => rw [hx] at hup; cases hup
                      | some x =>
                        rw [hx] at hup
                        obtain ⟨x1, x2, x3⟩ := x
                        dsimp only at hup
                        cases hsb : Instr.sameBits 10000 x1 k' with
                        | false => rw [hsb] at hup; cases hup
                        | true =>
                          rw [hsb] at hup
                          cases hup
                          obtain ⟨e2', q1, q2, _, _⟩ := he.get hx
                          have hee : e2' = e := by
                            have : es'.toList[i]? = some e := by simpa using hi
                            rw [q1] at this; cases this; rfl
                          subst hee
                          obtain ⟨a1, a2⟩ := fin (setAt es i k' v) (es'.modify i fun e => { e with key := k', val := v' }) clock h' (by rw [Array.toList_modify]; exact he.set hv i) hu0
                          have hks : (Instr.keyThatStays (((es'[i]?).map (·.key)).getD k') k').run P w = .ok k' w := by
                            rw [hi]
                            show (Instr.keyThatStays e2'.key k').run P w = _
                            unfold Instr.keyThatStays
                            dsimp only at q2
                            rw [q2, if_pos hsb]
                            rfl
                          refine ⟨_, ?_, a1, a2⟩
                          refine (step_ok (run_underlying hu w)).trans ?_
                          refine (step_ok hgo).trans ?_
                          refine (step_ok g1).trans ?_
                          refine (step_ok g2).trans ?_
                          refine (step_ok hks).trans ?_
                          exact hso _
            | _ => cases hu0
      | _ => cases hu0
    | _ => cases hu0

end Go.Ev
