/-
  THE EVALUATOR'S SOUNDNESS, 16c: operations that hand a value alone; what a bar says.
-/
import Derived.Test.YthaleckfgcgegaaEvS16b
namespace Go.Ev

/-- An operation hands a value, and the world stays. -/
def ValGood (P : Program) (s : Sem Next) (ρ : R) (w : World) (v : AV) : Prop := ∃ v', s.run P w = .ok (.value v') w ∧ VR ρ v v'

theorem Pur.val {P : Program} {s : Sem Value} {ρ : R} {w : World} {v : AV} (p : Pur P s ρ w v) : ValGood P (do pure (.value (← s))) ρ w v := by
  obtain ⟨v', h1, h2⟩ := p
  exact ⟨v', by rw [Sem.run_bind, h1]; rfl, h2⟩

theorem execE_val {P : Program} {ih : Evs} {ρ : R} {h h' : H} {w : World} {tm : M AV} {a : Act} {o : Oper} {v : AV} (ho : EvOk ρ tm a o.op.operands.toList) (ht : touches o.op = false)
    (he : execE P ih tm o.type o.op h = .ok v h') : ValGood P (execOp a.eval o) ρ w v := by
  obtain ⟨dst, op, ty, pos, after, guard⟩ := o
  dsimp only at he ho ht
  have e1 : ∀ x, x ∈ op.operands.toList → ∀ u, evT tm x = some u → VR ρ u (a.eval x) := ho
  cases op with
  | move x => obtain ⟨k, rfl⟩ := of_some he; exact ⟨a.eval x, rfl, e1 x (by simp [Op.operands]) v k⟩
  | assign x => obtain ⟨k, rfl⟩ := of_some he; exact ⟨a.eval x, rfl, e1 x (by simp [Op.operands]) v k⟩
  | pick c x y =>
    obtain ⟨k, rfl⟩ := of_some he
    unfold pickE at k
    cases hc : evT tm c with
    | none => rw [hc] at k; cases k
    | some cv =>
      rw [hc] at k
      dsimp only at k
      cases hb : asB cv with
      | none => rw [hb] at k; cases k
      | some t =>
        rw [hb] at k
        obtain rfl := asB_some hb
        have hcv := e1 c (by simp [Op.operands]) _ hc
        cases hac : a.eval c with
        | bool t' =>
          rw [hac] at hcv
          cases hcv
          cases t with
          | true => exact ⟨a.eval x, by simp [execOp, hac, asBool], e1 x (by simp [Op.operands]) v k⟩
          | false => exact ⟨a.eval y, by simp [execOp, hac, asBool], e1 y (by simp [Op.operands]) v k⟩
        | _ => rw [hac] at hcv; cases hcv
  | build t ps =>
    obtain ⟨k, rfl⟩ := of_some he
    unfold buildO at k
    cases hp : evParts tm ps.toList with
    | none => rw [hp] at k; cases k
    | some parts =>
      rw [hp] at k
      have hpl : PL ρ parts (ps.map fun p => (p.1, a.eval p.2)).toList := by
        rw [Array.toList_map]
        exact EvOk.parts (fun x hx => e1 x (by simpa [Op.operands] using hx)) hp
      exact (buildE_run (P := P) hpl k).val
  | nilCheck x =>
    obtain ⟨u, k1, k2⟩ := on1_some he
    obtain ⟨k, rfl⟩ := of_some k2
    have hu := e1 x (by simp [Op.operands]) u k1
    have hx : ∃ q, a.eval x = q := ⟨_, rfl⟩
    obtain ⟨q, hq⟩ := hx
    rw [hq] at hu
    cases hu with
    | ptr id off b y g1 g2 => cases k; exact ⟨_, by simp only [execOp, hq]; rfl, .ptr id off b y g1 g2⟩
    | fn f a1 c1 a2 c2 g1 g2 => cases k; exact ⟨_, by simp only [execOp, hq]; rfl, .fn f a1 c1 a2 c2 g1 g2⟩
    | yld id b y g1 g2 => cases k; exact ⟨_, by simp only [execOp, hq]; rfl, .yld id b y g1 g2⟩
    | _ => cases k
  | binOp op t x y yt =>
    obtain ⟨u, k1, k2⟩ := on1_some he
    obtain ⟨u2, k3, k4⟩ := on1_some k2
    obtain ⟨k, rfl⟩ := of_some k4
    exact (binE_run (P := P) (e1 x (by simp [Op.operands]) u k1) (e1 y (by simp [Op.operands]) u2 k3) k).val
  | unOp op t x =>
    obtain ⟨u, k1, k2⟩ := on1_some he
    obtain ⟨k, rfl⟩ := of_some k2
    unfold unE at k
    cases hc : conc1 u with
    | none => rw [hc] at k; cases k
    | some uv =>
      rw [hc] at k
      have hu := conc1_eq hc (e1 x (by simp [Op.operands]) u k1)
      have p : Pur P (Op.unary op (a.eval x)) ρ w v := by rw [hu]; exact pureVal_run k w
      exact p.val
  | convert s d x =>
    obtain ⟨u, k1, k2⟩ := on1_some he
    obtain ⟨k, rfl⟩ := of_some k2
    have hu := e1 x (by simp [Op.operands]) u k1
    cases u with
    | int ik m =>
      have hx : ∃ q, a.eval x = q := ⟨_, rfl⟩
      obtain ⟨q, hq⟩ := hx
      rw [hq] at hu
      cases hu
      unfold convE at k
      dsimp only at k
      cases hd : P.underlying d with
      | none => rw [hd] at k; cases k
      | some dd =>
        rw [hd] at k
        cases dd with
        | int kk =>
          have p : Pur P (convert s d (a.eval x)) ρ w v := by rw [hq]; exact pureVal_run k w
          exact p.val
        | _ => cases k
    | _ => cases k
  | makeFunc f first cap =>
    have he' : makeFuncE tm f first cap h = .ok v h' := he
    unfold makeFuncE at he'
    cases f with
    | func f =>
      dsimp only at he'
      cases h1 : evL tm first.toList with
      | none => rw [h1] at he'; cases he'
      | some l1 =>
        cases h2 : evL tm cap.toList with
        | none => rw [h1, h2] at he'; cases he'
        | some l2 =>
          rw [h1, h2] at he'
          cases he'
          have g1 : VL ρ l1 (first.map a.eval).toList := by
            rw [Array.toList_map]; exact EvOk.list (fun x hx => e1 x (by simp [Op.operands]; exact .inl (by simpa using hx))) h1
          have g2 : VL ρ l2 (cap.map a.eval).toList := by
            rw [Array.toList_map]; exact EvOk.list (fun x hx => e1 x (by simp [Op.operands]; exact .inr (by simpa using hx))) h2
          exact ⟨_, rfl, .fn f l1 l2 _ _ g1 g2⟩
    | _ => cases he'
  | slice t x lo hi mx =>
    obtain ⟨k, rfl⟩ := of_some he
    unfold slicesE at k
    cases h1 : evT tm x with
    | none => rw [h1] at k; cases k
    | some xv =>
      cases h2 : optNat tm lo with
      | none => rw [h1, h2] at k; cases k
      | some l2 =>
        cases h3 : optNat tm hi with
        | none => rw [h1, h2, h3] at k; cases k
        | some l3 =>
          cases h4 : optNat tm mx with
          | none => rw [h1, h2, h3, h4] at k; cases k
          | some l4 =>
            rw [h1, h2, h3, h4] at k
            have b2 := EvOk.opt (ρ := ρ) (a := a) (fun y hy => e1 y (by simp [Op.operands] at hy ⊢; simp [hy])) h2
            have b3 := EvOk.opt (ρ := ρ) (a := a) (fun y hy => e1 y (by simp [Op.operands] at hy ⊢; simp [hy])) h3
            have b4 := EvOk.opt (ρ := ρ) (a := a) (fun y hy => e1 y (by simp [Op.operands] at hy ⊢; simp [hy])) h4
            exact (sliceE_run (P := P) ((e1 x (by simp [Op.operands]) xv h1).reszT t) b2 b3 b4 k).val
  | fieldAddr s x f => obtain ⟨u, k1, k2⟩ := on1_some he; obtain ⟨k, rfl⟩ := of_some k2; exact (fieldAddrE_run (P := P) (e1 x (by simp [Op.operands]) u k1) k).val
  | field t x f => obtain ⟨u, k1, k2⟩ := on1_some he; obtain ⟨k, rfl⟩ := of_some k2; exact (fieldE_run (P := P) (e1 x (by simp [Op.operands]) u k1) k).val
  | indexAddr t x i =>
    obtain ⟨u, k1, k2⟩ := on1_some he
    obtain ⟨u2, k3, k4⟩ := on1_some k2
    obtain ⟨k, rfl⟩ := of_some k4
    exact (indexAddrE_run (P := P) (e1 x (by simp [Op.operands]) u k1) (e1 i (by simp [Op.operands]) u2 k3) k).val
  | index t x i =>
    obtain ⟨u, k1, k2⟩ := on1_some he
    obtain ⟨u2, k3, k4⟩ := on1_some k2
    obtain ⟨k, rfl⟩ := of_some k4
    exact (indexE_run (P := P) (e1 x (by simp [Op.operands]) u k1) (e1 i (by simp [Op.operands]) u2 k3) k).val
  | extract t i =>
    obtain ⟨u, k1, k2⟩ := on1_some he
    obtain ⟨k, rfl⟩ := of_some k2
    unfold extractE at k
    cases ht : asTup u with
    | none => rw [ht] at k; cases k
    | some vs =>
      rw [ht] at k
      dsimp only at k
      rw [lget_eq] at k
      obtain rfl := asTup_some ht
      have hu := e1 t (by simp [Op.operands]) _ k1
      obtain ⟨q, hq⟩ : ∃ q, a.eval t = q := ⟨_, rfl⟩
      rw [hq] at hu
      cases hu with
      | tup _ cs' hc =>
        obtain ⟨v', g1, g2⟩ := hc.get k
        have g1' : cs'[i]? = some v' := by simpa using g1
        have p : Pur P (Instr.extract (a.eval t) i) ρ w v := by rw [hq]; exact ⟨v', by simp [Instr.extract, g1'], g2⟩
        exact p.val
  | _ => cases ht

/-- Memory at one name is what a load asks. -/
theorem loadE_same {P : Program} {t : TypeId} {u : AV} {id : Pos} {off : Nat} (hp : asPtr u = some (id, off)) {h h2 : H} (hs : T.get id h.objs = T.get id h2.objs) : loadE P t u h = loadE P t u h2 := by
  have hg : getObj id h = getObj id h2 := by
    show (Option.rec (motive := fun _ => Option AO) none (fun bo : Nat × AO => some bo.2) (T.get id h.objs)) = (Option.rec (motive := fun _ => Option AO) none (fun bo : Nat × AO => some bo.2) (T.get id h2.objs))
    rw [hs]
  unfold loadE loadAgg load1 readCells
  rw [hp]
  dsimp only
  rw [hg]

theorem setObj_else {id : Pos} {o : AO} {h h' : H} (e : setObj id o h = some h') {j : Pos} (hj : j ≠ id) : T.get j h'.objs = T.get j h.objs := by
  obtain ⟨born, o0, hg, rfl⟩ := setObj_some e
  exact T.get_set_ne _ _ _ _ hj

theorem storeE_else {P : Program} {t : TypeId} {a v : AV} {h h' : H} (e : storeE P t a v h = some h') {id : Pos} {off : Nat} (hp : asPtr a = some (id, off)) {j : Pos} (hj : j ≠ id) : T.get j h'.objs = T.get j h.objs := by
  unfold storeE at e
  rw [hp] at e
  dsimp only at e
  unfold storeCs storeAll store1 writeCells cond at e
  repeat' (split at e)
  all_goals first | cases e; done | exact setObj_else e hj

theorem barrier_spec {ops : Array Oper} {b : Array Nat} {k : Nat} (h : barrier ops b k = true) {i : Nat} {oi : Oper} (hi : ops[i]? = some oi) (ht : touches oi.op = true) (hne : i ≠ k) : ordered b i k = true := by
  have h1 := zipIdx_all (l := ops.toList) h (i := i) (x := oi) (by simpa using hi)
  dsimp only at h1
  have h2 : Nat.beq i k = false := by
    cases hb : Nat.beq i k with
    | false => rfl
    | true => exact absurd (Nat.eq_of_beq_eq_true hb) hne
  rw [ht, h2] at h1
  simpa using h1

theorem softList_spec {ops : Array Oper} {b : Array Nat} {k : Nat} : ∀ {l : List (Oper × Nat)} {ts : List Tmp}, softList ops b k l = some ts → ∀ oi i, (oi, i) ∈ l → touches oi.op = true → i ≠ k →
    ordered b i k = true ∨ (i < k ∧ ∃ ty a, oi.op = .load ty (.tmp a) ∧ unwritten ops i a = true ∧ a ∈ ts)
  | [], _, _, _, _, hm, _, _ => by cases hm
  | (o, j) :: rest, ts, h, oi, i, hm, ht, hne => by
    unfold softList at h
    cases hr : softList ops b k rest with
    | none => rw [hr] at h; cases h
    | some l =>
      rw [hr] at h
      dsimp only at h
      have ih := softList_spec hr oi i
      cases hc : (!touches o.op || Nat.beq j k || ordered b j k) with
      | true =>
        rw [hc] at h
        cases h
        rcases List.mem_cons.1 hm with e | e
        · cases e
          have h2 : Nat.beq j k = false := by
            cases hb : Nat.beq j k with
            | false => rfl
            | true => exact absurd (Nat.eq_of_beq_eq_true hb) hne
          rw [ht, h2] at hc
          exact .inl (by simpa using hc)
        · exact ih e ht hne
      | false =>
        rw [hc] at h
        dsimp only [cond] at h
        split at h
        · rename_i ty a hop
          cases hq : (Nat.ble (Nat.succ j) k && unwritten ops j a) with
          | false => rw [hq] at h; cases h
          | true =>
            rw [hq] at h
            cases h
            rw [Bool.and_eq_true] at hq
            rcases List.mem_cons.1 hm with e | e
            · cases e
              exact .inr ⟨Nat.le_of_ble_eq_true hq.1, ty, a, hop, hq.2, List.mem_cons_self⟩
            · rcases ih e ht hne with h1 | ⟨h1, ty2, a2, h2, h3, h4⟩
              · exact .inl h1
              · exact .inr ⟨h1, ty2, a2, h2, h3, List.mem_cons_of_mem _ h4⟩
        · cases h

theorem apartFrom_spec {tm : M AV} {id : Pos} : ∀ {l : List Tmp}, apartFrom tm id l = true → ∀ a ∈ l, ∃ u id' off, tm.get a = some u ∧ asPtr u = some (id', off) ∧ id' ≠ id
  | [], _, _, hm => by cases hm
  | t :: ts, h, a, hm => by
    unfold apartFrom at h
    cases hg : tm.get t with
    | none => rw [hg] at h; cases h
    | some u =>
      rw [hg] at h
      dsimp only at h
      cases hp : asPtr u with
      | none => rw [hp] at h; cases h
      | some x =>
        obtain ⟨id', off⟩ := x
        rw [hp] at h
        dsimp only at h
        by_cases he : id' = id
        · rw [decide_eq_true he] at h; cases h
        · rw [decide_eq_false he] at h
          rcases List.mem_cons.1 hm with rfl | e
          · exact ⟨u, id', off, hg, hp, he⟩
          · exact apartFrom_spec h a e

theorem unwritten_spec {ops : Array Oper} {i : Nat} {a : Tmp} (h : unwritten ops i a = true) {k : Nat} {o : Oper} (hk : ops[k]? = some o) (hik : i ≤ k) : o.dst ≠ some a := by
  have h1 := zipIdx_all (l := ops.toList) h (i := k) (x := o) (by simpa using hk)
  dsimp only at h1
  rw [Nat.ble_eq_true_of_le hik] at h1
  intro e
  rw [e] at h1
  have : sameDst (some a) (some a) = true := Nat.beq_refl a
  rw [this] at h1
  cases h1

/-- The block that a store or an append writes. -/
def Hits (tm : M AV) (op : Op) (id : Pos) : Prop :=
  (∃ t x y v off, op = .store t x y ∧ evT tm x = some v ∧ asPtr v = some (id, off)) ∨ ∃ c x off len cap esz, op = .call c ∧ c.callee = .builtin .append ∧ evL tm c.args.toList = some [.sl id off len cap esz, x]

/-- What a bar says of the other operations that touch memory. -/
theorem bar_spec {ops : Array Oper} {b : Array Nat} {k : Nat} {ok : Oper} {tm : M AV} (h : barOk (barOf ops b ok k) tm ok.op = true) {i : Nat} {oi : Oper} (hi : ops[i]? = some oi) (ht : touches oi.op = true) (hne : i ≠ k) :
    ordered b i k = true ∨ (i < k ∧ ∃ ty a, oi.op = .load ty (.tmp a) ∧ unwritten ops i a = true ∧ ∃ id u id' off', Hits tm ok.op id ∧ tm.get a = some u ∧ asPtr u = some (id', off') ∧ id' ≠ id) := by
  unfold barOf at h
  cases hb : barrier ops b k with
  | true => exact .inl (barrier_spec hb hi ht hne)
  | false =>
    rw [hb] at h
    dsimp only [cond] at h
    split at h
    · rename_i t x y hop
      split at h
      · rename_i l hl
        rcases softList_spec hl oi i (by rw [List.mk_mem_zipIdx_iff_getElem?]; simpa using hi) ht hne with h1 | ⟨h1, ty, a, h2, h3, h4⟩
        · exact .inl h1
        · refine .inr ⟨h1, ty, a, h2, h3, ?_⟩
          unfold barOk at h
          rw [hop] at h
          dsimp only at h
          cases hv : evT tm x with
          | none => rw [hv] at h; cases h
          | some v =>
            rw [hv] at h
            dsimp only at h
            cases hp : asPtr v with
            | none => rw [hp] at h; cases h
            | some p =>
              obtain ⟨id, off⟩ := p
              rw [hp] at h
              obtain ⟨u, id', off', g1, g2, g3⟩ := apartFrom_spec h a h4
              exact ⟨id, u, id', off', .inl ⟨t, x, y, v, off, hop, hv, hp⟩, g1, g2, g3⟩
      · cases h
    · rename_i c hop
      split at h
      · rename_i hcal
        split at h
        · rename_i l hl
          rcases softList_spec hl oi i (by rw [List.mk_mem_zipIdx_iff_getElem?]; simpa using hi) ht hne with h1 | ⟨h1, ty, a, h2, h3, h4⟩
          · exact .inl h1
          · refine .inr ⟨h1, ty, a, h2, h3, ?_⟩
            unfold barOk at h
            rw [hop] at h
            dsimp only at h
            rw [hcal] at h
            dsimp only at h
            split at h
            · rename_i id off len cap esz x hargs
              obtain ⟨u, id', off', g1, g2, g3⟩ := apartFrom_spec h a h4
              exact ⟨id, u, id', off', .inr ⟨c, x, off, len, cap, esz, hop, hcal, hargs⟩, g1, g2, g3⟩
            · cases h
        · cases h
      · cases h
    · cases h

theorem newObj_else {o : AO} {h h' : H} {id : Pos} (e : newObj o h = some (id, h')) {j : Pos} {p : Nat × AO} (hp : T.get j h.objs = some p) : T.get j h'.objs = some p := by
  obtain ⟨rfl, hn, rfl⟩ := newObj_some e
  have hne : j ≠ h.next := fun e2 => by subst e2; rw [hn] at hp; cases hp
  show T.get j (T.set _ h.next h.objs) = some p
  rw [T.get_set_ne _ _ _ _ hne]; exact hp
theorem growE_else {P : Program} {e need size : Nat} {cs : List AV} {h h' : H} {v : AV} (g : growE P e need size cs h = .ok v h') {j : Pos} {p : Nat × AO} (hp : T.get j h.objs = some p) : T.get j h'.objs = some p := by
  unfold growE cond at g
  repeat' (split at g)
  all_goals first
    | (cases g; done)
    | (rename_i hn; cases g; exact newObj_else hn hp)
theorem writeCells_else {id : Pos} {off : Nat} {vs : List AV} {h h' : H} (e : writeCells id off vs h = some h') {j : Pos} (hj : j ≠ id) : T.get j h'.objs = T.get j h.objs := by
  unfold writeCells cond at e
  repeat' (split at e)
  all_goals first | (cases e; done) | exact setObj_else e hj
theorem appendSome_else {P : Program} {e size n : Nat} {new : List AV} {id : Pos} {off len esz : Nat} {cap : Option Nat} {h h' : H} {v : AV} (g : appendSome P e size n new (.sl id off len cap esz) h = .ok v h') {j : Pos} (hj : j ≠ id) {p : Nat × AO} (hp : T.get j h.objs = some p) : T.get j h'.objs = some p := by
  cases cap with
  | some c =>
    unfold appendSome cond at g
    dsimp only at g
    split at g
    · split at g
      · split at g
        · rename_i hw
          rw [forceNat_eq] at g
          cases g
          rw [writeCells_else hw hj]; exact hp
        · cases g
      · split at g
        · rw [forceNat_eq] at g
          exact growE_else g hp
        · cases g
    · cases g
  | none =>
    unfold appendSome cond at g
    dsimp only at g
    repeat' (split at g)
    all_goals first
      | (cases g; done)
      | (rename_i hs; rw [forceNat_eq] at g; refine growE_else g ?_; rw [setObj_else hs hj]; exact hp)
theorem appendE_else {P : Program} {t : TypeId} {x : AV} {id : Pos} {off len esz : Nat} {cap : Option Nat} {h h' : H} {v : AV} (g : appendE P t (.sl id off len cap esz) x h = .ok v h') {j : Pos} (hj : j ≠ id) {p : Nat × AO} (hp : T.get j h.objs = some p) : T.get j h'.objs = some p := by
  unfold appendE cond at g
  repeat' (split at g)
  all_goals first
    | (cases g; done)
    | exact appendSome_else g hj hp
    | (cases g; exact hp)
theorem resz_sl {P : Program} {t : TypeId} {id : Pos} {off len esz : Nat} {cap : Option Nat} : ∃ e2, reszT P t (.sl id off len cap esz) = .sl id off len cap e2 := by
  unfold reszT
  cases P.underlying t with
  | none => exact ⟨_, rfl⟩
  | some d => cases d with
    | slice e =>
      dsimp only
      cases sizeE P e with
      | none => exact ⟨_, rfl⟩
      | some n => cases cap <;> exact ⟨_, rfl⟩
    | _ => exact ⟨_, rfl⟩
/-- What a store or an append does not write stays. -/
theorem hits_else {P : Program} {ih : Evs} {tm : M AV} {ty : TypeId} {op : Op} {id : Pos} (hh : Hits tm op id) {h h' : H} {v : AV} (hx : execE P ih tm ty op h = .ok v h') {j : Pos} (hj : j ≠ id) {p : Nat × AO} (hp : T.get j h.objs = some p) : T.get j h'.objs = some p := by
  rcases hh with ⟨t, x, y, av, off, rfl, g2, g3⟩ | ⟨c, x, off, len, cap, esz, rfl, hcal, hargs⟩
  · obtain ⟨u1, e1, e2⟩ := on1_some hx
    rw [g2] at e1
    cases e1
    obtain ⟨u2, e3, e4⟩ := on1_some e2
    obtain ⟨e5, _⟩ := done_some e4
    rw [storeE_else e5 g3 hj]; exact hp
  · have hx' : callE P ih tm ty c h = .ok v h' := hx
    unfold callE at hx'
    rw [hargs] at hx'
    dsimp only at hx'
    rw [hcal] at hx'
    dsimp only at hx'
    generalize c.argTypes.toList = ats at hx'
    match ats, hx' with
    | [], hx' => cases hx'
    | [_], hx' => cases hx'
    | [t, u], hx' =>
      have q : (bif notInt P u then appendE P t (reszT P t (.sl id off len cap esz)) (reszT P t x) h else .no) = .ok v h' := hx'
      obtain ⟨e2, he⟩ := resz_sl (P := P) (t := t) (id := id) (off := off) (len := len) (esz := esz) (cap := cap)
      rw [he] at q
      cases hn : notInt P u with
      | false => rw [hn] at q; cases q
      | true => rw [hn] at q; exact appendE_else q hj hp
    | _ :: _ :: _ :: _, hx' => cases hx'

end Go.Ev
