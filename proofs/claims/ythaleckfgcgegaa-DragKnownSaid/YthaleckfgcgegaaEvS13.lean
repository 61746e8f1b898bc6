/-
  THE EVALUATOR'S SOUNDNESS, 13: one operation.
-/
import Derived.Test.YthaleckfgcgegaaEvS12
namespace Go.Ev

/-- What operands stand for. -/
def EvOk (ρ : R) (tm : M AV) (a : Act) (xs : List Operand) : Prop := ∀ x ∈ xs, ∀ v, evT tm x = some v → VR ρ v (a.eval x)

theorem EvOk.mono {ρ : R} {tm : M AV} {a : Act} {xs ys : List Operand} (h : EvOk ρ tm a ys) (hs : ∀ x ∈ xs, x ∈ ys) : EvOk ρ tm a xs := fun x hx => h x (hs x hx)

theorem EvOk.all {ρ : R} {n : Nat} {tm : M AV} {a : Act} (hg : GR ρ) (ht : TR ρ n tm a.tmps) (xs : List Operand) : EvOk ρ tm a xs := fun _ _ _ h => evT_vr hg ht h

theorem EvOk.list {ρ : R} {tm : M AV} {a : Act} : ∀ {xs : List Operand} {vs : List AV}, EvOk ρ tm a xs → evL tm xs = some vs → VL ρ vs (xs.map a.eval)
  | [], vs, _, h => by cases h; exact .nil
  | x :: xs, vs, ho, h => by
    unfold evL at h
    cases h1 : evT tm x with
    | none => rw [h1] at h; cases h
    | some v =>
      cases h2 : evL tm xs with
      | none => rw [h1, h2] at h; cases h
      | some us => rw [h1, h2] at h; cases h; exact .cons _ _ _ _ (ho x (by simp) v h1) ((ho.mono fun y hy => by simp [hy]).list h2)

theorem EvOk.parts {ρ : R} {tm : M AV} {a : Act} : ∀ {ps : List (Nat × Operand)} {qs : List (Nat × AV)}, EvOk ρ tm a (ps.map (·.2)) → evParts tm ps = some qs → PL ρ qs (ps.map fun p => (p.1, a.eval p.2))
  | [], qs, _, h => by cases h; exact .nil
  | (i, x) :: ps, qs, ho, h => by
    unfold evParts at h
    cases h1 : evT tm x with
    | none => rw [h1] at h; cases h
    | some v =>
      cases h2 : evParts tm ps with
      | none => rw [h1, h2] at h; cases h
      | some us => rw [h1, h2] at h; cases h; exact .cons _ _ _ _ _ (ho x (by simp) v h1) ((ho.mono fun y hy => by simp at hy ⊢; exact .inr hy).parts h2)

theorem EvOk.opt {ρ : R} {tm : M AV} {a : Act} {x : Option Operand} {k : Option Nat} (ho : EvOk ρ tm a x.toList) (h : optNat tm x = some k) : BR k (x.map a.eval) := by
  unfold optNat at h
  cases x with
  | none => cases h; exact .inl ⟨rfl, rfl⟩
  | some o =>
    dsimp only at h
    cases h1 : evT tm o with
    | none => rw [h1] at h; cases h
    | some v =>
      rw [h1] at h
      dsimp only at h
      cases h2 : toNatE v with
      | none => rw [h2] at h; cases h
      | some j =>
        rw [h2] at h
        cases h
        obtain ⟨ik, rfl⟩ := toNatE_some h2
        have := ho o (by simp) _ h1
        cases hev : a.eval o with
        | int k' m' => rw [hev] at this; cases this; exact .inr ⟨j, ik, rfl, by simp [hev]⟩
        | _ => rw [hev] at this; cases this

/-- What an operation that is no call of a function comes to. -/
def OpGood (P : Program) (s : Sem Next) (ρ : R) (h : H) (w : World) (v : AV) (h' : H) : Prop :=
  ∃ ρ' v' w', (s.run P w = .ok (.value v') w' ∨ (s.run P w = .ok .skip w' ∧ v' = undef)) ∧ VR ρ' v v' ∧ HR ρ' h' w' ∧ Ext ρ h w ρ' h' w'

theorem Good.op {P : Program} {s : Sem Value} {ρ : R} {h h' : H} {w : World} {v : AV} (g : Good P s ρ h w v h') : OpGood P (do pure (.value (← s))) ρ h w v h' := by
  obtain ⟨ρ', v', w', e1, e2⟩ := g
  exact ⟨ρ', v', w', .inl (by simp [e1]), e2⟩

theorem GoodU.op {P : Program} {s : Sem Unit} {ρ : R} {h h' : H} {w : World} (g : GoodU P s ρ h w h') : OpGood P (do s; pure .skip) ρ h w (.tup []) h' := by
  obtain ⟨w', e1, e2, e3⟩ := g
  exact ⟨ρ, undef, w', .inr ⟨by simp [e1], rfl⟩, .tup [] #[] .nil, e2, e3⟩

theorem Pur.op {P : Program} {s : Sem Value} {ρ : R} {h : H} {w : World} {v : AV} (p : Pur P s ρ w v) (hr : HR ρ h w) : OpGood P (do pure (.value (← s))) ρ h w v h := (p.good hr).op

theorem of_some {o : Option AV} {h h' : H} {v : AV} (e : RV.of o h = .ok v h') : o = some v ∧ h' = h := by
  cases o with
  | none => cases e
  | some u => cases e; exact ⟨rfl, rfl⟩
theorem done_some {o : Option H} {h' : H} {v : AV} (e : RV.done o = .ok v h') : o = some h' ∧ v = .tup [] := by
  cases o with
  | none => cases e
  | some u => cases e; exact ⟨rfl, rfl⟩
theorem on1_some {o : Option AV} {f : AV → RV} {h' : H} {v : AV} (e : on1 o f = .ok v h') : ∃ u, o = some u ∧ f u = .ok v h' := by
  cases o with
  | none => cases e
  | some u => exact ⟨u, rfl, e⟩

theorem newMap_run {P : Program} {ρ : R} {h h' : H} {w : World} (hr : HR ρ h w) {v : AV} (hn : newMap h = .ok v h') : Good P (do pure (.map (some (← Go.newObj (.map #[] 0))))) ρ h w v h' := by
  unfold newMap at hn
  cases hc : Ev.newObj (.map [] 0) h with
  | none => rw [hc] at hn; cases hn
  | some ih =>
    obtain ⟨id, h2⟩ := ih
    rw [hc] at hn
    cases hn
    obtain ⟨_, h3, h4⟩ := hr.newObj hc (OR.map [] 0 #[] .nil) (fun i => by simp [World.frozen?])
    exact ⟨_, .map (some w.heap.size), _, by simp, .map id _ _ (show _ = some (some (w.heap.size, 0)) by simp [R.new]) (fun c n e => by cases e; rfl), h3, h4⟩

theorem toList_two {α : Type} {a : Array α} {x y : α} (h : a.toList = [x, y]) : a = #[x, y] := by cases a; simp at h; subst h; rfl
theorem toList_one {α : Type} {a : Array α} {x : α} (h : a.toList = [x]) : a = #[x] := by cases a; simp at h; subst h; rfl

theorem builtinE_run {P : Program} {ρ : R} {h h' : H} {w : World} (hr : HR ρ h w) {b : Builtin} {ats : Array TypeId} {ty : TypeId} {consts : Array Bool} {args : List AV} {args' : Array Value} {v : AV} (ha : VL ρ args args'.toList)
    (hb : builtinE P b ats.toList ty args h = .ok v h') : OpGood P (Go.builtin b ats ty consts args') ρ h w v h' := by
  unfold builtinE at hb
  split at hb
  · rename_i t x ht
    obtain rfl := toList_one ht
    obtain ⟨e1, rfl⟩ := of_some hb
    cases h2 : args'.toList with
    | nil => rw [h2] at ha; cases ha
    | cons x' l =>
      rw [h2] at ha
      cases ha with
      | cons _ _ _ _ hx hl =>
        cases hl
        obtain rfl := toList_one h2
        exact (lenE_run (P := P) hr hx e1).op hr
  · rename_i t u s x ht
    obtain rfl := toList_two ht
    cases hn : notInt P u with
    | false => rw [hn] at hb; cases hb
    | true =>
      rw [hn] at hb
      cases h2 : args'.toList with
      | nil => rw [h2] at ha; cases ha
      | cons s' l =>
        rw [h2] at ha
        cases ha with
        | cons _ _ _ _ hs hl =>
          cases hl with
          | cons _ _ x' _ hx hl =>
            cases hl
            obtain rfl := toList_two h2
            exact (appendE_run (P := P) hr hn (hs.reszT t) (hx.reszT t) (show appendE P t (reszT P t s) (reszT P t x) h = .ok v h' from hb)).op
  · rename_i t u d x ht
    obtain rfl := toList_two ht
    cases h2 : args'.toList with
    | nil => rw [h2] at ha; cases ha
    | cons s' l =>
      rw [h2] at ha
      cases ha with
      | cons _ _ _ _ hs hl =>
        cases hl with
        | cons _ _ x' _ hx hl =>
          cases hl
          obtain rfl := toList_two h2
          exact (copyE_run (P := P) hr hs (hx.reszT t) hb).op
  · rename_i t x ht
    obtain rfl := toList_one ht
    cases h2 : args'.toList with
    | nil => rw [h2] at ha; cases ha
    | cons x' l =>
      rw [h2] at ha
      cases ha with
      | cons _ _ _ _ hx hl =>
        cases hl
        obtain rfl := toList_one h2
        exact (clearE_run (P := P) hr hx hb).op
  · rename_i args b2 ats2 args2
    cases hc : concL args with
    | none => rw [hc] at hb; cases hb
    | some vs =>
      rw [hc] at hb
      obtain ⟨e1, rfl⟩ := of_some hb
      have e2 := concL_eq hc ha
      have e3 : args' = vs.toArray := by cases args'; simp at e2; simp [e2]
      subst e3
      have : (ats.toList.toArray) = ats := by simp
      rw [this] at e1
      have p : Pur P (Builtin.min_ ats ty vs.toArray) ρ w v := pureVal_run e1 w
      exact p.op hr
  · rename_i args b2 ats2 args2
    cases hc : concL args with
    | none => rw [hc] at hb; cases hb
    | some vs =>
      rw [hc] at hb
      obtain ⟨e1, rfl⟩ := of_some hb
      have e2 := concL_eq hc ha
      have e3 : args' = vs.toArray := by cases args'; simp at e2; simp [e2]
      subst e3
      have : (ats.toList.toArray) = ats := by simp
      rw [this] at e1
      have p : Pur P (Builtin.max_ ats ty vs.toArray) ρ w v := pureVal_run e1 w
      exact p.op hr
  · cases hb

/-- An operation that is no call. -/
theorem execE_plain {P : Program} {ih : Evs} {ρ : R} {h h' : H} {w : World} {tm : M AV} {a : Act} {o : Oper} {v : AV} (hr : HR ρ h w) (ho : EvOk ρ tm a o.op.operands.toList) (hnc : ∀ c, o.op ≠ .call c)
    (he : execE P ih tm o.type o.op h = .ok v h') : OpGood P (execOp a.eval o) ρ h w v h' := by
  obtain ⟨dst, op, ty, pos, after, guard⟩ := o
  dsimp only at he ho hnc
  have e1 : ∀ x, x ∈ op.operands.toList → ∀ u, evT tm x = some u → VR ρ u (a.eval x) := ho
  cases op with
  | move x => obtain ⟨k, rfl⟩ := of_some he; exact ⟨ρ, a.eval x, w, .inl rfl, e1 x (by simp [Op.operands]) v k, hr, .refl⟩
  | assign x => obtain ⟨k, rfl⟩ := of_some he; exact ⟨ρ, a.eval x, w, .inl rfl, e1 x (by simp [Op.operands]) v k, hr, .refl⟩
  | pick c x y =>
    obtain ⟨k, rfl⟩ := of_some he
    unfold pickE at k
    cases hc : evT tm c with
    | none => rw [hc] at k; cases k
    | some cv =>
      rw [hc] at k
      dsimp only at k
      cases hb : asB cv with
      | none => rw [hb] at k; cases k
      | some t =>
        rw [hb] at k
        obtain rfl := asB_some hb
        have hcv := e1 c (by simp [Op.operands]) _ hc
        cases hac : a.eval c with
        | bool t' =>
          rw [hac] at hcv
          cases hcv
          cases t with
          | true => exact ⟨ρ, a.eval x, w, .inl (by simp [execOp, hac, asBool]), e1 x (by simp [Op.operands]) v k, hr, .refl⟩
          | false => exact ⟨ρ, a.eval y, w, .inl (by simp [execOp, hac, asBool]), e1 y (by simp [Op.operands]) v k, hr, .refl⟩
        | _ => rw [hac] at hcv; cases hcv
  | alloc e => exact (allocE_run (P := P) hr he).op
  | box e x => obtain ⟨u, k1, k2⟩ := on1_some he; exact (boxE_run (P := P) hr (e1 x (by simp [Op.operands]) u k1) k2).op
  | build t ps =>
    obtain ⟨k, rfl⟩ := of_some he
    unfold buildO at k
    cases hp : evParts tm ps.toList with
    | none => rw [hp] at k; cases k
    | some parts =>
      rw [hp] at k
      have hpl : PL ρ parts (ps.map fun p => (p.1, a.eval p.2)).toList := by
        rw [Array.toList_map]
        exact EvOk.parts (fun x hx => e1 x (by simpa [Op.operands] using hx)) hp
      exact (buildE_run (P := P) hpl k).op hr
  | buildSlice t n ps =>
    have he' : buildSliceO P tm t n ps h = .ok v h' := he
    unfold buildSliceO at he'
    cases hp : evParts tm ps.toList with
    | none => rw [hp] at he'; cases he'
    | some parts =>
      rw [hp] at he'
      have hpl : PL ρ parts (ps.map fun p => (p.1, a.eval p.2)).toList := by
        rw [Array.toList_map]
        exact EvOk.parts (fun x hx => e1 x (by simpa [Op.operands] using hx)) hp
      exact (buildSliceE_run (P := P) hr hpl he').op
  | load t x => obtain ⟨u, k1, k2⟩ := on1_some he; obtain ⟨k, rfl⟩ := of_some k2; exact (loadE_run (P := P) hr (e1 x (by simp [Op.operands]) u k1) k).op hr
  | store t x y =>
    obtain ⟨u, k1, k2⟩ := on1_some he
    obtain ⟨u2, k3, k4⟩ := on1_some k2
    obtain ⟨k, rfl⟩ := done_some k4
    exact (storeE_run (P := P) hr (e1 x (by simp [Op.operands]) u k1) (e1 y (by simp [Op.operands]) u2 k3) k).op
  | nilCheck x =>
    obtain ⟨u, k1, k2⟩ := on1_some he
    obtain ⟨k, rfl⟩ := of_some k2
    have hu := e1 x (by simp [Op.operands]) u k1
    have hx : ∃ q, a.eval x = q := ⟨_, rfl⟩
    obtain ⟨q, hq⟩ := hx
    rw [hq] at hu
    cases hu with
    | ptr id off b y g1 g2 => cases k; exact ⟨ρ, _, w, .inl (by simp only [execOp, hq]; rfl), .ptr id off b y g1 g2, hr, .refl⟩
    | fn f a1 c1 a2 c2 g1 g2 => cases k; exact ⟨ρ, _, w, .inl (by simp only [execOp, hq]; rfl), .fn f a1 c1 a2 c2 g1 g2, hr, .refl⟩
    | yld id b y g1 g2 => cases k; exact ⟨ρ, _, w, .inl (by simp only [execOp, hq]; rfl), .yld id b y g1 g2, hr, .refl⟩
    | _ => cases k
  | binOp op t x y yt =>
    obtain ⟨u, k1, k2⟩ := on1_some he
    obtain ⟨u2, k3, k4⟩ := on1_some k2
    obtain ⟨k, rfl⟩ := of_some k4
    exact (binE_run (P := P) (e1 x (by simp [Op.operands]) u k1) (e1 y (by simp [Op.operands]) u2 k3) k).op hr
  | unOp op t x =>
    obtain ⟨u, k1, k2⟩ := on1_some he
    obtain ⟨k, rfl⟩ := of_some k2
    unfold unE at k
    cases hc : conc1 u with
    | none => rw [hc] at k; cases k
    | some uv =>
      rw [hc] at k
      have hu := conc1_eq hc (e1 x (by simp [Op.operands]) u k1)
      have p : Pur P (Op.unary op (a.eval x)) ρ w v := by rw [hu]; exact pureVal_run k w
      exact p.op hr
  | convert s d x =>
    obtain ⟨u, k1, k2⟩ := on1_some he
    obtain ⟨k, rfl⟩ := of_some k2
    have hu := e1 x (by simp [Op.operands]) u k1
    cases u with
    | int ik m =>
      have hx : ∃ q, a.eval x = q := ⟨_, rfl⟩
      obtain ⟨q, hq⟩ := hx
      rw [hq] at hu
      cases hu
      unfold convE at k
      dsimp only at k
      cases hd : P.underlying d with
      | none => rw [hd] at k; cases k
      | some dd =>
        rw [hd] at k
        cases dd with
        | int kk =>
          have p : Pur P (convert s d (a.eval x)) ρ w v := by rw [hq]; exact pureVal_run k w
          exact p.op hr
        | _ => cases k
    | _ => cases k
  | makeFunc f first cap =>
    have he' : makeFuncE tm f first cap h = .ok v h' := he
    unfold makeFuncE at he'
    cases f with
    | func f =>
      dsimp only at he'
      cases h1 : evL tm first.toList with
      | none => rw [h1] at he'; cases he'
      | some l1 =>
        cases h2 : evL tm cap.toList with
        | none => rw [h1, h2] at he'; cases he'
        | some l2 =>
          rw [h1, h2] at he'
          cases he'
          have g1 : VL ρ l1 (first.map a.eval).toList := by
            rw [Array.toList_map]; exact EvOk.list (fun x hx => e1 x (by simp [Op.operands]; exact .inl (by simpa using hx))) h1
          have g2 : VL ρ l2 (cap.map a.eval).toList := by
            rw [Array.toList_map]; exact EvOk.list (fun x hx => e1 x (by simp [Op.operands]; exact .inr (by simpa using hx))) h2
          exact ⟨ρ, _, w, .inl rfl, .fn f l1 l2 _ _ g1 g2, hr, .refl⟩
    | _ => cases he'
  | makeMap t r =>
    have he' : makeMapE P tm t r h = .ok v h' := he
    unfold makeMapE at he'
    cases r with
    | none =>
      dsimp only at he'
      obtain ⟨ρ', v', w', g1, g2⟩ := newMap_run (P := P) hr he'
      exact Good.op (s := Instr.makeMap t none) ⟨ρ', v', w', by simpa [Instr.makeMap] using g1, g2⟩
    | some x =>
      dsimp only at he'
      cases hu : P.underlying t with
      | none => rw [hu] at he'; cases he'
      | some d =>
        cases hx : evT tm x with
        | none => rw [hu, hx] at he'; cases d <;> cases he'
        | some u =>
          rw [hu, hx] at he'
          have hxv := e1 x (by simp [Op.operands]) u hx
          cases d with
          | map kt et =>
            cases u with
            | int ik m =>
              dsimp only at he'
              obtain ⟨q, hq⟩ : ∃ q, a.eval x = q := ⟨_, rfl⟩
              rw [hq] at hxv
              cases hxv
              obtain ⟨ρ', v', w', g1, g2⟩ := newMap_run (P := P) hr he'
              refine Good.op (s := Instr.makeMap t (some (a.eval x))) ⟨ρ', v', w', ?_, g2⟩
              rw [hq]
              simp only [Instr.makeMap, Sem.run_bind, run_underlying hu, Result.andThen_ok, asInt, asIntOf, Sem.run_pure] at g1 ⊢
              exact g1
            | _ => cases he'
          | _ => cases he'
  | makeSlice t l c =>
    obtain ⟨u, k1, k2⟩ := on1_some he
    obtain ⟨u2, k3, k4⟩ := on1_some k2
    exact (makeSliceE_run (P := P) hr (e1 l (by simp [Op.operands]) u k1) (e1 c (by simp [Op.operands]) u2 k3) k4).op
  | slice t x lo hi mx =>
    obtain ⟨k, rfl⟩ := of_some he
    unfold slicesE at k
    cases h1 : evT tm x with
    | none => rw [h1] at k; cases k
    | some xv =>
      cases h2 : optNat tm lo with
      | none => rw [h1, h2] at k; cases k
      | some l2 =>
        cases h3 : optNat tm hi with
        | none => rw [h1, h2, h3] at k; cases k
        | some l3 =>
          cases h4 : optNat tm mx with
          | none => rw [h1, h2, h3, h4] at k; cases k
          | some l4 =>
            rw [h1, h2, h3, h4] at k
            have b2 := EvOk.opt (ρ := ρ) (a := a) (fun y hy => e1 y (by simp [Op.operands] at hy ⊢; simp [hy])) h2
            have b3 := EvOk.opt (ρ := ρ) (a := a) (fun y hy => e1 y (by simp [Op.operands] at hy ⊢; simp [hy])) h3
            have b4 := EvOk.opt (ρ := ρ) (a := a) (fun y hy => e1 y (by simp [Op.operands] at hy ⊢; simp [hy])) h4
            exact (sliceE_run (P := P) ((e1 x (by simp [Op.operands]) xv h1).reszT t) b2 b3 b4 k).op hr
  | fieldAddr s x f => obtain ⟨u, k1, k2⟩ := on1_some he; obtain ⟨k, rfl⟩ := of_some k2; exact (fieldAddrE_run (P := P) (e1 x (by simp [Op.operands]) u k1) k).op hr
  | field t x f => obtain ⟨u, k1, k2⟩ := on1_some he; obtain ⟨k, rfl⟩ := of_some k2; exact (fieldE_run (P := P) (e1 x (by simp [Op.operands]) u k1) k).op hr
  | indexAddr t x i =>
    obtain ⟨u, k1, k2⟩ := on1_some he
    obtain ⟨u2, k3, k4⟩ := on1_some k2
    obtain ⟨k, rfl⟩ := of_some k4
    exact (indexAddrE_run (P := P) (e1 x (by simp [Op.operands]) u k1) (e1 i (by simp [Op.operands]) u2 k3) k).op hr
  | index t x i =>
    obtain ⟨u, k1, k2⟩ := on1_some he
    obtain ⟨u2, k3, k4⟩ := on1_some k2
    obtain ⟨k, rfl⟩ := of_some k4
    exact (indexE_run (P := P) (e1 x (by simp [Op.operands]) u k1) (e1 i (by simp [Op.operands]) u2 k3) k).op hr
  | lookup t x k ok =>
    obtain ⟨u, k1, k2⟩ := on1_some he
    obtain ⟨u2, k3, k4⟩ := on1_some k2
    obtain ⟨kk, rfl⟩ := of_some k4
    exact (lookupE_run (P := P) hr (e1 x (by simp [Op.operands]) u k1) (e1 k (by simp [Op.operands]) u2 k3) kk).op hr
  | mapUpdate t m k x =>
    obtain ⟨u, k1, k2⟩ := on1_some he
    obtain ⟨u2, k3, k4⟩ := on1_some k2
    obtain ⟨u3, k5, k6⟩ := on1_some k4
    obtain ⟨kk, rfl⟩ := done_some k6
    exact (updateE_run (P := P) hr (e1 m (by simp [Op.operands]) u k1) (e1 k (by simp [Op.operands]) u2 k3) (e1 x (by simp [Op.operands]) u3 k5) kk).op
  | extract t i =>
    obtain ⟨u, k1, k2⟩ := on1_some he
    obtain ⟨k, rfl⟩ := of_some k2
    unfold extractE at k
    cases ht : asTup u with
    | none => rw [ht] at k; cases k
    | some vs =>
      rw [ht] at k
      dsimp only at k
      rw [lget_eq] at k
      obtain rfl := asTup_some ht
      have hu := e1 t (by simp [Op.operands]) _ k1
      obtain ⟨q, hq⟩ : ∃ q, a.eval t = q := ⟨_, rfl⟩
      rw [hq] at hu
      cases hu with
      | tup _ cs' hc =>
        obtain ⟨v', g1, g2⟩ := hc.get k
        have g1' : cs'[i]? = some v' := by simpa using g1
        have p : Pur P (Instr.extract (a.eval t) i) ρ w v := by rw [hq]; exact ⟨v', by simp [Instr.extract, g1'], g2⟩
        exact p.op hr
  | call c => exact absurd rfl (hnc c)
  | _ => cases he

end Go.Ev
