/-
  HEAPS WITH NEW OBJECTS, AND FRAMES THAT ARE FUNCTIONS.
-/
import Derived.Test.YthaleckfgcgegaaEvL1
namespace Go.Ev

/-! ### Trees -/
theorem T.set_set {α : Type} (a b : α) (p : Pos) : ∀ t : T α, T.set a p (T.set b p t) = T.set a p t := by
  induction p with
  | e => intro t; cases t <;> rfl
  | o p ih => intro t; cases t with
    | nil => show T.node none (T.set a p (T.set b p .nil)) .nil = T.node none (T.set a p .nil) .nil; rw [ih]
    | node v l r => show T.node v (T.set a p (T.set b p l)) r = T.node v (T.set a p l) r; rw [ih]
  | i p ih => intro t; cases t with
    | nil => show T.node none .nil (T.set a p (T.set b p .nil)) = T.node none .nil (T.set a p .nil); rw [ih]
    | node v l r => show T.node v l (T.set a p (T.set b p r)) = T.node v l (T.set a p r); rw [ih]

theorem T.set_comm {α : Type} (a b : α) (p : Pos) : ∀ (q : Pos) (t : T α), p ≠ q → T.set a p (T.set b q t) = T.set b q (T.set a p t) := by
  induction p with
  | e => intro q t hne; cases q with
    | e => exact absurd rfl hne
    | o q => cases t <;> rfl
    | i q => cases t <;> rfl
  | o p ih => intro q t hne; cases q with
    | e => cases t <;> rfl
    | o q =>
      have hne' : p ≠ q := fun e => hne (by rw [e])
      cases t with
      | nil => show T.node none (T.set a p (T.set b q .nil)) .nil = T.node none (T.set b q (T.set a p .nil)) .nil; rw [ih q _ hne']
      | node v l r => show T.node v (T.set a p (T.set b q l)) r = T.node v (T.set b q (T.set a p l)) r; rw [ih q _ hne']
    | i q => cases t <;> rfl
  | i p ih => intro q t hne; cases q with
    | e => cases t <;> rfl
    | o q => cases t <;> rfl
    | i q =>
      have hne' : p ≠ q := fun e => hne (by rw [e])
      cases t with
      | nil => show T.node none .nil (T.set a p (T.set b q .nil)) = T.node none .nil (T.set b q (T.set a p .nil)); rw [ih q _ hne']
      | node v l r => show T.node v l (T.set a p (T.set b q r)) = T.node v l (T.set b q (T.set a p r)); rw [ih q _ hne']

/-! ### Names -/
def Pos.val : Pos → Nat
  | .e => 0
  | .o p => 2 * p.val + 1
  | .i p => 2 * p.val + 2
theorem Pos.val_succ : ∀ p : Pos, p.succ.val = p.val + 1
  | .e => rfl
  | .o p => rfl
  | .i p => by
    have e : (Pos.i p).succ = .o p.succ := rfl
    rw [e]
    simp only [Pos.val, Pos.val_succ p]; omega
theorem Pos.val_inj : ∀ {p q : Pos}, p.val = q.val → p = q
  | .e, .e, _ => rfl
  | .e, .o _, h => by simp [Pos.val] at h
  | .e, .i _, h => by simp [Pos.val] at h
  | .o _, .e, h => by simp [Pos.val] at h
  | .i _, .e, h => by simp [Pos.val] at h
  | .o p, .o q, h => by rw [Pos.val_inj (p := p) (q := q) (by simp only [Pos.val] at h; omega)]
  | .i p, .i q, h => by rw [Pos.val_inj (p := p) (q := q) (by simp only [Pos.val] at h; omega)]
  | .o p, .i q, h => by simp only [Pos.val] at h; omega
  | .i p, .o q, h => by simp only [Pos.val] at h; omega

noncomputable def nxP (p : Pos) : Nat → Pos
  | 0 => p
  | k + 1 => (nxP p k).succ
theorem nxP_val (p : Pos) : ∀ k, (nxP p k).val = p.val + k
  | 0 => rfl
  | k + 1 => by rw [nxP, Pos.val_succ, nxP_val p k]; omega
theorem nxP_inj {p : Pos} {i j : Nat} (h : nxP p i = nxP p j) : i = j := by
  have := congrArg Pos.val h
  rw [nxP_val, nxP_val] at this
  omega
theorem nxP_add (p : Pos) (i : Nat) : ∀ j, nxP (nxP p i) j = nxP p (i + j)
  | 0 => rfl
  | j + 1 => by show (nxP (nxP p i) j).succ = (nxP p (i + j)).succ; rw [nxP_add p i j]

noncomputable def nx (h : H) (k : Nat) : Pos := nxP h.next k

/-! ### Heaps -/
noncomputable def pushAll (objs : T (Nat × AO)) (p : Pos) (c : Nat) : List AO → T (Nat × AO)
  | [] => objs
  | o :: l => pushAll (T.set (c, o) p objs) p.succ (c + 1) l

theorem nxP_succ (p : Pos) (k : Nat) : nxP p.succ k = nxP p (k + 1) := by
  have := nxP_add p 1 k
  rw [show 1 + k = k + 1 from by omega] at this
  exact this

theorem pushAll_snoc (o : AO) : ∀ (l : List AO) (objs : T (Nat × AO)) (p : Pos) (c : Nat), pushAll objs p c (l ++ [o]) = T.set (c + l.length, o) (nxP p l.length) (pushAll objs p c l)
  | [], _, _, _ => rfl
  | a :: l, objs, p, c => by
    show pushAll (T.set (c, a) p objs) p.succ (c + 1) (l ++ [o]) = _
    rw [pushAll_snoc o l, nxP_succ]
    show T.set (c + 1 + l.length, o) (nxP p (l.length + 1)) _ = T.set (c + (l.length + 1), o) (nxP p (l.length + 1)) (pushAll (T.set (c, a) p objs) p.succ (c + 1) l)
    rw [show c + 1 + l.length = c + (l.length + 1) from by omega]

theorem pushAll_append : ∀ (l l' : List AO) (objs : T (Nat × AO)) (p : Pos) (c : Nat), pushAll objs p c (l ++ l') = pushAll (pushAll objs p c l) (nxP p l.length) (c + l.length) l'
  | [], l', objs, p, c => rfl
  | a :: l, l', objs, p, c => by
    show pushAll (T.set (c, a) p objs) p.succ (c + 1) (l ++ l') = pushAll (pushAll (T.set (c, a) p objs) p.succ (c + 1) l) (nxP p (l.length + 1)) (c + (l.length + 1)) l'
    rw [pushAll_append l l', nxP_succ, show c + 1 + l.length = c + (l.length + 1) from by omega]

theorem pushAll_get_ne {q : Pos} : ∀ (l : List AO) (objs : T (Nat × AO)) (p : Pos) (c : Nat), (∀ k, k < l.length → q ≠ nxP p k) → T.get q (pushAll objs p c l) = T.get q objs
  | [], _, _, _, _ => rfl
  | a :: l, objs, p, c, h => by
    show T.get q (pushAll (T.set (c, a) p objs) p.succ (c + 1) l) = _
    rw [pushAll_get_ne l _ _ _ (fun k hk => by rw [nxP_succ]; exact h (k + 1) (by simp; omega)), T.get_set_ne _ _ _ _ (show q ≠ p from h 0 (by simp))]

theorem pushAll_get : ∀ (l : List AO) (objs : T (Nat × AO)) (p : Pos) (c k : Nat), k < l.length → T.get (nxP p k) (pushAll objs p c l) = (l[k]?).map fun o => (c + k, o)
  | [], _, _, _, k, h => absurd h (Nat.not_lt_zero k)
  | a :: l, objs, p, c, 0, _ => by
    show T.get p (pushAll (T.set (c, a) p objs) p.succ (c + 1) l) = _
    rw [pushAll_get_ne l _ _ _ (fun k _ e => by rw [nxP_succ] at e; have := nxP_inj (i := 0) (j := k + 1) e; omega), T.get_set_same]
    rfl
  | a :: l, objs, p, c, k + 1, h => by
    show T.get (nxP p (k + 1)) (pushAll (T.set (c, a) p objs) p.succ (c + 1) l) = _
    rw [← nxP_succ, pushAll_get l _ _ _ k (by simpa using h)]
    simp only [List.getElem?_cons_succ]
    rw [show c + 1 + k = c + (k + 1) from by omega]

theorem pushAll_set_out (x : Nat × AO) {q : Pos} : ∀ (l : List AO) (objs : T (Nat × AO)) (p : Pos) (c : Nat), (∀ k, k < l.length → q ≠ nxP p k) → T.set x q (pushAll objs p c l) = pushAll (T.set x q objs) p c l
  | [], _, _, _, _ => rfl
  | a :: l, objs, p, c, h => by
    show T.set x q (pushAll (T.set (c, a) p objs) p.succ (c + 1) l) = pushAll (T.set (c, a) p (T.set x q objs)) p.succ (c + 1) l
    rw [pushAll_set_out x l _ _ _ (fun k hk => by rw [nxP_succ]; exact h (k + 1) (by simp; omega)), T.set_comm _ _ _ _ _ (show q ≠ p from h 0 (by simp))]

theorem pushAll_set (o : AO) : ∀ (l : List AO) (objs : T (Nat × AO)) (p : Pos) (c k : Nat), k < l.length → T.set (c + k, o) (nxP p k) (pushAll objs p c l) = pushAll objs p c (l.set k o)
  | [], _, _, _, k, h => absurd h (Nat.not_lt_zero k)
  | a :: l, objs, p, c, 0, _ => by
    show T.set (c, o) p (pushAll (T.set (c, a) p objs) p.succ (c + 1) l) = pushAll (T.set (c, o) p objs) p.succ (c + 1) l
    rw [pushAll_set_out _ l _ _ _ (fun k _ e => by rw [nxP_succ] at e; have := nxP_inj (i := 0) (j := k + 1) e; omega), T.set_set]
  | a :: l, objs, p, c, k + 1, h => by
    show T.set (c + (k + 1), o) (nxP p (k + 1)) (pushAll (T.set (c, a) p objs) p.succ (c + 1) l) = pushAll (T.set (c, a) p objs) p.succ (c + 1) (l.set k o)
    rw [← nxP_succ, show c + (k + 1) = c + 1 + k from by omega, pushAll_set o l _ _ _ k (by simpa using h)]

/-- A heap, with new objects behind it, and a mark. -/
noncomputable def X (h : H) (l : List AO) (w : Nat) : H := ⟨pushAll h.objs h.next h.clock l, nxP h.next l.length, h.clock + l.length, w⟩

structure Wf (h : H) : Prop where
  fresh : ∀ k, T.get (nx h k) h.objs = none
  old : ∀ id born o, T.get id h.objs = some (born, o) → born < h.clock
  wle : h.w ≤ h.clock

theorem X_self (h : H) : X h [] h.w = h := by cases h; rfl
theorem marked_eq (h : H) : marked h = X h [] h.clock := by cases h; rfl
theorem marked_X (h : H) (l : List AO) (w : Nat) : marked (X h l w) = X h l (h.clock + l.length) := rfl
theorem X_clock (h : H) (l : List AO) (w : Nat) : (X h l w).clock = h.clock + l.length := rfl
theorem X_w (h : H) (l : List AO) (w : Nat) : (X h l w).w = w := rfl
theorem nx_X (h : H) (l : List AO) (w k : Nat) : nx (X h l w) k = nx h (l.length + k) := nxP_add _ _ _
theorem X_X (h : H) (l l' : List AO) (w w' : Nat) : X (X h l w) l' w' = X h (l ++ l') w' := by
  unfold X
  dsimp only
  rw [pushAll_append, nxP_add, List.length_append, Nat.add_assoc]

theorem Wf.X {h : H} (wf : Wf h) {l : List AO} {w : Nat} (hw : w ≤ h.clock + l.length) : Wf (X h l w) where
  fresh := fun k => by
    rw [nx_X]
    show T.get (nxP h.next (l.length + k)) (pushAll h.objs h.next h.clock l) = none
    rw [pushAll_get_ne l _ _ _ (fun j hj e => by have := nxP_inj e; omega)]
    exact wf.fresh _
  old := fun id born o hid => by
    have hid' : T.get id (pushAll h.objs h.next h.clock l) = some (born, o) := hid
    show born < h.clock + l.length
    by_cases hx : ∃ k, k < l.length ∧ id = nxP h.next k
    · obtain ⟨k, hk, rfl⟩ := hx
      rw [pushAll_get l _ _ _ k hk] at hid'
      simp only [Option.map_eq_some_iff, Prod.mk.injEq] at hid'
      obtain ⟨_, _, rfl, _⟩ := hid'
      omega
    · rw [pushAll_get_ne l _ _ _ (fun k hk e => hx ⟨k, hk, e⟩)] at hid'
      have := wf.old _ _ _ hid'
      omega
  wle := hw

theorem getObj_eq (id : Pos) (h : H) : getObj id h = (T.get id h.objs).map (·.2) := by
  unfold getObj
  cases T.get id h.objs <;> rfl

theorem newObj_X {h : H} (wf : Wf h) (o : AO) (l : List AO) (w : Nat) : newObj o (X h l w) = some (nx h l.length, X h (l ++ [o]) w) := by
  have hn : T.get (nxP h.next l.length) (pushAll h.objs h.next h.clock l) = none := by
    rw [pushAll_get_ne l _ _ _ (fun j hj e => by have := nxP_inj e; omega)]
    exact wf.fresh _
  show (Option.rec (motive := fun _ => Option (Pos × H)) (some (nxP h.next l.length, (⟨T.set (h.clock + l.length, o) (nxP h.next l.length) (pushAll h.objs h.next h.clock l), (nxP h.next l.length).succ, Nat.succ (h.clock + l.length), w⟩ : H))) (fun _ => none) (T.get (nxP h.next l.length) (pushAll h.objs h.next h.clock l)) : Option (Pos × H)) = _
  rw [hn]
  unfold X nx
  rw [pushAll_snoc, List.length_append]
  rfl

theorem getObj_new {h : H} (wf : Wf h) (l : List AO) (w k : Nat) : getObj (nx h k) (X h l w) = l[k]? := by
  rw [getObj_eq]
  show Option.map (·.2) (T.get (nxP h.next k) (pushAll h.objs h.next h.clock l)) = _
  by_cases hk : k < l.length
  · rw [pushAll_get l _ _ _ k hk]; cases l[k]? <;> rfl
  · rw [pushAll_get_ne l _ _ _ (fun j hj e => by have := nxP_inj e; omega)]
    have := wf.fresh k
    unfold nx at this
    rw [this, List.getElem?_eq_none (by omega)]
    rfl

theorem getObj_old {h : H} (wf : Wf h) {id : Pos} {o : AO} (hg : getObj id h = some o) (l : List AO) (w : Nat) : getObj id (X h l w) = some o := by
  rw [getObj_eq] at hg ⊢
  show Option.map (·.2) (T.get id (pushAll h.objs h.next h.clock l)) = _
  rw [pushAll_get_ne l _ _ _ (fun j hj e => by
    have := wf.fresh j
    unfold nx at this
    rw [e, this] at hg
    cases hg)]
  exact hg

theorem setObj_new {h : H} (l : List AO) (w k : Nat) (o : AO) (hk : k < l.length) : setObj (nx h k) o (X h l w) = some (X h (l.set k o) (min (h.clock + k) w)) := by
  have hg : T.get (nxP h.next k) (pushAll h.objs h.next h.clock l) = some (h.clock + k, l[k]) := by
    rw [pushAll_get l _ _ _ k hk]; simp [hk]
  show (Option.rec (motive := fun _ => Option H) none (fun bo => Prod.rec (motive := fun _ => Option H) (fun born _ => some (⟨T.set (born, o) (nxP h.next k) (pushAll h.objs h.next h.clock l), nxP h.next l.length, h.clock + l.length, bif Nat.ble born w then born else w⟩ : H)) bo) (T.get (nxP h.next k) (pushAll h.objs h.next h.clock l)) : Option H) = _
  rw [hg]
  show some (⟨T.set (h.clock + k, o) (nxP h.next k) (pushAll h.objs h.next h.clock l), nxP h.next l.length, h.clock + l.length, bif Nat.ble (h.clock + k) w then h.clock + k else w⟩ : H) = _
  rw [pushAll_set o l _ _ _ k hk]
  have e : (bif Nat.ble (h.clock + k) w then h.clock + k else w) = min (h.clock + k) w := by
    cases hb : Nat.ble (h.clock + k) w with
    | true => have := Nat.le_of_ble_eq_true hb; simp only [cond]; omega
    | false => have : ¬ (h.clock + k ≤ w) := fun hh => by rw [Nat.ble_eq_true_of_le hh] at hb; cases hb
               simp only [cond]; omega
  rw [e]
  unfold X
  simp

/-- What a call hands back that has written nothing older. -/
theorem pureCall_flat {h : H} {v : AV} {l : List AO} {w : Nat} (hw : h.clock ≤ w) (hf : flat v = true) : pureCall h (.ok v (X h l w)) = .ok v h := by
  obtain ⟨objs, next, clock, w0⟩ := h
  show (bif Nat.ble clock w && flat v then RV.ok v ⟨objs, next, clock, w0⟩ else _) = _
  rw [hf, Nat.ble_eq_true_of_le hw]; rfl
theorem pureCall_ext {h : H} {v : AV} {l : List AO} {w : Nat} (hc : (Nat.ble h.clock w && flat v) = false) : pureCall h (.ok v (X h l w)) = .ok v (X h l (min h.w w)) := by
  obtain ⟨objs, next, clock, w0⟩ := h
  show (bif Nat.ble clock w && flat v then RV.ok v ⟨objs, next, clock, w0⟩ else RV.ok v ⟨pushAll objs next clock l, nxP next l.length, clock + l.length, bif Nat.ble w0 w then w0 else w⟩) = _
  rw [show (Nat.ble clock w && flat v) = false from hc]
  have e : (bif Nat.ble w0 w then w0 else w) = min w0 w := by
    cases hb : Nat.ble w0 w with
    | true => have := Nat.le_of_ble_eq_true hb; simp only [cond]; omega
    | false => have : ¬ (w0 ≤ w) := fun hh => by rw [Nat.ble_eq_true_of_le hh] at hb; cases hb
               simp only [cond]; omega
  rw [e]; rfl

/-! ### Frames -/
abbrev TF := Nat → AV
def upd (f : TF) (k : Nat) (v : AV) : TF := fun j => if j = k then v else f j
theorem upd_same (f : TF) (k : Nat) (v : AV) : upd f k v k = v := if_pos rfl
theorem upd_ne {f : TF} {k j : Nat} {v : AV} (h : j ≠ k) : upd f k v j = f j := if_neg h

def mkM (f : TF) : M AV := (List.range 48).map fun r => (List.range 8).map fun c => f (8 * r + c)

theorem get_mkM (f : TF) (k : Nat) (hk : k < 384) : (mkM f).get k = some (f k) := by
  rw [M.get_eq]
  unfold mkM
  rw [List.getElem?_map, List.getElem?_range (by omega)]
  show Option.bind (some ((List.range 8).map fun c => f (8 * (k / 8) + c))) (fun row => row[k % 8]?) = _
  show ((List.range 8).map fun c => f (8 * (k / 8) + c))[k % 8]? = _
  rw [List.getElem?_map, List.getElem?_range (by omega)]
  show some (f (8 * (k / 8) + k % 8)) = _
  rw [show 8 * (k / 8) + k % 8 = k from by omega]

theorem set_mkM (f : TF) (k : Nat) (v : AV) (hk : k < 384) : (mkM f).set k v = some (mkM (upd f k v)) := by
  unfold M.set
  rw [lget_eq]
  have h1 : (mkM f)[Nat.div k (nat_lit 8)]? = some ((List.range 8).map fun c => f (8 * (k / 8) + c)) := by
    show (mkM f)[k / 8]? = _
    unfold mkM
    rw [List.getElem?_map, List.getElem?_range (by omega)]; rfl
  rw [h1]
  dsimp only
  rw [lset_eq, if_pos (by show k % 8 < _; simp; omega)]
  dsimp only
  rw [lset_eq, if_pos (by show k / 8 < _; unfold mkM; simp; omega)]
  congr 1
  show List.set (mkM f) (k / 8) (((List.range 8).map fun c => f (8 * (k / 8) + c)).set (k % 8) v) = _
  apply List.ext_getElem?
  intro i
  unfold mkM
  by_cases hi : i = k / 8
  · subst hi
    rw [List.getElem?_set_self (by simp; omega), List.getElem?_map, List.getElem?_range (by omega)]
    show some _ = some _
    congr 1
    apply List.ext_getElem?
    intro c
    by_cases hc : c = k % 8
    · subst hc
      rw [List.getElem?_set_self (by simp; omega), List.getElem?_map, List.getElem?_range (by omega)]
      show some v = some (upd f k v (8 * (k / 8) + k % 8))
      rw [show 8 * (k / 8) + k % 8 = k from by omega, upd_same]
    · rw [List.getElem?_set_ne (Ne.symm hc), List.getElem?_map, List.getElem?_map]
      by_cases hc8 : c < 8
      · rw [List.getElem?_range hc8]
        show some (f _) = some (upd f k v (8 * (k / 8) + c))
        rw [upd_ne (by omega)]
      · rw [List.getElem?_eq_none (by simp; omega)]; rfl
  · rw [List.getElem?_set_ne (Ne.symm hi), List.getElem?_map, List.getElem?_map]
    by_cases hi48 : i < 48
    · rw [List.getElem?_range hi48]
      show some _ = some _
      congr 1
      apply List.map_congr_left
      intro c hc
      rw [List.mem_range] at hc
      rw [upd_ne (by omega)]
    · rw [List.getElem?_eq_none (by simp; omega)]; rfl

def ini : TF := fun _ => .tup []
theorem base_ini : baseRows = mkM ini := rfl

end Go.Ev
