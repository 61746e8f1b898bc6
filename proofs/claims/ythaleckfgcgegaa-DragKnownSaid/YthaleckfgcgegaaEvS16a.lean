/-
  THE EVALUATOR'S SOUNDNESS, 16a: what an abstract step does to abstract memory, whatever it stands for.
-/
import Derived.Test.YthaleckfgcgegaaEvS15
namespace Go.Ev

/-- Everything was made before now. -/
def AI (h : H) : Prop := ∀ id born o, T.get id h.objs = some (born, o) → born < h.clock

structure AX (h h' : H) : Prop where
  old : AI h → AI h'
  clk : h.clock ≤ h'.clock
  keep : ∀ id born o, T.get id h.objs = some (born, o) → (∃ o', T.get id h'.objs = some (born, o')) ∧ (born < h'.w → T.get id h'.objs = some (born, o))
  wle : h'.w ≤ h.w

theorem AX.refl (h : H) : AX h h := ⟨id, Nat.le_refl _, fun _ _ o e => ⟨⟨o, e⟩, fun _ => e⟩, Nat.le_refl _⟩

theorem AX.trans {a b c : H} (h : AX a b) (k : AX b c) : AX a c where
  old := fun e => k.old (h.old e)
  clk := Nat.le_trans h.clk k.clk
  keep := fun id born o e => by
    obtain ⟨⟨o', ho'⟩, hk⟩ := h.keep id born o e
    obtain ⟨⟨o2, ho2⟩, _⟩ := k.keep id born o' ho'
    refine ⟨⟨o2, ho2⟩, fun hb => ?_⟩
    have h2 := hk (Nat.lt_of_lt_of_le hb k.wle)
    exact (k.keep id born o h2).2 hb
  wle := Nat.le_trans k.wle h.wle

theorem newObj_ax {o : AO} {h h' : H} {id : Pos} (e : newObj o h = some (id, h')) : AX h h' := by
  obtain ⟨rfl, hg, rfl⟩ := newObj_some e
  refine ⟨fun hai j born p hj => ?_, Nat.le_succ _, fun j born p hj => ?_, Nat.le_refl _⟩
  · show born < Nat.succ h.clock
    by_cases ej : j = h.next
    · subst ej; rw [T.get_set_same] at hj; cases hj; exact Nat.lt_succ_self _
    · rw [T.get_set_ne _ _ _ _ ej] at hj; exact Nat.lt_succ_of_lt (hai j born p hj)
  · have hne : j ≠ h.next := fun e => by rw [e, hg] at hj; cases hj
    exact ⟨⟨p, (T.get_set_ne _ _ _ _ hne).trans hj⟩, fun _ => (T.get_set_ne _ _ _ _ hne).trans hj⟩

theorem setObj_ax {o : AO} {h h' : H} {id : Pos} (e : setObj id o h = some h') : AX h h' := by
  obtain ⟨born, o0, hg, rfl⟩ := setObj_some e
  have hwle : (bif Nat.ble born h.w then born else h.w) ≤ h.w := by
    cases hb : Nat.ble born h.w with
    | false => exact Nat.le_refl _
    | true => exact Nat.le_of_ble_eq_true hb
  refine ⟨fun hai j bj p hj => ?_, Nat.le_refl _, fun j bj p hj => ?_, hwle⟩
  · by_cases ej : j = id
    · subst ej; rw [T.get_set_same] at hj; cases hj; exact hai _ _ _ hg
    · rw [T.get_set_ne _ _ _ _ ej] at hj; exact hai j bj p hj
  · by_cases ej : j = id
    · subst ej
      rw [hg] at hj
      cases hj
      refine ⟨⟨o, T.get_set_same _ _ _⟩, fun hlt => ?_⟩
      exfalso
      revert hlt
      show ¬ born < (bif Nat.ble born h.w then born else h.w)
      cases hb : Nat.ble born h.w with
      | true => exact Nat.lt_irrefl _
      | false =>
        show ¬ born < h.w
        intro hlt
        rw [Nat.ble_eq_true_of_le (Nat.le_of_lt hlt)] at hb
        cases hb
    · exact ⟨⟨p, (T.get_set_ne _ _ _ _ ej).trans hj⟩, fun _ => (T.get_set_ne _ _ _ _ ej).trans hj⟩

theorem newCells_ax {elem : TypeId} {cs : List AV} {h h' : H} {id : Pos} (e : newCells elem cs h = some (id, h')) : AX h h' := newObj_ax e
theorem newPtr_ax {elem : TypeId} {cs : List AV} {h h' : H} {v : AV} (e : newPtr elem cs h = .ok v h') : AX h h' := by
  unfold newPtr at e
  split at e
  · cases e; exact newCells_ax ‹_›
  · cases e
theorem newSlice_ax {elem : TypeId} {cs : List AV} {a b c : Nat} {h h' : H} {v : AV} (e : newSlice elem cs a b c h = .ok v h') : AX h h' := by
  unfold newSlice at e
  split at e
  · cases e; exact newCells_ax ‹_›
  · cases e
theorem newMap_ax {h h' : H} {v : AV} (e : newMap h = .ok v h') : AX h h' := by
  unfold newMap at e
  split at e
  · cases e; exact newObj_ax ‹_›
  · cases e
theorem allocE_ax {P : Program} {t : TypeId} {h h' : H} {v : AV} (e : allocE P t h = .ok v h') : AX h h' := by
  unfold allocE at e
  split at e
  · exact newPtr_ax e
  · cases e
theorem buildSliceE_ax {P : Program} {t : TypeId} {n : Nat} {ps : List (Nat × AV)} {h h' : H} {v : AV} (e : buildSliceE P t n ps h = .ok v h') : AX h h' := by
  unfold buildSliceE cond at e
  repeat' (split at e)
  all_goals first | cases e; done | exact newSlice_ax e
theorem makeSliceE_ax {P : Program} {t : TypeId} {a b : AV} {h h' : H} {v : AV} (e : makeSliceE P t a b h = .ok v h') : AX h h' := by
  unfold makeSliceE cond at e
  repeat' (split at e)
  all_goals first | cases e; done | exact newSlice_ax e
theorem writeCells_ax {id : Pos} {off : Nat} {vs : List AV} {h h' : H} (e : writeCells id off vs h = some h') : AX h h' := by
  unfold writeCells cond at e
  repeat' (split at e)
  all_goals first | cases e; done | exact setObj_ax e
theorem store1_ax {id : Pos} {off : Nat} {v : AV} {h h' : H} (e : store1 id off v h = some h') : AX h h' := by
  unfold store1 cond at e
  repeat' (split at e)
  all_goals first | cases e; done | exact setObj_ax e
theorem storeE_ax {P : Program} {t : TypeId} {a v : AV} {h h' : H} (e : storeE P t a v h = some h') : AX h h' := by
  unfold storeE storeCs storeAll cond at e
  repeat' (split at e)
  all_goals first | cases e; done | exact store1_ax e | exact writeCells_ax e
theorem updateE_ax {P : Program} {t : TypeId} {m k v : AV} {h h' : H} (e : updateE P t m k v h = some h') : AX h h' := by
  unfold updateE at e
  repeat' (split at e)
  all_goals first | cases e; done | exact setObj_ax e
theorem growE_ax {P : Program} {t : TypeId} {a b : Nat} {cs : List AV} {h h' : H} {v : AV} (e : growE P t a b cs h = .ok v h') : AX h h' := by
  unfold growE cond at e
  repeat' (split at e)
  all_goals first | cases e; done | (cases e; exact newCells_ax ‹_›)
theorem appendSome_ax {P : Program} {t : TypeId} {a b : Nat} {cs : List AV} {s : AV} {h h' : H} {v : AV} (e : appendSome P t a b cs s h = .ok v h') : AX h h' := by
  unfold appendSome cond at e
  repeat' (split at e)
  all_goals first
    | cases e; done
    | exact growE_ax e
    | (rw [forceNat_eq] at e; cases e; exact writeCells_ax ‹_›)
    | (rw [forceNat_eq] at e; exact growE_ax e)
    | (rw [forceNat_eq] at e; exact (setObj_ax ‹_›).trans (growE_ax e))
theorem appendE_ax {P : Program} {t : TypeId} {s x : AV} {h h' : H} {v : AV} (e : appendE P t s x h = .ok v h') : AX h h' := by
  unfold appendE cond at e
  repeat' (split at e)
  all_goals first | cases e; done | (cases e; exact .refl _) | exact appendSome_ax e
theorem copyE_ax {P : Program} {t : TypeId} {s x : AV} {h h' : H} {v : AV} (e : copyE P t s x h = .ok v h') : AX h h' := by
  unfold copyE at e
  repeat' (split at e)
  all_goals first
    | cases e; done
    | (cases e; exact .refl _)
    | (rw [forceNat_eq] at e; unfold cond at e; repeat' (split at e))
  all_goals first
    | cases e; done
    | (cases e; exact .refl _)
    | (cases e; exact writeCells_ax ‹_›)
theorem done_ax {o : Option H} {h h' : H} {v : AV} (k : ∀ h2, o = some h2 → AX h h2) (e : RV.done o = .ok v h') : AX h h' := k _ (done_some e).1
theorem of_ax {o : Option AV} {h h' : H} {v : AV} (e : RV.of o h = .ok v h') : AX h h' := by obtain ⟨_, rfl⟩ := of_some e; exact .refl _
theorem clearE_ax {P : Program} {t : TypeId} {x : AV} {h h' : H} {v : AV} (e : clearE P t x h = .ok v h') : AX h h' := by
  unfold clearE at e
  repeat' (split at e)
  all_goals first
    | cases e; done
    | (cases e; exact .refl _)
    | exact done_ax (fun _ k => setObj_ax k) e
    | exact done_ax (fun _ k => writeCells_ax k) e
theorem builtinE_ax {P : Program} {b : Builtin} {ats : List TypeId} {ty : TypeId} {args : List AV} {h h' : H} {v : AV} (e : builtinE P b ats ty args h = .ok v h') : AX h h' := by
  unfold builtinE cond at e
  repeat' (split at e)
  all_goals first | cases e; done | exact of_ax e | exact appendE_ax e | exact copyE_ax e | exact clearE_ax e

def CallAX (ih : Evs) : Prop := ∀ t h v h', ih.call t h = .ok v h' → AX h h'

theorem callV_ax {P : Program} {ih : Evs} (hi : CallAX ih) {f v : AV} {args : List AV} {h h' : H} (e : callV P ih f args h = .ok v h') : AX h h' := by
  unfold callV cond at e
  repeat' (split at e)
  all_goals first | cases e; done | exact hi _ _ _ _ e
theorem callE_ax {P : Program} {ih : Evs} (hi : CallAX ih) {tm : M AV} {ty : TypeId} {c : Call} {v : AV} {h h' : H} (e : callE P ih tm ty c h = .ok v h') : AX h h' := by
  unfold callE at e
  repeat' (split at e)
  all_goals first | cases e; done | exact builtinE_ax e | exact callV_ax hi e
theorem execE_ax {P : Program} {ih : Evs} (hi : CallAX ih) {tm : M AV} {ty : TypeId} {op : Op} {v : AV} {h h' : H} (e : execE P ih tm ty op h = .ok v h') : AX h h' := by
  cases op with
  | alloc t => exact allocE_ax e
  | box t x => obtain ⟨u, _, k⟩ := on1_some e; exact newPtr_ax k
  | buildSlice t n ps =>
    have e' : buildSliceO P tm t n ps h = .ok v h' := e
    unfold buildSliceO at e'
    split at e'
    · exact buildSliceE_ax e'
    · cases e'
  | store t a x => obtain ⟨u, _, k⟩ := on1_some e; obtain ⟨u, _, k⟩ := on1_some k; exact done_ax (fun _ q => storeE_ax q) k
  | makeFunc f a c =>
    have e' : makeFuncE tm f a c h = .ok v h' := e
    unfold makeFuncE at e'
    repeat' (split at e')
    all_goals first | cases e'; done | (cases e'; exact .refl _)
  | makeMap t r =>
    have e' : makeMapE P tm t r h = .ok v h' := e
    unfold makeMapE at e'
    repeat' (split at e')
    all_goals first | cases e'; done | exact newMap_ax e'
  | makeSlice t l c => obtain ⟨u, _, k⟩ := on1_some e; obtain ⟨u, _, k⟩ := on1_some k; exact makeSliceE_ax k
  | mapUpdate t m k x => obtain ⟨u, _, k⟩ := on1_some e; obtain ⟨u, _, k⟩ := on1_some k; obtain ⟨u, _, k⟩ := on1_some k; exact done_ax (fun _ q => updateE_ax q) k
  | call c => exact callE_ax hi e
  | move x => exact of_ax e
  | assign x => exact of_ax e
  | pick c a b => exact of_ax e
  | build t ps => exact of_ax e
  | load t a => obtain ⟨u, _, k⟩ := on1_some e; exact of_ax k
  | nilCheck x => obtain ⟨u, _, k⟩ := on1_some e; exact of_ax k
  | binOp op t x y yt => obtain ⟨u, _, k⟩ := on1_some e; obtain ⟨u, _, k⟩ := on1_some k; exact of_ax k
  | unOp op t x => obtain ⟨u, _, k⟩ := on1_some e; exact of_ax k
  | convert s d x => obtain ⟨u, _, k⟩ := on1_some e; exact of_ax k
  | slice t x lo hi mx => exact of_ax e
  | fieldAddr s x f => obtain ⟨u, _, k⟩ := on1_some e; exact of_ax k
  | field t x f => obtain ⟨u, _, k⟩ := on1_some e; exact of_ax k
  | indexAddr t x i => obtain ⟨u, _, k⟩ := on1_some e; obtain ⟨u, _, k⟩ := on1_some k; exact of_ax k
  | index t x i => obtain ⟨u, _, k⟩ := on1_some e; obtain ⟨u, _, k⟩ := on1_some k; exact of_ax k
  | lookup t x k ok => obtain ⟨u, _, k⟩ := on1_some e; obtain ⟨u, _, k⟩ := on1_some k; exact of_ax k
  | extract t i => obtain ⟨u, _, k⟩ := on1_some e; exact of_ax k
  | _ => cases e

/-- An operation that does not touch memory comes to the same in any memory. -/
theorem execE_pure {P : Program} {ih : Evs} {tm : M AV} {ty : TypeId} {op : Op} {v : AV} {h h' : H} (ht : touches op = false) (e : execE P ih tm ty op h = .ok v h') : h' = h ∧ ∀ h2, execE P ih tm ty op h2 = .ok v h2 := by
  have ofs : ∀ {o : Option AV} {v : AV} {h h' : H}, RV.of o h = .ok v h' → h' = h ∧ ∀ h2, RV.of o h2 = .ok v h2 := by
    intro o v h h' e
    cases o with
    | none => cases e
    | some u => cases e; exact ⟨rfl, fun _ => rfl⟩
  have on1s : ∀ {o : Option AV} {f : AV → H → RV} {v : AV} {h h' : H}, (∀ u, f u h = .ok v h' → h' = h ∧ ∀ h2, f u h2 = .ok v h2) → on1 o (fun u => f u h) = .ok v h' → h' = h ∧ ∀ h2, on1 o (fun u => f u h2) = .ok v h2 := by
    intro o f v h h' k e
    cases o with
    | none => cases e
    | some u => exact k u e
  cases op with
  | move x => exact ofs e
  | assign x => exact ofs e
  | pick c a b => exact ofs e
  | build t ps => exact ofs e
  | nilCheck x => exact on1s (f := fun v h => .of (nilCheckE v) h) (fun _ k => ofs k) e
  | binOp op t x y yt => exact on1s (f := fun a h => on1 (evT tm y) fun b => .of (binE P op t x y a b) h) (fun a k => on1s (f := fun b h => .of (binE P op t x y a b) h) (fun _ k => ofs k) k) e
  | unOp op t x => exact on1s (f := fun a h => .of (unE P op a) h) (fun _ k => ofs k) e
  | convert s d x => exact on1s (f := fun a h => .of (convE P s d a) h) (fun _ k => ofs k) e
  | makeFunc f a c =>
    have e' : makeFuncE tm f a c h = .ok v h' := e
    have g : ∀ h2, execE P ih tm ty (.makeFunc f a c) h2 = makeFuncE tm f a c h2 := fun _ => rfl
    simp only [g]
    unfold makeFuncE at e' ⊢
    repeat' (split at e')
    all_goals first | cases e'; done | (cases e'; exact ⟨rfl, fun _ => by simp [*]⟩)
  | slice t x lo hi mx => exact ofs e
  | fieldAddr s x f => exact on1s (f := fun v h => .of (fieldAddrE P s v f) h) (fun _ k => ofs k) e
  | field t x f => exact on1s (f := fun v h => .of (fieldE P t v f) h) (fun _ k => ofs k) e
  | indexAddr t x i => exact on1s (f := fun v h => on1 (evT tm i) fun i => .of (indexAddrE P t v i) h) (fun v k => on1s (f := fun i h => .of (indexAddrE P t v i) h) (fun _ k => ofs k) k) e
  | index t x i => exact on1s (f := fun v h => on1 (evT tm i) fun i => .of (indexE P t v i) h) (fun v k => on1s (f := fun i h => .of (indexE P t v i) h) (fun _ k => ofs k) k) e
  | extract t i => exact on1s (f := fun v h => .of (extractE v i) h) (fun _ k => ofs k) e
  | _ => cases ht

end Go.Ev
