/-
  WHAT EACH OPERATION COMES TO: equations.
-/
import Derived.Test.YthaleckfgcgegaaEvL4
import Derived.Test.YthaleckfgcgegaaEvS5
import Derived.Test.YthaleckfgcgegaaEvS8
namespace Go.Ev
section
variable {P : Program} {ω : Evs} {tm : M AV} {ty : TypeId} {h : H}
theorem x_move {x} : execE P ω tm ty (.move x) h = .of (evT tm x) h := rfl
theorem x_assign {x} : execE P ω tm ty (.assign x) h = .of (evT tm x) h := rfl
theorem x_pick {c a b} : execE P ω tm ty (.pick c a b) h = .of (pickE tm c a b) h := rfl
theorem x_alloc {e} : execE P ω tm ty (.alloc e) h = allocE P e h := rfl
theorem x_box {e x} : execE P ω tm ty (.box e x) h = on1 (evT tm x) fun v => newPtr e v.cells h := rfl
theorem x_build {t ps} : execE P ω tm ty (.build t ps) h = .of (buildO P tm t ps) h := rfl
theorem x_buildSlice {t n ps} : execE P ω tm ty (.buildSlice t n ps) h = buildSliceO P tm t n ps h := rfl
theorem x_load {t a} : execE P ω tm ty (.load t a) h = on1 (evT tm a) fun p => .of (loadE P t p h) h := rfl
theorem x_store {t a x} : execE P ω tm ty (.store t a x) h = on1 (evT tm a) fun p => on1 (evT tm x) fun v => .done (storeE P t p v h) := rfl
theorem x_nilCheck {x} : execE P ω tm ty (.nilCheck x) h = on1 (evT tm x) fun v => .of (nilCheckE v) h := rfl
theorem x_binOp {op t x y u} : execE P ω tm ty (.binOp op t x y u) h = on1 (evT tm x) fun a => on1 (evT tm y) fun b => .of (binE P op t x y a b) h := rfl
theorem x_unOp {op t x} : execE P ω tm ty (.unOp op t x) h = on1 (evT tm x) fun a => .of (unE P op a) h := rfl
theorem x_convert {s d x} : execE P ω tm ty (.convert s d x) h = on1 (evT tm x) fun a => .of (convE P s d a) h := rfl
theorem x_makeFunc {f a b} : execE P ω tm ty (.makeFunc f a b) h = makeFuncE tm f a b h := rfl
theorem x_makeMap {t r} : execE P ω tm ty (.makeMap t r) h = makeMapE P tm t r h := rfl
theorem x_makeSlice {t l c} : execE P ω tm ty (.makeSlice t l c) h = on1 (evT tm l) fun l => on1 (evT tm c) fun c => makeSliceE P t l c h := rfl
theorem x_slice {t x lo hi mx} : execE P ω tm ty (.slice t x lo hi mx) h = .of (slicesE P tm t x lo hi mx) h := rfl
theorem x_fieldAddr {t x f} : execE P ω tm ty (.fieldAddr t x f) h = on1 (evT tm x) fun v => .of (fieldAddrE P t v f) h := rfl
theorem x_field {t x f} : execE P ω tm ty (.field t x f) h = on1 (evT tm x) fun v => .of (fieldE P t v f) h := rfl
theorem x_indexAddr {t x i} : execE P ω tm ty (.indexAddr t x i) h = on1 (evT tm x) fun v => on1 (evT tm i) fun i => .of (indexAddrE P t v i) h := rfl
theorem x_index {t x i} : execE P ω tm ty (.index t x i) h = on1 (evT tm x) fun v => on1 (evT tm i) fun i => .of (indexE P t v i) h := rfl
theorem x_lookup {t x k ok} : execE P ω tm ty (.lookup t x k ok) h = on1 (evT tm x) fun m => on1 (evT tm k) fun k => .of (lookupE P t m k ok h) h := rfl
theorem x_mapUpdate {t m k x} : execE P ω tm ty (.mapUpdate t m k x) h = on1 (evT tm m) fun m => on1 (evT tm k) fun k => on1 (evT tm x) fun v => .done (updateE P t m k v h) := rfl
theorem x_extract {t i} : execE P ω tm ty (.extract t i) h = on1 (evT tm t) fun v => .of (extractE v i) h := rfl
theorem x_callB {b args ats} : execE P ω tm ty (.call ⟨.builtin b, args, ats⟩) h = match evL tm args.toList with | some as => builtinE P b ats.toList ty as h | none => .no := by
  show callE P ω tm ty ⟨.builtin b, args, ats⟩ h = _
  unfold callE
  cases evL tm args.toList <;> rfl
theorem x_callF {g args ats} : execE P ω tm ty (.call ⟨.value (.func g), args, ats⟩) h = match evL tm args.toList with | some as => bif plainB P g then ω.call (.fn g (as ++ [])) h else .no | none => .no := by
  show callE P ω tm ty ⟨.value (.func g), args, ats⟩ h = _
  unfold callE
  cases evL tm args.toList with
  | none => rfl
  | some as =>
    show (bif plainB P g then ω.call (.fn g ([] ++ (as ++ []))) h else .no) = _
    rfl
theorem x_callT {t args ats} : execE P ω tm ty (.call ⟨.value (.tmp t), args, ats⟩) h = match evL tm args.toList with | some as => on1 (tm.get t) (fun f => callV P ω f as h) | none => .no := by
  show callE P ω tm ty ⟨.value (.tmp t), args, ats⟩ h = _
  unfold callE
  cases evL tm args.toList with
  | none => rfl
  | some as =>
    show (match evT tm (.tmp t) with | some f => callV P ω f as h | none => .no) = on1 (tm.get t) (fun f => callV P ω f as h)
    show (match tm.get t with | some f => callV P ω f as h | none => .no) = on1 (tm.get t) (fun f => callV P ω f as h)
    cases tm.get t <;> rfl
theorem callV_fn {g : FuncId} {first cap args : List AV} : callV P ω (.fn g first cap) args h = bif plainB P g then ω.call (.fn g (first ++ (args ++ cap))) h else .no := rfl
theorem callV_yld {id : Pos} {args : List AV} : callV P ω (.yld id) args h = ω.call (.yld id args) h := rfl

theorem on1_ok {v : AV} {f : AV → RV} : on1 (some v) f = f v := rfl
theorem of_ok {v : AV} : RV.of (some v) h = .ok v h := rfl
theorem done_ok : RV.done (some h) = .ok (.tup []) h := rfl
theorem evT_tmp {f : TF} {t : Nat} (ht : t < 384) : evT (mkM f) (.tmp t) = some (f t) := get_mkM f t ht
theorem get_tmp {f : TF} {t : Nat} (ht : t < 384) : M.get (mkM f) t = some (f t) := get_mkM f t ht
theorem evT_int {k : IntKind} {n : Int} : evT tm (.const (.int k n)) = some (.int k n) := rfl
theorem evT_bool {b : Bool} : evT tm (.const (.bool b)) = some (.bool b) := rfl
theorem evT_str {s : ByteArray} : evT tm (.const (.string s)) = some (.str s) := rfl
theorem evT_nils : evT tm (.const (.slice none 0 0)) = some .nils := rfl
theorem evT_nilm : evT tm (.const (.map none)) = some .nilm := rfl
theorem evT_nilp : evT tm (.const (.pointer none)) = some .nilp := rfl
theorem evT_nilf : evT tm (.const .nilFunc) = some .nilf := rfl
theorem evT_func {g : FuncId} : evT tm (.func g) = some (.fn g [] []) := rfl
theorem evT_agg {cs : Array Value} : evT tm (.const (.agg cs)) = match absL cs.toList with | some l => some (.agg l) | none => none := rfl
theorem evT_global {g : Nat} (hg : g ≤ 63) : evT tm (.global g) = some (.ptr (posN g) 0) := by
  show (bif Nat.ble g 63 then some (AV.ptr (posN g) 0) else none) = _
  rw [Nat.ble_eq_true_of_le hg]; rfl
theorem upd_apply (f : TF) (k : Nat) (v : AV) (j : Nat) : upd f k v j = if j = k then v else f j := rfl
theorem evL_nil : evL tm [] = some [] := rfl
theorem evL_cons {x : Operand} {xs : List Operand} {a : AV} {as : List AV} (h1 : evT tm x = some a) (h2 : evL tm xs = some as) : evL tm (x :: xs) = some (a :: as) := by
  unfold evL; rw [h1, h2]
theorem evL_cons' {x : Operand} {xs : List Operand} : evL tm (x :: xs) = match evT tm x with | some a => (match evL tm xs with | some as => some (a :: as) | none => none) | none => none := rfl
theorem evParts_nil : evParts tm [] = some [] := rfl
theorem evParts_cons {i : Nat} {x : Operand} {xs : List (Nat × Operand)} : evParts tm ((i, x) :: xs) = match evT tm x with | some a => (match evParts tm xs with | some as => some ((i, a) :: as) | none => none) | none => none := rfl

theorem cells_bool {b} : AV.cells (.bool b) = [.bool b] := rfl
theorem cells_int {k n} : AV.cells (.int k n) = [.int k n] := rfl
theorem cells_str {s} : AV.cells (.str s) = [.str s] := rfl
theorem cells_ptr {a b} : AV.cells (.ptr a b) = [.ptr a b] := rfl
theorem cells_nilp : AV.cells .nilp = [.nilp] := rfl
theorem cells_sl {a b c d e} : AV.cells (.sl a b c d e) = [.sl a b c d e] := rfl
theorem cells_nils : AV.cells .nils = [.nils] := rfl
theorem cells_map {a} : AV.cells (.map a) = [.map a] := rfl
theorem cells_nilm : AV.cells .nilm = [.nilm] := rfl
theorem cells_fn {a b c} : AV.cells (.fn a b c) = [.fn a b c] := rfl
theorem cells_nilf : AV.cells .nilf = [.nilf] := rfl
theorem cells_agg {cs} : AV.cells (.agg cs) = cs := rfl

theorem asPtr_ptr {a b} : asPtr (.ptr a b) = some (a, b) := rfl
theorem asSl_sl {a b c d e} : asSl (.sl a b c d e) = some (a, b, c) := rfl
theorem asB_bool {b} : asB (.bool b) = some b := rfl
theorem asB_tup {l} : asB (.tup l) = none := rfl
theorem asTup_tup {l} : asTup (.tup l) = some l := rfl
theorem asI64_int {n} : asI64 (.int .i64 n) = some n := rfl
theorem toNatE_lit {k} {n : Nat} : toNatE (.int k (n : Int)) = some n := rfl
theorem toNatE_int {k : IntKind} {n : Int} (hn : 0 ≤ n) : toNatE (.int k n) = some n.toNat := by
  obtain ⟨m, rfl⟩ := Int.eq_ofNat_of_zero_le hn
  rfl
theorem cellsOf_cells {m e} : cellsOf (.cells m e) = some m.get := rfl
theorem cellsOf_ro {m} : cellsOf (.ro m) = some m := rfl
theorem cellsE_cells {m e} : cellsE (.cells m e) = some (m, e) := rfl
theorem oneB_bool {b} : oneB (.bool b) = true := rfl
theorem oneB_int {k n} : oneB (.int k n) = true := rfl
theorem oneB_str {s} : oneB (.str s) = true := rfl
theorem oneB_ptr {a b} : oneB (.ptr a b) = true := rfl
theorem oneB_nilp : oneB .nilp = true := rfl
theorem oneB_sl {a b c d e} : oneB (.sl a b c d e) = true := rfl
theorem oneB_nils : oneB .nils = true := rfl
theorem oneB_map {a} : oneB (.map a) = true := rfl
theorem oneB_nilm : oneB .nilm = true := rfl
theorem oneB_fn {a b c} : oneB (.fn a b c) = true := rfl
theorem oneB_nilf : oneB .nilf = true := rfl

theorem loadE_ptr {t id off} : loadE P t (.ptr id off) h = match isAggB P t with | some b => bif b then loadAgg id off (sizeE P t) h else load1 id off h | none => none := rfl
theorem storeE_ptr {t id off v} : storeE P t (.ptr id off) v h = storeCs id off (sizeE P t) v.cells h := rfl
theorem storeCs_some {id off n cs} : storeCs id off (some n) cs h = bif Nat.beq cs.length n then storeAll id off cs h else none := rfl
theorem storeAll_one {id off v} : storeAll id off [v] h = store1 id off v h := rfl
theorem storeAll_two {id off a b l} : storeAll id off (a :: b :: l) h = writeCells id off (a :: b :: l) h := rfl
theorem fieldAddrE_ptr {t id off f} : fieldAddrE P t (.ptr id off) f = addOff id off (fieldOff P t f) := rfl
theorem addOff_some {id off k} : addOff id off (some k) = some (.ptr id (off + k)) := by show forceNat (Nat.add off k) (fun o => some (AV.ptr id o)) = _; rw [forceNat_eq]; rfl
theorem indexAt_arr {len n id off i} (hi : i < len) : indexAt (some len) n (.ptr id off) i = some (.ptr id (off + i * n)) := by
  show (bif Nat.ble (Nat.succ i) len then forceNat (Nat.add off (Nat.mul i n)) fun o => some (AV.ptr id o) else none) = _
  rw [Nat.ble_eq_true_of_le hi, forceNat_eq]; rfl
theorem indexAt_sl {n id off len cap esz i} (hi : i < len) : indexAt none n (.sl id off len cap esz) i = some (.ptr id (off + i * n)) := by
  show (bif Nat.ble (Nat.succ i) len then forceNat (Nat.add off (Nat.mul i n)) fun o => some (AV.ptr id o) else none) = _
  rw [Nat.ble_eq_true_of_le hi, forceNat_eq]; rfl
theorem indexAddrE_def {t x i} : indexAddrE P t x i = match toNatE i with | some i => (match idxKind P t with | some (k, n) => indexAt k n x i | none => none) | none => none := rfl
theorem extractE_tup {l i} : extractE (.tup l) i = l[i]? := by show lget l i = _; exact lget_eq l i
theorem nilCheck_fn {a b c} : nilCheckE (.fn a b c) = some (.fn a b c) := rfl
theorem nilCheck_ptr {a b} : nilCheckE (.ptr a b) = some (.ptr a b) := rfl
theorem nilCheck_yld {a} : nilCheckE (.yld a) = some (.yld a) := rfl
theorem pickE_def {c a b} : pickE tm c a b = match evT tm c with | some v => (match asB v with | some t => evT tm (bif t then a else b) | none => none) | none => none := rfl
theorem allocE_def {e} : allocE P e h = match zeroE P e with | some z => newPtr e z.cells h | none => .no := rfl

theorem newPtr_X {h0 : H} (wf : Wf h0) {e cs l w} : newPtr e cs (X h0 l w) = .ok (.ptr (nx h0 l.length) 0) (X h0 (l ++ [.cells (mkCells cs) e]) w) := by
  unfold newPtr newCells; rw [newObj_X wf]
theorem load1_of {id off m o} (hg : getObj id h = some o) (hm : cellsOf o = some m) : load1 id off h = m off := by
  unfold load1; rw [hg]; dsimp only; rw [hm]
theorem readCells_of {id off n m o} (hg : getObj id h = some o) (hm : cellsOf o = some m) : readCells h id off n = readM m n off := by
  unfold readCells; rw [hg]; dsimp only; rw [hm]
theorem load1_new {h0 : H} (wf : Wf h0) {l w k off cs e} (hk : l[k]? = some (.cells (mkCells cs) e)) : load1 (nx h0 k) off (X h0 l w) = cs[off]? := by
  rw [load1_of (by rw [getObj_new wf]; exact hk) rfl, mkCells_eq]
theorem load1_oldro {h0 : H} (wf : Wf h0) {id l w off cs} (hg : getObj id h0 = some (.ro cs)) : load1 id off (X h0 l w) = cs off := by
  rw [load1_of (getObj_old wf hg l w) rfl]
theorem load1_oldc {h0 : H} (wf : Wf h0) {id l w off cs e} (hg : getObj id h0 = some (.cells (mkCells cs) e)) : load1 id off (X h0 l w) = cs[off]? := by
  rw [load1_of (getObj_old wf hg l w) rfl, mkCells_eq]
theorem readCells_new {h0 : H} (wf : Wf h0) {l w k off n cs e} (hk : l[k]? = some (.cells (mkCells cs) e)) (hn : off + n ≤ cs.length) : readCells (X h0 l w) (nx h0 k) off n = some ((cs.drop off).take n) := by
  rw [readCells_of (by rw [getObj_new wf]; exact hk) rfl, readM_cells _ _ _ hn]
theorem loadAgg_new {h0 : H} (wf : Wf h0) {l w k off n cs e} (hk : l[k]? = some (.cells (mkCells cs) e)) (hn : off + n ≤ cs.length) : loadAgg (nx h0 k) off (some n) (X h0 l w) = some (.agg ((cs.drop off).take n)) := by
  unfold loadAgg; dsimp only; rw [readCells_new wf hk hn]
theorem store1_new {h0 : H} {l w k off v cs e} (wf : Wf h0) (hk : l[k]? = some (.cells (mkCells cs) e)) (ho : off < cs.length) (h1 : oneB v = true) : store1 (nx h0 k) off v (X h0 l w) = some (X h0 (l.set k (.cells (mkCells (cs.set off v)) e)) (min (h0.clock + k) w)) := by
  unfold store1
  rw [getObj_new wf, hk]
  dsimp only
  rw [cellsE_cells]
  dsimp only
  rw [h1]
  dsimp only [cond]
  rw [mkCells_set _ _ _ ho]
  dsimp only
  exact setObj_new l w k _ (List.getElem?_eq_some_iff.1 hk).1
theorem writeCells_new {h0 : H} {l w k off vs cs e} (wf : Wf h0) (hk : l[k]? = some (.cells (mkCells cs) e)) (ho : off + vs.length ≤ cs.length) (h1 : allOne vs = true) : writeCells (nx h0 k) off vs (X h0 l w) = some (X h0 (l.set k (.cells (mkCells (splice cs off vs)) e)) (min (h0.clock + k) w)) := by
  unfold writeCells
  rw [getObj_new wf, hk]
  dsimp only
  rw [cellsE_cells]
  dsimp only
  rw [h1]
  dsimp only [cond]
  rw [fillM_cells _ _ _ ho]
  dsimp only
  exact setObj_new l w k _ (List.getElem?_eq_some_iff.1 hk).1
noncomputable def cellAt : Option AO → Nat → Option AV
  | some (.cells m _), off => m.get off
  | some (.ro m), off => m off
  | _, _ => none
noncomputable def aggAt : Option AO → Nat → Nat → Option AV
  | some (.cells m _), off, n => (match readM m.get n off with | some cs => some (.agg cs) | none => none)
  | some (.ro m), off, n => (match readM m n off with | some cs => some (.agg cs) | none => none)
  | _, _, _ => none
noncomputable def storeAt : Option AO → Nat → AV → Option AO
  | some (.cells m e), off, v => bif oneB v then (match m.set off v with | some m' => some (.cells m' e) | none => none) else none
  | _, _, _ => none
noncomputable def writeAt : Option AO → Nat → List AV → Option AO
  | some (.cells m e), off, vs => bif allOne vs then (match fillM m off vs with | some m' => some (.cells m' e) | none => none) else none
  | _, _, _ => none
theorem cellAt_cells {cs e off} : cellAt (some (.cells (mkCells cs) e)) off = cs[off]? := mkCells_eq cs off
theorem cellAt_ro {f off} : cellAt (some (.ro f)) off = f off := rfl
theorem aggAt_cells {cs e off n} (h0 : 0 < n) : aggAt (some (.cells (mkCells cs) e)) off n = if off + n ≤ cs.length then some (.agg ((cs.drop off).take n)) else none := by
  show (match readM (mkCells cs).get n off with | some cs => some (AV.agg cs) | none => none) = _
  by_cases hn : off + n ≤ cs.length
  · rw [readM_cells _ _ _ hn, if_pos hn]
  · rw [if_neg hn]
    cases hr : readM (mkCells cs).get n off with
    | none => rfl
    | some vs =>
      exfalso
      obtain ⟨h1, h2⟩ := readM_get hr
      cases n with
      | zero => exact absurd h0 (Nat.lt_irrefl 0)
      | succ m =>
        have := h2 m (vs[m]'(by omega)) (by simp)
        rw [mkCells_eq] at this
        have := (List.getElem?_eq_some_iff.1 this).1
        omega
theorem load1_X {h0 : H} (wf : Wf h0) {l w k off} : load1 (nx h0 k) off (X h0 l w) = cellAt l[k]? off := by
  unfold load1
  rw [getObj_new wf]
  cases l[k]? with
  | none => rfl
  | some o => cases o <;> rfl
theorem loadAgg_X {h0 : H} (wf : Wf h0) {l w k off n} : loadAgg (nx h0 k) off (some n) (X h0 l w) = aggAt l[k]? off n := by
  unfold loadAgg readCells
  dsimp only
  rw [getObj_new wf]
  cases l[k]? with
  | none => rfl
  | some o => cases o <;> rfl
theorem storeAt_cells {cs e off v} : storeAt (some (.cells (mkCells cs) e)) off v = bif oneB v then (if off < cs.length then some (.cells (mkCells (cs.set off v)) e) else none) else none := by
  show (bif oneB v then (match (mkCells cs).set off v with | some m' => some (AO.cells m' e) | none => none) else none) = _
  by_cases ho : off < cs.length
  · rw [mkCells_set _ _ _ ho, if_pos ho]
  · rw [if_neg ho]
    cases hs : (mkCells cs).set off v with
    | none => rfl
    | some m' =>
      exfalso
      obtain ⟨_, _, b, hb⟩ := M.set_some hs
      rw [mkCells_eq] at hb
      exact ho (List.getElem?_eq_some_iff.1 hb).1
theorem store1_X {h0 : H} (wf : Wf h0) {l w k off v} : store1 (nx h0 k) off v (X h0 l w) = match storeAt l[k]? off v with | some o => some (X h0 (l.set k o) (min (h0.clock + k) w)) | none => none := by
  unfold store1
  rw [getObj_new wf]
  cases hk : l[k]? with
  | none => rfl
  | some o =>
    cases o with
    | cells m e =>
      show (bif oneB v then (match m.set off v with | some m' => setObj (nx h0 k) (.cells m' e) (X h0 l w) | none => none) else none) = _
      show _ = match (bif oneB v then (match m.set off v with | some m' => some (AO.cells m' e) | none => none) else none) with | some o => some (X h0 (l.set k o) (min (h0.clock + k) w)) | none => none
      cases oneB v with
      | false => rfl
      | true =>
        dsimp only [cond]
        cases m.set off v with
        | none => rfl
        | some m' => exact setObj_new l w k _ (List.getElem?_eq_some_iff.1 hk).1
    | _ => rfl
theorem writeCells_X {h0 : H} (wf : Wf h0) {l w k off vs} : writeCells (nx h0 k) off vs (X h0 l w) = match writeAt l[k]? off vs with | some o => some (X h0 (l.set k o) (min (h0.clock + k) w)) | none => none := by
  unfold writeCells
  rw [getObj_new wf]
  cases hk : l[k]? with
  | none => rfl
  | some o =>
    cases o with
    | cells m e =>
      show (bif allOne vs then (match fillM m off vs with | some m' => setObj (nx h0 k) (.cells m' e) (X h0 l w) | none => none) else none) = _
      show _ = match (bif allOne vs then (match fillM m off vs with | some m' => some (AO.cells m' e) | none => none) else none) with | some o => some (X h0 (l.set k o) (min (h0.clock + k) w)) | none => none
      cases allOne vs with
      | false => rfl
      | true =>
        dsimp only [cond]
        cases fillM m off vs with
        | none => rfl
        | some m' => exact setObj_new l w k _ (List.getElem?_eq_some_iff.1 hk).1
    | _ => rfl
theorem fillM_not : ∀ (vs : List AV) (v : AV) (cs : List AV) (off : Nat), ¬ off + (v :: vs).length ≤ cs.length → fillM (mkCells cs) off (v :: vs) = none
  | vs, v, cs, off, h => by
    unfold fillM
    by_cases ho : off < cs.length
    · rw [mkCells_set _ _ _ ho]
      dsimp only
      cases vs with
      | nil => simp at h; omega
      | cons u us => exact fillM_not us u (cs.set off v) (off + 1) (by simp at h ⊢; omega)
    · cases hs : (mkCells cs).set off v with
      | none => rfl
      | some m' =>
        exfalso
        obtain ⟨_, _, b, hb⟩ := M.set_some hs
        rw [mkCells_eq] at hb
        exact ho (List.getElem?_eq_some_iff.1 hb).1
theorem writeAt_cells {cs e off v vs} : writeAt (some (.cells (mkCells cs) e)) off (v :: vs) = bif allOne (v :: vs) then (if off + (v :: vs).length ≤ cs.length then some (.cells (mkCells (splice cs off (v :: vs))) e) else none) else none := by
  show (bif allOne (v :: vs) then (match fillM (mkCells cs) off (v :: vs) with | some m' => some (AO.cells m' e) | none => none) else none) = _
  by_cases ho : off + (v :: vs).length ≤ cs.length
  · rw [fillM_cells _ _ _ ho, if_pos ho]
  · rw [fillM_not _ _ _ _ ho, if_neg ho]
theorem splice_def {cs vs : List AV} {off : Nat} : splice cs off vs = cs.take off ++ vs ++ cs.drop (off + vs.length) := rfl
theorem splice_all {cs vs : List AV} (h : vs.length = cs.length) : splice cs 0 vs = vs := by
  unfold splice; simp [h]
theorem app_len0 {α : Type} {G l : List α} : (G ++ l)[G.length]? = l[0]? := by rw [List.getElem?_append_right (Nat.le_refl _), Nat.sub_self]
theorem app_len {α : Type} {G l : List α} {k : Nat} : (G ++ l)[G.length + k]? = l[k]? := by rw [List.getElem?_append_right (Nat.le_add_right _ _), Nat.add_sub_cancel_left]
theorem set_app_len0 {α : Type} {G l : List α} {o : α} : (G ++ l).set G.length o = G ++ l.set 0 o := by rw [List.set_append_right _ _ (Nat.le_refl _), Nat.sub_self]
theorem set_app_len {α : Type} {G l : List α} {k : Nat} {o : α} : (G ++ l).set (G.length + k) o = G ++ l.set k o := by rw [List.set_append_right _ _ (Nat.le_add_right _ _), Nat.add_sub_cancel_left]
theorem add_one_one (n : Nat) : n + 1 + 1 = n + 2 := rfl
theorem add_two_one (n : Nat) : n + 2 + 1 = n + 3 := rfl
theorem add_three_one (n : Nat) : n + 3 + 1 = n + 4 := rfl
theorem add_four_one (n : Nat) : n + 4 + 1 = n + 5 := rfl
theorem allOne_nil : allOne [] = true := rfl
theorem allOne_cons {v vs} : allOne (v :: vs) = bif oneB v then allOne vs else false := rfl

theorem binE_bin {op t x y m n v} (hv : bin64E op m n = some v) : binE P op t x y (.int .i64 m) (.int .i64 n) = some v := by
  unfold binE bin2; rw [asI64_int, asI64_int]; dsimp only; rw [hv]; rfl
theorem b_add {t x y m n} : binE P .add t x y (.int .i64 m) (.int .i64 n) = some (.int .i64 (IntKind.i64.wrap (m + n))) := binE_bin (int64E_eq _)
theorem b_sub {t x y m n} : binE P .sub t x y (.int .i64 m) (.int .i64 n) = some (.int .i64 (IntKind.i64.wrap (m - n))) := binE_bin (int64E_eq _)
theorem b_mul {t x y m n} : binE P .mul t x y (.int .i64 m) (.int .i64 n) = some (.int .i64 (IntKind.i64.wrap (m * n))) := binE_bin (int64E_eq _)
theorem b_eql {t x y m n} : binE P .eql t x y (.int .i64 m) (.int .i64 n) = some (.bool (decide (m = n))) := binE_bin (by
  show some (AV.bool (eqInt m n)) = _; rw [eqInt_eq]; by_cases h : m = n <;> simp [h])
theorem b_neq {t x y m n} : binE P .neq t x y (.int .i64 m) (.int .i64 n) = some (.bool (!decide (m = n))) := binE_bin (by
  show some (AV.bool (!eqInt m n)) = _; rw [eqInt_eq]; by_cases h : m = n <;> simp [h])
theorem b_lss {t x y m n} : binE P .lss t x y (.int .i64 m) (.int .i64 n) = some (.bool (decide (m < n))) := binE_bin (by
  show some (AV.bool (!leInt n m)) = _; rw [leInt_eq]; by_cases h : m < n <;> simp [h] <;> omega)
theorem b_leq {t x y m n} : binE P .leq t x y (.int .i64 m) (.int .i64 n) = some (.bool (decide (m ≤ n))) := binE_bin (by
  show some (AV.bool (leInt m n)) = _; rw [leInt_eq])
theorem b_gtr {t x y m n} : binE P .gtr t x y (.int .i64 m) (.int .i64 n) = some (.bool (decide (n < m))) := binE_bin (by
  show some (AV.bool (!leInt m n)) = _; rw [leInt_eq]; by_cases h : n < m <;> simp [h] <;> omega)
theorem b_geq {t x y m n} : binE P .geq t x y (.int .i64 m) (.int .i64 n) = some (.bool (decide (n ≤ m))) := binE_bin (by
  show some (AV.bool (leInt n m)) = _; rw [leInt_eq])
theorem unE_not {b} : unE P .not (.bool b) = some (.bool (!b)) := by
  unfold unE
  show pureVal P (Op.unary .not (.bool b)) = _
  cases b <;> rfl
theorem min_ck (c k : Nat) : min (c + k) c = c := by omega
theorem min_cc (c k l : Nat) : min c (min (c + k) l) = min c l := by omega
theorem min_cl (c k : Nat) : min c (c + k) = c := by omega

/-- A call's results. -/
theorem ret1 {t : Nat} {f : TF} (ht : t < 384) : retE P [.tmp t] (mkM f) h = .ok (f t) h := by
  simp only [retE, resultsE, resultE, get_mkM _ _ ht]
theorem ret2 {t u : Nat} {f : TF} (ht : t < 384) (hu : u < 384) : retE P [.tmp t, .tmp u] (mkM f) h = .ok (.tup [f t, f u]) h := by
  simp only [retE, resultsE, resultE, get_mkM _ _ ht, get_mkM _ _ hu]
theorem ret3 {t u v : Nat} {f : TF} (ht : t < 384) (hu : u < 384) (hv : v < 384) : retE P [.tmp t, .tmp u, .tmp v] (mkM f) h = .ok (.tup [f t, f u, f v]) h := by
  simp only [retE, resultsE, resultE, get_mkM _ _ ht, get_mkM _ _ hu, get_mkM _ _ hv]
theorem retc1 {a t u : Nat} {f : TF} {v : AV} (ha : a < 384) (hu : u < 384) (hl : loadE P t (f a) h = some v) : retE P [.cell a t, .tmp u] (mkM f) h = .ok (.tup [v, f u]) h := by
  simp only [retE, resultsE, resultE, get_mkM _ _ ha, get_mkM _ _ hu, hl]
end
end Go.Ev
