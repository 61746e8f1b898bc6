/-
  THE EVALUATOR'S SOUNDNESS, 7: slices that are made, cut, appended to, copied, cleared.
-/
import Derived.Test.YthaleckfgcgegaaEvS6
namespace Go.Ev

theorem zeros_list (z : List Value) (hz : 0 < z.length) : ∀ n, (List.range (n * z.length)).map (fun i => z[i % z.length]!) = (List.replicate n z).flatten
  | 0 => by simp
  | n + 1 => by
    have e : (n + 1) * z.length = z.length + n * z.length := by rw [Nat.succ_mul]; omega
    rw [e, List.range_add, List.map_append, List.map_map, List.replicate_succ, List.flatten_cons]
    congr 1
    · apply List.ext_getElem
      · simp
      · intro i h1 h2
        simp at h1
        simp [Nat.mod_eq_of_lt h1, getElem!_pos, h1]
    · rw [← zeros_list z hz n]
      apply List.map_congr_left
      intro i _
      simp [Nat.add_mod_left]

theorem zerosE_eq (z : List AV) : ∀ n, zerosE z n = (List.replicate n z).flatten
  | 0 => rfl
  | n + 1 => by simp [zerosE, zerosE_eq z n, List.replicate_succ]

theorem VL.copies {ρ : R} {z : List AV} {z' : List Value} (h : VL ρ z z') : ∀ n, VL ρ (List.replicate n z).flatten (List.replicate n z').flatten
  | 0 => .nil
  | n + 1 => by simp only [List.replicate_succ, List.flatten_cons]; exact h.append (VL.copies h n)

theorem zeros_vl {ρ : R} {z : List AV} {z' : Array Value} (h : VL ρ z z'.toList) (n : Nat) : VL ρ (zerosE z n) ((Array.range (n * z'.size)).map fun i => z'[i % z'.size]!).toList := by
  rw [zerosE_eq]
  by_cases hz : z'.size = 0
  · have h0 : z'.toList = [] := List.eq_nil_of_length_eq_zero (by simpa using hz)
    have h1 : z = [] := by rw [h0] at h; cases h; rfl
    subst h1
    simp [hz]
    have : (List.replicate n ([] : List AV)).flatten = [] := by simp
    exact .nil
  · have := zeros_list z'.toList (by simp; omega) n
    have e : ((Array.range (n * z'.size)).map fun i => z'[i % z'.size]!).toList = (List.range (n * z'.toList.length)).map (fun i => z'.toList[i % z'.toList.length]!) := by
      simp
      intro a _
      rw [getElem!_def]
      cases z'[a % z'.size]? <;> rfl
    rw [e, this]
    exact h.copies n

theorem VR.slOf {ρ : R} {id : Pos} {off len c : Nat} {esz b n : Nat} (h : ρ id = some (some (b, n))) (hn : off + c * esz ≤ n) (hl : len ≤ c) : VR ρ (.sl id off len (some c) esz) (.slice (some ⟨b, off, none⟩) len c) :=
  .sl id off len (some c) esz b c _ h (fun _ _ e => by cases e; exact ⟨rfl, fun _ => hn⟩) (fun _ e => by cases e; rfl) hl

theorem newSlice_run {P : Program} {ρ : R} {h h' : H} {w : World} (hr : HR ρ h w) {elem : TypeId} {cs : List AV} {cs' : Array Value} {len cap n : Nat} {v : AV} (hc : VL ρ cs cs'.toList) (hs : cs'.size = cap * n) (hl : len ≤ cap)
    (hn : newSlice elem cs len cap n h = .ok v h') : Good P (do pure (.slice (some (← newRow elem cs')) len cap)) ρ h w v h' := by
  unfold newSlice at hn
  cases hcs : newCells elem cs h with
  | none => rw [hcs] at hn; cases hn
  | some ih =>
    obtain ⟨id, h2⟩ := ih
    rw [hcs] at hn
    cases hn
    obtain ⟨ρ', w', e1, e2, e3, e4, e5⟩ := newCells_run (P := P) hr hc hcs
    exact ⟨ρ', .slice (some ⟨w.heap.size, 0, none⟩) len cap, w', by simp only [Sem.run_bind, e1, Result.andThen_ok, Sem.run_pure], VR.slOf e3 (by omega) hl, e4, e5⟩

theorem buildSliceE_run {P : Program} {ρ : R} {h h' : H} {w : World} (hr : HR ρ h w) {t : TypeId} {len : Nat} {ps : List (Nat × AV)} {ps' : Array (Nat × Value)} {v : AV} (hp : PL ρ ps ps'.toList)
    (hb : buildSliceE P t len ps h = .ok v h') : Good P (Instr.buildSlice t len ps') ρ h w v h' := by
  unfold buildSliceE at hb
  cases hu : P.underlying t with
  | none => rw [hu] at hb; cases hb
  | some d =>
    rw [hu] at hb
    cases d with
    | slice elem =>
      dsimp only at hb
      cases hn : sizeE P elem with
      | none => rw [hn] at hb; cases hb
      | some n =>
        cases hz : zeroE P elem with
        | none => rw [hn, hz] at hb; cases hb
        | some z =>
          rw [hn, hz] at hb
          dsimp only at hb
          cases hc : (Nat.ble (len * n) 16777216 && Nat.beq z.cells.length n) with
          | false => rw [hc] at hb; cases hb
          | true =>
            rw [hc] at hb
            dsimp only [cond] at hb
            rw [Bool.and_eq_true] at hc
            have h1 := Nat.le_of_ble_eq_true hc.1
            have h2 := Nat.eq_of_beq_eq_true hc.2
            cases hf : fillE (fun i => some (i * n, n)) (zerosE z.cells len) ps with
            | none => rw [hf] at hb; cases hb
            | some cs =>
              rw [hf] at hb
              dsimp only at hb
              obtain ⟨z', hz1, hz2⟩ := zeroE_run (ρ := ρ) w hz
              have hzl := hz2.cells.length
              simp at hzl
              have hzs : z'.cells.size = n := by omega
              have hz0 := zeros_vl hz2.cells len
              rw [hzs] at hz0
              obtain ⟨cs', e1, e2⟩ := fillE_run hp hz0 hf
              have hcl : cs'.size = len * n := by
                have k1 := e2.length
                have k2 : cs.length = (zerosE z.cells len).length := by
                  have : ∀ {ps : List (Nat × AV)} {a b : List AV}, fillE (fun i => some (i * n, n)) a ps = some b → b.length = a.length := by
                    intro ps
                    induction ps with
                    | nil => intro a b h; cases h; rfl
                    | cons p ps ih =>
                      intro a b h
                      obtain ⟨i, v⟩ := p
                      unfold fillE at h
                      dsimp only at h
                      cases hq : (Nat.beq v.cells.length n && Nat.ble (i * n + v.cells.length) a.length) with
                      | false => rw [hq] at h; cases h
                      | true =>
                        rw [hq] at h
                        rw [Bool.and_eq_true] at hq
                        have q2 := Nat.le_of_ble_eq_true hq.2
                        rw [ih h]
                        simp [layOver]; omega
                  exact this hf
                have k3 := hz0.length
                simp at k1 k3
                omega
              obtain ⟨ρ', v', w', g1, g2⟩ := newSlice_run (P := P) hr e2 hcl (Nat.le_refl _) hb
              refine ⟨ρ', v', w', ?_, g2⟩
              have hrl : ¬ (len * n > 2 ^ 24) := by omega
              by_cases h0 : len * n = 0
              · have hnil : (Array.range (len * n)).map (fun i => z'.cells[i % n]!) = #[] := by rw [h0]; simp [Array.range_zero']
                rw [hnil] at e1
                simp only [Instr.buildSlice, Sem.run_bind, run_underlying hu, Result.andThen_ok, sizeE_run w hn, if_neg hrl, if_pos h0, Sem.run_pure]
                rw [h0]
                have hnil2 : (Array.range 0).map (fun i => (#[] : Array Value)[i % (#[] : Array Value).size]!) = #[] := by simp [Array.range_zero']
                rw [hnil2, e1]
                exact g1
              · simp only [Instr.buildSlice, Sem.run_bind, run_underlying hu, Result.andThen_ok, sizeE_run w hn, if_neg hrl, if_neg h0, Sem.run_pure, hz1, hzs, e1]
                exact g1
    | _ => cases hb

theorem makeSliceE_run {P : Program} {ρ : R} {h h' : H} {w : World} (hr : HR ρ h w) {t : TypeId} {len cap v : AV} {len' cap' : Value} (hl : VR ρ len len') (hc : VR ρ cap cap') (hm : makeSliceE P t len cap h = .ok v h') :
    Good P (Instr.makeSlice t len' cap') ρ h w v h' := by
  unfold makeSliceE at hm
  cases hu : P.underlying t with
  | none => rw [hu] at hm; cases hm
  | some d =>
    rw [hu] at hm
    cases d with
    | slice elem =>
      dsimp only at hm
      cases hi : P.info? elem with
      | none => rw [hi] at hm; cases hm
      | some i =>
        cases hz : zeroE P elem with
        | none => rw [hi, hz] at hm; cases hm
        | some z =>
          rw [hi, hz] at hm
          dsimp only at hm
          cases hl0 : toNatE len with
          | none => rw [hl0] at hm; cases hm
          | some l =>
            cases hc0 : toNatE cap with
            | none => rw [hl0, hc0] at hm; cases hm
            | some c =>
              rw [hl0, hc0] at hm
              dsimp only at hm
              obtain ⟨k1, rfl⟩ := toNatE_some hl0
              obtain ⟨k2, rfl⟩ := toNatE_some hc0
              cases hl with
              | int _ _ =>
                cases hc with
                | int _ _ =>
                  cases hb : (Nat.ble l c && Nat.ble c 1048576 && Nat.ble (i.bytes * c) 281474976710656 && Nat.beq z.cells.length i.size) with
                  | false => rw [hb] at hm; cases hm
                  | true =>
                    rw [hb] at hm
                    dsimp only [cond] at hm
                    simp only [Bool.and_eq_true] at hb
                    obtain ⟨⟨⟨b1, b2⟩, b3⟩, b4⟩ := hb
                    have b1 := Nat.le_of_ble_eq_true b1
                    have b2 := Nat.le_of_ble_eq_true b2
                    have b3 := Nat.le_of_ble_eq_true b3
                    have b4 := Nat.eq_of_beq_eq_true b4
                    obtain ⟨z', hz1, hz2⟩ := zeroE_run (ρ := ρ) w hz
                    have hzl := hz2.cells.length
                    simp at hzl
                    have hzs : z'.cells.size = i.size := by omega
                    have hz0 := zeros_vl hz2.cells c
                    rw [hzs] at hz0
                    have hsz : ((Array.range (c * i.size)).map fun k => z'.cells[k % i.size]!).size = c * i.size := by simp
                    obtain ⟨ρ', v', w', g1, g2⟩ := newSlice_run (P := P) hr hz0 hsz b1 hm
                    refine ⟨ρ', v', w', ?_, g2⟩
                    have wl : IntKind.i64.wrap ((l : Nat) : Int) = (l : Int) := wrap_pos l (by omega)
                    have wc : IntKind.i64.wrap ((c : Nat) : Int) = (c : Int) := wrap_pos c (by omega)
                    have hlt : ¬ ((((c : Int) < 0 || (i.bytes : Int) * (c : Int) > 2 ^ 48) || (l : Int) < 0 || (l : Int) > (c : Int)) = true) := by
                      have : (i.bytes : Int) * (c : Int) ≤ 281474976710656 := by rw [← Int.natCast_mul]; omega
                      have e48 : (2 : Int) ^ 48 = 281474976710656 := by decide
                      rw [e48]
                      simp only [Bool.or_eq_true, decide_eq_true_eq]
                      omega
                    simp only [Instr.makeSlice, Sem.run_bind, run_underlying hu, Result.andThen_ok, asInt, asIntOf, Sem.run_pure, typeInfo, run_program, hi]
                    simp only [Int.ofNat_eq_natCast, wl, wc, if_neg hlt, run_askRoom, Result.andThen_ok, Int.toNat_natCast, sizeOf, typeInfo, Sem.run_bind, run_program, hi, Sem.run_pure]
                    by_cases h0 : c * i.size = 0
                    · rw [if_pos h0]
                      have hnil : (Array.range (c * i.size)).map (fun k => z'.cells[k % i.size]!) = #[] := by rw [h0]; simp [Array.range_zero']
                      rw [hnil] at g1
                      have hnil2 : (Array.range 0).map (fun k => (#[] : Array Value)[k % (#[] : Array Value).size]!) = #[] := by simp [Array.range_zero']
                      rw [h0]
                      simp only [pure_bind]
                      rw [hnil2]
                      exact g1
                    · rw [if_neg h0]
                      simp only [Sem.run_bind, hz1, Result.andThen_ok, Sem.run_pure, hzs]
                      exact g1
    | _ => cases hm

theorem optNat_some {ρ : R} {n : Nat} {tm : M AV} {a : Act} (hg : GR ρ) (ht : TR ρ n tm a.tmps) {x : Option Operand} {k : Option Nat} (h : optNat tm x = some k) :
    (x = none ∧ k = none) ∨ ∃ o j ik, x = some o ∧ k = some j ∧ a.eval o = .int ik (j : Int) := by
  unfold optNat at h
  cases x with
  | none => cases h; exact .inl ⟨rfl, rfl⟩
  | some o =>
    dsimp only at h
    cases h1 : evT tm o with
    | none => rw [h1] at h; cases h
    | some v =>
      rw [h1] at h
      dsimp only at h
      cases h2 : toNatE v with
      | none => rw [h2] at h; cases h
      | some j =>
        rw [h2] at h
        cases h
        obtain ⟨ik, rfl⟩ := toNatE_some h2
        have := evT_vr hg ht h1
        cases hev : a.eval o with
        | int k' m' => rw [hev] at this; cases this; exact .inr ⟨o, j, ik, rfl, rfl, hev⟩
        | _ => rw [hev] at this; cases this

/-- A bound as the model has it. -/
def BR (k : Option Nat) (v : Option Value) : Prop := (k = none ∧ v = none) ∨ ∃ j ik, k = some j ∧ v = some (.int ik (j : Int))

theorem sliceBound_run {P : Program} {w : World} {ik : IntKind} {j y : Nat} (c : BoundsCode) (h : j ≤ y) : (Instr.sliceBound (.int ik (j : Int)) y c).run P w = .ok j w := by
  have h1 : (0 : Int) ≤ (j : Int) ∧ (j : Int) ≤ (y : Int) := by omega
  simp [Instr.sliceBound, asIntOf, h]

theorem sliceBounds_run {P : Program} {w : World} (b : Bool) {len : Nat} {cap : Option Nat} {cap' : Nat} {lo hi mx : Option Nat} {lo' hi' mx' : Option Value} (hl : BR lo lo') (hh : BR hi hi') (hm : BR mx mx')
    (hc : ∀ c, cap = some c → cap' = c) (hlen : len ≤ cap') {l h : Nat} {m : Option Nat} (hb : boundsE len cap lo hi mx = some (l, h, m)) :
    ∃ m', (Instr.sliceBounds b len cap' lo' hi' mx').run P w = .ok (l, h, m') w ∧ l ≤ h ∧ h ≤ m' ∧ m' ≤ cap' ∧ (∀ k, m = some k → m' = k) ∧ (m = none → m' = cap') := by
  have hcap : cap.getD len ≤ cap' := by
    cases cap with
    | none => exact hlen
    | some c => rw [hc c rfl]; exact Nat.le_refl _
  unfold boundsE at hb
  rcases hm with ⟨rfl, rfl⟩ | ⟨mj, mk, rfl, rfl⟩
  · dsimp only at hb
    cases hc0 : (Nat.ble (hi.getD len) (cap.getD len) && Nat.ble (lo.getD 0) (hi.getD len)) with
    | false => rw [hc0] at hb; cases hb
    | true =>
      rw [hc0] at hb
      cases hb
      rw [Bool.and_eq_true] at hc0
      have h1 := Nat.le_of_ble_eq_true hc0.1
      have h2 := Nat.le_of_ble_eq_true hc0.2
      refine ⟨cap', ?_, h2, by omega, Nat.le_refl _, fun k e => hc k e, fun _ => rfl⟩
      rcases hh with ⟨rfl, rfl⟩ | ⟨j, ik, rfl, rfl⟩
      · rcases hl with ⟨rfl, rfl⟩ | ⟨lj, lk, rfl, rfl⟩
        · rfl
        · have e3 := sliceBound_run (P := P) (w := w) (ik := lk) BoundsCode.sliceB (show lj ≤ len from h2)
          simp [Instr.sliceBounds, e3]
      · have e2 := sliceBound_run (P := P) (w := w) (ik := ik) (if b then BoundsCode.sliceAcap else .sliceAlen) (show j ≤ cap' from Nat.le_trans h1 hcap)
        rcases hl with ⟨rfl, rfl⟩ | ⟨lj, lk, rfl, rfl⟩
        · simp [Instr.sliceBounds, e2]
        · have e3 := sliceBound_run (P := P) (w := w) (ik := lk) BoundsCode.sliceB (show lj ≤ j from h2)
          simp [Instr.sliceBounds, e2, e3]
  · dsimp only at hb
    rcases hh with ⟨rfl, rfl⟩ | ⟨j, ik, rfl, rfl⟩
    · cases hb
    · dsimp only at hb
      cases hc0 : (Nat.ble mj (cap.getD len) && Nat.ble j mj && Nat.ble (lo.getD 0) j && okTop cap len) with
      | false => rw [hc0] at hb; cases hb
      | true =>
        rw [hc0] at hb
        cases hb
        simp only [Bool.and_eq_true] at hc0
        have h1 := Nat.le_of_ble_eq_true hc0.1.1.1
        have h2 := Nat.le_of_ble_eq_true hc0.1.1.2
        have h3 := Nat.le_of_ble_eq_true hc0.1.2
        refine ⟨mj, ?_, h3, h2, by omega, (fun k e => by cases e; rfl), (fun e => by cases e)⟩
        have e1 := sliceBound_run (P := P) (w := w) (ik := mk) (if b then BoundsCode.slice3Acap else .slice3Alen) (show mj ≤ cap' by omega)
        have e2 := sliceBound_run (P := P) (w := w) (ik := ik) BoundsCode.slice3B h2
        rcases hl with ⟨rfl, rfl⟩ | ⟨lj, lk, rfl, rfl⟩
        · simp [Instr.sliceBounds, e1, e2]
        · have e3 := sliceBound_run (P := P) (w := w) (ik := lk) BoundsCode.slice3C (show lj ≤ h from h3)
          simp [Instr.sliceBounds, e1, e2, e3]

theorem VR.resz {ρ : R} {a : AV} {v : Value} (r : VR ρ a v) (n : Nat) : VR ρ (resz n a) v := by
  cases r with
  | sl id off len cap esz b cap' x hx hp hc hl =>
    cases cap with
    | none => exact .sl id off len none esz b cap' x hx hp hc hl
    | some c => exact .sl id off len (some c) n b cap' x hx (fun c k e => ⟨(hp c k e).1, fun e => by cases e⟩) hc hl
  | sle id off esz a hx => exact .sle id off n a hx
  | slu id off esz c a x hx h0 => exact .slu id off esz c a x hx h0
  | bool b => exact .bool b
  | int k n => exact .int k n
  | str s => exact .str s
  | ptr id off b x hx hp => exact .ptr id off b x hx hp
  | nilp => exact .nilp
  | nils => exact .nils
  | map id b x hx hp => exact .map id b x hx hp
  | nilm => exact .nilm
  | fn f a c a' c' ha hc => exact .fn f a c a' c' ha hc
  | yld id b x hx hp => exact .yld id b x hx hp
  | nilf => exact .nilf
  | iface t v v' hv => exact .iface t v v' hv
  | nili => exact .nili
  | agg cs cs' hc => exact .agg cs cs' hc
  | tup cs cs' hc => exact .tup cs cs' hc
theorem VR.reszT {P : Program} {ρ : R} {a : AV} {v : Value} (r : VR ρ a v) (t : TypeId) : VR ρ (Ev.reszT P t a) v := by
  unfold Ev.reszT
  cases P.underlying t with
  | none => exact r
  | some d => cases d with
    | slice elem =>
      dsimp only
      cases sizeE P elem with
      | none => exact r
      | some n => exact r.resz n
    | _ => exact r

theorem boundsE_some {n : Nat} {lo hi mx : Option Nat} {l h : Nat} {m : Option Nat} (e : boundsE n (some n) lo hi mx = some (l, h, m)) : ∃ k, m = some k := by
  unfold boundsE at e
  cases mx with
  | none =>
    dsimp only at e
    cases hq : (Nat.ble (hi.getD n) ((some n).getD n) && Nat.ble (lo.getD 0) (hi.getD n)) with
    | false => rw [hq] at e; cases e
    | true => rw [hq] at e; cases e; exact ⟨_, rfl⟩
  | some mj =>
    cases hi with
    | none => cases e
    | some hj =>
      dsimp only at e
      cases hq : (Nat.ble mj ((some n).getD n) && Nat.ble hj mj && Nat.ble (lo.getD 0) hj && okTop (some n) n) with
      | false => rw [hq] at e; cases e
      | true => rw [hq] at e; cases e; exact ⟨_, rfl⟩

/-- A part of an array that lies in memory. -/
theorem arraySlice {P : Program} {ρ : R} {w : World} {s : Sem Value} {id : Pos} {off b l hh m' size : Nat} {m : Option Nat} {y : Option (Nat × Nat)} {v : AV} (hy : ρ id = some y) (hyp : ∀ c n, y = some (c, n) → c = b) (h : sliceOf id off size (some (l, hh, m)) = some v)
    (e2 : l ≤ hh) (e3 : hh ≤ m') (e5 : ∀ k, m = some k → m' = k) (hm : ∃ k, m = some k) (run : s.run P w = .ok (.slice (if m' = l then some ⟨b, off, none⟩ else some ⟨b, off + l * size, none⟩) (hh - l) (m' - l)) w) : Pur P s ρ w v := by
  obtain ⟨k, rfl⟩ := hm
  obtain rfl := e5 k rfl
  have h' : some (AV.sl id (bif Nat.beq m' l then off else off + l * size) (hh - l) (some (m' - l)) size) = some v := h
  cases h'
  refine ⟨_, run, ?_⟩
  by_cases hml : m' = l
  · subst hml
    rw [if_pos rfl]
    have : Nat.beq m' m' = true := Nat.beq_refl m'
    rw [this]
    exact .sl id _ _ _ _ b _ y hy (fun c k e => ⟨hyp c k e, fun e => by cases e⟩) (fun c e => by cases e; rfl) (by omega)
  · rw [if_neg hml]
    have : Nat.beq m' l = false := by
      cases hq : Nat.beq m' l with
      | false => rfl
      | true => exact absurd (Nat.eq_of_beq_eq_true hq) hml
    rw [this]
    exact .sl id _ _ _ _ b _ y hy (fun c k e => ⟨hyp c k e, fun e => by cases e⟩) (fun c e => by cases e; rfl) (by omega)

theorem sliceE_run {P : Program} {ρ : R} {w : World} {t : TypeId} {x v : AV} {x' : Value} {lo hi mx : Option Nat} {lo' hi' mx' : Option Value} (hx : VR ρ x x') (hl : BR lo lo') (hh : BR hi hi') (hm : BR mx mx')
    (h : sliceE P t x lo hi mx = some v) : Pur P (Instr.sliceAt t x' lo' hi' mx') ρ w v := by
  unfold sliceE at h
  cases hu : P.underlying t with
  | none => rw [hu] at h; cases h
  | some d =>
    rw [hu] at h
    cases d with
    | string =>
      cases hx with
      | str s =>
        dsimp only at h
        rcases hm with ⟨rfl, rfl⟩ | ⟨mj, mk, rfl, rfl⟩
        · dsimp only at h
          cases hb : (Nat.ble (hi.getD s.size) s.size && Nat.ble (lo.getD 0) (hi.getD s.size)) with
          | false => rw [hb] at h; cases h
          | true =>
            rw [hb] at h
            cases h
            have hbb : boundsE s.size (some s.size) lo hi none = some (lo.getD 0, hi.getD s.size, some s.size) := by
              unfold boundsE
              show (bif Nat.ble (hi.getD s.size) s.size && Nat.ble (lo.getD 0) (hi.getD s.size) then some (lo.getD 0, hi.getD s.size, some s.size) else none) = _
              rw [hb]
              rfl
            obtain ⟨m', e1, _⟩ := sliceBounds_run (P := P) (w := w) false (cap' := s.size) hl hh (.inl ⟨rfl, rfl⟩) (fun c e => by cases e; rfl) (Nat.le_refl _) hbb
            exact ⟨.string (s.extract (lo.getD 0) (hi.getD s.size)), by simp [Instr.sliceAt, Instr.slice, run_underlying hu, e1], .str _⟩
        · cases h
      | _ => cases h
    | slice elem =>
      cases hx with
      | sl id off len cap esz b cap' y hy hyp hcc hlc =>
        dsimp only at h
        cases hn : sizeE P elem with
        | none => rw [hn] at h; cases h
        | some n =>
          rw [hn] at h
          dsimp only at h
          cases hne : Nat.beq n esz with
          | false => rw [hne] at h; cases h
          | true =>
            rw [hne] at h
            dsimp only [cond] at h
            obtain rfl := Nat.eq_of_beq_eq_true hne
            cases hbd : boundsE len cap lo hi mx with
            | none => rw [hbd] at h; cases h
            | some lhm =>
              obtain ⟨l, hh0, m⟩ := lhm
              rw [hbd] at h
              obtain ⟨m', e1, e2, e3, e4, e5, e6⟩ := sliceBounds_run (P := P) (w := w) true (cap' := cap') hl hh hm hcc hlc hbd
              have run : (Instr.sliceAt t (.slice (some ⟨b, off, none⟩) len cap') lo' hi' mx').run P w = .ok (.slice (if m' = l then some ⟨b, off, none⟩ else some ⟨b, off + l * n, none⟩) (hh0 - l) (m' - l)) w := by
                simp [Instr.sliceAt, Instr.slice, run_underlying hu, e1, sizeE_run w hn, Addr.add_lit]
              cases m with
              | some k =>
                obtain rfl := e5 k rfl
                have h' : some (AV.sl id (bif Nat.beq m' l then off else off + l * n) (hh0 - l) (some (m' - l)) n) = some v := h
                cases h'
                refine ⟨_, run, ?_⟩
                by_cases hml : m' = l
                · subst hml
                  rw [if_pos rfl]
                  have : Nat.beq m' m' = true := Nat.beq_refl m'
                  rw [this]
                  refine .sl id _ _ _ _ b _ y hy (fun c k e => ?_) (fun c e => by cases e; rfl) (by omega)
                  obtain ⟨a1, a2⟩ := hyp c k e
                  exact ⟨a1, fun e => by cases e⟩
                · rw [if_neg hml]
                  have : Nat.beq m' l = false := by
                    cases hq : Nat.beq m' l with
                    | false => rfl
                    | true => exact absurd (Nat.eq_of_beq_eq_true hq) hml
                  rw [this]
                  refine .sl id _ _ _ _ b _ y hy (fun c k e => ?_) (fun c e => by cases e; rfl) (by omega)
                  obtain ⟨a1, a2⟩ := hyp c k e
                  exact ⟨a1, fun e => by cases e⟩
              | none =>
                obtain rfl := e6 rfl
                have hcn : cap = none := by
                  unfold boundsE at hbd
                  cases mx with
                  | none =>
                    dsimp only at hbd
                    cases hq : (Nat.ble (hi.getD len) (cap.getD len) && Nat.ble (lo.getD 0) (hi.getD len)) with
                    | false => rw [hq] at hbd; cases hbd
                    | true => rw [hq] at hbd; exact congrArg (fun x => x.2.2) (Option.some.inj hbd)
                  | some mj =>
                    cases hi with
                    | none => cases hbd
                    | some hj =>
                      dsimp only at hbd
                      cases hq : (Nat.ble mj (cap.getD len) && Nat.ble hj mj && Nat.ble (lo.getD 0) hj && okTop cap len) with
                      | false => rw [hq] at hbd; cases hbd
                      | true => rw [hq] at hbd; exact absurd (congrArg (fun x => x.2.2) (Option.some.inj hbd)) (by simp)
                cases l with
                | succ l =>
                  have h' : (bif Nat.beq (off + (l + 1) * n) 0 then none else some (AV.sl id (off + (l + 1) * n) (hh0 - (l + 1)) none n)) = some v := h
                  cases hz : Nat.beq (off + (l + 1) * n) 0 with
                  | true => rw [hz] at h'; cases h'
                  | false =>
                    rw [hz] at h'
                    cases h'
                    refine ⟨_, run, ?_⟩
                    have hnz : off + (l + 1) * n ≠ 0 := fun e => by rw [e] at hz; cases hz
                    by_cases hml : m' = l + 1
                    · have hh : hh0 - (l + 1) = 0 := by omega
                      rw [if_pos hml, hh]
                      exact .slu id _ n _ _ y hy hnz
                    · rw [if_neg hml]
                      refine .sl id _ _ none _ b _ y hy (fun c k e => ⟨(hyp c k e).1, fun _ => ?_⟩) (fun c e => by cases e) (by omega)
                      have q := (hyp c k e).2 hcn
                      have q2 : (l + 1) * n + (m' - (l + 1)) * n = m' * n := by rw [← Nat.add_mul]; congr 1; omega
                      omega
                | zero =>
                  have h' : some (AV.sl id off hh0 none n) = some v := h
                  cases h'
                  refine ⟨_, run, ?_⟩
                  have : (if m' = 0 then some (⟨b, off, none⟩ : Addr) else some ⟨b, off + 0 * n, none⟩) = some ⟨b, off, none⟩ := by simp
                  rw [this]
                  exact .sl id off _ none _ b _ y hy (fun c k e => ⟨(hyp c k e).1, fun _ => (hyp c k e).2 hcn⟩) (fun c e => by cases e) (by omega)
      | slu id off esz c0 a x0 hx hoff =>
        dsimp only at h
        cases hn : sizeE P elem with
        | none => rw [hn] at h; cases h
        | some n =>
          rw [hn] at h
          dsimp only at h
          cases hne : Nat.beq n esz with
          | false => rw [hne] at h; cases h
          | true =>
            rw [hne] at h
            dsimp only [cond] at h
            obtain rfl := Nat.eq_of_beq_eq_true hne
            cases hbd : boundsE 0 none lo hi mx with
            | none => rw [hbd] at h; cases h
            | some lhm =>
              obtain ⟨l, hh0, m⟩ := lhm
              rw [hbd] at h
              obtain ⟨m', e1, e2, e3, e4, e5, e6⟩ := sliceBounds_run (P := P) (w := w) true (cap' := c0) hl hh hm (fun c e => by cases e) (Nat.zero_le _) hbd
              have hm0 : m = none ∧ l = 0 ∧ hh0 = 0 := by
                unfold boundsE at hbd
                cases mx with
                | none =>
                  dsimp only at hbd
                  cases hq : (Nat.ble (hi.getD 0) ((none : Option Nat).getD 0) && Nat.ble (lo.getD 0) (hi.getD 0)) with
                  | false => rw [hq] at hbd; cases hbd
                  | true =>
                    rw [hq] at hbd
                    rw [Bool.and_eq_true] at hq
                    have h1 := Nat.le_of_ble_eq_true hq.1
                    have h2 := Nat.le_of_ble_eq_true hq.2
                    have h1' : hi.getD 0 ≤ 0 := h1
                    cases hbd
                    exact ⟨rfl, by omega, by omega⟩
                | some mj =>
                  cases hi with
                  | none => cases hbd
                  | some hj =>
                    dsimp only at hbd
                    rw [show okTop none 0 = false from rfl, Bool.and_false] at hbd
                    cases hbd
              obtain ⟨rfl, rfl, rfl⟩ := hm0
              obtain rfl := e6 rfl
              have run : (Instr.sliceAt t (.slice (some a) 0 m') lo' hi' mx').run P w = .ok (.slice (if m' = 0 then some a else some (a.add (0 * n))) 0 m') w := by
                simp [Instr.sliceAt, Instr.slice, run_underlying hu, e1, sizeE_run w hn]
              have h' : some (AV.sl id off 0 none n) = some v := h
              cases h'
              have : (if m' = 0 then some a else some (a.add (0 * n))) = some a := by simp [Addr.add]
              rw [this] at run
              exact ⟨_, run, .slu id off n _ _ x0 hx hoff⟩
      | sle id off esz a hx =>
        dsimp only at h
        cases hn : sizeE P elem with
        | none => rw [hn] at h; cases h
        | some n =>
          rw [hn] at h
          dsimp only at h
          cases hne : Nat.beq n esz with
          | false => rw [hne] at h; cases h
          | true =>
            rw [hne] at h
            dsimp only [cond] at h
            obtain rfl := Nat.eq_of_beq_eq_true hne
            cases hbd : boundsE 0 (some 0) lo hi mx with
            | none => rw [hbd] at h; cases h
            | some lhm =>
              obtain ⟨l, hh0, m⟩ := lhm
              rw [hbd] at h
              obtain ⟨m', e1, e2, e3, e4, e5, e6⟩ := sliceBounds_run (P := P) (w := w) true (cap' := 0) hl hh hm (fun c e => by cases e; rfl) (Nat.le_refl 0) hbd
              obtain ⟨k, rfl⟩ := boundsE_some hbd
              obtain rfl := e5 k rfl
              have z1 : m' = 0 := by omega
              have z2 : hh0 = 0 := by omega
              have z3 : l = 0 := by omega
              subst z1 z2 z3
              have run : (Instr.sliceAt t (.slice (some a) 0 0) lo' hi' mx').run P w = .ok (.slice (some a) 0 0) w := by
                simp [Instr.sliceAt, Instr.slice, run_underlying hu, e1, sizeE_run w hn]
              have h' : some (AV.sl id off 0 (some 0) n) = some v := h
              cases h'
              exact ⟨_, run, .sle id off n a hx⟩
      | nils =>
        dsimp only at h
        cases hn : sizeE P elem with
        | none => rw [hn] at h; cases h
        | some n =>
          cases hbd : boundsE 0 (some 0) lo hi mx with
          | none => rw [hn, hbd] at h; cases h
          | some lhm =>
            obtain ⟨l, hh0, m⟩ := lhm
            rw [hn, hbd] at h
            cases h
            obtain ⟨m', e1, e2, e3, e4, e5, e6⟩ := sliceBounds_run (P := P) (w := w) true (cap' := 0) hl hh hm (fun c e => by cases e; rfl) (Nat.le_refl _) hbd
            have hm0 : m' = 0 := by omega
            have hl0 : l = 0 := by omega
            have hh1 : hh0 = 0 := by omega
            subst hm0 hl0 hh1
            exact ⟨.slice none 0 0, by simp [Instr.sliceAt, Instr.slice, run_underlying hu, e1, sizeE_run w hn], .nils⟩
      | _ => cases h
    | array n elem =>
      cases hx with
      | ptr id off b y hy hyp =>
        dsimp only at h
        cases hn : sizeE P elem with
        | none => rw [hn] at h; cases h
        | some size =>
          rw [hn] at h
          dsimp only at h
          cases hbd : boundsE n (some n) lo hi mx with
          | none => rw [hbd] at h; cases h
          | some lhm =>
            obtain ⟨l, hh0, m⟩ := lhm
            rw [hbd] at h
            obtain ⟨m', e1, e2, e3, e4, e5, e6⟩ := sliceBounds_run (P := P) (w := w) false (cap' := n) hl hh hm (fun c e => by cases e; rfl) (Nat.le_refl _) hbd
            exact arraySlice hy hyp h e2 e3 e5 (boundsE_some hbd) (by simp [Instr.sliceAt, run_underlying hu, Instr.sureAddr, e1, sizeE_run w hn, Addr.add_lit]; split <;> rfl)
      | _ => cases h
    | pointer arr =>
      cases hx with
      | ptr id off b y hy hyp =>
        dsimp only at h
        cases ha : P.underlying arr with
        | none => rw [ha] at h; cases h
        | some da =>
          rw [ha] at h
          cases da with
          | array n elem =>
            dsimp only at h
            cases hn : sizeE P elem with
            | none => rw [hn] at h; cases h
            | some size =>
              rw [hn] at h
              dsimp only at h
              cases hbd : boundsE n (some n) lo hi mx with
              | none => rw [hbd] at h; cases h
              | some lhm =>
                obtain ⟨l, hh0, m⟩ := lhm
                rw [hbd] at h
                obtain ⟨m', e1, e2, e3, e4, e5, e6⟩ := sliceBounds_run (P := P) (w := w) false (cap' := n) hl hh hm (fun c e => by cases e; rfl) (Nat.le_refl _) hbd
                exact arraySlice hy hyp h e2 e3 e5 (boundsE_some hbd) (by simp [Instr.sliceAt, Instr.slice, run_underlying hu, run_underlying ha, asAddr, e1, sizeE_run w hn, Addr.add_lit]; split <;> rfl)
          | _ => cases h
      | _ => cases h
    | _ => cases h

end Go.Ev
