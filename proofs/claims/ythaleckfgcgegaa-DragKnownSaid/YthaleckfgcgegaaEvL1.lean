/-
  THE LIMIT OF THE EVALUATOR: what a run comes to with any fuel that is enough.
-/
import Derived.Test.YthaleckfgcgegaaEvO3
namespace Go.Ev

/-- From some number on. -/
def Evt (p : Nat → Prop) : Prop := ∃ n, ∀ m, n ≤ m → p m
theorem Evt.of {p : Nat → Prop} (h : ∀ n, p n) : Evt p := ⟨0, fun m _ => h m⟩
theorem Evt.and {p q : Nat → Prop} (a : Evt p) (b : Evt q) : Evt fun n => p n ∧ q n :=
  let ⟨n, hn⟩ := a; let ⟨m, hm⟩ := b; ⟨max n m, fun k hk => ⟨hn k (by omega), hm k (by omega)⟩⟩
theorem Evt.mono {p q : Nat → Prop} (h : ∀ n, p n → q n) (a : Evt p) : Evt q := let ⟨n, hn⟩ := a; ⟨n, fun m hm => h m (hn m hm)⟩
theorem Evt.some {p : Nat → Prop} (a : Evt p) : ∃ n, p n := let ⟨n, hn⟩ := a; ⟨n, hn n (Nat.le_refl n)⟩

/-- With so much fuel, and contracts. -/
noncomputable def EE (P : Program) (K : List Con) (n : Nat) : Evs := withCons K (evc P K n)
/-- No contract is of this function. -/
def noK (K : List Con) (g : FuncId) : Bool := K.all fun c => !Nat.beq c.g g
theorem tryCons_no {e : Tgt → H → RV} {g : FuncId} {args : List AV} {h : H} : ∀ {K : List Con}, noK K g = true → tryCons e g args h K = e (.fn g args) h
  | [], _ => rfl
  | c :: r, hk => by
    have hk' : (!Nat.beq c.g g && noK r g) = true := hk
    rw [Bool.and_eq_true] at hk'
    have hb : Nat.beq c.g g = false := by cases hx : Nat.beq c.g g with | false => rfl | true => rw [hx] at hk'; exact absurd hk'.1 (by decide)
    unfold tryCons
    rw [hb]
    exact tryCons_no hk'.2

open Classical in
noncomputable def omC (P : Program) (K : List Con) (c : Code) (fs : FS) (h : H) : RJ :=
  if hx : ∃ r : J × FS × H, Evt fun m => (EE P K m).code c fs h = .ok r.1 r.2.1 r.2.2 then .ok (Classical.choose hx).1 (Classical.choose hx).2.1 (Classical.choose hx).2.2 else .no
open Classical in
noncomputable def omV (P : Program) (K : List Con) (t : Tgt) (h : H) : RV :=
  if hx : ∃ r : AV × H, Evt fun m => (EE P K m).call t h = .ok r.1 r.2 then .ok (Classical.choose hx).1 (Classical.choose hx).2 else .no
noncomputable def om (P : Program) (K : List Con) : Evs := ⟨omC P K, omV P K⟩

theorem om_code {P : Program} {K : List Con} {c : Code} {fs fs' : FS} {h h' : H} {j : J} (e : (om P K).code c fs h = .ok j fs' h') : Evt fun m => (EE P K m).code c fs h = .ok j fs' h' := by
  have e' : omC P K c fs h = .ok j fs' h' := e
  unfold omC at e'
  split at e'
  · rename_i hx; cases e'; exact Classical.choose_spec hx
  · cases e'
theorem om_call {P : Program} {K : List Con} {t : Tgt} {h h' : H} {v : AV} (e : (om P K).call t h = .ok v h') : Evt fun m => (EE P K m).call t h = .ok v h' := by
  have e' : omV P K t h = .ok v h' := e
  unfold omV at e'
  split at e'
  · rename_i hx; cases e'; exact Classical.choose_spec hx
  · cases e'
theorem om_code_of {P : Program} {K : List Con} {c : Code} {fs fs' : FS} {h h' : H} {j : J} (e : Evt fun m => (EE P K m).code c fs h = .ok j fs' h') : (om P K).code c fs h = .ok j fs' h' := by
  have hx : ∃ r : J × FS × H, Evt fun m => (EE P K m).code c fs h = .ok r.1 r.2.1 r.2.2 := ⟨(j, fs', h'), e⟩
  show omC P K c fs h = _
  unfold omC
  rw [dif_pos hx]
  obtain ⟨n, h1, h2⟩ := ((Classical.choose_spec hx).and e).some
  exact h1.symm.trans h2
theorem om_call_of {P : Program} {K : List Con} {t : Tgt} {h h' : H} {v : AV} (e : Evt fun m => (EE P K m).call t h = .ok v h') : (om P K).call t h = .ok v h' := by
  have hx : ∃ r : AV × H, Evt fun m => (EE P K m).call t h = .ok r.1 r.2 := ⟨(v, h'), e⟩
  show omV P K t h = _
  unfold omV
  rw [dif_pos hx]
  obtain ⟨n, h1, h2⟩ := ((Classical.choose_spec hx).and e).some
  exact h1.symm.trans h2

section
variable {P : Program} {K : List Con}
def CV (P : Program) (K : List Con) (F : Evs → RV) : Prop := ∀ v h, F (om P K) = .ok v h → Evt fun m => F (EE P K m) = .ok v h
def CF (P : Program) (K : List Con) (F : Evs → RF) : Prop := ∀ fs h, F (om P K) = .ok fs h → Evt fun m => F (EE P K m) = .ok fs h
def CJ (P : Program) (K : List Con) (F : Evs → RJ) : Prop := ∀ j fs h, F (om P K) = .ok j fs h → Evt fun m => F (EE P K m) = .ok j fs h

theorem CV.const (r : RV) : CV P K fun _ => r := fun _ _ e => .of fun _ => e
theorem CF.const (r : RF) : CF P K fun _ => r := fun _ _ e => .of fun _ => e
theorem CJ.const (r : RJ) : CJ P K fun _ => r := fun _ _ _ e => .of fun _ => e
theorem CV.call (t : Tgt) (h : H) : CV P K fun ih => ih.call t h := fun _ _ e => om_call e
theorem CJ.code (c : Code) (fs : FS) (h : H) : CJ P K fun ih => ih.code c fs h := fun _ _ _ e => om_code e

/-- What is made of a call's outcome. -/
theorem CV.bindF {F : Evs → RV} (hF : CV P K F) {G : Evs → RV → RF} (hn : ∀ ih, G ih .no = .no) (hG : ∀ v h, CF P K fun ih => G ih (.ok v h)) : CF P K fun ih => G ih (F ih) := fun fs h e => by
  cases hr : F (om P K) with
  | no => have e' : G (om P K) (F (om P K)) = .ok fs h := e; rw [hr, hn] at e'; cases e'
  | ok v h1 =>
    have e' : G (om P K) (F (om P K)) = .ok fs h := e
    rw [hr] at e'
    refine ((hF _ _ hr).and (hG v h1 fs h e')).mono fun n ⟨a, b⟩ => ?_
    show G (EE P K n) (F (EE P K n)) = _
    rw [a]; exact b
theorem CV.bindV {F : Evs → RV} (hF : CV P K F) {G : Evs → RV → RV} (hn : ∀ ih, G ih .no = .no) (hG : ∀ v h, CV P K fun ih => G ih (.ok v h)) : CV P K fun ih => G ih (F ih) := fun v h e => by
  cases hr : F (om P K) with
  | no => have e' : G (om P K) (F (om P K)) = .ok v h := e; rw [hr, hn] at e'; cases e'
  | ok v1 h1 =>
    have e' : G (om P K) (F (om P K)) = .ok v h := e
    rw [hr] at e'
    refine ((hF _ _ hr).and (hG v1 h1 v h e')).mono fun n ⟨a, b⟩ => ?_
    show G (EE P K n) (F (EE P K n)) = _
    rw [a]; exact b
theorem CV.bindJ {F : Evs → RV} (hF : CV P K F) {G : Evs → RV → RJ} (hn : ∀ ih, G ih .no = .no) (hG : ∀ v h, CJ P K fun ih => G ih (.ok v h)) : CJ P K fun ih => G ih (F ih) := fun j fs h e => by
  cases hr : F (om P K) with
  | no => have e' : G (om P K) (F (om P K)) = .ok j fs h := e; rw [hr, hn] at e'; cases e'
  | ok v1 h1 =>
    have e' : G (om P K) (F (om P K)) = .ok j fs h := e
    rw [hr] at e'
    refine ((hF _ _ hr).and (hG v1 h1 j fs h e')).mono fun n ⟨a, b⟩ => ?_
    show G (EE P K n) (F (EE P K n)) = _
    rw [a]; exact b
theorem CJ.bindJ {F : Evs → RJ} (hF : CJ P K F) {G : Evs → RJ → RJ} (hn : ∀ ih, G ih .no = .no) (hG : ∀ j fs h, CJ P K fun ih => G ih (.ok j fs h)) : CJ P K fun ih => G ih (F ih) := fun j fs h e => by
  cases hr : F (om P K) with
  | no => have e' : G (om P K) (F (om P K)) = .ok j fs h := e; rw [hr, hn] at e'; cases e'
  | ok j1 f1 h1 =>
    have e' : G (om P K) (F (om P K)) = .ok j fs h := e
    rw [hr] at e'
    refine ((hF _ _ _ hr).and (hG j1 f1 h1 j fs h e')).mono fun n ⟨a, b⟩ => ?_
    show G (EE P K n) (F (EE P K n)) = _
    rw [a]; exact b
theorem CJ.bindV {F : Evs → RJ} (hF : CJ P K F) {G : Evs → RJ → RV} (hn : ∀ ih, G ih .no = .no) (hG : ∀ j fs h, CV P K fun ih => G ih (.ok j fs h)) : CV P K fun ih => G ih (F ih) := fun v h e => by
  cases hr : F (om P K) with
  | no => have e' : G (om P K) (F (om P K)) = .ok v h := e; rw [hr, hn] at e'; cases e'
  | ok j1 f1 h1 =>
    have e' : G (om P K) (F (om P K)) = .ok v h := e
    rw [hr] at e'
    refine ((hF _ _ _ hr).and (hG j1 f1 h1 v h e')).mono fun n ⟨a, b⟩ => ?_
    show G (EE P K n) (F (EE P K n)) = _
    rw [a]; exact b
theorem CF.bindJ {F : Evs → RF} (hF : CF P K F) {G : RF → RJ} (hn : G .no = .no) : CJ P K fun ih => G (F ih) := fun j fs h e => by
  cases hr : F (om P K) with
  | no => have e' : G (F (om P K)) = .ok j fs h := e; rw [hr, hn] at e'; cases e'
  | ok f1 h1 =>
    have e' : G (F (om P K)) = .ok j fs h := e
    rw [hr] at e'
    refine (hF _ _ hr).mono fun n a => ?_
    show G (F (EE P K n)) = _
    rw [a]; exact e'

theorem callV_cv (f : AV) (args : List AV) (h : H) : CV P K fun ih => callV P ih f args h := by
  cases f with
  | fn g first cap =>
    cases hb : plainB P g with
    | true =>
      have e : (fun ih => callV P ih (.fn g first cap) args h) = fun ih => ih.call (.fn g (first ++ (args ++ cap))) h := by
        funext ih; show (bif plainB P g then ih.call (.fn g (first ++ (args ++ cap))) h else .no) = _; rw [hb]; rfl
      rw [e]; exact .call _ _
    | false =>
      have e : (fun ih => callV P ih (.fn g first cap) args h) = fun _ => RV.no := by
        funext ih; show (bif plainB P g then ih.call (.fn g (first ++ (args ++ cap))) h else .no) = _; rw [hb]; rfl
      rw [e]; exact .const _
  | yld id => exact .call _ _
  | _ => exact .const _

theorem callE_cv (tm : M AV) (ty : TypeId) (c : Call) (h : H) : CV P K fun ih => callE P ih tm ty c h := by
  unfold callE
  cases evL tm c.args.toList with
  | none => exact .const _
  | some args =>
    dsimp only
    cases c.callee with
    | builtin b => exact .const _
    | value f =>
      dsimp only
      cases evT tm f with
      | none => exact .const _
      | some f => exact callV_cv f args h
    | invoke _ _ => exact .const _

theorem execE_cv (tm : M AV) (ty : TypeId) (op : Op) (h : H) : CV P K fun ih => execE P ih tm ty op h := by
  cases op with
  | call c => exact callE_cv tm ty c h
  | _ => exact .const _

theorem putE_cf (dst : Option Tmp) (v : AV) (fs : FS) (h : H) {k : Evs → FS → H → RF} (hk : ∀ fs h, CF P K fun ih => k ih fs h) : CF P K fun ih => putE dst v fs h (k ih) := by
  cases dst with
  | none => exact hk fs h
  | some d =>
    obtain ⟨fn, n, tm, defs, round⟩ := fs
    cases hb : Nat.ble (Nat.succ d) n with
    | false =>
      have e : (fun ih => putE (some d) v ⟨fn, n, tm, defs, round⟩ h (k ih)) = fun _ => RF.no := by
        funext ih; unfold putE; dsimp only; rw [hb]; rfl
      rw [e]; exact .const _
    | true =>
      cases hs : tm.set d v with
      | none =>
        have e : (fun ih => putE (some d) v ⟨fn, n, tm, defs, round⟩ h (k ih)) = fun _ => RF.no := by
          funext ih; unfold putE; dsimp only; rw [hb, hs]; rfl
        rw [e]; exact .const _
      | some tm2 =>
        have e : (fun ih => putE (some d) v ⟨fn, n, tm, defs, round⟩ h (k ih)) = fun ih => k ih ⟨fn, n, tm2, defs, round⟩ h := by
          funext ih; unfold putE; dsimp only; rw [hb, hs]; rfl
        rw [e]; exact hk _ _

theorem goE_cf (dst : Option Tmp) (fs : FS) {k : Evs → FS → H → RF} (hk : ∀ fs h, CF P K fun ih => k ih fs h) {r : Evs → RV} (hr : CV P K r) : CF P K fun ih => goE dst fs (k ih) (r ih) :=
  hr.bindF (G := fun ih x => goE dst fs (k ih) x) (fun _ => rfl) fun v h => putE_cf dst v fs h hk

theorem opsE_cf (ops : Array Oper) : ∀ (l : List Oper) (fs : FS) (h : H), CF P K fun ih => opsE P ih ops l fs h
  | [], fs, h => .const _
  | o :: l, fs, h => by
    show CF P K fun ih => oneE P ih ops o fs h (opsE P ih ops l)
    unfold oneE
    cases wantE ops fs.tm o.guard with
    | none => exact .const _
    | some b =>
      cases b with
      | true => exact goE_cf o.dst fs (k := fun ih => opsE P ih ops l) (fun fs h => opsE_cf ops l fs h) (execE_cv _ _ _ _)
      | false => exact putE_cf o.dst _ fs h (k := fun ih => opsE P ih ops l) (fun fs h => opsE_cf ops l fs h)

theorem opsD_cf (ops : Array Oper) : ∀ (l : List (Oper × Bar)) (fs : FS) (h : H), CF P K fun ih => opsD P ih ops l fs h
  | [], fs, h => .const _
  | (o, bar) :: l, fs, h => by
    show CF P K fun ih => oneD P ih ops bar o fs h (opsD P ih ops l)
    unfold oneD
    cases wantE ops fs.tm o.guard with
    | none => exact .const _
    | some b =>
      cases b with
      | true =>
        have hx : CV P K fun ih => unmark bar fs.tm o.op h (execE P ih fs.tm o.type o.op (marked h)) := (execE_cv _ _ _ _).bindV (G := fun _ x => unmark bar fs.tm o.op h x) (fun _ => rfl) (fun _ _ => .const _)
        exact goE_cf o.dst fs (k := fun ih => opsD P ih ops l) (fun fs h => opsD_cf ops l fs h) hx
      | false => exact putE_cf o.dst _ fs h (k := fun ih => opsD P ih ops l) (fun fs h => opsD_cf ops l fs h)

theorem regionE_cf (ops : Array Oper) (draw : Bool) (fs : FS) (h : H) : CF P K fun ih => regionE P ih ops draw fs h := by
  cases draw with
  | false => exact opsE_cf ops _ fs h
  | true =>
    unfold regionE
    dsimp only
    cases drawn ops with
    | none => exact .const _
    | some l => exact opsD_cf ops l fs h

theorem loopE_cj (fv : AV) (params : Array Tmp) (assign body : Code) (d : Pos) (fs : FS) (h : H) : CJ P K fun ih => loopE P ih fv params assign body d fs h := by
  obtain ⟨fn, n, tm, defs, round⟩ := fs
  unfold loopE
  dsimp only
  cases newObj (.loop .ready .norm fn n tm params assign body d) h with
  | none => exact .const _
  | some lh =>
    obtain ⟨l, h2⟩ := lh
    exact (callV_cv fv [.yld l] h2).bindJ (G := fun _ x => endLoopE l ⟨fn, n, tm, defs, round⟩ x) (fun _ => rfl) fun _ _ => .const _

theorem rangeE_cj (f : Operand) (params : Array Tmp) (assign body : Code) (fs : FS) (h : H) : CJ P K fun ih => rangeE P ih f params assign body fs h := by
  obtain ⟨fn, n, tm, defs, round⟩ := fs
  unfold rangeE
  dsimp only
  cases evT tm f with
  | none => exact .const _
  | some fv =>
    dsimp only
    cases round with
    | none =>
      dsimp only
      cases newObj .dfr h with
      | none => exact .const _
      | some dh => exact loopE_cj _ _ _ _ _ _ _
    | some l =>
      dsimp only
      cases getObj l h with
      | none => exact .const _
      | some o => cases o with
        | loop => exact loopE_cj _ _ _ _ _ _ _
        | _ => exact .const _

theorem thenE_cj {k : Evs → FS → H → RJ} (hk : ∀ fs h, CJ P K fun ih => k ih fs h) {r : Evs → RJ} (hr : CJ P K r) : CJ P K fun ih => thenE (k ih) (r ih) :=
  hr.bindJ (G := fun ih x => thenE (k ih) x) (fun _ => rfl) fun j fs h => by
    cases j with
    | norm => exact hk fs h
    | _ => exact .const _

theorem codeE_cj (c : Code) (fs : FS) (h : H) : CJ P K fun ih => codeE P ih c fs h := by
  cases c with
  | region id ops draw => exact (regionE_cf ops draw fs h).bindJ (G := normE) rfl
  | seq a b => exact thenE_cj (k := fun ih => ih.code b) (fun fs h => .code b fs h) (.code a fs h)
  | cond c a b =>
    show CJ P K fun ih => condE ih c a b fs h
    unfold condE
    cases evT fs.tm c with
    | none => exact .const _
    | some v =>
      dsimp only
      cases asB v with
      | none => exact .const _
      | some t => exact .code _ fs h
  | block id b => exact (CJ.code b fs h).bindJ (G := fun _ x => outE id x) (fun _ => rfl) fun _ _ _ => .const _
  | loop b => exact thenE_cj (k := fun ih => ih.code (.loop b)) (fun fs h => .code (.loop b) fs h) (.code b fs h)
  | rangeFunc f params assign body => exact rangeE_cj f params assign body fs h
  | scope b => exact .code b fs h
  | _ => exact .const _

theorem om_code_step {c : Code} {fs fs' : FS} {h h' : H} {j : J} (e : codeE P (om P K) c fs h = .ok j fs' h') : (om P K).code c fs h = .ok j fs' h' := by
  obtain ⟨n, hn⟩ := codeE_cj c fs h j fs' h' e
  refine om_code_of ⟨n + 1, fun m hm => ?_⟩
  obtain ⟨k, rfl⟩ : ∃ k, m = k + 1 := ⟨m - 1, by omega⟩
  exact hn k (by omega)

theorem callFnE_cv (g : FuncId) (args : List AV) (h : H) : CV P K fun ih => callFnE P ih g args h := by
  unfold callFnE
  cases P.funcs[g]? with
  | none => exact .const _
  | some fn =>
    dsimp only
    cases fn.body with
    | none => exact .const _
    | some body =>
      dsimp only
      cases (Nat.ble args.length fn.ntmps && Nat.ble fn.ntmps 384) with
      | false => exact .const _
      | true =>
        dsimp only [cond]
        cases fillM baseRows 0 args with
        | none => exact .const _
        | some tm =>
          dsimp only
          have e : (fun ih : Evs => forceNat fn.ntmps fun n => leaveE P fn.results.toList (ih.code body ⟨g, n, tm, [], none⟩ h)) = fun ih : Evs => leaveE P fn.results.toList (ih.code body ⟨g, fn.ntmps, tm, [], none⟩ h) := by
            funext ih; rw [forceNat_eq]
          rw [e]
          exact (CJ.code body _ h).bindV (G := fun _ x => leaveE P fn.results.toList x) (fun _ => rfl) fun _ _ _ => .const _

theorem endRoundE_cv {l : Pos} {r : Evs → RJ} (hr : CJ P K r) : CV P K fun ih => endRoundE l (r ih) :=
  hr.bindV (G := fun _ x => endRoundE l x) (fun _ => rfl) fun _ _ _ => .const _

theorem bodyE_cv (l : Pos) (body : Code) {r : Evs → RJ} (hr : CJ P K r) : CV P K fun ih => bodyE ih l body (r ih) :=
  hr.bindV (G := fun ih x => bodyE ih l body x) (fun _ => rfl) fun j fs h => by
    cases j with
    | norm =>
      unfold bodyE
      dsimp only
      cases getObj l h with
      | none => exact .const _
      | some o => cases o with
        | loop st pend fn n tm params assign body' d =>
          cases st with
          | ready =>
            dsimp only
            cases setObj l (.loop .busy pend fn n tm params assign body' d) h with
            | none => exact .const _
            | some h2 => exact endRoundE_cv (.code body fs h2)
          | _ => exact .const _
        | _ => exact .const _
    | _ => exact .const _

theorem callYldE_cv (l : Pos) (args : List AV) (h : H) : CV P K fun ih => callYldE ih l args h := by
  unfold callYldE
  cases getObj l h with
  | none => exact .const _
  | some o => cases o with
    | loop st pend fn n tm params assign body d =>
      dsimp only
      cases setParams n params.toList args tm with
      | none => exact .const _
      | some tm2 => exact bodyE_cv l body (.code assign _ h)
    | _ => exact .const _

theorem tgtE_cv (t : Tgt) (h : H) : CV P K fun ih => tgtE P ih t h := by
  cases t with
  | yld l args => exact callYldE_cv l args h
  | fn g args => exact (callFnE_cv g args (marked h)).bindV (G := fun _ x => pureCall h x) (fun _ => rfl) fun _ _ => .const _

/-- No contract stands in the way. -/
def free (K : List Con) : Tgt → Bool
  | .fn g _ => noK K g
  | .yld _ _ => true
theorem om_call_step {t : Tgt} {h h' : H} {v : AV} (hf : free K t = true) (e : tgtE P (om P K) t h = .ok v h') : (om P K).call t h = .ok v h' := by
  obtain ⟨n, hn⟩ := tgtE_cv t h v h' e
  refine om_call_of ⟨n + 1, fun m hm => ?_⟩
  obtain ⟨k, rfl⟩ : ∃ k, m = k + 1 := ⟨m - 1, by omega⟩
  cases t with
  | fn g args =>
    show tryCons (evc P K (k + 1)).call g args h K = _
    rw [tryCons_no hf]
    exact hn k (by omega)
  | yld l args => exact hn k (by omega)
/-- What a contract says. -/
theorem om_con {c : Con} {args : List AV} {h h' : H} {v : AV} (e : applyCon c args h = .ok v h') {r : List Con} : (om P (c :: r)).call (.fn c.g args) h = .ok v h' := by
  refine om_call_of (.of fun n => ?_)
  show tryCons (evc P (c :: r) n).call c.g args h (c :: r) = _
  unfold tryCons
  rw [show Nat.beq c.g c.g = true from Nat.beq_refl _]
  show (match applyCon c args h with | .ok v h' => RV.ok v h' | .no => tryCons (evc P (c :: r) n).call c.g args h r) = _
  rw [e]

/-- ████ WHAT THE LIMIT FINDS IS WHAT THE MODEL's PROGRAM DOES ████ -/
theorem om_ok (hm : P.follows .mixedOrders = true) (hK : ∀ c ∈ K, ConOK P c) {t : Tgt} {h h' : H} {v : AV} (e : (om P K).call t h = .ok v h') : TgtOK P t h v h' := by
  obtain ⟨n, hn⟩ := (om_call e).some
  exact withCons_ok (evc_ok hm hK n).2 hK t h v h' hn
end

/-- Code without its loops: by the text's own shape. -/
noncomputable def codeS (P : Program) (ω : Evs) : Code → FS → H → RJ
  | .skip, fs, h => .ok .norm fs h
  | .label _, fs, h => .ok .norm fs h
  | .region _ ops draw, fs, h => normE (regionE P ω ops draw fs h)
  | .seq a b, fs, h => thenE (codeS P ω b) (codeS P ω a fs h)
  | .cond c a b, fs, h => match evT fs.tm c with
    | some v => match asB v with
      | some t => bif t then codeS P ω a fs h else codeS P ω b fs h
      | none => .no
    | none => .no
  | .block id b, fs, h => outE id (codeS P ω b fs h)
  | .loop b, fs, h => ω.code (.loop b) fs h
  | .rangeFunc f params assign body, fs, h => rangeE P ω f params assign body fs h
  | .exit id, fs, h => .ok (.exit id) fs h
  | .scope b, fs, h => codeS P ω b fs h
  | .ret, fs, h => .ok .ret fs h
  | .goto _, _, _ => .no
  | .refuse _, _, _ => .no

theorem codeS_om {P : Program} {K : List Con} : ∀ (c : Code) {fs fs' : FS} {h h' : H} {j : J}, codeS P (om P K) c fs h = .ok j fs' h' → (om P K).code c fs h = .ok j fs' h'
  | .skip, _, _, _, _, _, e => om_code_step e
  | .label _, _, _, _, _, _, e => om_code_step e
  | .region _ _ _, _, _, _, _, _, e => om_code_step e
  | .seq a b, fs, fs', h, h', j, e => by
    refine om_code_step (show thenE ((om P K).code b) ((om P K).code a fs h) = .ok j fs' h' from ?_)
    have e' : thenE (codeS P (om P K) b) (codeS P (om P K) a fs h) = .ok j fs' h' := e
    rcases thenE_some e' with ⟨f1, h1, e1, e2⟩ | ⟨hj, e1⟩
    · rw [codeS_om a e1]; exact codeS_om b e2
    · rw [codeS_om a e1]; cases j <;> first | exact absurd rfl hj | rfl
  | .cond c a b, fs, fs', h, h', j, e => by
    refine om_code_step (show condE (om P K) c a b fs h = .ok j fs' h' from ?_)
    unfold codeS at e
    unfold condE
    cases hc : evT fs.tm c with
    | none => rw [hc] at e; cases e
    | some v =>
      rw [hc] at e
      dsimp only at e ⊢
      cases hb : asB v with
      | none => rw [hb] at e; cases e
      | some t =>
        rw [hb] at e
        cases t with
        | true => exact codeS_om a e
        | false => exact codeS_om b e
  | .block id b, fs, fs', h, h', j, e => by
    refine om_code_step (show outE id ((om P K).code b fs h) = .ok j fs' h' from ?_)
    have e' : outE id (codeS P (om P K) b fs h) = .ok j fs' h' := e
    cases hr : codeS P (om P K) b fs h with
    | no => rw [hr] at e'; cases e'
    | ok j1 f1 h1 => rw [codeS_om b hr]; rw [hr] at e'; exact e'
  | .loop b, _, _, _, _, _, e => e
  | .rangeFunc _ _ _ _, _, _, _, _, _, e => om_code_step e
  | .exit _, _, _, _, _, _, e => om_code_step e
  | .scope b, _, _, _, _, _, e => om_code_step (codeS_om b e)
  | .ret, _, _, _, _, _, e => om_code_step e
  | .goto _, _, _, _, _, _, e => by cases e
  | .refuse _, _, _, _, _, _, e => by cases e

end Go.Ev
