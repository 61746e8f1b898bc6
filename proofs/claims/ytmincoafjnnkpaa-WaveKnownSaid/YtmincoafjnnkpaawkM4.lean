/- The closed statement WaveKnown: the examples of the chapter; no condition. -/
import Derived.Test.YtmincoafjnnkpaawkM3
import Derived.Test.YtmincoafjnnkpaaChecked
import Derived.Eval
import Derived.KernelRfl
import Derived.Test.YtmincoafjnnkpaaRows
import Derived.WalkKit
import Derived.ProofKit
import Derived.OpenShut
set_option linter.all false
/- EvZr -/
section
/-
  THE CLOSED STATEMENT, RUN BY THE KERNEL.
-/
namespace Go.Proofs.Ytmincoafjnnkpaa
open Go.Ev
theorem mixed : Try.prog.follows .mixedOrders = true := Checked.mixed Try.checked
set_option maxRecDepth 100000
set_option maxHeartbeats 0
noncomputable def cD : Con := ⟨14, [], [], (.bool true), []⟩
theorem cD_run : chk cD ((evc Try.prog [] 100000).call (.fn cD.g cD.args) (smallH cD.tb)) = true := by kernel_rfl
theorem cD_ok : ConOK Try.prog cD := con_run (P := Try.prog) mixed (cons := []) (n := 100000) (c := cD) (fun _ h => by cases h) cD_run
end Go.Proofs.Ytmincoafjnnkpaa
end

/- EvZb -/
section
/- The closed statement WaveKnown: the examples of the chapter; no condition. -/
namespace Go.Proofs.Ytmincoafjnnkpaa.waveKnown
open Go.ChangeShapes Go.WideShapes Go.ChangeAt Go.RowKit Go.Ev
set_option maxRecDepth 100000
set_option maxHeartbeats 0

theorem own : ownKnob Try.prog.godebug = none := by kernel_rfl

theorem ran (W : World) : (om Try.prog [cD]).call (.fn 14 []) (startW W) = .ok (.bool true) (startW W) := by
  refine om_con (c := cD) (r := []) ?_
  rfl
theorem walk (W : World) : Calls Try.prog 14 #[] W fun e w' => e = .returned (.bool true) ∧ Grown W w' :=
  (startW_true (P := Try.prog) mixed (K := [cD]) (fun c hc => by
    have : c = cD := List.mem_singleton.1 hc
    rw [this]; exact cD_ok) (ran W) (args' := #[]) .nil).mono fun e W' ⟨he, hgr, _⟩ => ⟨he, hgr⟩

theorem lifted (os : Os) (started : os.Started) (H : Type) (enc : TypeId × Value → H) :
    ReturnsInHanded {} Try.checked os 14 .any (Rows.waveKnownSpec.pre6 enc Try.prog Try.f14 Rows.waveKnownRow.domain false) (Rows.waveKnownSpec.post enc Try.prog Try.f14 false true false false) := by
  refine returnsInHanded_of_change (C := Try.checked) own started (by kernel_rfl) Try.func14
    (ChangeSpec.witness6 (enc := enc) (C := Try.checked) false ⟨#[], #[], []⟩ 8 (by kernel_rfl) (by kernel_rfl) (by kernel_rfl) (by kernel_rfl)) ?_
  intro W base args ds gs before hval0 hW hcnd _
  have hW' := hW
  obtain ⟨p, q, hA0, hV, rfl, hfz, hnd⟩ := hW
  have hA : DataW.TrodAll enc Try.prog W 0 (fun _ => true) true Try.f14.params.toList args.toList ds p := hA0
  rw [Try.params14] at hA
  obtain ⟨hargs, rfl, rfl⟩ := trodAll_nil hA
  obtain rfl : args = #[] := by cases args; simp_all
  obtain ⟨rfl, rfl⟩ := trodVars_none hV
  clear hA0 hval0
  simp only [List.append_nil] at hW'
  refine (walk W).mono fun e W' ⟨he, hg⟩ => ?_
  subst he
  exact ⟨_, rfl, post_of_same (pa := []) (pv := []) hW' (fun _ _ _ => trodAll_cons_mk (shut_bool Try.underlying4 _) trodAll_mk0) (fun _ _ => trodAll_mk0) (fun _ _ => rfl) rfl
    (hg.frame _) hg.2.1 (ok_one (by kernel_rfl) rfl (okWide_bool_mk Try.underlying4 _))⟩

theorem holds : Rows.WaveKnownSaid :=
  OpenClaim.holds_of_wide 14 Try.f14 rfl rfl rfl rfl rfl rfl rfl ⟨rfl, rfl, rfl, rfl, rfl⟩ rfl rfl rfl rfl rfl (by kernel_rfl) Try.func14 (by kernel_rfl)
    (of_decide_eq_true (by kernel_rfl)) (by unfold Func.isWrapper; first | (rw [if_pos (by decide +kernel)]; kernel_rfl) | (rw [if_neg (by decide +kernel)]; exact ⟨rfl, rfl⟩))
    (fun os started H enc _ => lifted os started H enc)
end Go.Proofs.Ytmincoafjnnkpaa.waveKnown
end
