import Derived.Test.YtdaecfjljelneaaGreatDoorSteM6
import Derived.Test.YtdaecfjljelneaaGreatDoorChecked
import Derived.Eval
import Derived.KernelRfl
set_option linter.all false
/- EvsY2 -/
section
/-
  THE CLOSED PART OF LAYER 2, RUN BY THE KERNEL.
-/
namespace Go.Proofs.YtdaecfjljelneaaGreatDoor
open Go.Ev
set_option maxRecDepth 100000
set_option maxHeartbeats 0
theorem cW2_run : chk cW2 ((evc Tryz.prog [] 100000).call (.fn cW2.g cW2.args) (smallH cW2.tb)) = true := by kernel_rfl
theorem cW2_ok : ConOK Tryz.prog cW2 := con_alone (n := 100000) (c := cW2) cW2_run
end Go.Proofs.YtdaecfjljelneaaGreatDoor
end

/- EvsY3 -/
section
/-
  THE CLOSED PART OF LAYER 3, RUN BY THE KERNEL.
-/
namespace Go.Proofs.YtdaecfjljelneaaGreatDoor
open Go.Ev
set_option maxRecDepth 100000
set_option maxHeartbeats 0
theorem cW3_run : chk cW3 ((evc Tryz.prog [] 100000).call (.fn cW3.g cW3.args) (smallH cW3.tb)) = true := by kernel_rfl
theorem cW3_ok : ConOK Tryz.prog cW3 := con_alone (n := 100000) (c := cW3) cW3_run
end Go.Proofs.YtdaecfjljelneaaGreatDoor
end

/- EvsY4 -/
section
/-
  THE CLOSED PART OF LAYER 4, RUN BY THE KERNEL.
-/
namespace Go.Proofs.YtdaecfjljelneaaGreatDoor
open Go.Ev
set_option maxRecDepth 100000
set_option maxHeartbeats 0
theorem cW4_run : chk cW4 ((evc Tryz.prog [] 100000).call (.fn cW4.g cW4.args) (smallH cW4.tb)) = true := by kernel_rfl
theorem cW4_ok : ConOK Tryz.prog cW4 := con_alone (n := 100000) (c := cW4) cW4_run
end Go.Proofs.YtdaecfjljelneaaGreatDoor
end
