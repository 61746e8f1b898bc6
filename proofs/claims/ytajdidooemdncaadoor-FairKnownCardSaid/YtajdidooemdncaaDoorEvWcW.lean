/-
  WHAT A CALL OF THE PROGRAM COMES TO IN A SMALL MEMORY: run by the kernel.
-/
import Derived.Test.YtajdidooemdncaaDoorChecked
import Derived.Eval
import Derived.KernelRfl
import Derived.Test.YtajdidooemdncaaDoorEvW0
import Derived.Test.YtajdidooemdncaaDoorEvWcS0
import Derived.Test.YtajdidooemdncaaDoorEvWcF1
import Derived.Test.YtajdidooemdncaaDoorEvWcL
import Derived.Test.YtajdidooemdncaaDoorEvWcC1
namespace Go.Proofs.YtajdidooemdncaaDoor
open Go.Ev
noncomputable def cW : Con := ⟨13, [], [(.e, [(.int .i64 1099511627776), (.int .i64 1099511627776), (.int .i64 1099511627776)])], (.bool true), []⟩
set_option maxRecDepth 100000
set_option maxHeartbeats 0
theorem cW_run : chk cW ((evc Tryd.prog [cS0, cF1, cL, cC1] 100000).call (.fn cW.g cW.args) (smallH cW.tb)) = true := by kernel_rfl
theorem cW_ok : ConOK Tryd.prog cW := con_run (P := Tryd.prog) mixed (cons := [cS0, cF1, cL, cC1]) (n := 100000) (c := cW) (fun _ h => by
  simp only [List.mem_cons, List.not_mem_nil, or_false] at h
  rcases h with rfl | rfl | rfl | rfl
  · exact cS0_ok
  · exact cF1_ok
  · exact cL_ok
  · exact cC1_ok) cW_run
end Go.Proofs.YtajdidooemdncaaDoor
