/-
  WHAT A CALL OF THE PROGRAM COMES TO IN A SMALL MEMORY: run by the kernel.
-/
import Derived.Test.YtajdidooemdncaaDoorChecked
import Derived.Eval
import Derived.KernelRfl
import Derived.Test.YtajdidooemdncaaDoorEvW0

namespace Go.Proofs.YtajdidooemdncaaDoor
open Go.Ev
noncomputable def cC0 : Con := ⟨25, [(.agg [(.sl (.i (.o (.o (.o (.o (.o .e)))))) 0 5 (some 5) 2), (.int .i64 100)]), .nils], [(.e, [(.int .i64 1099511627776), (.int .i64 1099511627776), (.int .i64 1099511627776)]), ((.i (.o (.o (.o (.o (.o .e)))))), [(.int .i64 0), (.int .i64 0), (.int .i64 2), (.int .i64 3), (.int .i64 4), (.int .i64 4), (.int .i64 5), (.int .i64 7), (.int .i64 10), (.int .i64 10)])], (.tup [(.int .i64 0), (.int .i64 15)]), []⟩
set_option maxRecDepth 100000
set_option maxHeartbeats 0
theorem cC0_run : chk cC0 ((evc Tryd.prog [] 100000).call (.fn cC0.g cC0.args) (smallH cC0.tb)) = true := by kernel_rfl
theorem cC0_ok : ConOK Tryd.prog cC0 := con_alone (n := 100000) (c := cC0) cC0_run
end Go.Proofs.YtajdidooemdncaaDoor
