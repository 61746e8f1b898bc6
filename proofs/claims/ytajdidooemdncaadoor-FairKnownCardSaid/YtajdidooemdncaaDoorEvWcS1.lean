/-
  WHAT A CALL OF THE PROGRAM COMES TO IN A SMALL MEMORY: run by the kernel.
-/
import Derived.Test.YtajdidooemdncaaDoorChecked
import Derived.Eval
import Derived.KernelRfl
import Derived.Test.YtajdidooemdncaaDoorEvW0

namespace Go.Proofs.YtajdidooemdncaaDoor
open Go.Ev
noncomputable def cS1 : Con := ⟨29, [(.agg [(.sl (.i (.o (.o (.o (.o (.o .e)))))) 0 5 (some 5) 2), (.int .i64 100)]), (.int .i64 1)], [(.e, [(.int .i64 1099511627776), (.int .i64 1099511627776), (.int .i64 1099511627776)]), ((.i (.o (.o (.o (.o (.o .e)))))), [(.int .i64 0), (.int .i64 0), (.int .i64 2), (.int .i64 3), (.int .i64 4), (.int .i64 4), (.int .i64 5), (.int .i64 7), (.int .i64 10), (.int .i64 10)])], (.tup [(.sl (.o (.o (.i (.o (.o (.o (.o .e))))))) 0 5 none 2), (.int .i64 0)]), [((.o (.o (.i (.o (.o (.o (.o .e))))))), [(.int .i64 0), (.int .i64 0), (.int .i64 2), (.int .i64 3), (.int .i64 4), (.int .i64 4), (.int .i64 5), (.int .i64 7), (.int .i64 10), (.int .i64 10)], 51)]⟩
set_option maxRecDepth 100000
set_option maxHeartbeats 0
theorem cS1_run : chk cS1 ((evc Tryd.prog [] 100000).call (.fn cS1.g cS1.args) (smallH cS1.tb)) = true := by kernel_rfl
theorem cS1_ok : ConOK Tryd.prog cS1 := con_alone (n := 100000) (c := cS1) cS1_run
end Go.Proofs.YtajdidooemdncaaDoor
