/-
  WHAT A CALL OF THE PROGRAM COMES TO IN A SMALL MEMORY: run by the kernel.
-/
import Derived.Test.YtajdidooemdncaaDoorChecked
import Derived.Eval
import Derived.KernelRfl
import Derived.Test.YtajdidooemdncaaDoorEvW0

namespace Go.Proofs.YtajdidooemdncaaDoor
open Go.Ev
noncomputable def cF0 : Con := ⟨21, [(.agg [(.sl (.i (.o (.o (.o (.o (.o .e)))))) 0 5 (some 5) 2), (.int .i64 0)])], [(.e, [(.int .i64 1099511627776), (.int .i64 1099511627776), (.int .i64 1099511627776)]), ((.i (.o (.o (.o (.o (.o .e)))))), [(.int .i64 0), (.int .i64 0), (.int .i64 2), (.int .i64 3), (.int .i64 4), (.int .i64 4), (.int .i64 5), (.int .i64 7), (.int .i64 10), (.int .i64 10)])], (.tup [(.sl (.o (.o (.i (.o (.i (.o (.i (.i .e)))))))) 0 5 none 1), (.int .i64 1), (.int .i64 0)]), [((.o (.o (.i (.o (.i (.o (.i (.i .e)))))))), [(.int .i64 0), (.int .i64 2), (.int .i64 4), (.int .i64 7), (.int .i64 10)], 2)]⟩
set_option maxRecDepth 100000
set_option maxHeartbeats 0
theorem cF0_run : chk cF0 ((evc Tryd.prog [] 100000).call (.fn cF0.g cF0.args) (smallH cF0.tb)) = true := by kernel_rfl
theorem cF0_ok : ConOK Tryd.prog cF0 := con_alone (n := 100000) (c := cF0) cF0_run
end Go.Proofs.YtajdidooemdncaaDoor
