/-
  WHAT A CALL OF THE PROGRAM COMES TO IN A SMALL MEMORY: run by the kernel.
-/
import Derived.Test.YtajdidooemdncaaDoorChecked
import Derived.Eval
import Derived.KernelRfl
import Derived.Test.YtajdidooemdncaaDoorEvW0

namespace Go.Proofs.YtajdidooemdncaaDoor
open Go.Ev
noncomputable def cL : Con := ⟨27, [(.agg [(.sl (.i (.o (.o (.o (.o (.o .e)))))) 0 5 (some 5) 2), (.int .i64 100)])], [(.e, [(.int .i64 1099511627776), (.int .i64 1099511627776), (.int .i64 1099511627776)]), ((.i (.o (.o (.o (.o (.o .e)))))), [(.int .i64 0), (.int .i64 0), (.int .i64 2), (.int .i64 3), (.int .i64 4), (.int .i64 4), (.int .i64 5), (.int .i64 7), (.int .i64 10), (.int .i64 10)])], (.tup [(.sl (.i (.i (.o (.i (.i (.o (.i (.o (.o .e))))))))) 0 30 none 1), (.int .i64 0)]), [((.i (.i (.o (.i (.i (.o (.i (.o (.o .e))))))))), [(.int .i64 0), (.int .i64 1099511627776), (.int .i64 1099511627776), (.int .i64 0), (.int .i64 1099511627776), (.int .i64 1099511627776), (.int .i64 0), (.int .i64 1099511627776), (.int .i64 1099511627776), (.int .i64 1099511627776), (.int .i64 1099511627776), (.int .i64 2), (.int .i64 1099511627776), (.int .i64 1099511627776), (.int .i64 1), (.int .i64 0), (.int .i64 103), (.int .i64 1099511627776), (.int .i64 1099511627776), (.int .i64 1), (.int .i64 1099511627776), (.int .i64 1099511627776), (.int .i64 105), (.int .i64 1099511627776), (.int .i64 1099511627776), (.int .i64 2), (.int .i64 1099511627776), (.int .i64 1099511627776), (.int .i64 1), (.int .i64 1099511627776)], 2)]⟩
set_option maxRecDepth 100000
set_option maxHeartbeats 0
theorem cL_run : chk cL ((evc Tryd.prog [] 100000).call (.fn cL.g cL.args) (smallH cL.tb)) = true := by kernel_rfl
theorem cL_ok : ConOK Tryd.prog cL := con_alone (n := 100000) (c := cL) cL_run
end Go.Proofs.YtajdidooemdncaaDoor
