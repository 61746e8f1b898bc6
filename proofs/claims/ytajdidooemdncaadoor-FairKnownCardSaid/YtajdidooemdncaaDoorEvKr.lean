/-
  THE CLOSED STATEMENT OF LAYER 1, RUN BY THE KERNEL.
-/
import Derived.KernelRfl
import Derived.Test.YtajdidooemdncaaDoorEvWcW
import Derived.Test.YtajdidooemdncaaDoorEvWcS1
import Derived.Test.YtajdidooemdncaaDoorEvWcF0
import Derived.Test.YtajdidooemdncaaDoorEvWcC0
namespace Go.Proofs.YtajdidooemdncaaDoor.fairKnown
open Go.Ev
set_option maxRecDepth 100000
set_option maxHeartbeats 0

noncomputable def far : AV := .int .i64 1099511627776

theorem run : (match (evc Tryd.prog [cS1, cF0, cC0, cW] 100000).call (.fn 12 []) (startH [far, far, far]) with | .ok (.bool true) _ => true | _ => false) = true := by kernel_rfl


end Go.Proofs.YtajdidooemdncaaDoor.fairKnown
