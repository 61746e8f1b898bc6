/-
  THE CLOSED STATEMENT OF LAYER 2, RUN BY THE KERNEL.
-/
import Derived.Test.YtghondkiondeaadChecked
import Derived.Eval
import Derived.KernelRfl
import Derived.Test.YtghondkiondeaadEvO3
import Derived.Test.YtghondkiondeaadEvS20
namespace Go.Proofs.Ytghondkiondeaad
open Go.Ev
theorem mixed : Try.prog.follows .mixedOrders = true := Checked.mixed Try.checked
set_option maxRecDepth 100000
set_option maxHeartbeats 0
theorem run : (match (evc Try.prog [] 100000).call (.fn 3 []) startN with | .ok (.bool true) _ => true | _ => false) = true := by kernel_rfl
end Go.Proofs.Ytghondkiondeaad
