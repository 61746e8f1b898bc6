import Derived.Test.YtmincoafjnnkpaawvM4
import Derived.Test.YtmincoafjnnkpaaChecked
import Derived.Eval
import Derived.KernelRfl
set_option linter.all false
section
namespace Go.Proofs.Ytmincoafjnnkpaa
open Go.Ev
set_option maxRecDepth 100000
set_option maxHeartbeats 0
theorem mixed :Try.prog.follows .mixedOrders=true:=Checked.mixed Try.checked
theorem cW_run :chk cW ((evc Try.prog [] 100000).call (.fn cW.g cW.args) (smallH cW.tb))=true:=by kernel_rfl
theorem cW_ok :ConOK Try.prog cW:=con_run (P:=Try.prog) mixed (cons:=[]) (n:=100000) (c:=cW) (fun _ h=>by cases h) cW_run
end Go.Proofs.Ytmincoafjnnkpaa
end
