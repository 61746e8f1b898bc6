/-
  THE CLOSED STATEMENT, RUN BY THE KERNEL.
-/
import Derived.Test.YthaleckfgcgegaaChecked
import Derived.Eval
import Derived.KernelRfl
import Derived.Test.YthaleckfgcgegaaEvO3
import Derived.Test.YthaleckfgcgegaaEvS21
namespace Go.Proofs.Ythaleckfgcgegaa
open Go.Ev
theorem mixed : Try.prog.follows .mixedOrders = true := Checked.mixed Try.checked
set_option maxRecDepth 100000
set_option maxHeartbeats 0
noncomputable def cD : Con := ⟨12, [], [], (.bool true), []⟩
theorem cD_run : chk cD ((evc Try.prog [] 100000).call (.fn cD.g cD.args) (smallH cD.tb)) = true := by kernel_rfl
theorem cD_ok : ConOK Try.prog cD := con_run (P := Try.prog) mixed (cons := []) (n := 100000) (c := cD) (fun _ h => by cases h) cD_run
end Go.Proofs.Ythaleckfgcgegaa
