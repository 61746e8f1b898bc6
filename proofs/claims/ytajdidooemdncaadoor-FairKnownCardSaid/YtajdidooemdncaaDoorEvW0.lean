/-
  The program's orders are mixed: what every run asks.
-/
import Derived.Test.YtajdidooemdncaaDoorChecked
import Derived.Eval
import Derived.Test.YtajdidooemdncaaDoorEvO3
namespace Go.Proofs.YtajdidooemdncaaDoor
open Go.Ev
theorem mixed : Tryd.prog.follows .mixedOrders = true := Checked.mixed Tryd.checked
theorem con_alone {n : Nat} {c : Con} (h : chk c ((evc Tryd.prog [] n).call (.fn c.g c.args) (smallH c.tb)) = true) : ConOK Tryd.prog c :=
  con_run (P := Tryd.prog) mixed (cons := []) (fun _ h => by cases h) (n := n) (c := c) h
end Go.Proofs.YtajdidooemdncaaDoor
