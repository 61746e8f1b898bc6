import Derived.Test.YtdaecfjljelneaaGreatDoorSteM5
import Derived.Test.YtdaecfjljelneaaGreatDoorChecked
import Derived.Eval
import Derived.KernelRfl
set_option linter.all false
/- EvsX0 -/
section
/-
  The program's orders are mixed: what every run asks.
-/
namespace Go.Proofs.YtdaecfjljelneaaGreatDoor
open Go.Ev
theorem mixed : Tryz.prog.follows .mixedOrders = true := Checked.mixed Tryz.checked
theorem con_alone {n : Nat} {c : Con} (h : chk c ((evc Tryz.prog [] n).call (.fn c.g c.args) (smallH c.tb)) = true) : ConOK Tryz.prog c :=
  con_run (P := Tryz.prog) mixed (cons := []) (fun _ h => by cases h) (n := n) (c := c) h
end Go.Proofs.YtdaecfjljelneaaGreatDoor
end

/- EvsXcS0 -/
section
/-
  WHAT A CALL OF THE PROGRAM COMES TO IN A SMALL MEMORY: run by the kernel.
-/

namespace Go.Proofs.YtdaecfjljelneaaGreatDoor
open Go.Ev
noncomputable def cS0 : Con := ⟨71, [(.agg [(.sl (.i (.o (.o (.o (.o (.o .e)))))) 0 5 (some 5) 2), (.int .i64 100)]), (.int .i64 0)], [(.e, [(.int .i64 1099511627776), (.int .i64 1099511627776), (.int .i64 1099511627776)]), ((.i (.o (.o (.o (.o (.o .e)))))), [(.int .i64 0), (.int .i64 0), (.int .i64 2), (.int .i64 3), (.int .i64 4), (.int .i64 4), (.int .i64 5), (.int .i64 7), (.int .i64 10), (.int .i64 10)])], (.tup [(.sl (.o (.o (.i (.o (.o (.o (.o .e))))))) 0 5 none 2), (.int .i64 0)]), [((.o (.o (.i (.o (.o (.o (.o .e))))))), [(.int .i64 0), (.int .i64 0), (.int .i64 2), (.int .i64 2), (.int .i64 4), (.int .i64 4), (.int .i64 6), (.int .i64 7), (.int .i64 10), (.int .i64 10)], 44)]⟩
set_option maxRecDepth 100000
set_option maxHeartbeats 0
theorem cS0_run : chk cS0 ((evc Tryz.prog [] 100000).call (.fn cS0.g cS0.args) (smallH cS0.tb)) = true := by kernel_rfl
theorem cS0_ok : ConOK Tryz.prog cS0 := con_alone (n := 100000) (c := cS0) cS0_run
end Go.Proofs.YtdaecfjljelneaaGreatDoor
end

/- EvsXcF1 -/
section
/-
  WHAT A CALL OF THE PROGRAM COMES TO IN A SMALL MEMORY: run by the kernel.
-/

namespace Go.Proofs.YtdaecfjljelneaaGreatDoor
open Go.Ev
noncomputable def cF1 : Con := ⟨16, [(.agg [(.sl (.i (.o (.o (.o (.o (.o .e)))))) 0 5 (some 5) 2), (.int .i64 100)])], [(.e, [(.int .i64 1099511627776), (.int .i64 1099511627776), (.int .i64 1099511627776)]), ((.i (.o (.o (.o (.o (.o .e)))))), [(.int .i64 0), (.int .i64 0), (.int .i64 2), (.int .i64 3), (.int .i64 4), (.int .i64 4), (.int .i64 5), (.int .i64 7), (.int .i64 10), (.int .i64 10)])], (.tup [(.sl (.i (.o (.o (.o (.o (.i (.o (.i .e)))))))) 0 5 none 1), (.int .i64 1), (.int .i64 0)]), [((.i (.o (.o (.o (.o (.i (.o (.i .e)))))))), [(.int .i64 0), (.int .i64 2), (.int .i64 4), (.int .i64 7), (.int .i64 10)], 2)]⟩
set_option maxRecDepth 100000
set_option maxHeartbeats 0
theorem cF1_run : chk cF1 ((evc Tryz.prog [] 100000).call (.fn cF1.g cF1.args) (smallH cF1.tb)) = true := by kernel_rfl
theorem cF1_ok : ConOK Tryz.prog cF1 := con_alone (n := 100000) (c := cF1) cF1_run
end Go.Proofs.YtdaecfjljelneaaGreatDoor
end

/- EvsXcL -/
section
/-
  WHAT A CALL OF THE PROGRAM COMES TO IN A SMALL MEMORY: run by the kernel.
-/

namespace Go.Proofs.YtdaecfjljelneaaGreatDoor
open Go.Ev
noncomputable def cL : Con := ⟨72, [(.agg [(.sl (.i (.o (.o (.o (.o (.o .e)))))) 0 5 (some 5) 2), (.int .i64 100)])], [(.e, [(.int .i64 1099511627776), (.int .i64 1099511627776), (.int .i64 1099511627776)]), ((.i (.o (.o (.o (.o (.o .e)))))), [(.int .i64 0), (.int .i64 0), (.int .i64 2), (.int .i64 3), (.int .i64 4), (.int .i64 4), (.int .i64 5), (.int .i64 7), (.int .i64 10), (.int .i64 10)])], (.tup [(.sl (.i (.i (.o (.i (.i (.i (.i (.i .e)))))))) 0 30 none 1), (.int .i64 0)]), [((.i (.i (.o (.i (.i (.i (.i (.i .e)))))))), [(.int .i64 0), (.int .i64 1099511627776), (.int .i64 1099511627776), (.int .i64 0), (.int .i64 1099511627776), (.int .i64 1099511627776), (.int .i64 0), (.int .i64 1099511627776), (.int .i64 1099511627776), (.int .i64 1099511627776), (.int .i64 1099511627776), (.int .i64 2), (.int .i64 1099511627776), (.int .i64 1099511627776), (.int .i64 1), (.int .i64 0), (.int .i64 103), (.int .i64 1099511627776), (.int .i64 1099511627776), (.int .i64 1), (.int .i64 1099511627776), (.int .i64 1099511627776), (.int .i64 105), (.int .i64 1099511627776), (.int .i64 1099511627776), (.int .i64 2), (.int .i64 1099511627776), (.int .i64 1099511627776), (.int .i64 1), (.int .i64 1099511627776)], 2)]⟩
set_option maxRecDepth 100000
set_option maxHeartbeats 0
theorem cL_run : chk cL ((evc Tryz.prog [] 100000).call (.fn cL.g cL.args) (smallH cL.tb)) = true := by kernel_rfl
theorem cL_ok : ConOK Tryz.prog cL := con_alone (n := 100000) (c := cL) cL_run
end Go.Proofs.YtdaecfjljelneaaGreatDoor
end

/- EvsXcC1 -/
section
/-
  WHAT A CALL OF THE PROGRAM COMES TO IN A SMALL MEMORY: run by the kernel.
-/

namespace Go.Proofs.YtdaecfjljelneaaGreatDoor
open Go.Ev
noncomputable def cC1 : Con := ⟨73, [(.agg [(.sl (.i (.o (.o (.o (.o (.o .e)))))) 0 5 (some 5) 2), (.int .i64 100)]), (.sl (.o (.i (.o (.o (.o (.o .e)))))) 0 30 none 1)], [(.e, [(.int .i64 1099511627776), (.int .i64 1099511627776), (.int .i64 1099511627776)]), ((.i (.o (.o (.o (.o (.o .e)))))), [(.int .i64 0), (.int .i64 0), (.int .i64 2), (.int .i64 3), (.int .i64 4), (.int .i64 4), (.int .i64 5), (.int .i64 7), (.int .i64 10), (.int .i64 10)]), ((.o (.i (.o (.o (.o (.o .e)))))), [(.int .i64 0), (.int .i64 1099511627776), (.int .i64 1099511627776), (.int .i64 0), (.int .i64 1099511627776), (.int .i64 1099511627776), (.int .i64 0), (.int .i64 1099511627776), (.int .i64 1099511627776), (.int .i64 1099511627776), (.int .i64 1099511627776), (.int .i64 2), (.int .i64 1099511627776), (.int .i64 1099511627776), (.int .i64 1), (.int .i64 0), (.int .i64 103), (.int .i64 1099511627776), (.int .i64 1099511627776), (.int .i64 1), (.int .i64 1099511627776), (.int .i64 1099511627776), (.int .i64 105), (.int .i64 1099511627776), (.int .i64 1099511627776), (.int .i64 2), (.int .i64 1099511627776), (.int .i64 1099511627776), (.int .i64 1), (.int .i64 1099511627776)])], (.tup [(.int .i64 1), (.int .i64 0)]), []⟩
set_option maxRecDepth 100000
set_option maxHeartbeats 0
theorem cC1_run : chk cC1 ((evc Tryz.prog [] 100000).call (.fn cC1.g cC1.args) (smallH cC1.tb)) = true := by kernel_rfl
theorem cC1_ok : ConOK Tryz.prog cC1 := con_alone (n := 100000) (c := cC1) cC1_run
end Go.Proofs.YtdaecfjljelneaaGreatDoor
end

/- EvsXcW -/
section
/-
  WHAT A CALL OF THE PROGRAM COMES TO IN A SMALL MEMORY: run by the kernel.
-/
namespace Go.Proofs.YtdaecfjljelneaaGreatDoor
open Go.Ev
set_option maxRecDepth 100000
set_option maxHeartbeats 0
theorem cW_run : chk cW ((evc Tryz.prog [cS0, cF1, cL, cC1] 100000).call (.fn cW.g cW.args) (smallH cW.tb)) = true := by kernel_rfl
theorem cW_ok : ConOK Tryz.prog cW := con_run (P := Tryz.prog) mixed (cons := [cS0, cF1, cL, cC1]) (n := 100000) (c := cW) (fun _ h => by
  simp only [List.mem_cons, List.not_mem_nil, or_false] at h
  rcases h with rfl | rfl | rfl | rfl
  · exact cS0_ok
  · exact cF1_ok
  · exact cL_ok
  · exact cC1_ok) cW_run
end Go.Proofs.YtdaecfjljelneaaGreatDoor
end
