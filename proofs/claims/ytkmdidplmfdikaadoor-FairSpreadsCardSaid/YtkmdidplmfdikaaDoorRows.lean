/-
  NARROWER THAN 'FOR EVERY INPUT', by the rows' own cells (each row's printed sentence says how): FairMeasures: laid · FairFairest: laid · FairLabels: laid · FairSpreads: laid · FairProved: laid · FairTilted: laid.
  DERIVED. THE GIVEN ROWS OF THIS SEAT. 6 by the template 'for every input the law returns true; each argument reads behind the call as it read before'; 0 by the template 'total and deterministic' (their statements: YtkmdidplmfdikaaDoorTotals.lean).
  GIVEN WITH THE SEED: the statements are not yours to turn. If you find one false, say at which input.
  Laid BY PROGRAM, IN A SANDBOX (cutbox-rows.mjs): the forced cells as the released guide's own fill.sh prints them over the translation 3f5e15fa73023e42… (all of the seat's roots in one cut). By AI agents, Wed Nov 11 2026. No macro, syntax, notation, axiom, sorry.
-/
import Derived.Test.YtkmdidplmfdikaaDoorChecked
import GoSem.Claim
import GoSem.ClaimJoined
import GoSem.ClaimMapViews
import Derived.JoinedTies
import Derived.KernelRfl
namespace Go.Proofs.YtkmdidplmfdikaaDoor
/- THE CELL 'sum', in the pinned program and in every row, IS THE sha256 OF THE DUMP (.gsa) THAT YtkmdidplmfdikaaDoorProg.lean LOADS. Nothing in Lean hashes anything: it is a label: what it is worth is what the hold of that sum in a sandbox is worth. -/
noncomputable def Tryd.pinned : Pinned := { name := "ytkmdidplmfdikaadoor", sum := "3f5e15fa73023e426264e114d87347d291718b74cc5743cd92af92e9676fa86e", checked := Tryd.checked }
namespace Rows
def none {H : Type} : Left H := { results := [], args := [] }

/- WHAT THE LISTED PACKAGE-LEVEL VARIABLES READ AS WHEN THE CALL BEGINS. Each datum BY PROGRAM (the guide's laid-datum.mjs) off the statement by which the dump's own 'gosem.cut.vars' lays the variable. In a bare row this is a premise. The card (YtkmdidplmfdikaaDoorCards.lean) ties it to the program's text. -/
def laid_tumblehome_fair_none {H : Type} : DataW H := .agg [.lit (.int .i64 1099511627776), .lit (.int .i64 1099511627776), .lit (.int .i64 1099511627776)]

/-- 'tumblehomelaw01.FairMeasures': WHATEVER THE INPUT: true; the input reads as it did. -/
def fairMeasuresSpec : ChangeSpec := { name := "fairMeasures", fn := fun _ => fun
  | [d1, d2] => { results := [.lit (.bool true)], args := [d1, d2] }
  | _ => none }
def fairMeasuresRow : OpenClaim := { program := "ytkmdidplmfdikaadoor", sum := "3f5e15fa73023e426264e114d87347d291718b74cc5743cd92af92e9676fa86e", func := "tumblehome/tumblehomelaw01.FairMeasures", spec := "fairMeasures", unfollowed := true, recurses := true, named := ["tumblehome/fair.none"], plainKeys := false, apart := false, laid := [("tumblehome/fair.none", laid_tumblehome_fair_none)] }
def FairMeasuresSaid : Prop := fairMeasuresRow.holds Tryd.pinned (OpenSpec.ofChange fairMeasuresSpec)

/-- ITS FALSE NEIGHBOUR: 'it returns false'. Refute it at one input. -/
def fairMeasuresWrong : ChangeSpec := { name := "fairMeasures", fn := fun _ => fun
  | [d1, d2] => { results := [.lit (.bool false)], args := [d1, d2] }
  | _ => none }
def FairMeasuresWrongFalsely : Prop := fairMeasuresRow.holds Tryd.pinned (OpenSpec.ofChange fairMeasuresWrong)

/-- 'tumblehomelaw01.FairFairest': WHATEVER THE INPUT: true; the input reads as it did. -/
def fairFairestSpec : ChangeSpec := { name := "fairFairest", fn := fun _ => fun
  | [d] => { results := [.lit (.bool true)], args := [d] }
  | _ => none }
def fairFairestRow : OpenClaim := { program := "ytkmdidplmfdikaadoor", sum := "3f5e15fa73023e426264e114d87347d291718b74cc5743cd92af92e9676fa86e", func := "tumblehome/tumblehomelaw01.FairFairest", spec := "fairFairest", unfollowed := true, recurses := true, named := ["tumblehome/fair.none"], plainKeys := false, apart := false, laid := [("tumblehome/fair.none", laid_tumblehome_fair_none)] }
def FairFairestSaid : Prop := fairFairestRow.holds Tryd.pinned (OpenSpec.ofChange fairFairestSpec)

/-- ITS FALSE NEIGHBOUR: 'it returns false'. Refute it at one input. -/
def fairFairestWrong : ChangeSpec := { name := "fairFairest", fn := fun _ => fun
  | [d] => { results := [.lit (.bool false)], args := [d] }
  | _ => none }
def FairFairestWrongFalsely : Prop := fairFairestRow.holds Tryd.pinned (OpenSpec.ofChange fairFairestWrong)

/-- 'tumblehomelaw01.FairLabels': WHATEVER THE INPUT: true; the input reads as it did. -/
def fairLabelsSpec : ChangeSpec := { name := "fairLabels", fn := fun _ => fun
  | [d1, d2] => { results := [.lit (.bool true)], args := [d1, d2] }
  | _ => none }
def fairLabelsRow : OpenClaim := { program := "ytkmdidplmfdikaadoor", sum := "3f5e15fa73023e426264e114d87347d291718b74cc5743cd92af92e9676fa86e", func := "tumblehome/tumblehomelaw01.FairLabels", spec := "fairLabels", unfollowed := true, recurses := true, named := ["tumblehome/fair.none"], plainKeys := false, apart := false, laid := [("tumblehome/fair.none", laid_tumblehome_fair_none)] }
def FairLabelsSaid : Prop := fairLabelsRow.holds Tryd.pinned (OpenSpec.ofChange fairLabelsSpec)

/-- ITS FALSE NEIGHBOUR: 'it returns false'. Refute it at one input. -/
def fairLabelsWrong : ChangeSpec := { name := "fairLabels", fn := fun _ => fun
  | [d1, d2] => { results := [.lit (.bool false)], args := [d1, d2] }
  | _ => none }
def FairLabelsWrongFalsely : Prop := fairLabelsRow.holds Tryd.pinned (OpenSpec.ofChange fairLabelsWrong)

/-- 'tumblehomelaw01.FairSpreads': WHATEVER THE INPUT: true; the input reads as it did. -/
def fairSpreadsSpec : ChangeSpec := { name := "fairSpreads", fn := fun _ => fun
  | [d1, d2] => { results := [.lit (.bool true)], args := [d1, d2] }
  | _ => none }
def fairSpreadsRow : OpenClaim := { program := "ytkmdidplmfdikaadoor", sum := "3f5e15fa73023e426264e114d87347d291718b74cc5743cd92af92e9676fa86e", func := "tumblehome/tumblehomelaw01.FairSpreads", spec := "fairSpreads", unfollowed := true, recurses := true, named := ["tumblehome/fair.none"], plainKeys := false, apart := false, laid := [("tumblehome/fair.none", laid_tumblehome_fair_none)] }
def FairSpreadsSaid : Prop := fairSpreadsRow.holds Tryd.pinned (OpenSpec.ofChange fairSpreadsSpec)

/-- ITS FALSE NEIGHBOUR: 'it returns false'. Refute it at one input. -/
def fairSpreadsWrong : ChangeSpec := { name := "fairSpreads", fn := fun _ => fun
  | [d1, d2] => { results := [.lit (.bool false)], args := [d1, d2] }
  | _ => none }
def FairSpreadsWrongFalsely : Prop := fairSpreadsRow.holds Tryd.pinned (OpenSpec.ofChange fairSpreadsWrong)

/-- 'tumblehomelaw01.FairProved': WHATEVER THE INPUT: true; the input reads as it did. -/
def fairProvedSpec : ChangeSpec := { name := "fairProved", fn := fun _ => fun
  | [d1, d2, d3] => { results := [.lit (.bool true)], args := [d1, d2, d3] }
  | _ => none }
def fairProvedRow : OpenClaim := { program := "ytkmdidplmfdikaadoor", sum := "3f5e15fa73023e426264e114d87347d291718b74cc5743cd92af92e9676fa86e", func := "tumblehome/tumblehomelaw01.FairProved", spec := "fairProved", unfollowed := true, recurses := true, named := ["tumblehome/fair.none"], plainKeys := false, apart := false, laid := [("tumblehome/fair.none", laid_tumblehome_fair_none)] }
def FairProvedSaid : Prop := fairProvedRow.holds Tryd.pinned (OpenSpec.ofChange fairProvedSpec)

/-- ITS FALSE NEIGHBOUR: 'it returns false'. Refute it at one input. -/
def fairProvedWrong : ChangeSpec := { name := "fairProved", fn := fun _ => fun
  | [d1, d2, d3] => { results := [.lit (.bool false)], args := [d1, d2, d3] }
  | _ => none }
def FairProvedWrongFalsely : Prop := fairProvedRow.holds Tryd.pinned (OpenSpec.ofChange fairProvedWrong)

/-- 'tumblehomelaw01.FairTilted': WHATEVER THE INPUT: true; the input reads as it did. -/
def fairTiltedSpec : ChangeSpec := { name := "fairTilted", fn := fun _ => fun
  | [d1, d2, d3, d4] => { results := [.lit (.bool true)], args := [d1, d2, d3, d4] }
  | _ => none }
def fairTiltedRow : OpenClaim := { program := "ytkmdidplmfdikaadoor", sum := "3f5e15fa73023e426264e114d87347d291718b74cc5743cd92af92e9676fa86e", func := "tumblehome/tumblehomelaw01.FairTilted", spec := "fairTilted", unfollowed := true, recurses := true, named := ["tumblehome/fair.none"], plainKeys := false, apart := false, laid := [("tumblehome/fair.none", laid_tumblehome_fair_none)] }
def FairTiltedSaid : Prop := fairTiltedRow.holds Tryd.pinned (OpenSpec.ofChange fairTiltedSpec)

/-- ITS FALSE NEIGHBOUR: 'it returns false'. Refute it at one input. -/
def fairTiltedWrong : ChangeSpec := { name := "fairTilted", fn := fun _ => fun
  | [d1, d2, d3, d4] => { results := [.lit (.bool false)], args := [d1, d2, d3, d4] }
  | _ => none }
def FairTiltedWrongFalsely : Prop := fairTiltedRow.holds Tryd.pinned (OpenSpec.ofChange fairTiltedWrong)

/- THE SECOND FORM. 'bulk': how many values and letters a reading holds, each counted each time it is reached (what is shared counts as often as it is met; a slice's spare places count too). A statement '..UptoSaid' is the law's where the arguments, and the package variables that the reading takes, are together of bulk at most 1048576: NARROWER than '..Said'. Prove '..Said' where nothing that the law and all that it calls make is longer than what came in: it says more and counts as full. Else prove '..UptoSaid'. A law counts once. -/
mutual
def uptoBulk {H : Type} : DataW H → Nat
  | .lit (.string bytes) => bytes.length + 1
  | .lit _ => 1
  | .nil => 1
  | .ptr d => uptoBulk d + 1
  | .slice elems spare => uptoBulkAll elems + uptoBulkAll spare + 1
  | .agg parts => uptoBulkAll parts + 1
  | .iface _ d => uptoBulk d + 1
  | .map entries => uptoBulkEntries entries + 1
  | .held _ => 1
def uptoBulkAll {H : Type} : List (DataW H) → Nat
  | [] => 0
  | d :: r => uptoBulk d + uptoBulkAll r
def uptoBulkEntries {H : Type} : List (Lit × DataW H) → Nat
  | [] => 0
  | x :: r => uptoBulkEntry x + uptoBulkEntries r
def uptoBulkEntry {H : Type} : Lit × DataW H → Nat
  | (.string bytes, d) => bytes.length + uptoBulk d + 1
  | (_, d) => uptoBulk d + 1
 end
def uptoSmall : (H : Type) → List (DataW H) → Bool := fun _ ds => decide (uptoBulkAll ds ≤ 1048576)
def OpenSpec.upto (s : _root_.Go.ChangeSpec) : _root_.Go.OpenSpec := { _root_.Go.OpenSpec.ofChange s with cond := some uptoSmall }

/-- 'tumblehomelaw01.FairMeasures', WHERE WHAT IT READS IS OF BULK AT MOST 1048576: true; the input reads as it did. -/
def fairMeasuresUptoRow : OpenClaim := { program := "ytkmdidplmfdikaadoor", sum := "3f5e15fa73023e426264e114d87347d291718b74cc5743cd92af92e9676fa86e", func := "tumblehome/tumblehomelaw01.FairMeasures", spec := "fairMeasures", unfollowed := true, recurses := true, named := ["tumblehome/fair.none"], plainKeys := false, apart := false, laid := [("tumblehome/fair.none", laid_tumblehome_fair_none)], narrowed := true }
def FairMeasuresUptoSaid : Prop := fairMeasuresUptoRow.holds Tryd.pinned (OpenSpec.upto fairMeasuresSpec)

/-- 'tumblehomelaw01.FairFairest', WHERE WHAT IT READS IS OF BULK AT MOST 1048576: true; the input reads as it did. -/
def fairFairestUptoRow : OpenClaim := { program := "ytkmdidplmfdikaadoor", sum := "3f5e15fa73023e426264e114d87347d291718b74cc5743cd92af92e9676fa86e", func := "tumblehome/tumblehomelaw01.FairFairest", spec := "fairFairest", unfollowed := true, recurses := true, named := ["tumblehome/fair.none"], plainKeys := false, apart := false, laid := [("tumblehome/fair.none", laid_tumblehome_fair_none)], narrowed := true }
def FairFairestUptoSaid : Prop := fairFairestUptoRow.holds Tryd.pinned (OpenSpec.upto fairFairestSpec)

/-- 'tumblehomelaw01.FairLabels', WHERE WHAT IT READS IS OF BULK AT MOST 1048576: true; the input reads as it did. -/
def fairLabelsUptoRow : OpenClaim := { program := "ytkmdidplmfdikaadoor", sum := "3f5e15fa73023e426264e114d87347d291718b74cc5743cd92af92e9676fa86e", func := "tumblehome/tumblehomelaw01.FairLabels", spec := "fairLabels", unfollowed := true, recurses := true, named := ["tumblehome/fair.none"], plainKeys := false, apart := false, laid := [("tumblehome/fair.none", laid_tumblehome_fair_none)], narrowed := true }
def FairLabelsUptoSaid : Prop := fairLabelsUptoRow.holds Tryd.pinned (OpenSpec.upto fairLabelsSpec)

/-- 'tumblehomelaw01.FairSpreads', WHERE WHAT IT READS IS OF BULK AT MOST 1048576: true; the input reads as it did. -/
def fairSpreadsUptoRow : OpenClaim := { program := "ytkmdidplmfdikaadoor", sum := "3f5e15fa73023e426264e114d87347d291718b74cc5743cd92af92e9676fa86e", func := "tumblehome/tumblehomelaw01.FairSpreads", spec := "fairSpreads", unfollowed := true, recurses := true, named := ["tumblehome/fair.none"], plainKeys := false, apart := false, laid := [("tumblehome/fair.none", laid_tumblehome_fair_none)], narrowed := true }
def FairSpreadsUptoSaid : Prop := fairSpreadsUptoRow.holds Tryd.pinned (OpenSpec.upto fairSpreadsSpec)

/-- 'tumblehomelaw01.FairProved', WHERE WHAT IT READS IS OF BULK AT MOST 1048576: true; the input reads as it did. -/
def fairProvedUptoRow : OpenClaim := { program := "ytkmdidplmfdikaadoor", sum := "3f5e15fa73023e426264e114d87347d291718b74cc5743cd92af92e9676fa86e", func := "tumblehome/tumblehomelaw01.FairProved", spec := "fairProved", unfollowed := true, recurses := true, named := ["tumblehome/fair.none"], plainKeys := false, apart := false, laid := [("tumblehome/fair.none", laid_tumblehome_fair_none)], narrowed := true }
def FairProvedUptoSaid : Prop := fairProvedUptoRow.holds Tryd.pinned (OpenSpec.upto fairProvedSpec)

/-- 'tumblehomelaw01.FairTilted', WHERE WHAT IT READS IS OF BULK AT MOST 1048576: true; the input reads as it did. -/
def fairTiltedUptoRow : OpenClaim := { program := "ytkmdidplmfdikaadoor", sum := "3f5e15fa73023e426264e114d87347d291718b74cc5743cd92af92e9676fa86e", func := "tumblehome/tumblehomelaw01.FairTilted", spec := "fairTilted", unfollowed := true, recurses := true, named := ["tumblehome/fair.none"], plainKeys := false, apart := false, laid := [("tumblehome/fair.none", laid_tumblehome_fair_none)], narrowed := true }
def FairTiltedUptoSaid : Prop := fairTiltedUptoRow.holds Tryd.pinned (OpenSpec.upto fairTiltedSpec)

end Rows
end Go.Proofs.YtkmdidplmfdikaaDoor
