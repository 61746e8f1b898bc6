/-
  NARROWER THAN 'FOR EVERY INPUT', by the rows' own cells (each row's printed sentence says how): FairWider: laid · FairParts: laid · FairWithin: laid · FairKnown: laid.
  DERIVED. THE GIVEN ROWS OF THIS SEAT. 4 by the template 'for every input the law returns true; each argument reads behind the call as it read before'; 0 by the template 'total and deterministic' (their statements: YtkmdidplmfdikabDoorTotals.lean).
  GIVEN WITH THE SEED: the statements are not yours to turn. If you find one false, say at which input.
  Laid BY PROGRAM, IN A SANDBOX (cutbox-rows.mjs): the forced cells as the released guide's own fill.sh prints them over the translation cbaf2f65b6e949f0… (all of the seat's roots in one cut). By AI agents, Wed Nov 11 2026. No macro, syntax, notation, axiom, sorry.
-/
import Derived.Test.YtkmdidplmfdikabDoorChecked
import GoSem.Claim
import GoSem.ClaimJoined
import GoSem.ClaimMapViews
import Derived.JoinedTies
import Derived.KernelRfl
namespace Go.Proofs.YtkmdidplmfdikabDoor
/- THE CELL 'sum', in the pinned program and in every row, IS THE sha256 OF THE DUMP (.gsa) THAT YtkmdidplmfdikabDoorProg.lean LOADS. Nothing in Lean hashes anything: it is a label: what it is worth is what the hold of that sum in a sandbox is worth. -/
noncomputable def Tryd.pinned : Pinned := { name := "ytkmdidplmfdikabdoor", sum := "cbaf2f65b6e949f04936153699d18022613b89b4d2c24e981f9e457a74ff6764", checked := Tryd.checked }
namespace Rows
def none {H : Type} : Left H := { results := [], args := [] }

/- WHAT THE LISTED PACKAGE-LEVEL VARIABLES READ AS WHEN THE CALL BEGINS. Each datum BY PROGRAM (the guide's laid-datum.mjs) off the statement by which the dump's own 'gosem.cut.vars' lays the variable. In a bare row this is a premise. The card (YtkmdidplmfdikabDoorCards.lean) ties it to the program's text. -/
def laid_tumblehome_fair_none {H : Type} : DataW H := .agg [.lit (.int .i64 1099511627776), .lit (.int .i64 1099511627776), .lit (.int .i64 1099511627776)]

/-- 'tumblehomelaw01.FairWider': WHATEVER THE INPUT: true; the input reads as it did. -/
def fairWiderSpec : ChangeSpec := { name := "fairWider", fn := fun _ => fun
  | [d1, d2, d3, d4, d5] => { results := [.lit (.bool true)], args := [d1, d2, d3, d4, d5] }
  | _ => none }
def fairWiderRow : OpenClaim := { program := "ytkmdidplmfdikabdoor", sum := "cbaf2f65b6e949f04936153699d18022613b89b4d2c24e981f9e457a74ff6764", func := "tumblehome/tumblehomelaw01.FairWider", spec := "fairWider", unfollowed := true, recurses := true, named := ["tumblehome/fair.none"], plainKeys := false, apart := false, laid := [("tumblehome/fair.none", laid_tumblehome_fair_none)] }
def FairWiderSaid : Prop := fairWiderRow.holds Tryd.pinned (OpenSpec.ofChange fairWiderSpec)

/-- ITS FALSE NEIGHBOUR: 'it returns false'. Refute it at one input. -/
def fairWiderWrong : ChangeSpec := { name := "fairWider", fn := fun _ => fun
  | [d1, d2, d3, d4, d5] => { results := [.lit (.bool false)], args := [d1, d2, d3, d4, d5] }
  | _ => none }
def FairWiderWrongFalsely : Prop := fairWiderRow.holds Tryd.pinned (OpenSpec.ofChange fairWiderWrong)

/-- 'tumblehomelaw01.FairParts': WHATEVER THE INPUT: true; the input reads as it did. -/
def fairPartsSpec : ChangeSpec := { name := "fairParts", fn := fun _ => fun
  | [d1, d2, d3] => { results := [.lit (.bool true)], args := [d1, d2, d3] }
  | _ => none }
def fairPartsRow : OpenClaim := { program := "ytkmdidplmfdikabdoor", sum := "cbaf2f65b6e949f04936153699d18022613b89b4d2c24e981f9e457a74ff6764", func := "tumblehome/tumblehomelaw01.FairParts", spec := "fairParts", unfollowed := true, recurses := true, named := ["tumblehome/fair.none"], plainKeys := false, apart := false, laid := [("tumblehome/fair.none", laid_tumblehome_fair_none)] }
def FairPartsSaid : Prop := fairPartsRow.holds Tryd.pinned (OpenSpec.ofChange fairPartsSpec)

/-- ITS FALSE NEIGHBOUR: 'it returns false'. Refute it at one input. -/
def fairPartsWrong : ChangeSpec := { name := "fairParts", fn := fun _ => fun
  | [d1, d2, d3] => { results := [.lit (.bool false)], args := [d1, d2, d3] }
  | _ => none }
def FairPartsWrongFalsely : Prop := fairPartsRow.holds Tryd.pinned (OpenSpec.ofChange fairPartsWrong)

/-- 'tumblehomelaw01.FairWithin': WHATEVER THE INPUT: true; the input reads as it did. -/
def fairWithinSpec : ChangeSpec := { name := "fairWithin", fn := fun _ => fun
  | [d1, d2, d3, d4] => { results := [.lit (.bool true)], args := [d1, d2, d3, d4] }
  | _ => none }
def fairWithinRow : OpenClaim := { program := "ytkmdidplmfdikabdoor", sum := "cbaf2f65b6e949f04936153699d18022613b89b4d2c24e981f9e457a74ff6764", func := "tumblehome/tumblehomelaw01.FairWithin", spec := "fairWithin", unfollowed := true, recurses := true, named := ["tumblehome/fair.none"], plainKeys := false, apart := false, laid := [("tumblehome/fair.none", laid_tumblehome_fair_none)] }
def FairWithinSaid : Prop := fairWithinRow.holds Tryd.pinned (OpenSpec.ofChange fairWithinSpec)

/-- ITS FALSE NEIGHBOUR: 'it returns false'. Refute it at one input. -/
def fairWithinWrong : ChangeSpec := { name := "fairWithin", fn := fun _ => fun
  | [d1, d2, d3, d4] => { results := [.lit (.bool false)], args := [d1, d2, d3, d4] }
  | _ => none }
def FairWithinWrongFalsely : Prop := fairWithinRow.holds Tryd.pinned (OpenSpec.ofChange fairWithinWrong)

/-- 'tumblehomelaw01.FairKnown': WHATEVER THE INPUT: true; the input reads as it did. -/
def fairKnownSpec : ChangeSpec := { name := "fairKnown", fn := fun _ => fun
  | [] => { results := [.lit (.bool true)], args := [] }
  | _ => none }
def fairKnownRow : OpenClaim := { program := "ytkmdidplmfdikabdoor", sum := "cbaf2f65b6e949f04936153699d18022613b89b4d2c24e981f9e457a74ff6764", func := "tumblehome/tumblehomelaw01.FairKnown", spec := "fairKnown", unfollowed := true, recurses := true, named := ["tumblehome/fair.none"], plainKeys := false, apart := false, laid := [("tumblehome/fair.none", laid_tumblehome_fair_none)] }
def FairKnownSaid : Prop := fairKnownRow.holds Tryd.pinned (OpenSpec.ofChange fairKnownSpec)

/-- ITS FALSE NEIGHBOUR: 'it returns false'. Refute it at one input. -/
def fairKnownWrong : ChangeSpec := { name := "fairKnown", fn := fun _ => fun
  | [] => { results := [.lit (.bool false)], args := [] }
  | _ => none }
def FairKnownWrongFalsely : Prop := fairKnownRow.holds Tryd.pinned (OpenSpec.ofChange fairKnownWrong)

/- THE SECOND FORM. 'bulk': how many values and letters a reading holds, each counted each time it is reached (what is shared counts as often as it is met; a slice's spare places count too). A statement '..UptoSaid' is the law's where the arguments, and the package variables that the reading takes, are together of bulk at most 1048576: NARROWER than '..Said'. Prove '..Said' where nothing that the law and all that it calls make is longer than what came in: it says more and counts as full. Else prove '..UptoSaid'. A law counts once. -/
mutual
def uptoBulk {H : Type} : DataW H → Nat
  | .lit (.string bytes) => bytes.length + 1
  | .lit _ => 1
  | .nil => 1
  | .ptr d => uptoBulk d + 1
  | .slice elems spare => uptoBulkAll elems + uptoBulkAll spare + 1
  | .agg parts => uptoBulkAll parts + 1
  | .iface _ d => uptoBulk d + 1
  | .map entries => uptoBulkEntries entries + 1
  | .held _ => 1
def uptoBulkAll {H : Type} : List (DataW H) → Nat
  | [] => 0
  | d :: r => uptoBulk d + uptoBulkAll r
def uptoBulkEntries {H : Type} : List (Lit × DataW H) → Nat
  | [] => 0
  | x :: r => uptoBulkEntry x + uptoBulkEntries r
def uptoBulkEntry {H : Type} : Lit × DataW H → Nat
  | (.string bytes, d) => bytes.length + uptoBulk d + 1
  | (_, d) => uptoBulk d + 1
 end
def uptoSmall : (H : Type) → List (DataW H) → Bool := fun _ ds => decide (uptoBulkAll ds ≤ 1048576)
def OpenSpec.upto (s : _root_.Go.ChangeSpec) : _root_.Go.OpenSpec := { _root_.Go.OpenSpec.ofChange s with cond := some uptoSmall }

/-- 'tumblehomelaw01.FairWider', WHERE WHAT IT READS IS OF BULK AT MOST 1048576: true; the input reads as it did. -/
def fairWiderUptoRow : OpenClaim := { program := "ytkmdidplmfdikabdoor", sum := "cbaf2f65b6e949f04936153699d18022613b89b4d2c24e981f9e457a74ff6764", func := "tumblehome/tumblehomelaw01.FairWider", spec := "fairWider", unfollowed := true, recurses := true, named := ["tumblehome/fair.none"], plainKeys := false, apart := false, laid := [("tumblehome/fair.none", laid_tumblehome_fair_none)], narrowed := true }
def FairWiderUptoSaid : Prop := fairWiderUptoRow.holds Tryd.pinned (OpenSpec.upto fairWiderSpec)

/-- 'tumblehomelaw01.FairParts', WHERE WHAT IT READS IS OF BULK AT MOST 1048576: true; the input reads as it did. -/
def fairPartsUptoRow : OpenClaim := { program := "ytkmdidplmfdikabdoor", sum := "cbaf2f65b6e949f04936153699d18022613b89b4d2c24e981f9e457a74ff6764", func := "tumblehome/tumblehomelaw01.FairParts", spec := "fairParts", unfollowed := true, recurses := true, named := ["tumblehome/fair.none"], plainKeys := false, apart := false, laid := [("tumblehome/fair.none", laid_tumblehome_fair_none)], narrowed := true }
def FairPartsUptoSaid : Prop := fairPartsUptoRow.holds Tryd.pinned (OpenSpec.upto fairPartsSpec)

/-- 'tumblehomelaw01.FairWithin', WHERE WHAT IT READS IS OF BULK AT MOST 1048576: true; the input reads as it did. -/
def fairWithinUptoRow : OpenClaim := { program := "ytkmdidplmfdikabdoor", sum := "cbaf2f65b6e949f04936153699d18022613b89b4d2c24e981f9e457a74ff6764", func := "tumblehome/tumblehomelaw01.FairWithin", spec := "fairWithin", unfollowed := true, recurses := true, named := ["tumblehome/fair.none"], plainKeys := false, apart := false, laid := [("tumblehome/fair.none", laid_tumblehome_fair_none)], narrowed := true }
def FairWithinUptoSaid : Prop := fairWithinUptoRow.holds Tryd.pinned (OpenSpec.upto fairWithinSpec)

/-- 'tumblehomelaw01.FairKnown', WHERE WHAT IT READS IS OF BULK AT MOST 1048576: true; the input reads as it did. -/
def fairKnownUptoRow : OpenClaim := { program := "ytkmdidplmfdikabdoor", sum := "cbaf2f65b6e949f04936153699d18022613b89b4d2c24e981f9e457a74ff6764", func := "tumblehome/tumblehomelaw01.FairKnown", spec := "fairKnown", unfollowed := true, recurses := true, named := ["tumblehome/fair.none"], plainKeys := false, apart := false, laid := [("tumblehome/fair.none", laid_tumblehome_fair_none)], narrowed := true }
def FairKnownUptoSaid : Prop := fairKnownUptoRow.holds Tryd.pinned (OpenSpec.upto fairKnownSpec)

end Rows
end Go.Proofs.YtkmdidplmfdikabDoor
