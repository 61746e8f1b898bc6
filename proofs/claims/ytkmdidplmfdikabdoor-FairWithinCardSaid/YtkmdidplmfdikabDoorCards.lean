/-
  DERIVED. GIVEN WITH THE SEED: THE CARDS: each row of YtkmdidplmfdikabDoorRows.lean that lists a variable, with what it lists TIED to the program's text (the seventh form; the later family's looks); each row that meets fmt, with fmt's text TOLD by the authors' own Lean function (tested against real Go, not proved from fmt's source: count such statements apart). THE CARD IS WHAT COUNTS. Prove the row's statement (the work); the ties are given (YtkmdidplmfdikabDoorTie.lean); close each card by the builder's one call (the guide's Derived/Test/ToyasCard.lean, 'card_holds'). Laid BY PROGRAM, IN A SANDBOX (cutbox-door.mjs). By AI agents, Wed Nov 11 2026. No macro, syntax, notation, axiom, sorry.
-/
import Derived.Test.YtkmdidplmfdikabDoorRows
import GoSem.ClaimSeven
namespace Go.Proofs.YtkmdidplmfdikabDoor
namespace Rows

/-- THE TIED CARD OF 'tumblehomelaw01.FairWider'. -/
def fairWiderCard : Claim7 := { stood := { row := fairWiderRow, standIns := [], harness := (true, "354989756573b767af75ec4224c811b35242f8abd56bbb9822c4f0e3dce12b20"), looks := false }, kinds := [], alts := [], laidByText := true, laidKinds := [.data], laidTests := true, laidLooks := .later }
def FairWiderCardSaid : Prop := Claim7.holds Tryd.pinned (.plain (OpenSpec.ofChange fairWiderSpec)) fairWiderCard

/-- THE TIED CARD OF 'tumblehomelaw01.FairParts'. -/
def fairPartsCard : Claim7 := { stood := { row := fairPartsRow, standIns := [], harness := (true, "354989756573b767af75ec4224c811b35242f8abd56bbb9822c4f0e3dce12b20"), looks := false }, kinds := [], alts := [], laidByText := true, laidKinds := [.data], laidTests := true, laidLooks := .later }
def FairPartsCardSaid : Prop := Claim7.holds Tryd.pinned (.plain (OpenSpec.ofChange fairPartsSpec)) fairPartsCard

/-- THE TIED CARD OF 'tumblehomelaw01.FairWithin'. -/
def fairWithinCard : Claim7 := { stood := { row := fairWithinRow, standIns := [], harness := (true, "354989756573b767af75ec4224c811b35242f8abd56bbb9822c4f0e3dce12b20"), looks := false }, kinds := [], alts := [], laidByText := true, laidKinds := [.data], laidTests := true, laidLooks := .later }
def FairWithinCardSaid : Prop := Claim7.holds Tryd.pinned (.plain (OpenSpec.ofChange fairWithinSpec)) fairWithinCard

/-- THE TIED CARD OF 'tumblehomelaw01.FairKnown'. -/
def fairKnownCard : Claim7 := { stood := { row := fairKnownRow, standIns := [], harness := (true, "354989756573b767af75ec4224c811b35242f8abd56bbb9822c4f0e3dce12b20"), looks := false }, kinds := [], alts := [], laidByText := true, laidKinds := [.data], laidTests := true, laidLooks := .later }
def FairKnownCardSaid : Prop := Claim7.holds Tryd.pinned (.plain (OpenSpec.ofChange fairKnownSpec)) fairKnownCard

/-- THE SECOND FORM's CARD OF 'tumblehomelaw01.FairWider'. -/
def fairWiderUptoCard : Claim7 := { stood := { row := fairWiderUptoRow, standIns := [], harness := (true, "354989756573b767af75ec4224c811b35242f8abd56bbb9822c4f0e3dce12b20"), looks := false }, kinds := [], alts := [], laidByText := true, laidKinds := [.data], laidTests := true, laidLooks := .later }
def FairWiderUptoCardSaid : Prop := Claim7.holds Tryd.pinned (.plain (OpenSpec.upto fairWiderSpec)) fairWiderUptoCard

/-- THE SECOND FORM's CARD OF 'tumblehomelaw01.FairParts'. -/
def fairPartsUptoCard : Claim7 := { stood := { row := fairPartsUptoRow, standIns := [], harness := (true, "354989756573b767af75ec4224c811b35242f8abd56bbb9822c4f0e3dce12b20"), looks := false }, kinds := [], alts := [], laidByText := true, laidKinds := [.data], laidTests := true, laidLooks := .later }
def FairPartsUptoCardSaid : Prop := Claim7.holds Tryd.pinned (.plain (OpenSpec.upto fairPartsSpec)) fairPartsUptoCard

/-- THE SECOND FORM's CARD OF 'tumblehomelaw01.FairWithin'. -/
def fairWithinUptoCard : Claim7 := { stood := { row := fairWithinUptoRow, standIns := [], harness := (true, "354989756573b767af75ec4224c811b35242f8abd56bbb9822c4f0e3dce12b20"), looks := false }, kinds := [], alts := [], laidByText := true, laidKinds := [.data], laidTests := true, laidLooks := .later }
def FairWithinUptoCardSaid : Prop := Claim7.holds Tryd.pinned (.plain (OpenSpec.upto fairWithinSpec)) fairWithinUptoCard

/-- THE SECOND FORM's CARD OF 'tumblehomelaw01.FairKnown'. -/
def fairKnownUptoCard : Claim7 := { stood := { row := fairKnownUptoRow, standIns := [], harness := (true, "354989756573b767af75ec4224c811b35242f8abd56bbb9822c4f0e3dce12b20"), looks := false }, kinds := [], alts := [], laidByText := true, laidKinds := [.data], laidTests := true, laidLooks := .later }
def FairKnownUptoCardSaid : Prop := Claim7.holds Tryd.pinned (.plain (OpenSpec.upto fairKnownSpec)) fairKnownUptoCard
end Rows
end Go.Proofs.YtkmdidplmfdikabDoor
