/-
  DERIVED. GIVEN WITH THE SEED: THE CARDS: each row of YtkmdidplmfdikaaDoorRows.lean that lists a variable, with what it lists TIED to the program's text (the seventh form; the later family's looks); each row that meets fmt, with fmt's text TOLD by the authors' own Lean function (tested against real Go, not proved from fmt's source: count such statements apart). THE CARD IS WHAT COUNTS. Prove the row's statement (the work); the ties are given (YtkmdidplmfdikaaDoorTie.lean); close each card by the builder's one call (the guide's Derived/Test/ToyasCard.lean, 'card_holds'). Laid BY PROGRAM, IN A SANDBOX (cutbox-door.mjs). By AI agents, Wed Nov 11 2026. No macro, syntax, notation, axiom, sorry.
-/
import Derived.Test.YtkmdidplmfdikaaDoorRows
import GoSem.ClaimSeven
namespace Go.Proofs.YtkmdidplmfdikaaDoor
namespace Rows

/-- THE TIED CARD OF 'tumblehomelaw01.FairMeasures'. -/
def fairMeasuresCard : Claim7 := { stood := { row := fairMeasuresRow, standIns := [], harness := (true, "244bbe8ae84bb2d08b02ab693f4b5200ea7652e124a84bdd0e39440c00aaa70a"), looks := false }, kinds := [], alts := [], laidByText := true, laidKinds := [.data], laidTests := true, laidLooks := .later }
def FairMeasuresCardSaid : Prop := Claim7.holds Tryd.pinned (.plain (OpenSpec.ofChange fairMeasuresSpec)) fairMeasuresCard

/-- THE TIED CARD OF 'tumblehomelaw01.FairFairest'. -/
def fairFairestCard : Claim7 := { stood := { row := fairFairestRow, standIns := [], harness := (true, "244bbe8ae84bb2d08b02ab693f4b5200ea7652e124a84bdd0e39440c00aaa70a"), looks := false }, kinds := [], alts := [], laidByText := true, laidKinds := [.data], laidTests := true, laidLooks := .later }
def FairFairestCardSaid : Prop := Claim7.holds Tryd.pinned (.plain (OpenSpec.ofChange fairFairestSpec)) fairFairestCard

/-- THE TIED CARD OF 'tumblehomelaw01.FairLabels'. -/
def fairLabelsCard : Claim7 := { stood := { row := fairLabelsRow, standIns := [], harness := (true, "244bbe8ae84bb2d08b02ab693f4b5200ea7652e124a84bdd0e39440c00aaa70a"), looks := false }, kinds := [], alts := [], laidByText := true, laidKinds := [.data], laidTests := true, laidLooks := .later }
def FairLabelsCardSaid : Prop := Claim7.holds Tryd.pinned (.plain (OpenSpec.ofChange fairLabelsSpec)) fairLabelsCard

/-- THE TIED CARD OF 'tumblehomelaw01.FairSpreads'. -/
def fairSpreadsCard : Claim7 := { stood := { row := fairSpreadsRow, standIns := [], harness := (true, "244bbe8ae84bb2d08b02ab693f4b5200ea7652e124a84bdd0e39440c00aaa70a"), looks := false }, kinds := [], alts := [], laidByText := true, laidKinds := [.data], laidTests := true, laidLooks := .later }
def FairSpreadsCardSaid : Prop := Claim7.holds Tryd.pinned (.plain (OpenSpec.ofChange fairSpreadsSpec)) fairSpreadsCard

/-- THE TIED CARD OF 'tumblehomelaw01.FairProved'. -/
def fairProvedCard : Claim7 := { stood := { row := fairProvedRow, standIns := [], harness := (true, "244bbe8ae84bb2d08b02ab693f4b5200ea7652e124a84bdd0e39440c00aaa70a"), looks := false }, kinds := [], alts := [], laidByText := true, laidKinds := [.data], laidTests := true, laidLooks := .later }
def FairProvedCardSaid : Prop := Claim7.holds Tryd.pinned (.plain (OpenSpec.ofChange fairProvedSpec)) fairProvedCard

/-- THE TIED CARD OF 'tumblehomelaw01.FairTilted'. -/
def fairTiltedCard : Claim7 := { stood := { row := fairTiltedRow, standIns := [], harness := (true, "244bbe8ae84bb2d08b02ab693f4b5200ea7652e124a84bdd0e39440c00aaa70a"), looks := false }, kinds := [], alts := [], laidByText := true, laidKinds := [.data], laidTests := true, laidLooks := .later }
def FairTiltedCardSaid : Prop := Claim7.holds Tryd.pinned (.plain (OpenSpec.ofChange fairTiltedSpec)) fairTiltedCard

/-- THE SECOND FORM's CARD OF 'tumblehomelaw01.FairMeasures'. -/
def fairMeasuresUptoCard : Claim7 := { stood := { row := fairMeasuresUptoRow, standIns := [], harness := (true, "244bbe8ae84bb2d08b02ab693f4b5200ea7652e124a84bdd0e39440c00aaa70a"), looks := false }, kinds := [], alts := [], laidByText := true, laidKinds := [.data], laidTests := true, laidLooks := .later }
def FairMeasuresUptoCardSaid : Prop := Claim7.holds Tryd.pinned (.plain (OpenSpec.upto fairMeasuresSpec)) fairMeasuresUptoCard

/-- THE SECOND FORM's CARD OF 'tumblehomelaw01.FairFairest'. -/
def fairFairestUptoCard : Claim7 := { stood := { row := fairFairestUptoRow, standIns := [], harness := (true, "244bbe8ae84bb2d08b02ab693f4b5200ea7652e124a84bdd0e39440c00aaa70a"), looks := false }, kinds := [], alts := [], laidByText := true, laidKinds := [.data], laidTests := true, laidLooks := .later }
def FairFairestUptoCardSaid : Prop := Claim7.holds Tryd.pinned (.plain (OpenSpec.upto fairFairestSpec)) fairFairestUptoCard

/-- THE SECOND FORM's CARD OF 'tumblehomelaw01.FairLabels'. -/
def fairLabelsUptoCard : Claim7 := { stood := { row := fairLabelsUptoRow, standIns := [], harness := (true, "244bbe8ae84bb2d08b02ab693f4b5200ea7652e124a84bdd0e39440c00aaa70a"), looks := false }, kinds := [], alts := [], laidByText := true, laidKinds := [.data], laidTests := true, laidLooks := .later }
def FairLabelsUptoCardSaid : Prop := Claim7.holds Tryd.pinned (.plain (OpenSpec.upto fairLabelsSpec)) fairLabelsUptoCard

/-- THE SECOND FORM's CARD OF 'tumblehomelaw01.FairSpreads'. -/
def fairSpreadsUptoCard : Claim7 := { stood := { row := fairSpreadsUptoRow, standIns := [], harness := (true, "244bbe8ae84bb2d08b02ab693f4b5200ea7652e124a84bdd0e39440c00aaa70a"), looks := false }, kinds := [], alts := [], laidByText := true, laidKinds := [.data], laidTests := true, laidLooks := .later }
def FairSpreadsUptoCardSaid : Prop := Claim7.holds Tryd.pinned (.plain (OpenSpec.upto fairSpreadsSpec)) fairSpreadsUptoCard

/-- THE SECOND FORM's CARD OF 'tumblehomelaw01.FairProved'. -/
def fairProvedUptoCard : Claim7 := { stood := { row := fairProvedUptoRow, standIns := [], harness := (true, "244bbe8ae84bb2d08b02ab693f4b5200ea7652e124a84bdd0e39440c00aaa70a"), looks := false }, kinds := [], alts := [], laidByText := true, laidKinds := [.data], laidTests := true, laidLooks := .later }
def FairProvedUptoCardSaid : Prop := Claim7.holds Tryd.pinned (.plain (OpenSpec.upto fairProvedSpec)) fairProvedUptoCard

/-- THE SECOND FORM's CARD OF 'tumblehomelaw01.FairTilted'. -/
def fairTiltedUptoCard : Claim7 := { stood := { row := fairTiltedUptoRow, standIns := [], harness := (true, "244bbe8ae84bb2d08b02ab693f4b5200ea7652e124a84bdd0e39440c00aaa70a"), looks := false }, kinds := [], alts := [], laidByText := true, laidKinds := [.data], laidTests := true, laidLooks := .later }
def FairTiltedUptoCardSaid : Prop := Claim7.holds Tryd.pinned (.plain (OpenSpec.upto fairTiltedSpec)) fairTiltedUptoCard
end Rows
end Go.Proofs.YtkmdidplmfdikaaDoor
