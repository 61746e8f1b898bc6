/-
  DERIVED. GIVEN WITH THE SEED: THE CARDS: each row of YtdaecfjljelneaaGreatDoorRows.lean that lists a variable, with what it lists TIED to the program's text (the seventh form; the later family's looks); each row that meets fmt, with fmt's text TOLD by the authors' own Lean function (tested against real Go, not proved from fmt's source: count such statements apart). THE CARD IS WHAT COUNTS. Prove the row's statement (the work); the ties are given (YtdaecfjljelneaaGreatDoorTie.lean); close each card by the builder's one call (the guide's Derived/Test/ToyasCard.lean, 'card_holds'). Laid BY PROGRAM, IN A SANDBOX (cutbox-door.mjs). By AI agents, Wed Nov 11 2026. No macro, syntax, notation, axiom, sorry.
-/
import Derived.Test.YtdaecfjljelneaaGreatDoorRows
import GoSem.ClaimSeven
namespace Go.Proofs.YtdaecfjljelneaaGreatDoor
namespace Rows

/-- THE TIED CARD OF 'tumblehometop.TopSteppedFriction'. -/
def topSteppedFrictionCard : Claim7 := { stood := { row := topSteppedFrictionRow, standIns := [], harness := (true, "3ea365896d19a165d79b846ed1582d9bb9a6278b69c92464b81acc9710103108"), looks := false }, kinds := [], alts := [], laidByText := true, laidKinds := [.data], laidTests := true, laidLooks := .later }
def TopSteppedFrictionCardSaid : Prop := Claim7.holds Tryz.pinned (.plain (OpenSpec.ofChange topSteppedFrictionSpec)) topSteppedFrictionCard

/-- THE TIED CARD OF 'tumblehometop.TopFairTests'. -/
def topFairTestsCard : Claim7 := { stood := { row := topFairTestsRow, standIns := [], harness := (true, "3ea365896d19a165d79b846ed1582d9bb9a6278b69c92464b81acc9710103108"), looks := false }, kinds := [], alts := [], laidByText := true, laidKinds := [.data], laidTests := true, laidLooks := .later }
def TopFairTestsCardSaid : Prop := Claim7.holds Tryz.pinned (.plain (OpenSpec.ofChange topFairTestsSpec)) topFairTestsCard

/-- THE TIED CARD OF 'tumblehometop.TopScaledHull'. -/
def topScaledHullCard : Claim7 := { stood := { row := topScaledHullRow, standIns := [], harness := (true, "3ea365896d19a165d79b846ed1582d9bb9a6278b69c92464b81acc9710103108"), looks := false }, kinds := [], alts := [], laidByText := true, laidKinds := [.data], laidTests := true, laidLooks := .later }
def TopScaledHullCardSaid : Prop := Claim7.holds Tryz.pinned (.plain (OpenSpec.ofChange topScaledHullSpec)) topScaledHullCard

/-- THE SECOND FORM's CARD OF 'tumblehometop.TopSteppedFriction'. -/
def topSteppedFrictionUptoCard : Claim7 := { stood := { row := topSteppedFrictionUptoRow, standIns := [], harness := (true, "3ea365896d19a165d79b846ed1582d9bb9a6278b69c92464b81acc9710103108"), looks := false }, kinds := [], alts := [], laidByText := true, laidKinds := [.data], laidTests := true, laidLooks := .later }
def TopSteppedFrictionUptoCardSaid : Prop := Claim7.holds Tryz.pinned (.plain (OpenSpec.upto topSteppedFrictionSpec)) topSteppedFrictionUptoCard

/-- THE SECOND FORM's CARD OF 'tumblehometop.TopFairTests'. -/
def topFairTestsUptoCard : Claim7 := { stood := { row := topFairTestsUptoRow, standIns := [], harness := (true, "3ea365896d19a165d79b846ed1582d9bb9a6278b69c92464b81acc9710103108"), looks := false }, kinds := [], alts := [], laidByText := true, laidKinds := [.data], laidTests := true, laidLooks := .later }
def TopFairTestsUptoCardSaid : Prop := Claim7.holds Tryz.pinned (.plain (OpenSpec.upto topFairTestsSpec)) topFairTestsUptoCard

/-- THE SECOND FORM's CARD OF 'tumblehometop.TopScaledHull'. -/
def topScaledHullUptoCard : Claim7 := { stood := { row := topScaledHullUptoRow, standIns := [], harness := (true, "3ea365896d19a165d79b846ed1582d9bb9a6278b69c92464b81acc9710103108"), looks := false }, kinds := [], alts := [], laidByText := true, laidKinds := [.data], laidTests := true, laidLooks := .later }
def TopScaledHullUptoCardSaid : Prop := Claim7.holds Tryz.pinned (.plain (OpenSpec.upto topScaledHullSpec)) topScaledHullUptoCard
end Rows
end Go.Proofs.YtdaecfjljelneaaGreatDoor
