/-
  DERIVED. GIVEN WITH THE SEED: THE CARDS: each row of YtkjlkbgdkdcboaaGreatDoorRows.lean that lists a variable, with what it lists TIED to the program's text (the seventh form; the later family's looks); each row that meets fmt, with fmt's text TOLD by the authors' own Lean function (tested against real Go, not proved from fmt's source: count such statements apart). THE CARD IS WHAT COUNTS. Prove the row's statement (the work); the ties are given (YtkjlkbgdkdcboaaGreatDoorTie.lean); close each card by the builder's one call (the guide's Derived/Test/ToyasCard.lean, 'card_holds'). Laid BY PROGRAM, IN A SANDBOX (cutbox-door.mjs). By AI agents, Wed Nov 11 2026. No macro, syntax, notation, axiom, sorry.
-/
import Derived.Test.YtkjlkbgdkdcboaaGreatDoorRows
import GoSem.ClaimSeven
namespace Go.Proofs.YtkjlkbgdkdcboaaGreatDoor
namespace Rows

/-- THE TIED CARD OF 'acrelaw.Slows'. -/
def slowsCard : Claim7 := { stood := { row := slowsRow, standIns := [], harness := (true, "ff5cf445d977e750261657546a0d6e2ff27bb6a273a55404d84d08ea2023b138"), looks := true }, kinds := [], alts := [], laidByText := true, laidKinds := [.data, .data, .data], laidTests := true, laidLooks := .later }
def SlowsCardSaid : Prop := Claim7.holds Tryz.pinned (.plain (OpenSpec.ofChange slowsSpec)) slowsCard

/-- THE TIED CARD OF 'acrelaw.Guesses'. -/
def guessesCard : Claim7 := { stood := { row := guessesRow, standIns := [], harness := (true, "ff5cf445d977e750261657546a0d6e2ff27bb6a273a55404d84d08ea2023b138"), looks := true }, kinds := [], alts := [], laidByText := true, laidKinds := [.data, .data, .data], laidTests := true, laidLooks := .later }
def GuessesCardSaid : Prop := Claim7.holds Tryz.pinned (.plain (OpenSpec.ofChange guessesSpec)) guessesCard

/-- THE TIED CARD OF 'acrelaw.Taken'. -/
def takenCard : Claim7 := { stood := { row := takenRow, standIns := [], harness := (true, "ff5cf445d977e750261657546a0d6e2ff27bb6a273a55404d84d08ea2023b138"), looks := true }, kinds := [], alts := [], laidByText := true, laidKinds := [.data, .data, .data], laidTests := true, laidLooks := .later }
def TakenCardSaid : Prop := Claim7.holds Tryz.pinned (.plain (OpenSpec.ofChange takenSpec)) takenCard

/-- THE SECOND FORM's CARD OF 'acrelaw.Slows'. -/
def slowsUptoCard : Claim7 := { stood := { row := slowsUptoRow, standIns := [], harness := (true, "ff5cf445d977e750261657546a0d6e2ff27bb6a273a55404d84d08ea2023b138"), looks := true }, kinds := [], alts := [], laidByText := true, laidKinds := [.data, .data, .data], laidTests := true, laidLooks := .later }
def SlowsUptoCardSaid : Prop := Claim7.holds Tryz.pinned (.plain (OpenSpec.upto slowsSpec)) slowsUptoCard

/-- THE SECOND FORM's CARD OF 'acrelaw.Guesses'. -/
def guessesUptoCard : Claim7 := { stood := { row := guessesUptoRow, standIns := [], harness := (true, "ff5cf445d977e750261657546a0d6e2ff27bb6a273a55404d84d08ea2023b138"), looks := true }, kinds := [], alts := [], laidByText := true, laidKinds := [.data, .data, .data], laidTests := true, laidLooks := .later }
def GuessesUptoCardSaid : Prop := Claim7.holds Tryz.pinned (.plain (OpenSpec.upto guessesSpec)) guessesUptoCard

/-- THE SECOND FORM's CARD OF 'acrelaw.Taken'. -/
def takenUptoCard : Claim7 := { stood := { row := takenUptoRow, standIns := [], harness := (true, "ff5cf445d977e750261657546a0d6e2ff27bb6a273a55404d84d08ea2023b138"), looks := true }, kinds := [], alts := [], laidByText := true, laidKinds := [.data, .data, .data], laidTests := true, laidLooks := .later }
def TakenUptoCardSaid : Prop := Claim7.holds Tryz.pinned (.plain (OpenSpec.upto takenSpec)) takenUptoCard
end Rows
end Go.Proofs.YtkjlkbgdkdcboaaGreatDoor
