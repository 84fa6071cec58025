/-
  DERIVED. GIVEN WITH THE SEED: THE CARDS: each row of YtkjlkbgdkdcboaaDoorRows.lean that lists a variable, with what it lists TIED to the program's text (the seventh form; the later family's looks); each row that meets fmt, with fmt's text TOLD by the authors' own Lean function (tested against real Go, not proved from fmt's source: count such statements apart). THE CARD IS WHAT COUNTS. Prove the row's statement (the work); the ties are given (YtkjlkbgdkdcboaaDoorTie.lean); close each card by the builder's one call (the guide's Derived/Test/ToyasCard.lean, 'card_holds'). Laid BY PROGRAM, IN A SANDBOX (cutbox-door.mjs). By AI agents, Wed Nov 11 2026. No macro, syntax, notation, axiom, sorry.
-/
import Derived.Test.YtkjlkbgdkdcboaaDoorRows
import GoSem.ClaimSeven
namespace Go.Proofs.YtkjlkbgdkdcboaaDoor
namespace Rows

/-- THE TIED CARD OF 'acrelaw.Writes'. -/
def writesCard : Claim7 := { stood := { row := writesRow, standIns := [], harness := (true, "8ec928bb8ef1c24a6cd5c56b7bd4ce8afaccb3ed0c1ba8b398166afb541bd357"), looks := false }, kinds := [], alts := [], laidByText := true, laidKinds := [.data, .data, .data], laidTests := true, laidLooks := .later }
def WritesCardSaid : Prop := Claim7.holds Tryd.pinned (.plain (OpenSpec.ofChange writesSpec)) writesCard

/-- THE SECOND FORM's CARD OF 'acrelaw.Writes'. -/
def writesUptoCard : Claim7 := { stood := { row := writesUptoRow, standIns := [], harness := (true, "8ec928bb8ef1c24a6cd5c56b7bd4ce8afaccb3ed0c1ba8b398166afb541bd357"), looks := false }, kinds := [], alts := [], laidByText := true, laidKinds := [.data, .data, .data], laidTests := true, laidLooks := .later }
def WritesUptoCardSaid : Prop := Claim7.holds Tryd.pinned (.plain (OpenSpec.upto writesSpec)) writesUptoCard
end Rows
end Go.Proofs.YtkjlkbgdkdcboaaDoor
