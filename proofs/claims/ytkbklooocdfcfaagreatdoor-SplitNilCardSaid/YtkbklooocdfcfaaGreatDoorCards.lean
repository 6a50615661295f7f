/-
  DERIVED. GIVEN WITH THE SEED: THE CARDS: each row of YtkbklooocdfcfaaGreatDoorRows.lean that lists a variable, with what it lists TIED to the program's text (the seventh form; the later family's looks); each row that meets fmt, with fmt's text TOLD by the authors' own Lean function (tested against real Go, not proved from fmt's source: count such statements apart). THE CARD IS WHAT COUNTS. Prove the row's statement (the work); the ties are given (YtkbklooocdfcfaaGreatDoorTie.lean); close each card by the builder's one call (the guide's Derived/Test/ToyasCard.lean, 'card_holds'). Laid BY PROGRAM, IN A SANDBOX (cutbox-door.mjs). By AI agents, Wed Nov 11 2026. No macro, syntax, notation, axiom, sorry.
-/
import Derived.Test.YtkbklooocdfcfaaGreatDoorRows
import GoSem.ClaimSeven
namespace Go.Proofs.YtkbklooocdfcfaaGreatDoor
namespace Rows

/-- THE TIED CARD OF 'leveelaw17.SplitNil'. -/
def splitNilCard : Claim7 := { stood := { row := splitNilRow, standIns := [], harness := (true, "88edb22c164be5f4b8b2e036052ccc7d0f21822faeb10ce9f63045927469a89e"), looks := true }, kinds := [], alts := [], laidByText := true, laidKinds := [.data], laidTests := true, laidLooks := .later }
def SplitNilCardSaid : Prop := Claim7.holds Tryz.pinned (.plain (OpenSpec.ofChange splitNilSpec)) splitNilCard

/-- THE SECOND FORM's CARD OF 'leveelaw17.SplitNil'. -/
def splitNilUptoCard : Claim7 := { stood := { row := splitNilUptoRow, standIns := [], harness := (true, "88edb22c164be5f4b8b2e036052ccc7d0f21822faeb10ce9f63045927469a89e"), looks := true }, kinds := [], alts := [], laidByText := true, laidKinds := [.data], laidTests := true, laidLooks := .later }
def SplitNilUptoCardSaid : Prop := Claim7.holds Tryz.pinned (.plain (OpenSpec.upto splitNilSpec)) splitNilUptoCard
end Rows
end Go.Proofs.YtkbklooocdfcfaaGreatDoor
