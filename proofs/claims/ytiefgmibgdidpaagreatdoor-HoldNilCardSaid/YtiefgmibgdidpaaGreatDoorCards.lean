/-
  DERIVED. GIVEN WITH THE SEED: THE CARDS: each row of YtiefgmibgdidpaaGreatDoorRows.lean that lists a variable, with what it lists TIED to the program's text (the seventh form; the later family's looks); each row that meets fmt, with fmt's text TOLD by the authors' own Lean function (tested against real Go, not proved from fmt's source: count such statements apart). THE CARD IS WHAT COUNTS. Prove the row's statement (the work); the ties are given (YtiefgmibgdidpaaGreatDoorTie.lean); close each card by the builder's one call (the guide's Derived/Test/ToyasCard.lean, 'card_holds'). Laid BY PROGRAM, IN A SANDBOX (cutbox-door.mjs). By AI agents, Wed Nov 11 2026. No macro, syntax, notation, axiom, sorry.
-/
import Derived.Test.YtiefgmibgdidpaaGreatDoorRows
import GoSem.ClaimSeven
namespace Go.Proofs.YtiefgmibgdidpaaGreatDoor
namespace Rows

/-- THE TIED CARD OF 'leveelaw16.HoldNil'. -/
def holdNilCard : Claim7 := { stood := { row := holdNilRow, standIns := [], harness := (true, "83718f1439b33ebe69d95ccd9d4c131ce03437be4af7310fa21500bcd9d8241e"), looks := true }, kinds := [], alts := [], laidByText := true, laidKinds := [.data], laidTests := true, laidLooks := .later }
def HoldNilCardSaid : Prop := Claim7.holds Tryz.pinned (.plain (OpenSpec.ofChange holdNilSpec)) holdNilCard

/-- THE SECOND FORM's CARD OF 'leveelaw16.HoldNil'. -/
def holdNilUptoCard : Claim7 := { stood := { row := holdNilUptoRow, standIns := [], harness := (true, "83718f1439b33ebe69d95ccd9d4c131ce03437be4af7310fa21500bcd9d8241e"), looks := true }, kinds := [], alts := [], laidByText := true, laidKinds := [.data], laidTests := true, laidLooks := .later }
def HoldNilUptoCardSaid : Prop := Claim7.holds Tryz.pinned (.plain (OpenSpec.upto holdNilSpec)) holdNilUptoCard
end Rows
end Go.Proofs.YtiefgmibgdidpaaGreatDoor
