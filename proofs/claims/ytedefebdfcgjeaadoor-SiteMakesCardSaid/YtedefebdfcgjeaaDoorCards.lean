/-
  DERIVED. GIVEN WITH THE SEED: THE CARDS: each row of YtedefebdfcgjeaaDoorRows.lean that lists a variable, with what it lists TIED to the program's text (the seventh form; the later family's looks); each row that meets fmt, with fmt's text TOLD by the authors' own Lean function (tested against real Go, not proved from fmt's source: count such statements apart). THE CARD IS WHAT COUNTS. Prove the row's statement (the work); the ties are given (YtedefebdfcgjeaaDoorTie.lean); close each card by the builder's one call (the guide's Derived/Test/ToyasCard.lean, 'card_holds'). Laid BY PROGRAM, IN A SANDBOX (cutbox-door.mjs). By AI agents, Wed Nov 11 2026. No macro, syntax, notation, axiom, sorry.
-/
import Derived.Test.YtedefebdfcgjeaaDoorRows
import GoSem.ClaimSeven
namespace Go.Proofs.YtedefebdfcgjeaaDoor
namespace Rows

/-- THE TIED CARD OF 'leveelaw13.SiteMakes'. -/
def siteMakesCard : Claim7 := { stood := { row := siteMakesRow, standIns := [], harness := (true, "b1bb7abeaf08a3216036e1abad205c58e0c7febfd0b6c624c223189183fb3f06"), looks := true }, kinds := [], alts := [], laidByText := true, laidKinds := [.data], laidTests := true, laidLooks := .later }
def SiteMakesCardSaid : Prop := Claim7.holds Tryd.pinned (.plain (OpenSpec.ofChange siteMakesSpec)) siteMakesCard

/-- THE SECOND FORM's CARD OF 'leveelaw13.SiteMakes'. -/
def siteMakesUptoCard : Claim7 := { stood := { row := siteMakesUptoRow, standIns := [], harness := (true, "b1bb7abeaf08a3216036e1abad205c58e0c7febfd0b6c624c223189183fb3f06"), looks := true }, kinds := [], alts := [], laidByText := true, laidKinds := [.data], laidTests := true, laidLooks := .later }
def SiteMakesUptoCardSaid : Prop := Claim7.holds Tryd.pinned (.plain (OpenSpec.upto siteMakesSpec)) siteMakesUptoCard
end Rows
end Go.Proofs.YtedefebdfcgjeaaDoor
