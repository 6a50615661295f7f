/-
  DERIVED. GIVEN WITH THE SEED: THE CARDS: each row of YthcopnnpedhboaaDoorRows.lean that lists a variable, with what it lists TIED to the program's text (the seventh form; the later family's looks); each row that meets fmt, with fmt's text TOLD by the authors' own Lean function (tested against real Go, not proved from fmt's source: count such statements apart). THE CARD IS WHAT COUNTS. Prove the row's statement (the work); the ties are given (YthcopnnpedhboaaDoorTie.lean); close each card by the builder's one call (the guide's Derived/Test/ToyasCard.lean, 'card_holds'). Laid BY PROGRAM, IN A SANDBOX (cutbox-door.mjs). By AI agents, Wed Nov 11 2026. No macro, syntax, notation, axiom, sorry.
-/
import Derived.Test.YthcopnnpedhboaaDoorRows
import GoSem.ClaimSeven
namespace Go.Proofs.YthcopnnpedhboaaDoor
namespace Rows

/-- THE TIED CARD OF 'leveelaw08.NodeMakes'. -/
def nodeMakesCard : Claim7 := { stood := { row := nodeMakesRow, standIns := [], harness := (true, "c5072f3beeebe7182c4a192506010402556ea187c7dacee556f367de1455d9a2"), looks := false }, kinds := [], alts := [], laidByText := true, laidKinds := [.data, .data, .data], laidTests := true, laidLooks := .later }
def NodeMakesCardSaid : Prop := Claim7.holds Tryd.pinned (.plain (OpenSpec.ofChange nodeMakesSpec)) nodeMakesCard

/-- THE SECOND FORM's CARD OF 'leveelaw08.NodeMakes'. -/
def nodeMakesUptoCard : Claim7 := { stood := { row := nodeMakesUptoRow, standIns := [], harness := (true, "c5072f3beeebe7182c4a192506010402556ea187c7dacee556f367de1455d9a2"), looks := false }, kinds := [], alts := [], laidByText := true, laidKinds := [.data, .data, .data], laidTests := true, laidLooks := .later }
def NodeMakesUptoCardSaid : Prop := Claim7.holds Tryd.pinned (.plain (OpenSpec.upto nodeMakesSpec)) nodeMakesUptoCard
end Rows
end Go.Proofs.YthcopnnpedhboaaDoor
