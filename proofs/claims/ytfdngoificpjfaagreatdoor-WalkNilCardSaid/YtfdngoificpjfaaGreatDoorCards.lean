/-
  DERIVED. GIVEN WITH THE SEED: THE CARDS: each row of YtfdngoificpjfaaGreatDoorRows.lean that lists a variable, with what it lists TIED to the program's text (the seventh form; the later family's looks); each row that meets fmt, with fmt's text TOLD by the authors' own Lean function (tested against real Go, not proved from fmt's source: count such statements apart). THE CARD IS WHAT COUNTS. Prove the row's statement (the work); the ties are given (YtfdngoificpjfaaGreatDoorTie.lean); close each card by the builder's one call (the guide's Derived/Test/ToyasCard.lean, 'card_holds'). Laid BY PROGRAM, IN A SANDBOX (cutbox-door.mjs). By AI agents, Wed Nov 11 2026. No macro, syntax, notation, axiom, sorry.
-/
import Derived.Test.YtfdngoificpjfaaGreatDoorRows
import GoSem.ClaimSeven
namespace Go.Proofs.YtfdngoificpjfaaGreatDoor
namespace Rows

/-- THE TIED CARD OF 'leveelaw14.WalkHops'. -/
def walkHopsCard : Claim7 := { stood := { row := walkHopsRow, standIns := [], harness := (true, "743a9d205c6f51af119ea65c0174f89e592dabcc7a82cdb70b01b8bdf3576300"), looks := true }, kinds := [], alts := [], laidByText := true, laidKinds := [.data], laidTests := true, laidLooks := .later }
def WalkHopsCardSaid : Prop := Claim7.holds Tryz.pinned (.plain (OpenSpec.ofChange walkHopsSpec)) walkHopsCard

/-- THE TIED CARD OF 'leveelaw14.WalkLasts'. -/
def walkLastsCard : Claim7 := { stood := { row := walkLastsRow, standIns := [], harness := (true, "743a9d205c6f51af119ea65c0174f89e592dabcc7a82cdb70b01b8bdf3576300"), looks := true }, kinds := [], alts := [], laidByText := true, laidKinds := [.data], laidTests := true, laidLooks := .later }
def WalkLastsCardSaid : Prop := Claim7.holds Tryz.pinned (.plain (OpenSpec.ofChange walkLastsSpec)) walkLastsCard

/-- THE TIED CARD OF 'leveelaw14.WalkWhile'. -/
def walkWhileCard : Claim7 := { stood := { row := walkWhileRow, standIns := [], harness := (true, "743a9d205c6f51af119ea65c0174f89e592dabcc7a82cdb70b01b8bdf3576300"), looks := true }, kinds := [], alts := [], laidByText := true, laidKinds := [.data], laidTests := true, laidLooks := .later }
def WalkWhileCardSaid : Prop := Claim7.holds Tryz.pinned (.plain (OpenSpec.ofChange walkWhileSpec)) walkWhileCard

/-- THE TIED CARD OF 'leveelaw14.WalkNil'. -/
def walkNilCard : Claim7 := { stood := { row := walkNilRow, standIns := [], harness := (true, "743a9d205c6f51af119ea65c0174f89e592dabcc7a82cdb70b01b8bdf3576300"), looks := true }, kinds := [], alts := [], laidByText := true, laidKinds := [.data], laidTests := true, laidLooks := .later }
def WalkNilCardSaid : Prop := Claim7.holds Tryz.pinned (.plain (OpenSpec.ofChange walkNilSpec)) walkNilCard

/-- THE SECOND FORM's CARD OF 'leveelaw14.WalkHops'. -/
def walkHopsUptoCard : Claim7 := { stood := { row := walkHopsUptoRow, standIns := [], harness := (true, "743a9d205c6f51af119ea65c0174f89e592dabcc7a82cdb70b01b8bdf3576300"), looks := true }, kinds := [], alts := [], laidByText := true, laidKinds := [.data], laidTests := true, laidLooks := .later }
def WalkHopsUptoCardSaid : Prop := Claim7.holds Tryz.pinned (.plain (OpenSpec.upto walkHopsSpec)) walkHopsUptoCard

/-- THE SECOND FORM's CARD OF 'leveelaw14.WalkLasts'. -/
def walkLastsUptoCard : Claim7 := { stood := { row := walkLastsUptoRow, standIns := [], harness := (true, "743a9d205c6f51af119ea65c0174f89e592dabcc7a82cdb70b01b8bdf3576300"), looks := true }, kinds := [], alts := [], laidByText := true, laidKinds := [.data], laidTests := true, laidLooks := .later }
def WalkLastsUptoCardSaid : Prop := Claim7.holds Tryz.pinned (.plain (OpenSpec.upto walkLastsSpec)) walkLastsUptoCard

/-- THE SECOND FORM's CARD OF 'leveelaw14.WalkWhile'. -/
def walkWhileUptoCard : Claim7 := { stood := { row := walkWhileUptoRow, standIns := [], harness := (true, "743a9d205c6f51af119ea65c0174f89e592dabcc7a82cdb70b01b8bdf3576300"), looks := true }, kinds := [], alts := [], laidByText := true, laidKinds := [.data], laidTests := true, laidLooks := .later }
def WalkWhileUptoCardSaid : Prop := Claim7.holds Tryz.pinned (.plain (OpenSpec.upto walkWhileSpec)) walkWhileUptoCard

/-- THE SECOND FORM's CARD OF 'leveelaw14.WalkNil'. -/
def walkNilUptoCard : Claim7 := { stood := { row := walkNilUptoRow, standIns := [], harness := (true, "743a9d205c6f51af119ea65c0174f89e592dabcc7a82cdb70b01b8bdf3576300"), looks := true }, kinds := [], alts := [], laidByText := true, laidKinds := [.data], laidTests := true, laidLooks := .later }
def WalkNilUptoCardSaid : Prop := Claim7.holds Tryz.pinned (.plain (OpenSpec.upto walkNilSpec)) walkNilUptoCard
end Rows
end Go.Proofs.YtfdngoificpjfaaGreatDoor
