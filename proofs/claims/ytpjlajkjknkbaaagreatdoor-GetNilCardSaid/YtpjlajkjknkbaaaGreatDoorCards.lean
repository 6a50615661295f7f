/-
  DERIVED. GIVEN WITH THE SEED: THE CARDS: each row of YtpjlajkjknkbaaaGreatDoorRows.lean that lists a variable, with what it lists TIED to the program's text (the seventh form; the later family's looks); each row that meets fmt, with fmt's text TOLD by the authors' own Lean function (tested against real Go, not proved from fmt's source: count such statements apart). THE CARD IS WHAT COUNTS. Prove the row's statement (the work); the ties are given (YtpjlajkjknkbaaaGreatDoorTie.lean); close each card by the builder's one call (the guide's Derived/Test/ToyasCard.lean, 'card_holds'). Laid BY PROGRAM, IN A SANDBOX (cutbox-door.mjs). By AI agents, Wed Nov 11 2026. No macro, syntax, notation, axiom, sorry.
-/
import Derived.Test.YtpjlajkjknkbaaaGreatDoorRows
import GoSem.ClaimSeven
namespace Go.Proofs.YtpjlajkjknkbaaaGreatDoor
namespace Rows

/-- THE TIED CARD OF 'leveelaw15.GetNil'. -/
def getNilCard : Claim7 := { stood := { row := getNilRow, standIns := [], harness := (true, "743b25a2f6c3649d48ba0976866f58fedcf20082bf189d0107790cff58fe01fe"), looks := true }, kinds := [], alts := [], laidByText := true, laidKinds := [.data], laidTests := true, laidLooks := .later }
def GetNilCardSaid : Prop := Claim7.holds Tryz.pinned (.plain (OpenSpec.ofChange getNilSpec)) getNilCard

/-- THE SECOND FORM's CARD OF 'leveelaw15.GetNil'. -/
def getNilUptoCard : Claim7 := { stood := { row := getNilUptoRow, standIns := [], harness := (true, "743b25a2f6c3649d48ba0976866f58fedcf20082bf189d0107790cff58fe01fe"), looks := true }, kinds := [], alts := [], laidByText := true, laidKinds := [.data], laidTests := true, laidLooks := .later }
def GetNilUptoCardSaid : Prop := Claim7.holds Tryz.pinned (.plain (OpenSpec.upto getNilSpec)) getNilUptoCard
end Rows
end Go.Proofs.YtpjlajkjknkbaaaGreatDoor
