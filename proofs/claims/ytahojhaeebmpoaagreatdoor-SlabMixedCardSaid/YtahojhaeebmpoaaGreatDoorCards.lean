/-
  DERIVED. GIVEN WITH THE SEED: THE CARDS: each row of YtahojhaeebmpoaaGreatDoorRows.lean that lists a variable, with what it lists TIED to the program's text (the seventh form; the later family's looks); each row that meets fmt, with fmt's text TOLD by the authors' own Lean function (tested against real Go, not proved from fmt's source: count such statements apart). THE CARD IS WHAT COUNTS. Prove the row's statement (the work); the ties are given (YtahojhaeebmpoaaGreatDoorTie.lean); close each card by the builder's one call (the guide's Derived/Test/ToyasCard.lean, 'card_holds'). Laid BY PROGRAM, IN A SANDBOX (cutbox-door.mjs). By AI agents, Wed Nov 11 2026. No macro, syntax, notation, axiom, sorry.
-/
import Derived.Test.YtahojhaeebmpoaaGreatDoorRows
import GoSem.ClaimSeven
namespace Go.Proofs.YtahojhaeebmpoaaGreatDoor
namespace Rows

/-- THE TIED CARD OF 'leveelaw06.SlabReads'. -/
def slabReadsCard : Claim7 := { stood := { row := slabReadsRow, standIns := [], harness := (true, "63ac042a00fb2bd98e6721f4ca475e8a2ac0467f63287e38e0f6df73503e6b7f"), looks := true }, kinds := [], alts := [], laidByText := true, laidKinds := [.data], laidTests := true, laidLooks := .later }
def SlabReadsCardSaid : Prop := Claim7.holds Tryz.pinned (.plain (OpenSpec.ofChange slabReadsSpec)) slabReadsCard

/-- THE TIED CARD OF 'leveelaw06.SlabPlays'. -/
def slabPlaysCard : Claim7 := { stood := { row := slabPlaysRow, standIns := [], harness := (true, "63ac042a00fb2bd98e6721f4ca475e8a2ac0467f63287e38e0f6df73503e6b7f"), looks := true }, kinds := [], alts := [], laidByText := true, laidKinds := [.data], laidTests := true, laidLooks := .later }
def SlabPlaysCardSaid : Prop := Claim7.holds Tryz.pinned (.plain (OpenSpec.ofChange slabPlaysSpec)) slabPlaysCard

/-- THE TIED CARD OF 'leveelaw06.SlabLasts'. -/
def slabLastsCard : Claim7 := { stood := { row := slabLastsRow, standIns := [], harness := (true, "63ac042a00fb2bd98e6721f4ca475e8a2ac0467f63287e38e0f6df73503e6b7f"), looks := true }, kinds := [], alts := [], laidByText := true, laidKinds := [.data], laidTests := true, laidLooks := .later }
def SlabLastsCardSaid : Prop := Claim7.holds Tryz.pinned (.plain (OpenSpec.ofChange slabLastsSpec)) slabLastsCard

/-- THE TIED CARD OF 'leveelaw06.SlabMixed'. -/
def slabMixedCard : Claim7 := { stood := { row := slabMixedRow, standIns := [], harness := (true, "63ac042a00fb2bd98e6721f4ca475e8a2ac0467f63287e38e0f6df73503e6b7f"), looks := true }, kinds := [], alts := [], laidByText := true, laidKinds := [.data], laidTests := true, laidLooks := .later }
def SlabMixedCardSaid : Prop := Claim7.holds Tryz.pinned (.plain (OpenSpec.ofChange slabMixedSpec)) slabMixedCard

/-- THE SECOND FORM's CARD OF 'leveelaw06.SlabReads'. -/
def slabReadsUptoCard : Claim7 := { stood := { row := slabReadsUptoRow, standIns := [], harness := (true, "63ac042a00fb2bd98e6721f4ca475e8a2ac0467f63287e38e0f6df73503e6b7f"), looks := true }, kinds := [], alts := [], laidByText := true, laidKinds := [.data], laidTests := true, laidLooks := .later }
def SlabReadsUptoCardSaid : Prop := Claim7.holds Tryz.pinned (.plain (OpenSpec.upto slabReadsSpec)) slabReadsUptoCard

/-- THE SECOND FORM's CARD OF 'leveelaw06.SlabPlays'. -/
def slabPlaysUptoCard : Claim7 := { stood := { row := slabPlaysUptoRow, standIns := [], harness := (true, "63ac042a00fb2bd98e6721f4ca475e8a2ac0467f63287e38e0f6df73503e6b7f"), looks := true }, kinds := [], alts := [], laidByText := true, laidKinds := [.data], laidTests := true, laidLooks := .later }
def SlabPlaysUptoCardSaid : Prop := Claim7.holds Tryz.pinned (.plain (OpenSpec.upto slabPlaysSpec)) slabPlaysUptoCard

/-- THE SECOND FORM's CARD OF 'leveelaw06.SlabLasts'. -/
def slabLastsUptoCard : Claim7 := { stood := { row := slabLastsUptoRow, standIns := [], harness := (true, "63ac042a00fb2bd98e6721f4ca475e8a2ac0467f63287e38e0f6df73503e6b7f"), looks := true }, kinds := [], alts := [], laidByText := true, laidKinds := [.data], laidTests := true, laidLooks := .later }
def SlabLastsUptoCardSaid : Prop := Claim7.holds Tryz.pinned (.plain (OpenSpec.upto slabLastsSpec)) slabLastsUptoCard

/-- THE SECOND FORM's CARD OF 'leveelaw06.SlabMixed'. -/
def slabMixedUptoCard : Claim7 := { stood := { row := slabMixedUptoRow, standIns := [], harness := (true, "63ac042a00fb2bd98e6721f4ca475e8a2ac0467f63287e38e0f6df73503e6b7f"), looks := true }, kinds := [], alts := [], laidByText := true, laidKinds := [.data], laidTests := true, laidLooks := .later }
def SlabMixedUptoCardSaid : Prop := Claim7.holds Tryz.pinned (.plain (OpenSpec.upto slabMixedSpec)) slabMixedUptoCard
end Rows
end Go.Proofs.YtahojhaeebmpoaaGreatDoor
