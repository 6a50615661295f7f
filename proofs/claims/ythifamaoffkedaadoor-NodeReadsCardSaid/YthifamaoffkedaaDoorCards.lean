/-
  DERIVED. GIVEN WITH THE SEED: THE CARDS: each row of YthifamaoffkedaaDoorRows.lean that lists a variable, with what it lists TIED to the program's text (the seventh form; the later family's looks); each row that meets fmt, with fmt's text TOLD by the authors' own Lean function (tested against real Go, not proved from fmt's source: count such statements apart). THE CARD IS WHAT COUNTS. Prove the row's statement (the work); the ties are given (YthifamaoffkedaaDoorTie.lean); close each card by the builder's one call (the guide's Derived/Test/ToyasCard.lean, 'card_holds'). Laid BY PROGRAM, IN A SANDBOX (cutbox-door.mjs). By AI agents, Wed Nov 11 2026. No macro, syntax, notation, axiom, sorry.
-/
import Derived.Test.YthifamaoffkedaaDoorRows
import GoSem.ClaimSeven
namespace Go.Proofs.YthifamaoffkedaaDoor
namespace Rows

/-- THE TIED CARD OF 'leveelaw08.NodeWords'. -/
def nodeWordsCard : Claim7 := { stood := { row := nodeWordsRow, standIns := [], harness := (true, "6909ab87d2d2a584f98ec705481a291f4b42b813fc38c60ce91cbbb90de717b3"), looks := false }, kinds := [], alts := [], laidByText := true, laidKinds := [.data, .data, .data], laidTests := true, laidLooks := .later }
def NodeWordsCardSaid : Prop := Claim7.holds Tryd.pinned (.plain (OpenSpec.ofChange nodeWordsSpec)) nodeWordsCard

/-- THE TIED CARD OF 'leveelaw08.NodeReads'. -/
def nodeReadsCard : Claim7 := { stood := { row := nodeReadsRow, standIns := [], harness := (true, "6909ab87d2d2a584f98ec705481a291f4b42b813fc38c60ce91cbbb90de717b3"), looks := false }, kinds := [], alts := [], laidByText := true, laidKinds := [.data, .data, .data], laidTests := true, laidLooks := .later }
def NodeReadsCardSaid : Prop := Claim7.holds Tryd.pinned (.plain (OpenSpec.ofChange nodeReadsSpec)) nodeReadsCard

/-- THE TIED CARD OF 'leveelaw08.NodeValid'. -/
def nodeValidCard : Claim7 := { stood := { row := nodeValidRow, standIns := [], harness := (true, "6909ab87d2d2a584f98ec705481a291f4b42b813fc38c60ce91cbbb90de717b3"), looks := false }, kinds := [], alts := [], laidByText := true, laidKinds := [.data, .data, .data], laidTests := true, laidLooks := .later }
def NodeValidCardSaid : Prop := Claim7.holds Tryd.pinned (.plain (OpenSpec.ofChange nodeValidSpec)) nodeValidCard

/-- THE TIED CARD OF 'leveelaw08.NodeMay'. -/
def nodeMayCard : Claim7 := { stood := { row := nodeMayRow, standIns := [], harness := (true, "6909ab87d2d2a584f98ec705481a291f4b42b813fc38c60ce91cbbb90de717b3"), looks := false }, kinds := [], alts := [], laidByText := true, laidKinds := [.data, .data, .data], laidTests := true, laidLooks := .later }
def NodeMayCardSaid : Prop := Claim7.holds Tryd.pinned (.plain (OpenSpec.ofChange nodeMaySpec)) nodeMayCard

/-- THE TIED CARD OF 'leveelaw08.NodeFinds'. -/
def nodeFindsCard : Claim7 := { stood := { row := nodeFindsRow, standIns := [], harness := (true, "6909ab87d2d2a584f98ec705481a291f4b42b813fc38c60ce91cbbb90de717b3"), looks := false }, kinds := [], alts := [], laidByText := true, laidKinds := [.data, .data, .data], laidTests := true, laidLooks := .later }
def NodeFindsCardSaid : Prop := Claim7.holds Tryd.pinned (.plain (OpenSpec.ofChange nodeFindsSpec)) nodeFindsCard

/-- THE TIED CARD OF 'leveelaw08.NodeRises'. -/
def nodeRisesCard : Claim7 := { stood := { row := nodeRisesRow, standIns := [], harness := (true, "6909ab87d2d2a584f98ec705481a291f4b42b813fc38c60ce91cbbb90de717b3"), looks := false }, kinds := [], alts := [], laidByText := true, laidKinds := [.data, .data, .data], laidTests := true, laidLooks := .later }
def NodeRisesCardSaid : Prop := Claim7.holds Tryd.pinned (.plain (OpenSpec.ofChange nodeRisesSpec)) nodeRisesCard

/-- THE TIED CARD OF 'leveelaw08.NodeMakes'. -/
def nodeMakesCard : Claim7 := { stood := { row := nodeMakesRow, standIns := [], harness := (true, "6909ab87d2d2a584f98ec705481a291f4b42b813fc38c60ce91cbbb90de717b3"), looks := false }, kinds := [], alts := [], laidByText := true, laidKinds := [.data, .data, .data], laidTests := true, laidLooks := .later }
def NodeMakesCardSaid : Prop := Claim7.holds Tryd.pinned (.plain (OpenSpec.ofChange nodeMakesSpec)) nodeMakesCard

/-- THE TIED CARD OF 'leveelaw08.NodeTexts'. -/
def nodeTextsCard : Claim7 := { stood := { row := nodeTextsRow, standIns := [], harness := (true, "6909ab87d2d2a584f98ec705481a291f4b42b813fc38c60ce91cbbb90de717b3"), looks := false }, kinds := [], alts := [], laidByText := true, laidKinds := [.data, .data, .data], laidTests := true, laidLooks := .later }
def NodeTextsCardSaid : Prop := Claim7.holds Tryd.pinned (.plain (OpenSpec.ofChange nodeTextsSpec)) nodeTextsCard

/-- THE SECOND FORM's CARD OF 'leveelaw08.NodeWords'. -/
def nodeWordsUptoCard : Claim7 := { stood := { row := nodeWordsUptoRow, standIns := [], harness := (true, "6909ab87d2d2a584f98ec705481a291f4b42b813fc38c60ce91cbbb90de717b3"), looks := false }, kinds := [], alts := [], laidByText := true, laidKinds := [.data, .data, .data], laidTests := true, laidLooks := .later }
def NodeWordsUptoCardSaid : Prop := Claim7.holds Tryd.pinned (.plain (OpenSpec.upto nodeWordsSpec)) nodeWordsUptoCard

/-- THE SECOND FORM's CARD OF 'leveelaw08.NodeReads'. -/
def nodeReadsUptoCard : Claim7 := { stood := { row := nodeReadsUptoRow, standIns := [], harness := (true, "6909ab87d2d2a584f98ec705481a291f4b42b813fc38c60ce91cbbb90de717b3"), looks := false }, kinds := [], alts := [], laidByText := true, laidKinds := [.data, .data, .data], laidTests := true, laidLooks := .later }
def NodeReadsUptoCardSaid : Prop := Claim7.holds Tryd.pinned (.plain (OpenSpec.upto nodeReadsSpec)) nodeReadsUptoCard

/-- THE SECOND FORM's CARD OF 'leveelaw08.NodeValid'. -/
def nodeValidUptoCard : Claim7 := { stood := { row := nodeValidUptoRow, standIns := [], harness := (true, "6909ab87d2d2a584f98ec705481a291f4b42b813fc38c60ce91cbbb90de717b3"), looks := false }, kinds := [], alts := [], laidByText := true, laidKinds := [.data, .data, .data], laidTests := true, laidLooks := .later }
def NodeValidUptoCardSaid : Prop := Claim7.holds Tryd.pinned (.plain (OpenSpec.upto nodeValidSpec)) nodeValidUptoCard

/-- THE SECOND FORM's CARD OF 'leveelaw08.NodeMay'. -/
def nodeMayUptoCard : Claim7 := { stood := { row := nodeMayUptoRow, standIns := [], harness := (true, "6909ab87d2d2a584f98ec705481a291f4b42b813fc38c60ce91cbbb90de717b3"), looks := false }, kinds := [], alts := [], laidByText := true, laidKinds := [.data, .data, .data], laidTests := true, laidLooks := .later }
def NodeMayUptoCardSaid : Prop := Claim7.holds Tryd.pinned (.plain (OpenSpec.upto nodeMaySpec)) nodeMayUptoCard

/-- THE SECOND FORM's CARD OF 'leveelaw08.NodeFinds'. -/
def nodeFindsUptoCard : Claim7 := { stood := { row := nodeFindsUptoRow, standIns := [], harness := (true, "6909ab87d2d2a584f98ec705481a291f4b42b813fc38c60ce91cbbb90de717b3"), looks := false }, kinds := [], alts := [], laidByText := true, laidKinds := [.data, .data, .data], laidTests := true, laidLooks := .later }
def NodeFindsUptoCardSaid : Prop := Claim7.holds Tryd.pinned (.plain (OpenSpec.upto nodeFindsSpec)) nodeFindsUptoCard

/-- THE SECOND FORM's CARD OF 'leveelaw08.NodeRises'. -/
def nodeRisesUptoCard : Claim7 := { stood := { row := nodeRisesUptoRow, standIns := [], harness := (true, "6909ab87d2d2a584f98ec705481a291f4b42b813fc38c60ce91cbbb90de717b3"), looks := false }, kinds := [], alts := [], laidByText := true, laidKinds := [.data, .data, .data], laidTests := true, laidLooks := .later }
def NodeRisesUptoCardSaid : Prop := Claim7.holds Tryd.pinned (.plain (OpenSpec.upto nodeRisesSpec)) nodeRisesUptoCard

/-- THE SECOND FORM's CARD OF 'leveelaw08.NodeMakes'. -/
def nodeMakesUptoCard : Claim7 := { stood := { row := nodeMakesUptoRow, standIns := [], harness := (true, "6909ab87d2d2a584f98ec705481a291f4b42b813fc38c60ce91cbbb90de717b3"), looks := false }, kinds := [], alts := [], laidByText := true, laidKinds := [.data, .data, .data], laidTests := true, laidLooks := .later }
def NodeMakesUptoCardSaid : Prop := Claim7.holds Tryd.pinned (.plain (OpenSpec.upto nodeMakesSpec)) nodeMakesUptoCard

/-- THE SECOND FORM's CARD OF 'leveelaw08.NodeTexts'. -/
def nodeTextsUptoCard : Claim7 := { stood := { row := nodeTextsUptoRow, standIns := [], harness := (true, "6909ab87d2d2a584f98ec705481a291f4b42b813fc38c60ce91cbbb90de717b3"), looks := false }, kinds := [], alts := [], laidByText := true, laidKinds := [.data, .data, .data], laidTests := true, laidLooks := .later }
def NodeTextsUptoCardSaid : Prop := Claim7.holds Tryd.pinned (.plain (OpenSpec.upto nodeTextsSpec)) nodeTextsUptoCard
end Rows
end Go.Proofs.YthifamaoffkedaaDoor
