/-
  DERIVED. GIVEN WITH THE SEED: THE CARDS: each row of YtdhenfachjegpaaDoorRows.lean that lists a variable, with what it lists TIED to the program's text (the seventh form; the later family's looks); each row that meets fmt, with fmt's text TOLD by the authors' own Lean function (tested against real Go, not proved from fmt's source: count such statements apart). THE CARD IS WHAT COUNTS. Prove the row's statement (the work); the ties are given (YtdhenfachjegpaaDoorTie.lean); close each card by the builder's one call (the guide's Derived/Test/ToyasCard.lean, 'card_holds'). Laid BY PROGRAM, IN A SANDBOX (cutbox-door.mjs). By AI agents, Wed Nov 11 2026. No macro, syntax, notation, axiom, sorry.
-/
import Derived.Test.YtdhenfachjegpaaDoorRows
import GoSem.ClaimSeven
namespace Go.Proofs.YtdhenfachjegpaaDoor
namespace Rows

/-- THE TIED CARD OF 'leveelaw03.GeoSizes'. -/
def geoSizesCard : Claim7 := { stood := { row := geoSizesRow, standIns := [], harness := (true, "40e7fcde48774eead1232857d82a71958945122e6edb41de081e477038d63549"), looks := false }, kinds := [], alts := [], laidByText := true, laidKinds := [.data], laidTests := true, laidLooks := .later }
def GeoSizesCardSaid : Prop := Claim7.holds Tryd.pinned (.plain (OpenSpec.ofChange geoSizesSpec)) geoSizesCard

/-- THE TIED CARD OF 'leveelaw03.GeoBlocks'. -/
def geoBlocksCard : Claim7 := { stood := { row := geoBlocksRow, standIns := [], harness := (true, "40e7fcde48774eead1232857d82a71958945122e6edb41de081e477038d63549"), looks := false }, kinds := [], alts := [], laidByText := true, laidKinds := [.data], laidTests := true, laidLooks := .later }
def GeoBlocksCardSaid : Prop := Claim7.holds Tryd.pinned (.plain (OpenSpec.ofChange geoBlocksSpec)) geoBlocksCard

/-- THE TIED CARD OF 'leveelaw03.GeoFinds'. -/
def geoFindsCard : Claim7 := { stood := { row := geoFindsRow, standIns := [], harness := (true, "40e7fcde48774eead1232857d82a71958945122e6edb41de081e477038d63549"), looks := false }, kinds := [], alts := [], laidByText := true, laidKinds := [.data], laidTests := true, laidLooks := .later }
def GeoFindsCardSaid : Prop := Claim7.holds Tryd.pinned (.plain (OpenSpec.ofChange geoFindsSpec)) geoFindsCard

/-- THE TIED CARD OF 'leveelaw03.GeoApart'. -/
def geoApartCard : Claim7 := { stood := { row := geoApartRow, standIns := [], harness := (true, "40e7fcde48774eead1232857d82a71958945122e6edb41de081e477038d63549"), looks := false }, kinds := [], alts := [], laidByText := true, laidKinds := [.data], laidTests := true, laidLooks := .later }
def GeoApartCardSaid : Prop := Claim7.holds Tryd.pinned (.plain (OpenSpec.ofChange geoApartSpec)) geoApartCard

/-- THE TIED CARD OF 'leveelaw03.GeoNodes'. -/
def geoNodesCard : Claim7 := { stood := { row := geoNodesRow, standIns := [], harness := (true, "40e7fcde48774eead1232857d82a71958945122e6edb41de081e477038d63549"), looks := false }, kinds := [], alts := [], laidByText := true, laidKinds := [.data], laidTests := true, laidLooks := .later }
def GeoNodesCardSaid : Prop := Claim7.holds Tryd.pinned (.plain (OpenSpec.ofChange geoNodesSpec)) geoNodesCard

/-- THE TIED CARD OF 'leveelaw03.GeoWhole'. -/
def geoWholeCard : Claim7 := { stood := { row := geoWholeRow, standIns := [], harness := (true, "40e7fcde48774eead1232857d82a71958945122e6edb41de081e477038d63549"), looks := false }, kinds := [], alts := [], laidByText := true, laidKinds := [.data], laidTests := true, laidLooks := .later }
def GeoWholeCardSaid : Prop := Claim7.holds Tryd.pinned (.plain (OpenSpec.ofChange geoWholeSpec)) geoWholeCard

/-- THE SECOND FORM's CARD OF 'leveelaw03.GeoSizes'. -/
def geoSizesUptoCard : Claim7 := { stood := { row := geoSizesUptoRow, standIns := [], harness := (true, "40e7fcde48774eead1232857d82a71958945122e6edb41de081e477038d63549"), looks := false }, kinds := [], alts := [], laidByText := true, laidKinds := [.data], laidTests := true, laidLooks := .later }
def GeoSizesUptoCardSaid : Prop := Claim7.holds Tryd.pinned (.plain (OpenSpec.upto geoSizesSpec)) geoSizesUptoCard

/-- THE SECOND FORM's CARD OF 'leveelaw03.GeoBlocks'. -/
def geoBlocksUptoCard : Claim7 := { stood := { row := geoBlocksUptoRow, standIns := [], harness := (true, "40e7fcde48774eead1232857d82a71958945122e6edb41de081e477038d63549"), looks := false }, kinds := [], alts := [], laidByText := true, laidKinds := [.data], laidTests := true, laidLooks := .later }
def GeoBlocksUptoCardSaid : Prop := Claim7.holds Tryd.pinned (.plain (OpenSpec.upto geoBlocksSpec)) geoBlocksUptoCard

/-- THE SECOND FORM's CARD OF 'leveelaw03.GeoFinds'. -/
def geoFindsUptoCard : Claim7 := { stood := { row := geoFindsUptoRow, standIns := [], harness := (true, "40e7fcde48774eead1232857d82a71958945122e6edb41de081e477038d63549"), looks := false }, kinds := [], alts := [], laidByText := true, laidKinds := [.data], laidTests := true, laidLooks := .later }
def GeoFindsUptoCardSaid : Prop := Claim7.holds Tryd.pinned (.plain (OpenSpec.upto geoFindsSpec)) geoFindsUptoCard

/-- THE SECOND FORM's CARD OF 'leveelaw03.GeoApart'. -/
def geoApartUptoCard : Claim7 := { stood := { row := geoApartUptoRow, standIns := [], harness := (true, "40e7fcde48774eead1232857d82a71958945122e6edb41de081e477038d63549"), looks := false }, kinds := [], alts := [], laidByText := true, laidKinds := [.data], laidTests := true, laidLooks := .later }
def GeoApartUptoCardSaid : Prop := Claim7.holds Tryd.pinned (.plain (OpenSpec.upto geoApartSpec)) geoApartUptoCard

/-- THE SECOND FORM's CARD OF 'leveelaw03.GeoNodes'. -/
def geoNodesUptoCard : Claim7 := { stood := { row := geoNodesUptoRow, standIns := [], harness := (true, "40e7fcde48774eead1232857d82a71958945122e6edb41de081e477038d63549"), looks := false }, kinds := [], alts := [], laidByText := true, laidKinds := [.data], laidTests := true, laidLooks := .later }
def GeoNodesUptoCardSaid : Prop := Claim7.holds Tryd.pinned (.plain (OpenSpec.upto geoNodesSpec)) geoNodesUptoCard

/-- THE SECOND FORM's CARD OF 'leveelaw03.GeoWhole'. -/
def geoWholeUptoCard : Claim7 := { stood := { row := geoWholeUptoRow, standIns := [], harness := (true, "40e7fcde48774eead1232857d82a71958945122e6edb41de081e477038d63549"), looks := false }, kinds := [], alts := [], laidByText := true, laidKinds := [.data], laidTests := true, laidLooks := .later }
def GeoWholeUptoCardSaid : Prop := Claim7.holds Tryd.pinned (.plain (OpenSpec.upto geoWholeSpec)) geoWholeUptoCard
end Rows
end Go.Proofs.YtdhenfachjegpaaDoor
