/-
  DERIVED. GIVEN WITH THE SEED: THE CARDS: each row of YtlpampbdnbjphaaDoorRows.lean that lists a variable, with what it lists TIED to the program's text (the seventh form; the later family's looks); each row that meets fmt, with fmt's text TOLD by the authors' own Lean function (tested against real Go, not proved from fmt's source: count such statements apart). THE CARD IS WHAT COUNTS. Prove the row's statement (the work); the ties are given (YtlpampbdnbjphaaDoorTie.lean); close each card by the builder's one call (the guide's Derived/Test/ToyasCard.lean, 'card_holds'). Laid BY PROGRAM, IN A SANDBOX (cutbox-door.mjs). By AI agents, Wed Nov 11 2026. No macro, syntax, notation, axiom, sorry.
-/
import Derived.Test.YtlpampbdnbjphaaDoorRows
import GoSem.ClaimSeven
namespace Go.Proofs.YtlpampbdnbjphaaDoor
namespace Rows

/-- THE TIED CARD OF 'leveelaw04.SuperMakes'. -/
def superMakesCard : Claim7 := { stood := { row := superMakesRow, standIns := [], harness := (true, "9a2aa5c4acac0da7dfc26c07ed8e0da83ba64be6d800c3ed1d2f1be466d4e360"), looks := false }, kinds := [], alts := [], laidByText := true, laidKinds := [.data], laidTests := true, laidLooks := .later }
def SuperMakesCardSaid : Prop := Claim7.holds Tryd.pinned (.plain (OpenSpec.ofChange superMakesSpec)) superMakesCard

/-- THE TIED CARD OF 'leveelaw04.SuperMay'. -/
def superMayCard : Claim7 := { stood := { row := superMayRow, standIns := [], harness := (true, "9a2aa5c4acac0da7dfc26c07ed8e0da83ba64be6d800c3ed1d2f1be466d4e360"), looks := false }, kinds := [], alts := [], laidByText := true, laidKinds := [.data], laidTests := true, laidLooks := .later }
def SuperMayCardSaid : Prop := Claim7.holds Tryd.pinned (.plain (OpenSpec.ofChange superMaySpec)) superMayCard

/-- THE TIED CARD OF 'leveelaw04.SuperWords'. -/
def superWordsCard : Claim7 := { stood := { row := superWordsRow, standIns := [], harness := (true, "9a2aa5c4acac0da7dfc26c07ed8e0da83ba64be6d800c3ed1d2f1be466d4e360"), looks := false }, kinds := [], alts := [], laidByText := true, laidKinds := [.data], laidTests := true, laidLooks := .later }
def SuperWordsCardSaid : Prop := Claim7.holds Tryd.pinned (.plain (OpenSpec.ofChange superWordsSpec)) superWordsCard

/-- THE TIED CARD OF 'leveelaw04.SuperReads'. -/
def superReadsCard : Claim7 := { stood := { row := superReadsRow, standIns := [], harness := (true, "9a2aa5c4acac0da7dfc26c07ed8e0da83ba64be6d800c3ed1d2f1be466d4e360"), looks := false }, kinds := [], alts := [], laidByText := true, laidKinds := [.data], laidTests := true, laidLooks := .later }
def SuperReadsCardSaid : Prop := Claim7.holds Tryd.pinned (.plain (OpenSpec.ofChange superReadsSpec)) superReadsCard

/-- THE TIED CARD OF 'leveelaw04.SuperBits'. -/
def superBitsCard : Claim7 := { stood := { row := superBitsRow, standIns := [], harness := (true, "9a2aa5c4acac0da7dfc26c07ed8e0da83ba64be6d800c3ed1d2f1be466d4e360"), looks := false }, kinds := [], alts := [], laidByText := true, laidKinds := [.data], laidTests := true, laidLooks := .later }
def SuperBitsCardSaid : Prop := Claim7.holds Tryd.pinned (.plain (OpenSpec.ofChange superBitsSpec)) superBitsCard

/-- THE TIED CARD OF 'leveelaw04.SuperPlaces'. -/
def superPlacesCard : Claim7 := { stood := { row := superPlacesRow, standIns := [], harness := (true, "9a2aa5c4acac0da7dfc26c07ed8e0da83ba64be6d800c3ed1d2f1be466d4e360"), looks := false }, kinds := [], alts := [], laidByText := true, laidKinds := [.data], laidTests := true, laidLooks := .later }
def SuperPlacesCardSaid : Prop := Claim7.holds Tryd.pinned (.plain (OpenSpec.ofChange superPlacesSpec)) superPlacesCard

/-- THE SECOND FORM's CARD OF 'leveelaw04.SuperMakes'. -/
def superMakesUptoCard : Claim7 := { stood := { row := superMakesUptoRow, standIns := [], harness := (true, "9a2aa5c4acac0da7dfc26c07ed8e0da83ba64be6d800c3ed1d2f1be466d4e360"), looks := false }, kinds := [], alts := [], laidByText := true, laidKinds := [.data], laidTests := true, laidLooks := .later }
def SuperMakesUptoCardSaid : Prop := Claim7.holds Tryd.pinned (.plain (OpenSpec.upto superMakesSpec)) superMakesUptoCard

/-- THE SECOND FORM's CARD OF 'leveelaw04.SuperMay'. -/
def superMayUptoCard : Claim7 := { stood := { row := superMayUptoRow, standIns := [], harness := (true, "9a2aa5c4acac0da7dfc26c07ed8e0da83ba64be6d800c3ed1d2f1be466d4e360"), looks := false }, kinds := [], alts := [], laidByText := true, laidKinds := [.data], laidTests := true, laidLooks := .later }
def SuperMayUptoCardSaid : Prop := Claim7.holds Tryd.pinned (.plain (OpenSpec.upto superMaySpec)) superMayUptoCard

/-- THE SECOND FORM's CARD OF 'leveelaw04.SuperWords'. -/
def superWordsUptoCard : Claim7 := { stood := { row := superWordsUptoRow, standIns := [], harness := (true, "9a2aa5c4acac0da7dfc26c07ed8e0da83ba64be6d800c3ed1d2f1be466d4e360"), looks := false }, kinds := [], alts := [], laidByText := true, laidKinds := [.data], laidTests := true, laidLooks := .later }
def SuperWordsUptoCardSaid : Prop := Claim7.holds Tryd.pinned (.plain (OpenSpec.upto superWordsSpec)) superWordsUptoCard

/-- THE SECOND FORM's CARD OF 'leveelaw04.SuperReads'. -/
def superReadsUptoCard : Claim7 := { stood := { row := superReadsUptoRow, standIns := [], harness := (true, "9a2aa5c4acac0da7dfc26c07ed8e0da83ba64be6d800c3ed1d2f1be466d4e360"), looks := false }, kinds := [], alts := [], laidByText := true, laidKinds := [.data], laidTests := true, laidLooks := .later }
def SuperReadsUptoCardSaid : Prop := Claim7.holds Tryd.pinned (.plain (OpenSpec.upto superReadsSpec)) superReadsUptoCard

/-- THE SECOND FORM's CARD OF 'leveelaw04.SuperBits'. -/
def superBitsUptoCard : Claim7 := { stood := { row := superBitsUptoRow, standIns := [], harness := (true, "9a2aa5c4acac0da7dfc26c07ed8e0da83ba64be6d800c3ed1d2f1be466d4e360"), looks := false }, kinds := [], alts := [], laidByText := true, laidKinds := [.data], laidTests := true, laidLooks := .later }
def SuperBitsUptoCardSaid : Prop := Claim7.holds Tryd.pinned (.plain (OpenSpec.upto superBitsSpec)) superBitsUptoCard

/-- THE SECOND FORM's CARD OF 'leveelaw04.SuperPlaces'. -/
def superPlacesUptoCard : Claim7 := { stood := { row := superPlacesUptoRow, standIns := [], harness := (true, "9a2aa5c4acac0da7dfc26c07ed8e0da83ba64be6d800c3ed1d2f1be466d4e360"), looks := false }, kinds := [], alts := [], laidByText := true, laidKinds := [.data], laidTests := true, laidLooks := .later }
def SuperPlacesUptoCardSaid : Prop := Claim7.holds Tryd.pinned (.plain (OpenSpec.upto superPlacesSpec)) superPlacesUptoCard
end Rows
end Go.Proofs.YtlpampbdnbjphaaDoor
