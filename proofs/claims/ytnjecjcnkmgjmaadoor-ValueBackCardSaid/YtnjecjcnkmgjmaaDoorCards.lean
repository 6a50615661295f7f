/-
  DERIVED. GIVEN WITH THE SEED: THE CARDS: each row of YtnjecjcnkmgjmaaDoorRows.lean that lists a variable, with what it lists TIED to the program's text (the seventh form; the later family's looks); each row that meets fmt, with fmt's text TOLD by the authors' own Lean function (tested against real Go, not proved from fmt's source: count such statements apart). THE CARD IS WHAT COUNTS. Prove the row's statement (the work); the ties are given (YtnjecjcnkmgjmaaDoorTie.lean); close each card by the builder's one call (the guide's Derived/Test/ToyasCard.lean, 'card_holds'). Laid BY PROGRAM, IN A SANDBOX (cutbox-door.mjs). By AI agents, Wed Nov 11 2026. No macro, syntax, notation, axiom, sorry.
-/
import Derived.Test.YtnjecjcnkmgjmaaDoorRows
import GoSem.ClaimSeven
namespace Go.Proofs.YtnjecjcnkmgjmaaDoor
namespace Rows

/-- THE TIED CARD OF 'leveelaw12.ValuePuts'. -/
def valuePutsCard : Claim7 := { stood := { row := valuePutsRow, standIns := [], harness := (true, "34c779af5ecfc07e5ed3548dbb0302ede64ccffd8694f4f15a3b0659c3d75a58"), looks := false }, kinds := [], alts := [], laidByText := true, laidKinds := [.data], laidTests := true, laidLooks := .later }
def ValuePutsCardSaid : Prop := Claim7.holds Tryd.pinned (.plain (OpenSpec.ofChange valuePutsSpec)) valuePutsCard

/-- THE TIED CARD OF 'leveelaw12.ValueReads'. -/
def valueReadsCard : Claim7 := { stood := { row := valueReadsRow, standIns := [], harness := (true, "34c779af5ecfc07e5ed3548dbb0302ede64ccffd8694f4f15a3b0659c3d75a58"), looks := false }, kinds := [], alts := [], laidByText := true, laidKinds := [.data], laidTests := true, laidLooks := .later }
def ValueReadsCardSaid : Prop := Claim7.holds Tryd.pinned (.plain (OpenSpec.ofChange valueReadsSpec)) valueReadsCard

/-- THE TIED CARD OF 'leveelaw12.ValueBack'. -/
def valueBackCard : Claim7 := { stood := { row := valueBackRow, standIns := [], harness := (true, "34c779af5ecfc07e5ed3548dbb0302ede64ccffd8694f4f15a3b0659c3d75a58"), looks := false }, kinds := [], alts := [], laidByText := true, laidKinds := [.data], laidTests := true, laidLooks := .later }
def ValueBackCardSaid : Prop := Claim7.holds Tryd.pinned (.plain (OpenSpec.ofChange valueBackSpec)) valueBackCard

/-- THE TIED CARD OF 'leveelaw12.ValueTorn'. -/
def valueTornCard : Claim7 := { stood := { row := valueTornRow, standIns := [], harness := (true, "34c779af5ecfc07e5ed3548dbb0302ede64ccffd8694f4f15a3b0659c3d75a58"), looks := false }, kinds := [], alts := [], laidByText := true, laidKinds := [.data], laidTests := true, laidLooks := .later }
def ValueTornCardSaid : Prop := Claim7.holds Tryd.pinned (.plain (OpenSpec.ofChange valueTornSpec)) valueTornCard

/-- THE TIED CARD OF 'leveelaw12.ValueNil'. -/
def valueNilCard : Claim7 := { stood := { row := valueNilRow, standIns := [], harness := (true, "34c779af5ecfc07e5ed3548dbb0302ede64ccffd8694f4f15a3b0659c3d75a58"), looks := false }, kinds := [], alts := [], laidByText := true, laidKinds := [.data], laidTests := true, laidLooks := .later }
def ValueNilCardSaid : Prop := Claim7.holds Tryd.pinned (.plain (OpenSpec.ofChange valueNilSpec)) valueNilCard

/-- THE SECOND FORM's CARD OF 'leveelaw12.ValuePuts'. -/
def valuePutsUptoCard : Claim7 := { stood := { row := valuePutsUptoRow, standIns := [], harness := (true, "34c779af5ecfc07e5ed3548dbb0302ede64ccffd8694f4f15a3b0659c3d75a58"), looks := false }, kinds := [], alts := [], laidByText := true, laidKinds := [.data], laidTests := true, laidLooks := .later }
def ValuePutsUptoCardSaid : Prop := Claim7.holds Tryd.pinned (.plain (OpenSpec.upto valuePutsSpec)) valuePutsUptoCard

/-- THE SECOND FORM's CARD OF 'leveelaw12.ValueReads'. -/
def valueReadsUptoCard : Claim7 := { stood := { row := valueReadsUptoRow, standIns := [], harness := (true, "34c779af5ecfc07e5ed3548dbb0302ede64ccffd8694f4f15a3b0659c3d75a58"), looks := false }, kinds := [], alts := [], laidByText := true, laidKinds := [.data], laidTests := true, laidLooks := .later }
def ValueReadsUptoCardSaid : Prop := Claim7.holds Tryd.pinned (.plain (OpenSpec.upto valueReadsSpec)) valueReadsUptoCard

/-- THE SECOND FORM's CARD OF 'leveelaw12.ValueBack'. -/
def valueBackUptoCard : Claim7 := { stood := { row := valueBackUptoRow, standIns := [], harness := (true, "34c779af5ecfc07e5ed3548dbb0302ede64ccffd8694f4f15a3b0659c3d75a58"), looks := false }, kinds := [], alts := [], laidByText := true, laidKinds := [.data], laidTests := true, laidLooks := .later }
def ValueBackUptoCardSaid : Prop := Claim7.holds Tryd.pinned (.plain (OpenSpec.upto valueBackSpec)) valueBackUptoCard

/-- THE SECOND FORM's CARD OF 'leveelaw12.ValueTorn'. -/
def valueTornUptoCard : Claim7 := { stood := { row := valueTornUptoRow, standIns := [], harness := (true, "34c779af5ecfc07e5ed3548dbb0302ede64ccffd8694f4f15a3b0659c3d75a58"), looks := false }, kinds := [], alts := [], laidByText := true, laidKinds := [.data], laidTests := true, laidLooks := .later }
def ValueTornUptoCardSaid : Prop := Claim7.holds Tryd.pinned (.plain (OpenSpec.upto valueTornSpec)) valueTornUptoCard

/-- THE SECOND FORM's CARD OF 'leveelaw12.ValueNil'. -/
def valueNilUptoCard : Claim7 := { stood := { row := valueNilUptoRow, standIns := [], harness := (true, "34c779af5ecfc07e5ed3548dbb0302ede64ccffd8694f4f15a3b0659c3d75a58"), looks := false }, kinds := [], alts := [], laidByText := true, laidKinds := [.data], laidTests := true, laidLooks := .later }
def ValueNilUptoCardSaid : Prop := Claim7.holds Tryd.pinned (.plain (OpenSpec.upto valueNilSpec)) valueNilUptoCard
end Rows
end Go.Proofs.YtnjecjcnkmgjmaaDoor
