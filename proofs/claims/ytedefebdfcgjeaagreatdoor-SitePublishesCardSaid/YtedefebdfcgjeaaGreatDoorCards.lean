/-
  DERIVED. GIVEN WITH THE SEED: THE CARDS: each row of YtedefebdfcgjeaaGreatDoorRows.lean that lists a variable, with what it lists TIED to the program's text (the seventh form; the later family's looks); each row that meets fmt, with fmt's text TOLD by the authors' own Lean function (tested against real Go, not proved from fmt's source: count such statements apart). THE CARD IS WHAT COUNTS. Prove the row's statement (the work); the ties are given (YtedefebdfcgjeaaGreatDoorTie.lean); close each card by the builder's one call (the guide's Derived/Test/ToyasCard.lean, 'card_holds'). Laid BY PROGRAM, IN A SANDBOX (cutbox-door.mjs). By AI agents, Wed Nov 11 2026. No macro, syntax, notation, axiom, sorry.
-/
import Derived.Test.YtedefebdfcgjeaaGreatDoorRows
import GoSem.ClaimSeven
namespace Go.Proofs.YtedefebdfcgjeaaGreatDoor
namespace Rows

/-- THE TIED CARD OF 'leveelaw13.SitePublishes'. -/
def sitePublishesCard : Claim7 := { stood := { row := sitePublishesRow, standIns := [], harness := (true, "54d60f0883d10498a077c42722bd58e1d74a2e5783e44231fb40c90be6f3b92d"), looks := true }, kinds := [], alts := [], laidByText := true, laidKinds := [.data], laidTests := true, laidLooks := .later }
def SitePublishesCardSaid : Prop := Claim7.holds Tryz.pinned (.plain (OpenSpec.ofChange sitePublishesSpec)) sitePublishesCard

/-- THE TIED CARD OF 'leveelaw13.SiteDrops'. -/
def siteDropsCard : Claim7 := { stood := { row := siteDropsRow, standIns := [], harness := (true, "54d60f0883d10498a077c42722bd58e1d74a2e5783e44231fb40c90be6f3b92d"), looks := true }, kinds := [], alts := [], laidByText := true, laidKinds := [.data], laidTests := true, laidLooks := .later }
def SiteDropsCardSaid : Prop := Claim7.holds Tryz.pinned (.plain (OpenSpec.ofChange siteDropsSpec)) siteDropsCard

/-- THE SECOND FORM's CARD OF 'leveelaw13.SitePublishes'. -/
def sitePublishesUptoCard : Claim7 := { stood := { row := sitePublishesUptoRow, standIns := [], harness := (true, "54d60f0883d10498a077c42722bd58e1d74a2e5783e44231fb40c90be6f3b92d"), looks := true }, kinds := [], alts := [], laidByText := true, laidKinds := [.data], laidTests := true, laidLooks := .later }
def SitePublishesUptoCardSaid : Prop := Claim7.holds Tryz.pinned (.plain (OpenSpec.upto sitePublishesSpec)) sitePublishesUptoCard

/-- THE SECOND FORM's CARD OF 'leveelaw13.SiteDrops'. -/
def siteDropsUptoCard : Claim7 := { stood := { row := siteDropsUptoRow, standIns := [], harness := (true, "54d60f0883d10498a077c42722bd58e1d74a2e5783e44231fb40c90be6f3b92d"), looks := true }, kinds := [], alts := [], laidByText := true, laidKinds := [.data], laidTests := true, laidLooks := .later }
def SiteDropsUptoCardSaid : Prop := Claim7.holds Tryz.pinned (.plain (OpenSpec.upto siteDropsSpec)) siteDropsUptoCard
end Rows
end Go.Proofs.YtedefebdfcgjeaaGreatDoor
