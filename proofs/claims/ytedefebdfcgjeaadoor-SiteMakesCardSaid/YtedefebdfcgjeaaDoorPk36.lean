/- Texts of this claim, packed: SiG, SiGc. -/
import Derived.Test.YtedefebdfcgjeaaDoorPk08
import Derived.WalkMore
/- What a site has, nil or zero or one: its memory, its blocks, its locks, how many clients; Drop. -/
namespace Go.Proofs.YtedefebdfcgjeaaDoor
open Go.RowKit
set_option linter.unusedVariables false
def SiteAt (w : World) (g : Nat) (m s t : Option Addr) : Prop := Row w g 78 #[.pointer m, .pointer s, .pointer t]
theorem siMem_nil (w : World) : Calls Tryd.prog 9 #[.pointer none] w fun e w' => e = .returned (.pointer none) ∧ w = w' := by
  go_enter Tryd.func9, Tryd.ntmps9
  go_wp2
  go_ret
  exact ⟨rfl, rfl⟩
theorem siMem_yes {w : World} {g : Nat} {m s t : Option Addr} (h : SiteAt w g m s t) : Calls Tryd.prog 9 #[.pointer (some ⟨g, 0, none⟩)] w fun e w' => e = .returned (.pointer m) ∧ w = w' := by
  have h1 := Row.cell h 0
  simp only [List.getElem?_toArray, List.getElem?_cons_succ, List.getElem?_cons_zero] at h1
  clear h
  go_enter Tryd.func9, Tryd.ntmps9
  go_wp2
  go_ret
  exact ⟨rfl, rfl⟩
theorem siSlab_nil (w : World) : Calls Tryd.prog 10 #[.pointer none] w fun e w' => e = .returned (.pointer none) ∧ w = w' := by
  go_enter Tryd.func10, Tryd.ntmps10
  go_wp2
  go_ret
  exact ⟨rfl, rfl⟩
theorem siSlab_yes {w : World} {g : Nat} {m s t : Option Addr} (h : SiteAt w g m s t) : Calls Tryd.prog 10 #[.pointer (some ⟨g, 0, none⟩)] w fun e w' => e = .returned (.pointer s) ∧ w = w' := by
  have h1 := Row.cell h 1
  simp only [List.getElem?_toArray, List.getElem?_cons_succ, List.getElem?_cons_zero] at h1
  clear h
  go_enter Tryd.func10, Tryd.ntmps10
  go_wp2
  go_ret
  exact ⟨rfl, rfl⟩
theorem siLocks_nil (w : World) : Calls Tryd.prog 12 #[.pointer none] w fun e w' => e = .returned (.pointer none) ∧ w = w' := by
  go_enter Tryd.func12, Tryd.ntmps12
  go_wp2
  go_ret
  exact ⟨rfl, rfl⟩
theorem siLocks_yes {w : World} {g : Nat} {m s t : Option Addr} (h : SiteAt w g m s t) : Calls Tryd.prog 12 #[.pointer (some ⟨g, 0, none⟩)] w fun e w' => e = .returned (.pointer t) ∧ w = w' := by
  have h1 := Row.cell h 2
  simp only [List.getElem?_toArray, List.getElem?_cons_succ, List.getElem?_cons_zero] at h1
  clear h
  go_enter Tryd.func12, Tryd.ntmps12
  go_wp2
  go_ret
  exact ⟨rfl, rfl⟩
end Go.Proofs.YtedefebdfcgjeaaDoor
/- How many clients a site has, by what its locks answer. -/
namespace Go.Proofs.YtedefebdfcgjeaaDoor
open Go.RowKit
set_option linter.unusedVariables false
/-- How many clients, by what the locks answer. -/
theorem siClients_of {w : World} {p t : Option Addr} {n : Int} (hl : Calls Tryd.prog 12 #[.pointer p] w fun e w' => e = .returned (.pointer t) ∧ w = w') (hc : Calls Tryd.prog 13 #[.pointer t] w fun e w' => e = .returned (.int .i64 n) ∧ w = w') :
    Calls Tryd.prog 11 #[.pointer p] w fun e w' => e = .returned (.int .i64 n) ∧ w = w' := by
  have HL := Lib.hid hl
  have HC := Lib.hid hc
  clear hl hc
  go_enter Tryd.func11, Tryd.ntmps11
  go_wp2_with fail
  refine HL.out.mono ?_
  rintro e w' ⟨rfl, rfl⟩
  go_wp2_with fail
  refine HC.out.mono ?_
  rintro e w' ⟨rfl, rfl⟩
  go_wp2
  go_ret
  exact ⟨rfl, rfl⟩
end Go.Proofs.YtedefebdfcgjeaaDoor
