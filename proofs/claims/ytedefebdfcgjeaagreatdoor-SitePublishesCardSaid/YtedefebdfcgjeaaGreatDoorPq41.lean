/- Texts of this claim, packed: SiG. -/
import Derived.Test.YtedefebdfcgjeaaGreatDoorPq08
import Derived.WalkMore
/- What a site has, nil or zero or one: its memory, its blocks, its locks, how many clients; Drop. -/
namespace Go.Proofs.YtedefebdfcgjeaaGreatDoor
open Go.RowKit
set_option linter.unusedVariables false
def SiteAt (w : World) (g : Nat) (m s t : Option Addr) : Prop := Row w g 95 #[.pointer m, .pointer s, .pointer t]
theorem siMem_nil (w : World) : Calls Tryz.prog 10 #[.pointer none] w fun e w' => e = .returned (.pointer none) ∧ w = w' := by
  go_enter Tryz.func10, Tryz.ntmps10
  go_wp2
  go_ret
  exact ⟨rfl, rfl⟩
theorem siMem_yes {w : World} {g : Nat} {m s t : Option Addr} (h : SiteAt w g m s t) : Calls Tryz.prog 10 #[.pointer (some ⟨g, 0, none⟩)] w fun e w' => e = .returned (.pointer m) ∧ w = w' := by
  have h1 := Row.cell h 0
  simp only [List.getElem?_toArray, List.getElem?_cons_succ, List.getElem?_cons_zero] at h1
  clear h
  go_enter Tryz.func10, Tryz.ntmps10
  go_wp2
  go_ret
  exact ⟨rfl, rfl⟩
theorem siSlab_nil (w : World) : Calls Tryz.prog 11 #[.pointer none] w fun e w' => e = .returned (.pointer none) ∧ w = w' := by
  go_enter Tryz.func11, Tryz.ntmps11
  go_wp2
  go_ret
  exact ⟨rfl, rfl⟩
theorem siSlab_yes {w : World} {g : Nat} {m s t : Option Addr} (h : SiteAt w g m s t) : Calls Tryz.prog 11 #[.pointer (some ⟨g, 0, none⟩)] w fun e w' => e = .returned (.pointer s) ∧ w = w' := by
  have h1 := Row.cell h 1
  simp only [List.getElem?_toArray, List.getElem?_cons_succ, List.getElem?_cons_zero] at h1
  clear h
  go_enter Tryz.func11, Tryz.ntmps11
  go_wp2
  go_ret
  exact ⟨rfl, rfl⟩
theorem siLocks_nil (w : World) : Calls Tryz.prog 20 #[.pointer none] w fun e w' => e = .returned (.pointer none) ∧ w = w' := by
  go_enter Tryz.func20, Tryz.ntmps20
  go_wp2
  go_ret
  exact ⟨rfl, rfl⟩
theorem siLocks_yes {w : World} {g : Nat} {m s t : Option Addr} (h : SiteAt w g m s t) : Calls Tryz.prog 20 #[.pointer (some ⟨g, 0, none⟩)] w fun e w' => e = .returned (.pointer t) ∧ w = w' := by
  have h1 := Row.cell h 2
  simp only [List.getElem?_toArray, List.getElem?_cons_succ, List.getElem?_cons_zero] at h1
  clear h
  go_enter Tryz.func20, Tryz.ntmps20
  go_wp2
  go_ret
  exact ⟨rfl, rfl⟩
theorem siDrop_of {w : World} {p t : Option Addr} {c : Int} {Q : World → Prop} (hl : Calls Tryz.prog 20 #[.pointer p] w fun e w' => e = .returned (.pointer t) ∧ w = w') (hd : Calls Tryz.prog 56 #[.pointer t, .int .i64 c] w fun e w' => e = .returned (.tuple #[]) ∧ Q w') :
    Calls Tryz.prog 23 #[.pointer p, .int .i64 c] w fun e w' => e = .returned (.tuple #[]) ∧ Q w' := by
  have HL := Lib.hid hl
  have HD := Lib.hid hd
  clear hl hd
  go_enter Tryz.func23, Tryz.ntmps23
  go_wp2_with fail
  refine HL.out.mono ?_
  rintro e w' ⟨rfl, rfl⟩
  go_wp2_with fail
  refine HD.out.mono ?_
  rintro e w' ⟨rfl, hq⟩
  have HQ := Lib.hid hq
  clear hq
  go_wp2
  go_end0
  exact ⟨rfl, HQ.out⟩
theorem kdrop_no {p : Option Addr} {w : World} (h : NoTab w p) (c : Int) : Calls Tryz.prog 56 #[.pointer p, .int .i64 c] w fun e w' => e = .returned (.tuple #[]) ∧ Below w.heap.size w w' := by
  have H := Lib.hid (is_no (h.below (alloc_below w (.cells #[.pointer p] 53))) c)
  clear h
  go_enter Tryz.func56, Tryz.ntmps56
  go_wp2_with fail
  refine H.out.mono ?_
  rintro e w1 ⟨rfl, rfl⟩
  go_wp2
  refine bodyPost_ret (results_none rfl _ _ _) rfl ?_
  exact ⟨rfl, alloc_below _ _⟩
end Go.Proofs.YtedefebdfcgjeaaGreatDoor
