/- What a site has, nil or zero or one: its memory, its blocks, its locks, how many clients; Drop. -/
import Derived.Test.Ytedefebdfcgjeaa7Fn
import Derived.WalkMore
namespace Go.Proofs.Ytedefebdfcgjeaa
open Go.RowKit
set_option linter.unusedVariables false
def SiteAt (w : World) (g : Nat) (m s t : Option Addr) : Prop := Row w g 50 #[.pointer m, .pointer s, .pointer t]
theorem siMem_nil (w : World) : Calls Try.prog 15 #[.pointer none] w fun e w' => e = .returned (.pointer none) ∧ w = w' := by
  go_enter Try.func15, Try.ntmps15
  go_wp2
  go_ret
  exact ⟨rfl, rfl⟩
theorem siMem_yes {w : World} {g : Nat} {m s t : Option Addr} (h : SiteAt w g m s t) : Calls Try.prog 15 #[.pointer (some ⟨g, 0, none⟩)] w fun e w' => e = .returned (.pointer m) ∧ w = w' := by
  have h1 := Row.cell h 0
  simp only [List.getElem?_toArray, List.getElem?_cons_succ, List.getElem?_cons_zero] at h1
  clear h
  go_enter Try.func15, Try.ntmps15
  go_wp2
  go_ret
  exact ⟨rfl, rfl⟩
theorem siSlab_nil (w : World) : Calls Try.prog 16 #[.pointer none] w fun e w' => e = .returned (.pointer none) ∧ w = w' := by
  go_enter Try.func16, Try.ntmps16
  go_wp2
  go_ret
  exact ⟨rfl, rfl⟩
theorem siSlab_yes {w : World} {g : Nat} {m s t : Option Addr} (h : SiteAt w g m s t) : Calls Try.prog 16 #[.pointer (some ⟨g, 0, none⟩)] w fun e w' => e = .returned (.pointer s) ∧ w = w' := by
  have h1 := Row.cell h 1
  simp only [List.getElem?_toArray, List.getElem?_cons_succ, List.getElem?_cons_zero] at h1
  clear h
  go_enter Try.func16, Try.ntmps16
  go_wp2
  go_ret
  exact ⟨rfl, rfl⟩
theorem siLocks_nil (w : World) : Calls Try.prog 17 #[.pointer none] w fun e w' => e = .returned (.pointer none) ∧ w = w' := by
  go_enter Try.func17, Try.ntmps17
  go_wp2
  go_ret
  exact ⟨rfl, rfl⟩
theorem siLocks_yes {w : World} {g : Nat} {m s t : Option Addr} (h : SiteAt w g m s t) : Calls Try.prog 17 #[.pointer (some ⟨g, 0, none⟩)] w fun e w' => e = .returned (.pointer t) ∧ w = w' := by
  have h1 := Row.cell h 2
  simp only [List.getElem?_toArray, List.getElem?_cons_succ, List.getElem?_cons_zero] at h1
  clear h
  go_enter Try.func17, Try.ntmps17
  go_wp2
  go_ret
  exact ⟨rfl, rfl⟩
/-- How many clients, by what the locks answer. -/
theorem siClients_of {w : World} {p t : Option Addr} {n : Int} (hl : Calls Try.prog 17 #[.pointer p] w fun e w' => e = .returned (.pointer t) ∧ w = w') (hc : Calls Try.prog 28 #[.pointer t] w fun e w' => e = .returned (.int .i64 n) ∧ w = w') :
    Calls Try.prog 18 #[.pointer p] w fun e w' => e = .returned (.int .i64 n) ∧ w = w' := by
  have HL := Lib.hid hl
  have HC := Lib.hid hc
  clear hl hc
  go_enter Try.func18, Try.ntmps18
  go_wp2_with fail
  refine HL.out.mono ?_
  rintro e w' ⟨rfl, rfl⟩
  go_wp2_with fail
  refine HC.out.mono ?_
  rintro e w' ⟨rfl, rfl⟩
  go_wp2
  go_ret
  exact ⟨rfl, rfl⟩
theorem siDrop_of {w : World} {p t : Option Addr} {c : Int} {Q : World → Prop} (hl : Calls Try.prog 17 #[.pointer p] w fun e w' => e = .returned (.pointer t) ∧ w = w') (hd : Calls Try.prog 27 #[.pointer t, .int .i64 c] w fun e w' => e = .returned (.tuple #[]) ∧ Q w') :
    Calls Try.prog 14 #[.pointer p, .int .i64 c] w fun e w' => e = .returned (.tuple #[]) ∧ Q w' := by
  have HL := Lib.hid hl
  have HD := Lib.hid hd
  clear hl hd
  go_enter Try.func14, Try.ntmps14
  go_wp2_with fail
  refine HL.out.mono ?_
  rintro e w' ⟨rfl, rfl⟩
  go_wp2_with fail
  refine HD.out.mono ?_
  rintro e w' ⟨rfl, hq⟩
  have HQ := Lib.hid hq
  clear hq
  go_wp2
  go_end0
  exact ⟨rfl, HQ.out⟩
theorem kdrop_no {p : Option Addr} {w : World} (h : NoTab w p) (c : Int) : Calls Try.prog 27 #[.pointer p, .int .i64 c] w fun e w' => e = .returned (.tuple #[]) ∧ Below w.heap.size w w' := by
  have H := Lib.hid (is_no (h.below (alloc_below w (.cells #[.pointer p] 48))) c)
  clear h
  go_enter Try.func27, Try.ntmps27
  go_wp2_with fail
  refine H.out.mono ?_
  rintro e w1 ⟨rfl, rfl⟩
  go_wp2
  refine bodyPost_ret (results_none rfl _ _ _) rfl ?_
  exact ⟨rfl, alloc_below _ _⟩
end Go.Proofs.Ytedefebdfcgjeaa
