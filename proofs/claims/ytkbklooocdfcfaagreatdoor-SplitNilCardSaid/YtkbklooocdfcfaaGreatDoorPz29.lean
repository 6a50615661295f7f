/- Texts of this claim, packed: SiJ. -/
import Derived.Test.YtkbklooocdfcfaaGreatDoorPz08
import Derived.Test.YtkbklooocdfcfaaGreatDoorPz27
import Derived.Test.YtkbklooocdfcfaaGreatDoorPz28
set_option linter.unusedVariables false
set_option maxRecDepth 100000
set_option maxHeartbeats 6400000
namespace Go.Proofs.YtkbklooocdfcfaaGreatDoor
open Go.RowKit
section
variable {w : World} {p q : Option Addr} {Z : Int} {n : Nat} {c : Int}
def SizeIs (w : World) (p : Option Addr) (Z : Int) : Prop := ∀ W, Below w.heap.size w W -> Calls Tryz.prog 30 #[.pointer p] W fun e w' => e = .returned (.int .i64 Z) /\ W = w'
def SlabsIs (w : World) (q : Option Addr) (n : Nat) : Prop := ∀ W, Below w.heap.size w W -> Calls Tryz.prog 55 #[.pointer q] W fun e w' => e = .returned (.int .i64 (n : Int)) /\ W = w'
def SiNewPost (w : World) (p q : Option Addr) (N : Nat) (e : Ending) (w' : World) : Prop :=
 ∃ gx g b, e = .returned (.tuple #[.pointer (some ⟨gx, 0, none⟩), .int .i64 0]) /\ SiteAt w' gx p q (some ⟨g, 0, none⟩) /\ KAt w' g b (lk0 N) /\ w.heap.size <= gx /\ w.heap.size <= g /\ w.heap.size <= b /\ Below w.heap.size w w'
theorem siNew_ok {N : Nat} (hz : SizeIs w p (sizeN (n : Int))) (hs : SlabsIs w q n) (h0 : sizeN (n : Int) ≠ 0) (hn : n ≠ 0) (h1 : 1 <= N) (h64 : N <= 64) : Calls Tryz.prog 22 #[.pointer p, .pointer q, .int .i64 (N : Int)] w (SiNewPost w p q N) := by
 have HZ := Lib.hid hz
 have HS := Lib.hid hs
 have hnn : ((n : Int) == 0) = false := by rw [Bool.eq_false_iff]; intro k; have := beq_iff_eq.1 k; omega
 have hnn2 : (n == 0) = false := by simpa using hn
 have HK := Lib.hid (knew_yes (n := N) w h1 h64)
 have HG := Lib.hid fun W => size_any (n : Int) W
 obtain ⟨Y, hY⟩ : ∃ Y, Y = sizeN (n : Int) := ⟨_, rfl⟩
 rw [<- hY] at HG HZ h0
 have hnz : (Y == 0) = false := by simpa using h0
 clear hz hs h0 hn hY h1 h64
 go_enter Tryz.func22, Tryz.ntmps22
 go_wp2_with fail
 refine (HZ.out _ (Below.refl _ _)).mono ?_
 rintro e w1 ⟨rfl, rfl⟩
 go_wp2_with fail
 refine (HS.out _ (Below.refl _ _)).mono ?_
 rintro e w1 ⟨rfl, rfl⟩
 go_wp2_with fail
 refine HK.out.mono ?_
 rintro e w2 ⟨g, b, rfl, hk, hg, hb, hbl⟩
 have HE := Lib.hid (show SiNewPost w p q N (.returned (.tuple #[.pointer (some ⟨w2.heap.size, 0, none⟩), .int .i64 0])) (w2.alloc (.cells #[.pointer p, .pointer q, .pointer (some ⟨g, 0, none⟩)] 83)) from
  ⟨w2.heap.size, g, b, rfl, Row.new _ _ _, hk.below (alloc_below _ _), hbl.size, hg, hb, Below.and hbl (alloc_below _ _)⟩)
 have HB := Lib.hid hbl
 clear hk hg hb hbl
 go_wp2_with fail
 refine (HZ.out _ HB.out).mono ?_
 rintro e w1 ⟨rfl, rfl⟩
 go_wp2_with fail
 refine (HS.out _ HB.out).mono ?_
 rintro e w1 ⟨rfl, rfl⟩
 go_wp2_with fail
 refine (HG.out _).mono ?_
 rintro e w1 ⟨rfl, rfl⟩
 go_wp2
 go_ret2
 exact HE.out
end
end Go.Proofs.YtkbklooocdfcfaaGreatDoor
