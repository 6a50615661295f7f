/- Texts of this claim, packed: 7Rel. -/
import Derived.Test.YtkbklooocdfcfaaGreatDoorPz08
import Derived.BigQuiet
import Derived.Deep.QuietTactic
import Derived.Deep.RegionHeld3
set_option linter.unusedVariables false
set_option maxRecDepth 100000
set_option maxHeartbeats 6400000
namespace Go.Proofs.YtkbklooocdfcfaaGreatDoor
open Go.RowKit
def lk0 (n : Nat) : Lk := ⟨n, fun _ => none, fun _ => 0, 0⟩
theorem lk0_ok {n : Nat} (h1 : 1 <= n) (h2 : n <= 64) : (lk0 n).Ok :=
 ⟨h1, h2, rfl, fun _ _ h => (by cases h), fun _ => (by show (0 : Nat) < _; omega), fun _ _ => rfl, fun _ h => absurd rfl h, (by show (0 : Nat) <= _; omega)⟩
def KNewPost (w : World) (n : Nat) (e : Ending) (w' : World) : Prop := ∃ g b, e = .returned (.tuple #[.pointer (some ⟨g, 0, none⟩), .int .i64 0]) /\ KAt w' g b (lk0 n) /\ w.heap.size <= g /\ w.heap.size <= b /\ Below w.heap.size w w'
theorem hasAt_new {w : World} {b : Nat} (h : w.heap[b]? = some (.map #[] 0)) : HasAt w b (fun _ => none) 0 :=
 ⟨.map [], ⟨#[], 0, h, ⟨by simp, MapKept.stamped_empty 0, by simp⟩, Nat.le_refl _, rfl⟩, fun k hk => (by cases hk), fun id _ => rfl, fun id c _ h => (by cases h)⟩
theorem knew_mk {w : World} {n : Nat} (h1 : 1 <= n) (h2 : n <= 64) {W : World} (hW : W = (w.alloc (.map #[] 0)).alloc (.cells (ktcells n (some w.heap.size) fun _ => 0) 186)) :
  KNewPost w n (.returned (.tuple #[.pointer (some ⟨w.heap.size + 1, 0, none⟩), .int .i64 0])) W := by
 subst hW
 refine ⟨w.heap.size + 1, w.heap.size, rfl, ⟨?_, ?_, lk0_ok h1 h2⟩, by omega, by omega, Below.and (alloc_below _ _) (alloc_below _ _)⟩
 ·have := Row.new (w.alloc (.map #[] 0)) 186 (ktcells n (some w.heap.size) fun _ => 0)
  simp only [lk0]
  simpa using this
 ·refine hasAt_new ?_
  exact (Below.heap_alloc _ _ _ (by simp)).trans (heap_alloc_new w _)
theorem zeros_t : Tryz.zeroCells186 = ktcells 0 none (fun _ => 0) := by kernel_rfl
theorem tcells_else (n k : Nat) (m l : Option Nat) (wt : Nat -> Nat) (j : Nat) (h : 2 <= j) : (ktcells n m wt)[j]? = (ktcells k l wt)[j]? := by
 unfold ktcells
 rw [Array.getElem?_append_right (by simpa using h), Array.getElem?_append_right (by simpa using h)]
 rfl
theorem tcells_size (n : Nat) (m : Option Nat) (wt : Nat -> Nat) : (ktcells n m wt).size = 66 := by simp [ktcells]
theorem tcells_sn (n k : Nat) (m : Option Nat) (wt : Nat -> Nat) : (ktcells n m wt).setIfInBounds 0 (.int .i64 (k : Int)) = ktcells k m wt := by
 apply Array.ext_getElem?
 intro j
 rw [Array.getElem?_setIfInBounds]
 by_cases e : 0 = j
 ·subst e
  rw [if_pos rfl, if_pos (by rw [tcells_size]; omega), tcells_0]
 ·rw [if_neg e]
  by_cases e1 : j = 1
  ·subst e1
   rw [tcells_1, tcells_1]
  ·exact tcells_else _ _ _ _ _ _ (by omega)
theorem tcells_sm (n : Nat) (m k : Option Nat) (wt : Nat -> Nat) : (ktcells n m wt).setIfInBounds 1 (.map k) = ktcells n k wt := by
 apply Array.ext_getElem?
 intro j
 rw [Array.getElem?_setIfInBounds]
 by_cases e : 1 = j
 ·subst e
  rw [if_pos rfl, if_pos (by rw [tcells_size]; omega), tcells_1]
 ·rw [if_neg e]
  by_cases e1 : j = 0
  ·subst e1
   rw [tcells_0, tcells_0]
  ·exact tcells_else _ _ _ _ _ _ (by omega)
theorem tcells_made (n : Nat) (k : Option Nat) : (Tryz.zeroCells186.setIfInBounds 0 (.int .i64 (n : Int))).setIfInBounds 1 (.map k) = ktcells n k (fun _ => 0) := by
 rw [zeros_t, tcells_sn, tcells_sm]
theorem knew_yes {n : Nat} (w : World) (h1 : 1 <= n) (h2 : n <= 64) : Calls Tryz.prog 56 #[.int .i64 (n : Int)] w (KNewPost w n) := by
 have HE := Lib.hid (fun W hW => knew_mk (w := w) h1 h2 (W := W) hW)
 have hmm := @run_makeMap Tryz.prog
 have g1 : decide ((n : Int) < 1) = false := by simp; omega
 have g2 : decide (64 < (n : Int)) = false := by simp; omega
 clear h1 h2
 go_enter Tryz.func56, Tryz.ntmps56
 go_wp2
 go_ret2
 exact HE.out _ (by rw [tcells_made])
end Go.Proofs.YtkbklooocdfcfaaGreatDoor
