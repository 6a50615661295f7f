/- Texts of this claim, packed: Gr, GeoS. -/
import Derived.Test.YtkbklooocdfcfaaGreatDoorRows
import Derived.Shelf.SlSorted.Search
import Derived.WalkKit
import Derived.WalkSpells
import Derived.WalkLawsBesides
import Derived.IntWalk
import Derived.Lib.Hide
import Derived.Laws.Rows
import Derived.Laws.Tables
import Derived.Deep.QuietTactic
import Derived.BigQuiet
import Derived.Outline
set_option linter.unusedVariables false
set_option maxRecDepth 100000
set_option maxHeartbeats 6400000
namespace Go.Proofs.YtkbklooocdfcfaaGreatDoor
open Go.RowKit Go.Sort
def Gr (w w' : World) : Prop := ∃ q os, w' = grow (w.drewN q) os
section
variable {a b c w w' : World}
theorem Gr.refl (w : World) : Gr w w := ⟨0, #[], by rw [grow_empty]; rfl⟩
theorem Gr.trans (h : Gr a b) (k : Gr b c) : Gr a c := by
 obtain ⟨q, os, rfl⟩ := h
 obtain ⟨q', os', rfl⟩ := k
 exact ⟨q + q', os ++ os', by show grow (grow ((a.drewN q).drewN q') os) os' = _; rw [grow_grow, World.drewN_drewN]⟩
theorem Gr.alloc (h : Gr a w) (o : Obj) : Gr a (w.alloc o) := h.trans ⟨0, #[o], by rw [alloc_eq_grow]; rfl⟩
theorem Gr.drewN (h : Gr a w) (n : Nat) : Gr a (w.drewN n) := h.trans ⟨n, #[], by rw [grow_empty]⟩
theorem Gr.below {B : Nat} (h : Gr w w') (hB : B <= w.heap.size) : Below B w w' := by
 obtain ⟨q, os, rfl⟩ := h
 exact below_grown_sl B w q os hB
theorem Gr.all (h : Gr w w') : Below w.heap.size w w' := h.below (Nat.le_refl _)
theorem heap_lt {k : Nat} {o : Obj} (hk : w.heap[k]? = some o) : k < w.heap.size := by
 by_cases hl : k < w.heap.size
 ·exact hl
 ·rw [Array.getElem?_eq_none (by omega)] at hk
  cases hk
end
def byC (c : Int) : Int := if c = 1 then 64 else if c = 2 then 128 else if c = 3 then 192 else 0
def blC (c : Int) : Int := if c = 1 then 15 else if c = 2 then 7 else if c = 3 then 5 else 0
def vaC (c : Int) : Int := if c = 1 then 56 else if c = 2 then 120 else -1
def hdA (s : Int) : Int := if 1 <= s /\ s <= 64 then 1024 * s else 0
def blkA (s c j : Int) : Int := if 1 <= s /\ s <= 64 /\ 0 <= j /\ j < blC c then 1024 * s + 64 + j * byC c else 0
def sizeN (s : Int) : Int := if 1 <= s /\ s <= 64 then 1024 + 1024 * s else 0
def inB (n lo hi : Int) : Bool := decide (lo <= n) && decide (n <= hi)
theorem inB_iff {n lo hi : Int} : inB n lo hi = true ↔ lo <= n /\ n <= hi := by simp [inB]
theorem inB_yes {n lo hi : Int} (h : lo <= n /\ n <= hi) : inB n lo hi = true := inB_iff.2 h
theorem inB_no {n lo hi : Int} (h : ¬ (lo <= n /\ n <= hi)) : inB n lo hi = false := by rw [Bool.eq_false_iff]; exact fun k => h (inB_iff.1 k)
theorem cls (c : Int) : (c = 1 /\ byC c = 64 /\ blC c = 15 /\ vaC c = 56) \/ (c = 2 /\ byC c = 128 /\ blC c = 7 /\ vaC c = 120) \/ (c = 3 /\ byC c = 192 /\ blC c = 5 /\ vaC c = -1) \/ (c ≠ 1 /\ c ≠ 2 /\ c ≠ 3 /\ byC c = 0 /\ blC c = 0 /\ vaC c = -1) := by
 unfold byC blC vaC
 by_cases h1 : c = 1
 ·subst h1; simp
 ·by_cases h2 : c = 2
  ·subst h2; simp
  ·by_cases h3 : c = 3
   ·subst h3; simp
   ·simp [h1, h2, h3]
theorem blkA_yes {s c j : Int} (h : 1 <= s /\ s <= 64 /\ 0 <= j /\ j < blC c) : blkA s c j = 1024 * s + 64 + j * byC c := if_pos h
theorem blkA_no {s c j : Int} (h : ¬ (1 <= s /\ s <= 64 /\ 0 <= j /\ j < blC c)) : blkA s c j = 0 := if_neg h
end Go.Proofs.YtkbklooocdfcfaaGreatDoor
