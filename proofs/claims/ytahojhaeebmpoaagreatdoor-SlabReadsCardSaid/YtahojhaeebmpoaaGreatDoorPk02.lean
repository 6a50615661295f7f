/- Texts of this claim, packed: Gr, GeoS. -/
import Derived.Test.YtahojhaeebmpoaaGreatDoorRows
import Derived.Shelf.SlSorted.Search
import Derived.WalkKit
import Derived.WalkSpells
import Derived.WalkLawsBesides
import Derived.IntWalk
import Derived.Lib.Hide
import Derived.Laws.Rows
import Derived.Laws.Tables
import Derived.Deep.QuietTactic
import Derived.BigQuiet
import Derived.Outline
/- Worlds that a call leaves behind which draws and lays blocks, and turns nothing that was there; no conditions. -/
namespace Go.Proofs.YtahojhaeebmpoaaGreatDoor
open Go.RowKit Go.Sort
set_option linter.unusedVariables false

/-- w' is w behind some draws, with some blocks laid behind it. -/
def Gr (w w' : World) : Prop := ∃ q os, w' = grow (w.drewN q) os
section
variable {a b c w w' : World}
theorem Gr.refl (w : World) : Gr w w := ⟨0, #[], by rw [grow_empty]; rfl⟩
theorem Gr.trans (h : Gr a b) (k : Gr b c) : Gr a c := by
  obtain ⟨q, os, rfl⟩ := h
  obtain ⟨q', os', rfl⟩ := k
  exact ⟨q + q', os ++ os', by show grow (grow ((a.drewN q).drewN q') os) os' = _; rw [grow_grow, World.drewN_drewN]⟩
theorem Gr.alloc (h : Gr a w) (o : Obj) : Gr a (w.alloc o) := h.trans ⟨0, #[o], by rw [alloc_eq_grow]; rfl⟩
theorem Gr.drew (h : Gr a w) : Gr a w.drew := h.trans ⟨1, #[], by rw [grow_empty]; rfl⟩
theorem Gr.drewN (h : Gr a w) (n : Nat) : Gr a (w.drewN n) := h.trans ⟨n, #[], by rw [grow_empty]⟩
theorem Gr.grow (h : Gr a w) (q : Nat) (os : Array Obj) : Gr a (Sort.grow (w.drewN q) os) := h.trans ⟨q, os, rfl⟩
theorem Gr.below {B : Nat} (h : Gr w w') (hB : B ≤ w.heap.size) : Below B w w' := by
  obtain ⟨q, os, rfl⟩ := h
  exact below_grown_sl B w q os hB
theorem Gr.all (h : Gr w w') : Below w.heap.size w w' := h.below (Nat.le_refl _)
theorem heap_lt {k : Nat} {o : Obj} (hk : w.heap[k]? = some o) : k < w.heap.size := by
  by_cases hl : k < w.heap.size
  · exact hl
  · rw [Array.getElem?_eq_none (by omega)] at hk
    cases hk
theorem Gr.heap (h : Gr w w') {k : Nat} {o : Obj} (hk : w.heap[k]? = some o) : w'.heap[k]? = some o := (h.all.block k (heap_lt hk)).trans hk
end
end Go.Proofs.YtahojhaeebmpoaaGreatDoor
/- Where what lies, as numbers: blocks of slabs, which address is whose; plain arithmetic. -/
namespace Go.Proofs.YtahojhaeebmpoaaGreatDoor
open Go.RowKit Go.Sort
set_option linter.unusedVariables false

def byC (c : Int) : Int := if c = 1 then 64 else if c = 2 then 128 else if c = 3 then 192 else 0
def blC (c : Int) : Int := if c = 1 then 15 else if c = 2 then 7 else if c = 3 then 5 else 0
def vaC (c : Int) : Int := if c = 1 then 56 else if c = 2 then 120 else -1
def hdA (s : Int) : Int := if 1 ≤ s ∧ s ≤ 64 then 1024 * s else 0
def blkA (s c j : Int) : Int := if 1 ≤ s ∧ s ≤ 64 ∧ 0 ≤ j ∧ j < blC c then 1024 * s + 64 + j * byC c else 0
def slabA (a : Int) : Int := if 1024 ≤ a ∧ a ≤ 66559 then a / 1024 else 0
def cntA (a c : Int) : Nat := (List.range (blC c).toNat).countP fun j : Nat => !decide (a ≤ blkA (slabA a) c j)
def wantA (a c : Int) : Int := if slabA a = 0 ∨ blkA (slabA a) c (cntA a c) ≠ a then -1 else cntA a c
def slabsN (n : Int) : Int := if 2048 ≤ n ∧ n ≤ 66560 ∧ n % 1024 = 0 then n / 1024 - 1 else 0
def sizeN (s : Int) : Int := if 1 ≤ s ∧ s ≤ 64 then 1024 + 1024 * s else 0
def clsN (n : Int) : Int := if 0 ≤ n ∧ n ≤ 56 then 1 else if 57 ≤ n ∧ n ≤ 120 then 2 else 0
def keyA (b i : Int) : Int := if 0 ≤ i ∧ i ≤ 7 then b + 64 + 16 * i else 0
def fieldA (b i : Int) : Int := if 0 ≤ i ∧ i ≤ 7 then b + 8 * i else 0
def ptrA (b i : Int) : Int := if 0 ≤ i ∧ i ≤ 7 then b + 72 + 16 * i else 0
/-- Is n from lo to hi. -/
def inB (n lo hi : Int) : Bool := decide (lo ≤ n) && decide (n ≤ hi)
theorem inB_iff {n lo hi : Int} : inB n lo hi = true ↔ lo ≤ n ∧ n ≤ hi := by simp [inB]
theorem inB_yes {n lo hi : Int} (h : lo ≤ n ∧ n ≤ hi) : inB n lo hi = true := inB_iff.2 h
theorem inB_no {n lo hi : Int} (h : ¬ (lo ≤ n ∧ n ≤ hi)) : inB n lo hi = false := by rw [Bool.eq_false_iff]; exact fun k => h (inB_iff.1 k)

theorem cls (c : Int) : (c = 1 ∧ byC c = 64 ∧ blC c = 15 ∧ vaC c = 56) ∨ (c = 2 ∧ byC c = 128 ∧ blC c = 7 ∧ vaC c = 120) ∨ (c = 3 ∧ byC c = 192 ∧ blC c = 5 ∧ vaC c = -1) ∨ (c ≠ 1 ∧ c ≠ 2 ∧ c ≠ 3 ∧ byC c = 0 ∧ blC c = 0 ∧ vaC c = -1) := by
  unfold byC blC vaC
  by_cases h1 : c = 1
  · subst h1; simp
  · by_cases h2 : c = 2
    · subst h2; simp
    · by_cases h3 : c = 3
      · subst h3; simp
      · simp [h1, h2, h3]
theorem blkA_yes {s c j : Int} (h : 1 ≤ s ∧ s ≤ 64 ∧ 0 ≤ j ∧ j < blC c) : blkA s c j = 1024 * s + 64 + j * byC c := if_pos h
theorem blkA_no {s c j : Int} (h : ¬ (1 ≤ s ∧ s ≤ 64 ∧ 0 ≤ j ∧ j < blC c)) : blkA s c j = 0 := if_neg h
/-- What a block that there is has: it lies in its slab, behind its header, its bytes within the slab. -/
theorem blkA_lies {s c j : Int} (h : 1 ≤ s ∧ s ≤ 64 ∧ 0 ≤ j ∧ j < blC c) : 64 ≤ byC c ∧ byC c ≤ 192 ∧ 1024 * s + 64 ≤ blkA s c j ∧ blkA s c j + byC c ≤ 1024 * s + 1024 ∧ blkA s c j % 64 = 0 ∧ 1 ≤ c ∧ c ≤ 3 := by
  rw [blkA_yes h]
  rcases cls c with ⟨h1, h2, h3, _⟩ | ⟨h1, h2, h3, _⟩ | ⟨h1, h2, h3, _⟩ | ⟨_, _, _, h2, h3, _⟩ <;> rw [h3] at h <;> rw [h2] <;> omega
theorem blkA_range (s c j : Int) : 0 ≤ blkA s c j ∧ blkA s c j ≤ 66560 := by
  by_cases h : 1 ≤ s ∧ s ≤ 64 ∧ 0 ≤ j ∧ j < blC c
  · have := blkA_lies h
    omega
  · rw [blkA_no h]; omega
theorem slabA_blk {s c j : Int} (h : 1 ≤ s ∧ s ≤ 64 ∧ 0 ≤ j ∧ j < blC c) : slabA (blkA s c j) = s := by
  have := blkA_lies h
  unfold slabA
  rw [if_pos (by omega)]
  omega
theorem slabA_range (a : Int) : 0 ≤ slabA a ∧ slabA a ≤ 64 := by
  unfold slabA
  split <;> omega
theorem slabA_pos {a : Int} (h : slabA a ≠ 0) : 1024 ≤ a ∧ a ≤ 66559 ∧ slabA a = a / 1024 := by
  unfold slabA at h ⊢
  split at h
  · rename_i k
    rw [if_pos k]
    omega
  · omega
theorem blkA_mono {s c : Int} {i j : Nat} (h : i ≤ j) (hj : j < (blC c).toNat) : blkA s c i ≤ blkA s c j := by
  by_cases hs : 1 ≤ s ∧ s ≤ 64
  · rw [blkA_yes ⟨hs.1, hs.2, by omega, by omega⟩, blkA_yes ⟨hs.1, hs.2, by omega, by omega⟩]
    rcases cls c with ⟨_, h2, _⟩ | ⟨_, h2, _⟩ | ⟨_, h2, _⟩ | ⟨_, _, _, h2, _⟩ <;> rw [h2] <;> omega
  · rw [blkA_no (by omega), blkA_no (by omega)]
    omega
theorem cntA_le (a c : Int) : cntA a c ≤ (blC c).toNat := by
  have := List.countP_le_length (p := fun j : Nat => !decide (a ≤ blkA (slabA a) c j)) (l := List.range (blC c).toNat)
  simpa [cntA] using this
theorem cntA_blk {s c j : Int} (h : 1 ≤ s ∧ s ≤ 64 ∧ 0 ≤ j ∧ j < blC c) : (cntA (blkA s c j) c : Int) = j := by
  obtain ⟨k, rfl⟩ := Int.eq_ofNat_of_zero_le h.2.2.1
  have hk : k < (blC c).toNat := by omega
  unfold cntA
  rw [slabA_blk h]
  have hr : ∀ t, t < (blC c).toNat → (List.range (blC c).toNat)[t]! = t := fun t ht => by rw [getElem!_pos _ t (by simpa using ht)]; simp
  have := Lib.countP_boundary (fun t : Nat => !decide (blkA s c k ≤ blkA s c t)) (List.range (blC c).toNat) k (by simp; omega) (fun t ht => ?_) (fun t h3 h4 => ?_)
  · exact_mod_cast this
  · rw [hr t (by omega)]
    have e1 := blkA_yes (s := s) (c := c) (j := (t : Int)) ⟨h.1, h.2.1, by omega, by omega⟩
    have e2 := blkA_yes h
    have : ¬ (blkA s c k ≤ blkA s c t) := by
      rw [e1, e2]
      rcases cls c with ⟨_, h2, _⟩ | ⟨_, h2, _⟩ | ⟨_, h2, _⟩ | ⟨_, _, _, h2, h5, _⟩
      · rw [h2]; omega
      · rw [h2]; omega
      · rw [h2]; omega
      · omega
    simpa using this
  · rw [hr t (by simpa using h4)]
    have := blkA_mono (s := s) (c := c) h3 (by simpa using h4)
    simpa using this
theorem want_found {s c j a : Int} (h : 1 ≤ s ∧ s ≤ 64 ∧ 0 ≤ j ∧ j < blC c) (e : blkA s c j = a) : wantA a c = j := by
  subst e
  unfold wantA
  rw [slabA_blk h, cntA_blk h, if_neg (by omega)]
theorem want_none {a c : Int} (h : ∀ s j : Int, 1 ≤ s ∧ s ≤ 64 ∧ 0 ≤ j ∧ j < blC c → blkA s c j ≠ a) : wantA a c = -1 := by
  unfold wantA
  rw [if_pos]
  by_cases h0 : slabA a = 0
  · exact Or.inl h0
  · refine Or.inr fun e => ?_
    have hp := slabA_pos h0
    have hr := slabA_range a
    by_cases hv : 1 ≤ slabA a ∧ slabA a ≤ 64 ∧ 0 ≤ (cntA a c : Int) ∧ (cntA a c : Int) < blC c
    · exact h _ _ hv e
    · rw [blkA_no hv] at e
      omega
theorem want_range (a c : Int) : -1 ≤ wantA a c ∧ wantA a c ≤ 15 := by
  have h1 := cntA_le a c
  have h2 : blC c ≤ 15 := by rcases cls c with ⟨_, _, h, _⟩ | ⟨_, _, h, _⟩ | ⟨_, _, h, _⟩ | ⟨_, _, _, _, h, _⟩ <;> rw [h] <;> omega
  unfold wantA
  split <;> omega
theorem blC_range (c : Int) : 0 ≤ blC c ∧ blC c ≤ 15 := by rcases cls c with ⟨_, _, h, _⟩ | ⟨_, _, h, _⟩ | ⟨_, _, h, _⟩ | ⟨_, _, _, _, h, _⟩ <;> rw [h] <;> omega
end Go.Proofs.YtahojhaeebmpoaaGreatDoor
