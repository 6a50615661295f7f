/- A node's state: its five words, its keys, its pointers; its cells as they lie; its entries, and which of them are valid; no conditions. -/
import Derived.Test.YtaegaeljakdffaaDoorMem
import Derived.Deep.MidRow
namespace Go.Proofs.YtaegaeljakdffaaDoor
open Go.RowKit
set_option linter.unusedVariables false

/-- A node. -/
structure Nd where
  l : Int
  lo : Int
  nx : Int
  ct : Int
  fi : Int
  k0 : Int
  k1 : Int
  k2 : Int
  k3 : Int
  k4 : Int
  k5 : Int
  k6 : Int
  k7 : Int
  p0 : Int
  p1 : Int
  p2 : Int
  p3 : Int
  p4 : Int
  p5 : Int
  p6 : Int
  p7 : Int
/-- A word. -/
abbrev uw (x : Int) : Value := .int .u64 x
/-- Its cells. -/
def Nd.cl (n : Nd) : List Value := [.int .i64 n.l, uw n.lo, uw n.nx, uw n.ct, uw n.fi, uw n.k0, uw n.k1, uw n.k2, uw n.k3, uw n.k4, uw n.k5, uw n.k6, uw n.k7, uw n.p0, uw n.p1, uw n.p2, uw n.p3, uw n.p4, uw n.p5, uw n.p6, uw n.p7]
/-- It, as a value. -/
abbrev Nd.V (n : Nd) : Value := .agg n.cl.toArray
def Nd.keys (n : Nd) : List Int := [n.k0, n.k1, n.k2, n.k3, n.k4, n.k5, n.k6, n.k7]
def Nd.ptrs (n : Nd) : List Int := [n.p0, n.p1, n.p2, n.p3, n.p4, n.p5, n.p6, n.p7]
/-- The key at a place; the pointer. -/
def Nd.key (n : Nd) (i : Nat) : Int := n.keys.getD i 0
def Nd.ptr (n : Nd) (i : Nat) : Int := n.ptrs.getD i 0
theorem lt8 {k : Nat} (h : k < 8) : k = 0 ∨ k = 1 ∨ k = 2 ∨ k = 3 ∨ k = 4 ∨ k = 5 ∨ k = 6 ∨ k = 7 := by omega
theorem Nd.at_key (n : Nd) {i : Nat} (hi : i < 8) : n.cl[5 + i]? = some (.int .u64 (n.key i)) := by
  rcases lt8 hi with rfl | rfl | rfl | rfl | rfl | rfl | rfl | rfl <;> rfl
theorem Nd.at_ptr (n : Nd) {i : Nat} (hi : i < 8) : n.cl[13 + i]? = some (.int .u64 (n.ptr i)) := by
  rcases lt8 hi with rfl | rfl | rfl | rfl | rfl | rfl | rfl | rfl <;> rfl
theorem Nd.size (n : Nd) : n.cl.length = 21 := rfl
/-- The pointers alone, as a value. -/
def Nd.pcl (n : Nd) : List Value := [uw n.p0, uw n.p1, uw n.p2, uw n.p3, uw n.p4, uw n.p5, uw n.p6, uw n.p7]
theorem Nd.at_pc (n : Nd) {i : Nat} (hi : i < 8) : n.pcl[i]? = some (.int .u64 (n.ptr i)) := by
  rcases lt8 hi with rfl | rfl | rfl | rfl | rfl | rfl | rfl | rfl <;> rfl
/-- How many entries there are. -/
def Nd.len (n : Nd) : Nat := (List.range 8).findIdx (fun i => n.ptr i == 0)
theorem Nd.len_le (n : Nd) : n.len ≤ 8 := by
  have := List.findIdx_le_length (p := fun i => n.ptr i == 0) (xs := List.range 8)
  simpa [Nd.len] using this
theorem Nd.len_before (n : Nd) {i : Nat} (h : i < n.len) : n.ptr i ≠ 0 := by
  have h8 := n.len_le
  have := List.not_of_lt_findIdx (p := fun i => n.ptr i == 0) (xs := List.range 8) h
  simpa using this
theorem Nd.len_at (n : Nd) (h : n.len < 8) : n.ptr n.len = 0 := by
  have := List.findIdx_getElem (p := fun i => n.ptr i == 0) (xs := List.range 8) (w := by simpa [Nd.len] using h)
  simpa [Nd.len] using this
theorem Nd.len_eq (n : Nd) {k : Nat} (h8 : k ≤ 8) (hb : ∀ i, i < k → n.ptr i ≠ 0) (ha : k < 8 → n.ptr k = 0) : n.len = k := by
  have h1 := n.len_le
  by_cases h : n.len < k
  · exact absurd (n.len_at (by omega)) (hb _ h)
  · by_cases h2 : k < n.len
    · exact absurd (ha (by omega)) (n.len_before h2)
    · omega
/-- The pointer ahead of a place. -/
def Nd.ahd (n : Nd) (i : Nat) : Int := if i = 0 then n.fi else n.ptr (i - 1)
theorem Nd.ahd_zero (n : Nd) : n.ahd 0 = n.fi := rfl
theorem Nd.ahd_succ (n : Nd) (i : Nat) : n.ahd (i + 1) = n.ptr i := by simp [Nd.ahd]
/-- Is the entry at a place valid? -/
def Nd.ok (n : Nd) (i : Nat) : Bool := n.ptr i != n.ahd i
/-- The valid places ahead of one. -/
def Nd.vpTo (n : Nd) (i : Nat) : List Nat := (List.range i).filter n.ok
theorem Nd.vpTo_zero (n : Nd) : n.vpTo 0 = [] := rfl
theorem Nd.vpTo_succ (n : Nd) (i : Nat) : n.vpTo (i + 1) = n.vpTo i ++ (if n.ok i then [i] else []) := by
  unfold Nd.vpTo
  rw [List.range_succ, List.filter_append]
  cases h : n.ok i <;> simp [h]
theorem Nd.vpTo_yes (n : Nd) {i : Nat} (h : n.ok i = true) : n.vpTo (i + 1) = n.vpTo i ++ [i] := by rw [n.vpTo_succ, h]; rfl
theorem Nd.vpTo_no (n : Nd) {i : Nat} (h : n.ok i = false) : n.vpTo (i + 1) = n.vpTo i := by rw [n.vpTo_succ, h]; simp
theorem Nd.vpTo_len (n : Nd) (i : Nat) : (n.vpTo i).length ≤ i := by
  have := List.length_filter_le n.ok (List.range i)
  simpa [Nd.vpTo] using this
theorem Nd.vpTo_pre (n : Nd) {i k : Nat} (h : i ≤ k) : n.vpTo i <+: n.vpTo k := by
  induction k with
  | zero => obtain rfl : i = 0 := by omega
            exact List.prefix_refl _
  | succ k ih =>
    by_cases e : i = k + 1
    · subst e; exact List.prefix_refl _
    · refine (ih (by omega)).trans ?_
      rw [n.vpTo_succ]
      exact List.prefix_append _ _
/-- The valid places. -/
def Nd.vp (n : Nd) : List Nat := n.vpTo n.len
theorem Nd.vp_lt (n : Nd) {p : Nat} (h : p ∈ n.vp) : p < n.len ∧ n.ok p = true := by
  simpa [Nd.vp, Nd.vpTo] using h
theorem Nd.vp_lt8 (n : Nd) {p : Nat} (h : p ∈ n.vp) : p < 8 := Nat.lt_of_lt_of_le (n.vp_lt h).1 n.len_le
theorem Nd.vp_length (n : Nd) : n.vp.length ≤ 8 := Nat.le_trans (n.vpTo_len _) n.len_le
/-- A node lies in a block. -/
abbrev NdAt (w : World) (b : Nat) (n : Nd) : Prop := Row w b 27 n.cl.toArray
theorem ndAt_key {w : World} {b : Nat} {n : Nd} (h : NdAt w b n) {i : Nat} (hi : i < 8) : w.cell? ⟨b, 5 + i, none⟩ = some (.int .u64 (n.key i)) := (h.cell _).trans (by rw [List.getElem?_toArray]; exact n.at_key hi)
theorem ndAt_ptr {w : World} {b : Nat} {n : Nd} (h : NdAt w b n) {i : Nat} (hi : i < 8) : w.cell? ⟨b, 13 + i, none⟩ = some (.int .u64 (n.ptr i)) := (h.cell _).trans (by rw [List.getElem?_toArray]; exact n.at_ptr hi)
theorem ndAt_at {w : World} {b : Nat} {n : Nd} (h : NdAt w b n) (i : Nat) : w.cell? ⟨b, i, none⟩ = n.cl[i]? := (h.cell i).trans List.getElem?_toArray
/-- A node that lies in a block is read whole; its pointers are. -/
theorem ndR {w : World} {b : Nat} {n : Nd} (h : NdAt w b n) : w.rangeAt b 0 n.cl := fun j v hv => by rw [Nat.zero_add, ndAt_at h]; exact hv
theorem ndRp {w : World} {b : Nat} {n : Nd} (h : NdAt w b n) : w.rangeAt b 13 n.pcl := fun j v hv => by
  have hj : j < 8 := (List.getElem?_eq_some_iff.1 hv).1
  rw [ndAt_ptr h hj]
  exact (n.at_pc hj).symm.trans hv
theorem ndI : (Tryd.prog.info? 27).map (·.size) = some 21 := by kernel_rfl
theorem ndIp : (Tryd.prog.info? 25).map (·.size) = some 8 := by kernel_rfl
end Go.Proofs.YtaegaeljakdffaaDoor
