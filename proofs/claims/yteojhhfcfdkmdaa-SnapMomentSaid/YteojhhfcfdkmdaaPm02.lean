/- Texts of this claim, packed: N8St, N8Store, N8Fits. -/
import Derived.Test.YteojhhfcfdkmdaaPm01
import Derived.Deep.MidRow
import Derived.Laws.ResultCell
set_option linter.unusedSimpArgs false
set_option linter.unusedVariables false
/- A node's state: its five words, its keys, its pointers; its cells as they lie; its entries, and which of them are valid; no conditions. -/
namespace Go.Proofs.Yteojhhfcfdkmdaa
open Go.RowKit
set_option linter.unusedVariables false

/-- A node. -/
structure Nd where
  l : Int
  lo : Int
  nx : Int
  ct : Int
  fi : Int
  k0 : Int
  k1 : Int
  k2 : Int
  k3 : Int
  k4 : Int
  k5 : Int
  k6 : Int
  k7 : Int
  p0 : Int
  p1 : Int
  p2 : Int
  p3 : Int
  p4 : Int
  p5 : Int
  p6 : Int
  p7 : Int
/-- A word. -/
abbrev uw (x : Int) : Value := .int .u64 x
/-- Its cells. -/
def Nd.cl (n : Nd) : List Value := [.int .i64 n.l, uw n.lo, uw n.nx, uw n.ct, uw n.fi, uw n.k0, uw n.k1, uw n.k2, uw n.k3, uw n.k4, uw n.k5, uw n.k6, uw n.k7, uw n.p0, uw n.p1, uw n.p2, uw n.p3, uw n.p4, uw n.p5, uw n.p6, uw n.p7]
/-- It, as a value. -/
abbrev Nd.V (n : Nd) : Value := .agg n.cl.toArray
def Nd.keys (n : Nd) : List Int := [n.k0, n.k1, n.k2, n.k3, n.k4, n.k5, n.k6, n.k7]
def Nd.ptrs (n : Nd) : List Int := [n.p0, n.p1, n.p2, n.p3, n.p4, n.p5, n.p6, n.p7]
/-- The key at a place; the pointer. -/
def Nd.key (n : Nd) (i : Nat) : Int := n.keys.getD i 0
def Nd.ptr (n : Nd) (i : Nat) : Int := n.ptrs.getD i 0
theorem lt8 {k : Nat} (h : k < 8) : k = 0 ∨ k = 1 ∨ k = 2 ∨ k = 3 ∨ k = 4 ∨ k = 5 ∨ k = 6 ∨ k = 7 := by omega
theorem Nd.at_key (n : Nd) {i : Nat} (hi : i < 8) : n.cl[5 + i]? = some (.int .u64 (n.key i)) := by
  rcases lt8 hi with rfl | rfl | rfl | rfl | rfl | rfl | rfl | rfl <;> rfl
theorem Nd.at_ptr (n : Nd) {i : Nat} (hi : i < 8) : n.cl[13 + i]? = some (.int .u64 (n.ptr i)) := by
  rcases lt8 hi with rfl | rfl | rfl | rfl | rfl | rfl | rfl | rfl <;> rfl
theorem Nd.size (n : Nd) : n.cl.length = 21 := rfl
/-- The pointers alone, as a value. -/
def Nd.pcl (n : Nd) : List Value := [uw n.p0, uw n.p1, uw n.p2, uw n.p3, uw n.p4, uw n.p5, uw n.p6, uw n.p7]
theorem Nd.at_pc (n : Nd) {i : Nat} (hi : i < 8) : n.pcl[i]? = some (.int .u64 (n.ptr i)) := by
  rcases lt8 hi with rfl | rfl | rfl | rfl | rfl | rfl | rfl | rfl <;> rfl
/-- How many entries there are. -/
def Nd.len (n : Nd) : Nat := (List.range 8).findIdx (fun i => n.ptr i == 0)
theorem Nd.len_le (n : Nd) : n.len ≤ 8 := by
  have := List.findIdx_le_length (p := fun i => n.ptr i == 0) (xs := List.range 8)
  simpa [Nd.len] using this
theorem Nd.len_before (n : Nd) {i : Nat} (h : i < n.len) : n.ptr i ≠ 0 := by
  have h8 := n.len_le
  have := List.not_of_lt_findIdx (p := fun i => n.ptr i == 0) (xs := List.range 8) h
  simpa using this
theorem Nd.len_at (n : Nd) (h : n.len < 8) : n.ptr n.len = 0 := by
  have := List.findIdx_getElem (p := fun i => n.ptr i == 0) (xs := List.range 8) (w := by simpa [Nd.len] using h)
  simpa [Nd.len] using this
theorem Nd.len_eq (n : Nd) {k : Nat} (h8 : k ≤ 8) (hb : ∀ i, i < k → n.ptr i ≠ 0) (ha : k < 8 → n.ptr k = 0) : n.len = k := by
  have h1 := n.len_le
  by_cases h : n.len < k
  · exact absurd (n.len_at (by omega)) (hb _ h)
  · by_cases h2 : k < n.len
    · exact absurd (ha (by omega)) (n.len_before h2)
    · omega
/-- The pointer ahead of a place. -/
def Nd.ahd (n : Nd) (i : Nat) : Int := if i = 0 then n.fi else n.ptr (i - 1)
theorem Nd.ahd_zero (n : Nd) : n.ahd 0 = n.fi := rfl
theorem Nd.ahd_succ (n : Nd) (i : Nat) : n.ahd (i + 1) = n.ptr i := by simp [Nd.ahd]
/-- Is the entry at a place valid? -/
def Nd.ok (n : Nd) (i : Nat) : Bool := n.ptr i != n.ahd i
/-- The valid places ahead of one. -/
def Nd.vpTo (n : Nd) (i : Nat) : List Nat := (List.range i).filter n.ok
theorem Nd.vpTo_zero (n : Nd) : n.vpTo 0 = [] := rfl
theorem Nd.vpTo_succ (n : Nd) (i : Nat) : n.vpTo (i + 1) = n.vpTo i ++ (if n.ok i then [i] else []) := by
  unfold Nd.vpTo
  rw [List.range_succ, List.filter_append]
  cases h : n.ok i <;> simp [h]
theorem Nd.vpTo_yes (n : Nd) {i : Nat} (h : n.ok i = true) : n.vpTo (i + 1) = n.vpTo i ++ [i] := by rw [n.vpTo_succ, h]; rfl
theorem Nd.vpTo_no (n : Nd) {i : Nat} (h : n.ok i = false) : n.vpTo (i + 1) = n.vpTo i := by rw [n.vpTo_succ, h]; simp
theorem Nd.vpTo_len (n : Nd) (i : Nat) : (n.vpTo i).length ≤ i := by
  have := List.length_filter_le n.ok (List.range i)
  simpa [Nd.vpTo] using this
theorem Nd.vpTo_pre (n : Nd) {i k : Nat} (h : i ≤ k) : n.vpTo i <+: n.vpTo k := by
  induction k with
  | zero => obtain rfl : i = 0 := by omega
            exact List.prefix_refl _
  | succ k ih =>
    by_cases e : i = k + 1
    · subst e; exact List.prefix_refl _
    · refine (ih (by omega)).trans ?_
      rw [n.vpTo_succ]
      exact List.prefix_append _ _
/-- The valid places. -/
def Nd.vp (n : Nd) : List Nat := n.vpTo n.len
theorem Nd.vp_lt (n : Nd) {p : Nat} (h : p ∈ n.vp) : p < n.len ∧ n.ok p = true := by
  simpa [Nd.vp, Nd.vpTo] using h
theorem Nd.vp_lt8 (n : Nd) {p : Nat} (h : p ∈ n.vp) : p < 8 := Nat.lt_of_lt_of_le (n.vp_lt h).1 n.len_le
theorem Nd.vp_length (n : Nd) : n.vp.length ≤ 8 := Nat.le_trans (n.vpTo_len _) n.len_le
/-- A node lies in a block. -/
abbrev NdAt (w : World) (b : Nat) (n : Nd) : Prop := Row w b 27 n.cl.toArray
theorem ndAt_key {w : World} {b : Nat} {n : Nd} (h : NdAt w b n) {i : Nat} (hi : i < 8) : w.cell? ⟨b, 5 + i, none⟩ = some (.int .u64 (n.key i)) := (h.cell _).trans (by rw [List.getElem?_toArray]; exact n.at_key hi)
theorem ndAt_ptr {w : World} {b : Nat} {n : Nd} (h : NdAt w b n) {i : Nat} (hi : i < 8) : w.cell? ⟨b, 13 + i, none⟩ = some (.int .u64 (n.ptr i)) := (h.cell _).trans (by rw [List.getElem?_toArray]; exact n.at_ptr hi)
theorem ndAt_at {w : World} {b : Nat} {n : Nd} (h : NdAt w b n) (i : Nat) : w.cell? ⟨b, i, none⟩ = n.cl[i]? := (h.cell i).trans List.getElem?_toArray
/-- A node that lies in a block is read whole; its pointers are. -/
theorem ndR {w : World} {b : Nat} {n : Nd} (h : NdAt w b n) : w.rangeAt b 0 n.cl := fun j v hv => by rw [Nat.zero_add, ndAt_at h]; exact hv
theorem ndRp {w : World} {b : Nat} {n : Nd} (h : NdAt w b n) : w.rangeAt b 13 n.pcl := fun j v hv => by
  have hj : j < 8 := (List.getElem?_eq_some_iff.1 hv).1
  rw [ndAt_ptr h hj]
  exact (n.at_pc hj).symm.trans hv
theorem ndI : (Try.prog.info? 27).map (·.size) = some 21 := by kernel_rfl
theorem ndIp : (Try.prog.info? 25).map (·.size) = some 8 := by kernel_rfl
end Go.Proofs.Yteojhhfcfdkmdaa
/- A whole variable stored over a block; a result read from a block; no conditions. -/
namespace Go.Proofs.Yteojhhfcfdkmdaa
open Go.RowKit
set_option linter.unusedVariables false
def setL (cs : Array Value) : Nat → List Value → Array Value
  | _, [] => cs
  | o, v :: r => setL (cs.setIfInBounds o v) (o + 1) r
theorem row_setCellsAux {t : TypeId} {b : Nat} : ∀ (vs : List Value) (o : Nat) (w : World) (cs : Array Value), Row w b t cs → Row (w.setCells b o vs) b t (setL cs o vs)
  | [], _, _, _, h => h
  | v :: r, o, w, cs, h => row_setCellsAux r (o + 1) _ _ (h.set o v)
theorem setL_get : ∀ (vs : List Value) (o : Nat) (cs : Array Value), o + vs.length ≤ cs.size → (setL cs o vs).size = cs.size ∧ ∀ i, (setL cs o vs)[i]? = if o ≤ i ∧ i < o + vs.length then vs[i - o]? else cs[i]?
  | [], o, cs, _ => ⟨rfl, fun i => by simp [setL]; omega⟩
  | v :: r, o, cs, h => by
    rw [List.length_cons] at h
    obtain ⟨h1, h2⟩ := setL_get r (o + 1) (cs.setIfInBounds o v) (by rw [Array.size_setIfInBounds]; omega)
    refine ⟨by rw [setL, h1, Array.size_setIfInBounds], fun i => ?_⟩
    rw [setL, h2, List.length_cons]
    by_cases e : i = o
    · subst e
      rw [if_neg (by omega), if_pos (by omega), Nat.sub_self, List.getElem?_cons_zero, Array.getElem?_setIfInBounds_self]
      simp
      omega
    · by_cases h3 : o + 1 ≤ i ∧ i < o + 1 + r.length
      · rw [if_pos h3, if_pos (by omega), show i - o = (i - (o + 1)) + 1 by omega, List.getElem?_cons_succ]
      · rw [if_neg h3, if_neg (by omega), Array.getElem?_setIfInBounds_ne (by omega)]
theorem row_setCells {w : World} {b : Nat} {t : TypeId} {cs : Array Value} (h : Row w b t cs) {vs : List Value} (hl : vs.length = cs.size) : Row (w.setCells b 0 vs) b t vs.toArray := by
  have h1 := row_setCellsAux vs 0 w cs h
  have h2 := setL_get vs 0 cs (by omega)
  have : setL cs 0 vs = vs.toArray := by
    apply Array.ext_getElem?
    intro i
    rw [h2.2 i, Nat.sub_zero]
    by_cases hi : i < vs.length
    · rw [if_pos (by omega), List.getElem?_toArray]
    · rw [if_neg (by omega)]
      rw [show cs[i]? = none from Array.getElem?_eq_none (by omega), List.getElem?_toArray]
      exact (List.getElem?_eq_none (by omega)).symm
  rwa [this] at h1
theorem row_there {w : World} {b : Nat} {t : TypeId} {cs : Array Value} (h : Row w b t cs) {n : Nat} (hn : n ≤ cs.size) : w.there b 0 n := fun j hj => by
  rw [Nat.zero_add]
  exact ⟨by rw [h.cell, Array.getElem?_eq_getElem (by omega)]; rfl, h.free j⟩
theorem setCells_low {w W : World} {b : Nat} (vs : List Value) (hb : w.heap.size ≤ b) (h : Below w.heap.size w W) : Below w.heap.size w (W.setCells b 0 vs) := by
  suffices H : ∀ (vs : List Value) (o : Nat) (W : World), Below w.heap.size w W → Below w.heap.size w (W.setCells b o vs) from H vs 0 W h
  intro vs
  induction vs with
  | nil => exact fun o W h => h
  | cons v r ih => exact fun o W h => ih (o + 1) _ (h.setCell (p := ⟨b, o, none⟩) hb v)
/-- A whole variable is stored, wherever the list of operations stands. -/
theorem wpList_store_row {P : Program} {ops : Array Oper} {rest : List Oper} {op : Oper} {a : Act} {w : World} {Q : Exit → Act → World → Prop} (hgd : op.guard = none) (ty : TypeId) (x y : Operand) (ho : op.op = .store ty x y)
    (b : Nat) (vs : List Value) (hx : a.eval x = .pointer (some ⟨b, 0, none⟩)) (hy : a.eval y = .agg vs.toArray) {t : TypeId} {cs : Array Value} (hr : Row w b t cs) (hl : vs.length = cs.size)
    (hi : (P.info? ty).map (·.size) = some vs.length) (h1 : ∀ v ∈ vs, v.oneCell' = true) (h : wpList P ops Q rest (a.put op.dst undef) (w.setCells b 0 vs)) : wpList P ops Q (op :: rest) a w :=
  wpList_store_mid hgd ty x y ho b 0 vs.toArray hx hy (row_there hr (by simp [hl])) (by simpa using hi) (all_oneCell_toArray h1) (by simpa using h)
theorem cl_one (n : Nd) : ∀ v ∈ n.cl, v.oneCell' = true := by
  intro v hv
  simp only [Nd.cl, List.mem_cons, List.not_mem_nil, or_false] at hv
  rcases hv with rfl | rfl | rfl | rfl | rfl | rfl | rfl | rfl | rfl | rfl | rfl | rfl | rfl | rfl | rfl | rfl | rfl | rfl | rfl | rfl | rfl <;> rfl
theorem results_node_tmp {fn : Func} {p u : Tmp} (h : fn.results = #[.cell p 27, .tmp u]) (tmps : Array Value) (w : World) (g : Nat) (n : Nd)
    (hp : tmps.getD p undef = .pointer (some ⟨g, 0, none⟩)) (hg : NdAt w g n) :
    (results fn tmps).run Try.prog w = .ok (.tuple #[n.V, tmps.getD u undef]) w := by
  have hv := run_loadVar_mid w g 0 27 n.cl _ (ndR hg) Try.underlying27 rfl ndI
  rw [results_cell_tmp h tmps Try.prog w, hp]
  simp [asAddr, hv]
/-- The zero node. -/
def zeroNd : Nd := ⟨0, 0, 0, 0, 0, 0, 0, 0, 0, 0, 0, 0, 0, 0, 0, 0, 0, 0, 0, 0, 0⟩
def Nd.put (n : Nd) (k : Nat) (e : Int × Int) : Nd :=
  match k with
  | 0 => { n with k0 := e.1, p0 := e.2 }
  | 1 => { n with k1 := e.1, p1 := e.2 }
  | 2 => { n with k2 := e.1, p2 := e.2 }
  | 3 => { n with k3 := e.1, p3 := e.2 }
  | 4 => { n with k4 := e.1, p4 := e.2 }
  | 5 => { n with k5 := e.1, p5 := e.2 }
  | 6 => { n with k6 := e.1, p6 := e.2 }
  | 7 => { n with k7 := e.1, p7 := e.2 }
  | _ => n
theorem put_cl (n : Nd) {k : Nat} (hk : k < 8) (e : Int × Int) : ((n.cl.toArray.setIfInBounds (5 + k) (uw e.1)).setIfInBounds (13 + k) (uw e.2)) = (n.put k e).cl.toArray := by
  rcases lt8 hk with rfl | rfl | rfl | rfl | rfl | rfl | rfl | rfl <;> rfl
/-- A node with so many of these entries at its first places. -/
def mkN (n0 : Nd) (l : List (Int × Int)) : Nat → Nd
  | 0 => n0
  | k + 1 => (mkN n0 l k).put k (l.getD k (0, 0))
end Go.Proofs.Yteojhhfcfdkmdaa
/- A node whose numbers are such as Go's types hold; no conditions. -/
namespace Go.Proofs.Yteojhhfcfdkmdaa
set_option linter.unusedVariables false
/-- A node whose numbers are such as Go's types hold. -/
structure Nd.Fits (n : Nd) : Prop where
  l0 : -9223372036854775808 ≤ n.l
  l1 : n.l ≤ 9223372036854775807
  lo : 0 ≤ n.lo ∧ n.lo < 18446744073709551616
  nx : 0 ≤ n.nx ∧ n.nx < 18446744073709551616
  ct : 0 ≤ n.ct ∧ n.ct < 18446744073709551616
  fi : 0 ≤ n.fi ∧ n.fi < 18446744073709551616
  key : ∀ i, i < 8 → 0 ≤ n.key i ∧ n.key i < 18446744073709551616
  ptr : ∀ i, i < 8 → 0 ≤ n.ptr i ∧ n.ptr i < 18446744073709551616
end Go.Proofs.Yteojhhfcfdkmdaa
