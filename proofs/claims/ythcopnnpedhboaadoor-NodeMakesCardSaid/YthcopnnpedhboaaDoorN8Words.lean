/- Words: a node's twenty-four; of any node of words; without conditions. -/
import Derived.Test.YthcopnnpedhboaaDoorN8Store
import Derived.Test.YthcopnnpedhboaaDoorN8Len
import Derived.Test.YthcopnnpedhboaaDoorRangeQ
namespace Go.Proofs.YthcopnnpedhboaaDoor
open Go.RowKit
set_option linter.unusedVariables false
theorem drew_low' (w : World) : Below w.heap.size w w.drew := ⟨rfl, rfl, rfl, Nat.le_refl _, fun _ _ => rfl⟩
theorem alloc_low' (w : World) (o : Obj) : Below w.heap.size w (w.alloc o) := (Below.refl _ w).alloc (Nat.le_refl _) o
theorem low_and' {w a b : World} (h : Below w.heap.size w a) (k : Below a.heap.size a b) : Below w.heap.size w b := h.trans (k.mono h.size)
/-- So many of the places' words. -/
def wpart (n : Nd) (k : Nat) : List Value := [uw (5495893775785918464 + n.l), uw n.lo, uw n.nx, uw n.ct, uw n.fi, uw 0, uw 0, uw 0,
  if 0 < k then uw n.k0 else uw 0, if 0 < k then uw n.p0 else uw 0, if 1 < k then uw n.k1 else uw 0, if 1 < k then uw n.p1 else uw 0, if 2 < k then uw n.k2 else uw 0, if 2 < k then uw n.p2 else uw 0, if 3 < k then uw n.k3 else uw 0, if 3 < k then uw n.p3 else uw 0,
  if 4 < k then uw n.k4 else uw 0, if 4 < k then uw n.p4 else uw 0, if 5 < k then uw n.k5 else uw 0, if 5 < k then uw n.p5 else uw 0, if 6 < k then uw n.k6 else uw 0, if 6 < k then uw n.p6 else uw 0, if 7 < k then uw n.k7 else uw 0, if 7 < k then uw n.p7 else uw 0]
def zeroW : List Value := [uw 0, uw 0, uw 0, uw 0, uw 0, uw 0, uw 0, uw 0, uw 0, uw 0, uw 0, uw 0, uw 0, uw 0, uw 0, uw 0, uw 0, uw 0, uw 0, uw 0, uw 0, uw 0, uw 0, uw 0]
def isLv (n : Nd) : Bool := decide (0 ≤ n.l) && decide (n.l ≤ 15)
/-- A node's words. -/
def wordsL (n : Nd) : List Value := if isLv n = true then wpart n 8 else zeroW
theorem w_put (n : Nd) {k : Nat} (hk : k < 8) : (((wpart n k).toArray.setIfInBounds (8 + 2 * k) (uw (n.key k))).setIfInBounds (8 + 2 * k + 1) (uw (n.ptr k))) = (wpart n (k + 1)).toArray := by
  rcases lt8 hk with rfl | rfl | rfl | rfl | rfl | rfl | rfl | rfl <;> rfl
theorem w_begin (n : Nd) : (((((zeroW.toArray.setIfInBounds 0 (uw (5495893775785918464 + n.l))).setIfInBounds 1 (uw n.lo)).setIfInBounds 2 (uw n.nx)).setIfInBounds 3 (uw n.ct)).setIfInBounds 4 (uw n.fi)) = (wpart n 0).toArray := rfl
theorem wordsL_len (n : Nd) : (wordsL n).length = 24 := by unfold wordsL; split <;> rfl
theorem zeroW_one : ∀ v ∈ zeroW, v.oneCell' = true := by
  intro v hv
  simp only [zeroW, List.mem_cons, List.not_mem_nil, or_false, or_self] at hv
  subst hv
  rfl
theorem wpart_one (n : Nd) (k : Nat) : ∀ v ∈ wpart n k, v.oneCell' = true := by
  intro v hv
  simp only [wpart, List.mem_cons, List.not_mem_nil, or_false] at hv
  rcases hv with rfl | rfl | rfl | rfl | rfl | rfl | rfl | rfl | rfl | rfl | rfl | rfl | rfl | rfl | rfl | rfl | rfl | rfl | rfl | rfl | rfl | rfl | rfl | rfl <;> (try split) <;> rfl
theorem rowR {w : World} {b : Nat} {t : TypeId} {vs : List Value} (h : Row w b t vs.toArray) : w.rangeAt b 0 vs := fun j v hv => by
  rw [Nat.zero_add, h.cell, List.getElem?_toArray]
  exact hv
end Go.Proofs.YthcopnnpedhboaaDoor
