/- Of: the node of words, or the error; of any words; without conditions. -/
import Derived.Test.YthcopnnpedhboaaDoorN8Words
namespace Go.Proofs.YthcopnnpedhboaaDoor
open Go.RowKit
set_option linter.unusedVariables false
/-- A word of a list. -/
def wAt (x : List Int) (i : Nat) : Int := x.getD i 0
/-- The node of words, at so many places. -/
def ofN (lvl : Int) (x : List Int) : Nat → Nd
  | 0 => ⟨lvl, wAt x 1, wAt x 2, wAt x 3, wAt x 4, 0, 0, 0, 0, 0, 0, 0, 0, 0, 0, 0, 0, 0, 0, 0, 0⟩
  | k + 1 => (ofN lvl x k).put k (wAt x (8 + 2 * k), wAt x (8 + 2 * k + 1))
/-- Of's answer: the node, the error. -/
def ofR (x : List Int) : Nd × Int := if 5495893775785918464 ≤ wAt x 0 ∧ wAt x 0 ≤ 5495893775785918479 then (ofN (wAt x 0 - 5495893775785918464) x 8, 0) else (zeroNd, 11)
theorem wAt_get {x : List Int} (hl : x.length = 24) {i : Nat} (hi : i < 24) : (x.map uw)[i]? = some (.int .u64 (wAt x i)) := by
  rw [List.getElem?_map, List.getElem?_eq_getElem (by omega)]
  unfold wAt
  rw [List.getD_eq_getElem?_getD, List.getElem?_eq_getElem (by omega)]
  rfl
end Go.Proofs.YthcopnnpedhboaaDoor
