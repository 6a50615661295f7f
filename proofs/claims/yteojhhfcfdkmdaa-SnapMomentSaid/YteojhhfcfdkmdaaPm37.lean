/- Texts of this claim, packed: N8Make. -/
import Derived.Test.YteojhhfcfdkmdaaPm30
import Derived.Test.YteojhhfcfdkmdaaPm02
import Derived.Deep.RegionHeld3
import Derived.Deep.Upon
set_option linter.unusedSimpArgs false
set_option linter.unusedVariables false
/- Make: the node of entries, or that they make none; of entries that lie anywhere, few; without conditions else. -/
namespace Go.Proofs.Yteojhhfcfdkmdaa
open Go.RowKit
set_option linter.unusedVariables false
/-- A node without entries. -/
def baseNd (base level low next first : Int) : Nd := ⟨level, low, next, 0, if level = 0 ∧ first = 0 then base else first, 0, 0, 0, 0, 0, 0, 0, 0, 0, 0, 0, 0, 0, 0, 0, 0⟩
def rawNd (level low next first : Int) : Nd := ⟨level, low, next, 0, first, 0, 0, 0, 0, 0, 0, 0, 0, 0, 0, 0, 0, 0, 0, 0, 0⟩
theorem size_setCells (b : Nat) : ∀ (vs : List Value) (o : Nat) (w : World), (w.setCells b o vs).heap.size = w.heap.size
  | [], _, _ => rfl
  | v :: r, o, w => (size_setCells b r (o + 1) _).trans (by simp)
def makeN (base level low next first : Int) (l : List (Int × Int)) : Nd := mkN (baseNd base level low next first) l l.length
/-- Make's answer. -/
def makeR (base level low next first : Int) (l : List (Int × Int)) : Nd × Int :=
  bif decide (l.length ≤ 8) && ((makeN base level low next first l).may 0 false && decide ((makeN base level low next first l).es.length = l.length)) then (makeN base level low next first l, 0) else (zeroNd, 2)
theorem makeR_no (base level low next first : Int) (l : List (Int × Int)) (h : 8 < l.length) : makeR base level low next first l = (zeroNd, 2) := by
  unfold makeR
  rw [decide_eq_false (show ¬ l.length ≤ 8 by omega), Bool.false_and]
  rfl
theorem makeR_yes (base level low next first : Int) (l : List (Int × Int)) (h : l.length ≤ 8) : makeR base level low next first l = bif (makeN base level low next first l).may 0 false && decide ((makeN base level low next first l).es.length = l.length) then (makeN base level low next first l, 0) else (zeroNd, 2) := by
  unfold makeR
  rw [decide_eq_true h, Bool.true_and]
end Go.Proofs.Yteojhhfcfdkmdaa
