/- The document's May: of any node; without conditions. -/
import Derived.Test.YthcopnnpedhboaaDoorN8RefS
import Derived.Test.YthcopnnpedhboaaDoorQLoadG
namespace Go.Proofs.YthcopnnpedhboaaDoor
open Go.RowKit
set_option linter.unusedVariables false
theorem may_r (n : Nd) (high : Int) (has : Bool) : n.may high has = ((decide (0 ≤ n.l) && decide (n.l ≤ 15)) && (n.fi != 0) && !(has && decide (high ≤ n.lo)) && (decide (n.len ≤ n.es.length + 1) && riseR n.l n.lo n.fi n.es)) := by
  unfold Nd.may riseR
  by_cases h : 0 ≤ n.l
  · rw [show decide (n.l = 0) = decide (n.l ≤ 0) by congr 1; apply propext; omega]
    cases decide (0 ≤ n.l) <;> cases decide (n.l ≤ 15) <;> cases (n.fi != 0) <;> cases (has && decide (high ≤ n.lo)) <;> cases decide (n.len ≤ n.es.length + 1) <;> simp
  · rw [show decide (0 ≤ n.l) = false by simpa using h]
    simp
end Go.Proofs.YthcopnnpedhboaaDoor
