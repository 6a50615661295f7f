/- Texts of this claim, packed: RoundR. -/
import Derived.Stop.RegionWithIn
import Derived.RangeFuncCalls
import Derived.StillTailTactics
import Derived.Deep.DrawnRows
set_option linter.unusedVariables false
set_option maxRecDepth 100000
set_option maxHeartbeats 6400000
namespace Go.Proofs.YtkbklooocdfcfaaGreatDoor
end Go.Proofs.YtkbklooocdfcfaaGreatDoor
