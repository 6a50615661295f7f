/- Texts of this claim, packed: RoundR. -/
import Derived.Stop.RegionWithIn
import Derived.RangeFuncCalls
import Derived.StillTailTactics
import Derived.Deep.DrawnRows
/- A region that draws its order, within a round of a range over a function, walked as outside of it: reads and quiet calls ahead of a forced tail; for regions without defer. -/
namespace Go.Proofs.YtiefgmibgdidpaaGreatDoor
set_option linter.unusedVariables false

end Go.Proofs.YtiefgmibgdidpaaGreatDoor
