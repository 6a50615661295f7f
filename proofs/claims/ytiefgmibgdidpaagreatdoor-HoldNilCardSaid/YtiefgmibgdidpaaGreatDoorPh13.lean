/- Texts of this claim, packed: RangeF. -/
import Derived.RangeFuncNested
import Derived.RangeFuncBound
import Derived.RangeFuncCalls
import Derived.RangeFuncLeaves
import Derived.Below
/- A range over a function whose rounds all go on, over a list that is known ahead: what holds behind k rounds is said by the caller, and the iterator may read it between two rounds. -/
namespace Go.Proofs.YtiefgmibgdidpaaGreatDoor
open Go.RowKit
set_option linter.unusedVariables false

end Go.Proofs.YtiefgmibgdidpaaGreatDoor
