/- Pending, Load, Evict, Stats, Fence and Crash where they are refused, and where they are not: what each answers; for states that a memory can have. -/
import Derived.Test.YtedefebdfcgjeaaPFence
import Derived.Test.YtedefebdfcgjeaaPCrash
import Derived.BigQuiet
namespace Go.Proofs.Ytedefebdfcgjeaa
open Go.RowKit
set_option linter.unusedVariables false

end Go.Proofs.Ytedefebdfcgjeaa
