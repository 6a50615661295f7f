/- All laws of the seat, walked. -/
import Derived.Test.YtnjecjcnkmgjmaaDoorPk28
import Derived.Test.YtnjecjcnkmgjmaaDoorPk31
namespace Go.Proofs.YtnjecjcnkmgjmaaDoor
end Go.Proofs.YtnjecjcnkmgjmaaDoor
