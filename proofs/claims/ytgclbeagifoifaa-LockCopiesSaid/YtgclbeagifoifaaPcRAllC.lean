/- All texts of the laws on two tables. -/
import Derived.Test.YtgclbeagifoifaaPc47
import Derived.Test.YtgclbeagifoifaaPc48
namespace Go.Proofs.Ytgclbeagifoifaa
end Go.Proofs.Ytgclbeagifoifaa
