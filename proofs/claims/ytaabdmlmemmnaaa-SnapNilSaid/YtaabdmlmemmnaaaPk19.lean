/- Texts of this claim, packed: RnL. -/
import Derived.Test.YtaabdmlmemmnaaaPk15
import Derived.Test.YtaabdmlmemmnaaaPk18
/- Where a seat has nodes beside runs: the words of Low stand for those of RnL (fill this one as <Name>RnL). -/
namespace Go.Proofs.Ytaabdmlmemmnaaa
end Go.Proofs.Ytaabdmlmemmnaaa
