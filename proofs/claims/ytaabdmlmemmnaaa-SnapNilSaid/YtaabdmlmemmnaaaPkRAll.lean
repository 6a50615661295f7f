/- Joins the texts of the three laws; no conditions. -/
import Derived.Test.YtaabdmlmemmnaaaPk42
import Derived.Test.YtaabdmlmemmnaaaPk45
namespace Go.Proofs.Ytaabdmlmemmnaaa
end Go.Proofs.Ytaabdmlmemmnaaa
