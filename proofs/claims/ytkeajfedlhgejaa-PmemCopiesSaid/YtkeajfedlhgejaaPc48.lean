/- Texts of this claim, packed: R2FrW. -/
import Derived.Test.YtkeajfedlhgejaaPc47
import Derived.Test.YtkeajfedlhgejaaPc46
/- PmemFronts as its row hands it its arguments; no conditions. -/
namespace Go.Proofs.Ytkeajfedlhgejaa
open Go Go.RowKit
set_option linter.unusedVariables false
theorem fronts_walk (a0 : Option Addr) (len0 cap0 : Nat) (z0 : List Int) (a1 : Option Addr) (len1 cap1 : Nat) (z1 : List Act2) (W : World) (w0 : InRow .u8 W a0 len0 cap0 z0) (w1 : Acts2In W a1 len1 cap1 z1) :
    Calls Try.prog 4 #[.slice a0 len0 cap0, .slice a1 len1 cap1] W fun e w' => e = .returned (.bool true) ∧ Below W.heap.size W w' := by
  obtain ⟨⟨l, hb⟩, hn⟩ := bsAt_of w0
  cases h1 : fewB z1 60
  · exact fronts2_no1 hb w1 hn h1
  cases h2 : fitsB len0
  · exact fronts2_no2 hb w1 hn h1 h2
  · exact fronts2_yes hb w1 hn h1 h2
end Go.Proofs.Ytkeajfedlhgejaa
