/- Texts of this claim, packed: 6Pl. -/
import Derived.Test.YtahojhaeebmpoaaGreatDoorPl41
import Derived.Test.YtahojhaeebmpoaaGreatDoorPl42
import Derived.Test.YtahojhaeebmpoaaGreatDoorPl29
import Derived.Test.YtahojhaeebmpoaaGreatDoorPl36
/- The law SlabPlays. -/
namespace Go.Proofs.YtahojhaeebmpoaaGreatDoor
open Go Go.RowKit Go.Sort
set_option linter.unusedVariables false
theorem GD.low {w0 w : World} {B size gg mg gs gw : Nat} {Q : World → Z6 → S6 → Nat → List Value → Prop} (G : GD w0 (fun _ => False) B size gg mg gs gw Q w) : Below w0.heap.size w0 w := by
  obtain ⟨y, z, n, xs, G, _⟩ := G
  exact G.but.below (Nat.le_refl _) (fun k h => h.elim)
end Go.Proofs.YtahojhaeebmpoaaGreatDoor
