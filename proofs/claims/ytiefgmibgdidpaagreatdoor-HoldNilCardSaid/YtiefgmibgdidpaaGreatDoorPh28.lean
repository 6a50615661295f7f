/- Texts of this claim, packed: N9W, N8RefP, N8RefS, N8RefM, SnTl, SnRt. -/
import Derived.Test.YtiefgmibgdidpaaGreatDoorPh27
import Derived.Test.YtiefgmibgdidpaaGreatDoorPh24
import Derived.Test.YtiefgmibgdidpaaGreatDoorPh20
import Derived.Deep.RegionLaw
import Derived.Deep.AppendLies
/- Worlds that have grown: small facts; no conditions. -/
namespace Go.Proofs.YtiefgmibgdidpaaGreatDoor
open Go.RowKit Go.Sort
set_option linter.unusedVariables false
end Go.Proofs.YtiefgmibgdidpaaGreatDoor
/- The document's Places and Valid: in new memory; of any node; without conditions. -/
namespace Go.Proofs.YtiefgmibgdidpaaGreatDoor
open Go.RowKit
set_option linter.unusedVariables false
end Go.Proofs.YtiefgmibgdidpaaGreatDoor
/- The document's Rise and May: of any node, any few entries; without conditions else. -/
namespace Go.Proofs.YtiefgmibgdidpaaGreatDoor
open Go.RowKit
set_option linter.unusedVariables false
end Go.Proofs.YtiefgmibgdidpaaGreatDoor
/- The document's May: of any node; without conditions. -/
namespace Go.Proofs.YtiefgmibgdidpaaGreatDoor
open Go.RowKit
set_option linter.unusedVariables false
end Go.Proofs.YtiefgmibgdidpaaGreatDoor
/- The law's trim; which nodes the law takes; no conditions. -/
namespace Go.Proofs.YtiefgmibgdidpaaGreatDoor
open Go.RowKit
set_option linter.unusedVariables false
attribute [local go_sem] Oper.semAt_some
theorem TrK.len {n m : Nd} {i : Nat} (h : TrK n m i) : m.len = n.len := by
  refine m.len_eq n.len_le (fun j hj => ?_) (fun h8 => ?_)
  · have := n.len_le
    rw [h.2.1 j (by omega)]
    exact n.len_before hj
  · rw [h.2.1 _ h8]
    exact n.len_at h8
theorem TrK.done {n m : Nd} (h : TrK n m 8) : m.tr (m.len + 1) m.len = n.tr n.len n.len := by
  rw [h.len]
  refine Nd.ext_of h.1 (fun i hi => ?_) (fun i hi => ?_)
  · rw [m.tr_key _ _ hi, n.tr_key _ _ hi, h.2.2 i hi]
    by_cases h1 : i < n.len
    · rw [if_pos (by omega), if_neg (by omega), if_pos h1]
    · rw [if_neg h1, if_pos (show n.len ≤ i ∧ i < 8 by omega)]
      split <;> rfl
  · rw [m.tr_ptr _ _ hi, n.tr_ptr _ _ hi, h.2.1 i hi]
end Go.Proofs.YtiefgmibgdidpaaGreatDoor
/- Which nodes the law takes; no conditions. -/
namespace Go.Proofs.YtiefgmibgdidpaaGreatDoor
open Go.RowKit
set_option linter.unusedVariables false
attribute [local go_sem] Oper.semAt_some
end Go.Proofs.YtiefgmibgdidpaaGreatDoor
