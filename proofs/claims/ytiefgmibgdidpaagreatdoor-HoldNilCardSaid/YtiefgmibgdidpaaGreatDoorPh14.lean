/- Texts of this claim, packed: PIter. -/
import Derived.Test.YtiefgmibgdidpaaGreatDoorPh13
import Derived.Test.YtiefgmibgdidpaaGreatDoorPh08
import Derived.Shelf.Abstract
import Derived.Shelf.RegionOpen
import Derived.OwnWalkIn
import Derived.TacticsInMore
import Derived.LoopNIn
import Derived.LoopIn
/- lines: the iterator over the lines with pending stores: it calls yield once for each of them, rising, whatever a round makes of the line that it was told; for memories that are there. -/
namespace Go.Proofs.YtiefgmibgdidpaaGreatDoor
open Go.RowKit Go.Shelf
set_option linter.unusedVariables false
attribute [local go_sem] Oper.semAt_some

/-- The lines with pending stores from j on, each with its number, the first one's being i. -/
def nzFrom : List (List (Nat × Nat)) → Nat → Nat → List (Nat × Nat)
  | [], _, _ => []
  | l :: t, i, j => if l = [] then nzFrom t i (j + 1) else (i, j) :: nzFrom t (i + 1) (j + 1)
def nz (p : List (List (Nat × Nat))) : List (Nat × Nat) := nzFrom p 0 0
end Go.Proofs.YtiefgmibgdidpaaGreatDoor
