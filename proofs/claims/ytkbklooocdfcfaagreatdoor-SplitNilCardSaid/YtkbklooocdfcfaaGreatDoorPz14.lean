/- Texts of this claim, packed: PIter. -/
import Derived.Test.YtkbklooocdfcfaaGreatDoorPz13
import Derived.Test.YtkbklooocdfcfaaGreatDoorPz08
import Derived.Shelf.Abstract
import Derived.Shelf.RegionOpen
import Derived.OwnWalkIn
import Derived.TacticsInMore
import Derived.LoopNIn
import Derived.LoopIn
set_option linter.unusedVariables false
set_option maxRecDepth 100000
set_option maxHeartbeats 6400000
namespace Go.Proofs.YtkbklooocdfcfaaGreatDoor
open Go.RowKit Go.Shelf
attribute [local go_sem] Oper.semAt_some
def nzFrom : List (List (Nat × Nat)) -> Nat -> Nat -> List (Nat × Nat)
 | [], _, _ => []
 | l :: t, i, j => if l = [] then nzFrom t i (j + 1) else (i, j) :: nzFrom t (i + 1) (j + 1)
def nz (p : List (List (Nat × Nat))) : List (Nat × Nat) := nzFrom p 0 0
end Go.Proofs.YtkbklooocdfcfaaGreatDoor
