/- Texts of this claim, packed: PStore. -/
import Derived.Test.YtiefgmibgdidpaaGreatDoorPh09
import Derived.Test.YtiefgmibgdidpaaGreatDoorPh08
import Derived.Deep.RegionLaw
import Derived.Deep.DrawnRows
/- Store: the word at an address turns, and the store is pending; for addresses of words, words that fit, lines of at most 10^9 stores. -/
namespace Go.Proofs.YtiefgmibgdidpaaGreatDoor
open Go.RowKit
set_option linter.unusedVariables false
attribute [local go_sem ↓] Go.wp_at_zero Go.wp_at_succ

/-- A store: the state behind it. -/
def St.store (s : St) (a v : Nat) : St := { s with view := s.view.set (a / 8) v, pend := s.pend.set (a / 64) (s.pend.getD (a / 64) [] ++ [(a, v)]), st := s.st + 1 }
theorem set_map (l : List Nat) (i v : Nat) : (l.map wv).set i (wv v) = (l.set i v).map wv := (List.map_set).symm

end Go.Proofs.YtiefgmibgdidpaaGreatDoor
