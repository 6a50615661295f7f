/- Texts of this claim, packed: PCrashSt. -/
import Derived.Test.YtiefgmibgdidpaaGreatDoorPh12
import Derived.Test.YtiefgmibgdidpaaGreatDoorPh08
import Derived.Test.YtiefgmibgdidpaaGreatDoorPh14
/- What a crash makes of a state, line by line; for states that a memory can have. -/
namespace Go.Proofs.YtiefgmibgdidpaaGreatDoor
set_option linter.unusedVariables false
theorem set_getD {l : List (List (Nat × Nat))} {i j : Nat} {x : List (Nat × Nat)} (hi : i < l.length) : (l.set i x).getD j [] = if j = i then x else l.getD j [] := by
  rw [List.getD_eq_getElem?_getD, List.getElem?_set]
  by_cases e : i = j
  · subst e
    simp [hi]
  · rw [if_neg e, if_neg (fun x => e x.symm), List.getD_eq_getElem?_getD]
/-- One line of a crash; those lines that have been told. -/
def St.crash1 (s : St) (keep : List Int) (x : Nat × Nat) : St := (s.last x.2 (keptN keep x.1 (s.pend.getD x.2 []).length)).lose x.2
def St.crashTo (s : St) (keep : List Int) (xs : List (Nat × Nat)) : St := xs.foldl (fun t x => t.crash1 keep x) s
def St.crash (s : St) (keep : List Int) : St := s.crashTo keep (nz s.pend)
end Go.Proofs.YtiefgmibgdidpaaGreatDoor
