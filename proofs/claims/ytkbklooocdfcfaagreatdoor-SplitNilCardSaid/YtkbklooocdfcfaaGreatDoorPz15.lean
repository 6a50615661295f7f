/- Texts of this claim, packed: PCrashSt. -/
import Derived.Test.YtkbklooocdfcfaaGreatDoorPz12
import Derived.Test.YtkbklooocdfcfaaGreatDoorPz08
import Derived.Test.YtkbklooocdfcfaaGreatDoorPz14
set_option linter.unusedVariables false
set_option maxRecDepth 100000
set_option maxHeartbeats 6400000
namespace Go.Proofs.YtkbklooocdfcfaaGreatDoor
theorem set_getD {l : List (List (Nat × Nat))} {i j : Nat} {x : List (Nat × Nat)} (hi : i < l.length) : (l.set i x).getD j [] = if j = i then x else l.getD j [] := by
 rw [List.getD_eq_getElem?_getD, List.getElem?_set]
 by_cases e : i = j
 ·subst e
  simp [hi]
 ·rw [if_neg e, if_neg (fun x => e x.symm), List.getD_eq_getElem?_getD]
def St.crash1 (s : St) (keep : List Int) (x : Nat × Nat) : St := (s.last x.2 (keptN keep x.1 (s.pend.getD x.2 []).length)).lose x.2
def St.crashTo (s : St) (keep : List Int) (xs : List (Nat × Nat)) : St := xs.foldl (fun t x => t.crash1 keep x) s
def St.crash (s : St) (keep : List Int) : St := s.crashTo keep (nz s.pend)
end Go.Proofs.YtkbklooocdfcfaaGreatDoor
