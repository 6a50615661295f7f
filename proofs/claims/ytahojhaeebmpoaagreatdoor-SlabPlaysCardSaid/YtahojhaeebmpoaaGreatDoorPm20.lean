/- Texts of this claim, packed: PCrashSt. -/
import Derived.Test.YtahojhaeebmpoaaGreatDoorPm17
import Derived.Test.YtahojhaeebmpoaaGreatDoorPm13
import Derived.Test.YtahojhaeebmpoaaGreatDoorPm19
/- What a crash makes of a state, line by line; for states that a memory can have. -/
namespace Go.Proofs.YtahojhaeebmpoaaGreatDoor
set_option linter.unusedVariables false
theorem set_getD {l : List (List (Nat × Nat))} {i j : Nat} {x : List (Nat × Nat)} (hi : i < l.length) : (l.set i x).getD j [] = if j = i then x else l.getD j [] := by
  rw [List.getD_eq_getElem?_getD, List.getElem?_set]
  by_cases e : i = j
  · subst e
    simp [hi]
  · rw [if_neg e, if_neg (fun x => e x.symm), List.getD_eq_getElem?_getD]
theorem last_Ok {s : St} (ok : s.Ok) {i n : Nat} (hi : i < s.pend.length) (hn : n ≤ (s.pend.getD i []).length) : (s.last i n).Ok := by
  have hgi := getD_at (d := ([] : List (Nat × Nat))) hi
  refine ⟨?_, ok.vie, ?_, ?_, ?_, ok.num⟩
  · refine lastW_fits ok.las ?_
    intro p hp
    have hm := List.mem_of_mem_take hp
    rw [hgi] at hm
    exact (ok.put i _ (List.getElem?_eq_getElem hi) p hm).2.2
  · intro j l hl p hp
    have hl' : (s.pend.set i ((s.pend.getD i []).drop n))[j]? = some l := hl
    rw [List.getElem?_set] at hl'
    by_cases e : i = j
    · subst e
      rw [if_pos rfl, if_pos hi] at hl'
      cases hl'
      have hm := List.mem_of_mem_drop hp
      rw [hgi] at hm
      exact ok.put i _ (List.getElem?_eq_getElem hi) p hm
    · rw [if_neg e] at hl'
      exact ok.put j l hl' p hp
  · intro l hl
    have hl' : l ∈ s.pend.set i ((s.pend.getD i []).drop n) := hl
    rcases List.mem_or_eq_of_mem_set hl' with h | h
    · exact ok.few l h
    · rw [h, List.length_drop, hgi]
      have := ok.few _ (List.getElem_mem hi)
      omega
  · intro j q
    show umk s.mm i n j q ≤ ((s.pend.set i ((s.pend.getD i []).drop n)).getD j []).length
    rw [set_getD hi]
    by_cases e : j = i
    · subst e
      rw [if_pos rfl, umk_at, List.length_drop]
      have := ok.mks j q
      omega
    · rw [if_neg e, umk_far e]
      exact ok.mks j q
/-- One line of a crash; those lines that have been told. -/
def St.crash1 (s : St) (keep : List Int) (x : Nat × Nat) : St := (s.last x.2 (keptN keep x.1 (s.pend.getD x.2 []).length)).lose x.2
def St.crashTo (s : St) (keep : List Int) (xs : List (Nat × Nat)) : St := xs.foldl (fun t x => t.crash1 keep x) s
def St.crash (s : St) (keep : List Int) : St := s.crashTo keep (nz s.pend)
end Go.Proofs.YtahojhaeebmpoaaGreatDoor
