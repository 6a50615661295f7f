/- Texts of this claim, packed: PCrashSt. -/
import Derived.Test.YteojhhfcfdkmdaaPm18
import Derived.Test.YteojhhfcfdkmdaaPm14
import Derived.Test.YteojhhfcfdkmdaaPm20
set_option linter.unusedSimpArgs false
set_option linter.unusedVariables false
/- What a crash makes of a state, line by line; for states that a memory can have. -/
namespace Go.Proofs.Yteojhhfcfdkmdaa
set_option linter.unusedVariables false
theorem set_getD {l : List (List (Nat × Nat))} {i j : Nat} {x : List (Nat × Nat)} (hi : i < l.length) : (l.set i x).getD j [] = if j = i then x else l.getD j [] := by
  rw [List.getD_eq_getElem?_getD, List.getElem?_set]
  by_cases e : i = j
  · subst e
    simp [hi]
  · rw [if_neg e, if_neg (fun x => e x.symm), List.getD_eq_getElem?_getD]
theorem last_Ok {s : St} (ok : s.Ok) {i n : Nat} (hi : i < s.pend.length) (hn : n ≤ (s.pend.getD i []).length) : (s.last i n).Ok := by
  have hgi := getD_at (d := ([] : List (Nat × Nat))) hi
  refine ⟨?_, ok.vie, ?_, ?_, ?_, ok.num⟩
  · refine lastW_fits ok.las ?_
    intro p hp
    have hm := List.mem_of_mem_take hp
    rw [hgi] at hm
    exact (ok.put i _ (List.getElem?_eq_getElem hi) p hm).2.2
  · intro j l hl p hp
    have hl' : (s.pend.set i ((s.pend.getD i []).drop n))[j]? = some l := hl
    rw [List.getElem?_set] at hl'
    by_cases e : i = j
    · subst e
      rw [if_pos rfl, if_pos hi] at hl'
      cases hl'
      have hm := List.mem_of_mem_drop hp
      rw [hgi] at hm
      exact ok.put i _ (List.getElem?_eq_getElem hi) p hm
    · rw [if_neg e] at hl'
      exact ok.put j l hl' p hp
  · intro l hl
    have hl' : l ∈ s.pend.set i ((s.pend.getD i []).drop n) := hl
    rcases List.mem_or_eq_of_mem_set hl' with h | h
    · exact ok.few l h
    · rw [h, List.length_drop, hgi]
      have := ok.few _ (List.getElem_mem hi)
      omega
  · intro j q
    show umk s.mm i n j q ≤ ((s.pend.set i ((s.pend.getD i []).drop n)).getD j []).length
    rw [set_getD hi]
    by_cases e : j = i
    · subst e
      rw [if_pos rfl, umk_at, List.length_drop]
      have := ok.mks j q
      omega
    · rw [if_neg e, umk_far e]
      exact ok.mks j q
theorem lose_Ok {s : St} (ok : s.Ok) {i : Nat} (hi : i < s.pend.length) : (s.lose i).Ok := by
  refine ⟨ok.las, ?_, ?_, ?_, ?_, ok.num⟩
  · intro x hx
    have hx' : x ∈ loseV s.lasted s.view i := hx
    simp only [loseV, List.mem_mapIdx] at hx'
    obtain ⟨k, hk, rfl⟩ := hx'
    split
    · by_cases hl : k < s.lasted.length
      · rw [getD_at hl]
        exact ok.las _ (List.getElem_mem hl)
      · rw [List.getD_eq_getElem?_getD, List.getElem?_eq_none (by omega)]
        decide
    · exact ok.vie _ (List.getElem_mem hk)
  · intro j l hl p hp
    have hl' : (s.pend.set i [])[j]? = some l := hl
    rw [List.getElem?_set] at hl'
    by_cases e : i = j
    · subst e
      rw [if_pos rfl, if_pos hi] at hl'
      cases hl'
      cases hp
    · rw [if_neg e] at hl'
      exact ok.put j l hl' p hp
  · intro l hl
    have hl' : l ∈ s.pend.set i [] := hl
    rcases List.mem_or_eq_of_mem_set hl' with h | h
    · exact ok.few l h
    · rw [h]; decide
  · intro j q
    show upd s.mm i (fun _ => 0) j q ≤ ((s.pend.set i []).getD j []).length
    rw [set_getD hi]
    by_cases e : j = i
    · subst e
      simp [upd]
    · rw [if_neg e]
      simp only [upd, if_neg e]
      exact ok.mks j q

/-- One line of a crash; those lines that have been told. -/
def St.crash1 (s : St) (keep : List Int) (x : Nat × Nat) : St := (s.last x.2 (keptN keep x.1 (s.pend.getD x.2 []).length)).lose x.2
def St.crashTo (s : St) (keep : List Int) (xs : List (Nat × Nat)) : St := xs.foldl (fun t x => t.crash1 keep x) s
def St.crash (s : St) (keep : List Int) : St := s.crashTo keep (nz s.pend)
theorem crashTo_snoc (s : St) (keep : List Int) (xs : List (Nat × Nat)) (x : Nat × Nat) : s.crashTo keep (xs ++ [x]) = (s.crashTo keep xs).crash1 keep x := by simp [St.crashTo]
theorem crashTo_nl (s : St) (keep : List Int) (xs : List (Nat × Nat)) : (s.crashTo keep xs).nl = s.nl := by
  induction xs generalizing s with
  | nil => rfl
  | cons x t ih => exact ih (s.crash1 keep x)
theorem crashTo_pend (s : St) (keep : List Int) (xs : List (Nat × Nat)) : (s.crashTo keep xs).pend.length = s.pend.length := by
  induction xs generalizing s with
  | nil => rfl
  | cons x t ih =>
    rw [show s.crashTo keep (x :: t) = (s.crash1 keep x).crashTo keep t from rfl, ih]
    simp [St.crash1, St.lose, St.last]
theorem crashTo_far {s : St} {keep : List Int} {xs : List (Nat × Nat)} {j : Nat} (h : ∀ x ∈ xs, x.2 ≠ j) : (s.crashTo keep xs).pend.getD j [] = s.pend.getD j [] := by
  induction xs generalizing s with
  | nil => rfl
  | cons x t ih =>
    rw [show s.crashTo keep (x :: t) = (s.crash1 keep x).crashTo keep t from rfl, ih (fun q hq => h q (by simp [hq]))]
    have hx := h x (by simp)
    simp only [St.crash1, St.lose, St.last, List.getD_eq_getElem?_getD]
    rw [List.getElem?_set_ne hx, List.getElem?_set_ne hx]
theorem crashTo_Ok {s : St} (ok : s.Ok) (keep : List Int) (xs : List (Nat × Nat)) (h : ∀ x ∈ xs, x.2 < s.pend.length) : (s.crashTo keep xs).Ok := by
  induction xs generalizing s with
  | nil => exact ok
  | cons x t ih =>
    have hx := h x (by simp)
    have hl : (s.crash1 keep x).pend.length = s.pend.length := by simp [St.crash1, St.lose, St.last]
    refine ih (s := s.crash1 keep x) (lose_Ok (last_Ok ok hx (keptN_le _ _ _)) (by simpa [St.last] using hx)) (fun q hq => by rw [hl]; exact h q (by simp [hq]))
/-- The lines that are told rise, and there are such. -/
theorem nzFrom_bound : ∀ (p : List (List (Nat × Nat))) (i j : Nat), ∀ x ∈ nzFrom p i j, j ≤ x.2 ∧ x.2 < j + p.length ∧ i ≤ x.1 ∧ x.1 < i + p.length
  | [], i, j, x, hx => by cases hx
  | l :: t, i, j, x, hx => by
    unfold nzFrom at hx
    rw [List.length_cons]
    split at hx
    · have := nzFrom_bound t i (j + 1) x hx
      omega
    · rcases List.mem_cons.1 hx with rfl | hx
      · dsimp only
        omega
      · have := nzFrom_bound t (i + 1) (j + 1) x hx
        omega
theorem nzFrom_at : ∀ (p : List (List (Nat × Nat))) (i j : Nat), ∀ k x, (nzFrom p i j)[k]? = some x → x.1 = i + k ∧ ∃ l, p[x.2 - j]? = some l ∧ l ≠ []
  | [], i, j, k, x, hx => by cases hx
  | l :: t, i, j, k, x, hx => by
    unfold nzFrom at hx
    split at hx
    · obtain ⟨h1, m, h2, h3⟩ := nzFrom_at t i (j + 1) k x hx
      have hb := nzFrom_bound t i (j + 1) x (List.mem_of_getElem? hx)
      refine ⟨h1, m, ?_, h3⟩
      rw [show x.2 - j = x.2 - (j + 1) + 1 from by omega]
      exact h2
    · rename_i hne
      cases k with
      | zero =>
        simp at hx
        subst hx
        exact ⟨rfl, l, by simp, hne⟩
      | succ k =>
        rw [List.getElem?_cons_succ] at hx
        obtain ⟨h1, m, h2, h3⟩ := nzFrom_at t (i + 1) (j + 1) k x hx
        have hb := nzFrom_bound t (i + 1) (j + 1) x (List.mem_of_getElem? hx)
        refine ⟨by omega, m, ?_, h3⟩
        rw [show x.2 - j = x.2 - (j + 1) + 1 from by omega]
        exact h2
theorem nzFrom_rise : ∀ (p : List (List (Nat × Nat))) (i j : Nat), (nzFrom p i j).Pairwise (fun a b => a.2 < b.2)
  | [], i, j => List.Pairwise.nil
  | l :: t, i, j => by
    unfold nzFrom
    split
    · exact nzFrom_rise t i (j + 1)
    · refine List.pairwise_cons.2 ⟨fun x hx => ?_, nzFrom_rise t (i + 1) (j + 1)⟩
      have := nzFrom_bound t (i + 1) (j + 1) x hx
      show j < x.2
      omega
end Go.Proofs.Yteojhhfcfdkmdaa
