/- That a memory's numbers stay small behind stores, flushes, fences; plain facts. -/
import Derived.Test.YtedefebdfcgjeaaPOk
namespace Go.Proofs.Ytedefebdfcgjeaa
open Go.RowKit
set_option linter.unusedVariables false
theorem set_getDL {l : List (List (Nat × Nat))} {i : Nat} (hi : i < l.length) {x : List (Nat × Nat)} (j : Nat) : (l.set i x).getD j [] = if j = i then x else l.getD j [] := by
  rw [List.getD_eq_getElem?_getD, List.getElem?_set]
  by_cases h : i = j
  · subst h
    simp [hi]
  · rw [if_neg h, if_neg (fun e => h e.symm), List.getD_eq_getElem?_getD]
structure Lds (nl n : Nat) (s : St) : Prop where
  nls : s.nl = nl
  ok : s.Ok
  pl : s.pend.length = nl
  few : ∀ j, (s.pend.getD j []).length ≤ n
  vl : s.view.length = 8 * nl
  num : s.ld ≤ n ∧ s.st ≤ n ∧ s.fl ≤ n ∧ s.fe ≤ n
theorem zero_Lds (nl : Nat) : Lds nl 0 (St.zero nl) := by
  refine ⟨rfl, zero_Ok nl, by simp [St.zero], fun j => ?_, by simp [St.zero], Nat.le_refl _, Nat.le_refl _, Nat.le_refl _, Nat.le_refl _⟩
  show ((List.replicate nl ([] : List (Nat × Nat))).getD j []).length ≤ 0
  rw [List.getD_eq_getElem?_getD, List.getElem?_replicate]
  split <;> simp
section
variable {nl n : Nat} {s : St}
theorem Lds.mono (h : Lds nl n s) {m : Nat} (hm : n ≤ m) : Lds nl m s :=
  ⟨h.nls, h.ok, h.pl, fun j => Nat.le_trans (h.few j) hm, h.vl, Nat.le_trans h.num.1 hm, Nat.le_trans h.num.2.1 hm, Nat.le_trans h.num.2.2.1 hm, Nat.le_trans h.num.2.2.2 hm⟩
theorem Lds.store (h : Lds nl n s) (hn : n ≤ 1000000) {a v : Nat} (h8 : a % 8 = 0) (ha : a < 64 * nl) (hv : v < 18446744073709551616) : Lds nl (n + 1) (s.store a v) := by
  have hp : a / 64 < s.pend.length := by rw [h.pl]; omega
  refine ⟨h.nls, store_Ok h.ok h8 hp hv (by have := h.num; omega) (by have := h.few (a / 64); omega), ?_, fun j => ?_, ?_, by have := h.num; show s.ld ≤ _; omega, by have := h.num; show s.st + 1 ≤ _; omega, by have := h.num; show s.fl ≤ _; omega, by have := h.num; show s.fe ≤ _; omega⟩
  · show (s.pend.set _ _).length = nl
    rw [List.length_set]
    exact h.pl
  · show ((s.pend.set (a / 64) (s.pend.getD (a / 64) [] ++ [(a, v)])).getD j []).length ≤ n + 1
    rw [set_getDL hp]
    split
    · rw [List.length_append]
      have := h.few (a / 64)
      simp only [List.length_cons, List.length_nil]
      omega
    · have := h.few j
      omega
  · show (s.view.set _ _).length = _
    rw [List.length_set]
    exact h.vl
theorem Lds.flush (h : Lds nl n s) (hn : n ≤ 1000000) (c a : Nat) : Lds nl (n + 1) (s.flush c a) :=
  ⟨h.nls, flush_Ok h.ok (by have := h.num; omega), h.pl, fun j => Nat.le_succ_of_le (h.few j), h.vl, by have := h.num; show s.ld ≤ _; omega, by have := h.num; show s.st ≤ _; omega, by have := h.num; show s.fl + 1 ≤ _; omega, by have := h.num; show s.fe ≤ _; omega⟩
theorem Lds.fence (h : Lds nl n s) (hn : n ≤ 1000000) (c : Nat) : Lds nl (n + 1) (s.fence c) := by
  refine ⟨h.nls, fence_Ok h.ok (by have := h.num; omega), ?_, fun j => ?_, h.vl, by have := h.num; show s.ld ≤ _; omega, by have := h.num; show s.st ≤ _; omega, by have := h.num; show s.fl ≤ _; omega, by have := h.num; show s.fe + 1 ≤ _; omega⟩
  · show (s.pend.mapIdx _).length = nl
    rw [List.length_mapIdx]
    exact h.pl
  · show ((s.pend.mapIdx fun j l => if true = true then l.drop (s.mm j c) else l).getD j []).length ≤ n + 1
    have := h.few j
    rw [List.getD_eq_getElem?_getD] at this ⊢
    rw [List.getElem?_mapIdx]
    cases e : s.pend[j]? with
    | none => exact Nat.zero_le _
    | some l =>
      rw [e] at this
      simp only [Option.map_some, Option.getD_some, if_true, List.length_drop] at this ⊢
      omega
end
end Go.Proofs.Ytedefebdfcgjeaa
