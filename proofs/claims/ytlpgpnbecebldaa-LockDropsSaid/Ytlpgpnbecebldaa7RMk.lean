/- The law's own New. -/
import Derived.Test.Ytlpgpnbecebldaa7RNew
namespace Go.Proofs.Ytlpgpnbecebldaa
open Go.RowKit
set_option linter.unusedVariables false
theorem rNew_no (z : Int) (w : World) (h : z < 1 ∨ 64 < z) : Calls Try.prog 8 #[.int .i64 z] w fun e w' => e = .returned (.tuple #[.pointer none, .int .i64 2]) ∧ w = w' := by
  by_cases h1 : z < 1
  · have d1 : decide (z < 1) = true := by simpa using h1
    clear h
    go_enter Try.func8, Try.ntmps8
    go_wp2
    go_ret2
    exact ⟨rfl, rfl⟩
  · have d1 : decide (z < 1) = false := by simpa using h1
    have h2 : 64 < z := by omega
    have d2 : decide (64 < z) = true := by simpa using h2
    clear h
    go_enter Try.func8, Try.ntmps8
    go_wp2
    go_ret2
    exact ⟨rfl, rfl⟩
theorem madeCells_one (z : Value) (n : Nat) : madeCells #[z] n = (List.replicate n z).toArray := by
  apply Array.ext'
  rw [toList_madeCells_one]
set_option maxRecDepth 100000 in
set_option maxHeartbeats 1000000 in
theorem rNew_yes {n : Nat} (w : World) (h1 : 1 ≤ n) (h2 : n ≤ 64) : Calls Try.prog 8 #[.int .i64 (n : Int)] w fun e w' => ∃ gr vW, e = .returned (.tuple #[.pointer (some ⟨gr, 0, none⟩), .int .i64 0]) ∧ RefAt w' w.heap.size gr n [] (fun _ => 0) (.slice none 0 0) vW ∧ w.heap.size ≤ gr ∧ Below w.heap.size w w' := by
  have d1 : decide ((n : Int) < 1) = false := by simp; omega
  have d2 : decide (64 < (n : Int)) = false := by simp; omega
  obtain ⟨i0, hi, hz0, hz1, hz2⟩ := info_parts kinfoAddr
  have hm1 := fun W : World => run_make (P := Try.prog) W 38 34 i0 _ Try.underlying38 hi hz0 .i64 .i64 ((n : Nat) : Int) ((n : Nat) : Int) (by omega) (by omega) (by rw [hz2]; omega) (by omega)
  go_enter Try.func8, Try.ntmps8
  go_wp2
  go_ret2
  refine ⟨w.heap.size + 1, .slice (some ⟨w.heap.size, 0, none⟩) n n, rfl, ⟨?_, ⟨rfl, .inl ⟨rfl, rfl⟩⟩, ?_⟩, by omega, Below.and (alloc_below _ _) (alloc_below _ _)⟩
  · have := Row.new (w.alloc (.cells (madeCells #[.int .u64 0] n) 34)) 40 #[.slice none 0 0, .slice (some ⟨w.heap.size, 0, none⟩) n n]
    simpa using this
  · refine ⟨by simp, .inr ⟨w.heap.size, n, _, rfl, Nat.le_refl _, (Row.new w 34 (madeCells #[.int .u64 0] n)).alloc _, Nat.le_refl _, by unfold maxLen; omega, ?_, ?_⟩⟩
    · rw [madeCells_one]; simp
    · rw [madeCells_one]
      apply List.ext_getElem?
      intro j
      by_cases hj : j < n
      · rw [List.getElem?_take_of_lt (by omega), List.getElem?_map, List.getElem?_range hj]
        simp [List.getElem?_replicate, hj, wv]
      · rw [List.getElem?_eq_none (by simp; omega), List.getElem?_eq_none (by simp; omega)]
end Go.Proofs.Ytlpgpnbecebldaa
