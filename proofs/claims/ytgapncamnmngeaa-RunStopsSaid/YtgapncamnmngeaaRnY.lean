/- The law's memory: one of so many lines, all noughts; of 1 to 16 lines, else none. -/
import Derived.Test.YtgapncamnmngeaaRnK
namespace Go.Proofs.Ytgapncamnmngeaa
open Go.RowKit Go.Shelf
set_option linter.unusedVariables false
set_option maxRecDepth 100000 in
theorem mem10_no {z : Int} (h : z < 1 ∨ 16 < z) (w : World) : Calls Try.prog 9 #[.int .i64 z] w fun e w' => e = .returned (.pointer none) ∧ w = w' := by
  by_cases h1 : z < 1
  · go_enter Try.func9, Try.ntmps9
    go_wp2
    go_ret
    exact ⟨rfl, rfl⟩
  · have h2 : 16 < z := by omega
    go_enter Try.func9, Try.ntmps9
    go_wp2
    go_ret
    exact ⟨rfl, rfl⟩
set_option maxRecDepth 100000 in
theorem mem10_yes {n : Nat} (h0 : 0 < n) (h1 : n ≤ 16) (w : World) : Calls Try.prog 9 #[.int .i64 (n : Int)] w fun e w' => ∃ y : Lay, e = .returned (.pointer (some ⟨y.g, 0, none⟩)) ∧ MemAt w' y (St.zero n) ∧ (∀ k, y.fp k → w.heap.size ≤ k) ∧ Below w.heap.size w w' := by
  have HN := Lib.hid (new_yes n w h0 (by omega))
  have q1 : ¬ (n : Int) < 1 := by omega
  have q2 : ¬ (16 : Int) < (n : Int) := by omega
  have q3 : IntKind.i64.wrap (64 * (n : Int)) = ((64 * n : Nat) : Int) := by rw [IntKind.wrap_i64]; omega
  clear h0 h1
  go_enter Try.func9, Try.ntmps9
  go_wp2_with fail
  refine HN.out.mono ?_
  rintro e w1 ⟨y, rfl, hm1, hfp, hb1⟩
  have HE := Lib.hid (And.intro hm1 (And.intro hfp hb1))
  clear hm1 hfp hb1
  go_wp2
  go_ret
  exact ⟨y, rfl, HE.out.1, HE.out.2.1, HE.out.2.2⟩
end Go.Proofs.Ytgapncamnmngeaa
