/- The laws' walks as the rows take them: BitsOne, BitsAll, BitsLowest, BitsNil, for every input; without conditions. -/
import Derived.Test.YtabmafndcoebpaaBLawA
namespace Go.Proofs.Ytabmafndcoebpaa
open Go.RowKit
set_option linter.unusedVariables false
theorem wf_int {a : Int} (h : (Lit.int .i64 a).wf = true) : -9223372036854775808 ≤ a ∧ a ≤ 9223372036854775807 := by
  simp only [Lit.wf, Bool.and_eq_true, decide_eq_true_eq] at h
  exact ⟨h.1, h.2⟩
theorem one_walk (a j : Int) (W : World) (w0 : (Lit.int .u64 a).wf = true) (w1 : (Lit.int .i64 j).wf = true) : Calls Try.prog 3 #[.int .u64 a, .int .i64 j] W fun e w' => e = .returned (.bool true) ∧ Below W.heap.size W w' := by
  obtain ⟨b, rfl, hb⟩ := wf_nat w0
  exact lawOne_any hb (wf_int w1).1 (wf_int w1).2 W
theorem all_walk (a j : Int) (W : World) (w0 : (Lit.int .u64 a).wf = true) (w1 : (Lit.int .i64 j).wf = true) : Calls Try.prog 4 #[.int .u64 a, .int .i64 j] W fun e w' => e = .returned (.bool true) ∧ Below W.heap.size W w' := by
  obtain ⟨b, rfl, hb⟩ := wf_nat w0
  exact lawAll_any hb j W
theorem lowest_walk (a j : Int) (W : World) (w0 : (Lit.int .u64 a).wf = true) (w1 : (Lit.int .i64 j).wf = true) : Calls Try.prog 5 #[.int .u64 a, .int .i64 j] W fun e w' => e = .returned (.bool true) ∧ Below W.heap.size W w' := by
  obtain ⟨b, rfl, hb⟩ := wf_nat w0
  exact lawLowest_any hb (wf_int w1).2 W
theorem nil_walk (W : World) : Calls Try.prog 8 #[] W fun e w' => e = .returned (.bool true) ∧ Below W.heap.size W w' := lawNil5_any W
end Go.Proofs.Ytabmafndcoebpaa
