/- RunEmpty, of arguments as they come. -/
import Derived.Test.YtgapncamnmngeaaRnT
namespace Go.Proofs.Ytgapncamnmngeaa
open Go.RowKit Go.Shelf
set_option linter.unusedVariables false
set_option maxRecDepth 100000 in
set_option maxHeartbeats 1600000 in
theorem runEmpty_out (w : World) {z c a v : Int} (h : z < 1 ∨ 16 < z) :
    Calls Try.prog 7 #[.int .i64 z, .int .i64 c, .agg #[.int .u64 a, .int .u64 v]] w fun e w' => e = .returned (.bool true) ∧ Below w.heap.size w w' := by
  obtain ⟨Wa, hWa⟩ : ∃ Wa, Wa = w.alloc (.cells #[.int .u64 a, .int .u64 v] 32) := ⟨_, rfl⟩
  have HM := Lib.hid (mem10_no h Wa)
  have HBA := Lib.hid (show Below w.heap.size w Wa by rw [hWa]; exact alloc_below _ _)
  go_enter Try.func7, Try.ntmps7
  go_wp2_with fail
  rw [← hWa]
  clear hWa
  refine HM.out.mono ?_
  rintro e w1 ⟨rfl, rfl⟩
  go_wp2_with fail
  refine (k10_any _).mono ?_
  rintro e w2 ⟨rfl, hb2⟩
  have HF := Lib.hid (Below.and HBA.out hb2)
  clear hb2
  go_wp2
  go_ret
  exact ⟨rfl, HF.out⟩
theorem runEmpty_any (z c a v : Int) (w : World) (hz : (Lit.int .i64 z).wf = true) (hc : (Lit.int .i64 c).wf = true) (ha : (Lit.int .u64 a).wf = true) (hv : (Lit.int .u64 v).wf = true) :
    Calls Try.prog 7 #[.int .i64 z, .int .i64 c, .agg #[.int .u64 a, .int .u64 v]] w fun e w' => e = .returned (.bool true) ∧ Below w.heap.size w w' := by
  obtain ⟨a, rfl, ha'⟩ := wf_nat ha
  obtain ⟨v, rfl, hv'⟩ := wf_nat hv
  by_cases h : z < 1 ∨ 16 < z
  · exact runEmpty_out w h
  · obtain ⟨n, rfl⟩ : ∃ n : Nat, z = (n : Int) := ⟨z.toNat, by omega⟩
    by_cases c0 : c < 0
    · exact runEmpty_low w (by omega) (by omega) c0 ha' hv'
    · by_cases c1 : 64 < c
      · exact runEmpty_high w (by omega) (by omega) c1 ha' hv'
      · exact runEmpty_yes w (by omega) (by omega) (by omega) (by omega) ha' hv'
end Go.Proofs.Ytgapncamnmngeaa
