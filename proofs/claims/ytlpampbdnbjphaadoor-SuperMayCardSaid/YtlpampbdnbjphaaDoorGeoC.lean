/- Contracts of geo's Block, and of Index's closure; for any numbers, where geo.rooms holds what its initialiser lays. -/
import Derived.Test.YtlpampbdnbjphaaDoorGeoB
namespace Go.Proofs.YtlpampbdnbjphaaDoor
open Go.RowKit Go.Sort
set_option linter.unusedVariables false

theorem block_out {s : Int} (h : ¬ (1 ≤ s ∧ s ≤ 64)) (c j : Int) (w : World) (R : Rms w) : Calls Tryd.prog 31 #[.int .i64 s, .int .i64 c, .int .i64 j] w fun e w' => e = .returned (.int .u64 0) ∧ Gr w w' := by
  have HB := Lib.hid (inB_no h)
  have HR := Lib.hid (roomOf_any c w R)
  clear h R
  generalize byC c = x at HR
  generalize blC c = y at HR
  generalize vaC c = z at HR
  go_enter Tryd.func31, Tryd.ntmps31
  go_wp2_with fail
  refine HR.out.mono ?_
  rintro e w1 ⟨rfl, hg⟩
  go_wp2_with fail
  refine (isSlab_at HB.out _).mono ?_
  rintro e w' ⟨rfl, rfl⟩
  go_wp2
  go_ret
  exact ⟨rfl, hg.alloc _⟩
theorem block_none {s c j : Int} (h : 1 ≤ s ∧ s ≤ 64) (hj : ¬ (0 ≤ j ∧ j < blC c)) (w : World) (R : Rms w) : Calls Tryd.prog 31 #[.int .i64 s, .int .i64 c, .int .i64 j] w fun e w' => e = .returned (.int .u64 0) ∧ Gr w w' := by
  have HB := Lib.hid (inB_yes h)
  have HR := Lib.hid (roomOf_any c w R)
  have hy : 0 ≤ blC c ∧ blC c ≤ 15 := by rcases cls c with ⟨_, _, h, _⟩ | ⟨_, _, h, _⟩ | ⟨_, _, h, _⟩ | ⟨_, _, _, _, h, _⟩ <;> rw [h] <;> omega
  have HJ := Lib.hid (inB_no (n := j) (lo := 0) (hi := blC c - 1) (by omega))
  clear h R hj
  generalize byC c = x at HR
  generalize blC c = y at HR hy HJ
  generalize vaC c = z at HR
  go_enter Tryd.func31, Tryd.ntmps31
  go_wp2_with fail
  refine HR.out.mono ?_
  rintro e w1 ⟨rfl, hg⟩
  go_wp2_with fail
  refine (isSlab_at HB.out _).mono ?_
  rintro e w' ⟨rfl, rfl⟩
  go_wp2_with fail
  refine (within_at HJ.out _).mono ?_
  rintro e w' ⟨rfl, rfl⟩
  go_wp2
  go_ret
  exact ⟨rfl, hg.alloc _⟩
set_option maxHeartbeats 800000 in
theorem block_in {s c j x y z : Int} (h : 1 ≤ s ∧ s ≤ 64) (hj : 0 ≤ j ∧ j ≤ y - 1) (hy : y ≤ 15) (hx : x = 64 ∨ x = 128 ∨ x = 192) (w : World)
    (HR : Hid (Calls Tryd.prog 33 #[.int .i64 c] w fun e w' => e = .returned (.agg #[.int .i64 x, .int .i64 y, .int .i64 z]) ∧ Gr w w')) :
    Calls Tryd.prog 31 #[.int .i64 s, .int .i64 c, .int .i64 j] w fun e w' => e = .returned (.int .u64 (1024 * s + 64 + j * x)) ∧ Gr w w' := by
  have HB := Lib.hid (inB_yes h)
  have HJ := Lib.hid (inB_yes hj)
  have HH := Lib.hid fun w => Calls.swap (header_any s w)
  have hh := hdA_range s
  have HE := Lib.hid (show hdA s = 1024 * s from if_pos h)
  obtain ⟨h1, h2⟩ := h
  obtain ⟨j1, j2⟩ := hj
  have j3 : j ≤ 14 := by omega
  rcases hx with rfl | rfl | rfl
  all_goals
    go_enter Tryd.func31, Tryd.ntmps31
    go_wp2_with fail
    refine HR.out.mono ?_
    rintro e w1 ⟨rfl, hg⟩
    go_wp2_with fail
    refine (isSlab_at HB.out _).mono ?_
    rintro e w' ⟨rfl, rfl⟩
    go_wp2_with fail
    refine (within_at HJ.out _).mono ?_
    rintro e w' ⟨rfl, rfl⟩
    go_wp2
    go_quiet ((go_at_call 34; exact Calls.quiet_of_same (HH.out _)))
    go_wp2
    go_ret
    exact ⟨ret_int (by rw [HE.out]), (hg.alloc _).drewN _⟩
theorem block_any (s c j : Int) (w : World) (R : Rms w) : Calls Tryd.prog 31 #[.int .i64 s, .int .i64 c, .int .i64 j] w fun e w' => e = .returned (.int .u64 (blkA s c j)) ∧ Gr w w' := by
  by_cases h : 1 ≤ s ∧ s ≤ 64
  · by_cases hj : 0 ≤ j ∧ j < blC c
    · rw [blkA_yes ⟨h.1, h.2, hj.1, hj.2⟩]
      have HR := Lib.hid (roomOf_any c w R)
      rcases cls c with ⟨_, h2, h3, _⟩ | ⟨_, h2, h3, _⟩ | ⟨_, h2, h3, _⟩ | ⟨_, _, _, _, h3, _⟩
      · exact block_in h (by omega) (by omega) (by omega) w HR
      · exact block_in h (by omega) (by omega) (by omega) w HR
      · exact block_in h (by omega) (by omega) (by omega) w HR
      · omega
    · rw [blkA_no (by omega)]
      exact block_none h hj w R
  · rw [blkA_no (by omega)]
    exact block_out h c j w R
end Go.Proofs.YtlpampbdnbjphaaDoor
