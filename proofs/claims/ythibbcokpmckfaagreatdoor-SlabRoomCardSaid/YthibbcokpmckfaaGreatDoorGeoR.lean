/- Contracts of the reference's functions of layer 3: they answer the same numbers; for any inputs. -/
import Derived.Test.YthibbcokpmckfaaGreatDoorZ06
namespace Go.Proofs.YthibbcokpmckfaaGreatDoor
open Go.RowKit Go.Sort
set_option linter.unusedVariables false

theorem refBytes_in {c : Int} (h : 1 ≤ c ∧ c ≤ 3) (w : World) : Calls Tryz.prog 69 #[.int .i64 c] w fun e w' => e = .returned (.int .i64 (64 * c)) ∧ w = w' := by
  obtain ⟨h1, h2⟩ := h
  go_enter Tryz.func69, Tryz.ntmps69
  go_wp2
  go_ret
  exact ⟨rfl, rfl⟩
theorem refBytes_out {c : Int} (h : ¬ (1 ≤ c ∧ c ≤ 3)) (w : World) : Calls Tryz.prog 69 #[.int .i64 c] w fun e w' => e = .returned (.int .i64 0) ∧ w = w' := by
  by_cases h1 : c < 1
  · clear h
    go_enter Tryz.func69, Tryz.ntmps69
    go_wp2
    go_ret
    exact ⟨rfl, rfl⟩
  · have h2 : 3 < c := by omega
    clear h
    go_enter Tryz.func69, Tryz.ntmps69
    go_wp2
    go_ret
    exact ⟨rfl, rfl⟩
theorem byC_in {c : Int} (h : 1 ≤ c ∧ c ≤ 3) : byC c = 64 * c := by
  rcases cls c with ⟨rfl, h2, _⟩ | ⟨rfl, h2, _⟩ | ⟨rfl, h2, _⟩ | ⟨_, _, _, _⟩ <;> omega
theorem byC_out {c : Int} (h : ¬ (1 ≤ c ∧ c ≤ 3)) : byC c = 0 ∧ blC c = 0 := by
  rcases cls c with ⟨rfl, h2, _⟩ | ⟨rfl, h2, _⟩ | ⟨rfl, h2, _⟩ | ⟨_, _, _, h4, h5, _⟩ <;> omega
theorem refBytes_any (c : Int) (w : World) : Calls Tryz.prog 69 #[.int .i64 c] w fun e w' => e = .returned (.int .i64 (byC c)) ∧ w = w' := by
  by_cases h : 1 ≤ c ∧ c ≤ 3
  · rw [byC_in h]; exact refBytes_in h w
  · rw [(byC_out h).1]; exact refBytes_out h w
set_option maxRecDepth 100000 in
set_option maxHeartbeats 800000 in
theorem refBlocks_in {c x n : Int} (hx : x = 64 ∧ n = 15 ∨ x = 128 ∧ n = 7 ∨ x = 192 ∧ n = 5) (w : World)
    (HB : Hid (∀ w, Calls Tryz.prog 69 #[.int .i64 c] w fun e w' => e = .returned (.int .i64 x) ∧ w = w')) :
    Calls Tryz.prog 25 #[.int .i64 c] w fun e w' => e = .returned (.int .i64 n) ∧ w = w' := by
  rcases hx with ⟨rfl, rfl⟩ | ⟨rfl, rfl⟩ | ⟨rfl, rfl⟩
  all_goals
    go_enter Tryz.func25, Tryz.ntmps25
    go_wp2_with (go_at_call 69; refine (HB.out _).mono ?_; rintro e w' ⟨rfl, rfl⟩)
  · go_loop [3] (fun i => ∃ k : Nat, k ≤ 15 ∧ i = .int .i64 k) (fun i => 15 - (intOf i).toNat)
    case atStart => exact ⟨0, by omega, rfl⟩
    case round =>
      obtain ⟨k, hk, rfl⟩ := hrel
      by_cases h : k < 15
      · go_wp2_with fail
        refine (HB.out _).mono ?_
        rintro e w' ⟨rfl, rfl⟩
        go_wp2_with fail
        go_round
        case rel => exact ⟨k + 1, by omega, by go_num⟩
        case measure => simp [intOf]; omega
      · obtain rfl : k = 15 := by omega
        go_wp2_with (go_at_call 69; refine (HB.out _).mono ?_; rintro e w' ⟨rfl, rfl⟩)
        go_ret
        exact ⟨rfl, rfl⟩
  · go_loop [3] (fun i => ∃ k : Nat, k ≤ 7 ∧ i = .int .i64 k) (fun i => 7 - (intOf i).toNat)
    case atStart => exact ⟨0, by omega, rfl⟩
    case round =>
      obtain ⟨k, hk, rfl⟩ := hrel
      by_cases h : k < 7
      · go_wp2_with (go_at_call 69; refine (HB.out _).mono ?_; rintro e w' ⟨rfl, rfl⟩)
        go_round
        case rel => exact ⟨k + 1, by omega, by go_num⟩
        case measure => simp [intOf]; omega
      · obtain rfl : k = 7 := by omega
        go_wp2_with (go_at_call 69; refine (HB.out _).mono ?_; rintro e w' ⟨rfl, rfl⟩)
        go_ret
        exact ⟨rfl, rfl⟩
  · go_loop [3] (fun i => ∃ k : Nat, k ≤ 5 ∧ i = .int .i64 k) (fun i => 5 - (intOf i).toNat)
    case atStart => exact ⟨0, by omega, rfl⟩
    case round =>
      obtain ⟨k, hk, rfl⟩ := hrel
      by_cases h : k < 5
      · go_wp2_with (go_at_call 69; refine (HB.out _).mono ?_; rintro e w' ⟨rfl, rfl⟩)
        go_round
        case rel => exact ⟨k + 1, by omega, by go_num⟩
        case measure => simp [intOf]; omega
      · obtain rfl : k = 5 := by omega
        go_wp2_with (go_at_call 69; refine (HB.out _).mono ?_; rintro e w' ⟨rfl, rfl⟩)
        go_ret
        exact ⟨rfl, rfl⟩
theorem refBlocks_any (c : Int) (w : World) : Calls Tryz.prog 25 #[.int .i64 c] w fun e w' => e = .returned (.int .i64 (blC c)) ∧ w = w' := by
  have HB := Lib.hid (refBytes_any c)
  rcases cls c with ⟨_, h2, h3, _⟩ | ⟨_, h2, h3, _⟩ | ⟨_, h2, h3, _⟩ | ⟨_, _, _, h2, h3, _⟩
  · exact refBlocks_in (by omega) w HB
  · exact refBlocks_in (by omega) w HB
  · exact refBlocks_in (by omega) w HB
  · rw [h2] at HB
    rw [h3]
    clear h2 h3
    go_enter Tryz.func25, Tryz.ntmps25
    go_wp2_with (go_at_call 69; refine (HB.out _).mono ?_; rintro e w' ⟨rfl, rfl⟩)
    go_ret
    exact ⟨rfl, rfl⟩
theorem refHeader_yes {s : Int} (h : 1 ≤ s ∧ s ≤ 64) (w : World) : Calls Tryz.prog 88 #[.int .i64 s] w fun e w' => e = .returned (.int .u64 (1024 * s)) ∧ w = w' := by
  obtain ⟨h1, h2⟩ := h
  go_enter Tryz.func88, Tryz.ntmps88
  go_wp2
  go_ret
  exact ⟨rfl, rfl⟩
theorem refHeader_no {s : Int} (h : ¬ (1 ≤ s ∧ s ≤ 64)) (w : World) : Calls Tryz.prog 88 #[.int .i64 s] w fun e w' => e = .returned (.int .u64 0) ∧ w = w' := by
  by_cases h1 : s < 1
  · clear h
    go_enter Tryz.func88, Tryz.ntmps88
    go_wp2
    go_ret
    exact ⟨rfl, rfl⟩
  · have h2 : 64 < s := by omega
    clear h
    go_enter Tryz.func88, Tryz.ntmps88
    go_wp2
    go_ret
    exact ⟨rfl, rfl⟩
theorem refHeader_any (s : Int) (w : World) : Calls Tryz.prog 88 #[.int .i64 s] w fun e w' => e = .returned (.int .u64 (hdA s)) ∧ w = w' := by
  by_cases h : 1 ≤ s ∧ s ≤ 64
  · rw [show hdA s = 1024 * s from if_pos h]; exact refHeader_yes h w
  · rw [show hdA s = 0 from if_neg h]; exact refHeader_no h w
end Go.Proofs.YthibbcokpmckfaaGreatDoor
