/- Contracts of the reference's Slabs, Block, Slab, Index: they answer the same numbers; for any inputs. -/
import Derived.Test.YthibbcokpmckfaaGreatDoorGeoR
namespace Go.Proofs.YthibbcokpmckfaaGreatDoor
open Go.RowKit Go.Sort
set_option linter.unusedVariables false

theorem slabsN_at {k : Int} (h : 1 ≤ k ∧ k ≤ 64) : slabsN (1024 + 1024 * k) = k := by
  unfold slabsN
  rw [if_pos (by omega)]
  omega
theorem refSlabs_any (n : Int) (w : World) : Calls Tryz.prog 46 #[.int .i64 n] w fun e w' => e = .returned (.int .i64 (slabsN n)) ∧ w = w' := by
  go_enter Tryz.func46, Tryz.ntmps46
  go_wp2
  go_loop [3] (fun i => ∃ k : Nat, 1 ≤ k ∧ k ≤ 65 ∧ i = .int .i64 k ∧ Hid (∀ j : Int, 1 ≤ j → j < k → 1024 + 1024 * j ≠ n)) (fun i => 65 - (intOf i).toNat)
  case atStart => exact ⟨1, by omega, by omega, rfl, fun j h1 h2 => by omega⟩
  case round =>
    obtain ⟨k, hk1, hk, rfl, HS⟩ := hrel
    by_cases h : k < 65
    · by_cases he : 1024 + 1024 * (k : Int) = n
      · have HE := Lib.hid (show slabsN n = k from by rw [← he]; exact slabsN_at (by omega))
        have ht : ((1024 + 1024 * (k : Int)) == n) = true := by simpa using he
        clear he
        go_wp2
        go_ret
        exact ⟨gret_int HE.out.symm, rfl⟩
      · have HN := Lib.hid he
        have ht : ((1024 + 1024 * (k : Int)) == n) = false := by simpa using he
        clear he
        go_wp2
        go_round
        case rel => exact ⟨k + 1, by omega, by omega, by go_num, fun j h1 h2 => by
          by_cases e : j = k
          · rw [e]; exact HN.out
          · exact HS.out j h1 (by omega)⟩
        case measure => simp [intOf]; omega
    · obtain rfl : k = 65 := by omega
      have HE := Lib.hid (show slabsN n = 0 from by
        unfold slabsN
        rw [if_neg]
        intro hh
        exact HS.out (n / 1024 - 1) (by omega) (by omega) (by omega))
      go_wp2
      go_ret
      exact ⟨gret_int HE.out.symm, rfl⟩
set_option maxHeartbeats 400000 in
theorem refBlock_out {s : Int} (h : ¬ (1 ≤ s ∧ s ≤ 64)) (c j : Int) (w : World) : Calls Tryz.prog 49 #[.int .i64 s, .int .i64 c, .int .i64 j] w fun e w' => e = .returned (.int .u64 0) ∧ w = w' := by
  have HH := Lib.hid (refHeader_no h)
  clear h
  go_enter Tryz.func49, Tryz.ntmps49
  go_wp2_with fail
  refine (HH.out _).mono ?_
  rintro e w' ⟨rfl, rfl⟩
  go_wp2
  go_ret
  exact ⟨rfl, rfl⟩
theorem refBlock_none {s c j : Int} (h : 1 ≤ s ∧ s ≤ 64) (hj : ¬ (0 ≤ j ∧ j < blC c)) (w : World) : Calls Tryz.prog 49 #[.int .i64 s, .int .i64 c, .int .i64 j] w fun e w' => e = .returned (.int .u64 0) ∧ w = w' := by
  have HH := Lib.hid (refHeader_yes h)
  have HB := Lib.hid (refBlocks_any c)
  have hb := blC_range c
  have t1 : ((1024 * s) == 0) = false := by simp; omega
  obtain ⟨h1, h2⟩ := h
  generalize blC c = n at *
  by_cases j0 : j < 0
  · clear hj
    go_enter Tryz.func49, Tryz.ntmps49
    go_wp2_with fail
    refine (HH.out _).mono ?_
    rintro e w' ⟨rfl, rfl⟩
    go_wp2
    go_ret
    exact ⟨rfl, rfl⟩
  · have j1 : n ≤ j := by omega
    have j2 : 0 ≤ j := by omega
    clear hj j0
    go_enter Tryz.func49, Tryz.ntmps49
    go_wp2_with fail
    refine (HH.out _).mono ?_
    rintro e w' ⟨rfl, rfl⟩
    go_wp2_with fail
    refine (HB.out _).mono ?_
    rintro e w' ⟨rfl, rfl⟩
    go_wp2
    go_ret
    exact ⟨rfl, rfl⟩
set_option maxHeartbeats 400000 in
theorem refBlock_in {s c j x y : Int} (h : 1 ≤ s ∧ s ≤ 64) (hj : 0 ≤ j ∧ j < y) (hy : y ≤ 15) (hx : x = 64 ∨ x = 128 ∨ x = 192) (w : World)
    (HB : Hid (∀ w, Calls Tryz.prog 25 #[.int .i64 c] w fun e w' => e = .returned (.int .i64 y) ∧ w = w'))
    (HX : Hid (∀ w, Calls Tryz.prog 69 #[.int .i64 c] w fun e w' => e = .returned (.int .i64 x) ∧ w = w')) :
    Calls Tryz.prog 49 #[.int .i64 s, .int .i64 c, .int .i64 j] w fun e w' => e = .returned (.int .u64 (1024 * s + 64 + j * x)) ∧ w = w' := by
  have HH := Lib.hid (refHeader_yes h)
  have t1 : ((1024 * s) == 0) = false := by simp; omega
  obtain ⟨h1, h2⟩ := h
  obtain ⟨j1, j2⟩ := hj
  have j3 : j ≤ 14 := by omega
  rcases hx with rfl | rfl | rfl
  all_goals
    go_enter Tryz.func49, Tryz.ntmps49
    go_wp2_with fail
    refine (HH.out _).mono ?_
    rintro e w' ⟨rfl, rfl⟩
    go_wp2_with fail
    refine (HB.out _).mono ?_
    rintro e w' ⟨rfl, rfl⟩
    go_wp2_with fail
    refine (HH.out _).mono ?_
    rintro e w' ⟨rfl, rfl⟩
    go_wp2_with fail
    refine (HX.out _).mono ?_
    rintro e w' ⟨rfl, rfl⟩
    go_wp2
    go_ret
    exact ⟨gret_int (by omega), rfl⟩
theorem refBlock_any (s c j : Int) (w : World) : Calls Tryz.prog 49 #[.int .i64 s, .int .i64 c, .int .i64 j] w fun e w' => e = .returned (.int .u64 (blkA s c j)) ∧ w = w' := by
  by_cases h : 1 ≤ s ∧ s ≤ 64
  · by_cases hj : 0 ≤ j ∧ j < blC c
    · rw [blkA_yes ⟨h.1, h.2, hj.1, hj.2⟩]
      have HB := Lib.hid (refBlocks_any c)
      have HX := Lib.hid (refBytes_any c)
      rcases cls c with ⟨_, h2, h3, _⟩ | ⟨_, h2, h3, _⟩ | ⟨_, h2, h3, _⟩ | ⟨_, _, _, _, h3, _⟩
      · exact refBlock_in h hj (by omega) (by omega) w HB HX
      · exact refBlock_in h hj (by omega) (by omega) w HB HX
      · exact refBlock_in h hj (by omega) (by omega) w HB HX
      · omega
    · rw [blkA_no (by omega)]
      exact refBlock_none h hj w
  · rw [blkA_no (by omega)]
    exact refBlock_out h c j w
end Go.Proofs.YthibbcokpmckfaaGreatDoor
