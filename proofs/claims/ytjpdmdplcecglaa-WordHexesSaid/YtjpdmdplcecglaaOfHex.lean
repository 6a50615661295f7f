/- OfHex: the error, or the word of just such 16 digits: for every text; no memory is turned. -/
import Derived.Test.YtjpdmdplcecglaaDigits
namespace Go.Proofs.Ytjpdmdplcecglaa
open Go.RowKit
set_option linter.unusedVariables false

set_option maxHeartbeats 400000 in
theorem ofHex_len (s : ByteArray) (w : World) (hs : s.size ≠ 16) :
    Calls Try.prog 13 #[.string s] w fun e w' => e = .returned (.tuple #[.int .u64 0, .int .i64 11]) ∧ w = w' := by
  have hd : ((s.size : Int) != 16) = true := by rw [bne_iff_ne]; omega
  go_enter Try.func13, Try.ntmps13
  go_wp2
  go_ret2
  exact ⟨rfl, rfl⟩
set_option maxHeartbeats 400000 in
theorem ofHex_bad (s : ByteArray) (m : Nat) (w : World) (hs : s.size = 16) (hm : m < 16) (hg : Good s.data.toList m) (hbad : val (s.data.toList.getD m 0) < 0) :
    Calls Try.prog 13 #[.string s] w fun e w' => e = .returned (.tuple #[.int .u64 0, .int .i64 11]) ∧ w = w' := by
  have hd : ((s.size : Int) != 16) = false := by rw [bne_eq_false_iff_eq]; omega
  have hs1 : s.size ≤ 16 := by omega
  have hs2 : 16 ≤ s.size := by omega
  have HS := Lib.hid hs
  clear hs
  go_enter Try.func13, Try.ntmps13
  go_wp2
  go_loop [4, 12] (fun q i => ∃ k : Nat, k ≤ m ∧ q = .int .u64 (accTo s.data.toList k) ∧ i = .int .i64 k) (fun _ i => 16 - (intOf i).toNat)
  case atStart => exact ⟨0, by omega, rfl, rfl⟩
  case round =>
    obtain ⟨k, hk, rfl, rfl⟩ := hrel
    have hks : k < s.size := by omega
    have e0 := getD_at s k hks
    have hin := index_tbl s[k]
    have HI := Lib.hid hin
    clear hin
    by_cases hlt : k < m
    · have hv := hg k hlt
      rw [e0] at hv
      have hv' : ¬ val s[k] < 0 := by omega
      have hor := or4 (accTo s.data.toList k) (val s[k]).toNat (Nat.lt_of_lt_of_le (accTo_lt _ k) (Nat.pow_le_pow_right (by decide) (by omega))) (val_hi s[k])
      rw [Int.toNat_of_nonneg hv] at hor
      have hacc : accTo s.data.toList (k + 1) = 16 * accTo s.data.toList k + (val s[k]).toNat := by simp only [accTo, e0]
      rw [← hacc] at hor
      have hv16 : val s[k] < 16 := by have := val_hi s[k]; omega
      clear hacc e0
      go_wp2_with fail
      refine (HI.out _).mono ?_
      rintro e w' ⟨rfl, rfl⟩
      go_wp2
      go_round
      case rel => exact ⟨k + 1, by omega, rfl, by go_num⟩
      case measure => simp [intOf]; omega
    · have hkm : k = m := by omega
      subst hkm
      rw [e0] at hbad
      clear e0
      go_wp2_with fail
      refine (HI.out _).mono ?_
      rintro e w' ⟨rfl, rfl⟩
      go_wp2
      go_ret2
      exact ⟨rfl, rfl⟩
set_option maxHeartbeats 400000 in
theorem ofHex_ok (s : ByteArray) (w : World) (hs : s.size = 16) (hg : Good s.data.toList 16) :
    Calls Try.prog 13 #[.string s] w fun e w' => e = .returned (.tuple #[.int .u64 (accTo s.data.toList 16 : Nat), .int .i64 0]) ∧ w = w' := by
  have hd : ((s.size : Int) != 16) = false := by rw [bne_eq_false_iff_eq]; omega
  have hs1 : s.size ≤ 16 := by omega
  have hs2 : 16 ≤ s.size := by omega
  have HS := Lib.hid hs
  clear hs
  go_enter Try.func13, Try.ntmps13
  go_wp2
  go_loop [4, 12] (fun q i => ∃ k : Nat, k ≤ 16 ∧ q = .int .u64 (accTo s.data.toList k) ∧ i = .int .i64 k) (fun _ i => 16 - (intOf i).toNat)
  case atStart => exact ⟨0, by omega, rfl, rfl⟩
  case round =>
    obtain ⟨k, hk, rfl, rfl⟩ := hrel
    by_cases hlt : k < 16
    · have hks : k < s.size := by omega
      have e0 := getD_at s k hks
      have hin := index_tbl s[k]
      have HI := Lib.hid hin
      clear hin
      have hv := hg k hlt
      rw [e0] at hv
      have hv' : ¬ val s[k] < 0 := by omega
      have hor := or4 (accTo s.data.toList k) (val s[k]).toNat (Nat.lt_of_lt_of_le (accTo_lt _ k) (Nat.pow_le_pow_right (by decide) (by omega))) (val_hi s[k])
      rw [Int.toNat_of_nonneg hv] at hor
      have hacc : accTo s.data.toList (k + 1) = 16 * accTo s.data.toList k + (val s[k]).toNat := by simp only [accTo, e0]
      rw [← hacc] at hor
      have hv16 : val s[k] < 16 := by have := val_hi s[k]; omega
      clear hacc e0
      go_wp2_with fail
      refine (HI.out _).mono ?_
      rintro e w' ⟨rfl, rfl⟩
      go_wp2
      go_round
      case rel => exact ⟨k + 1, by omega, rfl, by go_num⟩
      case measure => simp [intOf]; omega
    · have hkm : k = 16 := by omega
      subst hkm
      go_wp2
      go_ret2
      exact ⟨rfl, rfl⟩
end Go.Proofs.Ytjpdmdplcecglaa
