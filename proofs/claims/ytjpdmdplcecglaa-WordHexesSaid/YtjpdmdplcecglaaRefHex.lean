/- The document's own digits, by dividing, are the word's: for every word below 2^64, and every text; no memory is turned. -/
import Derived.Test.YtjpdmdplcecglaaDigits
namespace Go.Proofs.Ytjpdmdplcecglaa
open Go.RowKit
set_option linter.unusedVariables false
def sup (n k : Nat) : Nat := n / 16 ^ k
theorem sup_zero (n : Nat) : sup n 0 = n := by simp [sup]
theorem sup_succ (n k : Nat) : sup n (k + 1) = sup n k / 16 := by unfold sup; rw [Nat.pow_succ, Nat.div_div_eq_div_mul]
theorem sup_le (n k : Nat) : sup n k ≤ n := Nat.div_le_self _ _
def lowS (n k : Nat) : ByteArray := ⟨(hexL n k).toArray⟩
theorem tbl_cut : ∀ d : Fin 16, (tbl.extract d.val (d.val + 1)).data.toList = [dig d.val] := by decide
theorem lowS_succ (n k : Nat) : tbl.extract (sup n k % 16) (sup n k % 16 + 1) ++ lowS n k = lowS n (k + 1) := by
  have h := tbl_cut ⟨nib n k, nib_lt n k⟩
  have e : sup n k % 16 = nib n k := rfl
  rw [e]
  apply ByteArray.ext
  rw [ByteArray.data_append]
  apply Array.toList_inj.1
  rw [Array.toList_append]
  show _ ++ (hexL n k) = dig (nib n k) :: hexL n k
  rw [h]
  rfl
theorem lowS_all (n : Nat) : lowS n 16 = hexS n := by
  apply ByteArray.ext
  apply Array.toList_inj.1
  show hexL n 16 = _
  rw [← hexS_toList, ByteArray.toList_eq]
theorem lowS_next (n k : Nat) (S : ByteArray) (h : S = lowS n k) : Value.string (({ data := #[48, 49, 50, 51, 52, 53, 54, 55, 56, 57, 97, 98, 99, 100, 101, 102] } : ByteArray).extract (sup n k % 16) (sup n k % 16 + 1) ++ S) = Value.string (lowS n (k + 1)) := by
  rw [h, ← lowS_succ]
  rfl
set_option maxHeartbeats 400000 in
theorem refHex_any (n : Nat) (w : World) (hn : n < 18446744073709551616) :
    Calls Try.prog 15 #[.int .u64 n] w fun e w' => e = .returned (.string (hexS n)) ∧ w = w' := by
  go_enter Try.func15, Try.ntmps15
  go_wp2
  go_loop [0, 3, 5] (fun q s i => ∃ k : Nat, k ≤ 16 ∧ q = .int .u64 (sup n k) ∧ s = .string (lowS n k) ∧ i = .int .i64 k) (fun _ _ i => 16 - (intOf i).toNat)
  case atStart => exact ⟨0, by omega, by rw [sup_zero], rfl, rfl⟩
  case round =>
    obtain ⟨k, hk, rfl, rfl, rfl⟩ := hrel
    have hun := sup_le n k
    have hln : (lowS n k).size ≤ 16 := by show (hexL n k).toArray.size ≤ 16; simp [hexL_length]; omega
    obtain ⟨S, hS⟩ : ∃ S, S = lowS n k := ⟨_, rfl⟩
    rw [← hS] at hln ⊢
    have HS := Lib.hid hS
    clear hS
    by_cases hlt : k < 16
    · go_wp2
      go_round
      case rel => exact ⟨k + 1, by omega, by rw [sup_succ]; go_num, lowS_next n k S HS.out, by go_num⟩
      case measure => simp [intOf]; omega
    · have hkm : k = 16 := by omega
      subst hkm
      go_wp2
      go_ret
      exact ⟨by rw [← lowS_all, ← HS.out]; rfl, rfl⟩

set_option maxHeartbeats 400000 in
theorem refOfHex_len (s : ByteArray) (w : World) (hs : s.size ≠ 16) :
    Calls Try.prog 24 #[.string s] w fun e w' => e = .returned (.tuple #[.int .u64 0, .int .i64 11]) ∧ w = w' := by
  have hd : ((s.size : Int) != 16) = true := by rw [bne_iff_ne]; omega
  go_enter Try.func24, Try.ntmps24
  go_wp2
  go_ret2
  exact ⟨rfl, rfl⟩
set_option maxHeartbeats 800000 in
theorem refOfHex_ok (s : ByteArray) (w : World) (hs : s.size = 16) (hg : Good s.data.toList 16) :
    Calls Try.prog 24 #[.string s] w fun e w' => e = .returned (.tuple #[.int .u64 (accTo s.data.toList 16 : Nat), .int .i64 0]) ∧ w = w' := by
  have hd : ((s.size : Int) != 16) = false := by rw [bne_eq_false_iff_eq]; omega
  have hs1 : s.size ≤ 16 := by omega
  have hs2 : 16 ≤ s.size := by omega
  clear hs
  go_enter Try.func24, Try.ntmps24
  go_wp2
  go_loop [4, 5] (fun q i => ∃ k : Nat, k ≤ 16 ∧ q = .int .u64 (accTo s.data.toList k) ∧ i = .int .i64 k) (fun _ i => 16 - (intOf i).toNat)
  case atStart => exact ⟨0, by omega, rfl, rfl⟩
  case round =>
    obtain ⟨k, hk, rfl, rfl⟩ := hrel
    by_cases hlt : k < 16
    · have hks : k < s.size := by omega
      have e0 := getD_at s k hks
      have hv := hg k hlt
      rw [e0] at hv
      have hlo := accTo_lt s.data.toList k
      have hp : 16 ^ k ≤ 16 ^ 15 := Nat.pow_le_pow_right (by decide) (by omega)
      have h15 : (16 : Nat) ^ 15 = 1152921504606846976 := by decide
      have hacc : accTo s.data.toList (k + 1) = 16 * accTo s.data.toList k + (val s[k]).toNat := by simp only [accTo, e0]
      have hacc2 : accTo s.data.toList k < 1152921504606846976 := by omega
      clear h15 hp hlo
      rcases val_any s[k] with ⟨h1, _⟩ | ⟨_, _, _, ⟨h1, h2, h3⟩ | ⟨h1, h2, h3⟩⟩
      · omega
      · have hq : (accTo s.data.toList (k + 1) : Int) = 16 * accTo s.data.toList k + (((s[k].toNat : Nat) : Int) - 48) := by omega
        have HQ := Lib.hid hq
        clear hq hacc h3 e0
        go_wp2
        go_round
        case rel => exact ⟨k + 1, by omega, by rw [HQ.out], by go_num⟩
        case measure => simp [intOf]; omega
      · have hq : (accTo s.data.toList (k + 1) : Int) = 16 * accTo s.data.toList k + (((s[k].toNat : Nat) : Int) - 97 + 10) := by omega
        have HQ := Lib.hid hq
        clear hq hacc h3 e0
        go_wp2
        go_round
        case rel => exact ⟨k + 1, by omega, by rw [HQ.out], by go_num⟩
        case measure => simp [intOf]; omega
    · have hkm : k = 16 := by omega
      subst hkm
      go_wp2
      go_ret2
      exact ⟨rfl, rfl⟩
set_option maxHeartbeats 800000 in
theorem refOfHex_bad (s : ByteArray) (m : Nat) (w : World) (hs : s.size = 16) (hm : m < 16) (hg : Good s.data.toList m) (hbad : val (s.data.toList.getD m 0) < 0) :
    Calls Try.prog 24 #[.string s] w fun e w' => e = .returned (.tuple #[.int .u64 0, .int .i64 11]) ∧ w = w' := by
  have hd : ((s.size : Int) != 16) = false := by rw [bne_eq_false_iff_eq]; omega
  have hs1 : s.size ≤ 16 := by omega
  have hs2 : 16 ≤ s.size := by omega
  clear hs
  go_enter Try.func24, Try.ntmps24
  go_wp2
  go_loop [4, 5] (fun q i => ∃ k : Nat, k ≤ m ∧ q = .int .u64 (accTo s.data.toList k) ∧ i = .int .i64 k) (fun _ i => 16 - (intOf i).toNat)
  case atStart => exact ⟨0, by omega, rfl, rfl⟩
  case round =>
    obtain ⟨k, hk, rfl, rfl⟩ := hrel
    by_cases hlt : k < m
    · have hks : k < s.size := by omega
      have e0 := getD_at s k hks
      have hv := hg k hlt
      rw [e0] at hv
      have hlo := accTo_lt s.data.toList k
      have hp : 16 ^ k ≤ 16 ^ 15 := Nat.pow_le_pow_right (by decide) (by omega)
      have h15 : (16 : Nat) ^ 15 = 1152921504606846976 := by decide
      have hacc : accTo s.data.toList (k + 1) = 16 * accTo s.data.toList k + (val s[k]).toNat := by simp only [accTo, e0]
      have hacc2 : accTo s.data.toList k < 1152921504606846976 := by omega
      clear h15 hp hlo
      rcases val_any s[k] with ⟨h1, _⟩ | ⟨_, _, _, ⟨h1, h2, h3⟩ | ⟨h1, h2, h3⟩⟩
      · omega
      · have hq : (accTo s.data.toList (k + 1) : Int) = 16 * accTo s.data.toList k + (((s[k].toNat : Nat) : Int) - 48) := by omega
        have HQ := Lib.hid hq
        clear hq hacc h3 e0
        go_wp2
        go_round
        case rel => exact ⟨k + 1, by omega, by rw [HQ.out], by go_num⟩
        case measure => simp [intOf]; omega
      · have hq : (accTo s.data.toList (k + 1) : Int) = 16 * accTo s.data.toList k + (((s[k].toNat : Nat) : Int) - 97 + 10) := by omega
        have HQ := Lib.hid hq
        clear hq hacc h3 e0
        go_wp2
        go_round
        case rel => exact ⟨k + 1, by omega, by rw [HQ.out], by go_num⟩
        case measure => simp [intOf]; omega
    · have hkm : k = m := by omega
      subst hkm
      have hks : k < s.size := by omega
      have e0 := getD_at s k hks
      rw [e0] at hbad
      clear e0
      rcases val_any s[k] with ⟨_, h1, h2⟩ | ⟨h, _⟩
      · by_cases g1 : s[k].toNat < 48
        · go_wp2
          go_ret2
          exact ⟨rfl, rfl⟩
        · by_cases g2 : s[k].toNat < 97
          · have g3 : 57 < s[k].toNat := by omega
            go_wp2
            go_ret2
            exact ⟨rfl, rfl⟩
          · have g3 : 102 < s[k].toNat := by omega
            go_wp2
            go_ret2
            exact ⟨rfl, rfl⟩
      · omega
end Go.Proofs.Ytjpdmdplcecglaa
