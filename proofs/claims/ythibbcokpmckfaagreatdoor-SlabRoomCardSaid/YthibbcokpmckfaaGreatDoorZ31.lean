/- Texts of this claim, packed: BWord, BRef. -/
import Derived.Test.YthibbcokpmckfaaGreatDoorZ07
import Derived.Test.YthibbcokpmckfaaGreatDoorZ01
import Derived.Outline
/- A bit set, cleared, asked for: the program's functions and the document's, of any word and any place; without conditions. -/
namespace Go.Proofs.YthibbcokpmckfaaGreatDoor
open Go.RowKit
set_option linter.unusedVariables false
theorem ret_u64 {a b : Int} (h : a = b) : Ending.returned (.int .u64 a) = .returned (.int .u64 b) := by rw [h]
theorem shift_mk {j : Int} (h0 : 0 ≤ j) : Op.shift .shl .u64 1 .i64 j = pure (.int .u64 (mk j : Int)) := by
  unfold Op.shift
  rw [if_neg (by omega)]
  simp only [Int.one_mul, IntKind.wrap_u64]
  by_cases h : j ≤ 63
  · have hm : min j.toNat IntKind.u64.bits = j.toNat := Nat.min_eq_left (by show j.toNat ≤ 64; omega)
    have hp : (2 : Nat) ^ j.toNat < 2 ^ 64 := Nat.pow_lt_pow_right (by decide) (by omega)
    rw [hm, mk_in ⟨h0, h⟩]
    have e : (2 : Int) ^ j.toNat = ((2 ^ j.toNat : Nat) : Int) := by simp
    rw [e]
    generalize (2 : Nat) ^ j.toNat = p at hp
    congr 2
    omega
  · have hm : min j.toNat IntKind.u64.bits = 64 := Nat.min_eq_right (by show 64 ≤ j.toNat; omega)
    rw [hm, mk_out (fun hh => h hh.2)]
    rfl
theorem mask_any {j : Int} (hj0 : -9223372036854775808 ≤ j) (hj1 : j ≤ 9223372036854775807) (w : World) : Calls Tryz.prog 109 #[.int .i64 j] w fun e w' => e = .returned (.int .u64 (mk j : Int)) ∧ w = w' := by
  by_cases h : 0 ≤ j
  · have hs := shift_mk h
    obtain ⟨m, hm⟩ : ∃ m, m = mk j := ⟨_, rfl⟩
    rw [← hm] at hs ⊢
    clear hm
    go_enter Tryz.func109, Tryz.ntmps109
    go_wp2
    go_ret
    exact ⟨rfl, rfl⟩
  · rw [mk_out (fun hh => h hh.1)]
    go_enter Tryz.func109, Tryz.ntmps109
    go_wp2
    go_ret
    exact ⟨rfl, rfl⟩
section
variable {b : Nat} (hb : b < 18446744073709551616) {j : Int} (hj0 : -9223372036854775808 ≤ j) (hj1 : j ≤ 9223372036854775807) (w : World)
include hb hj0 hj1
theorem bHas_any : Calls Tryz.prog 87 #[wv b, .int .i64 j] w fun e w' => e = .returned (.bool (hasB b j)) ∧ w = w' := by
  have HM := Lib.hid (mask_any hj0 hj1 w)
  have hm := mk_lt j
  have hq := and_mk b j
  rw [← hq]
  have hz : (((b &&& mk j : Nat) : Int) != 0) = (b &&& mk j != 0) := by rw [Bool.eq_iff_iff]; simp
  rw [← hz, ← u64_and_nat b (mk j) hb hm]
  generalize mk j = m at *
  clear hq hz
  unfold wv
  go_enter Tryz.func87, Tryz.ntmps87
  go_wp2_with fail
  refine HM.out.mono ?_
  rintro e w1 ⟨rfl, rfl⟩
  go_wp2
  go_ret
  exact ⟨rfl, rfl⟩
theorem bSet_any : Calls Tryz.prog 139 #[wv b, .int .i64 j] w fun e w' => e = .returned (wv (setB b j)) ∧ w = w' := by
  have HM := Lib.hid (mask_any hj0 hj1 w)
  have hm := mk_lt j
  rw [← or_mk hb j]
  unfold wv
  rw [← u64_or_nat b (mk j) hb hm]
  generalize mk j = m at *
  go_enter Tryz.func139, Tryz.ntmps139
  go_wp2_with fail
  refine HM.out.mono ?_
  rintro e w1 ⟨rfl, rfl⟩
  go_wp2
  go_ret
  exact ⟨rfl, rfl⟩
theorem bClear_any : Calls Tryz.prog 140 #[wv b, .int .i64 j] w fun e w' => e = .returned (wv (clrB b j)) ∧ w = w' := by
  have HM := Lib.hid (mask_any hj0 hj1 w)
  have hm := mk_lt j
  rw [← andn_mk hb j]
  unfold wv
  rw [← u64_andNot_nat b (mk j) hb hm]
  generalize mk j = m at *
  go_enter Tryz.func140, Tryz.ntmps140
  go_wp2_with fail
  refine HM.out.mono ?_
  rintro e w1 ⟨rfl, rfl⟩
  go_wp2
  go_ret
  exact ⟨rfl, rfl⟩
end
end Go.Proofs.YthibbcokpmckfaaGreatDoor
/- The document's answers on bits: asked for by halving, laid by adding; of any word and any place; without conditions. -/
namespace Go.Proofs.YthibbcokpmckfaaGreatDoor
open Go.RowKit
set_option linter.unusedVariables false
theorem div_pow_succ (b k : Nat) : b / 2 ^ k / 2 = b / 2 ^ (k + 1) := by rw [Nat.div_div_eq_div_mul, Nat.pow_succ]
set_option maxHeartbeats 400000 in
theorem rHas_any {b : Nat} (hb : b < 18446744073709551616) (j : Int) (w : World) : Calls Tryz.prog 73 #[wv b, .int .i64 j] w fun e w' => e = .returned (.bool (hasB b j)) ∧ w = w' := by
  unfold wv
  by_cases h0 : 0 ≤ j
  · by_cases h1 : j ≤ 63
    · obtain ⟨i, rfl⟩ : ∃ i : Nat, j = (i : Int) := ⟨j.toNat, by omega⟩
      rw [hasB_in ⟨h0, h1⟩, Int.toNat_natCast, Nat.testBit_eq_decide_div_mod_eq]
      obtain ⟨r, hr⟩ : ∃ r, r = decide (b / 2 ^ i % 2 = 1) := ⟨_, rfl⟩
      rw [← hr]
      have HR := Lib.hid hr
      clear hr
      go_enter Tryz.func73, Tryz.ntmps73
      go_wp2
      go_loop [0, 5] (fun a v => ∃ k : Nat, v = .int .i64 (k : Int) ∧ k ≤ i ∧ a = .int .u64 ((b / 2 ^ k : Nat) : Int)) (fun _ v => i - (intOf v).toNat)
      case atStart => exact ⟨0, rfl, Nat.zero_le _, by simp⟩
      case round =>
        obtain ⟨k, rfl, hk, rfl⟩ := hrel
        have hds := div_pow_succ b k
        have hle := Nat.div_le_self b (2 ^ k)
        obtain ⟨c, hc⟩ : ∃ c, c = b / 2 ^ k := ⟨_, rfl⟩
        rw [← hc] at hds hle ⊢
        by_cases hlt : k < i
        · have HDS := Lib.hid hds
          clear hds hc
          go_wp2
          go_round
          case rel => exact ⟨k + 1, by go_num, by omega, by rw [← HDS.out]; go_num⟩
          case measure => simp [intOf]; omega
        · obtain rfl : k = i := by omega
          have hq : ((c : Int) % 2 == 1) = r := by rw [HR.out, ← hc, Bool.eq_iff_iff]; simp only [beq_iff_eq, decide_eq_true_eq]; omega
          clear hds hc
          go_wp2
          go_ret
          exact ⟨rfl, rfl⟩
    · rw [hasB_out (fun h => h1 h.2)]
      go_enter Tryz.func73, Tryz.ntmps73
      go_wp2
      go_ret
      exact ⟨rfl, rfl⟩
  · rw [hasB_out (fun h => h0 h.1)]
    go_enter Tryz.func73, Tryz.ntmps73
    go_wp2
    go_ret
    exact ⟨rfl, rfl⟩
section
variable {b : Nat} (hb : b < 18446744073709551616) (j : Int) (w : World)
include hb
end
end Go.Proofs.YthibbcokpmckfaaGreatDoor
