/- The document's answers on bits: asked for by halving, laid by adding; of any word and any place; without conditions. -/
import Derived.Test.YtabmafndcoebpaaBWord
namespace Go.Proofs.Ytabmafndcoebpaa
open Go.RowKit
set_option linter.unusedVariables false
theorem div_pow_succ (b k : Nat) : b / 2 ^ k / 2 = b / 2 ^ (k + 1) := by rw [Nat.div_div_eq_div_mul, Nat.pow_succ]
set_option maxHeartbeats 400000 in
theorem rHas_any {b : Nat} (hb : b < 18446744073709551616) (j : Int) (w : World) : Calls Try.prog 14 #[wv b, .int .i64 j] w fun e w' => e = .returned (.bool (hasB b j)) ∧ w = w' := by
  unfold wv
  by_cases h0 : 0 ≤ j
  · by_cases h1 : j ≤ 63
    · obtain ⟨i, rfl⟩ : ∃ i : Nat, j = (i : Int) := ⟨j.toNat, by omega⟩
      rw [hasB_in ⟨h0, h1⟩, Int.toNat_natCast, Nat.testBit_eq_decide_div_mod_eq]
      obtain ⟨r, hr⟩ : ∃ r, r = decide (b / 2 ^ i % 2 = 1) := ⟨_, rfl⟩
      rw [← hr]
      have HR := Lib.hid hr
      clear hr
      go_enter Try.func14, Try.ntmps14
      go_wp2
      go_loop [0, 5] (fun a v => ∃ k : Nat, v = .int .i64 (k : Int) ∧ k ≤ i ∧ a = .int .u64 ((b / 2 ^ k : Nat) : Int)) (fun _ v => i - (intOf v).toNat)
      case atStart => exact ⟨0, rfl, Nat.zero_le _, by simp⟩
      case round =>
        obtain ⟨k, rfl, hk, rfl⟩ := hrel
        have hds := div_pow_succ b k
        have hle := Nat.div_le_self b (2 ^ k)
        obtain ⟨c, hc⟩ : ∃ c, c = b / 2 ^ k := ⟨_, rfl⟩
        rw [← hc] at hds hle ⊢
        by_cases hlt : k < i
        · have HDS := Lib.hid hds
          clear hds hc
          go_wp2
          go_round
          case rel => exact ⟨k + 1, by go_num, by omega, by rw [← HDS.out]; go_num⟩
          case measure => simp [intOf]; omega
        · obtain rfl : k = i := by omega
          have hq : ((c : Int) % 2 == 1) = r := by rw [HR.out, ← hc, Bool.eq_iff_iff]; simp only [beq_iff_eq, decide_eq_true_eq]; omega
          clear hds hc
          go_wp2
          go_ret
          exact ⟨rfl, rfl⟩
    · rw [hasB_out (fun h => h1 h.2)]
      go_enter Try.func14, Try.ntmps14
      go_wp2
      go_ret
      exact ⟨rfl, rfl⟩
  · rw [hasB_out (fun h => h0 h.1)]
    go_enter Try.func14, Try.ntmps14
    go_wp2
    go_ret
    exact ⟨rfl, rfl⟩
theorem one_any {j : Int} (h : 0 ≤ j ∧ j ≤ 63) (w : World) : Calls Try.prog 37 #[.int .i64 j] w fun e w' => e = .returned (.int .u64 (mk j : Int)) ∧ w = w' := by
  obtain ⟨i, rfl⟩ : ∃ i : Nat, j = (i : Int) := ⟨j.toNat, by omega⟩
  rw [mk_in h, Int.toNat_natCast]
  obtain ⟨h0, h1⟩ := h
  obtain ⟨p, hp⟩ : ∃ p, p = 2 ^ i := ⟨_, rfl⟩
  rw [← hp]
  have HP := Lib.hid hp
  clear hp
  go_enter Try.func37, Try.ntmps37
  go_wp2
  go_loop [3, 4] (fun a v => ∃ k m : Nat, v = .int .i64 (k : Int) ∧ k ≤ i ∧ a = .int .u64 (m : Int) ∧ m = 2 ^ k) (fun _ v => i - (intOf v).toNat)
  case atStart => exact ⟨0, 1, rfl, Nat.zero_le _, rfl, rfl⟩
  case round =>
    obtain ⟨k, m, rfl, hk, rfl, hm⟩ := hrel
    have HM := Lib.hid hm
    by_cases hlt : k < i
    · have hmm : m ≤ 4611686018427387904 := by rw [hm]; exact Nat.le_trans (Nat.pow_le_pow_right (by decide) (by omega : k ≤ 62)) (by decide)
      have hmm2 : 2 * (m : Int) ≤ 9223372036854775808 := by omega
      clear hm
      go_wp2
      go_round
      case rel => exact ⟨k + 1, 2 * m, by go_num, by omega, by go_num, by rw [HM.out, Nat.pow_succ, Nat.mul_comm]⟩
      case measure => simp [intOf]; omega
    · obtain rfl : k = i := by omega
      clear hm
      go_wp2
      go_ret
      exact ⟨ret_u64 (show (m : Int) = (p : Int) by rw [HP.out, HM.out]), rfl⟩
section
variable {b : Nat} (hb : b < 18446744073709551616) (j : Int) (w : World)
include hb
set_option maxRecDepth 100000 in
theorem rSet_any : Calls Try.prog 11 #[wv b, .int .i64 j] w fun e w' => e = .returned (wv (setB b j)) ∧ w = w' := by
  have HH := Lib.hid (rHas_any hb j w)
  have hlt := setB_lt hb j
  by_cases hh : hasB b j = true
  · have e : setB b j = b := by unfold setB; rw [if_pos hh]
    have h : 0 ≤ j ∧ j ≤ 63 := Classical.byContradiction fun h => by rw [hasB_out h] at hh; cases hh
    obtain ⟨h0, h1⟩ := h
    rw [e]
    rw [hh] at HH
    clear hh hlt e
    unfold wv at HH ⊢
    go_enter Try.func11, Try.ntmps11
    go_wp2_with fail
    refine HH.out.mono ?_
    rintro e w1 ⟨rfl, rfl⟩
    go_wp2
    go_ret
    exact ⟨rfl, rfl⟩
  · have e : setB b j = b + mk j := by unfold setB; rw [if_neg hh]
    rw [e] at hlt ⊢
    have hf : hasB b j = false := by simpa using hh
    rw [hf] at HH
    by_cases h0 : 0 ≤ j
    · by_cases h1 : j ≤ 63
      · have HO := Lib.hid (one_any ⟨h0, h1⟩ w)
        generalize mk j = m at *
        clear hh hf e
        unfold wv at HH ⊢
        have hc : ((b + m : Nat) : Int) = (b : Int) + (m : Int) := by omega
        obtain ⟨M, hM⟩ : ∃ M : Int, M = 18446744073709551615 := ⟨_, rfl⟩
        have hlt' : (b : Int) + (m : Int) ≤ 18446744073709551615 := by omega
        rw [hc]
        clear hc hlt hM hb
        go_enter Try.func11, Try.ntmps11
        go_wp2_with fail
        refine HH.out.mono ?_
        rintro e w1 ⟨rfl, rfl⟩
        go_wp2_with fail
        refine HO.out.mono ?_
        rintro e w1 ⟨rfl, rfl⟩
        go_wp2
        go_ret
        exact ⟨rfl, rfl⟩
      · rw [mk_out (fun h => h1 h.2), Nat.add_zero]
        clear hh hf e hlt HH
        unfold wv
        go_enter Try.func11, Try.ntmps11
        go_wp2
        go_ret
        exact ⟨rfl, rfl⟩
    · rw [mk_out (fun h => h0 h.1), Nat.add_zero]
      clear hh hf e hlt HH
      unfold wv
      go_enter Try.func11, Try.ntmps11
      go_wp2
      go_ret
      exact ⟨rfl, rfl⟩
set_option maxRecDepth 100000 in
theorem rClear_any : Calls Try.prog 12 #[wv b, .int .i64 j] w fun e w' => e = .returned (wv (clrB b j)) ∧ w = w' := by
  have HH := Lib.hid (rHas_any hb j w)
  by_cases hh : hasB b j = true
  · have e : clrB b j = b - mk j := by unfold clrB; rw [if_pos hh]
    have h : 0 ≤ j ∧ j ≤ 63 := Classical.byContradiction fun h => by rw [hasB_out h] at hh; cases hh
    have hge : mk j ≤ b := by
      rw [mk_in h]
      rw [hasB_in h] at hh
      exact Nat.ge_two_pow_of_testBit hh
    have HO := Lib.hid (one_any h w)
    rw [e]
    rw [hh] at HH
    clear hh e h
    generalize mk j = m at *
    unfold wv at HH ⊢
    have hc : ((b - m : Nat) : Int) = (b : Int) - (m : Int) := by omega
    rw [hc]
    clear hc
    go_enter Try.func12, Try.ntmps12
    go_wp2_with fail
    refine HH.out.mono ?_
    rintro e w1 ⟨rfl, rfl⟩
    go_wp2_with fail
    refine HO.out.mono ?_
    rintro e w1 ⟨rfl, rfl⟩
    go_wp2
    go_ret
    exact ⟨rfl, rfl⟩
  · have e : clrB b j = b := by unfold clrB; rw [if_neg hh]
    have hf : hasB b j = false := by simpa using hh
    rw [e]
    rw [hf] at HH
    clear hh hf e
    unfold wv at HH ⊢
    go_enter Try.func12, Try.ntmps12
    go_wp2_with fail
    refine HH.out.mono ?_
    rintro e w1 ⟨rfl, rfl⟩
    go_wp2
    go_ret
    exact ⟨rfl, rfl⟩
end
end Go.Proofs.Ytabmafndcoebpaa
