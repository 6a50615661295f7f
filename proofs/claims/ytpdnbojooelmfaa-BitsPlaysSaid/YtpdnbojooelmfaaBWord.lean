/- A bit set, cleared, asked for: the program's functions and the document's, of any word and any place; without conditions. -/
import Derived.Test.YtpdnbojooelmfaaMem
import Derived.Test.YtpdnbojooelmfaaBMath
import Derived.Outline
namespace Go.Proofs.Ytpdnbojooelmfaa
open Go.RowKit
set_option linter.unusedVariables false
theorem ret_u64 {a b : Int} (h : a = b) : Ending.returned (.int .u64 a) = .returned (.int .u64 b) := by rw [h]
theorem shift_mk {j : Int} (h0 : 0 ≤ j) : Op.shift .shl .u64 1 .i64 j = pure (.int .u64 (mk j : Int)) := by
  unfold Op.shift
  rw [if_neg (by omega)]
  simp only [Int.one_mul, IntKind.wrap_u64]
  by_cases h : j ≤ 63
  · have hm : min j.toNat IntKind.u64.bits = j.toNat := Nat.min_eq_left (by show j.toNat ≤ 64; omega)
    have hp : (2 : Nat) ^ j.toNat < 2 ^ 64 := Nat.pow_lt_pow_right (by decide) (by omega)
    rw [hm, mk_in ⟨h0, h⟩]
    have e : (2 : Int) ^ j.toNat = ((2 ^ j.toNat : Nat) : Int) := by simp
    rw [e]
    generalize (2 : Nat) ^ j.toNat = p at hp
    congr 2
    omega
  · have hm : min j.toNat IntKind.u64.bits = 64 := Nat.min_eq_right (by show 64 ≤ j.toNat; omega)
    rw [hm, mk_out (fun hh => h hh.2)]
    rfl
theorem mask_any {j : Int} (hj0 : -9223372036854775808 ≤ j) (hj1 : j ≤ 9223372036854775807) (w : World) : Calls Try.prog 33 #[.int .i64 j] w fun e w' => e = .returned (.int .u64 (mk j : Int)) ∧ w = w' := by
  by_cases h : 0 ≤ j
  · have hs := shift_mk h
    obtain ⟨m, hm⟩ : ∃ m, m = mk j := ⟨_, rfl⟩
    rw [← hm] at hs ⊢
    clear hm
    go_enter Try.func33, Try.ntmps33
    go_wp2
    go_ret
    exact ⟨rfl, rfl⟩
  · rw [mk_out (fun hh => h hh.1)]
    go_enter Try.func33, Try.ntmps33
    go_wp2
    go_ret
    exact ⟨rfl, rfl⟩
section
variable {b : Nat} (hb : b < 18446744073709551616) {j : Int} (hj0 : -9223372036854775808 ≤ j) (hj1 : j ≤ 9223372036854775807) (w : World)
include hb hj0 hj1
theorem bHas_any : Calls Try.prog 41 #[wv b, .int .i64 j] w fun e w' => e = .returned (.bool (hasB b j)) ∧ w = w' := by
  have HM := Lib.hid (mask_any hj0 hj1 w)
  have hm := mk_lt j
  have hq := and_mk b j
  rw [← hq]
  have hz : (((b &&& mk j : Nat) : Int) != 0) = (b &&& mk j != 0) := by rw [Bool.eq_iff_iff]; simp
  rw [← hz, ← u64_and_nat b (mk j) hb hm]
  generalize mk j = m at *
  clear hq hz
  unfold wv
  go_enter Try.func41, Try.ntmps41
  go_wp2_with fail
  refine HM.out.mono ?_
  rintro e w1 ⟨rfl, rfl⟩
  go_wp2
  go_ret
  exact ⟨rfl, rfl⟩
theorem bSet_any : Calls Try.prog 20 #[wv b, .int .i64 j] w fun e w' => e = .returned (wv (setB b j)) ∧ w = w' := by
  have HM := Lib.hid (mask_any hj0 hj1 w)
  have hm := mk_lt j
  rw [← or_mk hb j]
  unfold wv
  rw [← u64_or_nat b (mk j) hb hm]
  generalize mk j = m at *
  go_enter Try.func20, Try.ntmps20
  go_wp2_with fail
  refine HM.out.mono ?_
  rintro e w1 ⟨rfl, rfl⟩
  go_wp2
  go_ret
  exact ⟨rfl, rfl⟩
theorem bClear_any : Calls Try.prog 21 #[wv b, .int .i64 j] w fun e w' => e = .returned (wv (clrB b j)) ∧ w = w' := by
  have HM := Lib.hid (mask_any hj0 hj1 w)
  have hm := mk_lt j
  rw [← andn_mk hb j]
  unfold wv
  rw [← u64_andNot_nat b (mk j) hb hm]
  generalize mk j = m at *
  go_enter Try.func21, Try.ntmps21
  go_wp2_with fail
  refine HM.out.mono ?_
  rintro e w1 ⟨rfl, rfl⟩
  go_wp2
  go_ret
  exact ⟨rfl, rfl⟩
end
end Go.Proofs.Ytpdnbojooelmfaa
