/- Bits of words, in plain numbers: a bit that is set, laid, taken off; which are set, rising. Words below 2^64. -/
import Derived.Test.YtpdnbojooelmfaaRows
namespace Go.Proofs.Ytpdnbojooelmfaa
set_option linter.unusedVariables false
def hasB (b : Nat) (j : Int) : Bool := decide (0 ≤ j ∧ j ≤ 63) && b.testBit j.toNat
def mk (j : Int) : Nat := if 0 ≤ j ∧ j ≤ 63 then 2 ^ j.toNat else 0
def setB (b : Nat) (j : Int) : Nat := if hasB b j then b else b + mk j
def clrB (b : Nat) (j : Int) : Nat := if hasB b j then b - mk j else b
theorem hasB_in {b : Nat} {j : Int} (h : 0 ≤ j ∧ j ≤ 63) : hasB b j = b.testBit j.toNat := by unfold hasB; rw [decide_eq_true h]; rfl
theorem hasB_out {b : Nat} {j : Int} (h : ¬ (0 ≤ j ∧ j ≤ 63)) : hasB b j = false := by unfold hasB; rw [decide_eq_false h]; rfl
theorem mk_in {j : Int} (h : 0 ≤ j ∧ j ≤ 63) : mk j = 2 ^ j.toNat := if_pos h
theorem mk_out {j : Int} (h : ¬ (0 ≤ j ∧ j ≤ 63)) : mk j = 0 := if_neg h
theorem mk_lt (j : Int) : mk j < 18446744073709551616 := by
  unfold mk; split
  · exact Nat.lt_of_lt_of_le (Nat.pow_lt_pow_right (by decide) (by omega : j.toNat < 64)) (by decide)
  · decide
theorem add_or {b i : Nat} (h : b.testBit i = false) (hb : b < 2 ^ 64) (hi : i < 64) : b + 2 ^ i = b ||| 2 ^ i := by
  have hp : 2 ^ i < 2 ^ 64 := Nat.pow_lt_pow_right (by decide) hi
  have h65 : (2 : Nat) ^ 65 = 2 ^ 64 + 2 ^ 64 := by decide
  have hz : (BitVec.ofNat 65 b) &&& (BitVec.ofNat 65 (2 ^ i)) = 0#65 := by
    apply BitVec.eq_of_toNat_eq
    simp only [BitVec.toNat_and, BitVec.toNat_ofNat]
    rw [Nat.mod_eq_of_lt (by omega), Nat.mod_eq_of_lt (by omega)]
    apply Nat.eq_of_testBit_eq
    intro k
    rw [Nat.testBit_and, Nat.testBit_two_pow]
    by_cases e : i = k
    · subst e; simp [h]
    · simp [e]
  have h1 := congrArg BitVec.toNat (BitVec.add_eq_or_of_and_eq_zero _ _ hz)
  simp only [BitVec.toNat_add, BitVec.toNat_or, BitVec.toNat_ofNat] at h1
  rw [Nat.mod_eq_of_lt (show b < 2 ^ 65 by omega), Nat.mod_eq_of_lt (show 2 ^ i < 2 ^ 65 by omega), Nat.mod_eq_of_lt (by omega)] at h1
  exact h1
theorem bor_self {b i : Nat} (h : b.testBit i = true) : b ||| 2 ^ i = b := by
  apply Nat.eq_of_testBit_eq
  intro k
  rw [Nat.testBit_or, Nat.testBit_two_pow]
  by_cases e : i = k
  · subst e; simp [h]
  · simp [e]
theorem or_mk {b : Nat} (hb : b < 18446744073709551616) (j : Int) : b ||| mk j = setB b j := by
  by_cases h : 0 ≤ j ∧ j ≤ 63
  · unfold setB
    rw [mk_in h, hasB_in h]
    by_cases ht : b.testBit j.toNat = true
    · rw [if_pos ht, bor_self ht]
    · rw [if_neg ht, add_or (by simpa using ht) hb (by omega)]
  · unfold setB
    rw [mk_out h, hasB_out h]
    simp
theorem setB_lt {b : Nat} (hb : b < 18446744073709551616) (j : Int) : setB b j < 18446744073709551616 := by
  rw [← or_mk hb]
  exact Nat.or_lt_two_pow (n := 64) hb (mk_lt j)
theorem not_bit {i : Nat} (hi : i < 64) (k : Nat) : (18446744073709551615 - 2 ^ i).testBit k = (decide (k < 64) && !decide (i = k)) := by
  have hp : 2 ^ i < 2 ^ 64 := Nat.pow_lt_pow_right (by decide) hi
  rw [show 18446744073709551615 - 2 ^ i = 2 ^ 64 - (2 ^ i + 1) by omega, Nat.testBit_two_pow_sub_succ hp, Nat.testBit_two_pow]
theorem bit_lt {b k : Nat} (hb : b < 18446744073709551616) (h : b.testBit k = true) : k < 64 := by
  by_cases hk : k < 64
  · exact hk
  · have := Nat.testBit_lt_two_pow (Nat.lt_of_lt_of_le hb (show 18446744073709551616 ≤ 2 ^ k from Nat.le_trans (by decide : 18446744073709551616 ≤ 2 ^ 64) (Nat.pow_le_pow_right (by decide) (by omega))))
    rw [this] at h; cases h
theorem andn_mk {b : Nat} (hb : b < 18446744073709551616) (j : Int) : b &&& (18446744073709551615 - mk j) = clrB b j := by
  by_cases h : 0 ≤ j ∧ j ≤ 63
  · unfold clrB
    rw [mk_in h, hasB_in h]
    have hi : j.toNat < 64 := by omega
    have hc : (b &&& (18446744073709551615 - 2 ^ j.toNat)).testBit j.toNat = false := by rw [Nat.testBit_and, not_bit hi]; simp
    by_cases ht : b.testBit j.toNat = true
    · rw [if_pos ht]
      have hlt : b &&& (18446744073709551615 - 2 ^ j.toNat) < 2 ^ 64 := Nat.and_lt_two_pow _ (Nat.lt_of_le_of_lt (Nat.sub_le _ _) (by decide))
      have h1 := add_or hc hlt hi
      have h2 : (b &&& (18446744073709551615 - 2 ^ j.toNat)) ||| 2 ^ j.toNat = b := by
        apply Nat.eq_of_testBit_eq
        intro k
        rw [Nat.testBit_or, Nat.testBit_and, not_bit hi, Nat.testBit_two_pow]
        by_cases e : j.toNat = k
        · subst e; simp [ht]
        · by_cases hk : b.testBit k = true
          · simp [e, hk, bit_lt hb hk]
          · simp [e, Bool.not_eq_true _ ▸ hk]
      omega
    · rw [if_neg ht]
      apply Nat.eq_of_testBit_eq
      intro k
      rw [Nat.testBit_and, not_bit hi]
      by_cases e : j.toNat = k
      · subst e; simp [Bool.not_eq_true _ ▸ ht]
      · by_cases hk : b.testBit k = true
        · simp [e, hk, bit_lt hb hk]
        · simp [e, Bool.not_eq_true _ ▸ hk]
  · unfold clrB
    rw [mk_out h, hasB_out h, if_neg (by decide), Nat.sub_zero]
    exact Nat.and_two_pow_sub_one_of_lt_two_pow (n := 64) hb
theorem clrB_le (b : Nat) (j : Int) : clrB b j ≤ b := by unfold clrB; split <;> omega
theorem and_mk (b : Nat) (j : Int) : (b &&& mk j != 0) = hasB b j := by
  by_cases h : 0 ≤ j ∧ j ≤ 63
  · rw [mk_in h, hasB_in h]
    by_cases ht : b.testBit j.toNat = true
    · have e : b &&& 2 ^ j.toNat = 2 ^ j.toNat := by
        apply Nat.eq_of_testBit_eq
        intro k
        rw [Nat.testBit_and, Nat.testBit_two_pow]
        by_cases e : j.toNat = k
        · subst e; simp [ht]
        · simp [e]
      rw [ht, e]
      have := Nat.one_le_two_pow (n := j.toNat)
      simp only [bne_iff_ne, ne_eq]; omega
    · have e : b &&& 2 ^ j.toNat = 0 := by
        apply Nat.eq_of_testBit_eq
        intro k
        rw [Nat.testBit_and, Nat.testBit_two_pow]
        by_cases e : j.toNat = k
        · subst e; simp [Bool.not_eq_true _ ▸ ht]
        · simp [e]
      have hf : b.testBit j.toNat = false := by simpa using ht
      rw [hf, e]; rfl
  · rw [mk_out h, hasB_out h]; simp
theorem hasB_set (b : Nat) (hb : b < 18446744073709551616) (j : Int) : hasB (setB b j) j = decide (0 ≤ j ∧ j ≤ 63) := by
  rw [← or_mk hb]
  by_cases h : 0 ≤ j ∧ j ≤ 63
  · rw [hasB_in h, mk_in h, Nat.testBit_or, Nat.testBit_two_pow, decide_eq_true h]; simp
  · rw [hasB_out h, decide_eq_false h]
theorem hasB_clr (b : Nat) (hb : b < 18446744073709551616) (j : Int) : hasB (clrB b j) j = false := by
  rw [← andn_mk hb]
  by_cases h : 0 ≤ j ∧ j ≤ 63
  · rw [hasB_in h, mk_in h, Nat.testBit_and, not_bit (by omega)]; simp
  · rw [hasB_out h]
theorem clr_set (b : Nat) (hb : b < 18446744073709551616) (j : Int) : clrB (setB b j) j = clrB b j := by
  by_cases h : 0 ≤ j ∧ j ≤ 63
  · have h1 : hasB (setB b j) j = true := by rw [hasB_set b hb, decide_eq_true h]
    unfold clrB
    rw [h1, if_pos rfl]
    unfold setB
    by_cases hh : hasB b j = true
    · rw [if_pos hh, if_pos hh]
    · rw [if_neg hh, if_neg hh]; omega
  · have h1 : setB b j = b := by unfold setB; rw [hasB_out h, mk_out h]; simp
    rw [h1]
theorem set_clr (b : Nat) (hb : b < 18446744073709551616) (j : Int) : setB (clrB b j) j = setB b j := by
  unfold setB
  rw [hasB_clr b hb]
  unfold clrB
  by_cases hh : hasB b j = true
  · have hge : mk j ≤ b := by
      have h : 0 ≤ j ∧ j ≤ 63 := by
        refine Classical.byContradiction fun h => ?_
        rw [hasB_out h] at hh; cases hh
      rw [mk_in h]
      rw [hasB_in h] at hh
      exact Nat.ge_two_pow_of_testBit hh
    rw [if_pos hh, if_pos hh, if_neg (by decide)]; omega
  · rw [if_neg hh, if_neg hh, if_neg (by decide)]
/-- The places of the bits that are set, below k. -/
def upB (b k : Nat) : List Nat := (List.range k).filter b.testBit
theorem upB_succ (b k : Nat) : upB b (k + 1) = if b.testBit k then upB b k ++ [k] else upB b k := by
  unfold upB
  rw [List.range_succ, List.filter_append]
  by_cases h : b.testBit k = true
  · simp [h]
  · simp [h]
theorem upB_len (b k : Nat) : (upB b k).length ≤ k := by
  unfold upB
  exact Nat.le_trans (List.length_filter_le _ _) (by simp)
theorem upB_pre (b : Nat) {i j : Nat} (h : i ≤ j) : upB b i <+: upB b j := by
  induction j with
  | zero => obtain rfl : i = 0 := by omega
            exact List.prefix_refl _
  | succ j ih =>
    by_cases e : i = j + 1
    · rw [e]; exact List.prefix_refl _
    · rw [upB_succ]
      split
      · exact (ih (by omega)).trans (List.prefix_append _ _)
      · exact ih (by omega)
theorem mem_upB {b k x : Nat} : x ∈ upB b k ↔ x < k ∧ b.testBit x = true := by simp [upB]
theorem upB_sorted (b k : Nat) : (upB b k).Pairwise (· < ·) := List.Pairwise.filter _ List.pairwise_lt_range
end Go.Proofs.Ytpdnbojooelmfaa
