/- Two words' digits stand to one another as the words do: plain facts on lists of bytes, for words below 2^64. -/
import Derived.Test.YtjpdmdplcecglaaWords
namespace Go.Proofs.Ytjpdmdplcecglaa
open Go.RowKit
/-- The k lowest digits of a word, the highest one first. -/
def hexL (n : Nat) : Nat → List UInt8
  | 0 => []
  | k + 1 => dig (nib n k) :: hexL n k
theorem hexL_length (n : Nat) : ∀ k, (hexL n k).length = k
  | 0 => rfl
  | k + 1 => by simp [hexL, hexL_length n k]
theorem hexL_get (n : Nat) : ∀ (k i : Nat) (h : i < (hexL n k).length), (hexL n k)[i] = dig (nib n (k - 1 - i))
  | 0, i, h => by simp [hexL] at h
  | k + 1, 0, h => by simp [hexL]
  | k + 1, i + 1, h => by
    have h' : i < (hexL n k).length := by simp [hexL] at h; omega
    simp only [hexL, List.getElem_cons_succ, hexL_get n k i h']
    rw [show k - 1 - i = k + 1 - 1 - (i + 1) from by omega]
theorem hexS_toList (n : Nat) : (hexS n).toList = hexL n 16 := by
  rw [ByteArray.toList_eq]
  apply List.ext_getElem
  · rw [hexL_length]
    exact hexS_size n
  · intro i h1 h2
    rw [hexL_get n 16 i h2]
    have h3 : i < (hexS n).size := h1
    have := hexS_get n i h3
    exact this
theorem dig_lt : ∀ x : Fin 16, ∀ y : Fin 16, decide (dig x.val < dig y.val) = decide (x.val < y.val) := by decide
theorem dig_eq : ∀ x : Fin 16, ∀ y : Fin 16, (dig x.val == dig y.val) = decide (x.val = y.val) := by decide
theorem low_succ (n k : Nat) : n % 16 ^ (k + 1) = nib n k * 16 ^ k + n % 16 ^ k := by
  unfold nib
  rw [Nat.pow_succ, Nat.mod_mul]
  rw [Nat.mul_comm (16 ^ k), Nat.add_comm]
theorem lex {x y u v p : Nat} (hu : u < p) (hv : v < p) : x * p + u < y * p + v ↔ x < y ∨ x = y ∧ u < v := by
  constructor
  · intro h
    rcases Nat.lt_trichotomy x y with h1 | h1 | h1
    · exact .inl h1
    · subst h1
      exact .inr ⟨rfl, by omega⟩
    · have := Nat.mul_le_mul_right p h1
      rw [Nat.succ_mul] at this
      omega
  · rintro (h | ⟨rfl, h⟩)
    · have := Nat.mul_le_mul_right p h
      rw [Nat.succ_mul] at this
      omega
    · omega
theorem hexL_less (a b : Nat) : ∀ k, Op.bytesLess (hexL a k) (hexL b k) = decide (a % 16 ^ k < b % 16 ^ k)
  | 0 => by simp [hexL, Op.bytesLess, Nat.mod_one]
  | k + 1 => by
    have hp : 0 < 16 ^ k := Nat.pow_pos (by decide)
    have e1 := dig_lt ⟨nib a k, nib_lt a k⟩ ⟨nib b k, nib_lt b k⟩
    have e2 := dig_eq ⟨nib a k, nib_lt a k⟩ ⟨nib b k, nib_lt b k⟩
    simp only at e1 e2
    simp only [hexL, Op.bytesLess, hexL_less a b k, low_succ, e1, e2]
    have h := lex (x := nib a k) (y := nib b k) (Nat.mod_lt a hp) (Nat.mod_lt b hp)
    rw [Bool.eq_iff_iff]
    simp [h]
theorem hexL_eq (a b : Nat) : ∀ k, hexL a k = hexL b k → a % 16 ^ k = b % 16 ^ k
  | 0, _ => by simp [Nat.mod_one]
  | k + 1, h => by
    simp only [hexL, List.cons.injEq] at h
    have e2 := dig_eq ⟨nib a k, nib_lt a k⟩ ⟨nib b k, nib_lt b k⟩
    simp only [h.1, beq_self_eq_true] at e2
    have e3 : nib a k = nib b k := of_decide_eq_true e2.symm
    rw [low_succ, low_succ, e3, hexL_eq a b k h.2]
theorem hexS_less (a b : Nat) (ha : a < 18446744073709551616) (hb : b < 18446744073709551616) : (Op.bytesLess (hexS a).toList (hexS b).toList == decide ((a : Int) < (b : Int))) = true := by
  rw [hexS_toList, hexS_toList, hexL_less, Nat.mod_eq_of_lt (show a < 16 ^ 16 from ha), Nat.mod_eq_of_lt (show b < 16 ^ 16 from hb)]
  simp
theorem hexS_same (a b : Nat) (ha : a < 18446744073709551616) (hb : b < 18446744073709551616) : (((hexS a).toList == (hexS b).toList) == ((a : Int) == (b : Int))) = true := by
  rw [hexS_toList, hexS_toList, beq_iff_eq, Bool.eq_iff_iff, beq_iff_eq, beq_iff_eq]
  constructor
  · intro h
    have := hexL_eq a b 16 h
    rw [Nat.mod_eq_of_lt (show a < 16 ^ 16 from ha), Nat.mod_eq_of_lt (show b < 16 ^ 16 from hb)] at this
    rw [this]
  · intro h
    have : a = b := by omega
    rw [this]
end Go.Proofs.Ytjpdmdplcecglaa
