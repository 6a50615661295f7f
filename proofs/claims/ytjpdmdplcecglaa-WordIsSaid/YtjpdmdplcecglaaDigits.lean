/- OfHex and the two Hex's beside it return as the document says, for every text and every word below 2^64; no memory is turned. -/
import Derived.Test.YtjpdmdplcecglaaKnown
import Derived.Test.YtjpdmdplcecglaaOrder
import Derived.Lib.Bytealg
namespace Go.Proofs.Ytjpdmdplcecglaa
open Go.RowKit

/-- A letter's digit, or -1. -/
def val (u : UInt8) : Int := Lib.indexByte tbl.data.toList u
theorem val_all : ∀ i : Fin 256, (val (UInt8.ofNat i.val) = -1 ∧ ¬ (48 ≤ i.val ∧ i.val ≤ 57) ∧ ¬ (97 ≤ i.val ∧ i.val ≤ 102)) ∨ (0 ≤ val (UInt8.ofNat i.val) ∧ val (UInt8.ofNat i.val) < 16 ∧ dig (val (UInt8.ofNat i.val)).toNat = UInt8.ofNat i.val ∧
    ((48 ≤ i.val ∧ i.val ≤ 57 ∧ val (UInt8.ofNat i.val) = (i.val : Int) - 48) ∨ (97 ≤ i.val ∧ i.val ≤ 102 ∧ val (UInt8.ofNat i.val) = (i.val : Int) - 87))) := by decide +kernel
theorem val_any (u : UInt8) : (val u = -1 ∧ ¬ (48 ≤ u.toNat ∧ u.toNat ≤ 57) ∧ ¬ (97 ≤ u.toNat ∧ u.toNat ≤ 102)) ∨ (0 ≤ val u ∧ val u < 16 ∧ dig (val u).toNat = u ∧
    ((48 ≤ u.toNat ∧ u.toNat ≤ 57 ∧ val u = (u.toNat : Int) - 48) ∨ (97 ≤ u.toNat ∧ u.toNat ≤ 102 ∧ val u = (u.toNat : Int) - 87))) := by
  have h := val_all ⟨u.toNat, u.toNat_lt⟩
  simp only [UInt8.ofNat_toNat] at h
  exact h
theorem val_dig : ∀ d : Fin 16, val (dig d.val) = (d.val : Int) := by decide

/-- The number that the first k letters of a text spell. -/
def accTo (s : List UInt8) : Nat → Nat
  | 0 => 0
  | k + 1 => 16 * accTo s k + (val (s.getD k 0)).toNat
def Good (s : List UInt8) (m : Nat) : Prop := ∀ i, i < m → 0 ≤ val (s.getD i 0)
theorem val_hi (u : UInt8) : (val u).toNat < 16 := by
  rcases val_any u with ⟨h, _⟩ | ⟨_, h, _⟩
  · rw [h]; decide
  · omega
theorem accTo_lt (s : List UInt8) : ∀ k, accTo s k < 16 ^ k
  | 0 => by simp [accTo]
  | k + 1 => by
    have h1 := accTo_lt s k
    have h2 := val_hi (s.getD k 0)
    simp only [accTo, Nat.pow_succ]
    omega
theorem accTo_div (s : List UInt8) (k : Nat) : ∀ j, accTo s (k + j) / 16 ^ j = accTo s k
  | 0 => by simp
  | j + 1 => by
    have h := val_hi (s.getD (k + j) 0)
    rw [Nat.pow_succ', ← Nat.div_div_eq_div_mul, ← Nat.add_assoc]
    show (16 * accTo s (k + j) + (val (s.getD (k + j) 0)).toNat) / 16 / 16 ^ j = _
    rw [show (16 * accTo s (k + j) + (val (s.getD (k + j) 0)).toNat) / 16 = accTo s (k + j) from by omega]
    exact accTo_div s k j
theorem accTo_nib (s : List UInt8) (i : Nat) (hi : i < 16) : nib (accTo s 16) (15 - i) = (val (s.getD i 0)).toNat := by
  unfold nib
  have h := accTo_div s (i + 1) (15 - i)
  rw [show i + 1 + (15 - i) = 16 from by omega] at h
  rw [h]
  have h2 := val_hi (s.getD i 0)
  simp only [accTo]
  omega
theorem or4 (a d : Nat) (ha : a < 16 ^ 15) (hd : d < 16) : bits .or .u64 (IntKind.u64.wrap ((a : Int) * 16)) (d : Int) = ((16 * a + d : Nat) : Int) := by
  have h15 : (16 : Nat) ^ 15 = 1152921504606846976 := by decide
  rw [h15] at ha
  rw [IntKind.wrap_u64, show (a : Int) * 16 % 18446744073709551616 = ((2 ^ 4 * a : Nat) : Int) from by omega, u64_or_nat _ _ (by omega) (by omega), ← Nat.two_pow_add_eq_or_of_lt (by omega)]
theorem hexS_getD (n i : Nat) (hi : i < 16) : (hexS n).data.toList.getD i 0 = dig (nib n (15 - i)) := by
  have h : i < (hexS n).size := by rw [hexS_size]; exact hi
  have h' : i < (hexS n).data.toList.length := h
  rw [List.getD_eq_getElem?_getD, List.getElem?_eq_getElem h', Option.getD_some]
  exact hexS_get n i h
theorem hexS_good (n : Nat) : Good (hexS n).data.toList 16 := by
  intro i hi
  rw [hexS_getD n i hi, val_dig ⟨nib n (15 - i), nib_lt n _⟩]
  exact Int.natCast_nonneg _
theorem hexS_acc (n : Nat) : ∀ k, k ≤ 16 → n < 16 ^ 16 → accTo (hexS n).data.toList k = n / 16 ^ (16 - k)
  | 0, _, hn => by
    rw [Nat.sub_zero, Nat.div_eq_of_lt hn]
    rfl
  | k + 1, h, hn => by
    have e := hexS_getD n k (by omega)
    have hv := val_dig ⟨nib n (15 - k), nib_lt n _⟩
    simp only at hv
    simp only [accTo, e, hv, hexS_acc n k (by omega) hn, Int.toNat_natCast]
    unfold nib
    rw [show 16 - k = (15 - k) + 1 from by omega, show 16 - (k + 1) = 15 - k from by omega, Nat.pow_succ, ← Nat.div_div_eq_div_mul]
    omega
theorem hexS_back (n : Nat) (hn : n < 18446744073709551616) : accTo (hexS n).data.toList 16 = n := by
  rw [hexS_acc n 16 (by omega) hn]
  simp
theorem back_hexS (s : ByteArray) (hs : s.size = 16) (hg : Good s.data.toList 16) : hexS (accTo s.data.toList 16) = s := by
  have hl : s.data.toList.length = 16 := by simpa using hs
  apply ByteArray.ext
  apply Array.ext
  · show (hexS _).size = s.size
    rw [hexS_size, hs]
  · intro i h1 h2
    have hi : i < 16 := by have h3 : i < (hexS (accTo s.data.toList 16)).size := h1; rw [hexS_size] at h3; exact h3
    have e1 : (hexS (accTo s.data.toList 16)).data[i] = dig (nib (accTo s.data.toList 16) (15 - i)) := hexS_get _ i h1
    refine e1.trans ?_
    rw [accTo_nib _ i hi]
    have e2 : s.data.toList.getD i 0 = s.data[i] := by
      rw [List.getD_eq_getElem?_getD, List.getElem?_eq_getElem (by rw [hl]; exact hi), Option.getD_some, Array.getElem_toList]
    have hgi := hg i hi
    rw [e2] at hgi ⊢
    rcases val_any s.data[i] with ⟨h, _⟩ | ⟨_, _, h, _⟩
    · omega
    · exact h

theorem call37 (s : ByteArray) (c : Int) (w : World) : (callFunc 37 #[.string s, .int .u8 c]).run Try.prog w = .ok (.value (.int .i64 (Lib.indexByte s.data.toList c.toNat.toUInt8))) w := by
  rw [run_callFunc_extern Try.func37 (by kernel_rfl) (by kernel_rfl) (by kernel_rfl) (e := Extern.BytealgIndexByte.indexByte) (by kernel_rfl), Lib.run_indexByteString]
  rfl
set_option maxHeartbeats 400000 in
theorem index_any (s : ByteArray) (c : Int) (w : World) :
    Calls Try.prog 31 #[.string s, .int .u8 c] w fun e w' => e = .returned (.int .i64 (Lib.indexByte s.data.toList c.toNat.toUInt8)) ∧ w = w' := by
  go_enter Try.func31, Try.ntmps31
  go_wp2_with fail
  go_enter Try.func35, Try.ntmps35
  go_wp2_with (simp only [call37])
  go_ret
  exact ⟨rfl, rfl⟩
theorem index_tbl (u : UInt8) (w : World) : Calls Try.prog 31 #[.string ⟨#[48, 49, 50, 51, 52, 53, 54, 55, 56, 57, 97, 98, 99, 100, 101, 102]⟩, .int .u8 (u.toNat : Int)] w fun e w' => e = .returned (.int .i64 (val u)) ∧ w = w' := by
  have h := index_any tbl (u.toNat : Int) w
  have e : ((u.toNat : Int)).toNat.toUInt8 = u := by simp
  rw [e] at h
  exact h

theorem getD_at (s : ByteArray) (k : Nat) (h : k < s.size) : s.data.toList.getD k 0 = s[k] := by
  rw [List.getD_eq_getElem?_getD, List.getElem?_eq_getElem (by simpa using h), Option.getD_some, Array.getElem_toList]
  rfl

end Go.Proofs.Ytjpdmdplcecglaa
