/- Texts of this claim, packed: WWords. -/
import Derived.Test.YtpjlajkjknkbaaaGreatDoorPg06
import Derived.WalkKit
import Derived.WalkSpells
import Derived.WalkLawsBesides
import Derived.Lib.Hide
import Derived.Laws.BitsAllLaws
import Derived.Laws.Tables
import Derived.Laws.CopyOwn
import Derived.Lib.SlBytesRow
/- Words for memory that the proofs of this seat share: a block that is known whole, a slice that reads as a list, an array filled from one end; plain facts, without conditions. -/
namespace Go.Proofs.YtpjlajkjknkbaaaGreatDoor
open Go.RowKit

/-- A word without its k lowest bytes; its byte at place k. -/
def up (n k : Nat) : Nat := n / 256 ^ k
def byt (n k : Nat) : Nat := up n k % 256
theorem byt_lt (n k : Nat) : byt n k < 256 := Nat.mod_lt _ (by decide)

theorem pow8 (k : Nat) : (2 : Int) ^ (8 * k) = ((256 ^ k : Nat) : Int) := by
  rw [Int.pow_mul]
  simp
theorem byt_shift (n k : Nat) : (n : Int) / 2 ^ (8 * k) % 256 = (byt n k : Int) := by
  rw [pow8]
  unfold byt up
  omega

/-- A word's eight bytes, as an array. -/
def bytes8 (n : Nat) : Array Value := Array.ofFn fun i : Fin 8 => bv (byt n i.val)
theorem bytes8_size (n : Nat) : (bytes8 n).size = 8 := by simp [bytes8]
theorem bytes8_one (n : Nat) : (bytes8 n).all (·.oneCell') = true := by
  rw [Array.all_eq_true]
  intro i hi
  simp [bytes8, bv, Value.oneCell']
theorem size23 : (Tryz.prog.info? 251).map (·.size) = some 8 := by kernel_rfl
theorem bytes8_fit (n : Nat) : (Tryz.prog.info? 251).map (·.size) = some (bytes8 n).size := by rw [bytes8_size]; exact size23
theorem bytes8_old (n : Nat) : (Array.replicate 8 (bv 0)).size = (bytes8 n).size := by rw [bytes8_size]; rfl

/-- The word of bytes, the lowest one first; of the first k of them. -/
def joinN : List Nat → Nat
  | [] => 0
  | b :: t => b + 256 * joinN t
def joinTo (l : List Nat) (k : Nat) : Nat := joinN (l.take k)
def Byts (l : List Nat) : Prop := ∀ b ∈ l, b < 256
theorem joinN_lt : ∀ l : List Nat, Byts l → joinN l < 256 ^ l.length
  | [], _ => by simp [joinN]
  | b :: t, h => by
    have h1 := h b (by simp)
    have h2 := joinN_lt t (fun x hx => h x (by simp [hx]))
    simp only [joinN, List.length_cons, Nat.pow_succ]
    omega
theorem joinN_snoc : ∀ (l : List Nat) (b : Nat), joinN (l ++ [b]) = joinN l + b * 256 ^ l.length
  | [], b => by simp [joinN]
  | c :: t, b => by
    have h := joinN_snoc t b
    simp only [List.cons_append, joinN, h, List.length_cons, Nat.pow_succ, Nat.mul_add]
    have e : 256 * (b * 256 ^ t.length) = b * (256 ^ t.length * 256) := by rw [Nat.mul_comm 256, Nat.mul_assoc]
    omega
theorem joinTo_zero (l : List Nat) : joinTo l 0 = 0 := by simp [joinTo, joinN]
theorem joinTo_all (l : List Nat) : joinTo l l.length = joinN l := by simp [joinTo]
theorem joinTo_succ (l : List Nat) (k : Nat) (h : k < l.length) : joinTo l (k + 1) = joinTo l k + l[k] * 256 ^ k := by
  unfold joinTo
  rw [List.take_succ_eq_append_getElem h, joinN_snoc, List.length_take, Nat.min_eq_left (by omega)]
theorem joinTo_lt (l : List Nat) (k : Nat) (hl : Byts l) (h : k ≤ l.length) : joinTo l k < 256 ^ k := by
  have := joinN_lt (l.take k) (fun b hb => hl b (List.mem_of_mem_take hb))
  rwa [List.length_take, Nat.min_eq_left h] at this
theorem pow_le8 {k : Nat} (h : k ≤ 8) : 256 ^ k ≤ 18446744073709551616 := Nat.pow_le_pow_right (n := 256) (by decide) h
theorem or_shift (x b k : Nat) (hx : x < 256 ^ k) : x ||| b * 256 ^ k = x + b * 256 ^ k := by
  have e : 256 ^ k = 2 ^ (8 * k) := by rw [Nat.pow_mul]
  rw [e] at hx ⊢
  rw [Nat.or_comm, Nat.mul_comm, ← Nat.two_pow_add_eq_or_of_lt hx, Nat.add_comm]
theorem joinTo_or (l : List Nat) (k : Nat) (hl : Byts l) (h : k < l.length) (h8 : k < 8) :
    bits .or .u64 (joinTo l k : Int) (IntKind.u64.wrap ((l[k] : Int) * 2 ^ (8 * k))) = (joinTo l (k + 1) : Int) := by
  have hb : l[k] < 256 := hl _ (List.getElem_mem h)
  have hx := joinTo_lt l k hl (Nat.le_of_lt h)
  have hp := pow_le8 (k := k + 1) (by omega)
  have hp0 := pow_le8 (k := k) (by omega)
  have hm : l[k] * 256 ^ k < 256 ^ (k + 1) := by rw [Nat.pow_succ, Nat.mul_comm]; exact Nat.mul_lt_mul_of_pos_left hb (Nat.pow_pos (by decide))
  rw [pow8, ← Int.natCast_mul, IntKind.wrap_u64, show ((l[k] * 256 ^ k : Nat) : Int) % 18446744073709551616 = ((l[k] * 256 ^ k : Nat) : Int) from by omega]
  rw [u64_or_nat _ _ (by omega) (by omega), or_shift _ _ _ hx, joinTo_succ l k h]

end Go.Proofs.YtpjlajkjknkbaaaGreatDoor
