/- Texts of this claim, packed: WWords. -/
import Derived.Test.YtnjecjcnkmgjmaaDoorPk01
import Derived.WalkKit
import Derived.WalkSpells
import Derived.WalkLawsBesides
import Derived.Lib.Hide
import Derived.Laws.BitsAllLaws
import Derived.Laws.Tables
import Derived.Laws.CopyOwn
import Derived.Lib.SlBytesRow
/- Words for memory that the proofs of this seat share: a block that is known whole, a slice that reads as a list, an array filled from one end; plain facts, without conditions. -/
namespace Go.Proofs.YtnjecjcnkmgjmaaDoor
open Go.RowKit

/-- A word without its k lowest bytes; its byte at place k. -/
def up (n k : Nat) : Nat := n / 256 ^ k
def byt (n k : Nat) : Nat := up n k % 256
theorem up_zero (n : Nat) : up n 0 = n := by simp [up]
theorem up_succ (n k : Nat) : up n (k + 1) = up n k / 256 := by unfold up; rw [Nat.pow_succ, Nat.div_div_eq_div_mul]
theorem up_le (n k : Nat) : up n k ≤ n := Nat.div_le_self _ _
theorem byt_lt (n k : Nat) : byt n k < 256 := Nat.mod_lt _ (by decide)

theorem pow8 (k : Nat) : (2 : Int) ^ (8 * k) = ((256 ^ k : Nat) : Int) := by
  rw [Int.pow_mul]
  simp
theorem byt_shift (n k : Nat) : (n : Int) / 2 ^ (8 * k) % 256 = (byt n k : Int) := by
  rw [pow8]
  unfold byt up
  omega

/-- A word's digit at place k, the lowest one at 0. -/
def nib (n k : Nat) : Nat := n / 16 ^ k % 16
theorem nib_lt (n k : Nat) : nib n k < 16 := Nat.mod_lt _ (by decide)
theorem pow4 (k : Nat) : (2 : Int) ^ (4 * k) = ((16 ^ k : Nat) : Int) := by
  rw [Int.pow_mul]
  simp
theorem and15 (x : Nat) : x &&& 15 = x % 16 := Nat.and_two_pow_sub_one_eq_mod x 4
theorem nib_and (n k : Nat) (hn : n < 18446744073709551616) : bits .and .u64 ((n : Int) / 2 ^ (4 * k)) 15 = (nib n k : Int) := by
  rw [pow4]
  have hle : n / 16 ^ k ≤ n := Nat.div_le_self _ _
  have e : (n : Int) / ((16 ^ k : Nat) : Int) = ((n / 16 ^ k : Nat) : Int) := by omega
  rw [e]
  have h := u64_and_nat (n / 16 ^ k) 15 (by omega) (by omega)
  rw [and15] at h
  exact h

/-- A digit's letter; a word's digits, the highest one first. -/
def tbl : ByteArray := ⟨#[48, 49, 50, 51, 52, 53, 54, 55, 56, 57, 97, 98, 99, 100, 101, 102]⟩
def dig (d : Nat) : UInt8 := tbl.data.getD d 0
theorem dig_get (d : Nat) (h : d < tbl.size) : tbl[d] = dig d := by
  have h' : d < tbl.data.size := h
  unfold dig Array.getD
  rw [dif_pos h']
  rfl
def hexv (n k : Nat) : Value := .int .u8 ((dig (nib n k)).toNat : Int)
theorem tbl_val (n k : Nat) (h : nib n k < tbl.size) : Value.int .u8 ((tbl[nib n k]).toNat : Int) = hexv n k := by rw [dig_get]; rfl


/-- A word's eight bytes, as an array. -/
def bytes8 (n : Nat) : Array Value := Array.ofFn fun i : Fin 8 => bv (byt n i.val)
theorem bytes8_size (n : Nat) : (bytes8 n).size = 8 := by simp [bytes8]
theorem bytes8_one (n : Nat) : (bytes8 n).all (·.oneCell') = true := by
  rw [Array.all_eq_true]
  intro i hi
  simp [bytes8, bv, Value.oneCell']
theorem size23 : (Tryd.prog.info? 107).map (·.size) = some 8 := by kernel_rfl
theorem bytes8_fit (n : Nat) : (Tryd.prog.info? 107).map (·.size) = some (bytes8 n).size := by rw [bytes8_size]; exact size23
theorem bytes8_old (n : Nat) : (Array.replicate 8 (bv 0)).size = (bytes8 n).size := by rw [bytes8_size]; rfl

/-- The word of bytes, the lowest one first; of the first k of them. -/
def joinN : List Nat → Nat
  | [] => 0
  | b :: t => b + 256 * joinN t
def joinTo (l : List Nat) (k : Nat) : Nat := joinN (l.take k)
def Byts (l : List Nat) : Prop := ∀ b ∈ l, b < 256
theorem joinN_lt : ∀ l : List Nat, Byts l → joinN l < 256 ^ l.length
  | [], _ => by simp [joinN]
  | b :: t, h => by
    have h1 := h b (by simp)
    have h2 := joinN_lt t (fun x hx => h x (by simp [hx]))
    simp only [joinN, List.length_cons, Nat.pow_succ]
    omega
theorem joinN_snoc : ∀ (l : List Nat) (b : Nat), joinN (l ++ [b]) = joinN l + b * 256 ^ l.length
  | [], b => by simp [joinN]
  | c :: t, b => by
    have h := joinN_snoc t b
    simp only [List.cons_append, joinN, h, List.length_cons, Nat.pow_succ, Nat.mul_add]
    have e : 256 * (b * 256 ^ t.length) = b * (256 ^ t.length * 256) := by rw [Nat.mul_comm 256, Nat.mul_assoc]
    omega
theorem joinTo_zero (l : List Nat) : joinTo l 0 = 0 := by simp [joinTo, joinN]
theorem joinTo_all (l : List Nat) : joinTo l l.length = joinN l := by simp [joinTo]
theorem joinTo_succ (l : List Nat) (k : Nat) (h : k < l.length) : joinTo l (k + 1) = joinTo l k + l[k] * 256 ^ k := by
  unfold joinTo
  rw [List.take_succ_eq_append_getElem h, joinN_snoc, List.length_take, Nat.min_eq_left (by omega)]
theorem joinTo_lt (l : List Nat) (k : Nat) (hl : Byts l) (h : k ≤ l.length) : joinTo l k < 256 ^ k := by
  have := joinN_lt (l.take k) (fun b hb => hl b (List.mem_of_mem_take hb))
  rwa [List.length_take, Nat.min_eq_left h] at this
theorem pow_le8 {k : Nat} (h : k ≤ 8) : 256 ^ k ≤ 18446744073709551616 := Nat.pow_le_pow_right (n := 256) (by decide) h
theorem or_shift (x b k : Nat) (hx : x < 256 ^ k) : x ||| b * 256 ^ k = x + b * 256 ^ k := by
  have e : 256 ^ k = 2 ^ (8 * k) := by rw [Nat.pow_mul]
  rw [e] at hx ⊢
  rw [Nat.or_comm, Nat.mul_comm, ← Nat.two_pow_add_eq_or_of_lt hx, Nat.add_comm]
theorem joinTo_or (l : List Nat) (k : Nat) (hl : Byts l) (h : k < l.length) (h8 : k < 8) :
    bits .or .u64 (joinTo l k : Int) (IntKind.u64.wrap ((l[k] : Int) * 2 ^ (8 * k))) = (joinTo l (k + 1) : Int) := by
  have hb : l[k] < 256 := hl _ (List.getElem_mem h)
  have hx := joinTo_lt l k hl (Nat.le_of_lt h)
  have hp := pow_le8 (k := k + 1) (by omega)
  have hp0 := pow_le8 (k := k) (by omega)
  have hm : l[k] * 256 ^ k < 256 ^ (k + 1) := by rw [Nat.pow_succ, Nat.mul_comm]; exact Nat.mul_lt_mul_of_pos_left hb (Nat.pow_pos (by decide))
  rw [pow8, ← Int.natCast_mul, IntKind.wrap_u64, show ((l[k] * 256 ^ k : Nat) : Int) % 18446744073709551616 = ((l[k] * 256 ^ k : Nat) : Int) from by omega]
  rw [u64_or_nat _ _ (by omega) (by omega), or_shift _ _ _ hx, joinTo_succ l k h]

/-- A text's bytes. -/
def strN (s : ByteArray) : List Nat := s.data.toList.map (·.toNat)
theorem strN_length (s : ByteArray) : (strN s).length = s.size := by simp [strN]
theorem strN_get (s : ByteArray) (k : Nat) (h : k < (strN s).length) : (strN s)[k] = (s[k]'(by rw [strN_length] at h; exact h)).toNat := by
  simp [strN]
  rfl
theorem strN_byts (s : ByteArray) : Byts (strN s) := by
  intro b hb
  simp only [strN, List.mem_map] at hb
  obtain ⟨u, _, rfl⟩ := hb
  exact u.toNat_lt
theorem strN_extract (s : ByteArray) (a b : Nat) : strN (s.extract a b) = ((strN s).drop a).take (b - a) := by
  unfold strN
  rw [Lib.extract_data, List.map_take, List.map_drop]

/-- The words of bytes, eight by eight. -/
def wordAt (l : List Nat) (j : Nat) : Nat := joinN ((l.drop (8 * j)).take 8)
def cutTo (l : List Nat) (k : Nat) : List Nat := (List.range k).map (wordAt l)
def cutN (l : List Nat) : List Nat := cutTo l ((l.length + 7) / 8)
theorem cutTo_length (l : List Nat) (k : Nat) : (cutTo l k).length = k := by simp [cutTo]
theorem cutTo_succ (l : List Nat) (k : Nat) : cutTo l (k + 1) = cutTo l k ++ [wordAt l k] := by simp [cutTo, List.range_succ]
theorem cutTo_snoc (l : List Nat) (k : Nat) : (cutTo l k).map wv ++ [wv (wordAt l k)] = (cutTo l (k + 1)).map wv := by simp [cutTo_succ]
theorem wordAt_min (l : List Nat) (k b : Nat) (hb : b = min (8 * k + 8) l.length) : joinN ((l.drop (8 * k)).take (b - 8 * k)) = wordAt l k := by
  unfold wordAt
  by_cases h : 8 * k + 8 ≤ l.length
  · rw [hb, Nat.min_eq_left h, show 8 * k + 8 - 8 * k = 8 from by omega]
  · rw [hb, Nat.min_eq_right (by omega), List.take_of_length_le (by simp), List.take_of_length_le (by simp; omega)]

/-- A text, packed. -/
def packN (s : ByteArray) : List Nat := s.size :: cutN (strN s)
theorem cutN_length (l : List Nat) : (cutN l).length = (l.length + 7) / 8 := by unfold cutN; rw [cutTo_length]
theorem packN_length (s : ByteArray) : (packN s).length = 1 + (s.size + 7) / 8 := by
  unfold packN
  rw [List.length_cons, cutN_length, strN_length]
  omega

end Go.Proofs.YtnjecjcnkmgjmaaDoor
