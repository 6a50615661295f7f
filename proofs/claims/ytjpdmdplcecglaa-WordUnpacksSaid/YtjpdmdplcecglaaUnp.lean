/- Packed texts, as lists: a text is read from just what it is packed as. Plain facts, for words below 2^64. -/
import Derived.Test.YtjpdmdplcecglaaRefPack
namespace Go.Proofs.Ytjpdmdplcecglaa
open Go.RowKit
set_option linter.unusedVariables false
theorem joinN_zeros : ∀ (a : List Nat) (z : Nat), joinN (a ++ List.replicate z 0) = joinN a
  | [], 0 => rfl
  | [], z + 1 => by
    have h := joinN_zeros [] z
    rw [List.nil_append] at h ⊢
    rw [List.replicate_succ]
    show 0 + 256 * joinN (List.replicate z 0) = joinN []
    rw [h]
    rfl
  | b :: t, z => by rw [List.cons_append, joinN, joinN, joinN_zeros t z]
theorem joinN_zero : ∀ l : List Nat, joinN l = 0 ↔ ∀ b ∈ l, b = 0
  | [] => by simp [joinN]
  | b :: t => by
    have h := joinN_zero t
    simp only [joinN, List.mem_cons, forall_eq_or_imp]
    rw [← h]
    omega
theorem zeros_of {l : List Nat} (h : ∀ b ∈ l, b = 0) : l = List.replicate l.length 0 := List.eq_replicate_iff.2 ⟨rfl, h⟩
theorem pad8_eq (r : List Nat) (h : r.length ≤ 8) : pad8 r = r ++ List.replicate (8 - r.length) 0 := by
  apply List.ext_getElem
  · simp [pad8]; omega
  · intro i h1 h2
    have h8 : i < 8 := by rw [pad8_length] at h1; exact h1
    simp only [pad8, List.getElem_map, List.getElem_range]
    by_cases hi : i < r.length
    · rw [List.getElem_append_left hi, List.getD_eq_getElem?_getD, List.getElem?_eq_getElem hi, Option.getD_some]
    · rw [List.getElem_append_right (by omega), List.getElem_replicate, List.getD_eq_getElem?_getD, List.getElem?_eq_none (by omega)]
      rfl
theorem bytes_join_pad (r : List Nat) (hb : Byts r) (h : r.length ≤ 8) : bytesN (joinN r) = r ++ List.replicate (8 - r.length) 0 := by
  rw [← pad8_join r h, join_bytes (pad8 r) (pad8_length r) (pad8_byts r hb), pad8_eq r h]
theorem spr_cut_pad (b : List Nat) (hb : Byts b) : spr (cutN b) = b ++ List.replicate (8 * ((b.length + 7) / 8) - b.length) 0 := by
  by_cases h : b.length % 8 = 0
  · rw [spr_cut b hb h, show 8 * ((b.length + 7) / 8) - b.length = 0 from by omega]
    simp
  · unfold cutN
    obtain ⟨q, hq⟩ : ∃ q, q = b.length / 8 := ⟨_, rfl⟩
    rw [show (b.length + 7) / 8 = q + 1 from by omega, cutTo_succ, spr_append, spr_cutTo b hb q (by omega), spr_cons]
    have e : spr [] = [] := rfl
    have hr : ((b.drop (8 * q)).take 8) = b.drop (8 * q) := List.take_of_length_le (by rw [List.length_drop]; omega)
    unfold wordAt
    rw [e, List.append_nil, hr, bytes_join_pad _ (fun x hx => hb x (List.mem_of_mem_drop hx)) (by rw [List.length_drop]; omega), ← List.append_assoc, List.take_append_drop, List.length_drop]
    congr 2
    omega
theorem spr_cut_take (b : List Nat) (hb : Byts b) : (spr (cutN b)).take b.length = b := by
  rw [spr_cut_pad b hb, List.take_append_of_le_length (Nat.le_refl _), List.take_of_length_le (Nat.le_refl _)]
theorem spr_cut_drop (b : List Nat) (hb : Byts b) : joinN ((spr (cutN b)).drop b.length) = 0 := by
  rw [spr_cut_pad b hb, List.drop_left, joinN_zero]
  intro x hx
  exact (List.mem_replicate.1 hx).2
theorem wordAt_pad (X : List Nat) (z j : Nat) : wordAt (X ++ List.replicate z 0) j = wordAt X j := by
  unfold wordAt
  rw [List.drop_append, List.take_append, List.drop_replicate, List.take_replicate, joinN_zeros]
theorem cut_take (t : List Nat) (n : Nat) (ht : Wrds t) (h1 : n ≤ 8 * t.length) (h2 : 8 * t.length - n < 8) (hz : joinN ((spr t).drop n) = 0) : cutN ((spr t).take n) = t := by
  have hs := cut_spr t ht
  have hlen := spr_length t
  have hd := zeros_of ((joinN_zero _).1 hz)
  have hX : ((spr t).take n).length = n := by rw [List.length_take]; omega
  have e : spr t = (spr t).take n ++ List.replicate ((spr t).drop n).length 0 := by rw [← hd, List.take_append_drop]
  have h3 : cutN (spr t) = cutTo (spr t) t.length := by unfold cutN; rw [hlen]; congr 1; omega
  have h4 : cutN ((spr t).take n) = cutTo ((spr t).take n) t.length := by unfold cutN; rw [hX]; congr 1; omega
  have h5 : cutTo ((spr t).take n) t.length = cutTo (spr t) t.length := by
    unfold cutTo
    apply List.map_congr_left
    intro j _
    conv => rhs; rw [e]
    rw [wordAt_pad]
  rw [h4, h5, ← h3, hs]
theorem strOf_strN (s : ByteArray) : strOf (strN s) = s := by
  apply ByteArray.ext
  apply Array.toList_inj.1
  show ((strN s).map UInt8.ofNat).toArray.toList = _
  unfold strN
  rw [List.map_map]
  conv => rhs; rw [← List.map_id s.data.toList]
  apply List.map_congr_left
  intro u _
  exact UInt8.ofNat_toNat
/-- The text of words that are one, packed. -/
def textOf (n : Nat) (t : List Nat) : ByteArray := strOf ((spr t).take n)
theorem pack_text (n : Nat) (t : List Nat) (ht : Wrds t) (h1 : n ≤ 8 * t.length) (h2 : 8 * t.length - n < 8) (hz : joinN ((spr t).drop n) = 0) : packN (textOf n t) = n :: t := by
  have hX : ((spr t).take n).length = n := by rw [List.length_take, spr_length]; omega
  unfold packN textOf
  rw [strN_strOf _ (fun b hb => spr_byts t b (List.mem_of_mem_take hb)), cut_take t n ht h1 h2 hz, strOf_size, hX]
theorem text_pack (s : ByteArray) : textOf s.size (cutN (strN s)) = s := by
  unfold textOf
  have h := spr_cut_take (strN s) (strN_byts s)
  rw [strN_length] at h
  rw [h, strOf_strN]
end Go.Proofs.Ytjpdmdplcecglaa
