/- Words of bytes and bytes of words, as lists and as the program's and the document's functions make them: for lists of at most a million items. -/
import Derived.Test.YtjpdmdplcecglaaBytes
import Derived.Lib.BufferRead
namespace Go.Proofs.Ytjpdmdplcecglaa
open Go.RowKit
set_option linter.unusedVariables false
/-- The bytes of words; of the first k of them. -/
def spr (l : List Nat) : List Nat := l.flatMap bytesN
def sprTo (l : List Nat) (k : Nat) : List Nat := spr (l.take k)
def Wrds (l : List Nat) : Prop := ∀ n ∈ l, n < 18446744073709551616
theorem spr_length : ∀ l : List Nat, (spr l).length = 8 * l.length
  | [] => rfl
  | n :: t => by
    have h := spr_length t
    simp only [spr, List.flatMap_cons, List.length_append, bytesN_length, List.length_cons] at h ⊢
    omega
theorem spr_cons (n : Nat) (t : List Nat) : spr (n :: t) = bytesN n ++ spr t := by simp [spr]
theorem spr_append (a b : List Nat) : spr (a ++ b) = spr a ++ spr b := by simp [spr, List.flatMap_append]
theorem spr_byts (l : List Nat) : Byts (spr l) := by
  intro b hb
  simp only [spr, List.mem_flatMap] at hb
  obtain ⟨n, _, hn⟩ := hb
  exact bytesN_byts n b hn
theorem sprTo_zero (l : List Nat) : sprTo l 0 = [] := rfl
theorem sprTo_all (l : List Nat) : sprTo l l.length = spr l := by simp [sprTo]
theorem sprTo_succ (l : List Nat) (k : Nat) (h : k < l.length) : sprTo l (k + 1) = sprTo l k ++ bytesN l[k] := by
  unfold sprTo
  rw [List.take_succ_eq_append_getElem h, spr_append]
  simp [spr]
theorem sprTo_snoc (l : List Nat) (k : Nat) (h : k < l.length) : (sprTo l k).map bv ++ (bytesN l[k]).map bv = (sprTo l (k + 1)).map bv := by rw [sprTo_succ l k h, List.map_append]
theorem sprTo_length (l : List Nat) (k : Nat) (h : k ≤ l.length) : (sprTo l k).length = 8 * k := by
  unfold sprTo
  rw [spr_length, List.length_take, Nat.min_eq_left h]
theorem spr_drop (l : List Nat) : ∀ j, (spr l).drop (8 * j) = spr (l.drop j) := by
  induction l with
  | nil => intro j; simp [spr]
  | cons n t ih =>
    intro j
    cases j with
    | zero => simp
    | succ j =>
      rw [spr_cons, List.drop_succ_cons, ← ih j, List.drop_append, List.drop_of_length_le (by rw [bytesN_length]; omega), List.nil_append, bytesN_length]
      congr 1
theorem spr_take8 (l : List Nat) (j : Nat) (h : j < l.length) : ((spr l).drop (8 * j)).take 8 = bytesN l[j] := by
  rw [spr_drop, List.drop_eq_getElem_cons h, spr_cons, List.take_append_of_le_length (by rw [bytesN_length]; omega), List.take_of_length_le (by rw [bytesN_length]; omega)]
theorem cut_spr (l : List Nat) (hl : Wrds l) : cutN (spr l) = l := by
  unfold cutN
  rw [spr_length, show (8 * l.length + 7) / 8 = l.length from by omega]
  apply List.ext_getElem
  · rw [cutTo_length]
  · intro i h1 h2
    simp only [cutTo, List.getElem_map, List.getElem_range, wordAt]
    rw [spr_take8 l i h2, bytesN_join _ (hl _ (List.getElem_mem h2))]
theorem join_bytes : ∀ b : List Nat, b.length = 8 → Byts b → bytesN (joinN b) = b := by
  intro b hb h
  match b, hb with
  | [b0, b1, b2, b3, b4, b5, b6, b7], _ =>
    have h0 := h b0 (by simp); have h1 := h b1 (by simp); have h2 := h b2 (by simp); have h3 := h b3 (by simp)
    have h4 := h b4 (by simp); have h5 := h b5 (by simp); have h6 := h b6 (by simp); have h7 := h b7 (by simp)
    have e : ∀ n, bytesN n = [byt n 0, byt n 1, byt n 2, byt n 3, byt n 4, byt n 5, byt n 6, byt n 7] := fun _ => rfl
    rw [e]
    simp only [joinN, byt, up]
    simp only [List.cons.injEq, and_true]
    refine ⟨by omega, by omega, by omega, by omega, by omega, by omega, by omega, by omega⟩
theorem spr_cutTo (b : List Nat) (hb : Byts b) : ∀ k, 8 * k ≤ b.length → spr (cutTo b k) = b.take (8 * k)
  | 0, _ => by simp [cutTo, spr]
  | k + 1, h => by
    rw [cutTo_succ, spr_append, spr_cutTo b hb k (by omega)]
    have e : spr [wordAt b k] = bytesN (wordAt b k) := by simp [spr]
    rw [e]
    unfold wordAt
    rw [join_bytes _ (by rw [List.length_take, List.length_drop]; omega) (fun x hx => hb x (List.mem_of_mem_drop (List.mem_of_mem_take hx)))]
    rw [show 8 * (k + 1) = 8 * k + 8 from by omega, List.take_add]
theorem spr_cut (b : List Nat) (hb : Byts b) (h : b.length % 8 = 0) : spr (cutN b) = b := by
  unfold cutN
  rw [show (b.length + 7) / 8 = b.length / 8 from by omega, spr_cutTo b hb _ (by omega), List.take_of_length_le (by omega)]
theorem cutN_wrds (b : List Nat) (hb : Byts b) : Wrds (cutN b) := by
  intro n hn
  simp only [cutN, cutTo, List.mem_map] at hn
  obtain ⟨i, _, rfl⟩ := hn
  have h := joinN_lt ((b.drop (8 * i)).take 8) (fun x hx => hb x (List.mem_of_mem_drop (List.mem_of_mem_take hx)))
  have h8 : ((b.drop (8 * i)).take 8).length ≤ 8 := List.length_take_le _ _
  have := pow_le8 h8
  unfold wordAt
  omega

theorem slc_nil (w : World) : Sl w none [] := by intro i u hu; simp at hu

/-- The text of bytes. -/
def strOf (l : List Nat) : ByteArray := ⟨(l.map UInt8.ofNat).toArray⟩
theorem strOf_size (l : List Nat) : (strOf l).size = l.length := by
  show (l.map UInt8.ofNat).toArray.size = _
  simp
theorem strN_strOf (l : List Nat) (h : Byts l) : strN (strOf l) = l := by
  unfold strN strOf
  simp only [List.map_map]
  conv => rhs; rw [← List.map_id l]
  apply List.map_congr_left
  intro b hb
  have := h b hb
  simp
  omega
theorem push_fold : ∀ (ns : List Int) (r : ByteArray), ns.foldl (fun r n => r.push (UInt8.ofNat n.toNat)) r = ⟨(r.data.toList ++ ns.map fun n => UInt8.ofNat n.toNat).toArray⟩
  | [], r => by
    simp
  | n :: t, r => by
    rw [List.foldl_cons, push_fold t]
    congr 2
    show (r.data.push (UInt8.ofNat n.toNat)).toList ++ _ = _
    simp
theorem conv_sl {w : World} {a : Addr} {l : List Nat} (n c : Nat) (hn : l.length = n) (hs : Sl w (some a) (l.map bv)) : (convert 28 9 (.slice (some a) n c)).run Try.prog w = .ok (.string (strOf l)) w := by
  have e1 : ((l.map fun b : Nat => (b : Int)).map (Value.int .u8)) = l.map bv := by
    rw [List.map_map]
    rfl
  have h := run_loadCells_list (P := Try.prog) w a (l.map bv) (fun j v hv => by
    obtain ⟨a', e, hc⟩ := hs j v hv
    cases e
    exact hc)
  rw [List.length_map, hn, ← e1] at h
  rw [run_convert_bytes_string w 28 9 5 (some a) n c Try.underlying28 Try.underlying5 Try.underlying9, run_bytesToString w a n c _ h, push_fold]
  congr 3
  show (([] : List UInt8) ++ _).toArray = _
  rw [List.nil_append, List.map_map]
  rfl
theorem conv_nil (w : World) (c : Nat) : (convert 28 9 (.slice none 0 c)).run Try.prog w = .ok (.string (strOf [])) w := Lib.run_convert_nil_bytes w 28 9 5 c Try.underlying28 Try.underlying5 Try.underlying9
theorem conv_any {w : World} {A : Option Addr} {l : List Nat} (n c : Nat) (hn : l.length = n) (hs : Sl w A (l.map bv)) (h0 : A = none → n = 0) : (convert 28 9 (.slice A n c)).run Try.prog w = .ok (.string (strOf l)) w := by
  rcases A with _ | a
  · have := h0 rfl
    subst this
    obtain rfl : l = [] := List.eq_nil_of_length_eq_zero hn
    exact conv_nil w c
  · exact conv_sl n c hn hs
end Go.Proofs.Ytjpdmdplcecglaa
