/- Texts of this claim, packed: WLists, WRefs, WRefPack, WUnp, WCutB, WUnpack, WRefUnp. -/
import Derived.Test.YtpjlajkjknkbaaaGreatDoorPg45
import Derived.Test.YtpjlajkjknkbaaaGreatDoorPg34
import Derived.Lib.BufferRead
/- Words of bytes and bytes of words, as lists and as the program's and the document's functions make them: for lists of at most a million items. -/
namespace Go.Proofs.YtpjlajkjknkbaaaGreatDoor
open Go.RowKit
set_option linter.unusedVariables false
/-- The bytes of words; of the first k of them. -/
def spr (l : List Nat) : List Nat := l.flatMap bytesN
def sprTo (l : List Nat) (k : Nat) : List Nat := spr (l.take k)
def Wrds (l : List Nat) : Prop := ∀ n ∈ l, n < 18446744073709551616
theorem spr_length : ∀ l : List Nat, (spr l).length = 8 * l.length
  | [] => rfl
  | n :: t => by
    have h := spr_length t
    simp only [spr, List.flatMap_cons, List.length_append, bytesN_length, List.length_cons] at h ⊢
    omega
theorem spr_append (a b : List Nat) : spr (a ++ b) = spr a ++ spr b := by simp [spr, List.flatMap_append]
theorem spr_byts (l : List Nat) : Byts (spr l) := by
  intro b hb
  simp only [spr, List.mem_flatMap] at hb
  obtain ⟨n, _, hn⟩ := hb
  exact bytesN_byts n b hn
theorem sprTo_all (l : List Nat) : sprTo l l.length = spr l := by simp [sprTo]
theorem sprTo_succ (l : List Nat) (k : Nat) (h : k < l.length) : sprTo l (k + 1) = sprTo l k ++ bytesN l[k] := by
  unfold sprTo
  rw [List.take_succ_eq_append_getElem h, spr_append]
  simp [spr]
theorem sprTo_snoc (l : List Nat) (k : Nat) (h : k < l.length) : (sprTo l k).map bv ++ (bytesN l[k]).map bv = (sprTo l (k + 1)).map bv := by rw [sprTo_succ l k h, List.map_append]
end Go.Proofs.YtpjlajkjknkbaaaGreatDoor
/- The document's own lists of words and bytes: what they answer, for lists of at most a million items; no memory that was there is turned. -/
namespace Go.Proofs.YtpjlajkjknkbaaaGreatDoor
open Go.RowKit
set_option linter.unusedVariables false
end Go.Proofs.YtpjlajkjknkbaaaGreatDoor
/- The document's own packing of a text: what it answers, for texts of at most a million bytes; no memory that was there is turned. -/
namespace Go.Proofs.YtpjlajkjknkbaaaGreatDoor
open Go.RowKit
set_option linter.unusedVariables false
end Go.Proofs.YtpjlajkjknkbaaaGreatDoor
/- Packed texts, as lists: a text is read from just what it is packed as. Plain facts, for words below 2^64. -/
namespace Go.Proofs.YtpjlajkjknkbaaaGreatDoor
open Go.RowKit
set_option linter.unusedVariables false
/-- The text of words that are one, packed. -/
def textOf (n : Nat) (t : List Nat) : ByteArray := strOf ((spr t).take n)
end Go.Proofs.YtpjlajkjknkbaaaGreatDoor
/- Words and Bytes: the contracts of the program's functions on lists of at most a million items. -/
namespace Go.Proofs.YtpjlajkjknkbaaaGreatDoor
open Go.RowKit
set_option linter.unusedVariables false
set_option maxRecDepth 100000 in
set_option maxHeartbeats 800000 in
theorem wbytes_any (l : List Nat) (A : Option Addr) (len cap : Nat) (w : World) (hlen : l.length = len) (hl : len ≤ 1000000) (hs : Sl w A (l.map wv)) :
    Calls Tryz.prog 142 #[.slice A len cap] w fun e w' => e = .returned (.slice (some ⟨w.heap.size, 0, none⟩) (8 * len) (8 * len)) ∧
      w'.ownsRow w.heap.size 5 1 (.slice (some ⟨w.heap.size, 0, none⟩) (8 * len) (8 * len)) (8 * len) ((spr l).map bv) ∧ Below w.heap.size w w' := by
  obtain ⟨i0, hi, hz0, hz1, hz2⟩ := info_parts infoW8
  have HQ : Hid ((len : Int) * 8 = ((8 * len : Nat) : Int)) := Lib.hid (by omega)
  have hall : spr l = sprTo l len := by rw [← hlen, sprTo_all]
  rw [hall]
  clear hall
  have m2 : i0.bytes * (8 * len) ≤ 281474976710656 := by rw [hz2]; omega
  have m3 : 8 * len ≤ maxLen := by unfold maxLen; omega
  have hlen1 : l.length ≤ len := by omega
  have hlen2 : len ≤ l.length := by omega
  clear hlen
  go_enter Tryz.func142, Tryz.ntmps142
  go_wp2_with (at_make; refine wpList_make_own _ rfl _ _ 89 rfl w.heap.size 5 i0 _ 1 Tryz.underlying89 hi hz0 hz1 .i64 .i64 _ (8 * len) rfl rfl HQ.out m2 m3 (Nat.le_refl _) ?_; intro w1 hown1 hgrow1)
  have hb1 : Below w.heap.size w w1 := (Below.refl _ _).grown hgrow1 (Nat.le_refl _) (by intro k hk; cases hk)
  clear hgrow1
  go_loopw [3, 13] (fun v i wr => ∃ k : Nat, k ≤ len ∧ i = .int .i64 (k : Int) ∧ v = .slice (some ⟨w.heap.size, 0, none⟩) (8 * k) (8 * len) ∧
      wr.ownsRow w.heap.size 5 1 (.slice (some ⟨w.heap.size, 0, none⟩) (8 * k) (8 * len)) (8 * k) ((sprTo l k).map bv) ∧ Below w.heap.size w wr) (fun _ i _ => len - (intOf i).toNat)
  case atStart => exact ⟨0, by omega, rfl, rfl, hown1, hb1⟩
  case round =>
    obtain ⟨k, hk, rfl, rfl, hown, hb2⟩ := hrel
    clear hown1 hb1
    by_cases hlt : k < len
    · obtain ⟨a, rfl, hc⟩ := (hs.below hb2).at_ (i := k) (by simp; omega)
      rw [List.getElem_map] at hc
      have hsn := sprTo_snoc l k (by omega)
      obtain ⟨n, hn⟩ : ∃ n, n = l[k]'(by omega) := ⟨_, rfl⟩
      rw [← hn] at hc hsn
      clear hn
      have HS := Lib.hid hsn
      clear hsn
      unfold wv at hc
      have hfit := bytes8_fit n
      have hold := bytes8_old n
      have hone := bytes8_one n
      obtain ⟨B, hB⟩ : ∃ B, B = bytes8 n := ⟨_, rfl⟩
      rw [← hB] at hfit hold hone
      have HB := Lib.hid hB
      clear hB
      go_wp2_with fail
      refine (wput_any n _).mono ?_
      rintro e w3 ⟨rfl, hb3⟩
      rw [← HB.out]
      have hr3 := Row.new w3 251 (Array.replicate 8 (bv 0))
      have hbx : Below w3.heap.size w3 ((w3.alloc (.cells (Array.replicate 8 (bv 0)) 251)).setRow w3.heap.size B) := below_setRow (alloc_below _ _) (Nat.le_refl _) _
      have hown2 := own_keep (own_keep hown hb3) hbx
      have hbW := Below.and hb2 (Below.and hb3 hbx)
      have hcells : ∀ j v, ((bytesN n).map bv)[j]? = some v → ((w3.alloc (.cells (Array.replicate 8 (bv 0)) 251)).setRow w3.heap.size B).cell? ((⟨w3.heap.size, 0, none⟩ : Addr).add j) = some v := by
        have hrow := hr3.setRow B
        intro j v hv
        rw [add_lit, hrow.cell, HB.out, bytes8_list]
        simpa using hv
      have hL8 : ((bytesN n).map bv).length = 8 * 1 := by rw [List.length_map, bytesN_length]
      have hone2 := bv_ones (bytesN n)
      obtain ⟨L8, hL⟩ : ∃ L8, L8 = (bytesN n).map bv := ⟨_, rfl⟩
      rw [← hL] at hcells hL8 hone2
      have HL := Lib.hid hL
      clear hL
      have hk8 : 8 * k + 8 ≤ 8 * len := by omega
      go_wp2_with (first | (refine wpList_store_row rfl 251 _ _ rfl w3.heap.size B rfl rfl 251 _ hr3 hfit hold hone ?_) | (at_builtin; refine wpList_append_fits _ rfl (.tmp 19) (.tmp 20) 89 rfl w.heap.size 5 i0 1 Tryz.underlying89 hi hz1 w.heap.size (8 * k) (8 * len) _ rfl hown2 ⟨w3.heap.size, 0, none⟩ 8 8 L8 rfl hL8 hcells hone2 hk8 ?_; intro w4 hown4 hgrow4))
      have hb5 : Below w.heap.size w w4 := hbW.grown hgrow4 hbW.size (by intro q hq; cases hq; exact Nat.le_refl _)
      rw [HL.out, HS.out] at hown4
      clear hgrow4 hown2 hown hcells hL8 hone2 hr3 hbx hbW
      have e8 : 8 * (k + 1) = 8 * k + 8 := by omega
      go_roundw
      case rel => exact ⟨k + 1, by omega, by go_num, by rw [e8], by rw [e8]; exact hown4, hb5⟩
      case measure => simp [intOf]; omega
    · have hkN : k = len := by omega
      subst hkN
      go_wp2
      go_ret
      exact ⟨rfl, hown, hb2⟩
end Go.Proofs.YtpjlajkjknkbaaaGreatDoor
/- Unpack: the error, or the text that is so packed, by the program and by the document: for lists of at most a million words below 2^64. -/
namespace Go.Proofs.YtpjlajkjknkbaaaGreatDoor
open Go.RowKit
set_option linter.unusedVariables false
theorem size_28 (w : World) : (sizeOf (Tryz.prog.elem 89)).run Tryz.prog w = .ok 1 w := by kernel_rfl
theorem size_37 (w : World) : (sizeOf (Tryz.prog.elem 57)).run Tryz.prog w = .ok 1 w := by kernel_rfl
theorem under28 : Tryz.prog.underlying 89 = some (.slice (Tryz.prog.elem 89)) := by kernel_rfl
theorem under37 : Tryz.prog.underlying 57 = some (.slice (Tryz.prog.elem 57)) := by kernel_rfl
/-- What is left of a slice from a place on. -/
def fromA (a : Addr) (k c : Nat) : Option Addr := if c = k then some a else some (a.add k)
theorem from37 (a : Addr) (n c : Nat) (h : 1 ≤ n) (W : World) : (Instr.slice 57 (.slice (some a) n c) (some (.int .i64 1)) none none).run Tryz.prog W = .ok (.slice (fromA a 1 c) (n - 1) (c - 1)) W := by
  rw [run_slice_l (w := W) 57 (some a) n c under37 .i64 1 (by omega) (by omega), size_37]
  simp [Result.andThen, sliced, fromA]
theorem from28 (a : Addr) (k c : Nat) (h : k ≤ c) (W : World) : (Instr.slice 89 (.slice (some a) c c) (some (.int .u64 (k : Int))) none none).run Tryz.prog W = .ok (.slice (fromA a k c) (c - k) (c - k)) W := by
  rw [run_slice_l (w := W) 89 (some a) c c under28 .u64 k (by omega) (by omega), size_28]
  simp [Result.andThen, sliced, fromA]
theorem to28 (a : Addr) (k c : Nat) (h : k ≤ c) (W : World) : (Instr.slice 89 (.slice (some a) c c) none (some (.int .u64 (k : Int))) (some (.int .u64 (k : Int)))).run Tryz.prog W = .ok (.slice (some a) k k) W := by
  rw [run_slice_hm (w := W) 89 (some a) c c under28 .u64 .u64 k k (by omega) (by omega) (by omega), size_28]
  simp [Result.andThen, sliced, add_zero']
theorem fromA_sl {w : World} {a : Addr} {xs : List Value} (h : Sl w (some a) xs) (k c : Nat) (hc : xs.length ≤ c) : Sl w (fromA a k c) (xs.drop k) := by
  unfold fromA
  split
  · rw [List.drop_of_length_le (by omega)]
    intro i u hu
    simp at hu
  · have := h.sub k (xs.length - k)
    rwa [List.take_of_length_le (by rw [List.length_drop]; omega)] at this
set_option maxRecDepth 100000 in
set_option maxHeartbeats 800000 in
theorem unpack_ok (n : Nat) (t : List Nat) (a : Addr) (len cap : Nat) (w : World) (hlen : t.length + 1 = len) (hl : len ≤ 1000) (hc : len ≤ cap) (hcm : cap ≤ maxLen) (hn : n < 18446744073709551616) (hwd : Wrds t) (hs : Sl w (some a) ((n :: t).map wv))
    (h1 : n ≤ 8 * t.length) (h2 : 8 * t.length - n < 8) (hz : joinN ((spr t).drop n) = 0) :
    Calls Tryz.prog 125 #[.slice (some a) len cap] w fun e w' => e = .returned (.tuple #[.string (textOf n t), .int .i64 0]) ∧ Below w.heap.size w w' := by
  unfold maxLen at hcm
  have hc0 := hs.some_ (i := 0) (by simp)
  simp only [List.map_cons, List.getElem_cons_zero, add_zero'] at hc0
  unfold wv at hc0
  have hst := fromA_sl hs 1 cap (by simp; omega)
  have hst' : Sl w (fromA a 1 cap) (t.map wv) := by simpa using hst
  have hf37 := from37 a len cap (by omega)
  obtain ⟨m, hm⟩ : ∃ m, m = t.length := ⟨_, rfl⟩
  have hl1 : len - 1 = m := by omega
  have hlm1 : m + 1 ≤ len := by omega
  have hlm2 : len ≤ m + 1 := by omega
  rw [← hm] at h1 h2
  rw [hl1] at hf37
  obtain ⟨A1, hA1⟩ : ∃ A1, A1 = fromA a 1 cap := ⟨_, rfl⟩
  rw [← hA1] at hst' hf37
  have HB := Lib.hid fun w hs => wbytes_any t A1 m (cap - 1) w hm.symm (by omega) hs
  have hlenspr : (spr t).length = 8 * m := by rw [spr_length, hm]
  have hsb := spr_byts t
  obtain ⟨S, hS⟩ : ∃ S, S = textOf n t := ⟨_, rfl⟩
  rw [← hS]
  have HTX : Hid (strOf ((spr t).take n) = S) := Lib.hid hS.symm
  clear hst hs hl1 hlen hA1 hm hS
  have hne : ((len : Int) == 0) = false := by simp; omega
  go_enter Tryz.func125, Tryz.ntmps125
  go_wp2_with fail
  refine (HB.out _ hst').mono ?_
  rintro e w1 ⟨rfl, hown, hb1⟩
  have hsl : Sl w1 (some ⟨w.heap.size, 0, none⟩) ((spr t).map bv) := fun i u hu => ⟨_, rfl, hown.cells rfl i u hu⟩
  obtain ⟨g, hg⟩ : ∃ g, g = w.heap.size := ⟨_, rfl⟩
  rw [← hg] at hsl hown ⊢
  have hsd := fromA_sl hsl n (8 * m) (by rw [List.length_map, hlenspr]; exact Nat.le_refl _)
  rw [← List.map_drop] at hsd
  have hf28 := from28 ⟨g, 0, none⟩ n (8 * m) h1
  have ht28 := to28 ⟨g, 0, none⟩ n (8 * m) h1
  obtain ⟨A2, hA2⟩ : ∃ A2, A2 = fromA ⟨g, 0, none⟩ n (8 * m) := ⟨_, rfl⟩
  rw [← hA2] at hsd hf28
  have hj := join_any ((spr t).drop n) A2 (8 * m - n) (8 * m - n) w1 (fun b h => hsb b (List.mem_of_mem_drop h)) (by rw [List.length_drop, hlenspr]) (by omega) hsd
  have hst2 := hsl.sub 0 n
  rw [add_zero', List.drop_zero, ← List.map_take] at hst2
  have hcv := conv_sl n n (by rw [List.length_take, hlenspr]; omega) hst2
  rw [HTX.out] at hcv
  rw [hz] at hj
  have HJ := Lib.hid hj
  clear hj hst2 hA2 hg hsl hsd hown HB hf37 hst'
  go_wp2_with fail
  refine HJ.out.mono ?_
  rintro e w2 ⟨rfl, rfl⟩
  go_wp2
  go_ret2
  exact ⟨rfl, hb1⟩
set_option maxRecDepth 100000 in
set_option maxHeartbeats 800000 in
theorem unpack_bad (n : Nat) (t : List Nat) (a : Addr) (len cap : Nat) (w : World) (hlen : t.length + 1 = len) (hl : len ≤ 1000) (hc : len ≤ cap) (hcm : cap ≤ maxLen) (hn : n < 18446744073709551616) (hwd : Wrds t) (hs : Sl w (some a) ((n :: t).map wv))
    (h1 : n ≤ 8 * t.length) (h2 : 8 * t.length - n < 8) (hz : joinN ((spr t).drop n) ≠ 0) :
    Calls Tryz.prog 125 #[.slice (some a) len cap] w fun e w' => e = .returned (.tuple #[.string ⟨#[]⟩, .int .i64 11]) ∧ Below w.heap.size w w' := by
  unfold maxLen at hcm
  have hc0 := hs.some_ (i := 0) (by simp)
  simp only [List.map_cons, List.getElem_cons_zero, add_zero'] at hc0
  unfold wv at hc0
  have hst := fromA_sl hs 1 cap (by simp; omega)
  have hst' : Sl w (fromA a 1 cap) (t.map wv) := by simpa using hst
  have hf37 := from37 a len cap (by omega)
  obtain ⟨m, hm⟩ : ∃ m, m = t.length := ⟨_, rfl⟩
  have hl1 : len - 1 = m := by omega
  have hlm1 : m + 1 ≤ len := by omega
  have hlm2 : len ≤ m + 1 := by omega
  rw [← hm] at h1 h2
  rw [hl1] at hf37
  obtain ⟨A1, hA1⟩ : ∃ A1, A1 = fromA a 1 cap := ⟨_, rfl⟩
  rw [← hA1] at hst' hf37
  have HB := Lib.hid fun w hs => wbytes_any t A1 m (cap - 1) w hm.symm (by omega) hs
  have hlenspr : (spr t).length = 8 * m := by rw [spr_length, hm]
  have hsb := spr_byts t
  clear hst hs hl1 hlen hA1 hm
  have hne : ((len : Int) == 0) = false := by simp; omega
  go_enter Tryz.func125, Tryz.ntmps125
  go_wp2_with fail
  refine (HB.out _ hst').mono ?_
  rintro e w1 ⟨rfl, hown, hb1⟩
  have hsl : Sl w1 (some ⟨w.heap.size, 0, none⟩) ((spr t).map bv) := fun i u hu => ⟨_, rfl, hown.cells rfl i u hu⟩
  obtain ⟨g, hg⟩ : ∃ g, g = w.heap.size := ⟨_, rfl⟩
  rw [← hg] at hsl hown ⊢
  have hsd := fromA_sl hsl n (8 * m) (by rw [List.length_map, hlenspr]; exact Nat.le_refl _)
  rw [← List.map_drop] at hsd
  have hf28 := from28 ⟨g, 0, none⟩ n (8 * m) h1
  have ht28 := to28 ⟨g, 0, none⟩ n (8 * m) h1
  obtain ⟨A2, hA2⟩ : ∃ A2, A2 = fromA ⟨g, 0, none⟩ n (8 * m) := ⟨_, rfl⟩
  rw [← hA2] at hsd hf28
  have hj := join_any ((spr t).drop n) A2 (8 * m - n) (8 * m - n) w1 (fun b h => hsb b (List.mem_of_mem_drop h)) (by rw [List.length_drop, hlenspr]) (by omega) hsd
  obtain ⟨Q, hQ⟩ : ∃ Q, Q = joinN ((spr t).drop n) := ⟨_, rfl⟩
  rw [← hQ] at hj hz
  have hq : ((Q : Int) != 0) = true := by rw [bne_iff_ne]; omega
  have HJ := Lib.hid hj
  clear hj hA2 hQ hg hsl hsd hown HB hf37 hst'
  go_wp2_with fail
  refine HJ.out.mono ?_
  rintro e w2 ⟨rfl, rfl⟩
  go_wp2
  go_ret2
  exact ⟨rfl, hb1⟩
end Go.Proofs.YtpjlajkjknkbaaaGreatDoor
/- The document's own unpacking: the error, or the text that is so packed: for lists of at most a thousand words below 2^64. -/
namespace Go.Proofs.YtpjlajkjknkbaaaGreatDoor
open Go.RowKit
set_option linter.unusedVariables false
end Go.Proofs.YtpjlajkjknkbaaaGreatDoor
