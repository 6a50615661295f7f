/- Words and Bytes: the contracts of the program's functions on lists of at most a million items. -/
import Derived.Test.YtjpdmdplcecglaaLists
namespace Go.Proofs.Ytjpdmdplcecglaa
open Go.RowKit
set_option linter.unusedVariables false
set_option maxHeartbeats 800000 in
theorem cutB_any (l : List Nat) (A : Option Addr) (len cap : Nat) (w : World) (hlen : l.length = len) (hl : len ≤ 1000000) (hc : len ≤ cap) (hb : Byts l) (hs : Sl w A (l.map bv)) :
    Calls Try.prog 33 #[.slice A len cap] w fun e w' => e = .returned (.slice (some ⟨w.heap.size, 0, none⟩) ((len + 7) / 8) ((len + 7) / 8)) ∧
      w'.ownsRow w.heap.size 22 1 (.slice (some ⟨w.heap.size, 0, none⟩) ((len + 7) / 8) ((len + 7) / 8)) ((len + 7) / 8) ((cutN l).map wv) ∧ Below w.heap.size w w' := by
  obtain ⟨i0, hi, hz0, hz1, hz2⟩ := info_parts info22
  obtain ⟨N, hN⟩ : ∃ N, N = (len + 7) / 8 := ⟨_, rfl⟩
  have hN1 : 8 * N ≤ len + 7 := by omega
  have hN2 : len ≤ 8 * N := by omega
  have hq : ((len : Int) + 8 - 1) / 8 = (N : Int) := by omega
  have hcut : cutN l = cutTo l N := by unfold cutN; rw [hlen, hN]
  rw [← hN, hcut]
  clear hN hcut
  have m2 : i0.bytes * N ≤ 281474976710656 := by rw [hz2]; omega
  have m3 : N ≤ maxLen := by unfold maxLen; omega
  have HLEN := Lib.hid hlen
  have hlen1 : l.length ≤ len := by omega
  have hlen2 : len ≤ l.length := by omega
  clear hlen
  go_enter Try.func33, Try.ntmps33
  go_wp2_with (at_make; refine wpList_make_own _ rfl _ _ 37 rfl w.heap.size 22 i0 _ 1 Try.underlying37 hi hz0 hz1 .i64 .i64 _ N rfl rfl hq m2 m3 (Nat.le_refl _) ?_; intro w1 hown1 hgrow1)
  clear hq
  have hb1 : Below w.heap.size w w1 := (Below.refl _ _).grown hgrow1 (Nat.le_refl _) (by intro k hk; cases hk)
  clear hgrow1
  go_loopw [3, 4] (fun v i wr => ∃ k : Nat, k ≤ N ∧ i = .int .i64 ((8 * k : Nat) : Int) ∧ v = .slice (some ⟨w.heap.size, 0, none⟩) k N ∧
      wr.ownsRow w.heap.size 22 1 (.slice (some ⟨w.heap.size, 0, none⟩) k N) k ((cutTo l k).map wv) ∧ Below w.heap.size w wr) (fun _ i _ => 8 * N - (intOf i).toNat)
  case atStart => exact ⟨0, by omega, rfl, rfl, hown1, hb1⟩
  case round =>
    obtain ⟨k, hk, rfl, rfl, hown, hb2⟩ := hrel
    by_cases hlt : 8 * k < len
    · obtain ⟨a, rfl, _⟩ := hs.at_ (i := 8 * k) (by simp; omega)
      have hsr := (hs.below hb2).sub (8 * k) 8
      rw [← List.map_drop, ← List.map_take] at hsr
      have hbr : Byts ((l.drop (8 * k)).take 8) := fun b h => hb b (List.mem_of_mem_drop (List.mem_of_mem_take h))
      have hlr : ((l.drop (8 * k)).take 8).length = (min (8 * (k : Int) + 8) (len : Int)).toNat - 8 * k := by rw [List.length_take, List.length_drop]; omega
      have HJ := Lib.hid fun c => join_any ((l.drop (8 * k)).take 8) (some (a.add (8 * k))) _ c wr hbr hlr (by omega) hsr
      have hkN : k + 1 ≤ N := by omega
      clear hsr hbr hlr
      go_wp2_with fail
      refine (HJ.out _).mono ?_
      rintro e w' ⟨rfl, rfl⟩
      have hw : joinN ((l.drop (8 * k)).take 8) = wordAt l k := rfl
      rw [hw]
      clear hw HJ hs
      have hown2 := hown.alloc (.cells #[wv (wordAt l k)] 22)
      go_wp2_with (at_builtin; refine wpList_append_fits _ rfl (.tmp 17) (.tmp 27) 37 rfl w.heap.size 22 i0 1 Try.underlying37 hi hz1 w.heap.size k N _ rfl hown2 ⟨wr.heap.size, 0, none⟩ 1 1 [wv (wordAt l k)] rfl rfl (cell_one_new _ _ _) (wv_ones [wordAt l k]) hkN ?_; intro w2 hown3 hgrow)
      have hb3 : Below w.heap.size w w2 := (hb2.alloc hb2.size _).grown hgrow (by have := hb2.size; simp; omega) (by intro q hq; cases hq; exact Nat.le_refl _)
      rw [cutTo_snoc] at hown3
      clear hgrow hown2 hown
      go_roundw
      case rel => exact ⟨k + 1, by omega, by go_num, rfl, hown3, hb3⟩
      case measure => simp [intOf]; omega
    · have hkN : k = N := by omega
      subst hkN
      go_wp2
      go_ret
      exact ⟨rfl, hown, hb2⟩
set_option maxHeartbeats 400000 in
theorem words_no (A : Option Addr) (len cap : Nat) (w : World) (hl : len ≤ 1000000) (h : len % 8 ≠ 0) :
    Calls Try.prog 19 #[.slice A len cap] w fun e w' => e = .returned (.tuple #[.slice none 0 0, .int .i64 2]) ∧ w = w' := by
  have hd : (((len : Int) % 8) != 0) = true := by rw [bne_iff_ne]; omega
  go_enter Try.func19, Try.ntmps19
  go_wp2
  go_ret2
  exact ⟨rfl, rfl⟩
set_option maxHeartbeats 400000 in
theorem words_yes (l : List Nat) (A : Option Addr) (len cap : Nat) (w : World) (hlen : l.length = len) (hl : len ≤ 1000000) (hc : len ≤ cap) (hb : Byts l) (hs : Sl w A (l.map bv)) (h : len % 8 = 0) :
    Calls Try.prog 19 #[.slice A len cap] w fun e w' => ∃ v, e = .returned (.tuple #[v, .int .i64 0]) ∧ w'.ownsRow w.heap.size 22 1 v (len / 8) ((cutN l).map wv) ∧ Below w.heap.size w w' := by
  have hd : (((len : Int) % 8) != 0) = false := by rw [bne_eq_false_iff_eq]; omega
  have H := Lib.hid (cutB_any l A len cap w hlen hl hc hb hs)
  rw [show (len + 7) / 8 = len / 8 from by omega] at H
  clear h hs
  go_enter Try.func19, Try.ntmps19
  go_wp2_with fail
  refine H.out.mono ?_
  rintro e w1 ⟨rfl, hown, hb1⟩
  go_wp2
  go_ret2
  exact ⟨_, rfl, hown, hb1⟩
set_option maxHeartbeats 800000 in
theorem bytes_any (l : List Nat) (A : Option Addr) (len cap : Nat) (w : World) (hlen : l.length = len) (hl : len ≤ 1000000) (hs : Sl w A (l.map wv)) :
    Calls Try.prog 22 #[.slice A len cap] w fun e w' => e = .returned (.slice (some ⟨w.heap.size, 0, none⟩) (8 * len) (8 * len)) ∧
      w'.ownsRow w.heap.size 5 1 (.slice (some ⟨w.heap.size, 0, none⟩) (8 * len) (8 * len)) (8 * len) ((spr l).map bv) ∧ Below w.heap.size w w' := by
  obtain ⟨i0, hi, hz0, hz1, hz2⟩ := info_parts info5
  have HQ : Hid ((len : Int) * 8 = ((8 * len : Nat) : Int)) := Lib.hid (by omega)
  have hall : spr l = sprTo l len := by rw [← hlen, sprTo_all]
  rw [hall]
  clear hall
  have m2 : i0.bytes * (8 * len) ≤ 281474976710656 := by rw [hz2]; omega
  have m3 : 8 * len ≤ maxLen := by unfold maxLen; omega
  have hlen1 : l.length ≤ len := by omega
  have hlen2 : len ≤ l.length := by omega
  clear hlen
  go_enter Try.func22, Try.ntmps22
  go_wp2_with (at_make; refine wpList_make_own _ rfl _ _ 28 rfl w.heap.size 5 i0 _ 1 Try.underlying28 hi hz0 hz1 .i64 .i64 _ (8 * len) rfl rfl HQ.out m2 m3 (Nat.le_refl _) ?_; intro w1 hown1 hgrow1)
  have hb1 : Below w.heap.size w w1 := (Below.refl _ _).grown hgrow1 (Nat.le_refl _) (by intro k hk; cases hk)
  clear hgrow1
  go_loopw [3, 13] (fun v i wr => ∃ k : Nat, k ≤ len ∧ i = .int .i64 (k : Int) ∧ v = .slice (some ⟨w.heap.size, 0, none⟩) (8 * k) (8 * len) ∧
      wr.ownsRow w.heap.size 5 1 (.slice (some ⟨w.heap.size, 0, none⟩) (8 * k) (8 * len)) (8 * k) ((sprTo l k).map bv) ∧ Below w.heap.size w wr) (fun _ i _ => len - (intOf i).toNat)
  case atStart => exact ⟨0, by omega, rfl, rfl, hown1, hb1⟩
  case round =>
    obtain ⟨k, hk, rfl, rfl, hown, hb2⟩ := hrel
    clear hown1 hb1
    by_cases hlt : k < len
    · obtain ⟨a, rfl, hc⟩ := (hs.below hb2).at_ (i := k) (by simp; omega)
      rw [List.getElem_map] at hc
      have hsn := sprTo_snoc l k (by omega)
      obtain ⟨n, hn⟩ : ∃ n, n = l[k]'(by omega) := ⟨_, rfl⟩
      rw [← hn] at hc hsn
      clear hn
      have HS := Lib.hid hsn
      clear hsn
      unfold wv at hc
      have hfit := bytes8_fit n
      have hold := bytes8_old n
      have hone := bytes8_one n
      obtain ⟨B, hB⟩ : ∃ B, B = bytes8 n := ⟨_, rfl⟩
      rw [← hB] at hfit hold hone
      have HB := Lib.hid hB
      clear hB
      go_wp2_with fail
      refine (put_any n _).mono ?_
      rintro e w3 ⟨rfl, hb3⟩
      rw [← HB.out]
      have hr3 := Row.new w3 23 (Array.replicate 8 (bv 0))
      have hbx : Below w3.heap.size w3 ((w3.alloc (.cells (Array.replicate 8 (bv 0)) 23)).setRow w3.heap.size B) := below_setRow (alloc_below _ _) (Nat.le_refl _) _
      have hown2 := own_keep (own_keep hown hb3) hbx
      have hbW := Below.and hb2 (Below.and hb3 hbx)
      have hcells : ∀ j v, ((bytesN n).map bv)[j]? = some v → ((w3.alloc (.cells (Array.replicate 8 (bv 0)) 23)).setRow w3.heap.size B).cell? ((⟨w3.heap.size, 0, none⟩ : Addr).add j) = some v := by
        have hrow := hr3.setRow B
        intro j v hv
        rw [add_lit, hrow.cell, HB.out, bytes8_list]
        simpa using hv
      have hL8 : ((bytesN n).map bv).length = 8 * 1 := by rw [List.length_map, bytesN_length]
      have hone2 := bv_ones (bytesN n)
      obtain ⟨L8, hL⟩ : ∃ L8, L8 = (bytesN n).map bv := ⟨_, rfl⟩
      rw [← hL] at hcells hL8 hone2
      have HL := Lib.hid hL
      clear hL
      have hk8 : 8 * k + 8 ≤ 8 * len := by omega
      go_wp2_with (first | (refine wpList_store_row rfl 23 _ _ rfl w3.heap.size B rfl rfl 23 _ hr3 hfit hold hone ?_) | (at_builtin; refine wpList_append_fits _ rfl (.tmp 19) (.tmp 20) 28 rfl w.heap.size 5 i0 1 Try.underlying28 hi hz1 w.heap.size (8 * k) (8 * len) _ rfl hown2 ⟨w3.heap.size, 0, none⟩ 8 8 L8 rfl hL8 hcells hone2 hk8 ?_; intro w4 hown4 hgrow4))
      have hb5 : Below w.heap.size w w4 := hbW.grown hgrow4 hbW.size (by intro q hq; cases hq; exact Nat.le_refl _)
      rw [HL.out, HS.out] at hown4
      clear hgrow4 hown2 hown hcells hL8 hone2 hr3 hbx hbW
      have e8 : 8 * (k + 1) = 8 * k + 8 := by omega
      go_roundw
      case rel => exact ⟨k + 1, by omega, by go_num, by rw [e8], by rw [e8]; exact hown4, hb5⟩
      case measure => simp [intOf]; omega
    · have hkN : k = len := by omega
      subst hkN
      go_wp2
      go_ret
      exact ⟨rfl, hown, hb2⟩
end Go.Proofs.Ytjpdmdplcecglaa
