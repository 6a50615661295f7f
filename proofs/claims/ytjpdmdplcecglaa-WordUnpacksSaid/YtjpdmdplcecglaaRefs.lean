/- The document's own lists of words and bytes: what they answer, for lists of at most a million items; no memory that was there is turned. -/
import Derived.Test.YtjpdmdplcecglaaLists
namespace Go.Proofs.Ytjpdmdplcecglaa
open Go.RowKit
set_option linter.unusedVariables false
theorem own_ne {w : World} {B n g : Nat} {e t : TypeId} {v : Value} {xs : List Value} {cs : Array Value} (h : w.ownsRow B e 1 v n xs) (hr : Row w g t cs) (hne : e ≠ t) : some g ≠ v.ownBlock := by
  rcases h.2 with ⟨rfl, _⟩ | ⟨g', cap, cur, rfl, _, hh, _⟩
  · intro h; cases h
  · intro he
    have : g = g' := by injection he
    subst this
    have hr' : w.heap[g]? = some (.cells cs t (0, 0)) := hr
    rw [hr'] at hh
    injection hh with hh
    injection hh with _ ht
    exact hne ht.symm
theorem Row.grown {w w' : World} {g : Nat} {t : TypeId} {cs : Array Value} {row : Option Nat} (h : Row w g t cs) (hb : w.grownBy w' row) (hne : some g ≠ row) : Row w' g t cs := (hb.block g h.lt hne).trans h
theorem own_from {w : World} {B n : Nat} {e : TypeId} {v : Value} {xs : List Value} (h : w.ownsRow B e 1 v n xs) : ∀ k, v.ownBlock = some k → B ≤ k := fun k hk => (h.lt k hk).1
set_option maxHeartbeats 400000 in
theorem refWords_no (A : Option Addr) (len cap : Nat) (w : World) (hl : len ≤ 1000000) (h : len % 8 ≠ 0) :
    Calls Try.prog 20 #[.slice A len cap] w fun e w' => e = .returned (.tuple #[.slice none 0 0, .int .i64 2]) ∧ w = w' := by
  have hd : (((len : Int) % 8) != 0) = true := by rw [bne_iff_ne]; omega
  go_enter Try.func20, Try.ntmps20
  go_wp2
  go_ret2
  exact ⟨rfl, rfl⟩
set_option maxHeartbeats 800000 in
theorem refWords_yes (l : List Nat) (A : Option Addr) (len cap : Nat) (w : World) (hlen : l.length = len) (hl : len ≤ 1000000) (hb : Byts l) (hs : Sl w A (l.map bv)) (h : len % 8 = 0) :
    Calls Try.prog 20 #[.slice A len cap] w fun e w' => ∃ v, e = .returned (.tuple #[v, .int .i64 0]) ∧ w'.ownsRow w.heap.size 22 1 v (len / 8) ((cutN l).map wv) ∧ Below w.heap.size w w' := by
  obtain ⟨i0, hi, hz0, hz1, hz2⟩ := info_parts info22
  have hd : (((len : Int) % 8) != 0) = false := by rw [bne_eq_false_iff_eq]; omega
  obtain ⟨N, hN⟩ : ∃ N, N = len / 8 := ⟨_, rfl⟩
  have hN1 : 8 * N ≤ len := by omega
  have hN2 : len ≤ 8 * N := by omega
  have hcut : cutN l = cutTo l N := by unfold cutN; rw [hlen, hN]; congr 1; omega
  rw [← hN, hcut]
  clear hN hcut h
  have HLEN := Lib.hid hlen
  clear hlen
  go_enter Try.func20, Try.ntmps20
  go_wp2
  go_loopw [4, 5] (fun v i wr => ∃ k : Nat, k ≤ N ∧ i = .int .i64 ((8 * k : Nat) : Int) ∧ wr.ownsRow w.heap.size 22 1 v k ((cutTo l k).map wv) ∧ Below w.heap.size w wr) (fun _ i _ => 8 * N - (intOf i).toNat)
  case atStart => exact ⟨0, by omega, rfl, World.ownsRow_nil _ _ _ _, Below.refl _ _⟩
  case round =>

    obtain ⟨k, hk, rfl, hown, hb2⟩ := hrel
    by_cases hlt : 8 * k < len
    · obtain ⟨a, rfl, _⟩ := hs.at_ (i := 8 * k) (by simp; have := HLEN.out; omega)
      have HJ := Lib.hid fun c => take_any l a len c (8 * k) wr HLEN.out hl (by omega) hb (hs.below hb2)
      go_wp2_with fail
      refine (HJ.out _).mono ?_
      rintro e w' ⟨rfl, rfl⟩
      have hw : joinN ((l.drop (8 * k)).take 8) = wordAt l k := rfl
      rw [hw]
      clear hw HJ hs
      have hown2 := hown.alloc (.cells #[wv (wordAt l k)] 22)
      have h63 : k + 1 ≤ maxLen := by unfold maxLen; omega
      have hby : (k + 1) * 8 ≤ 140737488355328 := by omega
      have hbs : w.heap.size ≤ (wr.alloc (.cells #[wv (wordAt l k)] 22)).heap.size := by have := hb2.size; simp; omega
      go_wp2_with (at_builtin; refine wpList_append_own _ rfl (.tmp 16) (.tmp 20) 37 rfl w.heap.size 22 i0 (.int .u64 0) 1 8 Try.underlying37 hi hz0 hz1 hz2 rfl (by decide) _ k _ rfl hown2 ⟨wr.heap.size, 0, none⟩ 1 1 [wv (wordAt l k)] rfl rfl (cell_one_new _ _ _) (wv_ones [wordAt l k]) h63 hby hbs ?_; intro v2 w2 hown3 hgrow hnil)
      have hb3 : Below w.heap.size w w2 := (hb2.alloc hb2.size _).grown hgrow hbs (own_from hown2)
      rw [cutTo_snoc] at hown3
      clear hgrow hown2 hown hnil
      go_roundw
      case rel => exact ⟨k + 1, by omega, by go_num, hown3, hb3⟩
      case measure => simp [intOf]; omega
    · have hkN : k = N := by omega
      subst hkN
      go_wp2
      go_ret2
      exact ⟨_, rfl, hown, hb2⟩
theorem bytesTo_snoc (l : List Nat) (k n j : Nat) (h : j < 8) : ((sprTo l k).map bv ++ ((bytesN n).take j).map bv) ++ [bv (byt n j)] = (sprTo l k).map bv ++ ((bytesN n).take (j + 1)).map bv := by
  have hl : j < (bytesN n).length := by rw [bytesN_length]; exact h
  rw [List.take_succ_eq_append_getElem hl, List.map_append, List.append_assoc]
  have e : (bytesN n)[j] = byt n j := by simp [bytesN]
  rw [e]
  rfl
set_option maxHeartbeats 1600000 in
theorem refBytes_any (l : List Nat) (A : Option Addr) (len cap : Nat) (w : World) (hlen : l.length = len) (hl : len ≤ 1000000) (hwd : Wrds l) (hs : Sl w A (l.map wv)) :
    Calls Try.prog 23 #[.slice A len cap] w fun e w' => ∃ v, e = .returned v ∧ w'.ownsRow w.heap.size 5 1 v (8 * len) ((spr l).map bv) ∧ Below w.heap.size w w' := by
  obtain ⟨i0, hi, hz0, hz1, hz2⟩ := info_parts info5
  have hall : spr l = sprTo l len := by rw [← hlen, sprTo_all]
  rw [hall]
  clear hall
  have hlen1 : l.length ≤ len := by omega
  have hlen2 : len ≤ l.length := by omega
  clear hlen
  go_enter Try.func23, Try.ntmps23
  go_wp2
  go_loopw [3, 4] (fun v i wr => ∃ k : Nat, k ≤ len ∧ i = .int .i64 (k : Int) ∧ wr.ownsRow w.heap.size 5 1 v (8 * k) ((sprTo l k).map bv) ∧ Below w.heap.size w wr) (fun _ i _ => len - (intOf i).toNat)
  case atStart => exact ⟨0, by omega, rfl, World.ownsRow_nil _ _ _ _, Below.refl _ _⟩
  case round =>

    obtain ⟨k, hk, rfl, hown, hb2⟩ := hrel
    by_cases hlt : k < len
    · obtain ⟨a, rfl, hc⟩ := (hs.below hb2).at_ (i := k) (by simp; omega)
      rw [List.getElem_map] at hc
      have hsn := sprTo_snoc l k (by omega)
      have hnw := hwd _ (List.getElem_mem (show k < l.length by omega))
      obtain ⟨n, hn⟩ : ∃ n, n = l[k]'(by omega) := ⟨_, rfl⟩
      rw [← hn] at hc hsn hnw
      clear hn
      have HS := Lib.hid hsn
      clear hsn
      unfold wv at hc
      have hfit := bytes8_fit n
      have hold := bytes8_old n
      have hone := bytes8_one n
      obtain ⟨B, hB⟩ : ∃ B, B = bytes8 n := ⟨_, rfl⟩
      rw [← hB] at hfit hold hone
      have HB := Lib.hid hB
      clear hB
      go_wp2_with fail
      refine (refPut_any n _ hnw).mono ?_
      rintro e w3 ⟨rfl, hb3⟩
      rw [← HB.out]
      have hr3 := Row.new w3 23 (Array.replicate 8 (bv 0))
      have hbx : Below w3.heap.size w3 ((w3.alloc (.cells (Array.replicate 8 (bv 0)) 23)).setRow w3.heap.size B) := below_setRow (alloc_below _ _) (Nat.le_refl _) _
      have hown2 := own_keep (own_keep hown hb3) hbx
      have hbW := Below.and hb2 (Below.and hb3 hbx)
      have hrB := hr3.setRow B
      have hx0 : (sprTo l k).map bv = (sprTo l k).map bv ++ ((bytesN n).take 0).map bv := by simp
      rw [hx0] at hown2
      clear hx0
      go_wp2_with (first | (refine wpList_store_row rfl 23 _ _ rfl w3.heap.size B rfl rfl 23 _ hr3 hfit hold hone ?_))
      obtain ⟨gW, hgW⟩ : ∃ g, g = w3.heap.size := ⟨_, rfl⟩
      go_loopw [3, 6] (fun v i wr => ∃ j : Nat, j ≤ 8 ∧ i = .int .i64 (j : Int) ∧ wr.ownsRow w.heap.size 5 1 v (8 * k + j) ((sprTo l k).map bv ++ ((bytesN n).take j).map bv) ∧ Row wr w3.heap.size 23 B ∧ Below w.heap.size w wr) (fun _ i _ => 8 - (intOf i).toNat)
      case atStart => exact ⟨0, by omega, rfl, hown2, hrB, hbW⟩
      case round =>
        rename World => wr2
        obtain ⟨j, hj, rfl, hownj, hrj, hbj⟩ := hrel
        clear hown2 hrB hbW hr3 hfit hold hone hbx hgW
        by_cases h8 : j < 8
        · have hcj := hrj.cell j
          rw [HB.out, bytes8_get n j h8] at hcj
          have hown3 := hownj.alloc (.cells #[bv (byt n j)] 5)
          have hrj2 := hrj.alloc (.cells #[bv (byt n j)] 5)
          have hne := own_ne hown3 hrj2 (by decide)
          have hsnj := bytesTo_snoc l k n j h8
          obtain ⟨q, hq⟩ : ∃ q, q = byt n j := ⟨_, rfl⟩
          rw [← hq] at hcj hown3 hrj2 hsnj
          unfold bv at hcj
          have HSJ := Lib.hid hsnj
          clear hq hsnj
          have h63 : 8 * k + j + 1 ≤ maxLen := by unfold maxLen; omega
          have hby : (8 * k + j + 1) * 1 ≤ 140737488355328 := by omega
          have hbs : w.heap.size ≤ (wr2.alloc (.cells #[bv q] 5)).heap.size := by have := hbj.size; simp; omega
          go_wp2_with (at_builtin; refine wpList_append_own _ rfl (.tmp 22) (.tmp 26) 28 rfl w.heap.size 5 i0 (.int .u8 0) 1 1 Try.underlying28 hi hz0 hz1 hz2 rfl (by decide) _ (8 * k + j) _ rfl hown3 ⟨wr2.heap.size, 0, none⟩ 1 1 [bv q] rfl rfl (cell_one_new _ _ _) (bv_ones [q]) h63 hby hbs ?_; intro v4 w4 hown4 hgrow hnil)
          have hb4 : Below w.heap.size w w4 := (hbj.alloc hbj.size _).grown hgrow hbs (own_from hown3)
          have hr4 := hrj2.grown hgrow hne
          rw [HSJ.out] at hown4
          clear hgrow hown3 hownj hnil hrj hrj2 hne
          go_roundw
          case rel => exact ⟨j + 1, by omega, by go_num, hown4, hr4, hb4⟩
          case measure => simp [intOf]; omega
        · have hj8 : j = 8 := by omega
          subst hj8
          rw [List.take_of_length_le (by rw [bytesN_length]; omega), HS.out] at hownj
          go_wp2
          go_roundw
          case rel => exact ⟨k + 1, by omega, by go_num, hownj, hbj⟩
          case measure => simp [intOf]; omega
    · have hkN : k = len := by omega
      subst hkN
      go_wp2
      go_ret
      exact ⟨_, rfl, hown, hb2⟩
end Go.Proofs.Ytjpdmdplcecglaa
