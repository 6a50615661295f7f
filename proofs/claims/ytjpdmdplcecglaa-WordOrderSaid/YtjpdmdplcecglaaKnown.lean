/- The contracts of word's functions that known() goes through, and known() itself: each returns as the document says, and turns no memory that was there; for words below 2^64, texts of at most a million bytes. -/
import Derived.Test.YtjpdmdplcecglaaWords
import Derived.Deep.QuietTactic
import Derived.BigQuiet
import Derived.ChangeKeysEq
namespace Go.Proofs.Ytjpdmdplcecglaa
open Go.RowKit

theorem info23 : (Try.prog.info? 23).map (fun i => (i.zero, i.size, i.bytes)) = some (some (.agg #[.int .u8 0, .int .u8 0, .int .u8 0, .int .u8 0, .int .u8 0, .int .u8 0, .int .u8 0, .int .u8 0]), 8, 8) := by kernel_rfl
set_option maxHeartbeats 400000 in
theorem refPut_any (n : Nat) (w : World) (hn : n < 18446744073709551616) :
    Calls Try.prog 14 #[.int .u64 n] w fun e w' => e = .returned (.agg (bytes8 n)) ∧ Below w.heap.size w w' := by
  go_enter Try.func14, Try.ntmps14
  go_wp2
  go_loopw [0, 4] (fun q i wr => ∃ k : Nat, k ≤ 8 ∧ q = .int .u64 (up n k) ∧ i = .int .i64 k ∧ Row wr (w.heap.size + 1) 23 (part 8 (fun j => decide (j < k)) (fun j => bv (byt n j)) (bv 0)) ∧
      Row wr w.heap.size 23 (Array.replicate 8 (bv 0)) ∧ Below w.heap.size w wr) (fun _ i _ => 8 - (intOf i).toNat)
  case atStart =>
    refine ⟨0, by omega, by rw [up_zero], rfl, ?_, ?_, ?_⟩
    · rw [part_none 8 _ _ (by simp)]
      exact heap_alloc2_new w _ _
    · exact heap_alloc2_old w _ _
    · exact ((Below.refl _ _).alloc (Nat.le_refl _) _).alloc (by simp) _
  case round =>
    obtain ⟨k, hk, rfl, rfl, hrow, hres, hb⟩ := hrel
    have hun := up_le n k
    have hlt := byt_lt n k
    by_cases h8 : k < 8
    · have hc := hrow.cell k
      rw [part_get h8] at hc
      have hf := hrow.free k
      simp only [decide_eq_true_eq, Nat.lt_irrefl, if_false] at hc
      go_wp2
      go_roundw
      case rel => exact ⟨k + 1, by omega, by rw [up_succ]; go_num, by go_num, by
        have h := hrow.set k (bv (byt n k))
        rw [part_next 8 k (fun j => bv (byt n j)) (bv 0)] at h
        exact h, hres.other (p := ⟨w.heap.size + 1, k, none⟩) (by show w.heap.size ≠ w.heap.size + 1; omega) _, hb.setCell (p := ⟨w.heap.size + 1, k, none⟩) (by show w.heap.size ≤ w.heap.size + 1; omega) _⟩
      case measure => simp [intOf]; omega
    · have hk8 : k = 8 := by omega
      subst hk8
      rw [part_all _ _ (by intro i hi; simpa using hi)] at hrow
      have hrow' : Row wr (w.heap.size + 1) 23 (bytes8 n) := hrow
      clear hrow
      have hfit := bytes8_fit n
      have hold := bytes8_old n
      have hone := bytes8_one n
      go_wp2_with (first | (refine wpList_load_row rfl 23 _ rfl (w.heap.size + 1) rfl 23 _ _ _ hrow' Try.underlying23 rfl hfit ?_) | (refine wpList_store_row rfl 23 _ _ rfl w.heap.size (bytes8 n) rfl rfl 23 _ hres hfit hold hone ?_))
      refine bodyPost_ret (v := .agg (bytes8 n)) (results_cell_row Try.results14 _ _ w.heap.size 23 _ _ _ rfl (hres.setRow _) Try.underlying23 rfl hfit) rfl ⟨rfl, ?_⟩
      exact below_setRow hb (Nat.le_refl _) _

set_option maxHeartbeats 400000 in
theorem put_any (n : Nat) (w : World) :
    Calls Try.prog 10 #[.int .u64 n] w fun e w' => e = .returned (.agg (bytes8 n)) ∧ Below w.heap.size w w' := by
  go_enter Try.func10, Try.ntmps10
  go_wp2
  go_loopw [5] (fun i wr => ∃ k : Nat, k ≤ 8 ∧ i = .int .i64 k ∧ Row wr (w.heap.size + 1) 23 (part 8 (fun j => decide (j < k)) (fun j => bv (byt n j)) (bv 0)) ∧
      Row wr w.heap.size 23 (Array.replicate 8 (bv 0)) ∧ Below w.heap.size w wr) (fun i _ => 8 - (intOf i).toNat)
  case atStart =>
    refine ⟨0, by omega, rfl, ?_, ?_, ?_⟩
    · rw [part_none 8 _ _ (by simp)]
      exact heap_alloc2_new w _ _
    · exact heap_alloc2_old w _ _
    · exact ((Below.refl _ _).alloc (Nat.le_refl _) _).alloc (by simp) _
  case round =>
    obtain ⟨k, hk, rfl, hrow, hres, hb⟩ := hrel
    have hlt := byt_lt n k
    by_cases h8 : k < 8
    · have hc := hrow.cell k
      rw [part_get h8] at hc
      have hf := hrow.free k
      simp only [decide_eq_true_eq, Nat.lt_irrefl, if_false] at hc
      go_wp2
      go_roundw
      case rel => exact ⟨k + 1, by omega, by go_num, by
        have h := hrow.set k (bv (byt n k))
        rw [part_next 8 k (fun j => bv (byt n j)) (bv 0)] at h
        rw [byt_shift]
        exact h, hres.other (p := ⟨w.heap.size + 1, k, none⟩) (by show w.heap.size ≠ w.heap.size + 1; omega) _, hb.setCell (p := ⟨w.heap.size + 1, k, none⟩) (by show w.heap.size ≤ w.heap.size + 1; omega) _⟩
      case measure => simp [intOf]; omega
    · have hk8 : k = 8 := by omega
      subst hk8
      rw [part_all _ _ (by intro i hi; simpa using hi)] at hrow
      have hrow' : Row wr (w.heap.size + 1) 23 (bytes8 n) := hrow
      clear hrow
      have hfit := bytes8_fit n
      have hold := bytes8_old n
      have hone := bytes8_one n
      go_wp2_with (first | (refine wpList_load_row rfl 23 _ rfl (w.heap.size + 1) rfl 23 _ _ _ hrow' Try.underlying23 rfl hfit ?_) | (refine wpList_store_row rfl 23 _ _ rfl w.heap.size (bytes8 n) rfl rfl 23 _ hres hfit hold hone ?_))
      refine bodyPost_ret (v := .agg (bytes8 n)) (results_cell_row Try.results10 _ _ w.heap.size 23 _ _ _ rfl (hres.setRow _) Try.underlying23 rfl hfit) rfl ⟨rfl, ?_⟩
      exact below_setRow hb (Nat.le_refl _) _

set_option maxHeartbeats 400000 in
theorem hex_any (n : Nat) (w : World) (hn : n < 18446744073709551616) :
    Calls Try.prog 12 #[.int .u64 n] w fun e w' => e = .returned (.string (hexS n)) ∧ Below w.heap.size w w' := by
  go_enter Try.func12, Try.ntmps12
  go_wp2
  go_loopw [5] (fun i wr => ∃ k : Nat, k ≤ 16 ∧ i = .int .i64 k ∧ Row wr (w.heap.size) 58 (part 16 (fun j => decide (15 - j < k)) (fun j => hexv n (15 - j)) (bv 0)) ∧ Below w.heap.size w wr) (fun i _ => 16 - (intOf i).toNat)
  case atStart =>
    refine ⟨0, by omega, rfl, ?_, ?_⟩
    · rw [part_none 16 _ _ (by simp)]
      exact heap_alloc_new w _
    · exact (Below.refl _ _).alloc (Nat.le_refl _) _
  case round =>
    obtain ⟨k, hk, rfl, hrow, hb⟩ := hrel
    by_cases h8 : k < 16
    · have hc := hrow.cell (15 - k)
      rw [part_get (by omega)] at hc
      have hf := hrow.free (15 - k)
      have hk1 : 0 ≤ 15 - (k : Int) := by omega
      have hnib := nib_and n k hn
      have hlt := nib_lt n k
      go_wp2
      go_roundw
      case rel =>
        have h := hrow.set (15 - k) (hexv n k)
        rw [part_back 15 k (fun j => hexv n j) (bv 0) (by omega)] at h
        have e := tbl_val n k hlt
        exact ⟨k + 1, by omega, by go_num, by rw [← e] at h; exact h, hb.setCell (p := ⟨w.heap.size, 15 - k, none⟩) (Nat.le_refl _) _⟩
      case measure => simp [intOf]; omega
    · have hk8 : k = 16 := by omega
      subst hk8
      rw [part_all _ _ (by intro i hi; simp; omega)] at hrow
      have hB : Lib.Bytes wr w.heap.size 0 (hexS n) := fun i hi => by
        rw [Nat.zero_add, hrow.cell i, hexS_get]
        rw [hexS_size] at hi
        simp [hi, hexv]
      have hcv := fun c : Nat => Lib.run_convert_whole (P := Try.prog) wr 28 5 9 Try.underlying28 Try.underlying5 Try.underlying9 w.heap.size 0 (hexS n) hB c
      rw [hexS_size] at hcv
      clear hrow hB
      go_wp2
      go_ret
      exact ⟨rfl, hb⟩

set_option maxHeartbeats 400000 in
theorem piece_no (A : Option Addr) (len cap : Nat) (at_ : Int) (w : World) (hl : len ≤ 140737488355328) (h : at_ < 0 ∨ (len : Int) - 8 < at_) :
    Calls Try.prog 29 #[.slice A len cap, .int .i64 at_] w fun e w' => e = .returned (.tuple #[.slice none 0 0, .int .i64 3]) ∧ w = w' := by
  by_cases h0 : at_ < 0
  · go_enter Try.func29, Try.ntmps29
    go_wp2
    go_ret2
    exact ⟨rfl, rfl⟩
  · have h1 : (len : Int) - 8 < at_ := by omega
    go_enter Try.func29, Try.ntmps29
    go_wp2
    go_ret2
    exact ⟨rfl, rfl⟩
set_option maxHeartbeats 400000 in
theorem piece_yes (a : Addr) (len cap : Nat) (k : Nat) (w : World) (hl : len ≤ 140737488355328) (hc : len ≤ cap) (h : k + 8 ≤ len) :
    Calls Try.prog 29 #[.slice (some a) len cap, .int .i64 (k : Int)] w fun e w' => e = .returned (.tuple #[.slice (some (a.add k)) 8 8, .int .i64 0]) ∧ w = w' := by
  go_enter Try.func29, Try.ntmps29
  go_wp2
  go_ret2
  refine ⟨?_, rfl⟩
  show Ending.returned (.tuple #[.slice (some (a.add k)) (k + 8 - k) (k + 8 - k), .int .i64 0]) = _
  rw [show k + 8 - k = 8 from by omega]

set_option maxHeartbeats 400000 in
theorem join_any (l : List Nat) (A : Option Addr) (len cap : Nat) (w : World) (hl : Byts l) (hlen : l.length = len) (h8 : len ≤ 8) (hs : Sl w A (l.map bv)) :
    Calls Try.prog 30 #[.slice A len cap] w fun e w' => e = .returned (.int .u64 (joinN l)) ∧ w = w' := by
  subst hlen
  go_enter Try.func30, Try.ntmps30
  go_wp2
  go_loop [3, 7] (fun q i => ∃ k : Nat, k ≤ l.length ∧ q = .int .u64 (joinTo l k) ∧ i = .int .i64 k) (fun _ i => l.length - (intOf i).toNat)
  case atStart => exact ⟨0, by omega, by rw [joinTo_zero]; rfl, rfl⟩
  case round =>
    obtain ⟨k, hk, rfl, rfl⟩ := hrel
    by_cases hlt : k < l.length
    · obtain ⟨a, rfl, hc⟩ := hs.at_ (i := k) (by simpa using hlt)
      rw [List.getElem_map] at hc
      have hor := joinTo_or l k hl hlt (by omega)
      have hb : l[k] < 256 := hl _ (List.getElem_mem hlt)
      unfold bv at hc
      go_wp2
      go_round
      case rel => exact ⟨k + 1, by omega, rfl, by go_num⟩
      case measure => simp [intOf]; omega
    · have hk8 : k = l.length := by omega
      subst hk8
      rw [joinTo_all]
      go_wp2
      go_ret
      exact ⟨rfl, rfl⟩

set_option maxHeartbeats 400000 in
theorem joinS_any (s : ByteArray) (w : World) (h8 : s.size ≤ 8) :
    Calls Try.prog 36 #[.string s] w fun e w' => e = .returned (.int .u64 (joinN (strN s))) ∧ w = w' := by
  go_enter Try.func36, Try.ntmps36
  go_wp2
  go_loop [3, 7] (fun q i => ∃ k : Nat, k ≤ s.size ∧ q = .int .u64 (joinTo (strN s) k) ∧ i = .int .i64 k) (fun _ i => s.size - (intOf i).toNat)
  case atStart => exact ⟨0, by omega, by rw [joinTo_zero]; rfl, rfl⟩
  case round =>
    obtain ⟨k, hk, rfl, rfl⟩ := hrel
    by_cases hlt : k < s.size
    · have hlt' : k < (strN s).length := by rw [strN_length]; exact hlt
      have hor := joinTo_or (strN s) k (strN_byts s) hlt' (by omega)
      rw [strN_get s k hlt'] at hor
      have hb : s[k].toNat < 256 := s[k].toNat_lt
      go_wp2
      go_round
      case rel => exact ⟨k + 1, by omega, rfl, by go_num⟩
      case measure => simp [intOf]; omega
    · have hk8 : k = s.size := by omega
      subst hk8
      rw [← strN_length s, joinTo_all]
      go_wp2
      go_ret
      exact ⟨rfl, rfl⟩

theorem info5 : (Try.prog.info? 5).map (fun i => (i.zero, i.size, i.bytes)) = some (some (.int .u8 0), 1, 1) := by kernel_rfl
theorem info22 : (Try.prog.info? 22).map (fun i => (i.zero, i.size, i.bytes)) = some (some (.int .u64 0), 1, 8) := by kernel_rfl
set_option maxHeartbeats 400000 in
theorem cutS_any (s : ByteArray) (w : World) (hs : s.size ≤ 1000000) :
    Calls Try.prog 34 #[.string s] w fun e w' => e = .returned (.slice (some ⟨w.heap.size, 0, none⟩) ((s.size + 7) / 8) ((s.size + 7) / 8)) ∧
      w'.ownsRow w.heap.size 22 1 (.slice (some ⟨w.heap.size, 0, none⟩) ((s.size + 7) / 8) ((s.size + 7) / 8)) ((s.size + 7) / 8) ((cutN (strN s)).map wv) ∧ Below w.heap.size w w' := by
  obtain ⟨i0, hi, hz0, hz1, hz2⟩ := info_parts info22
  obtain ⟨N, hN⟩ : ∃ N, N = (s.size + 7) / 8 := ⟨_, rfl⟩
  have hN1 : 8 * N ≤ s.size + 7 := by omega
  have hN2 : s.size ≤ 8 * N := by omega
  have hq : ((s.size : Int) + 8 - 1) / 8 = (N : Int) := by omega
  have hcut : cutN (strN s) = cutTo (strN s) N := by unfold cutN; rw [strN_length, hN]
  rw [← hN, hcut]
  clear hN hcut
  have m2 : i0.bytes * N ≤ 281474976710656 := by rw [hz2]; omega
  have m3 : N ≤ maxLen := by unfold maxLen; omega
  go_enter Try.func34, Try.ntmps34
  go_wp2_with (at_make; refine wpList_make_own _ rfl _ _ 37 rfl w.heap.size 22 i0 _ 1 Try.underlying37 hi hz0 hz1 .i64 .i64 _ N rfl rfl hq m2 m3 (Nat.le_refl _) ?_; intro w1 hown1 hgrow1)
  clear hq
  have hb1 : Below w.heap.size w w1 := (Below.refl _ _).grown hgrow1 (Nat.le_refl _) (by intro k hk; cases hk)
  clear hgrow1
  go_loopw [3, 4] (fun v i wr => ∃ k : Nat, k ≤ N ∧ i = .int .i64 ((8 * k : Nat) : Int) ∧ v = .slice (some ⟨w.heap.size, 0, none⟩) k N ∧
      wr.ownsRow w.heap.size 22 1 (.slice (some ⟨w.heap.size, 0, none⟩) k N) k ((cutTo (strN s) k).map wv) ∧ Below w.heap.size w wr) (fun _ i _ => 8 * N - (intOf i).toNat)
  case atStart => exact ⟨0, by omega, rfl, rfl, hown1, hb1⟩
  case round =>
    obtain ⟨k, hk, rfl, rfl, hown, hb⟩ := hrel
    by_cases hlt : 8 * k < s.size
    · have hw : joinN (strN (s.extract (8 * k) (min (8 * (k : Int) + 8) (s.size : Int)).toNat)) = wordAt (strN s) k := by
        rw [strN_extract]
        exact wordAt_min _ _ _ (by rw [strN_length]; omega)
      have HW := Lib.hid hw
      clear hw
      have hkN : k + 1 ≤ N := by omega
      go_wp2_with fail
      refine (joinS_any _ _ (by rw [ByteArray.size_extract]; omega)).mono ?_
      rintro e w' ⟨rfl, rfl⟩
      rw [HW.out]
      have hown2 := hown.alloc (.cells #[wv (wordAt (strN s) k)] 22)
      go_wp2_with (at_builtin; refine wpList_append_fits _ rfl (.tmp 17) (.tmp 27) 37 rfl w.heap.size 22 i0 1 Try.underlying37 hi hz1 w.heap.size k N _ rfl hown2 ⟨wr.heap.size, 0, none⟩ 1 1 [wv (wordAt (strN s) k)] rfl rfl (cell_one_new _ _ _) (wv_ones [wordAt (strN s) k]) hkN ?_; intro w2 hown3 hgrow)
      have hb2 : Below w.heap.size w w2 := (hb.alloc hb.size _).grown hgrow (by have := hb.size; simp; omega) (by intro q hq; cases hq; exact Nat.le_refl _)
      rw [cutTo_snoc] at hown3
      clear hgrow hown2 hown
      go_roundw
      case rel => exact ⟨k + 1, by omega, by go_num, rfl, hown3, hb2⟩
      case measure => simp [intOf]; omega
    · have hkN : k = N := by omega
      subst hkN
      go_wp2
      go_ret
      exact ⟨rfl, hown, hb⟩

set_option maxHeartbeats 400000 in
theorem pack_any (s : ByteArray) (w : World) (hs : s.size ≤ 1000000) :
    Calls Try.prog 25 #[.string s] w fun e w' => ∃ v, e = .returned v ∧ w'.ownsRow w.heap.size 22 1 v (1 + (s.size + 7) / 8) ((packN s).map wv) ∧ Below w.heap.size w w' := by
  obtain ⟨i0, hi, hz0, hz1, hz2⟩ := info_parts info22
  go_enter Try.func25, Try.ntmps25
  go_wp2_with fail
  refine (cutS_any _ _ hs).mono ?_
  rintro e w1 ⟨rfl, hown1, hb1⟩
  have hlit := World.ownsRow_lit (base := w.heap.size) (e := 22) (size := 1) w #[wv s.size] 1 (Nat.le_refl _) (by decide) rfl
  have hsz : (w.alloc (Obj.cells #[Value.int IntKind.u64 (s.size : Int)] 22)).heap.size = w.heap.size + 1 := by simp
  have hown0 := own_keep hlit hb1
  have hb2 : Below w.heap.size w w1 := ((Below.refl _ _).alloc (Nat.le_refl _) _).trans (hb1.mono (by rw [hsz]; omega))
  rw [hsz] at hown1
  clear hlit hb1 hsz
  have hcells := hown1.cells (g := w.heap.size + 1) rfl
  have hlen := hown1.1
  have h63 : 1 + (s.size + 7) / 8 ≤ maxLen := by unfold maxLen; omega
  have hby : (1 + (s.size + 7) / 8) * 8 ≤ 140737488355328 := by omega
  go_wp2_with (at_builtin; refine wpList_append_own _ rfl (.tmp 6) (.tmp 8) 37 rfl w.heap.size 22 i0 (.int .u64 0) 1 8 Try.underlying37 hi hz0 hz1 hz2 rfl (by decide) (.slice (some ⟨w.heap.size, 0, none⟩) 1 1) 1 _ rfl hown0 ⟨w.heap.size + 1, 0, none⟩ ((s.size + 7) / 8) ((s.size + 7) / 8) ((cutN (strN s)).map wv) rfl hlen hcells (wv_ones _) h63 hby hb2.size ?_; intro v2 w2 hown2 hgrow hnil)
  go_ret
  exact ⟨v2, rfl, hown2, hb2.grown hgrow hb2.size (by intro q hq; cases hq; exact Nat.le_refl _)⟩

set_option maxHeartbeats 400000 in
theorem same_yes (l : List Nat) (n : Nat) (A B : Option Addr) (c d : Nat) (w : World) (hn : l.length = n) (hl : n ≤ 1000000) (h1 : Sl w A (l.map wv)) (h2 : Sl w B (l.map wv)) :
    Calls Try.prog 21 #[.slice A n c, .slice B n d] w fun e w' => e = .returned (.bool true) ∧ ∃ q, w' = w.drewN q := by
  subst hn
  have hd : ((l.length : Int) != (l.length : Int)) = false := by simp
  go_enter Try.func21, Try.ntmps21
  go_wp2
  go_loopw [5] (fun i wr => ∃ k : Nat, k ≤ l.length ∧ i = .int .i64 k ∧ ∃ q, wr = w.drewN q) (fun i _ => l.length - (intOf i).toNat)
  case atStart => exact ⟨0, by omega, rfl, 0, rfl⟩
  case round =>
    obtain ⟨k, hk, rfl, q, rfl⟩ := hrel
    by_cases hlt : k < l.length
    · obtain ⟨a, rfl, ha⟩ := h1.at_ (i := k) (by simpa using hlt)
      obtain ⟨b, rfl, hb⟩ := h2.at_ (i := k) (by simpa using hlt)
      rw [List.getElem_map] at ha hb
      unfold wv at ha hb
      have hne : ((l[k] : Int) != (l[k] : Int)) = false := by simp
      go_wp2
      go_quiet (fail)
      go_wp2
      go_roundw
      case rel => exact ⟨k + 1, by omega, by go_num, q + nq, rfl⟩
      case measure => simp [intOf]; omega
    · go_wp2
      go_ret
      exact ⟨rfl, q, rfl⟩

set_option maxHeartbeats 400000 in
theorem get_no (A : Option Addr) (len cap : Nat) (at_ : Int) (w : World) (hl : len ≤ 140737488355328) (h : at_ < 0 ∨ (len : Int) - 8 < at_) :
    Calls Try.prog 11 #[.slice A len cap, .int .i64 at_] w fun e w' => e = .returned (.tuple #[.int .u64 0, .int .i64 3]) ∧ w = w' := by
  go_enter Try.func11, Try.ntmps11
  go_wp2_with fail
  refine (piece_no _ _ _ _ _ hl h).mono ?_
  rintro e w' ⟨rfl, rfl⟩
  go_wp2_with fail
  refine (join_any [] none 0 0 _ (by intro b hb; cases hb) rfl (by omega) (by intro i u hu; cases hu)).mono ?_
  rintro e w' ⟨rfl, rfl⟩
  go_wp2
  go_ret2
  exact ⟨rfl, rfl⟩
set_option maxHeartbeats 400000 in
theorem get_yes (l : List Nat) (a : Addr) (len cap : Nat) (k : Nat) (w : World) (hlen : l.length = len) (hl : len ≤ 140737488355328) (hc : len ≤ cap) (h : k + 8 ≤ len) (hb : Byts l) (hs : Sl w (some a) (l.map bv)) :
    Calls Try.prog 11 #[.slice (some a) len cap, .int .i64 (k : Int)] w fun e w' => e = .returned (.tuple #[.int .u64 (joinN ((l.drop k).take 8)), .int .i64 0]) ∧ w = w' := by
  have hs' := hs.sub k 8
  rw [← List.map_drop, ← List.map_take] at hs'
  have hj := join_any ((l.drop k).take 8) (some (a.add k)) 8 8 w (fun b h => hb b (List.mem_of_mem_drop (List.mem_of_mem_take h))) (by rw [List.length_take, List.length_drop]; omega) (by omega) hs'
  have HJ := Lib.hid hj
  clear hj hs'
  subst hlen
  go_enter Try.func11, Try.ntmps11
  go_wp2_with fail
  refine (piece_yes _ _ _ _ _ hl hc h).mono ?_
  rintro e w' ⟨rfl, rfl⟩
  go_wp2_with fail
  refine HJ.out.mono ?_
  rintro e w' ⟨rfl, rfl⟩
  go_wp2
  go_ret2
  exact ⟨rfl, rfl⟩

theorem cells5 : Try.prog.cellsOf 5 = 1 := by kernel_rfl
theorem plain5 : Try.prog.plainKey 5 = true := by kernel_rfl
theorem bytes8_get (n i : Nat) (h : i < 8) : (bytes8 n)[i]? = some (bv (byt n i)) := by simp [bytes8, h]
theorem items8 (n : Nat) (w : World) : ∀ is : List Nat, (∀ i ∈ is, i < 8) → (Op.eqItems 9999 5 1 (bytes8 n) (bytes8 n) is).run Try.prog w = .ok true w
  | [], _ => by simp [Op.eqItems]
  | i :: is, h => by
    have hp := run_part_plain (P := Try.prog) w plain5 (xs := bytes8 n) (off := i) (bytes8_get n i (h i (by simp)))
    have he := run_equalIn_int (P := Try.prog) w 9998 5 .u8 .u8 (byt n i) (byt n i) Try.underlying5
    simp only [beq_self_eq_true] at he
    have hi := items8 n w is (fun j hj => h j (by simp [hj]))
    simp only [Op.eqItems, Sem.run_bind, Nat.mul_one, hp, Result.andThen_ok, bv, he, Bool.not_true, Bool.false_eq_true, if_false, hi]
theorem eql8 (n : Nat) (w : World) : (binOp .eql 23 (.agg (bytes8 n)) (.agg (bytes8 n))).run Try.prog w = .ok (.bool true) w := by
  obtain ⟨i0, hi, hz0, hz1, hz2⟩ := info_parts info5
  have h := run_equalIn_array (P := Try.prog) w 9999 (bytes8 n) (bytes8 n) Try.underlying23 hi
  rw [cells5, items8 n w _ (by intro i hi; exact List.mem_range.1 hi)] at h
  rw [run_eql_struct, h]
  rfl

def kb : List Nat := [0, 1, 0, 0, 0, 0, 0, 0, 0]
theorem kb_get1 (W : World) (a : Addr) (hs : Sl W (some a) (kb.map bv)) : Calls Try.prog 11 #[.slice (some a) 9 9, .int .i64 1] W fun e w' => e = .returned (.tuple #[.int .u64 1, .int .i64 0]) ∧ W = w' :=
  get_yes kb a 9 9 1 W rfl (by omega) (by omega) (by omega) (by intro b hb; simp [kb] at hb; omega) hs
theorem kb_get2 (W : World) (a : Addr) : Calls Try.prog 11 #[.slice (some a) 9 9, .int .i64 2] W fun e w' => e = .returned (.tuple #[.int .u64 0, .int .i64 3]) ∧ W = w' :=
  get_no (some a) 9 9 2 W (by omega) (by omega)
theorem kput (W : World) : Calls Try.prog 10 #[.int .u64 258] W fun e w' => e = .returned (.agg (bytes8 258)) ∧ Below W.heap.size W w' := put_any 258 W
theorem khex (W : World) : Calls Try.prog 12 #[.int .u64 258] W fun e w' => e = .returned (.string (hexS 258)) ∧ Below W.heap.size W w' := hex_any 258 W (by decide)
theorem kbytes : bytes8 258 = #[.int .u8 2, .int .u8 1, .int .u8 0, .int .u8 0, .int .u8 0, .int .u8 0, .int .u8 0, .int .u8 0] := by
  simp [bytes8, bv, byt, up, Array.ofFn_succ]
theorem keql (w : World) : (binOp .eql 23 (.agg (bytes8 258)) (.agg #[.int .u8 2, .int .u8 1, .int .u8 0, .int .u8 0, .int .u8 0, .int .u8 0, .int .u8 0, .int .u8 0])).run Try.prog w = .ok (.bool true) w := by
  rw [← kbytes]
  exact eql8 258 w
theorem sl_lit (w : World) (t : TypeId) (l : List Nat) (f : Nat → Value) : Sl (w.alloc (.cells (l.map f).toArray t)) (some ⟨w.heap.size, 0, none⟩) (l.map f) := by
  intro i u hu
  refine ⟨_, rfl, ?_⟩
  have e : (⟨w.heap.size, 0, none⟩ : Addr).add i = ⟨w.heap.size, i, none⟩ := by unfold Addr.add; split <;> simp_all
  rw [e, cell_of_row _ _ _ _ _ _ (heap_alloc_new w _)]
  simpa using hu
theorem khexs : ((hexS 258).toList == [48, 48, 48, 48, 48, 48, 48, 48, 48, 48, 48, 48, 48, 49, 48, 50]) = true := by
  rw [beq_iff_eq, ByteArray.toList_eq]
  decide
theorem kpack0 : packN ⟨#[]⟩ = [0] := by rfl
theorem kpack2 : packN ⟨#[97, 98]⟩ = [2, 25185] := by rfl
theorem kpack9 : packN ⟨#[97, 98, 99, 100, 101, 102, 103, 104, 105]⟩ = [9, 7523094288207667809, 105] := by rfl
theorem pack_at (s : ByteArray) (l : List Nat) (n : Nat) (w : World) (hs : s.size ≤ 1000000) (hl : packN s = l) (hn : l.length = n) :
    Calls Try.prog 25 #[.string s] w fun e w' => ∃ A c, e = .returned (.slice A n c) ∧ Sl w' A (l.map wv) ∧ Below w.heap.size w w' := by
  refine (pack_any s w hs).mono ?_
  rintro e w' ⟨v, rfl, hown, hb⟩
  obtain ⟨A, c, rfl, _, _, hsl, hlen⟩ := own_sl hown
  subst hl
  rw [List.length_map] at hlen
  rw [hn] at hlen
  subst hlen
  exact ⟨A, c, rfl, hsl, hb⟩
theorem same_lit (l : List Nat) (n : Nat) (A : Option Addr) (c : Nat) (w : World) (hn : l.length = n) (hl : n ≤ 1000000) (hs : Sl w A (l.map wv)) :
    Calls Try.prog 21 #[.slice A n c, .slice (some ⟨w.heap.size, 0, none⟩) n n] (w.alloc (.cells (l.map wv).toArray 22)) fun e w' => e = .returned (.bool true) ∧ ∃ q, w' = (w.alloc (.cells (l.map wv).toArray 22)).drewN q :=
  same_yes l n A _ c n _ hn hl (hs.below ((Below.refl _ _).alloc (Nat.le_refl _) _)) (sl_lit w 22 l wv)
theorem drew_below (w : World) : Below w.heap.size w w.drew := ⟨rfl, rfl, rfl, Nat.le_refl _, fun _ _ => rfl⟩
theorem drewN_below (w : World) (q : Nat) : Below w.heap.size w (w.drewN q) := ⟨rfl, rfl, rfl, Nat.le_refl _, fun _ _ => rfl⟩
theorem alloc_below (w : World) (o : Obj) : Below w.heap.size w (w.alloc o) := (Below.refl _ _).alloc (Nat.le_refl _) _
theorem Below.and {w w1 w2 : World} (h : Below w.heap.size w w1) (h2 : Below w1.heap.size w1 w2) : Below w.heap.size w w2 := h.trans (h2.mono h.size)
set_option maxHeartbeats 400000 in
theorem known_any (w : World) : Calls Try.prog 16 #[] w fun e w' => e = .returned (.bool true) ∧ Below w.heap.size w w' := by
  have hq := keql
  have hx := khexs
  go_enter Try.func16, Try.ntmps16
  go_wp2_with fail
  refine (kb_get1 _ _ (sl_lit w 5 kb bv)).mono ?_
  rintro e w1 ⟨rfl, rfl⟩
  go_wp2_with fail
  refine (kb_get2 _ _).mono ?_
  rintro e w1 ⟨rfl, rfl⟩
  go_wp2_with fail
  refine (kput _).mono ?_
  rintro e w1 ⟨rfl, hb1⟩
  go_wp2_with fail
  refine (khex _).mono ?_
  rintro e w2 ⟨rfl, hb2⟩
  go_wp2_with fail
  refine (pack_at _ [0] 1 _ (by decide) kpack0 rfl).mono ?_
  rintro e w3 ⟨A3, c3, rfl, hs3, hb3⟩
  go_wp2_with fail
  refine (same_lit [0] 1 _ _ w3 rfl (by decide) hs3).mono ?_
  rintro e w4 ⟨rfl, q4, hw4⟩
  have hb4 : Below w3.heap.size w3 w4 := by rw [hw4]; exact Below.and (alloc_below _ _) (drewN_below _ _)
  clear hw4 q4
  go_wp2_with fail
  refine (pack_at _ [2, 25185] 2 _ (by decide) kpack2 rfl).mono ?_
  rintro e w5 ⟨A5, c5, rfl, hs5, hb5⟩
  go_wp2_with fail
  refine (same_lit [2, 25185] 2 _ _ w5 rfl (by decide) hs5).mono ?_
  rintro e w6 ⟨rfl, q6, hw6⟩
  have hb6 : Below w5.heap.size w5 w6 := by rw [hw6]; exact Below.and (alloc_below _ _) (drewN_below _ _)
  clear hw6 q6
  go_wp2_with fail
  refine (pack_at _ [9, 7523094288207667809, 105] 3 _ (by decide) kpack9 rfl).mono ?_
  rintro e w7 ⟨A7, c7, rfl, hs7, hb7⟩
  go_wp2_with fail
  refine (same_lit [9, 7523094288207667809, 105] 3 _ _ w7 rfl (by decide) hs7).mono ?_
  rintro e w8 ⟨rfl, q8, hw8⟩
  have hb8 : Below w7.heap.size w7 w8 := by rw [hw8]; exact Below.and (alloc_below _ _) (drewN_below _ _)
  clear hw8 q8
  go_wp2
  go_ret
  exact ⟨rfl, Below.and (alloc_below _ _) (Below.and hb1 (Below.and hb2 (Below.and hb3 (Below.and hb4 (Below.and hb5 (Below.and hb6 (Below.and hb7 hb8)))))))⟩

end Go.Proofs.Ytjpdmdplcecglaa
