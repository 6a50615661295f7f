/- Texts of this claim, packed: WKnown, WBytes. -/
import Derived.Test.YtnjecjcnkmgjmaaDoorPk02
import Derived.Deep.QuietTactic
import Derived.BigQuiet
import Derived.ChangeKeysEq
/- The contracts of word's functions that known() goes through, and known() itself: each returns as the document says, and turns no memory that was there; for words below 2^64, texts of at most a million bytes. -/
namespace Go.Proofs.YtnjecjcnkmgjmaaDoor
open Go.RowKit

theorem info23 : (Tryd.prog.info? 107).map (fun i => (i.zero, i.size, i.bytes)) = some (some (.agg #[.int .u8 0, .int .u8 0, .int .u8 0, .int .u8 0, .int .u8 0, .int .u8 0, .int .u8 0, .int .u8 0]), 8, 8) := by kernel_rfl
set_option maxRecDepth 100000 in
set_option maxHeartbeats 400000 in
theorem refPut_any (n : Nat) (w : World) (hn : n < 18446744073709551616) :
    Calls Tryd.prog 74 #[.int .u64 n] w fun e w' => e = .returned (.agg (bytes8 n)) ∧ Below w.heap.size w w' := by
  go_enter Tryd.func74, Tryd.ntmps74
  go_wp2
  go_loopw [0, 4] (fun q i wr => ∃ k : Nat, k ≤ 8 ∧ q = .int .u64 (up n k) ∧ i = .int .i64 k ∧ Row wr (w.heap.size + 1) 107 (part 8 (fun j => decide (j < k)) (fun j => bv (byt n j)) (bv 0)) ∧
      Row wr w.heap.size 107 (Array.replicate 8 (bv 0)) ∧ Below w.heap.size w wr) (fun _ i _ => 8 - (intOf i).toNat)
  case atStart =>
    refine ⟨0, by omega, by rw [up_zero], rfl, ?_, ?_, ?_⟩
    · rw [part_none 8 _ _ (by simp)]
      exact heap_alloc2_new w _ _
    · exact heap_alloc2_old w _ _
    · exact ((Below.refl _ _).alloc (Nat.le_refl _) _).alloc (by simp) _
  case round =>
    obtain ⟨k, hk, rfl, rfl, hrow, hres, hb⟩ := hrel
    have hun := up_le n k
    have hlt := byt_lt n k
    by_cases h8 : k < 8
    · have hc := hrow.cell k
      rw [part_get h8] at hc
      have hf := hrow.free k
      simp only [decide_eq_true_eq, Nat.lt_irrefl, if_false] at hc
      go_wp2
      go_roundw
      case rel => exact ⟨k + 1, by omega, by rw [up_succ]; go_num, by go_num, by
        have h := hrow.set k (bv (byt n k))
        rw [part_next 8 k (fun j => bv (byt n j)) (bv 0)] at h
        exact h, hres.other (p := ⟨w.heap.size + 1, k, none⟩) (by show w.heap.size ≠ w.heap.size + 1; omega) _, hb.setCell (p := ⟨w.heap.size + 1, k, none⟩) (by show w.heap.size ≤ w.heap.size + 1; omega) _⟩
      case measure => simp [intOf]; omega
    · have hk8 : k = 8 := by omega
      subst hk8
      rw [part_all _ _ (by intro i hi; simpa using hi)] at hrow
      have hrow' : Row wr (w.heap.size + 1) 107 (bytes8 n) := hrow
      clear hrow
      have hfit := bytes8_fit n
      have hold := bytes8_old n
      have hone := bytes8_one n
      go_wp2_with (first | (refine wpList_load_row rfl 107 _ rfl (w.heap.size + 1) rfl 107 _ _ _ hrow' Tryd.underlying107 rfl hfit ?_) | (refine wpList_store_row rfl 107 _ _ rfl w.heap.size (bytes8 n) rfl rfl 107 _ hres hfit hold hone ?_))
      refine bodyPost_ret (v := .agg (bytes8 n)) (results_cell_row Tryd.results74 _ _ w.heap.size 107 _ _ _ rfl (hres.setRow _) Tryd.underlying107 rfl hfit) rfl ⟨rfl, ?_⟩
      exact below_setRow hb (Nat.le_refl _) _

set_option maxRecDepth 100000 in
set_option maxHeartbeats 400000 in
theorem put_any (n : Nat) (w : World) :
    Calls Tryd.prog 77 #[.int .u64 n] w fun e w' => e = .returned (.agg (bytes8 n)) ∧ Below w.heap.size w w' := by
  go_enter Tryd.func77, Tryd.ntmps77
  go_wp2
  go_loopw [5] (fun i wr => ∃ k : Nat, k ≤ 8 ∧ i = .int .i64 k ∧ Row wr (w.heap.size + 1) 107 (part 8 (fun j => decide (j < k)) (fun j => bv (byt n j)) (bv 0)) ∧
      Row wr w.heap.size 107 (Array.replicate 8 (bv 0)) ∧ Below w.heap.size w wr) (fun i _ => 8 - (intOf i).toNat)
  case atStart =>
    refine ⟨0, by omega, rfl, ?_, ?_, ?_⟩
    · rw [part_none 8 _ _ (by simp)]
      exact heap_alloc2_new w _ _
    · exact heap_alloc2_old w _ _
    · exact ((Below.refl _ _).alloc (Nat.le_refl _) _).alloc (by simp) _
  case round =>
    obtain ⟨k, hk, rfl, hrow, hres, hb⟩ := hrel
    have hlt := byt_lt n k
    by_cases h8 : k < 8
    · have hc := hrow.cell k
      rw [part_get h8] at hc
      have hf := hrow.free k
      simp only [decide_eq_true_eq, Nat.lt_irrefl, if_false] at hc
      go_wp2
      go_roundw
      case rel => exact ⟨k + 1, by omega, by go_num, by
        have h := hrow.set k (bv (byt n k))
        rw [part_next 8 k (fun j => bv (byt n j)) (bv 0)] at h
        rw [byt_shift]
        exact h, hres.other (p := ⟨w.heap.size + 1, k, none⟩) (by show w.heap.size ≠ w.heap.size + 1; omega) _, hb.setCell (p := ⟨w.heap.size + 1, k, none⟩) (by show w.heap.size ≤ w.heap.size + 1; omega) _⟩
      case measure => simp [intOf]; omega
    · have hk8 : k = 8 := by omega
      subst hk8
      rw [part_all _ _ (by intro i hi; simpa using hi)] at hrow
      have hrow' : Row wr (w.heap.size + 1) 107 (bytes8 n) := hrow
      clear hrow
      have hfit := bytes8_fit n
      have hold := bytes8_old n
      have hone := bytes8_one n
      go_wp2_with (first | (refine wpList_load_row rfl 107 _ rfl (w.heap.size + 1) rfl 107 _ _ _ hrow' Tryd.underlying107 rfl hfit ?_) | (refine wpList_store_row rfl 107 _ _ rfl w.heap.size (bytes8 n) rfl rfl 107 _ hres hfit hold hone ?_))
      refine bodyPost_ret (v := .agg (bytes8 n)) (results_cell_row Tryd.results77 _ _ w.heap.size 107 _ _ _ rfl (hres.setRow _) Tryd.underlying107 rfl hfit) rfl ⟨rfl, ?_⟩
      exact below_setRow hb (Nat.le_refl _) _

set_option maxRecDepth 100000 in
set_option maxHeartbeats 400000 in
theorem join_any (l : List Nat) (A : Option Addr) (len cap : Nat) (w : World) (hl : Byts l) (hlen : l.length = len) (h8 : len ≤ 8) (hs : Sl w A (l.map bv)) :
    Calls Tryd.prog 76 #[.slice A len cap] w fun e w' => e = .returned (.int .u64 (joinN l)) ∧ w = w' := by
  subst hlen
  go_enter Tryd.func76, Tryd.ntmps76
  go_wp2
  go_loop [3, 7] (fun q i => ∃ k : Nat, k ≤ l.length ∧ q = .int .u64 (joinTo l k) ∧ i = .int .i64 k) (fun _ i => l.length - (intOf i).toNat)
  case atStart => exact ⟨0, by omega, by rw [joinTo_zero]; rfl, rfl⟩
  case round =>
    obtain ⟨k, hk, rfl, rfl⟩ := hrel
    by_cases hlt : k < l.length
    · obtain ⟨a, rfl, hc⟩ := hs.at_ (i := k) (by simpa using hlt)
      rw [List.getElem_map] at hc
      have hor := joinTo_or l k hl hlt (by omega)
      have hb : l[k] < 256 := hl _ (List.getElem_mem hlt)
      unfold bv at hc
      go_wp2
      go_round
      case rel => exact ⟨k + 1, by omega, rfl, by go_num⟩
      case measure => simp [intOf]; omega
    · have hk8 : k = l.length := by omega
      subst hk8
      rw [joinTo_all]
      go_wp2
      go_ret
      exact ⟨rfl, rfl⟩

set_option maxRecDepth 100000 in
set_option maxHeartbeats 400000 in
theorem joinS_any (s : ByteArray) (w : World) (h8 : s.size ≤ 8) :
    Calls Tryd.prog 72 #[.string s] w fun e w' => e = .returned (.int .u64 (joinN (strN s))) ∧ w = w' := by
  go_enter Tryd.func72, Tryd.ntmps72
  go_wp2
  go_loop [3, 7] (fun q i => ∃ k : Nat, k ≤ s.size ∧ q = .int .u64 (joinTo (strN s) k) ∧ i = .int .i64 k) (fun _ i => s.size - (intOf i).toNat)
  case atStart => exact ⟨0, by omega, by rw [joinTo_zero]; rfl, rfl⟩
  case round =>
    obtain ⟨k, hk, rfl, rfl⟩ := hrel
    by_cases hlt : k < s.size
    · have hlt' : k < (strN s).length := by rw [strN_length]; exact hlt
      have hor := joinTo_or (strN s) k (strN_byts s) hlt' (by omega)
      rw [strN_get s k hlt'] at hor
      have hb : s[k].toNat < 256 := s[k].toNat_lt
      go_wp2
      go_round
      case rel => exact ⟨k + 1, by omega, rfl, by go_num⟩
      case measure => simp [intOf]; omega
    · have hk8 : k = s.size := by omega
      subst hk8
      rw [← strN_length s, joinTo_all]
      go_wp2
      go_ret
      exact ⟨rfl, rfl⟩

theorem info5 : (Tryd.prog.info? 5).map (fun i => (i.zero, i.size, i.bytes)) = some (some (.int .u8 0), 1, 1) := by kernel_rfl
theorem info22 : (Tryd.prog.info? 22).map (fun i => (i.zero, i.size, i.bytes)) = some (some (.int .u64 0), 1, 8) := by kernel_rfl
set_option maxRecDepth 100000 in
set_option maxHeartbeats 400000 in
theorem cutS_any (s : ByteArray) (w : World) (hs : s.size ≤ 1000000) :
    Calls Tryd.prog 59 #[.string s] w fun e w' => e = .returned (.slice (some ⟨w.heap.size, 0, none⟩) ((s.size + 7) / 8) ((s.size + 7) / 8)) ∧
      w'.ownsRow w.heap.size 22 1 (.slice (some ⟨w.heap.size, 0, none⟩) ((s.size + 7) / 8) ((s.size + 7) / 8)) ((s.size + 7) / 8) ((cutN (strN s)).map wv) ∧ Below w.heap.size w w' := by
  obtain ⟨i0, hi, hz0, hz1, hz2⟩ := info_parts info22
  obtain ⟨N, hN⟩ : ∃ N, N = (s.size + 7) / 8 := ⟨_, rfl⟩
  have hN1 : 8 * N ≤ s.size + 7 := by omega
  have hN2 : s.size ≤ 8 * N := by omega
  have hq : ((s.size : Int) + 8 - 1) / 8 = (N : Int) := by omega
  have hcut : cutN (strN s) = cutTo (strN s) N := by unfold cutN; rw [strN_length, hN]
  rw [← hN, hcut]
  clear hN hcut
  have m2 : i0.bytes * N ≤ 281474976710656 := by rw [hz2]; omega
  have m3 : N ≤ maxLen := by unfold maxLen; omega
  go_enter Tryd.func59, Tryd.ntmps59
  go_wp2_with (at_make; refine wpList_make_own _ rfl _ _ 53 rfl w.heap.size 22 i0 _ 1 Tryd.underlying53 hi hz0 hz1 .i64 .i64 _ N rfl rfl hq m2 m3 (Nat.le_refl _) ?_; intro w1 hown1 hgrow1)
  clear hq
  have hb1 : Below w.heap.size w w1 := (Below.refl _ _).grown hgrow1 (Nat.le_refl _) (by intro k hk; cases hk)
  clear hgrow1
  go_loopw [3, 4] (fun v i wr => ∃ k : Nat, k ≤ N ∧ i = .int .i64 ((8 * k : Nat) : Int) ∧ v = .slice (some ⟨w.heap.size, 0, none⟩) k N ∧
      wr.ownsRow w.heap.size 22 1 (.slice (some ⟨w.heap.size, 0, none⟩) k N) k ((cutTo (strN s) k).map wv) ∧ Below w.heap.size w wr) (fun _ i _ => 8 * N - (intOf i).toNat)
  case atStart => exact ⟨0, by omega, rfl, rfl, hown1, hb1⟩
  case round =>
    obtain ⟨k, hk, rfl, rfl, hown, hb⟩ := hrel
    by_cases hlt : 8 * k < s.size
    · have hw : joinN (strN (s.extract (8 * k) (min (8 * (k : Int) + 8) (s.size : Int)).toNat)) = wordAt (strN s) k := by
        rw [strN_extract]
        exact wordAt_min _ _ _ (by rw [strN_length]; omega)
      have HW := Lib.hid hw
      clear hw
      have hkN : k + 1 ≤ N := by omega
      go_wp2_with fail
      refine (joinS_any _ _ (by rw [ByteArray.size_extract]; omega)).mono ?_
      rintro e w' ⟨rfl, rfl⟩
      rw [HW.out]
      have hown2 := hown.alloc (.cells #[wv (wordAt (strN s) k)] 22)
      go_wp2_with (at_builtin; refine wpList_append_fits _ rfl (.tmp 17) (.tmp 27) 53 rfl w.heap.size 22 i0 1 Tryd.underlying53 hi hz1 w.heap.size k N _ rfl hown2 ⟨wr.heap.size, 0, none⟩ 1 1 [wv (wordAt (strN s) k)] rfl rfl (cell_one_new _ _ _) (wv_ones [wordAt (strN s) k]) hkN ?_; intro w2 hown3 hgrow)
      have hb2 : Below w.heap.size w w2 := (hb.alloc hb.size _).grown hgrow (by have := hb.size; simp; omega) (by intro q hq; cases hq; exact Nat.le_refl _)
      rw [cutTo_snoc] at hown3
      clear hgrow hown2 hown
      go_roundw
      case rel => exact ⟨k + 1, by omega, by go_num, rfl, hown3, hb2⟩
      case measure => simp [intOf]; omega
    · have hkN : k = N := by omega
      subst hkN
      go_wp2
      go_ret
      exact ⟨rfl, hown, hb⟩

set_option maxRecDepth 100000 in
set_option maxHeartbeats 400000 in
theorem pack_any (s : ByteArray) (w : World) (hs : s.size ≤ 1000000) :
    Calls Tryd.prog 34 #[.string s] w fun e w' => ∃ v, e = .returned v ∧ w'.ownsRow w.heap.size 22 1 v (1 + (s.size + 7) / 8) ((packN s).map wv) ∧ Below w.heap.size w w' := by
  obtain ⟨i0, hi, hz0, hz1, hz2⟩ := info_parts info22
  go_enter Tryd.func34, Tryd.ntmps34
  go_wp2_with fail
  refine (cutS_any _ _ hs).mono ?_
  rintro e w1 ⟨rfl, hown1, hb1⟩
  have hlit := World.ownsRow_lit (base := w.heap.size) (e := 22) (size := 1) w #[wv s.size] 1 (Nat.le_refl _) (by decide) rfl
  have hsz : (w.alloc (Obj.cells #[Value.int IntKind.u64 (s.size : Int)] 22)).heap.size = w.heap.size + 1 := by simp
  have hown0 := own_keep hlit hb1
  have hb2 : Below w.heap.size w w1 := ((Below.refl _ _).alloc (Nat.le_refl _) _).trans (hb1.mono (by rw [hsz]; omega))
  rw [hsz] at hown1
  clear hlit hb1 hsz
  have hcells := hown1.cells (g := w.heap.size + 1) rfl
  have hlen := hown1.1
  have h63 : 1 + (s.size + 7) / 8 ≤ maxLen := by unfold maxLen; omega
  have hby : (1 + (s.size + 7) / 8) * 8 ≤ 140737488355328 := by omega
  go_wp2_with (at_builtin; refine wpList_append_own _ rfl (.tmp 6) (.tmp 8) 53 rfl w.heap.size 22 i0 (.int .u64 0) 1 8 Tryd.underlying53 hi hz0 hz1 hz2 rfl (by decide) (.slice (some ⟨w.heap.size, 0, none⟩) 1 1) 1 _ rfl hown0 ⟨w.heap.size + 1, 0, none⟩ ((s.size + 7) / 8) ((s.size + 7) / 8) ((cutN (strN s)).map wv) rfl hlen hcells (wv_ones _) h63 hby hb2.size ?_; intro v2 w2 hown2 hgrow hnil)
  go_ret
  exact ⟨v2, rfl, hown2, hb2.grown hgrow hb2.size (by intro q hq; cases hq; exact Nat.le_refl _)⟩

theorem cells5 : Tryd.prog.cellsOf 5 = 1 := by kernel_rfl
theorem plain5 : Tryd.prog.plainKey 5 = true := by kernel_rfl
theorem bytes8_get (n i : Nat) (h : i < 8) : (bytes8 n)[i]? = some (bv (byt n i)) := by simp [bytes8, h]
theorem items8 (n : Nat) (w : World) : ∀ is : List Nat, (∀ i ∈ is, i < 8) → (Op.eqItems 9999 5 1 (bytes8 n) (bytes8 n) is).run Tryd.prog w = .ok true w
  | [], _ => by simp [Op.eqItems]
  | i :: is, h => by
    have hp := run_part_plain (P := Tryd.prog) w plain5 (xs := bytes8 n) (off := i) (bytes8_get n i (h i (by simp)))
    have he := run_equalIn_int (P := Tryd.prog) w 9998 5 .u8 .u8 (byt n i) (byt n i) Tryd.underlying5
    simp only [beq_self_eq_true] at he
    have hi := items8 n w is (fun j hj => h j (by simp [hj]))
    simp only [Op.eqItems, Sem.run_bind, Nat.mul_one, hp, Result.andThen_ok, bv, he, Bool.not_true, Bool.false_eq_true, if_false, hi]
theorem eql8 (n : Nat) (w : World) : (binOp .eql 107 (.agg (bytes8 n)) (.agg (bytes8 n))).run Tryd.prog w = .ok (.bool true) w := by
  obtain ⟨i0, hi, hz0, hz1, hz2⟩ := info_parts info5
  have h := run_equalIn_array (P := Tryd.prog) w 9999 (bytes8 n) (bytes8 n) Tryd.underlying107 hi
  rw [cells5, items8 n w _ (by intro i hi; exact List.mem_range.1 hi)] at h
  rw [run_eql_struct, h]
  rfl

def kb : List Nat := [0, 1, 0, 0, 0, 0, 0, 0, 0]
theorem kpack0 : packN ⟨#[]⟩ = [0] := by rfl
theorem kpack2 : packN ⟨#[97, 98]⟩ = [2, 25185] := by rfl
theorem kpack9 : packN ⟨#[97, 98, 99, 100, 101, 102, 103, 104, 105]⟩ = [9, 7523094288207667809, 105] := by rfl
theorem pack_at (s : ByteArray) (l : List Nat) (n : Nat) (w : World) (hs : s.size ≤ 1000000) (hl : packN s = l) (hn : l.length = n) :
    Calls Tryd.prog 34 #[.string s] w fun e w' => ∃ A c, e = .returned (.slice A n c) ∧ Sl w' A (l.map wv) ∧ Below w.heap.size w w' := by
  refine (pack_any s w hs).mono ?_
  rintro e w' ⟨v, rfl, hown, hb⟩
  obtain ⟨A, c, rfl, _, _, hsl, hlen⟩ := own_sl hown
  subst hl
  rw [List.length_map] at hlen
  rw [hn] at hlen
  subst hlen
  exact ⟨A, c, rfl, hsl, hb⟩
end Go.Proofs.YtnjecjcnkmgjmaaDoor
/- A word's bytes as a list; the document's own reading of a word; Set: what each turns and answers. For words below 2^64 and places at which eight bytes stand. -/
namespace Go.Proofs.YtnjecjcnkmgjmaaDoor
open Go.RowKit
set_option linter.unusedVariables false
def bytesN (n : Nat) : List Nat := (List.range 8).map (byt n)
theorem bytesN_length (n : Nat) : (bytesN n).length = 8 := by simp [bytesN]
theorem bytesN_byts (n : Nat) : Byts (bytesN n) := by
  intro b hb
  simp only [bytesN, List.mem_map] at hb
  obtain ⟨i, _, rfl⟩ := hb
  exact byt_lt n i
theorem bytesN_join (n : Nat) (hn : n < 18446744073709551616) : joinN (bytesN n) = n := by
  have e : bytesN n = [byt n 0, byt n 1, byt n 2, byt n 3, byt n 4, byt n 5, byt n 6, byt n 7] := rfl
  rw [e]
  simp only [joinN, byt, up]
  omega
theorem bytes8_list (n : Nat) : bytes8 n = ((bytesN n).map bv).toArray := by
  apply Array.ext
  · simp [bytes8, bytesN]
  · intro i h1 h2
    simp [bytes8, bytesN]
theorem joinTake_succ (l : List Nat) (k j : Nat) (hj : j < 8) (h : k + 8 ≤ l.length) :
    joinN ((l.drop (k + 8 - (j + 1))).take (j + 1)) = (l[k + 8 - (j + 1)]'(by omega)) + 256 * joinN ((l.drop (k + 8 - j)).take j) := by
  have e : l.drop (k + 8 - (j + 1)) = (l[k + 8 - (j + 1)]'(by omega)) :: l.drop (k + 8 - j) := by
    rw [List.drop_eq_getElem_cons (by omega)]
    rw [show k + 8 - (j + 1) + 1 = k + 8 - j from by omega]
  rw [e, List.take_succ_cons, joinN]
set_option maxRecDepth 100000 in
set_option maxHeartbeats 400000 in
theorem take_any (l : List Nat) (a : Addr) (len cap k : Nat) (w : World) (hlen : l.length = len) (hl : len ≤ 1000000) (h : k + 8 ≤ len) (hb : Byts l) (hs : Sl w (some a) (l.map bv)) :
    Calls Tryd.prog 26 #[.slice (some a) len cap, .int .i64 (k : Int)] w fun e w' => e = .returned (.int .u64 (joinN ((l.drop k).take 8))) ∧ w = w' := by
  subst hlen
  go_enter Tryd.func26, Tryd.ntmps26
  go_wp2
  go_loop [5, 6] (fun q i => ∃ j : Nat, j ≤ 8 ∧ q = .int .u64 (joinN ((l.drop (k + 8 - j)).take j)) ∧ i = .int .i64 (7 - (j : Int))) (fun _ i => (intOf i + 1).toNat)
  case atStart => exact ⟨0, by omega, by simp [joinN], rfl⟩
  case round =>
    obtain ⟨j, hj, rfl, rfl⟩ := hrel
    by_cases hlt : j < 8
    · have hx := joinN_lt ((l.drop (k + 8 - j)).take j) (fun b h => hb b (List.mem_of_mem_drop (List.mem_of_mem_take h)))
      have hlj : ((l.drop (k + 8 - j)).take j).length = j := by rw [List.length_take, List.length_drop]; omega
      rw [hlj] at hx
      have hp := pow_le8 (k := j + 1) (by omega)
      have hp2 : 256 ^ (j + 1) = 256 * 256 ^ j := by rw [Nat.pow_succ, Nat.mul_comm]
      have hq := joinTake_succ l k j hlt h
      obtain ⟨Q, hQ⟩ : ∃ Q, Q = joinN ((l.drop (k + 8 - j)).take j) := ⟨_, rfl⟩
      rw [← hQ] at hx hq ⊢
      have hx2 : Q * 256 + 255 < 18446744073709551616 := by omega
      have hc := hs.some_ (i := k + 8 - (j + 1)) (by rw [List.length_map]; omega)
      rw [List.getElem_map] at hc
      obtain ⟨b, hbe⟩ : ∃ b, b = l[k + 8 - (j + 1)]'(by omega) := ⟨_, rfl⟩
      have hb256 : b < 256 := by rw [hbe]; exact hb _ (List.getElem_mem _)
      rw [← hbe] at hc hq
      have HQ := Lib.hid hq
      clear hp hp2 hx hQ hlj hq hbe
      have e1 : k + 8 - (j + 1) = k + (7 - j) := by omega
      rw [e1] at hc
      unfold bv at hc
      go_wp2
      go_round
      case rel => exact ⟨j + 1, by omega, by rw [HQ.out]; go_num, by go_num⟩
      case measure => simp [intOf]; omega
    · have hj8 : j = 8 := by omega
      subst hj8
      go_wp2
      go_ret
      exact ⟨rfl, rfl⟩

theorem size5 : (Tryd.prog.info? 5).map (·.size) = some 1 := by kernel_rfl
end Go.Proofs.YtnjecjcnkmgjmaaDoor
