/- WordIs answers true for every word: its bytes and its digits are the document's, and it is read from both. -/
import Derived.Test.YtjpdmdplcecglaaBytes
import Derived.Test.YtjpdmdplcecglaaOfHex
import Derived.Test.YtjpdmdplcecglaaRefHex
import Derived.Deep.RegionHeld3
namespace Go.Proofs.Ytjpdmdplcecglaa
open Go.RowKit
set_option linter.unusedVariables false
theorem get0 (n : Nat) (B : Array Value) (g : Nat) (W : World) (hn : n < 18446744073709551616) (hB : B = bytes8 n) (h : Row W g 23 B) :
    Calls Try.prog 11 #[.slice (some ⟨g, 0, none⟩) 8 8, .int .i64 0] W fun e w' => e = .returned (.tuple #[.int .u64 (n : Int), .int .i64 0]) ∧ W = w' := by
  rw [hB, bytes8_list] at h
  have h1 := get_yes (bytesN n) ⟨g, 0, none⟩ 8 8 0 W (bytesN_length n) (by omega) (by omega) (by omega) (bytesN_byts n) (row_sl h)
  rw [List.drop_zero, List.take_of_length_le (by rw [bytesN_length]; omega), bytesN_join n hn] at h1
  exact h1
theorem keepAll {W W' w : World} {g : Nat} {v0 v1 v2 v3 v4 v5 v6 v7 : Value} (hb : Below W.heap.size W W')
    (h : W.cell? ⟨g, 0, none⟩ = some v0 ∧ W.cell? ⟨g, 1, none⟩ = some v1 ∧ W.cell? ⟨g, 2, none⟩ = some v2 ∧ W.cell? ⟨g, 3, none⟩ = some v3 ∧ W.cell? ⟨g, 4, none⟩ = some v4 ∧ W.cell? ⟨g, 5, none⟩ = some v5 ∧
      W.cell? ⟨g, 6, none⟩ = some v6 ∧ W.cell? ⟨g, 7, none⟩ = some v7 ∧ Below w.heap.size w W) :
    W'.cell? ⟨g, 0, none⟩ = some v0 ∧ W'.cell? ⟨g, 1, none⟩ = some v1 ∧ W'.cell? ⟨g, 2, none⟩ = some v2 ∧ W'.cell? ⟨g, 3, none⟩ = some v3 ∧ W'.cell? ⟨g, 4, none⟩ = some v4 ∧ W'.cell? ⟨g, 5, none⟩ = some v5 ∧
      W'.cell? ⟨g, 6, none⟩ = some v6 ∧ W'.cell? ⟨g, 7, none⟩ = some v7 ∧ Below w.heap.size w W' := by
  obtain ⟨h0, h1, h2, h3, h4, h5, h6, h7, h8⟩ := h
  have k {i : Nat} {u : Value} (h : W.cell? ⟨g, i, none⟩ = some u) : W'.cell? ⟨g, i, none⟩ = some u := (hb.cell (block_lt_of_cell h)).trans h
  exact ⟨k h0, k h1, k h2, k h3, k h4, k h5, k h6, k h7, Below.and h8 hb⟩
/-- What the last statement reads: the eight cells of the array, and that all that was there is as it was. -/
def Held (g n : Nat) (w0 w : World) : Prop :=
  w.cell? ⟨g, 0, none⟩ = some (.int .u8 (byt n 0)) ∧ w.cell? ⟨g, 1, none⟩ = some (.int .u8 (byt n 1)) ∧ w.cell? ⟨g, 2, none⟩ = some (.int .u8 (byt n 2)) ∧ w.cell? ⟨g, 3, none⟩ = some (.int .u8 (byt n 3)) ∧
  w.cell? ⟨g, 4, none⟩ = some (.int .u8 (byt n 4)) ∧ w.cell? ⟨g, 5, none⟩ = some (.int .u8 (byt n 5)) ∧ w.cell? ⟨g, 6, none⟩ = some (.int .u8 (byt n 6)) ∧ w.cell? ⟨g, 7, none⟩ = some (.int .u8 (byt n 7)) ∧ Below w0.heap.size w0 w
theorem Held.of {g n : Nat} {w0 w : World} (h : Row w g 23 (bytes8 n)) (hb : Below w0.heap.size w0 w) : Held g n w0 w :=
  have c (i : Nat) (hi : i < 8) : w.cell? ⟨g, i, none⟩ = some (.int .u8 (byt n i)) := (h.cell i).trans (by simp [bytes8, hi, bv])
  ⟨c 0 (by omega), c 1 (by omega), c 2 (by omega), c 3 (by omega), c 4 (by omega), c 5 (by omega), c 6 (by omega), c 7 (by omega), hb⟩
theorem Held.below {g n : Nat} {w0 w w' : World} (hb : Below w.heap.size w w') (h : Held g n w0 w) : Held g n w0 w' := by
  obtain ⟨h0, h1, h2, h3, h4, h5, h6, h7, h8⟩ := h
  have k {i : Nat} {u : Value} (h : w.cell? ⟨g, i, none⟩ = some u) : w'.cell? ⟨g, i, none⟩ = some u := (hb.cell (block_lt_of_cell h)).trans h
  exact ⟨k h0, k h1, k h2, k h3, k h4, k h5, k h6, k h7, Below.and h8 hb⟩
theorem eql8L (n : Nat) (w : World) : (binOp .eql 23 (.agg #[.int .u8 (byt n 0), .int .u8 (byt n 1), .int .u8 (byt n 2), .int .u8 (byt n 3), .int .u8 (byt n 4), .int .u8 (byt n 5), .int .u8 (byt n 6), .int .u8 (byt n 7)]) (.agg (bytes8 n))).run Try.prog w = .ok (.bool true) w := eql8 n w
set_option maxHeartbeats 400000 in
theorem is_walk (n : Nat) (S : ByteArray) (w : World) (hn : n < 18446744073709551616)
    (H1 : Hid (∀ w, Calls Try.prog 12 #[.int .u64 (n : Int)] w fun e w' => e = .returned (.string S) ∧ Below w.heap.size w w'))
    (H2 : Hid (∀ w, Calls Try.prog 13 #[.string S] w fun e w' => e = .returned (.tuple #[.int .u64 (n : Int), .int .i64 0]) ∧ w = w'))
    (H4 : Hid (∀ w, Calls Try.prog 14 #[.int .u64 (n : Int)] w fun e w' => e = .returned (.agg (bytes8 n)) ∧ Below w.heap.size w w'))
    (H3 : Hid (∀ w, Calls Try.prog 15 #[.int .u64 (n : Int)] w fun e w' => e = .returned (.string S) ∧ w = w')) :
    Calls Try.prog 3 #[.int .u64 (n : Int)] w fun e w' => e = .returned (.bool true) ∧ Below w.heap.size w w' := by
  have hfit := bytes8_fit n
  have hold := bytes8_old n
  have hone := bytes8_one n
  obtain ⟨B, hB⟩ : ∃ B, B = bytes8 n := ⟨_, rfl⟩
  rw [← hB] at hfit hold hone
  have HB := Lib.hid hB
  clear hB
  go_enter Try.func3, Try.ntmps3
  go_wp2_with fail
  refine (put_any n _).mono ?_
  rintro e w1 ⟨rfl, hb1⟩
  rw [← HB.out]
  have hr1 := Row.new w1 23 (Array.replicate 8 (bv 0))
  go_wp2_with (refine wpList_store_row rfl 23 _ _ rfl w1.heap.size B rfl rfl 23 _ hr1 hfit hold hone ?_)
  refine (get0 n B w1.heap.size _ hn HB.out (hr1.setRow B)).mono ?_
  rintro e w2 ⟨rfl, hw2⟩
  have hr2 : Row w2 w1.heap.size 23 B := by rw [← hw2]; exact hr1.setRow B
  have hb2 : Below w.heap.size w w2 := by rw [← hw2]; exact below_setRow (Below.and hb1 (alloc_below _ _)) hb1.size _
  obtain ⟨g, hg⟩ : ∃ g, g = w1.heap.size := ⟨_, rfl⟩
  rw [← hg] at hr2 ⊢
  clear hw2 hr1 hg
  go_wp2_with fail
  refine (H1.out _).mono ?_
  rintro e w3 ⟨rfl, hb3⟩
  go_wp2_with fail
  refine (H2.out _).mono ?_
  rintro e w4 ⟨rfl, rfl⟩
  have hr3 := hr2.below hb3 hr2.lt
  have hb4 := Below.and hb2 hb3
  have hr4 := hr3
  rw [HB.out] at hr4
  have hh : Held g n w w3 := Held.of hr4 hb4
  have H4' : Hid (∀ w, Calls Try.prog 14 #[.int .u64 (n : Int)] w fun e w' => e = .returned (.agg B) ∧ Below w.heap.size w w') := by rw [HB.out]; exact H4
  have hq := eql8L n
  rw [← HB.out] at hq
  have hnn : ((n : Int) == (n : Int)) = true := by simp
  have hss : (S.toList == S.toList) = true := by simp
  clear hr3 hb4 hr2 hb2 hb1 hb3 hfit hold hone HB hr4 H4 H1 H2
  obtain ⟨b0, hb0⟩ : ∃ x, x = byt n 0 := ⟨_, rfl⟩
  obtain ⟨b1, hb1⟩ : ∃ x, x = byt n 1 := ⟨_, rfl⟩
  obtain ⟨b2, hb2⟩ : ∃ x, x = byt n 2 := ⟨_, rfl⟩
  obtain ⟨b3, hb3⟩ : ∃ x, x = byt n 3 := ⟨_, rfl⟩
  obtain ⟨b4, hb4⟩ : ∃ x, x = byt n 4 := ⟨_, rfl⟩
  obtain ⟨b5, hb5⟩ : ∃ x, x = byt n 5 := ⟨_, rfl⟩
  obtain ⟨b6, hb6⟩ : ∃ x, x = byt n 6 := ⟨_, rfl⟩
  obtain ⟨b7, hb7⟩ : ∃ x, x = byt n 7 := ⟨_, rfl⟩
  unfold Held at hh
  rw [← hb0, ← hb1, ← hb2, ← hb3, ← hb4, ← hb5, ← hb6, ← hb7] at hh hq
  clear hb0 hb1 hb2 hb3 hb4 hb5 hb6 hb7
  go_wp2_with fail
  go_region_held3 (fun w' => w'.cell? ⟨g, 0, none⟩ = some (.int .u8 b0) ∧ w'.cell? ⟨g, 1, none⟩ = some (.int .u8 b1) ∧ w'.cell? ⟨g, 2, none⟩ = some (.int .u8 b2) ∧ w'.cell? ⟨g, 3, none⟩ = some (.int .u8 b3) ∧
  w'.cell? ⟨g, 4, none⟩ = some (.int .u8 b4) ∧ w'.cell? ⟨g, 5, none⟩ = some (.int .u8 b5) ∧ w'.cell? ⟨g, 6, none⟩ = some (.int .u8 b6) ∧ w'.cell? ⟨g, 7, none⟩ = some (.int .u8 b7) ∧ Below w.heap.size w w')
    (first | assumption | exact keepAll (drew_below _) (by assumption) | exact keepAll hbx (by assumption))
    (first | (go_at_call 14; refine (H4'.out _).mono ?_; rintro e wx ⟨rfl, hbx⟩) | (go_at_call 15; refine (H3.out _).mono ?_; rintro e wx ⟨rfl, rfl⟩) | (go_at_call 16; refine (known_any _).mono ?_; rintro e wx ⟨rfl, hbx⟩))
  go_wp2
  go_ret
  rename_i hfin
  exact ⟨rfl, hfin.2.2.2.2.2.2.2.2⟩
theorem is_any (n : Nat) (w : World) (hn : n < 18446744073709551616) :
    Calls Try.prog 3 #[.int .u64 (n : Int)] w fun e w' => e = .returned (.bool true) ∧ Below w.heap.size w w' :=
  is_walk n (hexS n) w hn (Lib.hid (hex_any n · hn)) (Lib.hid fun w => by
    have h := ofHex_ok (hexS n) w (hexS_size n) (hexS_good n)
    rw [hexS_back n hn] at h
    exact h) (Lib.hid (refPut_any n · hn)) (Lib.hid (refHex_any n · hn))
theorem is_all (a : Int) (w : World) (ha : (Lit.int .u64 a).wf = true) :
    Calls Try.prog 3 #[.int .u64 a] w fun e w' => e = .returned (.bool true) ∧ Below w.heap.size w w' := by
  obtain ⟨n, rfl, hn⟩ := wf_nat ha
  exact is_any n w hn
end Go.Proofs.Ytjpdmdplcecglaa
