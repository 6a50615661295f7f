/- The laws GeoBlocks, GeoApart, GeoWhole answer true, for any inputs, where geo.rooms holds what its initialiser lays. -/
import Derived.Test.YtdhenfachjegpaaDoorGeoX
namespace Go.Proofs.YtdhenfachjegpaaDoor
open Go.RowKit Go.Sort
set_option linter.unusedVariables false

set_option maxHeartbeats 800000 in
theorem blocks_out {s : Int} (h : ¬ (1 ≤ s ∧ s ≤ 64)) (c j : Int) (w : World) (R : Rms w) :
    Calls Tryd.prog 4 #[.int .i64 s, .int .i64 c, .int .i64 j] w fun e w' => e = .returned (.bool true) ∧ Gr w w' := by
  have HR := Lib.hid R
  have H1 := Lib.hid (refHeader_no h)
  have H2 := Lib.hid (show ∀ w, Calls Tryd.prog 20 #[.int .i64 s, .int .i64 c, .int .i64 j] w fun e w' => e = .returned (.int .u64 0) ∧ w = w' from fun w => refBlock_out h c j w)
  have H3 := Lib.hid (show ∀ w, Calls Tryd.prog 21 #[.int .i64 s] w fun e w' => e = .returned (.int .u64 0) ∧ w = w' from fun w => by have := header_any s w; rwa [show hdA s = 0 from if_neg h] at this)
  have H4 := Lib.hid fun w R => block_out h c j w R
  have H5 := Lib.hid (bits_no h)
  clear h R
  go_enter Tryd.func4, Tryd.ntmps4
  go_wp2_with fail
  refine (H1.out _).mono ?_
  rintro e w1 ⟨rfl, rfl⟩
  go_wp2_with fail
  refine (H2.out _).mono ?_
  rintro e w1 ⟨rfl, rfl⟩
  go_wp2_with fail
  refine (H3.out _).mono ?_
  rintro e w1 ⟨rfl, rfl⟩
  go_wp2_with fail
  refine (H4.out _ HR.out).mono ?_
  rintro e w1 ⟨rfl, hg⟩
  have G1 := Lib.hid hg
  clear hg
  go_wp2_with fail
  refine (H5.out _).mono ?_
  rintro e w2 ⟨rfl, rfl⟩
  go_wp2_with fail
  refine (known3_any _ (HR.out.gr G1.out)).mono ?_
  rintro e w2 ⟨rfl, hg⟩
  go_wp2
  go_ret
  exact ⟨rfl, G1.out.trans hg⟩
set_option maxHeartbeats 800000 in
theorem blocks_none {s c j : Int} (h : 1 ≤ s ∧ s ≤ 64) (hj : ¬ (0 ≤ j ∧ j < blC c)) (w : World) (R : Rms w) :
    Calls Tryd.prog 4 #[.int .i64 s, .int .i64 c, .int .i64 j] w fun e w' => e = .returned (.bool true) ∧ Gr w w' := by
  have HR := Lib.hid R
  have e : hdA s = 1024 * s := if_pos h
  have H1 := Lib.hid (refHeader_yes h)
  have H2 := Lib.hid (refBlock_none h hj)
  have H3 := Lib.hid (show ∀ w, Calls Tryd.prog 21 #[.int .i64 s] w fun e w' => e = .returned (.int .u64 (1024 * s)) ∧ w = w' from fun w => by have := header_any s w; rwa [e] at this)
  have H4 := Lib.hid fun w R => block_none h hj w R
  have H5 := Lib.hid (show ∀ w, Calls Tryd.prog 23 #[.int .i64 s] w fun e w' => e = .returned (.int .u64 (1024 * s + 8)) ∧ w = w' from fun w => by have := bits_yes h w; rwa [e] at this)
  obtain ⟨h1, h2⟩ := h
  obtain ⟨H, hH⟩ : ∃ H, H = 1024 * s := ⟨_, rfl⟩
  rw [← hH] at H1 H3 H5
  have b1 : 1024 ≤ H := by omega
  have b2 : H ≤ 65536 := by omega
  have t1 : (H == 0) = false := by simp; omega
  have t2 : (H != 0) = true := by simp; omega
  clear hj R hH e
  go_enter Tryd.func4, Tryd.ntmps4
  go_wp2_with fail
  refine (H1.out _).mono ?_
  rintro e w1 ⟨rfl, rfl⟩
  go_wp2_with fail
  refine (H2.out _).mono ?_
  rintro e w1 ⟨rfl, rfl⟩
  go_wp2_with fail
  refine (H3.out _).mono ?_
  rintro e w1 ⟨rfl, rfl⟩
  go_wp2_with fail
  refine (H4.out _ HR.out).mono ?_
  rintro e w1 ⟨rfl, hg⟩
  have G1 := Lib.hid hg
  clear hg
  go_wp2_with fail
  refine (H5.out _).mono ?_
  rintro e w2 ⟨rfl, rfl⟩
  go_wp2_with fail
  refine (known3_any _ (HR.out.gr G1.out)).mono ?_
  rintro e w2 ⟨rfl, hg⟩
  go_wp2
  go_ret
  exact ⟨rfl, G1.out.trans hg⟩
set_option maxHeartbeats 1600000 in
theorem blocks_walk {s c j H b x : Int} (w : World) (R : Rms w) (b1 : 1024 ≤ H) (b2 : H ≤ 65536) (b3 : H + 64 ≤ b) (b4 : b + x ≤ H + 1024) (b5 : 64 ≤ x) (b6 : x ≤ 192)
    (H1 : Hid (∀ w, Calls Tryd.prog 19 #[.int .i64 s] w fun e w' => e = .returned (.int .u64 H) ∧ w = w')) (H2 : Hid (∀ w, Calls Tryd.prog 20 #[.int .i64 s, .int .i64 c, .int .i64 j] w fun e w' => e = .returned (.int .u64 b) ∧ w = w'))
    (H3 : Hid (∀ w, Calls Tryd.prog 21 #[.int .i64 s] w fun e w' => e = .returned (.int .u64 H) ∧ w = w')) (H4 : Hid (∀ w, Rms w → Calls Tryd.prog 22 #[.int .i64 s, .int .i64 c, .int .i64 j] w fun e w' => e = .returned (.int .u64 b) ∧ Gr w w'))
    (H5 : Hid (∀ w, Calls Tryd.prog 23 #[.int .i64 s] w fun e w' => e = .returned (.int .u64 (H + 8)) ∧ w = w'))
    (H6 : Hid (∀ w, Rms w → Calls Tryd.prog 24 #[.int .u64 b, .int .i64 c] w fun e w' => e = .returned (.tuple #[.int .i64 j, .bool true]) ∧ Gr w w')) (H7 : Hid (∀ w, Calls Tryd.prog 25 #[.int .u64 b] w fun e w' => e = .returned (.int .i64 s) ∧ w = w'))
    (H8 : Hid (∀ w, Rms w → Calls Tryd.prog 14 #[.int .i64 c] w fun e w' => e = .returned (.int .i64 x) ∧ Gr w w')) (H9 : Hid (∀ w, Calls Tryd.prog 26 #[.int .u64 b] w fun e w' => e = .returned (.int .u64 b) ∧ w = w')) :
    Calls Tryd.prog 4 #[.int .i64 s, .int .i64 c, .int .i64 j] w fun e w' => e = .returned (.bool true) ∧ Gr w w' := by
  have HR := Lib.hid R
  have t1 : (H == 0) = false := by simp; omega
  have t2 : (H != 0) = true := by simp; omega
  have t3 : (b == 0) = false := by simp; omega
  clear R
  go_enter Tryd.func4, Tryd.ntmps4
  go_wp2_with fail
  refine (H1.out _).mono ?_
  rintro e w1 ⟨rfl, rfl⟩
  go_wp2_with fail
  refine (H2.out _).mono ?_
  rintro e w1 ⟨rfl, rfl⟩
  go_wp2_with fail
  refine (H3.out _).mono ?_
  rintro e w1 ⟨rfl, rfl⟩
  go_wp2_with fail
  refine (H4.out _ HR.out).mono ?_
  rintro e w1 ⟨rfl, hg⟩
  have G1 := Lib.hid hg
  clear hg
  go_wp2_with fail
  refine (H5.out _).mono ?_
  rintro e w2 ⟨rfl, rfl⟩
  go_wp2_with fail
  refine (H6.out _ (HR.out.gr G1.out)).mono ?_
  rintro e w2 ⟨rfl, hg⟩
  have G2 := Lib.hid (G1.out.trans hg)
  clear hg
  go_wp2_with fail
  refine (H7.out _).mono ?_
  rintro e w3 ⟨rfl, rfl⟩
  go_wp2_with fail
  refine (H8.out _ (HR.out.gr G2.out)).mono ?_
  rintro e w3 ⟨rfl, hg⟩
  have G3 := Lib.hid (G2.out.trans hg)
  clear hg
  go_wp2_with fail
  refine (H9.out _).mono ?_
  rintro e w4 ⟨rfl, rfl⟩
  go_wp2_with fail
  refine (known3_any _ (HR.out.gr G3.out)).mono ?_
  rintro e w4 ⟨rfl, hg⟩
  go_wp2
  go_ret
  exact ⟨rfl, G3.out.trans hg⟩
theorem geoBlocks_any (s c j : Int) (w : World) (R : Rms w) : Calls Tryd.prog 4 #[.int .i64 s, .int .i64 c, .int .i64 j] w fun e w' => e = .returned (.bool true) ∧ Gr w w' := by
  by_cases h : 1 ≤ s ∧ s ≤ 64
  · by_cases hj : 0 ≤ j ∧ j < blC c
    · have v : 1 ≤ s ∧ s ≤ 64 ∧ 0 ≤ j ∧ j < blC c := ⟨h.1, h.2, hj.1, hj.2⟩
      have l := blkA_lies v
      have e : hdA s = 1024 * s := if_pos h
      have hw : wantA (blkA s c j) c = j := want_found v rfl
      refine blocks_walk (H := 1024 * s) (b := blkA s c j) (x := byC c) w R (by omega) (by omega) (by omega) (by omega) (by omega) (by omega) (Lib.hid (refHeader_yes h)) (Lib.hid (refBlock_any s c j)) (Lib.hid ?_) (Lib.hid fun w R => block_any s c j w R) (Lib.hid ?_)
        (Lib.hid fun w R => ?_) (Lib.hid fun w => ?_) (Lib.hid fun w R => bytes_any c w R) (Lib.hid fun w => ?_)
      · rw [← e]; exact header_any s
      · rw [← e]; exact bits_yes h
      · have := index_any (a := blkA s c j) (by omega) (by omega) c w R
        rw [hw, show max j 0 = j from by omega, show decide (0 ≤ j) = true from by simpa using hj.1] at this
        exact this
      · have := slab_any (a := blkA s c j) (by omega) (by omega) w
        rwa [slabA_blk v] at this
      · have := line_any (a := blkA s c j) (by omega) (by omega) w
        rwa [show blkA s c j - blkA s c j % 64 = blkA s c j from by omega] at this
    · exact blocks_none h hj w R
  · exact blocks_out h c j w R
set_option maxHeartbeats 1600000 in
set_option maxRecDepth 100000 in
theorem geoWhole_any (w : World) (R : Rms w) : Calls Tryd.prog 8 #[] w fun e w' => e = .returned (.bool true) ∧ Gr w w' := by
  have HR := Lib.hid R
  clear R
  go_enter Tryd.func8, Tryd.ntmps8
  go_wp2
  go_loopw [1] (fun i wr => ∃ k : Nat, 1 ≤ k ∧ k ≤ 4 ∧ i = .int .i64 k ∧ Hid (Gr w wr)) (fun i _ => 4 - (intOf i).toNat)
  case atStart => exact ⟨1, by omega, by omega, rfl, Gr.refl _⟩
  case round =>
    rename World => wr
    obtain ⟨k, hk1, hk, rfl, hg⟩ := hrel
    have hkk : k = 1 ∨ k = 2 ∨ k = 3 ∨ k = 4 := by omega
    rcases hkk with rfl | rfl | rfl | rfl
    · have H1 := Lib.hid fun w R => blocks_any 1 w R
      rw [show blC 1 = 15 from rfl] at H1
      have H2 := Lib.hid fun w R => bytes_any 1 w R
      rw [show byC 1 = 64 from rfl] at H2
      have H3 := Lib.hid fun w R => block_any 1 1 15 w R
      rw [show blkA 1 1 15 = 0 from rfl] at H3
      have H4 := Lib.hid fun w R => block_any 1 1 14 w R
      rw [show blkA 1 1 14 = 1984 from rfl] at H4
      go_wp2_with fail
      refine (H1.out _ (HR.out.gr hg.out)).mono ?_
      rintro e w1 ⟨rfl, hg1⟩
      have G1 := Lib.hid (hg.out.trans hg1)
      clear hg1
      go_wp2_with fail
      refine (H2.out _ (HR.out.gr G1.out)).mono ?_
      rintro e w2 ⟨rfl, hg1⟩
      have G2 := Lib.hid (G1.out.trans hg1)
      clear hg1
      go_wp2_with fail
      refine (H2.out _ (HR.out.gr G2.out)).mono ?_
      rintro e w3 ⟨rfl, hg1⟩
      have G3 := Lib.hid (G2.out.trans hg1)
      clear hg1
      go_wp2_with fail
      refine (H3.out _ (HR.out.gr G3.out)).mono ?_
      rintro e w4 ⟨rfl, hg1⟩
      have G4 := Lib.hid (G3.out.trans hg1)
      clear hg1
      go_wp2_with fail
      refine (H4.out _ (HR.out.gr G4.out)).mono ?_
      rintro e w5 ⟨rfl, hg1⟩
      have G5 := Lib.hid (G4.out.trans hg1)
      clear hg1
      go_wp2
      go_roundw
      case rel => exact ⟨2, by omega, by omega, by rfl, G5.out⟩
      case measure => simp [intOf]
    · have H1 := Lib.hid fun w R => blocks_any 2 w R
      rw [show blC 2 = 7 from rfl] at H1
      have H2 := Lib.hid fun w R => bytes_any 2 w R
      rw [show byC 2 = 128 from rfl] at H2
      have H3 := Lib.hid fun w R => block_any 1 2 7 w R
      rw [show blkA 1 2 7 = 0 from rfl] at H3
      have H4 := Lib.hid fun w R => block_any 1 2 6 w R
      rw [show blkA 1 2 6 = 1856 from rfl] at H4
      go_wp2_with fail
      refine (H1.out _ (HR.out.gr hg.out)).mono ?_
      rintro e w1 ⟨rfl, hg1⟩
      have G1 := Lib.hid (hg.out.trans hg1)
      clear hg1
      go_wp2_with fail
      refine (H2.out _ (HR.out.gr G1.out)).mono ?_
      rintro e w2 ⟨rfl, hg1⟩
      have G2 := Lib.hid (G1.out.trans hg1)
      clear hg1
      go_wp2_with fail
      refine (H2.out _ (HR.out.gr G2.out)).mono ?_
      rintro e w3 ⟨rfl, hg1⟩
      have G3 := Lib.hid (G2.out.trans hg1)
      clear hg1
      go_wp2_with fail
      refine (H3.out _ (HR.out.gr G3.out)).mono ?_
      rintro e w4 ⟨rfl, hg1⟩
      have G4 := Lib.hid (G3.out.trans hg1)
      clear hg1
      go_wp2_with fail
      refine (H4.out _ (HR.out.gr G4.out)).mono ?_
      rintro e w5 ⟨rfl, hg1⟩
      have G5 := Lib.hid (G4.out.trans hg1)
      clear hg1
      go_wp2
      go_roundw
      case rel => exact ⟨3, by omega, by omega, by rfl, G5.out⟩
      case measure => simp [intOf]
    · have H1 := Lib.hid fun w R => blocks_any 3 w R
      rw [show blC 3 = 5 from rfl] at H1
      have H2 := Lib.hid fun w R => bytes_any 3 w R
      rw [show byC 3 = 192 from rfl] at H2
      have H3 := Lib.hid fun w R => block_any 1 3 5 w R
      rw [show blkA 1 3 5 = 0 from rfl] at H3
      have H4 := Lib.hid fun w R => block_any 1 3 4 w R
      rw [show blkA 1 3 4 = 1856 from rfl] at H4
      go_wp2_with fail
      refine (H1.out _ (HR.out.gr hg.out)).mono ?_
      rintro e w1 ⟨rfl, hg1⟩
      have G1 := Lib.hid (hg.out.trans hg1)
      clear hg1
      go_wp2_with fail
      refine (H2.out _ (HR.out.gr G1.out)).mono ?_
      rintro e w2 ⟨rfl, hg1⟩
      have G2 := Lib.hid (G1.out.trans hg1)
      clear hg1
      go_wp2_with fail
      refine (H2.out _ (HR.out.gr G2.out)).mono ?_
      rintro e w3 ⟨rfl, hg1⟩
      have G3 := Lib.hid (G2.out.trans hg1)
      clear hg1
      go_wp2_with fail
      refine (H3.out _ (HR.out.gr G3.out)).mono ?_
      rintro e w4 ⟨rfl, hg1⟩
      have G4 := Lib.hid (G3.out.trans hg1)
      clear hg1
      go_wp2_with fail
      refine (H4.out _ (HR.out.gr G4.out)).mono ?_
      rintro e w5 ⟨rfl, hg1⟩
      have G5 := Lib.hid (G4.out.trans hg1)
      clear hg1
      go_wp2
      go_roundw
      case rel => exact ⟨4, by omega, by omega, by rfl, G5.out⟩
      case measure => simp [intOf]
    · have H1 := Lib.hid (ptr_any (b := 192) (by omega) (by omega) 7)
      rw [show ptrA 192 7 = 376 from rfl] at H1
      have H2 := Lib.hid fun w R => bytes_any 3 w R
      rw [show byC 3 = 192 from rfl] at H2
      have H3 := Lib.hid (key_any (b := 192) (by omega) (by omega) 0)
      rw [show keyA 192 0 = 256 from rfl] at H3
      have H4 := Lib.hid (field_any (b := 192) (by omega) (by omega) 7)
      rw [show fieldA 192 7 = 248 from rfl] at H4
      go_wp2_with fail
      refine (H1.out _).mono ?_
      rintro e w1 ⟨rfl, rfl⟩
      go_wp2_with fail
      refine (H2.out _ (HR.out.gr hg.out)).mono ?_
      rintro e w2 ⟨rfl, hg1⟩
      have G2 := Lib.hid (hg.out.trans hg1)
      clear hg1
      go_wp2_with fail
      refine (H3.out _).mono ?_
      rintro e w3 ⟨rfl, rfl⟩
      go_wp2_with fail
      refine (H4.out _).mono ?_
      rintro e w3 ⟨rfl, rfl⟩
      go_wp2_with fail
      refine (known3_any _ (HR.out.gr G2.out)).mono ?_
      rintro e w3 ⟨rfl, hg1⟩
      go_wp2
      go_ret
      exact ⟨rfl, G2.out.trans hg1⟩
end Go.Proofs.YtdhenfachjegpaaDoor
