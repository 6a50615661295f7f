/- The contract of the reference's Index, and of known() of layer 3; for any inputs, where geo.rooms holds what its initialiser lays. -/
import Derived.Test.YtdhenfachjegpaaDoorGeoT
namespace Go.Proofs.YtdhenfachjegpaaDoor
open Go.RowKit Go.Sort
set_option linter.unusedVariables false

set_option maxHeartbeats 800000 in
set_option maxRecDepth 100000 in
theorem refIndex_any (a c : Int) (w : World) : Calls Tryd.prog 27 #[.int .u64 a, .int .i64 c] w fun e w' => e = .returned (.int .i64 (wantA a c)) ∧ w = w' := by
  obtain ⟨n, hn⟩ : ∃ n : Nat, blC c = n := ⟨(blC c).toNat, by have := blC_range c; omega⟩
  have hn15 : n ≤ 15 := by have := blC_range c; omega
  have HB := Lib.hid (show ∀ w, Calls Tryd.prog 17 #[.int .i64 c] w fun e w' => e = .returned (.int .i64 (n : Int)) ∧ w = w' from fun w => by rw [← hn]; exact refBlocks_any c w)
  have HN := Lib.hid hn
  clear hn
  go_enter Tryd.func27, Tryd.ntmps27
  go_wp2
  go_loop [5] (fun i => ∃ k : Nat, 1 ≤ k ∧ k ≤ 65 ∧ i = .int .i64 k ∧ Hid (∀ s j : Int, 1 ≤ s → s < k → 0 ≤ j → j < n → blkA s c j ≠ a)) (fun i => 65 - (intOf i).toNat)
  case atStart => exact ⟨1, by omega, by omega, rfl, fun s j h1 h2 h3 h4 => by omega⟩
  case round =>
    obtain ⟨k, hk1, hk, rfl, HS⟩ := hrel
    by_cases h : k < 65
    · go_wp2_with fail
      go_loop [6] (fun i => ∃ m : Nat, m ≤ n ∧ i = .int .i64 m ∧ Hid (∀ j : Int, 0 ≤ j → j < m → blkA k c j ≠ a)) (fun i => n - (intOf i).toNat)
      case atStart => exact ⟨0, by omega, rfl, fun j h1 h2 => by omega⟩
      case round =>
        obtain ⟨m, hm, rfl, HM⟩ := hrel
        by_cases hmn : m < n
        · have HK := Lib.hid (refBlock_any (k : Int) c (m : Int))
          have hr := blkA_range (k : Int) c (m : Int)
          by_cases he : blkA k c m = a
          · have HE := Lib.hid (show wantA a c = m from want_found (s := k) (c := c) (j := m) ⟨by omega, by omega, by omega, by have := HN.out; omega⟩ he)
            have ht : (blkA k c m == a) = true := by simpa using he
            clear he
            go_wp2_with fail
            refine (HB.out _).mono ?_
            rintro e w' ⟨rfl, rfl⟩
            go_wp2_with fail
            refine (HK.out _).mono ?_
            rintro e w' ⟨rfl, rfl⟩
            go_wp2
            go_ret
            exact ⟨ret_int HE.out.symm, rfl⟩
          · have HE := Lib.hid he
            have ht : (blkA k c m == a) = false := by simpa using he
            clear he
            go_wp2_with fail
            refine (HB.out _).mono ?_
            rintro e w' ⟨rfl, rfl⟩
            go_wp2_with fail
            refine (HK.out _).mono ?_
            rintro e w' ⟨rfl, rfl⟩
            go_wp2
            go_round
            case rel => exact ⟨m + 1, by omega, by go_num, fun j h1 h2 => by
              by_cases e : j = m
              · rw [e]; exact HE.out
              · exact HM.out j h1 (by omega)⟩
            case measure => simp [intOf]; omega
        · obtain rfl : m = n := by omega
          go_wp2_with fail
          refine (HB.out _).mono ?_
          rintro e w' ⟨rfl, rfl⟩
          go_wp2_with fail
          go_round
          case rel => exact ⟨k + 1, by omega, by omega, by go_num, fun s j h1 h2 h3 h4 => by
            by_cases e : s = k
            · rw [e]; exact HM.out j h3 h4
            · exact HS.out s j h1 (by omega) h3 h4⟩
          case measure => simp [intOf]; omega
    · obtain rfl : k = 65 := by omega
      have HE := Lib.hid (show wantA a c = -1 from want_none fun s j hh => HS.out s j hh.1 (by omega) hh.2.2.1 (by have := HN.out; omega))
      go_wp2
      go_ret
      exact ⟨ret_int HE.out.symm, rfl⟩
theorem want_2880_3 : wantA 2880 3 = 4 := want_found (s := 2) (c := 3) (j := 4) (by decide) (by decide)
theorem want_2880_1 : wantA 2880 1 = 12 := want_found (s := 2) (c := 1) (j := 12) (by decide) (by decide)
set_option maxHeartbeats 800000 in
theorem known3_any (w : World) (R : Rms w) : Calls Tryd.prog 18 #[] w fun e w' => e = .returned (.bool true) ∧ Gr w w' := by
  have HR := Lib.hid R
  clear R
  have H1 := Lib.hid fun w R => index_any (a := 2880) (by omega) (by omega) 3 w R
  rw [want_2880_3] at H1
  have H2 := Lib.hid fun w R => index_any (a := 2880) (by omega) (by omega) 1 w R
  rw [want_2880_1] at H2
  go_enter Tryd.func18, Tryd.ntmps18
  go_wp2_with fail
  refine (H1.out _ HR.out).mono ?_
  rintro e w1 ⟨rfl, hg1⟩
  go_wp2_with fail
  refine (H2.out _ (HR.out.gr hg1)).mono ?_
  rintro e w2 ⟨rfl, hg2⟩
  have G2 := Lib.hid (hg1.trans hg2)
  clear hg1 hg2
  go_wp2_with fail
  refine (slabs_yes (n := 2048) (by omega) _).mono ?_
  rintro e w3 ⟨rfl, rfl⟩
  go_wp2_with fail
  refine (slabs_no (n := 1024) (by omega) (by omega) (by omega) _).mono ?_
  rintro e w3 ⟨rfl, rfl⟩
  go_wp2_with fail
  refine (block_any 2 3 4 _ (HR.out.gr G2.out)).mono ?_
  rw [show blkA 2 3 4 = 2880 from by decide]
  rintro e w3 ⟨rfl, hg3⟩
  have G3 := Lib.hid (G2.out.trans hg3)
  clear hg3
  go_wp2_with fail
  refine (slab_any (a := 2880) (by omega) (by omega) _).mono ?_
  rw [show slabA 2880 = 2 from by decide]
  rintro e w4 ⟨rfl, rfl⟩
  go_wp2_with fail
  refine (size_any 64 _).mono ?_
  rw [show sizeN 64 = 66560 from by decide]
  rintro e w4 ⟨rfl, rfl⟩
  go_wp2_with fail
  refine (class_any 57 _ (HR.out.gr G3.out)).mono ?_
  rw [show clsN 57 = 2 from by decide]
  rintro e w4 ⟨rfl, hg4⟩
  have G4 := Lib.hid (G3.out.trans hg4)
  clear hg4
  go_wp2_with fail
  refine (key_any (b := 2880) (by omega) (by omega) 7 _).mono ?_
  rw [show keyA 2880 7 = 3056 from by decide]
  rintro e w5 ⟨rfl, rfl⟩
  go_wp2_with fail
  refine (ptr_any (b := 2880) (by omega) (by omega) 0 _).mono ?_
  rw [show ptrA 2880 0 = 2952 from by decide]
  rintro e w5 ⟨rfl, rfl⟩
  go_wp2_with fail
  refine (field_any (b := 2880) (by omega) (by omega) 3 _).mono ?_
  rw [show fieldA 2880 3 = 2904 from by decide]
  rintro e w5 ⟨rfl, rfl⟩
  go_wp2
  go_ret
  exact ⟨rfl, G4.out⟩
end Go.Proofs.YtdhenfachjegpaaDoor
