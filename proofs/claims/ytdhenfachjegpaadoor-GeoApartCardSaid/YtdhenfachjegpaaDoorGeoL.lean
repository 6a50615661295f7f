/- The laws GeoNodes, GeoFinds, GeoSizes answer true, for any inputs, where geo.rooms holds what its initialiser lays. -/
import Derived.Test.YtdhenfachjegpaaDoorGeoX
import Derived.Lib.MinMax
namespace Go.Proofs.YtdhenfachjegpaaDoor
open Go.RowKit Go.Sort
set_option linter.unusedVariables false

set_option maxHeartbeats 400000 in
theorem nodes_big {b : Int} (h : 1099511627776 < b) (i : Int) (w : World) (R : Rms w) : Calls Tryd.prog 7 #[.int .u64 b, .int .i64 i] w fun e w' => e = .returned (.bool true) ∧ Gr w w' := by
  have HR := Lib.hid R
  clear R
  go_enter Tryd.func7, Tryd.ntmps7
  go_wp2_with fail
  refine (known3_any _ HR.out).mono ?_
  rintro e w1 ⟨rfl, hg⟩
  go_wp2
  go_ret
  exact ⟨rfl, hg⟩
set_option maxHeartbeats 800000 in
theorem nodes_walk {b i k p f : Int} (h0 : 0 ≤ b) (h1 : b ≤ 1099511627776) (w : World) (R : Rms w) (hk : 0 ≤ k ∧ k ≤ 1099511628000) (ht : (k != 0) = true ∧ p = k + 8 ∨ (k != 0) = false ∧ p = k)
    (HK : Hid (∀ w, Calls Tryd.prog 29 #[.int .u64 b, .int .i64 i] w fun e w' => e = .returned (.int .u64 k) ∧ w = w')) (HG : Hid (∀ w, Calls Tryd.prog 30 #[.int .u64 b, .int .i64 i] w fun e w' => e = .returned (.int .u64 k) ∧ w = w'))
    (HP : Hid (∀ w, Calls Tryd.prog 31 #[.int .u64 b, .int .i64 i] w fun e w' => e = .returned (.int .u64 p) ∧ w = w')) (HF : Hid (∀ w, Calls Tryd.prog 32 #[.int .u64 b, .int .i64 i] w fun e w' => e = .returned (.int .u64 f) ∧ w = w'))
    (HE : Hid (∀ w, Calls Tryd.prog 33 #[.int .u64 b, .int .i64 i] w fun e w' => e = .returned (.int .u64 f) ∧ w = w')) :
    Calls Tryd.prog 7 #[.int .u64 b, .int .i64 i] w fun e w' => e = .returned (.bool true) ∧ Gr w w' := by
  have HR := Lib.hid R
  clear R
  rcases ht with ⟨t, rfl⟩ | ⟨t, rfl⟩
  all_goals
    go_enter Tryd.func7, Tryd.ntmps7
    go_wp2_with fail
    refine (HK.out _).mono ?_
    rintro e w1 ⟨rfl, rfl⟩
    go_wp2_with fail
    refine (HG.out _).mono ?_
    rintro e w1 ⟨rfl, rfl⟩
    go_wp2_with fail
    refine (HP.out _).mono ?_
    rintro e w1 ⟨rfl, rfl⟩
    go_wp2_with fail
    refine (HF.out _).mono ?_
    rintro e w1 ⟨rfl, rfl⟩
    go_wp2_with fail
    refine (HE.out _).mono ?_
    rintro e w1 ⟨rfl, rfl⟩
    go_wp2_with fail
    refine (known3_any _ HR.out).mono ?_
    rintro e w1 ⟨rfl, hg⟩
    go_wp2
    go_ret
    exact ⟨rfl, hg⟩
theorem nodes_any {b : Int} (h0 : 0 ≤ b) (i : Int) (w : World) (R : Rms w) : Calls Tryd.prog 7 #[.int .u64 b, .int .i64 i] w fun e w' => e = .returned (.bool true) ∧ Gr w w' := by
  by_cases h1 : b ≤ 1099511627776
  · refine nodes_walk h0 h1 w R (keyA_range h0 h1 i) ?_ (Lib.hid (refKey_any h0 h1 i)) (Lib.hid (key_any h0 h1 i)) (Lib.hid (ptr_any h0 h1 i)) (Lib.hid (field_any h0 h1 i)) (Lib.hid (refField_any h0 h1 i))
    unfold keyA ptrA
    by_cases hi : 0 ≤ i ∧ i ≤ 7
    · rw [if_pos hi, if_pos hi]
      exact Or.inl ⟨by rw [bne_iff_ne]; omega, by omega⟩
    · rw [if_neg hi, if_neg hi]
      exact Or.inr ⟨by simp, rfl⟩
  · exact nodes_big (by omega) i w R

set_option maxHeartbeats 800000 in
theorem finds_walk {a c v r s l q : Int} {t : Bool} (hq : IntKind.u64.wrap (a.tdiv 64) = q) (q0 : 0 ≤ q) (q1 : q ≤ 288230376151711743) (w : World) (R : Rms w) (hv : 0 ≤ v ∧ t = true ∧ r = v ∨ v = -1 ∧ t = false ∧ r = 0) (ht : (l == q * 64) = true)
    (HL : Hid (∀ w, Calls Tryd.prog 26 #[.int .u64 a] w fun e w' => e = .returned (.int .u64 l) ∧ w = w'))
    (HI : Hid (Calls Tryd.prog 24 #[.int .u64 a, .int .i64 c] w fun e w' => e = .returned (.tuple #[.int .i64 r, .bool t]) ∧ Gr w w')) (HX : Hid (∀ w, Calls Tryd.prog 27 #[.int .u64 a, .int .i64 c] w fun e w' => e = .returned (.int .i64 v) ∧ w = w'))
    (HS : Hid (∀ w, Calls Tryd.prog 25 #[.int .u64 a] w fun e w' => e = .returned (.int .i64 s) ∧ w = w')) (HT : Hid (∀ w, Calls Tryd.prog 28 #[.int .u64 a] w fun e w' => e = .returned (.int .i64 s) ∧ w = w')) :
    Calls Tryd.prog 5 #[.int .u64 a, .int .i64 c] w fun e w' => e = .returned (.bool true) ∧ Gr w w' := by
  have HR := Lib.hid R
  clear R
  rcases hv with ⟨h2, rfl, rfl⟩ | ⟨rfl, rfl, rfl⟩
  · have hm : max r 0 = r := by omega
    go_enter Tryd.func5, Tryd.ntmps5
    go_wp2_with fail
    refine HI.out.mono ?_
    rintro e w1 ⟨rfl, hg1⟩
    have HG := Lib.hid hg1
    clear hg1
    go_wp2_with fail
    refine (HX.out _).mono ?_
    rintro e w2 ⟨rfl, rfl⟩
    go_wp2_with fail
    refine (HS.out _).mono ?_
    rintro e w2 ⟨rfl, rfl⟩
    go_wp2_with fail
    refine (HT.out _).mono ?_
    rintro e w2 ⟨rfl, rfl⟩
    go_wp2_with fail
    refine (HL.out _).mono ?_
    rintro e w2 ⟨rfl, rfl⟩
    go_wp2_with fail
    refine (known3_any _ (HR.out.gr HG.out)).mono ?_
    rintro e w2 ⟨rfl, hg⟩
    go_wp2
    go_ret
    exact ⟨rfl, HG.out.trans hg⟩
  · have hm : max (-1 : Int) 0 = 0 := rfl
    go_enter Tryd.func5, Tryd.ntmps5
    go_wp2_with fail
    refine HI.out.mono ?_
    rintro e w1 ⟨rfl, hg1⟩
    have HG := Lib.hid hg1
    clear hg1
    go_wp2_with fail
    refine (HX.out _).mono ?_
    rintro e w2 ⟨rfl, rfl⟩
    go_wp2_with fail
    refine (HS.out _).mono ?_
    rintro e w2 ⟨rfl, rfl⟩
    go_wp2_with fail
    refine (HT.out _).mono ?_
    rintro e w2 ⟨rfl, rfl⟩
    go_wp2_with fail
    refine (HL.out _).mono ?_
    rintro e w2 ⟨rfl, rfl⟩
    go_wp2_with fail
    refine (known3_any _ (HR.out.gr HG.out)).mono ?_
    rintro e w2 ⟨rfl, hg⟩
    go_wp2
    go_ret
    exact ⟨rfl, HG.out.trans hg⟩
theorem finds_any {a : Int} (h0 : 0 ≤ a) (h1 : a < 18446744073709551616) (c : Int) (w : World) (R : Rms w) : Calls Tryd.prog 5 #[.int .u64 a, .int .i64 c] w fun e w' => e = .returned (.bool true) ∧ Gr w w' := by
  refine finds_walk (q := a / 64) (IntWalk.u64_quo a 64 ⟨h0, by omega, by omega⟩) (by omega) (by omega) w R ?_ (by rw [beq_iff_eq]; omega) (Lib.hid (line_any h0 h1)) (Lib.hid (index_any h0 h1 c w R)) (Lib.hid (refIndex_any a c)) (Lib.hid (slab_any h0 h1)) (Lib.hid (refSlab_any a))
  have hr := want_range a c
  by_cases h : 0 ≤ wantA a c
  · exact Or.inl ⟨h, by simpa using h, by omega⟩
  · exact Or.inr ⟨by omega, by simpa using h, by omega⟩

set_option maxHeartbeats 1600000 in
theorem sizes_walk {size slabs n c a v k x y : Int} {t : Bool} (w : World) (R : Rms w) (ha : 1 ≤ a ∧ t = true ∨ a = 0 ∧ t = false) (hs : 1 ≤ slabs ∧ slabs ≤ 64 ∧ v = 1024 + 1024 * slabs ∨ slabs < 1 ∧ v = 0 ∨ 64 < slabs ∧ v = 0)
    (HS : Hid (∀ w, Calls Tryd.prog 9 #[.int .i64 size] w fun e w' => e = .returned (.tuple #[.int .i64 a, .bool t]) ∧ w = w')) (HT : Hid (∀ w, Calls Tryd.prog 10 #[.int .i64 size] w fun e w' => e = .returned (.int .i64 a) ∧ w = w'))
    (HZ : Hid (t = true → ∀ w, Calls Tryd.prog 11 #[.int .i64 a] w fun e w' => e = .returned (.int .i64 size) ∧ w = w')) (HV : Hid (∀ w, Calls Tryd.prog 11 #[.int .i64 slabs] w fun e w' => e = .returned (.int .i64 v) ∧ w = w'))
    (HC : Hid (∀ w, Rms w → Calls Tryd.prog 12 #[.int .i64 n] w fun e w' => e = .returned (.int .i64 k) ∧ Gr w w')) (HD : Hid (∀ w, Calls Tryd.prog 13 #[.int .i64 n] w fun e w' => e = .returned (.int .i64 k) ∧ w = w'))
    (HX : Hid (∀ w, Rms w → Calls Tryd.prog 14 #[.int .i64 c] w fun e w' => e = .returned (.int .i64 x) ∧ Gr w w')) (HX2 : Hid (∀ w, Calls Tryd.prog 15 #[.int .i64 c] w fun e w' => e = .returned (.int .i64 x) ∧ w = w'))
    (HY : Hid (∀ w, Rms w → Calls Tryd.prog 16 #[.int .i64 c] w fun e w' => e = .returned (.int .i64 y) ∧ Gr w w')) (HY2 : Hid (∀ w, Calls Tryd.prog 17 #[.int .i64 c] w fun e w' => e = .returned (.int .i64 y) ∧ w = w')) :
    Calls Tryd.prog 3 #[.int .i64 size, .int .i64 slabs, .int .i64 n, .int .i64 c] w fun e w' => e = .returned (.bool true) ∧ Gr w w' := by
  have HR := Lib.hid R
  clear R
  rcases ha with ⟨a1, rfl⟩ | ⟨rfl, rfl⟩
  · have HZ1 := Lib.hid (HZ.out rfl)
    clear HZ
    rcases hs with ⟨s1, s2, rfl⟩ | ⟨s1, rfl⟩ | ⟨s1, rfl⟩
    all_goals
      go_enter Tryd.func3, Tryd.ntmps3
      go_wp2_with fail
      refine (HS.out _).mono ?_
      rintro e w1 ⟨rfl, rfl⟩
      go_wp2_with fail
      refine (HT.out _).mono ?_
      rintro e w1 ⟨rfl, rfl⟩
      go_wp2_with fail
      refine (HT.out _).mono ?_
      rintro e w1 ⟨rfl, rfl⟩
      go_wp2_with fail
      refine (HZ1.out _).mono ?_
      rintro e w1 ⟨rfl, rfl⟩
      go_wp2_with fail
      refine (HV.out _).mono ?_
      rintro e w1 ⟨rfl, rfl⟩
      go_wp2_with fail
      refine (HC.out _ HR.out).mono ?_
      rintro e w1 ⟨rfl, hg⟩
      have G1 := Lib.hid hg
      clear hg
      go_wp2_with fail
      refine (HD.out _).mono ?_
      rintro e w2 ⟨rfl, rfl⟩
      go_wp2_with fail
      refine (HX.out _ (HR.out.gr G1.out)).mono ?_
      rintro e w2 ⟨rfl, hg⟩
      have G2 := Lib.hid (G1.out.trans hg)
      clear hg
      go_wp2_with fail
      refine (HX2.out _).mono ?_
      rintro e w3 ⟨rfl, rfl⟩
      go_wp2_with fail
      refine (HY.out _ (HR.out.gr G2.out)).mono ?_
      rintro e w3 ⟨rfl, hg⟩
      have G3 := Lib.hid (G2.out.trans hg)
      clear hg
      go_wp2_with fail
      refine (HY2.out _).mono ?_
      rintro e w4 ⟨rfl, rfl⟩
      go_wp2_with fail
      refine (known3_any _ (HR.out.gr G3.out)).mono ?_
      rintro e w4 ⟨rfl, hg⟩
      go_wp2
      go_ret
      exact ⟨rfl, G3.out.trans hg⟩
  · clear HZ
    rcases hs with ⟨s1, s2, rfl⟩ | ⟨s1, rfl⟩ | ⟨s1, rfl⟩
    all_goals
      go_enter Tryd.func3, Tryd.ntmps3
      go_wp2_with fail
      refine (HS.out _).mono ?_
      rintro e w1 ⟨rfl, rfl⟩
      go_wp2_with fail
      refine (HT.out _).mono ?_
      rintro e w1 ⟨rfl, rfl⟩
      go_wp2_with fail
      refine (HT.out _).mono ?_
      rintro e w1 ⟨rfl, rfl⟩
      go_wp2_with fail
      refine (HV.out _).mono ?_
      rintro e w1 ⟨rfl, rfl⟩
      go_wp2_with fail
      refine (HC.out _ HR.out).mono ?_
      rintro e w1 ⟨rfl, hg⟩
      have G1 := Lib.hid hg
      clear hg
      go_wp2_with fail
      refine (HD.out _).mono ?_
      rintro e w2 ⟨rfl, rfl⟩
      go_wp2_with fail
      refine (HX.out _ (HR.out.gr G1.out)).mono ?_
      rintro e w2 ⟨rfl, hg⟩
      have G2 := Lib.hid (G1.out.trans hg)
      clear hg
      go_wp2_with fail
      refine (HX2.out _).mono ?_
      rintro e w3 ⟨rfl, rfl⟩
      go_wp2_with fail
      refine (HY.out _ (HR.out.gr G2.out)).mono ?_
      rintro e w3 ⟨rfl, hg⟩
      have G3 := Lib.hid (G2.out.trans hg)
      clear hg
      go_wp2_with fail
      refine (HY2.out _).mono ?_
      rintro e w4 ⟨rfl, rfl⟩
      go_wp2_with fail
      refine (known3_any _ (HR.out.gr G3.out)).mono ?_
      rintro e w4 ⟨rfl, hg⟩
      go_wp2
      go_ret
      exact ⟨rfl, G3.out.trans hg⟩
theorem sizes_any {size : Int} (h1 : -9223372036854775808 ≤ size) (h2 : size ≤ 9223372036854775807) (slabs n c : Int) (w : World) (R : Rms w) :
    Calls Tryd.prog 3 #[.int .i64 size, .int .i64 slabs, .int .i64 n, .int .i64 c] w fun e w' => e = .returned (.bool true) ∧ Gr w w' := by
  have hs : 1 ≤ slabs ∧ slabs ≤ 64 ∧ sizeN slabs = 1024 + 1024 * slabs ∨ slabs < 1 ∧ sizeN slabs = 0 ∨ 64 < slabs ∧ sizeN slabs = 0 := by
    unfold sizeN
    by_cases h : 1 ≤ slabs ∧ slabs ≤ 64
    · rw [if_pos h]; omega
    · rw [if_neg h]; omega
  by_cases h : 2048 ≤ size ∧ size ≤ 66560 ∧ size % 1024 = 0
  · have e : slabsN size = size / 1024 - 1 := if_pos h
    refine sizes_walk (a := size / 1024 - 1) (t := true) w R (Or.inl ⟨by omega, rfl⟩) hs (Lib.hid (slabs_yes h)) (Lib.hid (by rw [← e]; exact refSlabs_any size)) (Lib.hid fun _ w => ?_) (Lib.hid (size_any slabs)) (Lib.hid fun w R => class_any n w R) (Lib.hid (refClass_any n)) (Lib.hid fun w R => bytes_any c w R) (Lib.hid (refBytes_any c)) (Lib.hid fun w R => blocks_any c w R) (Lib.hid (refBlocks_any c))
    have := size_any (size / 1024 - 1) w
    rw [show sizeN (size / 1024 - 1) = size from by unfold sizeN; rw [if_pos (by omega)]; omega] at this
    exact this
  · have e : slabsN size = 0 := if_neg h
    exact sizes_walk (a := 0) (t := false) w R (Or.inr ⟨rfl, rfl⟩) hs (Lib.hid (slabs_no h h1 h2)) (Lib.hid (by rw [← e]; exact refSlabs_any size)) (Lib.hid fun h => by cases h) (Lib.hid (size_any slabs)) (Lib.hid fun w R => class_any n w R) (Lib.hid (refClass_any n)) (Lib.hid fun w R => bytes_any c w R) (Lib.hid (refBytes_any c)) (Lib.hid fun w R => blocks_any c w R) (Lib.hid (refBlocks_any c))
end Go.Proofs.YtdhenfachjegpaaDoor
