/- The law GeoApart answers true, for any inputs, where geo.rooms holds what its initialiser lays. -/
import Derived.Test.YtdhenfachjegpaaDoorGeoX
namespace Go.Proofs.YtdhenfachjegpaaDoor
open Go.RowKit Go.Sort
set_option linter.unusedVariables false

set_option maxHeartbeats 800000 in
theorem apart_1 {s c j s2 c2 C2 j2 a b : Int} (hs : s2 = s ∧ C2 = c ∨ (s == s2) = false ∧ C2 = c2) (ta : (a == 0) = true) (w : World) (R : Rms w)
    (H1 : Hid (∀ w, Rms w → Calls Tryd.prog 22 #[.int .i64 s, .int .i64 c, .int .i64 j] w fun e w' => e = .returned (.int .u64 a) ∧ Gr w w')) (H2 : Hid (∀ w, Rms w → Calls Tryd.prog 22 #[.int .i64 s2, .int .i64 C2, .int .i64 j2] w fun e w' => e = .returned (.int .u64 b) ∧ Gr w w'))
    (H3 : Hid (∀ w, Calls Tryd.prog 20 #[.int .i64 s, .int .i64 c, .int .i64 j] w fun e w' => e = .returned (.int .u64 a) ∧ w = w')) (H4 : Hid (∀ w, Calls Tryd.prog 20 #[.int .i64 s2, .int .i64 C2, .int .i64 j2] w fun e w' => e = .returned (.int .u64 b) ∧ w = w')) :
    Calls Tryd.prog 6 #[.int .i64 s, .int .i64 c, .int .i64 j, .int .i64 s2, .int .i64 c2, .int .i64 j2] w fun e w' => e = .returned (.bool true) ∧ Gr w w' := by
  have HR := Lib.hid R
  clear R
  rcases hs with ⟨rfl, rfl⟩ | ⟨ts, rfl⟩
  all_goals
    go_enter Tryd.func6, Tryd.ntmps6
    go_wp2_with fail
    refine (H1.out _ HR.out).mono ?_
    rintro e w1 ⟨rfl, hg⟩
    have G1 := Lib.hid (hg)
    clear hg
    go_wp2_with fail
    refine (H2.out _ (HR.out.gr G1.out)).mono ?_
    rintro e w2 ⟨rfl, hg⟩
    have G2 := Lib.hid (G1.out.trans hg)
    clear hg
    go_wp2_with fail
    refine (H3.out _).mono ?_
    rintro e w3 ⟨rfl, rfl⟩
    go_wp2_with fail
    refine (known3_any _ (HR.out.gr G2.out)).mono ?_
    rintro e w9 ⟨rfl, hg⟩
    go_wp2
    go_ret
    exact ⟨rfl, G2.out.trans hg⟩
set_option maxHeartbeats 800000 in
theorem apart_2 {s c j s2 c2 C2 j2 a b : Int} (hs : s2 = s ∧ C2 = c ∨ (s == s2) = false ∧ C2 = c2) (ta : (a == 0) = false) (tb : (b == 0) = true) (w : World) (R : Rms w)
    (H1 : Hid (∀ w, Rms w → Calls Tryd.prog 22 #[.int .i64 s, .int .i64 c, .int .i64 j] w fun e w' => e = .returned (.int .u64 a) ∧ Gr w w')) (H2 : Hid (∀ w, Rms w → Calls Tryd.prog 22 #[.int .i64 s2, .int .i64 C2, .int .i64 j2] w fun e w' => e = .returned (.int .u64 b) ∧ Gr w w'))
    (H3 : Hid (∀ w, Calls Tryd.prog 20 #[.int .i64 s, .int .i64 c, .int .i64 j] w fun e w' => e = .returned (.int .u64 a) ∧ w = w')) (H4 : Hid (∀ w, Calls Tryd.prog 20 #[.int .i64 s2, .int .i64 C2, .int .i64 j2] w fun e w' => e = .returned (.int .u64 b) ∧ w = w')) :
    Calls Tryd.prog 6 #[.int .i64 s, .int .i64 c, .int .i64 j, .int .i64 s2, .int .i64 c2, .int .i64 j2] w fun e w' => e = .returned (.bool true) ∧ Gr w w' := by
  have HR := Lib.hid R
  clear R
  rcases hs with ⟨rfl, rfl⟩ | ⟨ts, rfl⟩
  all_goals
    go_enter Tryd.func6, Tryd.ntmps6
    go_wp2_with fail
    refine (H1.out _ HR.out).mono ?_
    rintro e w1 ⟨rfl, hg⟩
    have G1 := Lib.hid (hg)
    clear hg
    go_wp2_with fail
    refine (H2.out _ (HR.out.gr G1.out)).mono ?_
    rintro e w2 ⟨rfl, hg⟩
    have G2 := Lib.hid (G1.out.trans hg)
    clear hg
    go_wp2_with fail
    refine (H3.out _).mono ?_
    rintro e w3 ⟨rfl, rfl⟩
    go_wp2_with fail
    refine (H4.out _).mono ?_
    rintro e w4 ⟨rfl, rfl⟩
    go_wp2_with fail
    refine (known3_any _ (HR.out.gr G2.out)).mono ?_
    rintro e w9 ⟨rfl, hg⟩
    go_wp2
    go_ret
    exact ⟨rfl, G2.out.trans hg⟩
set_option maxHeartbeats 800000 in
theorem apart_3 {s c j s2 c2 C2 j2 a b : Int} (hs : s2 = s ∧ C2 = c ∧ j2 = j) (ta : (a == 0) = false) (tb : (b == 0) = false) (w : World) (R : Rms w)
    (H1 : Hid (∀ w, Rms w → Calls Tryd.prog 22 #[.int .i64 s, .int .i64 c, .int .i64 j] w fun e w' => e = .returned (.int .u64 a) ∧ Gr w w')) (H2 : Hid (∀ w, Rms w → Calls Tryd.prog 22 #[.int .i64 s2, .int .i64 C2, .int .i64 j2] w fun e w' => e = .returned (.int .u64 b) ∧ Gr w w'))
    (H3 : Hid (∀ w, Calls Tryd.prog 20 #[.int .i64 s, .int .i64 c, .int .i64 j] w fun e w' => e = .returned (.int .u64 a) ∧ w = w')) (H4 : Hid (∀ w, Calls Tryd.prog 20 #[.int .i64 s2, .int .i64 C2, .int .i64 j2] w fun e w' => e = .returned (.int .u64 b) ∧ w = w')) :
    Calls Tryd.prog 6 #[.int .i64 s, .int .i64 c, .int .i64 j, .int .i64 s2, .int .i64 c2, .int .i64 j2] w fun e w' => e = .returned (.bool true) ∧ Gr w w' := by
  have HR := Lib.hid R
  clear R
  rcases hs with ⟨rfl, rfl, rfl⟩
  all_goals
    go_enter Tryd.func6, Tryd.ntmps6
    go_wp2_with fail
    refine (H1.out _ HR.out).mono ?_
    rintro e w1 ⟨rfl, hg⟩
    have G1 := Lib.hid (hg)
    clear hg
    go_wp2_with fail
    refine (H2.out _ (HR.out.gr G1.out)).mono ?_
    rintro e w2 ⟨rfl, hg⟩
    have G2 := Lib.hid (G1.out.trans hg)
    clear hg
    go_wp2_with fail
    refine (H3.out _).mono ?_
    rintro e w3 ⟨rfl, rfl⟩
    go_wp2_with fail
    refine (H4.out _).mono ?_
    rintro e w4 ⟨rfl, rfl⟩
    go_wp2_with fail
    refine (known3_any _ (HR.out.gr G2.out)).mono ?_
    rintro e w9 ⟨rfl, hg⟩
    go_wp2
    go_ret
    exact ⟨rfl, G2.out.trans hg⟩
set_option maxHeartbeats 3200000 in
theorem apart_4 {s c j s2 c2 C2 j2 a b n m h : Int} (hs : s2 = s ∧ C2 = c ∧ (j == j2) = false ∨ (s == s2) = false ∧ C2 = c2) (ta : (a == 0) = false) (tb : (b == 0) = false)
    (a1 : 1024 ≤ a) (a2 : a + n ≤ 66560) (n1 : 64 ≤ n) (n2 : n ≤ 192) (b1 : 1024 ≤ b) (b2 : b + m ≤ 66560) (m1 : 64 ≤ m) (m2 : m ≤ 192) (h1 : 0 ≤ h) (h2 : h ≤ 65536) (hab : a + n ≤ b ∨ b < a + n ∧ b + m ≤ a) (hah : a + n ≤ h ∨ h < a + n ∧ h + 64 ≤ a) (w : World) (R : Rms w)
    (H1 : Hid (∀ w, Rms w → Calls Tryd.prog 22 #[.int .i64 s, .int .i64 c, .int .i64 j] w fun e w' => e = .returned (.int .u64 a) ∧ Gr w w')) (H2 : Hid (∀ w, Rms w → Calls Tryd.prog 22 #[.int .i64 s2, .int .i64 C2, .int .i64 j2] w fun e w' => e = .returned (.int .u64 b) ∧ Gr w w'))
    (H3 : Hid (∀ w, Calls Tryd.prog 20 #[.int .i64 s, .int .i64 c, .int .i64 j] w fun e w' => e = .returned (.int .u64 a) ∧ w = w')) (H4 : Hid (∀ w, Calls Tryd.prog 20 #[.int .i64 s2, .int .i64 C2, .int .i64 j2] w fun e w' => e = .returned (.int .u64 b) ∧ w = w'))
    (H5 : Hid (∀ w, Rms w → Calls Tryd.prog 14 #[.int .i64 c] w fun e w' => e = .returned (.int .i64 n) ∧ Gr w w')) (H6 : Hid (∀ w, Rms w → Calls Tryd.prog 14 #[.int .i64 C2] w fun e w' => e = .returned (.int .i64 m) ∧ Gr w w'))
    (H7 : Hid (∀ w, Calls Tryd.prog 21 #[.int .i64 s2] w fun e w' => e = .returned (.int .u64 h) ∧ w = w')) :
    Calls Tryd.prog 6 #[.int .i64 s, .int .i64 c, .int .i64 j, .int .i64 s2, .int .i64 c2, .int .i64 j2] w fun e w' => e = .returned (.bool true) ∧ Gr w w' := by
  have HR := Lib.hid R
  clear R
  rcases hs with ⟨rfl, rfl, tj⟩ | ⟨ts, rfl⟩ <;> rcases hab with hab | ⟨hab, hba⟩ <;> rcases hah with hah | ⟨hah, hha⟩
  all_goals
    go_enter Tryd.func6, Tryd.ntmps6
    go_wp2_with fail
    refine (H1.out _ HR.out).mono ?_
    rintro e w1 ⟨rfl, hg⟩
    have G1 := Lib.hid (hg)
    clear hg
    go_wp2_with fail
    refine (H2.out _ (HR.out.gr G1.out)).mono ?_
    rintro e w2 ⟨rfl, hg⟩
    have G2 := Lib.hid (G1.out.trans hg)
    clear hg
    go_wp2_with fail
    refine (H3.out _).mono ?_
    rintro e w3 ⟨rfl, rfl⟩
    go_wp2_with fail
    refine (H4.out _).mono ?_
    rintro e w4 ⟨rfl, rfl⟩
    go_wp2_with fail
    refine (H5.out _ (HR.out.gr G2.out)).mono ?_
    rintro e w5 ⟨rfl, hg⟩
    have G5 := Lib.hid (G2.out.trans hg)
    clear hg
    go_wp2_with fail
    refine (H6.out _ (HR.out.gr G5.out)).mono ?_
    rintro e w6 ⟨rfl, hg⟩
    have G6 := Lib.hid (G5.out.trans hg)
    clear hg
    go_wp2_with fail
    refine (H7.out _).mono ?_
    rintro e w7 ⟨rfl, rfl⟩
    go_wp2_with fail
    refine (known3_any _ (HR.out.gr G6.out)).mono ?_
    rintro e w9 ⟨rfl, hg⟩
    go_wp2
    go_ret
    exact ⟨rfl, G6.out.trans hg⟩
theorem apart_any (s c j s2 c2 j2 : Int) (w : World) (R : Rms w) : Calls Tryd.prog 6 #[.int .i64 s, .int .i64 c, .int .i64 j, .int .i64 s2, .int .i64 c2, .int .i64 j2] w fun e w' => e = .returned (.bool true) ∧ Gr w w' := by
  obtain ⟨C2, hC⟩ : ∃ C2, s2 = s ∧ C2 = c ∨ s ≠ s2 ∧ C2 = c2 := by
    by_cases h : s2 = s
    · exact ⟨c, Or.inl ⟨h, rfl⟩⟩
    · exact ⟨c2, Or.inr ⟨fun e => h e.symm, rfl⟩⟩
  have hC' : s2 = s ∧ C2 = c ∨ (s == s2) = false ∧ C2 = c2 := by
    rcases hC with h | ⟨h, h'⟩
    · exact Or.inl h
    · exact Or.inr ⟨by simpa using h, h'⟩
  have H1 := Lib.hid fun w R => block_any s c j w R
  have H2 := Lib.hid fun w R => block_any s2 C2 j2 w R
  have H3 := Lib.hid (refBlock_any s c j)
  have H4 := Lib.hid (refBlock_any s2 C2 j2)
  by_cases v1 : 1 ≤ s ∧ s ≤ 64 ∧ 0 ≤ j ∧ j < blC c
  · have l1 := blkA_lies v1
    have ta : (blkA s c j == 0) = false := by simp; omega
    by_cases v2 : 1 ≤ s2 ∧ s2 ≤ 64 ∧ 0 ≤ j2 ∧ j2 < blC C2
    · have l2 := blkA_lies v2
      have tb : (blkA s2 C2 j2 == 0) = false := by simp; omega
      by_cases hsj : s2 = s ∧ j2 = j
      · obtain ⟨e1, e2⟩ := hsj
        exact apart_3 ⟨e1, (hC.resolve_right fun h => h.1 e1.symm).2, e2⟩ ta tb w R H1 H2 H3 H4
      · have eh : hdA s2 = 1024 * s2 := if_pos ⟨v2.1, v2.2.1⟩
        refine apart_4 (n := byC c) (m := byC C2) (h := hdA s2) ?_ ta tb (by omega) (by omega) (by omega) (by omega) (by omega) (by omega) (by omega) (by omega) (by omega) (by omega) ?_ (by omega) w R H1 H2 H3 H4 (Lib.hid fun w R => bytes_any c w R) (Lib.hid fun w R => bytes_any C2 w R) (Lib.hid (header_any s2))
        · rcases hC with ⟨e, e'⟩ | ⟨e, e'⟩
          · exact Or.inl ⟨e, e', by simp; intro k; exact hsj ⟨e, k.symm⟩⟩
          · exact Or.inr ⟨by simpa using e, e'⟩
        · rcases hC with ⟨e, e'⟩ | ⟨e, e'⟩
          · subst e e'
            have hj : j ≠ j2 := fun k => hsj ⟨rfl, k.symm⟩
            rw [blkA_yes v1, blkA_yes v2]
            rcases cls C2 with ⟨_, h2, _⟩ | ⟨_, h2, _⟩ | ⟨_, h2, _⟩ | ⟨_, _, _, _, h2, _⟩
            · rw [h2]; omega
            · rw [h2]; omega
            · rw [h2]; omega
            · omega
          · omega
    · have e : blkA s2 C2 j2 = 0 := blkA_no v2
      exact apart_2 hC' ta (by rw [e]; rfl) w R H1 H2 H3 H4
  · have e : blkA s c j = 0 := blkA_no v1
    exact apart_1 hC' (by rw [e]; rfl) w R H1 H2 H3 H4
end Go.Proofs.YtdhenfachjegpaaDoor
