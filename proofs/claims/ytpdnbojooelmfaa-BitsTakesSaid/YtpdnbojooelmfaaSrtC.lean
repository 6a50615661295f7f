/- choosePivotOrdered. -/
import Derived.Test.YtpdnbojooelmfaaSrtB
namespace Go.Proofs.Ytpdnbojooelmfaa
open Go.RowKit
set_option linter.unusedVariables false
set_option maxRecDepth 100000 in
set_option maxHeartbeats 4000000 in
theorem choosePiv_any {w : World} {h off z cap n : Nat} {d : Array Nat} (hA : SwA w w h off z n d) (hn : n ≤ 1000000000) {a L : Nat} (hL : 8 ≤ L) (hb : a + L ≤ n) :
    Calls Try.prog 45 #[.slice (some ⟨h, off, none⟩) n cap, .int .i64 (a : Int), .int .i64 ((a + L : Nat) : Int)] w (PivEnd w a (a + L)) := by
  have hh := hA.lt
  have HA0 := Lib.hid (hA.below (alloc_below w (.cells #[.int .i64 0] 3))).here
  have HB0 := Lib.hid (box_new w)
  have HU0 := Lib.hid (alloc_below w (.cells #[.int .i64 0] 3))
  have hne : w.heap.size ≠ h := by omega
  have hl : (((a + L : Nat) : Int)) - (a : Int) = (L : Int) := by omega
  have hl4 : (L : Int) / 4 = ((L / 4 : Nat) : Int) := by omega
  obtain ⟨q, hq⟩ : ∃ q, q = L / 4 := ⟨_, rfl⟩
  rw [← hq] at hl4
  have q1 : 4 * q ≤ L := by omega
  have q2 : L < 4 * q + 4 := by omega
  have HPE : Hid (∀ (p : Nat) (t : Int) (W : World), a ≤ p → p < a + L → (t = 0 ∨ t = 1 ∨ t = 2) → Below w.heap.size w W → PivEnd w a (a + L) (.returned (.tuple #[.int .i64 (p : Int), .int .i64 t])) W) := Lib.hid (fun p t W h1 h2 h3 h4 => ⟨⟨p, t, rfl, h1, h2, h3⟩, h4⟩)
  obtain ⟨B, hB⟩ : ∃ B, B = a + L := ⟨_, rfl⟩
  rw [← hB] at hl HPE ⊢
  have hLz : 8 ≤ (L : Int) := by omega
  have b1 : B ≤ a + L := by omega
  have b2 : a + L ≤ B := by omega
  clear hA hq hB
  by_cases h50 : 50 ≤ L
  · have h50z : decide (50 ≤ (L : Int)) = true := by simp; omega
    go_enter Try.func45, Try.ntmps45
    go_wp2_with fail
    have H1 := medAdj_any (cap := cap) HA0.out hne HB0.out (a := a + q * 1) (by omega) (by omega) hn
    rw [show ((a + q * 1 : Nat) : Int) = (a : Int) + (q : Int) from by omega] at H1
    with_reducible refine H1.mono ?_
    clear H1
    rintro e w1 ⟨⟨r1, rfl, h1⟩, hB1, hb1⟩
    have HA1 := Lib.hid (HA0.out.stays hne hb1)
    have HB1 := Lib.hid hB1
    have HU1 := Lib.hid (but_box HU0.out (Nat.le_refl _) hb1)
    clear hB1 hb1
    go_wp2_with fail
    have H2 := medAdj_any (cap := cap) HA1.out hne HB1.out (a := a + q * 2) (by omega) (by omega) hn
    rw [show ((a + q * 2 : Nat) : Int) = (a : Int) + (q : Int) * 2 from by omega] at H2
    with_reducible refine H2.mono ?_
    clear H2
    rintro e w2 ⟨⟨r2, rfl, h2⟩, hB2, hb2⟩
    have HA2 := Lib.hid (HA1.out.stays hne hb2)
    have HB2 := Lib.hid hB2
    have HU2 := Lib.hid (but_box HU1.out (Nat.le_refl _) hb2)
    clear hB2 hb2
    go_wp2_with fail
    have H3 := medAdj_any (cap := cap) HA2.out hne HB2.out (a := a + q * 3) (by omega) (by omega) hn
    rw [show ((a + q * 3 : Nat) : Int) = (a : Int) + (q : Int) * 3 from by omega] at H3
    with_reducible refine H3.mono ?_
    clear H3
    rintro e w3 ⟨⟨r3, rfl, h3⟩, hB3, hb3⟩
    have HA3 := Lib.hid (HA2.out.stays hne hb3)
    have HB3 := Lib.hid hB3
    have HU3 := Lib.hid (but_box HU2.out (Nat.le_refl _) hb3)
    clear hB3 hb3
    go_wp2_with fail
    refine (median_any (cap := cap) HA3.out hne HB3.out (a := r1) (b := r2) (c := r3) (by omega) (by omega) (by omega)).mono ?_
    rintro e w4 ⟨⟨r4, rfl, h4⟩, ⟨v, hv⟩, hb4⟩
    have hp1 : a ≤ r4 := by omega
    have hp2 : r4 < B := by omega
    have HU4 := Lib.hid (but_box HU3.out (Nat.le_refl _) hb4)
    have c0 := hv.cell 0
    simp only [List.getElem?_toArray, List.getElem?_cons_zero] at c0
    clear hv hb4 h1 h2 h3 h4
    by_cases v0 : v = 0
    · subst v0
      go_wp2
      go_ret2
      exact HPE.out _ _ _ hp1 hp2 (by omega) HU4.out
    · have v0b : (v == 0) = false := by simpa using v0
      by_cases v12 : v = 12
      · subst v12
        go_wp2
        go_ret2
        exact HPE.out _ _ _ hp1 hp2 (by omega) HU4.out
      · have v12b : (v == 12) = false := by simpa using v12
        go_wp2
        go_ret2
        exact HPE.out _ _ _ hp1 hp2 (by omega) HU4.out
  · have h50z : decide (50 ≤ (L : Int)) = false := by simp; omega
    go_enter Try.func45, Try.ntmps45
    go_wp2_with fail
    have H1 := median_any (cap := cap) HA0.out hne HB0.out (a := a + q * 1) (b := a + q * 2) (c := a + q * 3) (by omega) (by omega) (by omega)
    rw [show ((a + q * 1 : Nat) : Int) = (a : Int) + (q : Int) from by omega, show ((a + q * 2 : Nat) : Int) = (a : Int) + (q : Int) * 2 from by omega, show ((a + q * 3 : Nat) : Int) = (a : Int) + (q : Int) * 3 from by omega] at H1
    with_reducible refine H1.mono ?_
    clear H1
    rintro e w4 ⟨⟨r4, rfl, h4⟩, ⟨v, hv⟩, hb4⟩
    have hp1 : a ≤ r4 := by omega
    have hp2 : r4 < B := by omega
    have HU4 := Lib.hid (but_box HU0.out (Nat.le_refl _) hb4)
    have c0 := hv.cell 0
    simp only [List.getElem?_toArray, List.getElem?_cons_zero] at c0
    clear hv hb4 h4
    by_cases v0 : v = 0
    · subst v0
      go_wp2
      go_ret2
      exact HPE.out _ _ _ hp1 hp2 (by omega) HU4.out
    · have v0b : (v == 0) = false := by simpa using v0
      by_cases v12 : v = 12
      · subst v12
        go_wp2
        go_ret2
        exact HPE.out _ _ _ hp1 hp2 (by omega) HU4.out
      · have v12b : (v == 12) = false := by simpa using v12
        go_wp2
        go_ret2
        exact HPE.out _ _ _ hp1 hp2 (by omega) HU4.out
end Go.Proofs.Ytpdnbojooelmfaa
