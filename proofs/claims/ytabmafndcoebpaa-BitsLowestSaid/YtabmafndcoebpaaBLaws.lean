/- BitsOne, BitsLowest, BitsNil answer true, for every word, place and bound; nothing that was there turns. -/
import Derived.Test.YtabmafndcoebpaaBKnown
namespace Go.Proofs.Ytabmafndcoebpaa
open Go.RowKit
set_option linter.unusedVariables false
set_option maxRecDepth 100000 in
set_option maxHeartbeats 4000000 in
theorem lawOne_in {b s c : Nat} {j : Int} {hh : Bool} (w : World) (h0 : 0 ≤ j) (h1 : j ≤ 63)
    (S1 : Hid (∀ w, Calls Try.prog 9 #[.int .u64 (b : Int), .int .i64 j] w fun e w' => e = .returned (.int .u64 (s : Int)) ∧ w = w'))
    (C1 : Hid (∀ w, Calls Try.prog 10 #[.int .u64 (b : Int), .int .i64 j] w fun e w' => e = .returned (.int .u64 (c : Int)) ∧ w = w'))
    (S2 : Hid (∀ w, Calls Try.prog 11 #[.int .u64 (b : Int), .int .i64 j] w fun e w' => e = .returned (.int .u64 (s : Int)) ∧ w = w'))
    (C2 : Hid (∀ w, Calls Try.prog 12 #[.int .u64 (b : Int), .int .i64 j] w fun e w' => e = .returned (.int .u64 (c : Int)) ∧ w = w'))
    (B1 : Hid (∀ w, Calls Try.prog 13 #[.int .u64 (b : Int), .int .i64 j] w fun e w' => e = .returned (.bool hh) ∧ w = w'))
    (B2 : Hid (∀ w, Calls Try.prog 14 #[.int .u64 (b : Int), .int .i64 j] w fun e w' => e = .returned (.bool hh) ∧ w = w'))
    (B3 : Hid (∀ w, Calls Try.prog 13 #[.int .u64 (s : Int), .int .i64 j] w fun e w' => e = .returned (.bool true) ∧ w = w'))
    (B4 : Hid (∀ w, Calls Try.prog 13 #[.int .u64 (c : Int), .int .i64 j] w fun e w' => e = .returned (.bool false) ∧ w = w'))
    (C3 : Hid (∀ w, Calls Try.prog 10 #[.int .u64 (s : Int), .int .i64 j] w fun e w' => e = .returned (.int .u64 (c : Int)) ∧ w = w'))
    (S3 : Hid (∀ w, Calls Try.prog 9 #[.int .u64 (c : Int), .int .i64 j] w fun e w' => e = .returned (.int .u64 (s : Int)) ∧ w = w')) :
    Calls Try.prog 3 #[.int .u64 (b : Int), .int .i64 j] w fun e w' => e = .returned (.bool true) ∧ Below w.heap.size w w' := by
  have HK := Lib.hid known5_any
  have g0 : decide (0 ≤ j) = true := decide_eq_true h0
  have g1 : decide (j ≤ 63) = true := decide_eq_true h1
  cases hh
  all_goals
    go_enter Try.func3, Try.ntmps3
    go_wp2_with fail
    refine (S1.out _).mono ?_
    rintro e w1 ⟨rfl, rfl⟩
    go_wp2_with fail
    refine (C1.out _).mono ?_
    rintro e w1 ⟨rfl, rfl⟩
    go_wp2_with fail
    refine (S2.out _).mono ?_
    rintro e w1 ⟨rfl, rfl⟩
    go_wp2_with fail
    refine (C2.out _).mono ?_
    rintro e w1 ⟨rfl, rfl⟩
    go_wp2_with fail
    refine (B1.out _).mono ?_
    rintro e w1 ⟨rfl, rfl⟩
    go_wp2_with fail
    refine (B2.out _).mono ?_
    rintro e w1 ⟨rfl, rfl⟩
    go_wp2_with fail
    refine (B3.out _).mono ?_
    rintro e w1 ⟨rfl, rfl⟩
    go_wp2_with fail
    refine (B4.out _).mono ?_
    rintro e w1 ⟨rfl, rfl⟩
    go_wp2_with fail
    refine (C3.out _).mono ?_
    rintro e w1 ⟨rfl, rfl⟩
    go_wp2_with fail
    refine (S3.out _).mono ?_
    rintro e w1 ⟨rfl, rfl⟩
    go_wp2_with fail
    refine (HK.out _).mono ?_
    rintro e w1 ⟨rfl, hb⟩
    have HB := Lib.hid hb
    clear hb
    go_wp2
    go_ret
    exact ⟨rfl, HB.out⟩
set_option maxRecDepth 100000 in
set_option maxHeartbeats 4000000 in
theorem lawOne_out {b : Nat} {j : Int} (w : World) (h : ¬ (0 ≤ j ∧ j ≤ 63))
    (S1 : Hid (∀ w, Calls Try.prog 9 #[.int .u64 (b : Int), .int .i64 j] w fun e w' => e = .returned (.int .u64 (b : Int)) ∧ w = w'))
    (C1 : Hid (∀ w, Calls Try.prog 10 #[.int .u64 (b : Int), .int .i64 j] w fun e w' => e = .returned (.int .u64 (b : Int)) ∧ w = w'))
    (S2 : Hid (∀ w, Calls Try.prog 11 #[.int .u64 (b : Int), .int .i64 j] w fun e w' => e = .returned (.int .u64 (b : Int)) ∧ w = w'))
    (C2 : Hid (∀ w, Calls Try.prog 12 #[.int .u64 (b : Int), .int .i64 j] w fun e w' => e = .returned (.int .u64 (b : Int)) ∧ w = w'))
    (B1 : Hid (∀ w, Calls Try.prog 13 #[.int .u64 (b : Int), .int .i64 j] w fun e w' => e = .returned (.bool false) ∧ w = w'))
    (B2 : Hid (∀ w, Calls Try.prog 14 #[.int .u64 (b : Int), .int .i64 j] w fun e w' => e = .returned (.bool false) ∧ w = w')) :
    Calls Try.prog 3 #[.int .u64 (b : Int), .int .i64 j] w fun e w' => e = .returned (.bool true) ∧ Below w.heap.size w w' := by
  have HK := Lib.hid known5_any
  by_cases h0 : 0 ≤ j
  all_goals
    have g0 : 0 ≤ j → decide (j ≤ 63) = false := fun h0 => decide_eq_false (fun h1 => h ⟨h0, h1⟩)
    first
    | (have g1 : decide (j ≤ 63) = false := g0 h0
       have g2 : decide (0 ≤ j) = true := decide_eq_true h0
       have g3 : 63 < j := by omega)
    | (have g2 : decide (0 ≤ j) = false := decide_eq_false h0
       have g3 : j < 0 := by omega)
    clear g0 h
    go_enter Try.func3, Try.ntmps3
    go_wp2_with fail
    refine (S1.out _).mono ?_
    rintro e w1 ⟨rfl, rfl⟩
    go_wp2_with fail
    refine (C1.out _).mono ?_
    rintro e w1 ⟨rfl, rfl⟩
    go_wp2_with fail
    refine (S2.out _).mono ?_
    rintro e w1 ⟨rfl, rfl⟩
    go_wp2_with fail
    refine (C2.out _).mono ?_
    rintro e w1 ⟨rfl, rfl⟩
    go_wp2_with fail
    refine (B1.out _).mono ?_
    rintro e w1 ⟨rfl, rfl⟩
    go_wp2_with fail
    refine (B2.out _).mono ?_
    rintro e w1 ⟨rfl, rfl⟩
    go_wp2_with fail
    refine (B1.out _).mono ?_
    rintro e w1 ⟨rfl, rfl⟩
    go_wp2_with fail
    refine (B1.out _).mono ?_
    rintro e w1 ⟨rfl, rfl⟩
    go_wp2_with fail
    refine (HK.out _).mono ?_
    rintro e w1 ⟨rfl, hb⟩
    have HB := Lib.hid hb
    clear hb
    go_wp2
    go_ret
    exact ⟨rfl, HB.out⟩
theorem lawOne_any {b : Nat} (hb : b < 18446744073709551616) {j : Int} (hj0 : -9223372036854775808 ≤ j) (hj1 : j ≤ 9223372036854775807) (w : World) :
    Calls Try.prog 3 #[wv b, .int .i64 j] w fun e w' => e = .returned (.bool true) ∧ Below w.heap.size w w' := by
  have hs := setB_lt hb j
  have hc := Nat.lt_of_le_of_lt (clrB_le b j) hb
  by_cases h : 0 ≤ j ∧ j ≤ 63
  · refine lawOne_in (hh := hasB b j) w h.1 h.2 (Lib.hid fun w => bSet_any hb hj0 hj1 w) (Lib.hid fun w => bClear_any hb hj0 hj1 w) (Lib.hid fun w => rSet_any hb j w) (Lib.hid fun w => rClear_any hb j w) (Lib.hid fun w => bHas_any hb hj0 hj1 w) (Lib.hid fun w => rHas_any hb j w)
      (Lib.hid fun w => ?_) (Lib.hid fun w => ?_) (Lib.hid fun w => ?_) (Lib.hid fun w => ?_)
    · have := bHas_any hs hj0 hj1 w
      rw [hasB_set b hb, decide_eq_true h] at this
      exact this
    · have := bHas_any hc hj0 hj1 w
      rw [hasB_clr b hb] at this
      exact this
    · have := bClear_any hs hj0 hj1 w
      rw [clr_set b hb] at this
      exact this
    · have := bSet_any hc hj0 hj1 w
      rw [set_clr b hb] at this
      exact this
  · have e1 : setB b j = b := by unfold setB; rw [hasB_out h, mk_out h]; simp
    have e2 : clrB b j = b := by unfold clrB; rw [hasB_out h, if_neg (by decide)]
    have e3 := hasB_out (b := b) h
    refine lawOne_out w h (Lib.hid fun w => ?_) (Lib.hid fun w => ?_) (Lib.hid fun w => ?_) (Lib.hid fun w => ?_) (Lib.hid fun w => ?_) (Lib.hid fun w => ?_)
    · have := bSet_any hb hj0 hj1 w; rw [e1] at this; exact this
    · have := bClear_any hb hj0 hj1 w; rw [e2] at this; exact this
    · have := rSet_any hb j w; rw [e1] at this; exact this
    · have := rClear_any hb j w; rw [e2] at this; exact this
    · have := bHas_any hb hj0 hj1 w; rw [e3] at this; exact this
    · have := rHas_any hb j w; rw [e3] at this; exact this
end Go.Proofs.Ytabmafndcoebpaa
