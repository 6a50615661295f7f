/- BitsLowest and BitsNil answer true, for every word and bound; nothing that was there turns. -/
import Derived.Test.YtabmafndcoebpaaBLaws
namespace Go.Proofs.Ytabmafndcoebpaa
open Go.RowKit
set_option linter.unusedVariables false
theorem lowR_pos (r : Option Nat) : decide (0 ≤ lowR r) = r.isSome := by cases r <;> simp [lowR]
theorem lowR_max (r : Option Nat) : max (lowR r) 0 = lowV r := by
  cases r with
  | none => rfl
  | some x => show max (x : Int) 0 = (x : Int); omega
set_option maxRecDepth 100000 in
set_option maxHeartbeats 4000000 in
theorem lawLowest_any {b : Nat} (hb : b < 18446744073709551616) {n : Int} (hn1 : n ≤ 9223372036854775807) (w : World) :
    Calls Try.prog 5 #[wv b, .int .i64 n] w fun e w' => e = .returned (.bool true) ∧ Below w.heap.size w w' := by
  have L1 := Lib.hid (fun W => lowest_any hb n W)
  have L2 := Lib.hid (fun W => rLowest_any hb n W)
  have M1 := Lib.hid (fun W => bMay_any hb n W)
  have M2 := Lib.hid (fun W => rMay_any hb n W)
  have HK := Lib.hid known5_any
  unfold wv at *
  generalize mayS b n = m at *
  have main : ∀ (x y : Int) (q : Bool), decide (0 ≤ x) = q → max x 0 = y → Hid (∀ W, Calls Try.prog 19 #[.int .u64 (b : Int), .int .i64 n] W fun e w' => e = .returned (.tuple #[.int .i64 y, .bool q]) ∧ Below W.heap.size W w') → Hid (∀ W, Calls Try.prog 20 #[.int .u64 (b : Int), .int .i64 n] W fun e w' => e = .returned (.int .i64 x) ∧ W = w') →
      Calls Try.prog 5 #[.int .u64 (b : Int), .int .i64 n] w fun e w' => e = .returned (.bool true) ∧ Below w.heap.size w w' := by
    clear L1 L2
    intro x y q hq hy L1 L2
    cases q <;> cases m
    all_goals
      go_enter Try.func5, Try.ntmps5
      go_wp2_with fail
      refine (L1.out _).mono ?_
      rintro e w1 ⟨rfl, hb1⟩
      have HB1 := Lib.hid hb1
      clear hb1
      go_wp2_with fail
      refine (L2.out _).mono ?_
      rintro e w2 ⟨rfl, rfl⟩
      go_wp2_with fail
      refine (M1.out _).mono ?_
      rintro e w2 ⟨rfl, rfl⟩
      go_wp2_with fail
      refine (M2.out _).mono ?_
      rintro e w2 ⟨rfl, hb1⟩
      have HB2 := Lib.hid (Below.and HB1.out hb1)
      clear hb1
      go_wp2_with fail
      refine (HK.out _).mono ?_
      rintro e w3 ⟨rfl, hb1⟩
      have HB3 := Lib.hid (Below.and HB2.out hb1)
      clear hb1
      go_wp2
      go_ret
      exact ⟨rfl, HB3.out⟩
  exact main _ _ _ (lowR_pos (lowB b n)) (lowR_max (lowB b n)) L1 L2
set_option maxRecDepth 100000 in
set_option maxHeartbeats 4000000 in
theorem lawNil5_any (w : World) : Calls Try.prog 8 #[] w fun e w' => e = .returned (.bool true) ∧ Below w.heap.size w w' := by
  have HK := Lib.hid known5_any
  have T0 := Lib.hid take_nil
  have P0 := Lib.hid (put_nil 8)
  have D0 := Lib.hid (drop_nil 8)
  have A0 := Lib.hid (has_nil 8)
  have L0 := Lib.hid len_nil
  have All0 := Lib.hid all_nil
  have C0 := Lib.hid copy_nil
  unfold wv at *
  have hz : OwnS w (w.alloc (.cells #[.slice none 0 0] 58)) w.heap.size [] (.slice none 0 0) :=
    ⟨⟨[], ⟨Row.new w 58 _, .inl ⟨rfl, rfl⟩, fun e => by cases e⟩, fun i h0 hi => by simp at hi, List.Perm.refl _⟩, (fun k hk => by
      rcases hk with rfl | hk
      · exact Nat.le_refl _
      · cases hk), alloc_below _ _⟩
  have HZ := Lib.hid hz
  clear hz
  go_enter Try.func8, Try.ntmps8
  go_wp2_with fail
  refine (T0.out _).mono ?_
  rintro e w1 ⟨rfl, rfl⟩
  go_wp2_with fail
  refine (take_none HZ.out.1).mono ?_
  rintro e w1 ⟨rfl, rfl⟩
  go_wp2_with fail
  refine (P0.out _).mono ?_
  rintro e w1 ⟨rfl, rfl⟩
  go_wp2_with fail
  refine (D0.out _).mono ?_
  rintro e w1 ⟨rfl, hb⟩
  have HZ1 := Lib.hid (HZ.out.below hb)
  clear hb
  go_wp2_with fail
  refine (A0.out _).mono ?_
  rintro e w2 ⟨rfl, hb⟩
  have HZ2 := Lib.hid (HZ1.out.below hb)
  clear hb
  go_wp2_with fail
  refine (L0.out _).mono ?_
  rintro e w3 ⟨rfl, rfl⟩
  go_wp2_with fail
  refine (All0.out _).mono ?_
  rintro e w3 ⟨rfl, rfl⟩
  go_wp2_with fail
  refine (len_any HZ2.out.1 (by simp)).mono ?_
  rintro e w3 ⟨rfl, rfl⟩
  go_wp2_with fail
  refine (all_few HZ2.out.1 (by simp)).mono ?_
  rintro e w3 ⟨v3, l3, rfl, ha, hp, _, _, hb⟩
  have HZ3 := Lib.hid (HZ2.out.below hb)
  obtain ⟨ad, cap, rfl⟩ := ha.shape
  have hl0 : l3.length = 0 := by rw [hp.length_eq]; rfl
  rw [hl0]
  clear hb ha hp hl0
  go_wp2_with fail
  refine (C0.out _).mono ?_
  rintro e w4 ⟨rfl, rfl⟩
  go_wp2_with fail
  refine (put_zero _ _).mono ?_
  rintro e w4 ⟨rfl, rfl⟩
  have HP := Lib.hid (put_any HZ3.out.1 (by simp) (a := 8) (by decide))
  unfold wv at HP
  go_wp2_with fail
  refine HP.out.mono ?_
  rintro e w4 ⟨rfl, hl⟩
  obtain ⟨v4, h4⟩ := HZ3.out.left hl
  have HZ4 := Lib.hid (show OwnS w w4 w.heap.size [8] v4 from h4)
  clear h4 hl
  have HH := Lib.hid (has_any HZ4.out.1 (by simp) 8)
  unfold wv at HH
  go_wp2_with fail
  refine HH.out.mono ?_
  rintro e w5 ⟨rfl, hb⟩
  have HZ5 := Lib.hid (HZ4.out.below hb)
  clear hb
  rw [show decide (8 ∈ [8]) = true by decide]
  go_wp2_with fail
  refine (len_any HZ5.out.1 (by simp)).mono ?_
  rintro e w6 ⟨rfl, rfl⟩
  go_wp2_with fail
  refine (HK.out _).mono ?_
  rintro e w7 ⟨rfl, hb⟩
  have HB := Lib.hid (Below.trans HZ5.out.2.2 (hb.mono HZ5.out.2.2.size))
  clear hb
  go_wp2
  go_ret
  exact ⟨rfl, HB.out⟩
end Go.Proofs.Ytabmafndcoebpaa
