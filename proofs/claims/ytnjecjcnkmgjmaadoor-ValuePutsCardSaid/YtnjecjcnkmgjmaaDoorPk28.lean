/- Texts of this claim, packed: VNl. -/
import Derived.Test.YtnjecjcnkmgjmaaDoorPk26
import Derived.Test.YtnjecjcnkmgjmaaDoorPk27
import Derived.Test.YtnjecjcnkmgjmaaDoorPk24
/- ValueNil is walked: what is answered of no memory, of no read, of a zero one; where geo.rooms holds what its initialiser lays. -/
namespace Go.Proofs.YtnjecjcnkmgjmaaDoor
open Go.RowKit Go.Sort Go.Shelf
set_option linter.unusedVariables false
/-- A step of a read of no memory. -/
theorem vStep_nomem {w : World} {B g b : Nat} {V : Value} (hr : RdAt w B g b none 37 [] ⟨#[]⟩ false 0 V) (hb : b < 18446744073709551616) :
    Calls Tryd.prog 30 #[.pointer (some ⟨g, 0, none⟩)] w fun e w' => e = .returned (.tuple #[.bool true, .int .i64 1]) ∧ But w w' (fun q => q = g) := by
  have hbad := vload_bad (kk := 1) hr (by decide) (by simpa using hb) (fun q => load_no (w := q.W) (.inl rfl) _)
  refine (vstep_of (kk := 1) (d := false) (P := fun w' => Below w.heap.size w w') (F := fun _ => True) (callV (.inl rfl)) hr ((vlength_bad (by decide) hbad).mono fun e w' ⟨he, hb⟩ => ⟨he, ⟨_, V, 0, trivial, hr.below hb⟩, hb⟩)).mono ?_
  rintro e w' ⟨he, f', V', w1, _, _, hb, hbt⟩
  exact ⟨he, (But.of_below hb (fun q => q = g)).trans hbt (fun _ h => .inl h)⟩
theorem kpa5 : paK 3 [0] = 2 := by decide +kernel
theorem kpa6 : paK 1 [9, 1] = 2 := by decide +kernel
theorem kpa7 : paK 1 [] = 2 := by decide +kernel
set_option maxRecDepth 100000 in
set_option maxHeartbeats 3200000 in
theorem valueNil_any (w : World) (R : Rms w) : Calls Tryd.prog 7 #[] w fun e w' => e = .returned (.bool true) ∧ Below w.heap.size w w' := by
  obtain ⟨z, hz⟩ : ∃ z, z = w.heap.size := ⟨_, rfl⟩
  obtain ⟨W0, hW0⟩ : ∃ W0, W0 = w.alloc (.cells #[.pointer none, .int .u64 0, .nilFunc, .slice none 0 0, .string ⟨#[]⟩, .bool false, .int .i64 0] 63) := ⟨_, rfl⟩
  have hr0 : Row W0 z 63 #[.pointer none, .int .u64 0, .nilFunc, .slice none 0 0, .string ⟨#[]⟩, .bool false, .int .i64 0] := by rw [hW0]; exact rowAt hz
  have hb0 : Below w.heap.size w W0 := by rw [hW0]; exact alloc_below _ _
  have HW0 := Lib.hid hW0
  have HZ := Lib.hid hz
  have HR0 := Lib.hid hr0
  have HB0 := Lib.hid hb0
  have R0 := Lib.hid (R.below hb0)
  have S1 := Lib.hid (vStep_nil W0)
  have S2 := Lib.hid (vStep_zero hr0 rfl)
  have S3 := Lib.hid (vValue_nil W0)
  have S4 := Lib.hid (vValue_zero hr0 rfl)
  have S5 := Lib.hid (vNew_any (w := W0) none 64)
  have S6 := Lib.hid fun (W : World) (B g : Nat) (V : Value) (hr : RdAt W B g 64 none 37 [] ⟨#[]⟩ false 0 V) => vStep_nomem hr (by omega)
  have P1 := Lib.hid fun (W : World) (R : Rms W) => vParse_any 1 [] none 0 0 W R rfl (by omega) (by omega) (by unfold maxLen; omega) (fun _ h => by cases h) (slc_nil W)
  rw [kpa7] at P1
  have P2 := Lib.hid fun (W : World) (R : Rms W) => kpar 3 [0] 1 rfl (by omega) (wrds_lit _ (by decide)) W R 2 kpa5
  have P3 := Lib.hid fun (W : World) (R : Rms W) => kpar 1 [9, 1] 2 rfl (by omega) (wrds_lit _ (by decide)) W R 2 kpa6
  obtain ⟨T1, hT1⟩ : ∃ T1, T1 = paS 1 [] := ⟨_, rfl⟩
  obtain ⟨T2, hT2⟩ : ∃ T2, T2 = paS 3 [0] := ⟨_, rfl⟩
  obtain ⟨T3, hT3⟩ : ∃ T3, T3 = paS 1 [9, 1] := ⟨_, rfl⟩
  rw [← hT1] at P1
  rw [← hT2] at P2
  rw [← hT3] at P3
  have HK := Lib.hid fun (W : World) (R : Rms W) => known12_any W R
  clear hT1 hT2 hT3 hW0 hz hr0 hb0 R
  go_enter Tryd.func7, Tryd.ntmps7
  go_wp2_with (rw [← HW0.out, ← HZ.out])
  refine S1.out.mono ?_
  rintro e w1 ⟨rfl, rfl⟩
  go_wp2_with fail
  refine S2.out.mono ?_
  rintro e w1 ⟨rfl, rfl⟩
  go_wp2_with fail
  refine S3.out.mono ?_
  rintro e w1 ⟨rfl, rfl⟩
  go_wp2_with fail
  refine S4.out.mono ?_
  rintro e w1 ⟨rfl, rfl⟩
  go_wp2_with fail
  refine S5.out.mono ?_
  rintro e w1 ⟨rfl, hr1, hb1⟩
  have S61 := Lib.hid (S6.out _ _ _ _ hr1)
  have B1 := Lib.hid hb1
  have GB := Lib.hid hr1.gB
  clear hr1 hb1 S1 S2 S3 S4 S5 S6
  go_wp2_with fail
  refine S61.out.mono ?_
  rintro e w2 ⟨rfl, hb2⟩
  have B2 := Lib.hid (show Below W0.heap.size W0 w2 from Below.trans B1.out (hb2.below B1.out.size (fun k hk => by rw [hk]; exact Nat.le_refl _)))
  have R2 := Lib.hid (R0.out.below B2.out)
  clear hb2 S61
  go_wp2_with fail
  refine (P1.out _ R2.out).mono ?_
  rintro e w3 ⟨rfl, hb3⟩
  have B3 := Lib.hid hb3
  have R3 := Lib.hid (R2.out.below hb3)
  clear hb3 P1
  go_wp2_with fail
  refine (P2.out _ R3.out).mono ?_
  rintro e w4 ⟨rfl, hb4⟩
  have B4 := Lib.hid hb4
  have R4 := Lib.hid (R3.out.below hb4)
  clear hb4 P2
  go_wp2_with fail
  refine (P3.out _ R4.out).mono ?_
  rintro e w5 ⟨rfl, hb5⟩
  have B5 := Lib.hid hb5
  have R5 := Lib.hid (R4.out.below hb5)
  clear hb5 P3
  go_wp2_with fail
  refine (HK.out _ R5.out).mono ?_
  rintro e w6 ⟨rfl, hb6⟩
  have B6 := Lib.hid hb6
  clear hb6 HK
  go_wp2
  go_ret
  exact ⟨rfl, Below.and HB0.out (Below.and B2.out (Below.and B3.out (Below.and B4.out (Below.and B5.out B6.out))))⟩
end Go.Proofs.YtnjecjcnkmgjmaaDoor
