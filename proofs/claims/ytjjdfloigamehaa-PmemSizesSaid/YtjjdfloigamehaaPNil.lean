/- PmemNil: the closed sentence, walked. -/
import Derived.Test.YtjjdfloigamehaaPNo
import Derived.Test.YtjjdfloigamehaaPLook
import Derived.Test.YtjjdfloigamehaaPKnown
import Derived.BigQuiet
namespace Go.Proofs.Ytjjdfloigamehaa
open Go.RowKit Go.Shelf
set_option linter.unusedVariables false
set_option maxRecDepth 100000 in
set_option maxHeartbeats 3200000 in
theorem nil_any (w : World) : Calls Try.prog 8 #[] w fun e w' => e = .returned (.bool true) ∧ Below w.heap.size w w' := by
  obtain ⟨W0, hW0⟩ : ∃ W0, W0 = w.alloc (.cells #[.slice none 0 0, .slice none 0 0, .slice none 0 0, .map none, .int .u64 0, .int .u64 0, .int .u64 0, .int .u64 0] 67) := ⟨_, rfl⟩
  have hz : NoMem W0 (some ⟨w.heap.size, 0, none⟩) := .inr ⟨_, rfl, by rw [hW0]; exact Row.new _ _ _⟩
  have hn : NoMem W0 none := .inl rfl
  have HB := Lib.hid (show Below w.heap.size w W0 by rw [hW0]; exact alloc_below _ _)
  have HZ := Lib.hid fun W (hb : Below W0.heap.size W0 W) => hz.below hb
  have HN := Lib.hid fun W (hb : Below W0.heap.size W0 W) => hn.below hb
  have R0 := Below.refl W0.heap.size W0
  have HW := Lib.hid hW0
  clear hz hn
  go_enter Try.func8, Try.ntmps8
  go_wp2_with fail
  rw [← hW0]
  clear hW0
  have HL := Lib.hid fun W p (h : NoMem W p) => load_no h 0
  have HE := Lib.hid fun W p n (h : NoMem W p) => evict_no h 0 n
  have HC := Lib.hid fun W p A n cap (h : NoMem W p) => crash_no h A n cap
  refine (HL.out _ _ (HN.out _ R0)).mono ?_
  rintro e w1 ⟨rfl, rfl⟩
  go_wp2_with fail
  refine (HE.out _ _ _ (HN.out _ R0)).mono ?_
  rintro e w1 ⟨rfl, rfl⟩
  go_wp2_with fail
  refine (HL.out _ _ (HZ.out _ R0)).mono ?_
  rintro e w1 ⟨rfl, rfl⟩
  go_wp2_with fail
  refine (HE.out _ _ _ (HZ.out _ R0)).mono ?_
  rintro e w1 ⟨rfl, rfl⟩
  go_wp2_with fail
  refine (HC.out _ _ _ _ _ (HN.out _ (alloc_below _ _))).mono ?_
  rintro e w1 ⟨rfl, hb⟩
  have R1 := Below.and (alloc_below W0 _) hb
  clear hb R0
  go_wp2_with fail
  refine (HC.out _ _ _ _ _ (HZ.out _ (Below.and R1 (alloc_below _ _)))).mono ?_
  rintro e w2 ⟨rfl, hb⟩
  have R2 := Below.and (Below.and R1 (alloc_below w1 _)) hb
  clear hb R1
  have hN := HN.out _ R2
  have hZ := HZ.out _ R2
  go_wp2_with fail
  refine (store_no hN 0 1).mono ?_
  rintro e w' ⟨rfl, rfl⟩
  go_wp2_with fail
  refine (flush_no hN 99 1).mono ?_
  rintro e w' ⟨rfl, rfl⟩
  go_wp2_with fail
  refine (fence_no hN 99).mono ?_
  rintro e w' ⟨rfl, rfl⟩
  go_wp2_with fail
  refine (store_no hZ 0 1).mono ?_
  rintro e w' ⟨rfl, rfl⟩
  go_wp2_with fail
  refine (flush_no hZ 0 0).mono ?_
  rintro e w' ⟨rfl, rfl⟩
  go_wp2_with fail
  refine (fence_no hZ 0).mono ?_
  rintro e w' ⟨rfl, rfl⟩
  go_wp2_with fail
  refine (pending_no hN 0).mono ?_
  rintro e w' ⟨rfl, rfl⟩
  go_wp2_with fail
  refine (pending_no hZ 0).mono ?_
  rintro e w' ⟨rfl, rfl⟩
  go_wp2_with fail
  refine (size_no hN).mono ?_
  rintro e w' ⟨rfl, rfl⟩
  go_wp2_with fail
  refine (size_no hZ).mono ?_
  rintro e w' ⟨rfl, rfl⟩
  go_wp2_with fail
  refine (lines_no hN).mono ?_
  rintro e w3 ⟨rfl, hb⟩
  have R3 := Below.and R2 hb
  have hN := HN.out _ R3
  have hZ := HZ.out _ R3
  clear hb R2
  go_wp2_with fail
  refine (image_no hN).mono ?_
  rintro e w' ⟨rfl, rfl⟩
  go_wp2_with fail
  refine (view_no hZ).mono ?_
  rintro e w' ⟨rfl, rfl⟩
  go_wp2_with fail
  refine (stats_no hN).mono ?_
  rintro e w4 ⟨rfl, hb⟩
  have R4 := Below.and R3 hb
  have hN := HN.out _ R4
  have hZ := HZ.out _ R4
  clear hb R3
  go_wp2_with fail
  refine (copy_no hN).mono ?_
  rintro e w5 ⟨rfl, hb⟩
  have R5 := Below.and R4 hb
  have hN := HN.out _ R5
  have hZ := HZ.out _ R5
  clear hb R4
  go_wp2_with fail
  refine (copy_no hZ).mono ?_
  rintro e w6 ⟨rfl, hb⟩
  have R6 := Below.and R5 hb
  have hN := HN.out _ R6
  have hZ := HZ.out _ R6
  clear hb R5
  go_wp2_with fail
  refine (same_no hN hZ).mono ?_
  rintro e w' ⟨rfl, rfl⟩
  go_wp2_with fail
  refine (known_any w6).mono ?_
  rintro e w7 ⟨rfl, hb⟩
  have R7 := Below.and R6 hb
  clear hb R6
  go_wp2
  go_ret
  exact ⟨rfl, Below.and HB.out R7⟩
end Go.Proofs.Ytjjdfloigamehaa
