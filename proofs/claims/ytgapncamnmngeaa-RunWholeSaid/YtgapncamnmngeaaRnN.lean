/- RunNil: the closed sentence, walked. -/
import Derived.Test.YtgapncamnmngeaaRnK
namespace Go.Proofs.Ytgapncamnmngeaa
open Go.RowKit Go.Shelf
set_option linter.unusedVariables false

theorem ahead1 (w : World) (a v : Nat) : Ahead (w.alloc (.cells #[.int .u64 (a : Int), .int .u64 (v : Int)] 32)) (.slice (some ⟨w.heap.size, 0, none⟩) 1 1) [(a, v)] := by
  refine .inr ⟨by simp, w.heap.size, 0, 1, rfl, Nat.le_refl _, by decide, fun i u hu => ?_⟩
  rw [Nat.zero_add, (Row.new w 32 #[.int .u64 (a : Int), .int .u64 (v : Int)]).cell, ← Array.getElem?_toList]
  exact hu
set_option maxRecDepth 100000 in
set_option maxHeartbeats 3200000 in
theorem runNil_any (w : World) : Calls Try.prog 8 #[] w fun e w' => e = .returned (.bool true) ∧ Below w.heap.size w w' := by
  obtain ⟨W0, hW0⟩ : ∃ W0, W0 = w.alloc (.cells #[.pointer none, .int .i64 0, .slice none 0 0, .int .u64 0, .nilFunc, .bool false, .int .i64 0] 66) := ⟨_, rfl⟩
  have hr0 : Row W0 w.heap.size 66 #[.pointer none, .int .i64 0, .slice none 0 0, .int .u64 0, .nilFunc, .bool false, .int .i64 0] := by rw [hW0]; exact Row.new _ _ _
  have hb0 : Below w.heap.size w W0 := by rw [hW0]; exact alloc_below _ _
  have HB0 := Lib.hid hb0
  have HZ := Lib.hid (rstep_zero hr0 rfl)
  have HR0 := Lib.hid hr0
  have HW0 := Lib.hid hW0
  clear hr0 hb0
  go_enter Try.func8, Try.ntmps8
  go_wp2_with fail
  rw [← hW0]
  clear hW0
  refine (rstep_nil _).mono ?_
  rintro e w1 ⟨rfl, rfl⟩
  go_wp2_with fail
  refine HZ.out.mono ?_
  rintro e w1 ⟨rfl, rfl⟩
  have HR := Lib.hid (rnew_any none 0 (ahead1 W0 8 0) (fun h => by cases h) (by decide))
  go_wp2_with fail
  refine HR.out.mono ?_
  rintro e w2 ⟨⟨rg, V, rfl, hr2, hrg, hV⟩, hb2⟩
  have HB2 := Lib.hid (Below.and (alloc_below W0 _) hb2)
  clear HR hb2 hV HZ
  have HS := Lib.hid (rstep_mem hr2.cells rfl (size_no (.inl rfl)))
  have HR2 := Lib.hid hr2
  go_wp2_with fail
  refine HS.out.mono ?_
  rintro e w3 ⟨rfl, w2', rfl, hb3⟩
  obtain ⟨A, cap, rfl, _, _⟩ := hr2.ah.len
  have hr3 : Row w3 rg 66 (rcells none 0 (.slice A 1 cap) 0 (nextV 30 rg) true 1) := by
    have h1 : Row (rstepW w2 rg true 1) rg 66 (rcells none 0 (.slice A 1 cap) 0 (nextV 30 rg) true 1) := by
      have := (hr2.cells.set 6 (.int .i64 1)).set 5 (.bool true)
      rw [rcells_set] at this
      exact this
    exact h1.below hb3 h1.lt
  have hb23 : Below W0.heap.size W0 w3 := by
    have : Below W0.heap.size W0 (rstepW w2 rg true 1) := by
      have h0 : W0.heap.size ≤ rg := by have := (alloc_below W0 (.cells #[.int .u64 ((8 : Nat) : Int), .int .u64 ((0 : Nat) : Int)] 32)).size; omega
      exact (HB2.out.setCell (p := ⟨rg, 6, none⟩) h0 _).setCell (p := ⟨rg, 5, none⟩) h0 _
    exact Below.and this hb3
  have hr03 := HR0.out.below hb23 HR0.out.lt
  have HBB := Lib.hid (Below.and HB0.out hb23)
  have HLZ := Lib.hid fun W (hb : Below w3.heap.size w3 W) => left_any (hr03.below hb hr03.lt) rfl
  have HLO := Lib.hid fun W (hb : Below w3.heap.size w3 W) => left_any (hr3.below hb hr3.lt) rfl
  clear hr3 hr03 hb23 hr2 hb3 hrg HS HR2
  go_wp2_with fail
  refine (left_nil _).mono ?_
  rintro e w' ⟨rfl, rfl⟩
  go_wp2_with fail
  refine (HLZ.out _ (Below.refl _ _)).mono ?_
  rintro e w' ⟨rfl, rfl⟩
  go_wp2_with fail
  refine (HLO.out _ (Below.refl _ _)).mono ?_
  rintro e w' ⟨rfl, rfl⟩
  clear HLZ HLO
  go_wp2_with fail
  refine (k10_any _).mono ?_
  rintro e w4 ⟨rfl, hb4⟩
  have HF := Lib.hid (Below.and HBB.out hb4)
  clear hb4
  go_wp2
  go_ret
  exact ⟨rfl, HF.out⟩
end Go.Proofs.Ytgapncamnmngeaa
