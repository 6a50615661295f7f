/- known() of layer 4 answers true, where geo.rooms holds what its initialiser lays. -/
import Derived.Test.YtlpampbdnbjphaaDoorSupN
import Derived.Test.YtlpampbdnbjphaaDoorLow
namespace Go.Proofs.YtlpampbdnbjphaaDoor
open Go.RowKit Go.Sort Go.Shelf
set_option linter.unusedVariables false

theorem cells8 {w : World} {b : Nat} {t : TypeId} {x0 x1 x2 x3 x4 x5 x6 x7 : Int} (h : w.heap[b]? = some (.cells #[.int .u64 x0, .int .u64 x1, .int .u64 x2, .int .u64 x3, .int .u64 x4, .int .u64 x5, .int .u64 x6, .int .u64 x7] t (0, 0))) :
    w.cell? ⟨b, 0, none⟩ = some (.int .u64 x0) ∧ w.cell? ⟨b, 1, none⟩ = some (.int .u64 x1) ∧ w.cell? ⟨b, 2, none⟩ = some (.int .u64 x2) ∧ w.cell? ⟨b, 3, none⟩ = some (.int .u64 x3) ∧
    w.cell? ⟨b, 4, none⟩ = some (.int .u64 x4) ∧ w.cell? ⟨b, 5, none⟩ = some (.int .u64 x5) ∧ w.cell? ⟨b, 6, none⟩ = some (.int .u64 x6) ∧ w.cell? ⟨b, 7, none⟩ = some (.int .u64 x7) :=
  ⟨cell8 h 0 (by omega), cell8 h 1 (by omega), cell8 h 2 (by omega), cell8 h 3 (by omega), cell8 h 4 (by omega), cell8 h 5 (by omega), cell8 h 6 (by omega), cell8 h 7 (by omega)⟩
theorem rootsL_1 : rootsL 1 = [1088, 1280, 1472, 1664, 1856] := by decide +kernel
theorem may_1 : mayB (sizeN 1) 1088 (sizeN 1) = true := by decide +kernel
theorem may_2 : mayB (sizeN 1) 1152 (sizeN 1) = false := by decide +kernel
theorem may_3 : mayB (sizeN 1) 2112 (sizeN 1) = false := by decide +kernel
theorem may_4 : mayB (sizeN 2) 2112 (sizeN 2) = true := by decide +kernel
theorem places_1 (w : World) (R : Rms w) :
    Calls Tryd.prog 17 #[.int .i64 1] w fun e W' => ∃ g cap, e = .returned (.slice (some ⟨g, 0, none⟩) 5 cap) ∧ W'.cell? ⟨g, 0, none⟩ = some (.int .u64 1088) ∧ W'.cell? ⟨g, 4, none⟩ = some (.int .u64 1856) ∧ Below w.heap.size w W' := by
  refine (places_any (s := 1) (by decide) w R).mono ?_
  rintro e W' ⟨v, rfl, ho, hb⟩
  rw [rootsL_1] at ho
  obtain ⟨g, cap, rfl⟩ := ownsRow_succ (k := 4) ho
  refine ⟨g, cap, rfl, ?_, ?_, hb⟩
  · simpa [Addr.add] using ho.cells (g := g) rfl 0 (.int .u64 1088) rfl
  · simpa [Addr.add] using ho.cells (g := g) rfl 4 (.int .u64 1856) rfl
theorem Rms.lt {w : World} (h : Rms w) : 0 < w.heap.size := by
  obtain ⟨t, h⟩ := h
  exact heap_lt h
set_option maxRecDepth 100000 in
set_option maxHeartbeats 1600000 in
theorem known4_any (w : World) (R : Rms w) : Calls Tryd.prog 11 #[] w fun e w' => e = .returned (.bool true) ∧ Below w.heap.size w w' := by
  have HR := Lib.hid R
  have HM := Lib.hid R.lt
  have HN1 := Lib.hid fun (w : World) R => new_ok may_1 w R
  have HN2 := Lib.hid fun (w : World) R => new_err may_2 w R
  have HN3 := Lib.hid fun (w : World) R => new_err may_3 w R
  have HN4 := Lib.hid fun (w : World) R => new_ok may_4 w R
  rw [show sizeN 1 = 2048 from rfl] at HN1
  rw [show sizeN 2 = 3072 from rfl] at HN4
  clear R
  go_enter Tryd.func11, Tryd.ntmps11
  go_wp2_with fail
  refine (HN1.out _ HR.out).mono ?_
  rintro e w1 ⟨rfl, hb⟩
  have B1 := Lib.hid hb
  have R1 := Lib.hid (HR.out.keeps hb HM.out)
  clear hb
  go_wp2_with fail
  refine (HN2.out _ (R1.out.alloc _)).mono ?_
  rintro e w2 ⟨rfl, hb⟩
  have B2 := Lib.hid ((B1.out.alloc B1.out.size _).trans (hb.mono (by have := B1.out.size; simp; omega)))
  have R2 := Lib.hid (HR.out.keeps B2.out HM.out)
  have r0 := Lib.hid ((hb.block w1.heap.size (by simp)).trans (heap_new _ _ rfl))
  have L2 := Lib.hid (show w1.heap.size < w2.heap.size from heap_lt r0.out)
  clear hb
  go_wp2_with fail
  refine (HN3.out _ (R2.out.alloc _)).mono ?_
  rintro e w3 ⟨rfl, hb⟩
  have B3 := Lib.hid ((B2.out.alloc B2.out.size _).trans (hb.mono (by have := B2.out.size; simp; omega)))
  have R3 := Lib.hid (HR.out.keeps B3.out HM.out)
  have r0 := Lib.hid ((hb.block w1.heap.size (by have := L2.out; simp; omega)).trans (heap_old _ r0.out))
  have L3 := Lib.hid (show w1.heap.size < w3.heap.size from heap_lt r0.out)
  clear hb
  go_wp2_with fail
  refine (HN4.out _ (R3.out.alloc _)).mono ?_
  rintro e w4 ⟨rfl, hb⟩
  have B4 := Lib.hid ((B3.out.alloc B3.out.size _).trans (hb.mono (by have := B3.out.size; simp; omega)))
  have R4 := Lib.hid (HR.out.keeps B4.out HM.out)
  have r0 := Lib.hid ((hb.block w1.heap.size (by have := L3.out; simp; omega)).trans (heap_old _ r0.out))
  have L4 := Lib.hid (show w1.heap.size < w4.heap.size from heap_lt r0.out)
  clear hb
  have ca := cell_of_row w4 _ 0 _ 25 (0, 0) r0.out
  have cb := cell_of_row w4 _ 1 _ 25 (0, 0) r0.out
  simp only [List.getElem?_toArray, List.getElem?_cons_succ, List.getElem?_cons_zero] at ca cb
  have l4 := L4.out
  go_wp2_with fail
  refine (words_any (by decide) (by decide) _).mono ?_
  rintro e w5 ⟨rfl, hb⟩
  have B5 := Lib.hid ((B4.out.alloc B4.out.size _).trans (hb.mono (by have := B4.out.size; simp; omega)))
  have R5 := Lib.hid (HR.out.keeps B5.out HM.out)
  clear hb ca cb l4 L4 r0
  go_wp2_with fail
  refine (places_1 _ (R5.out.alloc _)).mono ?_
  rintro e w6 ⟨g, cap, rfl, hg0, hg4, hb⟩
  have B6 := Lib.hid ((B5.out.alloc B5.out.size _).trans (hb.mono (by have := B5.out.size; simp; omega)))
  have r5 := (hb.block w5.heap.size (by simp)).trans (heap_new _ _ rfl)
  clear hb
  obtain ⟨k0, k1, k2, k3, k4, k5, k6, k7⟩ := cells8 r5
  clear r5
  have hq := eq8v
  go_wp2_with fail
  refine (rootAt_any _).mono ?_
  rintro e w7 ⟨rfl, rfl⟩
  go_wp2
  go_ret
  exact ⟨rfl, B6.out⟩
end Go.Proofs.YtlpampbdnbjphaaDoor
