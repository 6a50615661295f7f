/- New, the reference's Of, and known() of layer 4; for any inputs, where geo.rooms holds what its initialiser lays. -/
import Derived.Test.YtlpampbdnbjphaaDoorSupM
namespace Go.Proofs.YtlpampbdnbjphaaDoor
open Go.RowKit Go.Sort Go.Shelf
set_option linter.unusedVariables false

theorem sizeN_range (s : Int) : 0 ≤ sizeN s ∧ sizeN s ≤ 66560 := by
  unfold sizeN
  split <;> omega
set_option maxHeartbeats 800000 in
theorem new_yes {s r n : Int} (hn0 : 0 ≤ n) (hn1 : n ≤ 66560) (w : World) (R : Rms w)
    (HS : Hid (∀ w, Calls Tryd.prog 19 #[.int .i64 s] w fun e w' => e = .returned (.int .i64 n) ∧ w = w'))
    (HM : Hid (∀ w, Rms w → Calls Tryd.prog 12 #[supV n r, .int .i64 n] w fun e w' => e = .returned (.bool true) ∧ Below w.heap.size w w')) :
    Calls Tryd.prog 9 #[.int .i64 s, .int .u64 r] w fun e w' => e = .returned (.tuple #[supV n r, .int .i64 0]) ∧ Below w.heap.size w w' := by
  have HR := Lib.hid R
  clear R
  go_enter Tryd.func9, Tryd.ntmps9
  go_wp2_with fail
  refine (HS.out _).mono ?_
  rintro e w1 ⟨rfl, rfl⟩
  go_wp2_with fail
  refine (HM.out _ ((HR.out.alloc _).alloc _)).mono ?_
  rintro e w1 ⟨rfl, hb⟩
  have r0 : w1.heap[w.heap.size]? = some (.cells #[.int .u64 0, .int .u64 0] 25 (0, 0)) := (hb.block _ (by simp; omega)).trans (heap_old _ (heap_new _ _ rfl))
  have r1 : w1.heap[w.heap.size + 1]? = some (.cells #[.int .u64 n, .int .u64 r] 25 (0, 0)) := (hb.block _ (by simp)).trans (heap_new _ _ (by simp))
  have ca := cell_of_row w1 _ 0 _ 25 (0, 0) r1
  have cb := cell_of_row w1 _ 1 _ 25 (0, 0) r1
  have cc := cell_of_row w1 _ 0 _ 25 (0, 0) r0
  have cd := cell_of_row w1 _ 1 _ 25 (0, 0) r0
  have fc := frozen_of_row w1 _ 0 _ 25 r0
  have fd := frozen_of_row w1 _ 1 _ 25 r0
  simp only [List.getElem?_toArray, List.getElem?_cons_succ, List.getElem?_cons_zero] at ca cb cc cd
  have HB := Lib.hid (show Below w.heap.size w w1 from (((Below.refl _ w).alloc (Nat.le_refl _) _).alloc (by simp) _).trans (hb.mono (by simp; omega)))
  have HR0 := Lib.hid r0
  clear hb r0 r1
  go_wp2
  refine bodyPost_ret (results_row_tmp rfl _ _ _ w.heap.size 25 #[.int .u64 n, .int .u64 r] (0, 0) _ rfl (row_set2 HR0.out _ _) Tryd.underlying25 (by kernel_rfl)) rfl ⟨rfl, ?_⟩
  exact (HB.out.setCell (p := ⟨w.heap.size, 0, none⟩) (by simp) _).setCell (p := ⟨w.heap.size, 1, none⟩) (by simp) _
set_option maxHeartbeats 800000 in
theorem new_no {s r n : Int} (hn0 : 0 ≤ n) (hn1 : n ≤ 66560) (w : World) (R : Rms w)
    (HS : Hid (∀ w, Calls Tryd.prog 19 #[.int .i64 s] w fun e w' => e = .returned (.int .i64 n) ∧ w = w'))
    (HM : Hid (∀ w, Rms w → Calls Tryd.prog 12 #[supV n r, .int .i64 n] w fun e w' => e = .returned (.bool false) ∧ Below w.heap.size w w')) :
    Calls Tryd.prog 9 #[.int .i64 s, .int .u64 r] w fun e w' => e = .returned (.tuple #[supV 0 0, .int .i64 2]) ∧ Below w.heap.size w w' := by
  have HR := Lib.hid R
  clear R
  go_enter Tryd.func9, Tryd.ntmps9
  go_wp2_with fail
  refine (HS.out _).mono ?_
  rintro e w1 ⟨rfl, rfl⟩
  go_wp2_with fail
  refine (HM.out _ ((HR.out.alloc _).alloc _)).mono ?_
  rintro e w1 ⟨rfl, hb⟩
  have r0 : w1.heap[w.heap.size]? = some (.cells #[.int .u64 0, .int .u64 0] 25 (0, 0)) := (hb.block _ (by simp; omega)).trans (heap_old _ (heap_new _ _ rfl))
  have r1 : w1.heap[w.heap.size + 1]? = some (.cells #[.int .u64 n, .int .u64 r] 25 (0, 0)) := (hb.block _ (by simp)).trans (heap_new _ _ (by simp))
  have ca := cell_of_row w1 _ 0 _ 25 (0, 0) r1
  have cb := cell_of_row w1 _ 1 _ 25 (0, 0) r1
  have cc := cell_of_row w1 _ 0 _ 25 (0, 0) r0
  have cd := cell_of_row w1 _ 1 _ 25 (0, 0) r0
  have fc := frozen_of_row w1 _ 0 _ 25 r0
  have fd := frozen_of_row w1 _ 1 _ 25 r0
  simp only [List.getElem?_toArray, List.getElem?_cons_succ, List.getElem?_cons_zero] at ca cb cc cd
  have HB := Lib.hid (show Below w.heap.size w w1 from (((Below.refl _ w).alloc (Nat.le_refl _) _).alloc (by simp) _).trans (hb.mono (by simp; omega)))
  have HR0 := Lib.hid r0
  clear hb r0 r1
  go_wp2
  refine bodyPost_ret (results_row_tmp rfl _ _ _ w.heap.size 25 #[.int .u64 0, .int .u64 0] (0, 0) _ rfl (row_set2 HR0.out _ _) Tryd.underlying25 (by kernel_rfl)) rfl ⟨rfl, ?_⟩
  exact (HB.out.setCell (p := ⟨w.heap.size, 0, none⟩) (by simp) _).setCell (p := ⟨w.heap.size, 1, none⟩) (by simp) _
/-- What New answers: the superblock, or none. -/
theorem new_ok {s r : Int} (h : mayB (sizeN s) r (sizeN s) = true) (w : World) (R : Rms w) :
    Calls Tryd.prog 9 #[.int .i64 s, .int .u64 r] w fun e w' => e = .returned (.tuple #[supV (sizeN s) r, .int .i64 0]) ∧ Below w.heap.size w w' := by
  have hr := sizeN_range s
  refine new_yes hr.1 hr.2 w R (Lib.hid fun w => size_any s w) (Lib.hid fun w R => ?_)
  have := may_any (z := sizeN s) (r := r) (n := sizeN s) (by omega) (by omega) w R
  rwa [h] at this
theorem new_err {s r : Int} (h : mayB (sizeN s) r (sizeN s) = false) (w : World) (R : Rms w) :
    Calls Tryd.prog 9 #[.int .i64 s, .int .u64 r] w fun e w' => e = .returned (.tuple #[supV 0 0, .int .i64 2]) ∧ Below w.heap.size w w' := by
  have hr := sizeN_range s
  refine new_no hr.1 hr.2 w R (Lib.hid fun w => size_any s w) (Lib.hid fun w R => ?_)
  have := may_any (z := sizeN s) (r := r) (n := sizeN s) (by omega) (by omega) w R
  rwa [h] at this
set_option maxRecDepth 100000 in
set_option maxHeartbeats 800000 in
theorem refOf_yes {x1 x2 : Int} (h0 : 0 ≤ x1) (h1 : x1 < 18446744073709551616) (w : World) :
    Calls Tryd.prog 16 #[w8V 5929342154728227142 x1 x2 (18446744073709551615 - x1) 0 0 0 0] w fun e w' => e = .returned (.tuple #[supV x1 x2, .int .i64 0]) ∧ Below w.heap.size w w' := by
  have ht : (x1 != x1) = false := by simp
  obtain ⟨x3, hx⟩ : ∃ x3, x3 = 18446744073709551615 - x1 := ⟨_, rfl⟩
  have hx1 : x1 = 18446744073709551615 - x3 := by omega
  rw [← hx]
  clear hx
  subst hx1
  go_enter Tryd.func16, Tryd.ntmps16
  go_wp2
  refine bodyPost_ret (results_row_tmp rfl _ _ _ (w.heap.size + 1) 25 #[.int .u64 (18446744073709551615 - x3), .int .u64 x2] (0, 0) _ rfl (heap_new _ _ (by simp)) Tryd.underlying25 (by kernel_rfl)) rfl ⟨rfl, ?_⟩
  exact ((Below.refl _ w).alloc (Nat.le_refl _) _).alloc (by simp) _
theorem ne_or (a b : Int) : (a != b) = true ∨ (a != b) = false := by cases (a != b) <;> simp
set_option maxRecDepth 100000 in
set_option maxHeartbeats 1600000 in
theorem refOf_no {x0 x1 x2 x3 x4 x5 x6 x7 : Int} (h0 : 0 ≤ x3) (h1 : x3 < 18446744073709551616) (h : ¬ (x0 = 5929342154728227142 ∧ x1 = 18446744073709551615 - x3 ∧ x4 = 0 ∧ x5 = 0 ∧ x6 = 0 ∧ x7 = 0)) (w : World) :
    Calls Tryd.prog 16 #[w8V x0 x1 x2 x3 x4 x5 x6 x7] w fun e w' => e = .returned (.tuple #[supV 0 0, .int .i64 6]) ∧ Below w.heap.size w w' := by
  have hc : (x0 != 5929342154728227142) = true ∨ (x0 != 5929342154728227142) = false ∧ ((x1 != 18446744073709551615 - x3) = true ∨ (x1 != 18446744073709551615 - x3) = false ∧ ((x4 != 0) = true ∨ (x4 != 0) = false ∧ ((x5 != 0) = true ∨ (x5 != 0) = false ∧ ((x6 != 0) = true ∨ (x6 != 0) = false ∧ (x7 != 0) = true)))) := by
    rcases ne_or x0 5929342154728227142 with a | a
    · exact .inl a
    refine .inr ⟨a, ?_⟩
    rcases ne_or x1 (18446744073709551615 - x3) with b | b
    · exact .inl b
    refine .inr ⟨b, ?_⟩
    rcases ne_or x4 0 with c | c
    · exact .inl c
    refine .inr ⟨c, ?_⟩
    rcases ne_or x5 0 with d | d
    · exact .inl d
    refine .inr ⟨d, ?_⟩
    rcases ne_or x6 0 with e | e
    · exact .inl e
    refine .inr ⟨e, ?_⟩
    rcases ne_or x7 0 with f | f
    · exact f
    · exact absurd ⟨by simpa using a, by simpa using b, by simpa using c, by simpa using d, by simpa using e, by simpa using f⟩ h
  clear h
  rcases hc with t0 | ⟨t0, t1 | ⟨t1, t2 | ⟨t2, t3 | ⟨t3, t4 | ⟨t4, t5⟩⟩⟩⟩⟩
  all_goals
    go_enter Tryd.func16, Tryd.ntmps16
    go_wp2
    refine bodyPost_ret (results_row_tmp rfl _ _ _ (w.heap.size + 1) 25 #[.int .u64 0, .int .u64 0] (0, 0) _ rfl (heap_new _ _ (by simp)) Tryd.underlying25 (by kernel_rfl)) rfl ⟨rfl, ?_⟩
    exact ((Below.refl _ w).alloc (Nat.le_refl _) _).alloc (by simp) _
end Go.Proofs.YtlpampbdnbjphaaDoor
