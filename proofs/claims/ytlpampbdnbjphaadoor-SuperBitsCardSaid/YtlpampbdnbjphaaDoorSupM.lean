/- May, New, and the reference's May: which superblocks may be; for any superblock, any size, where geo.rooms holds what its initialiser lays. -/
import Derived.Test.YtlpampbdnbjphaaDoorSupW
import Derived.Test.YtlpampbdnbjphaaDoorGeoT
namespace Go.Proofs.YtlpampbdnbjphaaDoor
open Go.RowKit Go.Sort Go.Shelf
set_option linter.unusedVariables false

/-- May a superblock of these numbers be, of an arena of n bytes? -/
def mayB (z r n : Int) : Bool := decide ((2048 ≤ n ∧ n ≤ 66560 ∧ n % 1024 = 0) ∧ z = n ∧ r ∈ rootsL (n / 1024 - 1))
theorem Rms.alloc2 {w : World} (h : Rms w) (o p : Obj) : Rms ((w.alloc o).alloc p) := (h.alloc o).alloc p
set_option maxHeartbeats 800000 in
theorem may_no {z r n : Int} (h : ¬ (2048 ≤ n ∧ n ≤ 66560 ∧ n % 1024 = 0)) (hn : -9223372036854775808 ≤ n) (hb : n ≤ 9223372036854775807) (w : World) :
    Calls Tryd.prog 12 #[supV z r, .int .i64 n] w fun e w' => e = .returned (.bool false) ∧ Below w.heap.size w w' := by
  have H := Lib.hid fun w => slabs_no h hn hb w
  clear h
  go_enter Tryd.func12, Tryd.ntmps12
  go_wp2_with fail
  refine (H.out _).mono ?_
  rintro e w1 ⟨rfl, rfl⟩
  go_wp2
  go_ret
  exact ⟨rfl, (Below.refl _ w).alloc (Nat.le_refl _) _⟩
set_option maxHeartbeats 800000 in
theorem may_ne {z r n : Int} (h : 2048 ≤ n ∧ n ≤ 66560 ∧ n % 1024 = 0) (hz : (z == n) = false) (w : World) :
    Calls Tryd.prog 12 #[supV z r, .int .i64 n] w fun e w' => e = .returned (.bool false) ∧ Below w.heap.size w w' := by
  have H := Lib.hid fun w => slabs_yes h w
  obtain ⟨h1, h2, h3⟩ := h
  clear h3
  go_enter Tryd.func12, Tryd.ntmps12
  go_wp2_with fail
  refine (H.out _).mono ?_
  rintro e w1 ⟨rfl, rfl⟩
  go_wp2
  go_ret
  exact ⟨rfl, (Below.refl _ w).alloc (Nat.le_refl _) _⟩
set_option maxHeartbeats 800000 in
theorem may_root {z r n : Int} (h : 2048 ≤ n ∧ n ≤ 66560 ∧ n % 1024 = 0) (hz : (z == n) = true) (w : World) (R : Rms w) :
    Calls Tryd.prog 12 #[supV z r, .int .i64 n] w fun e w' => e = .returned (.bool (decide (r ∈ rootsL (n / 1024 - 1)))) ∧ Below w.heap.size w w' := by
  have H := Lib.hid fun w => slabs_yes h w
  have HI := Lib.hid fun (w : World) R => isRoot_any (a := r) (s := n / 1024 - 1) (by omega) w R
  have HR := Lib.hid R
  obtain ⟨h1, h2, h3⟩ := h
  obtain ⟨s, hs⟩ : ∃ s, s = n / 1024 - 1 := ⟨_, rfl⟩
  rw [← hs] at H HI ⊢
  clear h3 R hs
  go_enter Tryd.func12, Tryd.ntmps12
  go_wp2_with fail
  refine (H.out _).mono ?_
  rintro e w1 ⟨rfl, rfl⟩
  go_wp2_with fail
  refine (HI.out _ (HR.out.alloc _)).mono ?_
  rintro e w1 ⟨rfl, hb⟩
  go_wp2
  go_ret
  exact ⟨rfl, ((Below.refl _ w).alloc (Nat.le_refl _) _).trans (hb.mono (by simp))⟩
theorem may_any {z r n : Int} (hn : -9223372036854775808 ≤ n) (hb : n ≤ 9223372036854775807) (w : World) (R : Rms w) :
    Calls Tryd.prog 12 #[supV z r, .int .i64 n] w fun e w' => e = .returned (.bool (mayB z r n)) ∧ Below w.heap.size w w' := by
  unfold mayB
  by_cases h : 2048 ≤ n ∧ n ≤ 66560 ∧ n % 1024 = 0
  · by_cases hz : z = n
    · have := may_root (r := r) h (beq_iff_eq.2 hz) w R
      rwa [show decide ((2048 ≤ n ∧ n ≤ 66560 ∧ n % 1024 = 0) ∧ z = n ∧ r ∈ rootsL (n / 1024 - 1)) = decide (r ∈ rootsL (n / 1024 - 1)) from decide_eq_decide.2 ⟨fun a => a.2.2, fun a => ⟨h, hz, a⟩⟩]
    · rw [decide_eq_false (fun a => hz a.2.1)]
      exact may_ne h (by simpa using hz) w
  · rw [decide_eq_false (fun a => h a.1)]
    exact may_no h hn hb w
set_option maxHeartbeats 1600000 in
theorem refMay_no {z r n m : Int} (h : (m == 0) = true ∨ (m == 0) = false ∧ 2048 ≤ n ∧ n ≤ 66560 ∧ (z != n) = true) (hm : slabsN n = m) (w : World) :
    Calls Tryd.prog 10 #[supV z r, .int .i64 n] w fun e w' => e = .returned (.bool false) ∧ Below w.heap.size w w' := by
  have H := Lib.hid fun w => refSlabs_any n w
  rw [hm] at H
  clear hm
  rcases h with h | ⟨h, h1, h2, hz⟩
  all_goals
    go_enter Tryd.func10, Tryd.ntmps10
    go_wp2_with fail
    refine (H.out _).mono ?_
    rintro e w1 ⟨rfl, rfl⟩
    go_wp2
    go_ret
    exact ⟨rfl, (Below.refl _ w).alloc (Nat.le_refl _) _⟩
set_option maxRecDepth 100000 in
set_option maxHeartbeats 1600000 in
theorem refMay_yes {z r n m : Int} (h0 : 1 ≤ m) (h9 : m ≤ 64) (h1 : 2048 ≤ n) (h2 : n ≤ 66560) (hz : (z != n) = false) (hm : slabsN n = m) (w : World) :
    Calls Tryd.prog 10 #[supV z r, .int .i64 n] w fun e w' => e = .returned (.bool (decide (r ∈ rootsL m))) ∧ Below w.heap.size w w' := by
  have H := Lib.hid fun w => refSlabs_any n w
  rw [hm] at H
  have hL : rootsL m = upR (5 * m.toNat) := by unfold rootsL rootsN; rw [if_pos ⟨h0, h9⟩]
  rw [hL]
  obtain ⟨b, hb⟩ : ∃ b, b = decide (r ∈ upR (5 * m.toNat)) := ⟨_, rfl⟩
  rw [← hb]
  have HD := Lib.hid hb
  have ht : (m == 0) = false := by simp; omega
  clear hm hL hb
  go_enter Tryd.func10, Tryd.ntmps10
  go_wp2_with fail
  refine (H.out _).mono ?_
  rintro e w1 ⟨rfl, rfl⟩
  go_wp2
  obtain ⟨WL, hWL⟩ : ∃ WL, WL = w.alloc (.cells #[.int .u64 z, .int .u64 r] 25) := ⟨_, rfl⟩
  rw [← hWL]
  have R0 := Lib.hid (heap_eq hWL (heap_new _ _ rfl))
  have HB := Lib.hid (show Below w.heap.size w WL by rw [hWL]; exact (Below.refl _ w).alloc (Nat.le_refl _) _)
  clear hWL
  go_loopw [6] (fun a wr => ∃ i : Nat, a = .int .i64 i ∧ 1 ≤ i ∧ (i : Int) ≤ m + 1 ∧ Gr WL wr ∧ ∀ k, k < 5 * (i - 1) → rootAt k ≠ r) (fun a _ => m.toNat + 1 - (intOf a).toNat)
  case atStart => exact ⟨1, rfl, by omega, by omega, Gr.refl _, fun j hj => by omega⟩
  case round =>
    obtain ⟨i, rfl, hi, him, hg, heq⟩ := hrel
    have HE := Lib.hid heq
    have HG := Lib.hid hg
    clear heq hg
    by_cases hlt : (i : Int) ≤ m
    · go_wp2
      go_loopw [7] (fun a wr => ∃ j : Nat, a = .int .i64 j ∧ j ≤ 5 ∧ Gr WL wr ∧ ∀ k, k < 5 * (i - 1) + j → rootAt k ≠ r) (fun a _ => 5 - (intOf a).toNat)
      case atStart => exact ⟨0, rfl, by omega, HG.out, fun j hj => HE.out j (by omega)⟩
      case round =>
        rename World => w2
        obtain ⟨j, rfl, hj, hg2, heq2⟩ := hrel
        have HE2 := Lib.hid heq2
        have HG2 := Lib.hid hg2
        clear heq2 hg2
        by_cases hj5 : j < 5
        · have hbk : blkA (i : Int) 3 (j : Int) = rootAt (5 * (i - 1) + j) := by
            unfold rootAt
            rw [show (5 * (i - 1) + j) / 5 = i - 1 by omega, show (5 * (i - 1) + j) % 5 = j by omega, show (((i - 1 : Nat) : Int) + 1) = i by omega]
          obtain ⟨x, hx⟩ : ∃ x, x = rootAt (5 * (i - 1) + j) := ⟨_, rfl⟩
          rw [← hx] at hbk
          have HX := Lib.hid hx
          have HBK := Lib.hid fun (w : World) => refBlock_any (i : Int) 3 (j : Int) w
          rw [hbk] at HBK
          clear hx hbk
          have ca := cell_of_row w2 _ 0 _ 25 (0, 0) (HG2.out.heap R0.out)
          have cb := cell_of_row w2 _ 1 _ 25 (0, 0) (HG2.out.heap R0.out)
          simp only [List.getElem?_toArray, List.getElem?_cons_succ, List.getElem?_cons_zero] at ca cb
          obtain hxr | hxr : (x == r) = true ∨ (x == r) = false := by cases (x == r) <;> simp
          · have HXR := Lib.hid hxr
            go_wp2
            go_quiet ((go_at_call 18; exact Calls.quiet_of_same (Calls.swap (HBK.out _))))
            go_wp2
            go_ret
            have hin : b = true := by
              rw [HD.out]
              refine decide_eq_true ?_
              rw [← beq_iff_eq.1 HXR.out, HX.out]
              exact List.mem_map.2 ⟨_, List.mem_range.2 (by omega), rfl⟩
            exact ⟨by rw [hin]; rfl, HB.out.trans ((HG2.out.drewN _).below HB.out.size)⟩
          · have HXR := Lib.hid hxr
            go_wp2
            go_quiet ((go_at_call 18; exact Calls.quiet_of_same (Calls.swap (HBK.out _))))
            go_wp2
            refine ⟨⟨j + 1, by go_num, by omega, HG2.out.drewN _, fun k hk => ?_⟩, by simp [intOf]; omega⟩
            by_cases e : k = 5 * (i - 1) + j
            · rw [e, ← HX.out]
              exact fun h => by simp [h] at hxr
            · exact HE2.out k (by omega)
        · obtain rfl : j = 5 := by omega
          go_wp2
          exact ⟨⟨i + 1, by go_num, by omega, by omega, HG2.out, fun k hk => HE2.out k (by omega)⟩, by simp [intOf]; omega⟩
    · have he : (i : Int) = m + 1 := by omega
      go_wp2
      go_ret
      have hin : b = false := by
        rw [HD.out]
        refine decide_eq_false (fun hm => ?_)
        obtain ⟨k, hk, hr⟩ := List.mem_map.1 hm
        exact HE.out k (by have := List.mem_range.1 hk; omega) hr
      exact ⟨by rw [hin]; rfl, HB.out.trans (HG.out.below HB.out.size)⟩
theorem refMay_any {z r n : Int} (w : World) :
    Calls Tryd.prog 10 #[supV z r, .int .i64 n] w fun e w' => e = .returned (.bool (mayB z r n)) ∧ Below w.heap.size w w' := by
  unfold mayB
  by_cases h : 2048 ≤ n ∧ n ≤ 66560 ∧ n % 1024 = 0
  · have hs : slabsN n = n / 1024 - 1 := if_pos h
    by_cases hz : z = n
    · have := refMay_yes (z := z) (r := r) (by omega) (by omega) h.1 h.2.1 (by simp [hz]) hs w
      rwa [show decide ((2048 ≤ n ∧ n ≤ 66560 ∧ n % 1024 = 0) ∧ z = n ∧ r ∈ rootsL (n / 1024 - 1)) = decide (r ∈ rootsL (n / 1024 - 1)) from decide_eq_decide.2 ⟨fun a => a.2.2, fun a => ⟨h, hz, a⟩⟩]
    · rw [decide_eq_false (fun a => hz a.2.1)]
      exact refMay_no (.inr ⟨by simp; omega, h.1, h.2.1, by simpa using hz⟩) hs w
  · rw [decide_eq_false (fun a => h a.1)]
    exact refMay_no (.inl (by simp)) (if_neg h) w
end Go.Proofs.YtlpampbdnbjphaaDoor
