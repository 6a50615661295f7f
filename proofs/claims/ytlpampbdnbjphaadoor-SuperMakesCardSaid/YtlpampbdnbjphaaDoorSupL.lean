/- The laws SuperMay and SuperWords, SuperReads, SuperBits answer true, for any inputs, where geo.rooms holds what its initialiser lays. -/
import Derived.Test.YtlpampbdnbjphaaDoorSupK
namespace Go.Proofs.YtlpampbdnbjphaaDoor
open Go.RowKit Go.Sort Go.Shelf
set_option linter.unusedVariables false

theorem Rms.of_low {w : World} (h : Rms w) (p : LowBy w) : Rms p.W := h.keeps p.low h.lt
set_option maxHeartbeats 1600000 in
theorem lawMay_walk {z r n : Int} (hn : -9223372036854775808 ≤ n) (hb : n ≤ 9223372036854775807) (w : World) (R : Rms w) :
    Calls Tryd.prog 4 #[supV z r, .int .i64 n] w fun e w' => e = .returned (.bool true) ∧ Below w.heap.size w w' := by
  have mixed : Tryd.prog.follows .mixedOrders = true := by kernel_rfl
  have HR := Lib.hid R
  obtain ⟨b, hbb⟩ : ∃ b, b = mayB z r n := ⟨_, rfl⟩
  have H1 := fun (W : World) (R : Rms W) (p : LowBy W) => Calls.low_of (may_any (z := z) (r := r) hn hb p.W (R.of_low p))
  have H2 := fun (W : World) (p : LowBy W) => Calls.low_of (refMay_any (z := z) (r := r) (n := n) p.W)
  have H3 := fun (W : World) (R : Rms W) (p : LowBy W) => Calls.low_of (known4_any p.W (R.of_low p))
  rw [← hbb] at H1 H2
  have H1 := Lib.hid H1
  have H2 := Lib.hid H2
  have H3 := Lib.hid H3
  clear R hbb
  go_enter Tryd.func4, Tryd.ntmps4
  go_wp2_with fail
  obtain ⟨W0, hW0⟩ : ∃ W0, W0 = w.alloc (.cells #[.int .u64 z, .int .u64 r] 25) := ⟨_, rfl⟩
  rw [← hW0]
  have r0 := heap_eq hW0 (heap_new _ _ rfl)
  have R0 := Lib.hid (show Rms W0 by rw [hW0]; exact HR.out.alloc _)
  have HB := Lib.hid (show Below w.heap.size w W0 by rw [hW0]; exact (Below.refl _ w).alloc (Nat.le_refl _) _)
  have ca := fun p : LowBy W0 => cell_of_row p.W _ 0 _ 25 (0, 0) (LowBy.heap r0 p)
  have cb := fun p : LowBy W0 => cell_of_row p.W _ 1 _ 25 (0, 0) (LowBy.heap r0 p)
  simp only [List.getElem?_toArray, List.getElem?_cons_succ, List.getElem?_cons_zero] at ca cb
  clear hW0 r0
  refine wp_region_quiet_low (by assumption) (by kernel_rfl) ?_
  repeat (go_big_quiet_step (first | (go_at_call 12; with_reducible exact H1.out _ R0.out _) | (go_at_call 10; with_reducible exact H2.out _ _) | (go_at_call 11; with_reducible exact H3.out _ R0.out _)))
  refine wpQuiet_nil ?_
  intro _ hw'
  obtain ⟨p, hw''⟩ := hw'
  subst hw''
  have hp := Lib.hid p.low
  go_wp2
  go_ret
  exact ⟨rfl, HB.out.trans (hp.out.mono HB.out.size)⟩
set_option maxRecDepth 100000 in
set_option maxHeartbeats 1600000 in
theorem lawWords_walk {z r : Int} (h0 : 0 ≤ z) (h1 : z < 18446744073709551616) (w : World) (R : Rms w) :
    Calls Tryd.prog 5 #[supV z r] w fun e w' => e = .returned (.bool true) ∧ Below w.heap.size w w' := by
  have mixed : Tryd.prog.follows .mixedOrders = true := by kernel_rfl
  have HR := Lib.hid R
  have HM := Lib.hid R.lt
  have HW := Lib.hid fun w => words_any (r := r) h0 h1 w
  have HO := Lib.hid fun w => of_yes (x2 := r) h0 h1 w
  have H1 := Lib.hid fun (W : World) (p : LowBy W) => Calls.low_of (refWords_any (r := r) h0 h1 p.W)
  have H3 := Lib.hid fun (W : World) (R : Rms W) (p : LowBy W) => Calls.low_of (known4_any p.W (R.of_low p))
  have hq := eq8v
  clear R
  go_enter Tryd.func5, Tryd.ntmps5
  go_wp2_with fail
  refine (HW.out _).mono ?_
  rintro e w1 ⟨rfl, hb⟩
  have B1 := Lib.hid (((Below.refl _ w).alloc (Nat.le_refl _) _).trans (hb.mono (by simp)))
  have r0 := Lib.hid ((hb.block w.heap.size (by simp)).trans (heap_new _ _ rfl))
  clear hb
  go_wp2_with fail
  refine (HO.out _).mono ?_
  rintro e w2 ⟨rfl, hb⟩
  have B2 := Lib.hid ((B1.out.alloc B1.out.size _).trans (hb.mono (by have := B1.out.size; simp; omega)))
  have l1 : w.heap.size < w1.heap.size := heap_lt r0.out
  have r1 := Lib.hid ((hb.block w1.heap.size (by simp)).trans (heap_new _ _ rfl))
  have r0 := Lib.hid ((hb.block w.heap.size (by simp; omega)).trans (heap_old _ r0.out))
  clear hb
  go_wp2_with fail
  obtain ⟨W0, hW0⟩ : ∃ W0, W0 = w2.alloc (.cells #[.int .u64 z, .int .u64 r] 25) := ⟨_, rfl⟩
  rw [← hW0]
  have r2 := heap_eq hW0 (heap_new _ _ rfl)
  have r0 := heap_eq hW0 (heap_old _ r0.out)
  have r1 := heap_eq hW0 (heap_old _ r1.out)
  have B3 := Lib.hid (show Below w.heap.size w W0 by rw [hW0]; exact B2.out.alloc B2.out.size _)
  have R0 := Lib.hid (HR.out.keeps B3.out HM.out)
  have ca := fun p : LowBy W0 => cell_of_row p.W _ 0 _ 25 (0, 0) (LowBy.heap r0 p)
  have cb := fun p : LowBy W0 => cell_of_row p.W _ 1 _ 25 (0, 0) (LowBy.heap r0 p)
  have cc := fun p : LowBy W0 => cell_of_row p.W _ 0 _ 25 (0, 0) (LowBy.heap r2 p)
  have cd := fun p : LowBy W0 => cell_of_row p.W _ 1 _ 25 (0, 0) (LowBy.heap r2 p)
  simp only [List.getElem?_toArray, List.getElem?_cons_succ, List.getElem?_cons_zero] at ca cb cc cd
  have k0 := fun p : LowBy W0 => (cells8 (LowBy.heap r1 p)).1
  have k1 := fun p : LowBy W0 => (cells8 (LowBy.heap r1 p)).2.1
  have k2 := fun p : LowBy W0 => (cells8 (LowBy.heap r1 p)).2.2.1
  have k3 := fun p : LowBy W0 => (cells8 (LowBy.heap r1 p)).2.2.2.1
  have k4 := fun p : LowBy W0 => (cells8 (LowBy.heap r1 p)).2.2.2.2.1
  have k5 := fun p : LowBy W0 => (cells8 (LowBy.heap r1 p)).2.2.2.2.2.1
  have k6 := fun p : LowBy W0 => (cells8 (LowBy.heap r1 p)).2.2.2.2.2.2.1
  have k7 := fun p : LowBy W0 => (cells8 (LowBy.heap r1 p)).2.2.2.2.2.2.2
  clear hW0 r0 r1 r2
  refine wp_region_quiet_low (by assumption) (by kernel_rfl) ?_
  repeat (go_big_quiet_step (first | (go_at_call 15; with_reducible exact H1.out _ _) | (go_at_call 11; with_reducible exact H3.out _ R0.out _)))
  refine wpQuiet_nil ?_
  intro _ hw'
  obtain ⟨p, hw''⟩ := hw'
  subst hw''
  have hp := Lib.hid p.low
  go_wp2
  go_ret
  exact ⟨rfl, B3.out.trans (hp.out.mono B3.out.size)⟩
set_option maxRecDepth 100000 in
set_option maxHeartbeats 1600000 in
theorem lawReads_walk {x0 x1 x2 x3 x4 x5 x6 x7 z r ec : Int} (w : World) (R : Rms w)
    (H1 : Hid (∀ w, Calls Tryd.prog 14 #[w8V x0 x1 x2 x3 x4 x5 x6 x7] w fun e w' => e = .returned (.tuple #[supV z r, .int .i64 ec]) ∧ Below w.heap.size w w'))
    (H2 : Hid (∀ w, Calls Tryd.prog 16 #[w8V x0 x1 x2 x3 x4 x5 x6 x7] w fun e w' => e = .returned (.tuple #[supV z r, .int .i64 ec]) ∧ Below w.heap.size w w')) :
    Calls Tryd.prog 6 #[w8V x0 x1 x2 x3 x4 x5 x6 x7] w fun e w' => e = .returned (.bool true) ∧ Below w.heap.size w w' := by
  have HR := Lib.hid R
  have HM := Lib.hid R.lt
  clear R
  go_enter Tryd.func6, Tryd.ntmps6
  go_wp2_with fail
  refine (H1.out _).mono ?_
  rintro e w1 ⟨rfl, hb⟩
  have B1 := Lib.hid (((Below.refl _ w).alloc (Nat.le_refl _) _).trans (hb.mono (by simp)))
  have r0 := Lib.hid ((hb.block w.heap.size (by simp)).trans (heap_new _ _ rfl))
  have l1 : w.heap.size < w1.heap.size := heap_lt r0.out
  obtain ⟨k0, k1, k2, k3, k4, k5, k6, k7⟩ := cells8 r0.out
  clear hb
  go_wp2_with fail
  refine (H2.out _).mono ?_
  rintro e w2 ⟨rfl, hb⟩
  have B2 := Lib.hid ((B1.out.alloc B1.out.size _).trans (hb.mono (by have := B1.out.size; simp; omega)))
  have r1 := (hb.block w1.heap.size (by simp)).trans (heap_new _ _ rfl)
  have l2 : w1.heap.size < w2.heap.size := heap_lt r1
  have ca := cell_of_row w2 _ 0 _ 25 (0, 0) r1
  have cb := cell_of_row w2 _ 1 _ 25 (0, 0) r1
  simp only [List.getElem?_toArray, List.getElem?_cons_succ, List.getElem?_cons_zero] at ca cb
  have R2 := Lib.hid (HR.out.keeps B2.out HM.out)
  clear hb r1 k0 k1 k2 k3 k4 k5 k6 k7
  go_wp2_with fail
  refine (known4_any _ (R2.out.alloc _)).mono ?_
  rintro e w3 ⟨rfl, hb⟩
  have B3 := Lib.hid ((B2.out.alloc B2.out.size _).trans (hb.mono (by have := B2.out.size; simp; omega)))
  clear hb
  go_wp2
  go_ret
  exact ⟨rfl, B3.out⟩
theorem lawReads_any {x0 x1 x2 x3 x4 x5 x6 x7 : Int} (h0 : 0 ≤ x1) (h1 : x1 < 18446744073709551616) (h2 : 0 ≤ x3) (h3 : x3 < 18446744073709551616) (w : World) (R : Rms w) :
    Calls Tryd.prog 6 #[w8V x0 x1 x2 x3 x4 x5 x6 x7] w fun e w' => e = .returned (.bool true) ∧ Below w.heap.size w w' := by
  by_cases h : x0 = 5929342154728227142 ∧ x3 = 18446744073709551615 - x1 ∧ x4 = 0 ∧ x5 = 0 ∧ x6 = 0 ∧ x7 = 0
  · obtain ⟨rfl, rfl, rfl, rfl, rfl, rfl⟩ := h
    exact lawReads_walk w R (Lib.hid fun w => of_yes h0 h1 w) (Lib.hid fun w => refOf_yes h0 h1 w)
  · exact lawReads_walk w R (Lib.hid fun w => of_no h0 h1 h w) (Lib.hid fun w => refOf_no h2 h3 (fun ⟨a, b, c⟩ => h ⟨a, by omega, c⟩) w)
theorem xor_other {x y : Int} (h0 : 0 ≤ x) (h1 : x < 18446744073709551616) (h2 : 1 ≤ y) (h3 : y < 18446744073709551616) : 0 ≤ bits BinOp.xor IntKind.u64 x y ∧ bits BinOp.xor IntKind.u64 x y < 18446744073709551616 ∧ bits BinOp.xor IntKind.u64 x y ≠ x := by
  rw [u64_xor x y h0 h1 (by omega) h3]
  have hx : x.toNat ^^^ y.toNat < 2 ^ 64 := Nat.xor_lt_two_pow (by omega) (by omega)
  refine ⟨by omega, by omega, fun h => ?_⟩
  have e : x.toNat ^^^ y.toNat = x.toNat := by omega
  have e2 := congrArg (fun n => x.toNat ^^^ n) e
  simp only [← Nat.xor_assoc, Nat.xor_self, Nat.zero_xor] at e2
  omega
theorem shift_one (b : Int) : ∃ y : Int, 1 ≤ y ∧ y < 18446744073709551616 ∧ Op.shift .shl .u64 1 .u64 ((IntKind.u64.wrap b).tmod 64) = pure (.int .u64 y) := by
  have hw : 0 ≤ IntKind.u64.wrap b := by rw [IntKind.wrap_u64]; omega
  have h1 : 0 ≤ (IntKind.u64.wrap b).tmod 64 := Int.tmod_nonneg _ hw
  have h2 : (IntKind.u64.wrap b).tmod 64 < 64 := Int.tmod_lt_of_pos _ (by decide)
  generalize (IntKind.u64.wrap b).tmod 64 = s at h1 h2
  have hp : (2 : Nat) ^ s.toNat < 2 ^ 64 := Nat.pow_lt_pow_right (by decide) (by omega)
  have hq : 1 ≤ (2 : Nat) ^ s.toNat := Nat.one_le_two_pow
  have e : (2 : Int) ^ s.toNat = ((2 ^ s.toNat : Nat) : Int) := by simp
  refine ⟨2 ^ s.toNat, by omega, by omega, ?_⟩
  rw [shift_shl .u64 .u64 1 s h1 (by show s ≤ 64; omega), IntKind.wrap_u64, Int.one_mul]
  congr 2
  omega
theorem mod8 (k : Int) : (IntKind.u64.wrap k).tmod 8 = 0 ∨ (IntKind.u64.wrap k).tmod 8 = 1 ∨ (IntKind.u64.wrap k).tmod 8 = 2 ∨ (IntKind.u64.wrap k).tmod 8 = 3 ∨ (IntKind.u64.wrap k).tmod 8 = 4 ∨ (IntKind.u64.wrap k).tmod 8 = 5 ∨ (IntKind.u64.wrap k).tmod 8 = 6 ∨ (IntKind.u64.wrap k).tmod 8 = 7 := by
  have hw : 0 ≤ IntKind.u64.wrap k := by rw [IntKind.wrap_u64]; omega
  have h1 : 0 ≤ (IntKind.u64.wrap k).tmod 8 := Int.tmod_nonneg _ hw
  have h2 : (IntKind.u64.wrap k).tmod 8 < 8 := Int.tmod_lt_of_pos _ (by decide)
  omega
set_option maxRecDepth 100000 in
set_option maxHeartbeats 1600000 in
theorem lawBits_0 {z r k b : Int} (h0 : 0 ≤ z) (h1 : z < 18446744073709551616) (hr0 : 0 ≤ r) (hr1 : r < 18446744073709551616) (hk : (IntKind.u64.wrap k).tmod 8 = 0) (w : World) (R : Rms w) :
    Calls Tryd.prog 7 #[supV z r, .int .i64 k, .int .i64 b] w fun e w' => e = .returned (.bool true) ∧ Below w.heap.size w w' := by
  have HR := Lib.hid R
  have HM := Lib.hid R.lt
  have HW := Lib.hid fun w => refWords_any (r := r) h0 h1 w
  obtain ⟨y, hy0, hy1, hsh⟩ := shift_one b
  clear R
  have hx := xor_other (x := 5929342154728227142) (by omega) (by omega) hy0 hy1
  generalize hX : bits BinOp.xor IntKind.u64 5929342154728227142 y = X at hx
  have HO := Lib.hid fun w => of_no (x0 := X) (x1 := z) (x2 := r) (x3 := (18446744073709551615 - z)) (x4 := 0) (x5 := 0) (x6 := 0) (x7 := 0) h0 h1 (fun h => hx.2.2 (by omega)) w
  clear hx
  go_enter Tryd.func7, Tryd.ntmps7
  go_wp2_with fail
  refine (HW.out _).mono ?_
  rintro e w1 ⟨rfl, hbb⟩
  have B1 := Lib.hid (((Below.refl _ w).alloc (Nat.le_refl _) _).trans (hbb.mono (by simp)))
  have r0 := Lib.hid ((hbb.block w.heap.size (by simp)).trans (heap_new _ _ rfl))
  have l1 : w.heap.size < w1.heap.size := heap_lt r0.out
  clear hbb
  go_wp2_with fail
  refine (HO.out _).mono ?_
  rintro e w2 ⟨rfl, hb⟩
  have B2 := Lib.hid ((B1.out.alloc B1.out.size _).trans (hb.mono (by have := B1.out.size; simp; omega)))
  have r0 := (hb.block w.heap.size (by simp; omega)).trans (heap_old _ r0.out)
  have l2 : w.heap.size < w2.heap.size := heap_lt r0
  have ca := cell_of_row w2 _ 0 _ 25 (0, 0) r0
  have cb := cell_of_row w2 _ 1 _ 25 (0, 0) r0
  simp only [List.getElem?_toArray, List.getElem?_cons_succ, List.getElem?_cons_zero] at ca cb
  have R2 := Lib.hid (HR.out.keeps B2.out HM.out)
  clear hb r0
  go_wp2_with fail
  refine (known4_any _ (R2.out.alloc _)).mono ?_
  rintro e w3 ⟨rfl, hb⟩
  have B3 := Lib.hid ((B2.out.alloc B2.out.size _).trans (hb.mono (by have := B2.out.size; simp; omega)))
  clear hb
  go_wp2
  go_ret
  exact ⟨rfl, B3.out⟩
set_option maxRecDepth 100000 in
set_option maxHeartbeats 1600000 in
theorem lawBits_1 {z r k b : Int} (h0 : 0 ≤ z) (h1 : z < 18446744073709551616) (hr0 : 0 ≤ r) (hr1 : r < 18446744073709551616) (hk : (IntKind.u64.wrap k).tmod 8 = 1) (w : World) (R : Rms w) :
    Calls Tryd.prog 7 #[supV z r, .int .i64 k, .int .i64 b] w fun e w' => e = .returned (.bool true) ∧ Below w.heap.size w w' := by
  have HR := Lib.hid R
  have HM := Lib.hid R.lt
  have HW := Lib.hid fun w => refWords_any (r := r) h0 h1 w
  obtain ⟨y, hy0, hy1, hsh⟩ := shift_one b
  clear R
  have hx := xor_other (x := z) (by omega) (by omega) hy0 hy1
  generalize hX : bits BinOp.xor IntKind.u64 z y = X at hx
  have HO := Lib.hid fun w => of_no (x0 := 5929342154728227142) (x1 := X) (x2 := r) (x3 := 18446744073709551615 - z) (x4 := 0) (x5 := 0) (x6 := 0) (x7 := 0) hx.1 hx.2.1 (fun h => hx.2.2 (by omega)) w
  clear hx
  go_enter Tryd.func7, Tryd.ntmps7
  go_wp2_with fail
  refine (HW.out _).mono ?_
  rintro e w1 ⟨rfl, hbb⟩
  have B1 := Lib.hid (((Below.refl _ w).alloc (Nat.le_refl _) _).trans (hbb.mono (by simp)))
  have r0 := Lib.hid ((hbb.block w.heap.size (by simp)).trans (heap_new _ _ rfl))
  have l1 : w.heap.size < w1.heap.size := heap_lt r0.out
  clear hbb
  go_wp2_with fail
  refine (HO.out _).mono ?_
  rintro e w2 ⟨rfl, hb⟩
  have B2 := Lib.hid ((B1.out.alloc B1.out.size _).trans (hb.mono (by have := B1.out.size; simp; omega)))
  have r0 := (hb.block w.heap.size (by simp; omega)).trans (heap_old _ r0.out)
  have l2 : w.heap.size < w2.heap.size := heap_lt r0
  have ca := cell_of_row w2 _ 0 _ 25 (0, 0) r0
  have cb := cell_of_row w2 _ 1 _ 25 (0, 0) r0
  simp only [List.getElem?_toArray, List.getElem?_cons_succ, List.getElem?_cons_zero] at ca cb
  have R2 := Lib.hid (HR.out.keeps B2.out HM.out)
  clear hb r0
  go_wp2_with fail
  refine (known4_any _ (R2.out.alloc _)).mono ?_
  rintro e w3 ⟨rfl, hb⟩
  have B3 := Lib.hid ((B2.out.alloc B2.out.size _).trans (hb.mono (by have := B2.out.size; simp; omega)))
  clear hb
  go_wp2
  go_ret
  exact ⟨rfl, B3.out⟩
set_option maxRecDepth 100000 in
set_option maxHeartbeats 1600000 in
theorem lawBits_2 {z r k b : Int} (h0 : 0 ≤ z) (h1 : z < 18446744073709551616) (hr0 : 0 ≤ r) (hr1 : r < 18446744073709551616) (hk : (IntKind.u64.wrap k).tmod 8 = 2) (w : World) (R : Rms w) :
    Calls Tryd.prog 7 #[supV z r, .int .i64 k, .int .i64 b] w fun e w' => e = .returned (.bool true) ∧ Below w.heap.size w w' := by
  have HR := Lib.hid R
  have HM := Lib.hid R.lt
  have HW := Lib.hid fun w => refWords_any (r := r) h0 h1 w
  obtain ⟨y, hy0, hy1, hsh⟩ := shift_one b
  clear R
  have hx := xor_other (x := r) (by omega) (by omega) hy0 hy1
  generalize hX : bits BinOp.xor IntKind.u64 r y = X at hx
  have HO := Lib.hid fun w => of_yes (x2 := X) h0 h1 w
  have hne : (X != r) = true := by simpa using hx.2.2
  clear hx
  go_enter Tryd.func7, Tryd.ntmps7
  go_wp2_with fail
  refine (HW.out _).mono ?_
  rintro e w1 ⟨rfl, hbb⟩
  have B1 := Lib.hid (((Below.refl _ w).alloc (Nat.le_refl _) _).trans (hbb.mono (by simp)))
  have r0 := Lib.hid ((hbb.block w.heap.size (by simp)).trans (heap_new _ _ rfl))
  have l1 : w.heap.size < w1.heap.size := heap_lt r0.out
  clear hbb
  go_wp2_with fail
  refine (HO.out _).mono ?_
  rintro e w2 ⟨rfl, hb⟩
  have B2 := Lib.hid ((B1.out.alloc B1.out.size _).trans (hb.mono (by have := B1.out.size; simp; omega)))
  have r0 := (hb.block w.heap.size (by simp; omega)).trans (heap_old _ r0.out)
  have l2 : w.heap.size < w2.heap.size := heap_lt r0
  have ca := cell_of_row w2 _ 0 _ 25 (0, 0) r0
  have cb := cell_of_row w2 _ 1 _ 25 (0, 0) r0
  simp only [List.getElem?_toArray, List.getElem?_cons_succ, List.getElem?_cons_zero] at ca cb
  have R2 := Lib.hid (HR.out.keeps B2.out HM.out)
  clear hb r0
  go_wp2_with fail
  refine (known4_any _ (R2.out.alloc _)).mono ?_
  rintro e w3 ⟨rfl, hb⟩
  have B3 := Lib.hid ((B2.out.alloc B2.out.size _).trans (hb.mono (by have := B2.out.size; simp; omega)))
  clear hb
  go_wp2
  go_ret
  exact ⟨rfl, B3.out⟩
set_option maxRecDepth 100000 in
set_option maxHeartbeats 1600000 in
theorem lawBits_3 {z r k b : Int} (h0 : 0 ≤ z) (h1 : z < 18446744073709551616) (hr0 : 0 ≤ r) (hr1 : r < 18446744073709551616) (hk : (IntKind.u64.wrap k).tmod 8 = 3) (w : World) (R : Rms w) :
    Calls Tryd.prog 7 #[supV z r, .int .i64 k, .int .i64 b] w fun e w' => e = .returned (.bool true) ∧ Below w.heap.size w w' := by
  have HR := Lib.hid R
  have HM := Lib.hid R.lt
  have HW := Lib.hid fun w => refWords_any (r := r) h0 h1 w
  obtain ⟨y, hy0, hy1, hsh⟩ := shift_one b
  clear R
  have hx := xor_other (x := (18446744073709551615 - z)) (by omega) (by omega) hy0 hy1
  generalize hX : bits BinOp.xor IntKind.u64 (18446744073709551615 - z) y = X at hx
  have HO := Lib.hid fun w => of_no (x0 := 5929342154728227142) (x1 := z) (x2 := r) (x3 := X) (x4 := 0) (x5 := 0) (x6 := 0) (x7 := 0) h0 h1 (fun h => hx.2.2 (by omega)) w
  clear hx
  go_enter Tryd.func7, Tryd.ntmps7
  go_wp2_with fail
  refine (HW.out _).mono ?_
  rintro e w1 ⟨rfl, hbb⟩
  have B1 := Lib.hid (((Below.refl _ w).alloc (Nat.le_refl _) _).trans (hbb.mono (by simp)))
  have r0 := Lib.hid ((hbb.block w.heap.size (by simp)).trans (heap_new _ _ rfl))
  have l1 : w.heap.size < w1.heap.size := heap_lt r0.out
  clear hbb
  go_wp2_with fail
  refine (HO.out _).mono ?_
  rintro e w2 ⟨rfl, hb⟩
  have B2 := Lib.hid ((B1.out.alloc B1.out.size _).trans (hb.mono (by have := B1.out.size; simp; omega)))
  have r0 := (hb.block w.heap.size (by simp; omega)).trans (heap_old _ r0.out)
  have l2 : w.heap.size < w2.heap.size := heap_lt r0
  have ca := cell_of_row w2 _ 0 _ 25 (0, 0) r0
  have cb := cell_of_row w2 _ 1 _ 25 (0, 0) r0
  simp only [List.getElem?_toArray, List.getElem?_cons_succ, List.getElem?_cons_zero] at ca cb
  have R2 := Lib.hid (HR.out.keeps B2.out HM.out)
  clear hb r0
  go_wp2_with fail
  refine (known4_any _ (R2.out.alloc _)).mono ?_
  rintro e w3 ⟨rfl, hb⟩
  have B3 := Lib.hid ((B2.out.alloc B2.out.size _).trans (hb.mono (by have := B2.out.size; simp; omega)))
  clear hb
  go_wp2
  go_ret
  exact ⟨rfl, B3.out⟩
set_option maxRecDepth 100000 in
set_option maxHeartbeats 1600000 in
theorem lawBits_4 {z r k b : Int} (h0 : 0 ≤ z) (h1 : z < 18446744073709551616) (hr0 : 0 ≤ r) (hr1 : r < 18446744073709551616) (hk : (IntKind.u64.wrap k).tmod 8 = 4) (w : World) (R : Rms w) :
    Calls Tryd.prog 7 #[supV z r, .int .i64 k, .int .i64 b] w fun e w' => e = .returned (.bool true) ∧ Below w.heap.size w w' := by
  have HR := Lib.hid R
  have HM := Lib.hid R.lt
  have HW := Lib.hid fun w => refWords_any (r := r) h0 h1 w
  obtain ⟨y, hy0, hy1, hsh⟩ := shift_one b
  clear R
  have hx := xor_other (x := 0) (by omega) (by omega) hy0 hy1
  generalize hX : bits BinOp.xor IntKind.u64 0 y = X at hx
  have HO := Lib.hid fun w => of_no (x0 := 5929342154728227142) (x1 := z) (x2 := r) (x3 := (18446744073709551615 - z)) (x4 := X) (x5 := 0) (x6 := 0) (x7 := 0) h0 h1 (fun h => hx.2.2 (by omega)) w
  clear hx
  go_enter Tryd.func7, Tryd.ntmps7
  go_wp2_with fail
  refine (HW.out _).mono ?_
  rintro e w1 ⟨rfl, hbb⟩
  have B1 := Lib.hid (((Below.refl _ w).alloc (Nat.le_refl _) _).trans (hbb.mono (by simp)))
  have r0 := Lib.hid ((hbb.block w.heap.size (by simp)).trans (heap_new _ _ rfl))
  have l1 : w.heap.size < w1.heap.size := heap_lt r0.out
  clear hbb
  go_wp2_with fail
  refine (HO.out _).mono ?_
  rintro e w2 ⟨rfl, hb⟩
  have B2 := Lib.hid ((B1.out.alloc B1.out.size _).trans (hb.mono (by have := B1.out.size; simp; omega)))
  have r0 := (hb.block w.heap.size (by simp; omega)).trans (heap_old _ r0.out)
  have l2 : w.heap.size < w2.heap.size := heap_lt r0
  have ca := cell_of_row w2 _ 0 _ 25 (0, 0) r0
  have cb := cell_of_row w2 _ 1 _ 25 (0, 0) r0
  simp only [List.getElem?_toArray, List.getElem?_cons_succ, List.getElem?_cons_zero] at ca cb
  have R2 := Lib.hid (HR.out.keeps B2.out HM.out)
  clear hb r0
  go_wp2_with fail
  refine (known4_any _ (R2.out.alloc _)).mono ?_
  rintro e w3 ⟨rfl, hb⟩
  have B3 := Lib.hid ((B2.out.alloc B2.out.size _).trans (hb.mono (by have := B2.out.size; simp; omega)))
  clear hb
  go_wp2
  go_ret
  exact ⟨rfl, B3.out⟩
set_option maxRecDepth 100000 in
set_option maxHeartbeats 1600000 in
theorem lawBits_5 {z r k b : Int} (h0 : 0 ≤ z) (h1 : z < 18446744073709551616) (hr0 : 0 ≤ r) (hr1 : r < 18446744073709551616) (hk : (IntKind.u64.wrap k).tmod 8 = 5) (w : World) (R : Rms w) :
    Calls Tryd.prog 7 #[supV z r, .int .i64 k, .int .i64 b] w fun e w' => e = .returned (.bool true) ∧ Below w.heap.size w w' := by
  have HR := Lib.hid R
  have HM := Lib.hid R.lt
  have HW := Lib.hid fun w => refWords_any (r := r) h0 h1 w
  obtain ⟨y, hy0, hy1, hsh⟩ := shift_one b
  clear R
  have hx := xor_other (x := 0) (by omega) (by omega) hy0 hy1
  generalize hX : bits BinOp.xor IntKind.u64 0 y = X at hx
  have HO := Lib.hid fun w => of_no (x0 := 5929342154728227142) (x1 := z) (x2 := r) (x3 := (18446744073709551615 - z)) (x4 := 0) (x5 := X) (x6 := 0) (x7 := 0) h0 h1 (fun h => hx.2.2 (by omega)) w
  clear hx
  go_enter Tryd.func7, Tryd.ntmps7
  go_wp2_with fail
  refine (HW.out _).mono ?_
  rintro e w1 ⟨rfl, hbb⟩
  have B1 := Lib.hid (((Below.refl _ w).alloc (Nat.le_refl _) _).trans (hbb.mono (by simp)))
  have r0 := Lib.hid ((hbb.block w.heap.size (by simp)).trans (heap_new _ _ rfl))
  have l1 : w.heap.size < w1.heap.size := heap_lt r0.out
  clear hbb
  go_wp2_with fail
  refine (HO.out _).mono ?_
  rintro e w2 ⟨rfl, hb⟩
  have B2 := Lib.hid ((B1.out.alloc B1.out.size _).trans (hb.mono (by have := B1.out.size; simp; omega)))
  have r0 := (hb.block w.heap.size (by simp; omega)).trans (heap_old _ r0.out)
  have l2 : w.heap.size < w2.heap.size := heap_lt r0
  have ca := cell_of_row w2 _ 0 _ 25 (0, 0) r0
  have cb := cell_of_row w2 _ 1 _ 25 (0, 0) r0
  simp only [List.getElem?_toArray, List.getElem?_cons_succ, List.getElem?_cons_zero] at ca cb
  have R2 := Lib.hid (HR.out.keeps B2.out HM.out)
  clear hb r0
  go_wp2_with fail
  refine (known4_any _ (R2.out.alloc _)).mono ?_
  rintro e w3 ⟨rfl, hb⟩
  have B3 := Lib.hid ((B2.out.alloc B2.out.size _).trans (hb.mono (by have := B2.out.size; simp; omega)))
  clear hb
  go_wp2
  go_ret
  exact ⟨rfl, B3.out⟩
set_option maxRecDepth 100000 in
set_option maxHeartbeats 1600000 in
theorem lawBits_6 {z r k b : Int} (h0 : 0 ≤ z) (h1 : z < 18446744073709551616) (hr0 : 0 ≤ r) (hr1 : r < 18446744073709551616) (hk : (IntKind.u64.wrap k).tmod 8 = 6) (w : World) (R : Rms w) :
    Calls Tryd.prog 7 #[supV z r, .int .i64 k, .int .i64 b] w fun e w' => e = .returned (.bool true) ∧ Below w.heap.size w w' := by
  have HR := Lib.hid R
  have HM := Lib.hid R.lt
  have HW := Lib.hid fun w => refWords_any (r := r) h0 h1 w
  obtain ⟨y, hy0, hy1, hsh⟩ := shift_one b
  clear R
  have hx := xor_other (x := 0) (by omega) (by omega) hy0 hy1
  generalize hX : bits BinOp.xor IntKind.u64 0 y = X at hx
  have HO := Lib.hid fun w => of_no (x0 := 5929342154728227142) (x1 := z) (x2 := r) (x3 := (18446744073709551615 - z)) (x4 := 0) (x5 := 0) (x6 := X) (x7 := 0) h0 h1 (fun h => hx.2.2 (by omega)) w
  clear hx
  go_enter Tryd.func7, Tryd.ntmps7
  go_wp2_with fail
  refine (HW.out _).mono ?_
  rintro e w1 ⟨rfl, hbb⟩
  have B1 := Lib.hid (((Below.refl _ w).alloc (Nat.le_refl _) _).trans (hbb.mono (by simp)))
  have r0 := Lib.hid ((hbb.block w.heap.size (by simp)).trans (heap_new _ _ rfl))
  have l1 : w.heap.size < w1.heap.size := heap_lt r0.out
  clear hbb
  go_wp2_with fail
  refine (HO.out _).mono ?_
  rintro e w2 ⟨rfl, hb⟩
  have B2 := Lib.hid ((B1.out.alloc B1.out.size _).trans (hb.mono (by have := B1.out.size; simp; omega)))
  have r0 := (hb.block w.heap.size (by simp; omega)).trans (heap_old _ r0.out)
  have l2 : w.heap.size < w2.heap.size := heap_lt r0
  have ca := cell_of_row w2 _ 0 _ 25 (0, 0) r0
  have cb := cell_of_row w2 _ 1 _ 25 (0, 0) r0
  simp only [List.getElem?_toArray, List.getElem?_cons_succ, List.getElem?_cons_zero] at ca cb
  have R2 := Lib.hid (HR.out.keeps B2.out HM.out)
  clear hb r0
  go_wp2_with fail
  refine (known4_any _ (R2.out.alloc _)).mono ?_
  rintro e w3 ⟨rfl, hb⟩
  have B3 := Lib.hid ((B2.out.alloc B2.out.size _).trans (hb.mono (by have := B2.out.size; simp; omega)))
  clear hb
  go_wp2
  go_ret
  exact ⟨rfl, B3.out⟩
set_option maxRecDepth 100000 in
set_option maxHeartbeats 1600000 in
theorem lawBits_7 {z r k b : Int} (h0 : 0 ≤ z) (h1 : z < 18446744073709551616) (hr0 : 0 ≤ r) (hr1 : r < 18446744073709551616) (hk : (IntKind.u64.wrap k).tmod 8 = 7) (w : World) (R : Rms w) :
    Calls Tryd.prog 7 #[supV z r, .int .i64 k, .int .i64 b] w fun e w' => e = .returned (.bool true) ∧ Below w.heap.size w w' := by
  have HR := Lib.hid R
  have HM := Lib.hid R.lt
  have HW := Lib.hid fun w => refWords_any (r := r) h0 h1 w
  obtain ⟨y, hy0, hy1, hsh⟩ := shift_one b
  clear R
  have hx := xor_other (x := 0) (by omega) (by omega) hy0 hy1
  generalize hX : bits BinOp.xor IntKind.u64 0 y = X at hx
  have HO := Lib.hid fun w => of_no (x0 := 5929342154728227142) (x1 := z) (x2 := r) (x3 := (18446744073709551615 - z)) (x4 := 0) (x5 := 0) (x6 := 0) (x7 := X) h0 h1 (fun h => hx.2.2 (by omega)) w
  clear hx
  go_enter Tryd.func7, Tryd.ntmps7
  go_wp2_with fail
  refine (HW.out _).mono ?_
  rintro e w1 ⟨rfl, hbb⟩
  have B1 := Lib.hid (((Below.refl _ w).alloc (Nat.le_refl _) _).trans (hbb.mono (by simp)))
  have r0 := Lib.hid ((hbb.block w.heap.size (by simp)).trans (heap_new _ _ rfl))
  have l1 : w.heap.size < w1.heap.size := heap_lt r0.out
  clear hbb
  go_wp2_with fail
  refine (HO.out _).mono ?_
  rintro e w2 ⟨rfl, hb⟩
  have B2 := Lib.hid ((B1.out.alloc B1.out.size _).trans (hb.mono (by have := B1.out.size; simp; omega)))
  have r0 := (hb.block w.heap.size (by simp; omega)).trans (heap_old _ r0.out)
  have l2 : w.heap.size < w2.heap.size := heap_lt r0
  have ca := cell_of_row w2 _ 0 _ 25 (0, 0) r0
  have cb := cell_of_row w2 _ 1 _ 25 (0, 0) r0
  simp only [List.getElem?_toArray, List.getElem?_cons_succ, List.getElem?_cons_zero] at ca cb
  have R2 := Lib.hid (HR.out.keeps B2.out HM.out)
  clear hb r0
  go_wp2_with fail
  refine (known4_any _ (R2.out.alloc _)).mono ?_
  rintro e w3 ⟨rfl, hb⟩
  have B3 := Lib.hid ((B2.out.alloc B2.out.size _).trans (hb.mono (by have := B2.out.size; simp; omega)))
  clear hb
  go_wp2
  go_ret
  exact ⟨rfl, B3.out⟩
theorem lawBits_any {z r : Int} (h0 : 0 ≤ z) (h1 : z < 18446744073709551616) (hr0 : 0 ≤ r) (hr1 : r < 18446744073709551616) (k b : Int) (w : World) (R : Rms w) :
    Calls Tryd.prog 7 #[supV z r, .int .i64 k, .int .i64 b] w fun e w' => e = .returned (.bool true) ∧ Below w.heap.size w w' := by
  rcases mod8 k with hk | hk | hk | hk | hk | hk | hk | hk
  · exact lawBits_0 h0 h1 hr0 hr1 hk w R
  · exact lawBits_1 h0 h1 hr0 hr1 hk w R
  · exact lawBits_2 h0 h1 hr0 hr1 hk w R
  · exact lawBits_3 h0 h1 hr0 hr1 hk w R
  · exact lawBits_4 h0 h1 hr0 hr1 hk w R
  · exact lawBits_5 h0 h1 hr0 hr1 hk w R
  · exact lawBits_6 h0 h1 hr0 hr1 hk w R
  · exact lawBits_7 h0 h1 hr0 hr1 hk w R
end Go.Proofs.YtlpampbdnbjphaaDoor
