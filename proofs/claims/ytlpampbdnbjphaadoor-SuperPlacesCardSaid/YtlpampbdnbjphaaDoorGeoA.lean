/- Contracts of geo's small functions: within, isSlab, isEntry, roomOf, Bytes, Blocks, Header, Bits, Line, Key, Ptr, Field, Size, Slab; for any numbers. -/
import Derived.Test.YtlpampbdnbjphaaDoorGTab
import Derived.Test.YtlpampbdnbjphaaDoorGeoS
namespace Go.Proofs.YtlpampbdnbjphaaDoor
open Go.RowKit Go.Sort
set_option linter.unusedVariables false

theorem ret_int {k : IntKind} {a b : Int} (h : a = b) : Ending.returned (.int k a) = .returned (.int k b) := by rw [h]

theorem within_at {n lo hi : Int} {b : Bool} (hb : inB n lo hi = b) (w : World) : Calls Tryd.prog 32 #[.int .i64 n, .int .i64 lo, .int .i64 hi] w fun e w' => e = .returned (.bool b) ∧ w = w' := by
  subst hb
  by_cases h1 : lo ≤ n
  · by_cases h2 : n ≤ hi
    · rw [inB_yes ⟨h1, h2⟩]
      go_enter Tryd.func32, Tryd.ntmps32
      go_wp2
      go_ret
      exact ⟨rfl, rfl⟩
    · rw [inB_no (by omega)]
      have h2' : hi < n := by omega
      go_enter Tryd.func32, Tryd.ntmps32
      go_wp2
      go_ret
      exact ⟨rfl, rfl⟩
  · rw [inB_no (by omega)]
    have h1' : n < lo := by omega
    go_enter Tryd.func32, Tryd.ntmps32
    go_wp2
    go_ret
    exact ⟨rfl, rfl⟩
theorem isSlab_at {s : Int} {b : Bool} (hb : inB s 1 64 = b) (w : World) : Calls Tryd.prog 28 #[.int .i64 s] w fun e w' => e = .returned (.bool b) ∧ w = w' := by
  have H := Lib.hid hb
  clear hb
  go_enter Tryd.func28, Tryd.ntmps28
  go_wp2_with fail
  refine (within_at H.out _).mono ?_
  rintro e w' ⟨rfl, rfl⟩
  go_wp2
  go_ret
  exact ⟨rfl, rfl⟩
theorem rooms_cell {w : World} (R : Rms w) (i : Nat) {v : Value} (hv : roomsA[i]? = some v) : w.cell? ⟨0, i, none⟩ = some v := by
  obtain ⟨t, h⟩ := R
  rw [cell_of_row w 0 i roomsA t (0, 0) h]
  exact hv
set_option maxHeartbeats 400000 in
theorem roomOf_in {c x y z : Int} (w : World) (R : Rms w) (hc : 0 ≤ c ∧ c ≤ 3) (hx : roomsA[3 * c.toNat]? = some (.int .i64 x)) (hy : roomsA[3 * c.toNat + 1]? = some (.int .i64 y)) (hz : roomsA[3 * c.toNat + 2]? = some (.int .i64 z)) :
    Calls Tryd.prog 33 #[.int .i64 c] w fun e w' => e = .returned (.agg #[.int .i64 x, .int .i64 y, .int .i64 z]) ∧ Gr w w' := by
  have HB := Lib.hid (inB_yes hc)
  have c0 := rooms_cell R _ hx
  have c1 := rooms_cell R _ hy
  have c2 := rooms_cell R _ hz
  clear hx hy hz R
  have hcc : c = 0 ∨ c = 1 ∨ c = 2 ∨ c = 3 := by omega
  rcases hcc with rfl | rfl | rfl | rfl
  all_goals
    have n0 := w.block_lt_of_cell? _ c0
    have n1 := w.block_lt_of_cell? _ c1
    have n2 := w.block_lt_of_cell? _ c2
    simp at c0 c1 c2 n0 n1 n2
    go_enter Tryd.func33, Tryd.ntmps33
    go_wp2_with fail
    refine (within_at HB.out _).mono ?_
    rintro e w' ⟨rfl, rfl⟩
    go_wp2
    refine bodyPost_ret (v := .agg #[.int .i64 x, .int .i64 y, .int .i64 z]) (by simp [results, Tryd.results33, go_sem]) rfl ⟨rfl, (Gr.refl _).alloc _⟩
theorem roomOf_out {c : Int} (w : World) (R : Rms w) (hc : ¬ (0 ≤ c ∧ c ≤ 3)) :
    Calls Tryd.prog 33 #[.int .i64 c] w fun e w' => e = .returned (.agg #[.int .i64 0, .int .i64 0, .int .i64 (-1)]) ∧ Gr w w' := by
  have HB := Lib.hid (inB_no hc)
  have c0 : w.cell? ⟨0, 0, none⟩ = some (.int .i64 0) := rooms_cell R 0 rfl
  have c1 : w.cell? ⟨0, 1, none⟩ = some (.int .i64 0) := rooms_cell R 1 rfl
  have c2 : w.cell? ⟨0, 2, none⟩ = some (.int .i64 (-1)) := rooms_cell R 2 rfl
  clear R hc
  have n0 := w.block_lt_of_cell? _ c0
  go_enter Tryd.func33, Tryd.ntmps33
  go_wp2_with fail
  refine (within_at HB.out _).mono ?_
  rintro e w' ⟨rfl, rfl⟩
  go_wp2
  refine bodyPost_ret (v := .agg #[.int .i64 0, .int .i64 0, .int .i64 (-1)]) (by simp [results, Tryd.results33, go_sem]) rfl ⟨rfl, (Gr.refl _).alloc _⟩
theorem roomOf_any (c : Int) (w : World) (R : Rms w) : Calls Tryd.prog 33 #[.int .i64 c] w fun e w' => e = .returned (.agg #[.int .i64 (byC c), .int .i64 (blC c), .int .i64 (vaC c)]) ∧ Gr w w' := by
  by_cases hc : 0 ≤ c ∧ c ≤ 3
  · refine roomOf_in w R hc ?_ ?_ ?_
    all_goals
      have hcc : c = 0 ∨ c = 1 ∨ c = 2 ∨ c = 3 := by omega
      rcases hcc with rfl | rfl | rfl | rfl <;> rfl
  · rcases cls c with ⟨h, _⟩ | ⟨h, _⟩ | ⟨h, _⟩ | ⟨_, _, _, h1, h2, h3⟩
    · omega
    · omega
    · omega
    · rw [h1, h2, h3]
      exact roomOf_out w R hc
theorem field0 (x y z : Int) (w : World) : (Instr.field 57 (.agg #[.int .i64 x, .int .i64 y, .int .i64 z]) 0).run Tryd.prog w = .ok (.int .i64 x) w := by kernel_rfl
theorem field1 (x y z : Int) (w : World) : (Instr.field 57 (.agg #[.int .i64 x, .int .i64 y, .int .i64 z]) 1).run Tryd.prog w = .ok (.int .i64 y) w := by kernel_rfl
theorem blocks_any (c : Int) (w : World) (R : Rms w) : Calls Tryd.prog 30 #[.int .i64 c] w fun e w' => e = .returned (.int .i64 (blC c)) ∧ Gr w w' := by
  have H := Lib.hid (roomOf_any c w R)
  clear R
  go_enter Tryd.func30, Tryd.ntmps30
  go_wp2_with fail
  refine H.out.mono ?_
  rintro e w' ⟨rfl, hg⟩
  have hf := field1 (byC c) (blC c) (vaC c) w'
  go_wp2
  go_ret
  exact ⟨rfl, hg⟩
theorem size_any (s : Int) (w : World) : Calls Tryd.prog 19 #[.int .i64 s] w fun e w' => e = .returned (.int .i64 (sizeN s)) ∧ w = w' := by
  by_cases h : 1 ≤ s ∧ s ≤ 64
  · have HB := Lib.hid (inB_yes h)
    have e : sizeN s = 1024 + 1024 * s := if_pos h
    have HE := Lib.hid e
    obtain ⟨h1, h2⟩ := h
    clear e
    go_enter Tryd.func19, Tryd.ntmps19
    go_wp2_with fail
    refine (isSlab_at HB.out _).mono ?_
    rintro e w' ⟨rfl, rfl⟩
    go_wp2
    go_ret
    exact ⟨ret_int (by rw [HE.out]; omega), rfl⟩
  · have HB := Lib.hid (inB_no h)
    have e : sizeN s = 0 := if_neg h
    rw [e]
    clear h e
    go_enter Tryd.func19, Tryd.ntmps19
    go_wp2_with fail
    refine (isSlab_at HB.out _).mono ?_
    rintro e w' ⟨rfl, rfl⟩
    go_wp2
    go_ret
    exact ⟨rfl, rfl⟩
theorem header_any (s : Int) (w : World) : Calls Tryd.prog 34 #[.int .i64 s] w fun e w' => e = .returned (.int .u64 (hdA s)) ∧ w = w' := by
  by_cases h : 1 ≤ s ∧ s ≤ 64
  · have HB := Lib.hid (inB_yes h)
    have e : hdA s = 1024 * s := if_pos h
    have HE := Lib.hid e
    obtain ⟨h1, h2⟩ := h
    clear e
    go_enter Tryd.func34, Tryd.ntmps34
    go_wp2_with fail
    refine (isSlab_at HB.out _).mono ?_
    rintro e w' ⟨rfl, rfl⟩
    go_wp2
    go_ret
    exact ⟨ret_int (by rw [HE.out]; omega), rfl⟩
  · have HB := Lib.hid (inB_no h)
    have e : hdA s = 0 := if_neg h
    rw [e]
    clear h e
    go_enter Tryd.func34, Tryd.ntmps34
    go_wp2_with fail
    refine (isSlab_at HB.out _).mono ?_
    rintro e w' ⟨rfl, rfl⟩
    go_wp2
    go_ret
    exact ⟨rfl, rfl⟩
theorem hdA_range (s : Int) : 0 ≤ hdA s ∧ hdA s ≤ 65536 := by
  unfold hdA
  split <;> omega
theorem keyA_range {b : Int} (h0 : 0 ≤ b) (h1 : b ≤ 1099511627776) (i : Int) : 0 ≤ keyA b i ∧ keyA b i ≤ 1099511628000 := by
  unfold keyA
  split <;> omega
theorem hdA_1 : hdA 1 = 1024 := rfl
theorem hdA_64 : hdA 64 = 65536 := rfl
end Go.Proofs.YtlpampbdnbjphaaDoor
