/- Contracts of geo's Slabs, Class, Block, of Index's closure; for any numbers, where geo.rooms holds what its initialiser lays. -/
import Derived.Test.YtlpampbdnbjphaaDoorGeoA
import Derived.Shelf.SlSortCmp.QuietGrown
namespace Go.Proofs.YtlpampbdnbjphaaDoor
open Go.RowKit Go.Sort
set_option linter.unusedVariables false

theorem Calls.swap {P : Program} {f : FuncId} {args : Array Value} {w : World} {v : Value} (h : Calls P f args w fun e w' => e = .returned v ∧ w = w') : Calls P f args w fun e w' => e = .returned v ∧ w' = w := h.mono fun _ _ ⟨a, b⟩ => ⟨a, b.symm⟩

theorem slabs_yes {n : Int} (h : 2048 ≤ n ∧ n ≤ 66560 ∧ n % 1024 = 0) (w : World) : Calls Tryd.prog 22 #[.int .i64 n] w fun e w' => e = .returned (.tuple #[.int .i64 (n / 1024 - 1), .bool true]) ∧ w = w' := by
  obtain ⟨h1, h2, h3⟩ := h
  have HB := Lib.hid (inB_yes (n := n / 1024 - 1) (lo := 1) (hi := 64) (by omega))
  have ht : ((n % 1024) != 0) = false := by simp [h3]
  clear h3
  go_enter Tryd.func22, Tryd.ntmps22
  go_wp2_with fail
  refine (isSlab_at HB.out _).mono ?_
  rintro e w' ⟨rfl, rfl⟩
  go_wp2
  go_ret2
  exact ⟨rfl, rfl⟩
theorem slabs_odd {n : Int} (h0 : 0 ≤ n) (h3 : n % 1024 ≠ 0) (w : World) : Calls Tryd.prog 22 #[.int .i64 n] w fun e w' => e = .returned (.tuple #[.int .i64 0, .bool false]) ∧ w = w' := by
  have ht : ((n % 1024) != 0) = true := by simp [h3]
  clear h3
  go_enter Tryd.func22, Tryd.ntmps22
  go_wp2
  go_ret2
  exact ⟨rfl, rfl⟩
theorem slabs_out {n : Int} (h0 : 0 ≤ n) (h3 : n % 1024 = 0) (h : ¬ (2048 ≤ n ∧ n ≤ 66560)) (hb : n ≤ 9223372036854775807) (w : World) : Calls Tryd.prog 22 #[.int .i64 n] w fun e w' => e = .returned (.tuple #[.int .i64 0, .bool false]) ∧ w = w' := by
  have HB := Lib.hid (inB_no (n := n / 1024 - 1) (lo := 1) (hi := 64) (by omega))
  have ht : ((n % 1024) != 0) = false := by simp [h3]
  clear h3 h
  go_enter Tryd.func22, Tryd.ntmps22
  go_wp2_with fail
  refine (isSlab_at HB.out _).mono ?_
  rintro e w' ⟨rfl, rfl⟩
  go_wp2
  go_ret2
  exact ⟨rfl, rfl⟩
theorem slabs_neg {n : Int} (h0 : n < 0) (hn : -9223372036854775808 ≤ n) (w : World) : Calls Tryd.prog 22 #[.int .i64 n] w fun e w' => e = .returned (.tuple #[.int .i64 0, .bool false]) ∧ w = w' := by
  obtain ⟨q, hq⟩ : ∃ q, q = n.tdiv 1024 := ⟨_, rfl⟩
  have q3 : q = -((-n) / 1024) := by
    rw [hq, ← Int.tdiv_eq_ediv_of_nonneg (a := -n) (b := 1024) (by omega), Int.neg_tdiv]
    omega
  have q1 : q ≤ 0 := by omega
  have q2 : -9223372036854775807 ≤ q := by omega
  clear q3
  have HB := Lib.hid (inB_no (n := q - 1) (lo := 1) (hi := 64) (by omega))
  have HQ : n.tdiv 1024 = q := hq.symm
  clear hq
  cases hm : (n.tmod 1024 != 0)
  · go_enter Tryd.func22, Tryd.ntmps22
    go_wp2_with fail
    refine (isSlab_at HB.out _).mono ?_
    rintro e w' ⟨rfl, rfl⟩
    go_wp2
    go_ret2
    exact ⟨rfl, rfl⟩
  · go_enter Tryd.func22, Tryd.ntmps22
    go_wp2
    go_ret2
    exact ⟨rfl, rfl⟩
theorem slabs_no {n : Int} (h : ¬ (2048 ≤ n ∧ n ≤ 66560 ∧ n % 1024 = 0)) (hn : -9223372036854775808 ≤ n) (hb : n ≤ 9223372036854775807) (w : World) : Calls Tryd.prog 22 #[.int .i64 n] w fun e w' => e = .returned (.tuple #[.int .i64 0, .bool false]) ∧ w = w' := by
  by_cases h0 : 0 ≤ n
  · by_cases h3 : n % 1024 = 0
    · exact slabs_out h0 h3 (by omega) hb w
    · exact slabs_odd h0 h3 w
  · exact slabs_neg (by omega) hn w
theorem under_rooms : Tryd.prog.underlying 59 = some (.array 4 57) := Tryd.underlying59
theorem info_rooms : (Tryd.prog.info? 59).map (·.size) = some roomsA.size := by kernel_rfl
theorem idx0 (w : World) : (Instr.index 59 (.agg roomsA) (.int .i64 0)).run Tryd.prog w = .ok (.agg #[.int .i64 0, .int .i64 0, .int .i64 (-1)]) w := by kernel_rfl
theorem idx1 (w : World) : (Instr.index 59 (.agg roomsA) (.int .i64 1)).run Tryd.prog w = .ok (.agg #[.int .i64 64, .int .i64 15, .int .i64 56]) w := by kernel_rfl
theorem idx2 (w : World) : (Instr.index 59 (.agg roomsA) (.int .i64 2)).run Tryd.prog w = .ok (.agg #[.int .i64 128, .int .i64 7, .int .i64 120]) w := by kernel_rfl
theorem idx3 (w : World) : (Instr.index 59 (.agg roomsA) (.int .i64 3)).run Tryd.prog w = .ok (.agg #[.int .i64 192, .int .i64 5, .int .i64 (-1)]) w := by kernel_rfl
/-- What the classes below k don't take. -/
def Left (n : Int) (k : Nat) : Prop := (2 ≤ k → ¬ (0 ≤ n ∧ n ≤ 56)) ∧ (3 ≤ k → ¬ (0 ≤ n ∧ n ≤ 120))
end Go.Proofs.YtlpampbdnbjphaaDoor
