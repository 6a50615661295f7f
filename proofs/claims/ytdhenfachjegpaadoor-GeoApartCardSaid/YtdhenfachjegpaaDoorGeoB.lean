/- Contracts of geo's Slabs, Class, Block, of Index's closure; for any numbers, where geo.rooms holds what its initialiser lays. -/
import Derived.Test.YtdhenfachjegpaaDoorGeoA
import Derived.Shelf.SlSortCmp.QuietGrown
namespace Go.Proofs.YtdhenfachjegpaaDoor
open Go.RowKit Go.Sort
set_option linter.unusedVariables false

theorem Calls.swap {P : Program} {f : FuncId} {args : Array Value} {w : World} {v : Value} (h : Calls P f args w fun e w' => e = .returned v ∧ w = w') : Calls P f args w fun e w' => e = .returned v ∧ w' = w := h.mono fun _ _ ⟨a, b⟩ => ⟨a, b.symm⟩

theorem slabs_yes {n : Int} (h : 2048 ≤ n ∧ n ≤ 66560 ∧ n % 1024 = 0) (w : World) : Calls Tryd.prog 9 #[.int .i64 n] w fun e w' => e = .returned (.tuple #[.int .i64 (n / 1024 - 1), .bool true]) ∧ w = w' := by
  obtain ⟨h1, h2, h3⟩ := h
  have HB := Lib.hid (inB_yes (n := n / 1024 - 1) (lo := 1) (hi := 64) (by omega))
  have ht : ((n % 1024) != 0) = false := by simp [h3]
  clear h3
  go_enter Tryd.func9, Tryd.ntmps9
  go_wp2_with fail
  refine (isSlab_at HB.out _).mono ?_
  rintro e w' ⟨rfl, rfl⟩
  go_wp2
  go_ret2
  exact ⟨rfl, rfl⟩
theorem slabs_odd {n : Int} (h0 : 0 ≤ n) (h3 : n % 1024 ≠ 0) (w : World) : Calls Tryd.prog 9 #[.int .i64 n] w fun e w' => e = .returned (.tuple #[.int .i64 0, .bool false]) ∧ w = w' := by
  have ht : ((n % 1024) != 0) = true := by simp [h3]
  clear h3
  go_enter Tryd.func9, Tryd.ntmps9
  go_wp2
  go_ret2
  exact ⟨rfl, rfl⟩
theorem slabs_out {n : Int} (h0 : 0 ≤ n) (h3 : n % 1024 = 0) (h : ¬ (2048 ≤ n ∧ n ≤ 66560)) (hb : n ≤ 9223372036854775807) (w : World) : Calls Tryd.prog 9 #[.int .i64 n] w fun e w' => e = .returned (.tuple #[.int .i64 0, .bool false]) ∧ w = w' := by
  have HB := Lib.hid (inB_no (n := n / 1024 - 1) (lo := 1) (hi := 64) (by omega))
  have ht : ((n % 1024) != 0) = false := by simp [h3]
  clear h3 h
  go_enter Tryd.func9, Tryd.ntmps9
  go_wp2_with fail
  refine (isSlab_at HB.out _).mono ?_
  rintro e w' ⟨rfl, rfl⟩
  go_wp2
  go_ret2
  exact ⟨rfl, rfl⟩
theorem slabs_neg {n : Int} (h0 : n < 0) (hn : -9223372036854775808 ≤ n) (w : World) : Calls Tryd.prog 9 #[.int .i64 n] w fun e w' => e = .returned (.tuple #[.int .i64 0, .bool false]) ∧ w = w' := by
  obtain ⟨q, hq⟩ : ∃ q, q = n.tdiv 1024 := ⟨_, rfl⟩
  have q3 : q = -((-n) / 1024) := by
    rw [hq, ← Int.tdiv_eq_ediv_of_nonneg (a := -n) (b := 1024) (by omega), Int.neg_tdiv]
    omega
  have q1 : q ≤ 0 := by omega
  have q2 : -9223372036854775807 ≤ q := by omega
  clear q3
  have HB := Lib.hid (inB_no (n := q - 1) (lo := 1) (hi := 64) (by omega))
  have HQ : n.tdiv 1024 = q := hq.symm
  clear hq
  cases hm : (n.tmod 1024 != 0)
  · go_enter Tryd.func9, Tryd.ntmps9
    go_wp2_with fail
    refine (isSlab_at HB.out _).mono ?_
    rintro e w' ⟨rfl, rfl⟩
    go_wp2
    go_ret2
    exact ⟨rfl, rfl⟩
  · go_enter Tryd.func9, Tryd.ntmps9
    go_wp2
    go_ret2
    exact ⟨rfl, rfl⟩
theorem slabs_no {n : Int} (h : ¬ (2048 ≤ n ∧ n ≤ 66560 ∧ n % 1024 = 0)) (hn : -9223372036854775808 ≤ n) (hb : n ≤ 9223372036854775807) (w : World) : Calls Tryd.prog 9 #[.int .i64 n] w fun e w' => e = .returned (.tuple #[.int .i64 0, .bool false]) ∧ w = w' := by
  by_cases h0 : 0 ≤ n
  · by_cases h3 : n % 1024 = 0
    · exact slabs_out h0 h3 (by omega) hb w
    · exact slabs_odd h0 h3 w
  · exact slabs_neg (by omega) hn w
theorem under_rooms : Tryd.prog.underlying 42 = some (.array 4 41) := Tryd.underlying42
theorem info_rooms : (Tryd.prog.info? 42).map (·.size) = some roomsA.size := by kernel_rfl
theorem idx0 (w : World) : (Instr.index 42 (.agg roomsA) (.int .i64 0)).run Tryd.prog w = .ok (.agg #[.int .i64 0, .int .i64 0, .int .i64 (-1)]) w := by kernel_rfl
theorem idx1 (w : World) : (Instr.index 42 (.agg roomsA) (.int .i64 1)).run Tryd.prog w = .ok (.agg #[.int .i64 64, .int .i64 15, .int .i64 56]) w := by kernel_rfl
theorem idx2 (w : World) : (Instr.index 42 (.agg roomsA) (.int .i64 2)).run Tryd.prog w = .ok (.agg #[.int .i64 128, .int .i64 7, .int .i64 120]) w := by kernel_rfl
theorem idx3 (w : World) : (Instr.index 42 (.agg roomsA) (.int .i64 3)).run Tryd.prog w = .ok (.agg #[.int .i64 192, .int .i64 5, .int .i64 (-1)]) w := by kernel_rfl
/-- What the classes below k don't take. -/
def Left (n : Int) (k : Nat) : Prop := (2 ≤ k → ¬ (0 ≤ n ∧ n ≤ 56)) ∧ (3 ≤ k → ¬ (0 ≤ n ∧ n ≤ 120))
set_option maxHeartbeats 800000 in
theorem class_any (n : Int) (w : World) (R : Rms w) : Calls Tryd.prog 12 #[.int .i64 n] w fun e w' => e = .returned (.int .i64 (clsN n)) ∧ Gr w w' := by
  have i0 := idx0
  have i1 := idx1
  have i2 := idx2
  have i3 := idx3
  obtain ⟨t, hr⟩ := R
  have HR := Lib.hid hr
  clear hr
  have hcl := Lib.hid (show clsN n = if 0 ≤ n ∧ n ≤ 56 then 1 else if 57 ≤ n ∧ n ≤ 120 then 2 else 0 from rfl)
  go_enter Tryd.func12, Tryd.ntmps12
  go_wp2_with (refine wpList_load_row rfl 42 _ rfl 0 rfl t roomsA _ _ HR.out under_rooms rfl info_rooms ?_)
  go_loopw [6] (fun i wr => ∃ k : Nat, k ≤ 4 ∧ i = .int .i64 k ∧ Gr w wr ∧ Left n k) (fun i _ => 4 - (intOf i).toNat)
  case atStart => exact ⟨0, by omega, rfl, Gr.refl _, by omega, by omega⟩
  case round =>
    obtain ⟨k, hk, rfl, hg, hl⟩ := hrel
    have hkk : k = 0 ∨ k = 1 ∨ k = 2 ∨ k = 3 ∨ k = 4 := by omega
    have HL := Lib.hid hl
    clear hl
    rcases hkk with rfl | rfl | rfl | rfl | rfl
    · have HB := Lib.hid (inB_no (n := n) (lo := 0) (hi := -1) (by omega))
      go_wp2_with fail
      refine (within_at HB.out _).mono ?_
      rintro e w' ⟨rfl, rfl⟩
      go_wp2
      go_roundw
      case rel => exact ⟨1, by omega, by rfl, hg.alloc _, by omega, by omega⟩
      case measure => simp [intOf]
    · by_cases hc : 0 ≤ n ∧ n ≤ 56
      · have HB := Lib.hid (inB_yes hc)
        have HE := Lib.hid (show clsN n = 1 from if_pos hc)
        clear hc
        go_wp2_with fail
        refine (within_at HB.out _).mono ?_
        rintro e w' ⟨rfl, rfl⟩
        go_wp2
        go_ret
        exact ⟨ret_int (by rw [HE.out]), hg.alloc _⟩
      · have HB := Lib.hid (inB_no hc)
        have HC := Lib.hid hc
        clear hc
        go_wp2_with fail
        refine (within_at HB.out _).mono ?_
        rintro e w' ⟨rfl, rfl⟩
        go_wp2
        go_roundw
        case rel => exact ⟨2, by omega, by rfl, hg.alloc _, fun _ => HC.out, by omega⟩
        case measure => simp [intOf]
    · by_cases hc : 0 ≤ n ∧ n ≤ 120
      · have HB := Lib.hid (inB_yes hc)
        have HE := Lib.hid (show clsN n = 2 from by rw [hcl.out, if_neg (HL.out.1 (by omega)), if_pos (by have := HL.out.1 (by omega); omega)])
        clear hc
        go_wp2_with fail
        refine (within_at HB.out _).mono ?_
        rintro e w' ⟨rfl, rfl⟩
        go_wp2
        go_ret
        exact ⟨ret_int (by rw [HE.out]), hg.alloc _⟩
      · have HB := Lib.hid (inB_no hc)
        have HC := Lib.hid hc
        clear hc
        go_wp2_with fail
        refine (within_at HB.out _).mono ?_
        rintro e w' ⟨rfl, rfl⟩
        go_wp2
        go_roundw
        case rel => exact ⟨3, by omega, by rfl, hg.alloc _, fun _ => by have := HC.out; omega, fun _ => HC.out⟩
        case measure => simp [intOf]
    · have HB := Lib.hid (inB_no (n := n) (lo := 0) (hi := -1) (by omega))
      go_wp2_with fail
      refine (within_at HB.out _).mono ?_
      rintro e w' ⟨rfl, rfl⟩
      go_wp2
      go_roundw
      case rel => exact ⟨4, by omega, by rfl, hg.alloc _, fun _ => HL.out.1 (by omega), fun _ => HL.out.2 (by omega)⟩
      case measure => simp [intOf]
    · have HE := Lib.hid (show clsN n = 0 from by rw [hcl.out, if_neg (HL.out.1 (by omega)), if_neg (by have := HL.out.2 (by omega); omega)])
      go_wp2
      go_ret
      exact ⟨ret_int (by rw [HE.out]), hg⟩
end Go.Proofs.YtdhenfachjegpaaDoor
