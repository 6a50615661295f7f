/- Texts of this claim, packed: GeoB, GeoC, GeoR, GeoT. -/
import Derived.Test.YtedefebdfcgjeaaGreatDoorPq05
import Derived.Shelf.SlSortCmp.QuietGrown
/- Contracts of geo's Slabs, Class, Block, of Index's closure; for any numbers, where geo.rooms holds what its initialiser lays. -/
namespace Go.Proofs.YtedefebdfcgjeaaGreatDoor
open Go.RowKit Go.Sort
set_option linter.unusedVariables false

theorem Calls.swap {P : Program} {f : FuncId} {args : Array Value} {w : World} {v : Value} (h : Calls P f args w fun e w' => e = .returned v ∧ w = w') : Calls P f args w fun e w' => e = .returned v ∧ w' = w := h.mono fun _ _ ⟨a, b⟩ => ⟨a, b.symm⟩

theorem slabs_yes {n : Int} (h : 2048 ≤ n ∧ n ≤ 66560 ∧ n % 1024 = 0) (w : World) : Calls Tryz.prog 27 #[.int .i64 n] w fun e w' => e = .returned (.tuple #[.int .i64 (n / 1024 - 1), .bool true]) ∧ w = w' := by
  obtain ⟨h1, h2, h3⟩ := h
  have HB := Lib.hid (inB_yes (n := n / 1024 - 1) (lo := 1) (hi := 64) (by omega))
  have ht : ((n % 1024) != 0) = false := by simp [h3]
  clear h3
  go_enter Tryz.func27, Tryz.ntmps27
  go_wp2_with fail
  refine (isSlab_at HB.out _).mono ?_
  rintro e w' ⟨rfl, rfl⟩
  go_wp2
  go_ret2
  exact ⟨rfl, rfl⟩
theorem slabs_odd {n : Int} (h0 : 0 ≤ n) (h3 : n % 1024 ≠ 0) (w : World) : Calls Tryz.prog 27 #[.int .i64 n] w fun e w' => e = .returned (.tuple #[.int .i64 0, .bool false]) ∧ w = w' := by
  have ht : ((n % 1024) != 0) = true := by simp [h3]
  clear h3
  go_enter Tryz.func27, Tryz.ntmps27
  go_wp2
  go_ret2
  exact ⟨rfl, rfl⟩
theorem slabs_out {n : Int} (h0 : 0 ≤ n) (h3 : n % 1024 = 0) (h : ¬ (2048 ≤ n ∧ n ≤ 66560)) (hb : n ≤ 9223372036854775807) (w : World) : Calls Tryz.prog 27 #[.int .i64 n] w fun e w' => e = .returned (.tuple #[.int .i64 0, .bool false]) ∧ w = w' := by
  have HB := Lib.hid (inB_no (n := n / 1024 - 1) (lo := 1) (hi := 64) (by omega))
  have ht : ((n % 1024) != 0) = false := by simp [h3]
  clear h3 h
  go_enter Tryz.func27, Tryz.ntmps27
  go_wp2_with fail
  refine (isSlab_at HB.out _).mono ?_
  rintro e w' ⟨rfl, rfl⟩
  go_wp2
  go_ret2
  exact ⟨rfl, rfl⟩
theorem slabs_neg {n : Int} (h0 : n < 0) (hn : -9223372036854775808 ≤ n) (w : World) : Calls Tryz.prog 27 #[.int .i64 n] w fun e w' => e = .returned (.tuple #[.int .i64 0, .bool false]) ∧ w = w' := by
  obtain ⟨q, hq⟩ : ∃ q, q = n.tdiv 1024 := ⟨_, rfl⟩
  have q3 : q = -((-n) / 1024) := by
    rw [hq, ← Int.tdiv_eq_ediv_of_nonneg (a := -n) (b := 1024) (by omega), Int.neg_tdiv]
    omega
  have q1 : q ≤ 0 := by omega
  have q2 : -9223372036854775807 ≤ q := by omega
  clear q3
  have HB := Lib.hid (inB_no (n := q - 1) (lo := 1) (hi := 64) (by omega))
  have HQ : n.tdiv 1024 = q := hq.symm
  clear hq
  cases hm : (n.tmod 1024 != 0)
  · go_enter Tryz.func27, Tryz.ntmps27
    go_wp2_with fail
    refine (isSlab_at HB.out _).mono ?_
    rintro e w' ⟨rfl, rfl⟩
    go_wp2
    go_ret2
    exact ⟨rfl, rfl⟩
  · go_enter Tryz.func27, Tryz.ntmps27
    go_wp2
    go_ret2
    exact ⟨rfl, rfl⟩
theorem slabs_no {n : Int} (h : ¬ (2048 ≤ n ∧ n ≤ 66560 ∧ n % 1024 = 0)) (hn : -9223372036854775808 ≤ n) (hb : n ≤ 9223372036854775807) (w : World) : Calls Tryz.prog 27 #[.int .i64 n] w fun e w' => e = .returned (.tuple #[.int .i64 0, .bool false]) ∧ w = w' := by
  by_cases h0 : 0 ≤ n
  · by_cases h3 : n % 1024 = 0
    · exact slabs_out h0 h3 (by omega) hb w
    · exact slabs_odd h0 h3 w
  · exact slabs_neg (by omega) hn w
theorem under_rooms : Tryz.prog.underlying 176 = some (.array 4 157) := Tryz.underlying176
theorem info_rooms : (Tryz.prog.info? 176).map (·.size) = some roomsA.size := by kernel_rfl
theorem idx0 (w : World) : (Instr.index 176 (.agg roomsA) (.int .i64 0)).run Tryz.prog w = .ok (.agg #[.int .i64 0, .int .i64 0, .int .i64 (-1)]) w := by kernel_rfl
theorem idx1 (w : World) : (Instr.index 176 (.agg roomsA) (.int .i64 1)).run Tryz.prog w = .ok (.agg #[.int .i64 64, .int .i64 15, .int .i64 56]) w := by kernel_rfl
theorem idx2 (w : World) : (Instr.index 176 (.agg roomsA) (.int .i64 2)).run Tryz.prog w = .ok (.agg #[.int .i64 128, .int .i64 7, .int .i64 120]) w := by kernel_rfl
theorem idx3 (w : World) : (Instr.index 176 (.agg roomsA) (.int .i64 3)).run Tryz.prog w = .ok (.agg #[.int .i64 192, .int .i64 5, .int .i64 (-1)]) w := by kernel_rfl
/-- What the classes below k don't take. -/
def Left (n : Int) (k : Nat) : Prop := (2 ≤ k → ¬ (0 ≤ n ∧ n ≤ 56)) ∧ (3 ≤ k → ¬ (0 ≤ n ∧ n ≤ 120))
end Go.Proofs.YtedefebdfcgjeaaGreatDoor
/- Contracts of geo's Block, and of Index's closure; for any numbers, where geo.rooms holds what its initialiser lays. -/
namespace Go.Proofs.YtedefebdfcgjeaaGreatDoor
open Go.RowKit Go.Sort
set_option linter.unusedVariables false

theorem block_out {s : Int} (h : ¬ (1 ≤ s ∧ s ≤ 64)) (c j : Int) (w : World) (R : Rms w) : Calls Tryz.prog 80 #[.int .i64 s, .int .i64 c, .int .i64 j] w fun e w' => e = .returned (.int .u64 0) ∧ Gr w w' := by
  have HB := Lib.hid (inB_no h)
  have HR := Lib.hid (roomOf_any c w R)
  clear h R
  generalize byC c = x at HR
  generalize blC c = y at HR
  generalize vaC c = z at HR
  go_enter Tryz.func80, Tryz.ntmps80
  go_wp2_with fail
  refine HR.out.mono ?_
  rintro e w1 ⟨rfl, hg⟩
  go_wp2_with fail
  refine (isSlab_at HB.out _).mono ?_
  rintro e w' ⟨rfl, rfl⟩
  go_wp2
  go_ret
  exact ⟨rfl, hg.alloc _⟩
theorem block_none {s c j : Int} (h : 1 ≤ s ∧ s ≤ 64) (hj : ¬ (0 ≤ j ∧ j < blC c)) (w : World) (R : Rms w) : Calls Tryz.prog 80 #[.int .i64 s, .int .i64 c, .int .i64 j] w fun e w' => e = .returned (.int .u64 0) ∧ Gr w w' := by
  have HB := Lib.hid (inB_yes h)
  have HR := Lib.hid (roomOf_any c w R)
  have hy : 0 ≤ blC c ∧ blC c ≤ 15 := by rcases cls c with ⟨_, _, h, _⟩ | ⟨_, _, h, _⟩ | ⟨_, _, h, _⟩ | ⟨_, _, _, _, h, _⟩ <;> rw [h] <;> omega
  have HJ := Lib.hid (inB_no (n := j) (lo := 0) (hi := blC c - 1) (by omega))
  clear h R hj
  generalize byC c = x at HR
  generalize blC c = y at HR hy HJ
  generalize vaC c = z at HR
  go_enter Tryz.func80, Tryz.ntmps80
  go_wp2_with fail
  refine HR.out.mono ?_
  rintro e w1 ⟨rfl, hg⟩
  go_wp2_with fail
  refine (isSlab_at HB.out _).mono ?_
  rintro e w' ⟨rfl, rfl⟩
  go_wp2_with fail
  refine (within_at HJ.out _).mono ?_
  rintro e w' ⟨rfl, rfl⟩
  go_wp2
  go_ret
  exact ⟨rfl, hg.alloc _⟩
set_option maxHeartbeats 800000 in
theorem block_in {s c j x y z : Int} (h : 1 ≤ s ∧ s ≤ 64) (hj : 0 ≤ j ∧ j ≤ y - 1) (hy : y ≤ 15) (hx : x = 64 ∨ x = 128 ∨ x = 192) (w : World)
    (HR : Hid (Calls Tryz.prog 94 #[.int .i64 c] w fun e w' => e = .returned (.agg #[.int .i64 x, .int .i64 y, .int .i64 z]) ∧ Gr w w')) :
    Calls Tryz.prog 80 #[.int .i64 s, .int .i64 c, .int .i64 j] w fun e w' => e = .returned (.int .u64 (1024 * s + 64 + j * x)) ∧ Gr w w' := by
  have HB := Lib.hid (inB_yes h)
  have HJ := Lib.hid (inB_yes hj)
  have HH := Lib.hid fun w => Calls.swap (header_any s w)
  have hh := hdA_range s
  have HE := Lib.hid (show hdA s = 1024 * s from if_pos h)
  obtain ⟨h1, h2⟩ := h
  obtain ⟨j1, j2⟩ := hj
  have j3 : j ≤ 14 := by omega
  rcases hx with rfl | rfl | rfl
  all_goals
    go_enter Tryz.func80, Tryz.ntmps80
    go_wp2_with fail
    refine HR.out.mono ?_
    rintro e w1 ⟨rfl, hg⟩
    go_wp2_with fail
    refine (isSlab_at HB.out _).mono ?_
    rintro e w' ⟨rfl, rfl⟩
    go_wp2_with fail
    refine (within_at HJ.out _).mono ?_
    rintro e w' ⟨rfl, rfl⟩
    go_wp2
    go_quiet ((go_at_call 66; exact Calls.quiet_of_same (HH.out _)))
    go_wp2
    go_ret
    exact ⟨gret_int (by rw [HE.out]), (hg.alloc _).drewN _⟩
theorem block_any (s c j : Int) (w : World) (R : Rms w) : Calls Tryz.prog 80 #[.int .i64 s, .int .i64 c, .int .i64 j] w fun e w' => e = .returned (.int .u64 (blkA s c j)) ∧ Gr w w' := by
  by_cases h : 1 ≤ s ∧ s ≤ 64
  · by_cases hj : 0 ≤ j ∧ j < blC c
    · rw [blkA_yes ⟨h.1, h.2, hj.1, hj.2⟩]
      have HR := Lib.hid (roomOf_any c w R)
      rcases cls c with ⟨_, h2, h3, _⟩ | ⟨_, h2, h3, _⟩ | ⟨_, h2, h3, _⟩ | ⟨_, _, _, _, h3, _⟩
      · exact block_in h (by omega) (by omega) (by omega) w HR
      · exact block_in h (by omega) (by omega) (by omega) w HR
      · exact block_in h (by omega) (by omega) (by omega) w HR
      · omega
    · rw [blkA_no (by omega)]
      exact block_none h hj w R
  · rw [blkA_no (by omega)]
    exact block_out h c j w R
end Go.Proofs.YtedefebdfcgjeaaGreatDoor
/- Contracts of the reference's functions of layer 3: they answer the same numbers; for any inputs. -/
namespace Go.Proofs.YtedefebdfcgjeaaGreatDoor
open Go.RowKit Go.Sort
set_option linter.unusedVariables false

theorem byC_in {c : Int} (h : 1 ≤ c ∧ c ≤ 3) : byC c = 64 * c := by
  rcases cls c with ⟨rfl, h2, _⟩ | ⟨rfl, h2, _⟩ | ⟨rfl, h2, _⟩ | ⟨_, _, _, _⟩ <;> omega
theorem byC_out {c : Int} (h : ¬ (1 ≤ c ∧ c ≤ 3)) : byC c = 0 ∧ blC c = 0 := by
  rcases cls c with ⟨rfl, h2, _⟩ | ⟨rfl, h2, _⟩ | ⟨rfl, h2, _⟩ | ⟨_, _, _, h4, h5, _⟩ <;> omega
theorem refHeader_yes {s : Int} (h : 1 ≤ s ∧ s ≤ 64) (w : World) : Calls Tryz.prog 49 #[.int .i64 s] w fun e w' => e = .returned (.int .u64 (1024 * s)) ∧ w = w' := by
  obtain ⟨h1, h2⟩ := h
  go_enter Tryz.func49, Tryz.ntmps49
  go_wp2
  go_ret
  exact ⟨rfl, rfl⟩
theorem refHeader_no {s : Int} (h : ¬ (1 ≤ s ∧ s ≤ 64)) (w : World) : Calls Tryz.prog 49 #[.int .i64 s] w fun e w' => e = .returned (.int .u64 0) ∧ w = w' := by
  by_cases h1 : s < 1
  · clear h
    go_enter Tryz.func49, Tryz.ntmps49
    go_wp2
    go_ret
    exact ⟨rfl, rfl⟩
  · have h2 : 64 < s := by omega
    clear h
    go_enter Tryz.func49, Tryz.ntmps49
    go_wp2
    go_ret
    exact ⟨rfl, rfl⟩
theorem refHeader_any (s : Int) (w : World) : Calls Tryz.prog 49 #[.int .i64 s] w fun e w' => e = .returned (.int .u64 (hdA s)) ∧ w = w' := by
  by_cases h : 1 ≤ s ∧ s ≤ 64
  · rw [show hdA s = 1024 * s from if_pos h]; exact refHeader_yes h w
  · rw [show hdA s = 0 from if_neg h]; exact refHeader_no h w
end Go.Proofs.YtedefebdfcgjeaaGreatDoor
/- Contracts of the reference's Slabs, Block, Slab, Index: they answer the same numbers; for any inputs. -/
namespace Go.Proofs.YtedefebdfcgjeaaGreatDoor
open Go.RowKit Go.Sort
set_option linter.unusedVariables false

theorem slabsN_at {k : Int} (h : 1 ≤ k ∧ k ≤ 64) : slabsN (1024 + 1024 * k) = k := by
  unfold slabsN
  rw [if_pos (by omega)]
  omega
set_option maxHeartbeats 400000 in
theorem refSlab_any (a : Int) (w : World) : Calls Tryz.prog 17 #[.int .u64 a] w fun e w' => e = .returned (.int .i64 (slabA a)) ∧ w = w' := by
  have hsl := Lib.hid (show slabA a = if 1024 ≤ a ∧ a ≤ 66559 then a / 1024 else 0 from rfl)
  go_enter Tryz.func17, Tryz.ntmps17
  go_wp2
  go_loop [3] (fun i => ∃ k : Nat, 1 ≤ k ∧ k ≤ 65 ∧ i = .int .i64 k ∧ Hid (a < 1024 ∨ 1024 * (k : Int) ≤ a)) (fun i => 65 - (intOf i).toNat)
  case atStart => exact ⟨1, by omega, by omega, rfl, (by omega : a < 1024 ∨ 1024 * ((1 : Nat) : Int) ≤ a)⟩
  case round =>
    obtain ⟨k, hk1, hk, rfl, HS⟩ := hrel
    by_cases h : k < 65
    · have HH := Lib.hid (refHeader_yes (s := (k : Int)) (by omega))
      by_cases h1 : 1024 * (k : Int) ≤ a
      · by_cases h2 : a < 1024 * (k : Int) + 1024
        · have HE := Lib.hid (show slabA a = k from by rw [hsl.out, if_pos (by omega)]; omega)
          go_wp2_with fail
          refine (HH.out _).mono ?_
          rintro e w' ⟨rfl, rfl⟩
          go_wp2_with fail
          refine (HH.out _).mono ?_
          rintro e w' ⟨rfl, rfl⟩
          go_wp2
          go_ret
          exact ⟨gret_int HE.out.symm, rfl⟩
        · have h2' : 1024 * (k : Int) + 1024 ≤ a := by omega
          go_wp2_with fail
          refine (HH.out _).mono ?_
          rintro e w' ⟨rfl, rfl⟩
          go_wp2_with fail
          refine (HH.out _).mono ?_
          rintro e w' ⟨rfl, rfl⟩
          go_wp2
          go_round
          case rel => exact ⟨k + 1, by omega, by omega, by go_num, (by omega : a < 1024 ∨ 1024 * ((k + 1 : Nat) : Int) ≤ a)⟩
          case measure => simp [intOf]; omega
      · have h1' : a < 1024 * (k : Int) := by omega
        have HA := Lib.hid (show a < 1024 from by have := HS.out; omega)
        go_wp2_with fail
        refine (HH.out _).mono ?_
        rintro e w' ⟨rfl, rfl⟩
        go_wp2
        go_round
        case rel => exact ⟨k + 1, by omega, by omega, by go_num, Or.inl HA.out⟩
        case measure => simp [intOf]; omega
    · obtain rfl : k = 65 := by omega
      have HE := Lib.hid (show slabA a = 0 from by rw [hsl.out, if_neg (by have := HS.out; omega)])
      go_wp2
      go_ret
      exact ⟨gret_int HE.out.symm, rfl⟩
end Go.Proofs.YtedefebdfcgjeaaGreatDoor
