/- Texts of this claim, packed: GeoB, GeoC, GeoI, GeoR, GeoT, GeoX. -/
import Derived.Test.YtnjecjcnkmgjmaaDoorPk06
import Derived.Test.YtnjecjcnkmgjmaaDoorPk05
import Derived.Shelf.SlSortCmp.QuietGrown
/- Contracts of geo's Slabs, Class, Block, of Index's closure; for any numbers, where geo.rooms holds what its initialiser lays. -/
namespace Go.Proofs.YtnjecjcnkmgjmaaDoor
open Go.RowKit Go.Sort
set_option linter.unusedVariables false

theorem Calls.swap {P : Program} {f : FuncId} {args : Array Value} {w : World} {v : Value} (h : Calls P f args w fun e w' => e = .returned v ∧ w = w') : Calls P f args w fun e w' => e = .returned v ∧ w' = w := h.mono fun _ _ ⟨a, b⟩ => ⟨a, b.symm⟩

theorem under_rooms : Tryd.prog.underlying 94 = some (.array 4 93) := Tryd.underlying94
theorem info_rooms : (Tryd.prog.info? 94).map (·.size) = some roomsA.size := by kernel_rfl
theorem idx0 (w : World) : (Instr.index 94 (.agg roomsA) (.int .i64 0)).run Tryd.prog w = .ok (.agg #[.int .i64 0, .int .i64 0, .int .i64 (-1)]) w := by kernel_rfl
theorem idx1 (w : World) : (Instr.index 94 (.agg roomsA) (.int .i64 1)).run Tryd.prog w = .ok (.agg #[.int .i64 64, .int .i64 15, .int .i64 56]) w := by kernel_rfl
theorem idx2 (w : World) : (Instr.index 94 (.agg roomsA) (.int .i64 2)).run Tryd.prog w = .ok (.agg #[.int .i64 128, .int .i64 7, .int .i64 120]) w := by kernel_rfl
theorem idx3 (w : World) : (Instr.index 94 (.agg roomsA) (.int .i64 3)).run Tryd.prog w = .ok (.agg #[.int .i64 192, .int .i64 5, .int .i64 (-1)]) w := by kernel_rfl
/-- What the classes below k don't take. -/
def Left (n : Int) (k : Nat) : Prop := (2 ≤ k → ¬ (0 ≤ n ∧ n ≤ 56)) ∧ (3 ≤ k → ¬ (0 ≤ n ∧ n ≤ 120))
set_option maxHeartbeats 800000 in
theorem class_any (n : Int) (w : World) (R : Rms w) : Calls Tryd.prog 31 #[.int .i64 n] w fun e w' => e = .returned (.int .i64 (clsN n)) ∧ Gr w w' := by
  have i0 := idx0
  have i1 := idx1
  have i2 := idx2
  have i3 := idx3
  obtain ⟨t, hr⟩ := R
  have HR := Lib.hid hr
  clear hr
  have hcl := Lib.hid (show clsN n = if 0 ≤ n ∧ n ≤ 56 then 1 else if 57 ≤ n ∧ n ≤ 120 then 2 else 0 from rfl)
  go_enter Tryd.func31, Tryd.ntmps31
  go_wp2_with (refine wpList_load_row rfl 94 _ rfl 0 rfl t roomsA _ _ HR.out under_rooms rfl info_rooms ?_)
  go_loopw [6] (fun i wr => ∃ k : Nat, k ≤ 4 ∧ i = .int .i64 k ∧ Gr w wr ∧ Left n k) (fun i _ => 4 - (intOf i).toNat)
  case atStart => exact ⟨0, by omega, rfl, Gr.refl _, by omega, by omega⟩
  case round =>
    obtain ⟨k, hk, rfl, hg, hl⟩ := hrel
    have hkk : k = 0 ∨ k = 1 ∨ k = 2 ∨ k = 3 ∨ k = 4 := by omega
    have HL := Lib.hid hl
    clear hl
    rcases hkk with rfl | rfl | rfl | rfl | rfl
    · have HB := Lib.hid (inB_no (n := n) (lo := 0) (hi := -1) (by omega))
      go_wp2_with fail
      refine (within_at HB.out _).mono ?_
      rintro e w' ⟨rfl, rfl⟩
      go_wp2
      go_roundw
      case rel => exact ⟨1, by omega, by rfl, hg.alloc _, by omega, by omega⟩
      case measure => simp [intOf]
    · by_cases hc : 0 ≤ n ∧ n ≤ 56
      · have HB := Lib.hid (inB_yes hc)
        have HE := Lib.hid (show clsN n = 1 from if_pos hc)
        clear hc
        go_wp2_with fail
        refine (within_at HB.out _).mono ?_
        rintro e w' ⟨rfl, rfl⟩
        go_wp2
        go_ret
        exact ⟨gret_int (by rw [HE.out]), hg.alloc _⟩
      · have HB := Lib.hid (inB_no hc)
        have HC := Lib.hid hc
        clear hc
        go_wp2_with fail
        refine (within_at HB.out _).mono ?_
        rintro e w' ⟨rfl, rfl⟩
        go_wp2
        go_roundw
        case rel => exact ⟨2, by omega, by rfl, hg.alloc _, fun _ => HC.out, by omega⟩
        case measure => simp [intOf]
    · by_cases hc : 0 ≤ n ∧ n ≤ 120
      · have HB := Lib.hid (inB_yes hc)
        have HE := Lib.hid (show clsN n = 2 from by rw [hcl.out, if_neg (HL.out.1 (by omega)), if_pos (by have := HL.out.1 (by omega); omega)])
        clear hc
        go_wp2_with fail
        refine (within_at HB.out _).mono ?_
        rintro e w' ⟨rfl, rfl⟩
        go_wp2
        go_ret
        exact ⟨gret_int (by rw [HE.out]), hg.alloc _⟩
      · have HB := Lib.hid (inB_no hc)
        have HC := Lib.hid hc
        clear hc
        go_wp2_with fail
        refine (within_at HB.out _).mono ?_
        rintro e w' ⟨rfl, rfl⟩
        go_wp2
        go_roundw
        case rel => exact ⟨3, by omega, by rfl, hg.alloc _, fun _ => by have := HC.out; omega, fun _ => HC.out⟩
        case measure => simp [intOf]
    · have HB := Lib.hid (inB_no (n := n) (lo := 0) (hi := -1) (by omega))
      go_wp2_with fail
      refine (within_at HB.out _).mono ?_
      rintro e w' ⟨rfl, rfl⟩
      go_wp2
      go_roundw
      case rel => exact ⟨4, by omega, by rfl, hg.alloc _, fun _ => HL.out.1 (by omega), fun _ => HL.out.2 (by omega)⟩
      case measure => simp [intOf]
    · have HE := Lib.hid (show clsN n = 0 from by rw [hcl.out, if_neg (HL.out.1 (by omega)), if_neg (by have := HL.out.2 (by omega); omega)])
      go_wp2
      go_ret
      exact ⟨gret_int (by rw [HE.out]), hg⟩
end Go.Proofs.YtnjecjcnkmgjmaaDoor
/- Contracts of geo's Block, and of Index's closure; for any numbers, where geo.rooms holds what its initialiser lays. -/
namespace Go.Proofs.YtnjecjcnkmgjmaaDoor
open Go.RowKit Go.Sort
set_option linter.unusedVariables false

theorem block_out {s : Int} (h : ¬ (1 ≤ s ∧ s ≤ 64)) (c j : Int) (w : World) (R : Rms w) : Calls Tryd.prog 55 #[.int .i64 s, .int .i64 c, .int .i64 j] w fun e w' => e = .returned (.int .u64 0) ∧ Gr w w' := by
  have HB := Lib.hid (inB_no h)
  have HR := Lib.hid (roomOf_any c w R)
  clear h R
  generalize byC c = x at HR
  generalize blC c = y at HR
  generalize vaC c = z at HR
  go_enter Tryd.func55, Tryd.ntmps55
  go_wp2_with fail
  refine HR.out.mono ?_
  rintro e w1 ⟨rfl, hg⟩
  go_wp2_with fail
  refine (isSlab_at HB.out _).mono ?_
  rintro e w' ⟨rfl, rfl⟩
  go_wp2
  go_ret
  exact ⟨rfl, hg.alloc _⟩
theorem block_none {s c j : Int} (h : 1 ≤ s ∧ s ≤ 64) (hj : ¬ (0 ≤ j ∧ j < blC c)) (w : World) (R : Rms w) : Calls Tryd.prog 55 #[.int .i64 s, .int .i64 c, .int .i64 j] w fun e w' => e = .returned (.int .u64 0) ∧ Gr w w' := by
  have HB := Lib.hid (inB_yes h)
  have HR := Lib.hid (roomOf_any c w R)
  have hy : 0 ≤ blC c ∧ blC c ≤ 15 := by rcases cls c with ⟨_, _, h, _⟩ | ⟨_, _, h, _⟩ | ⟨_, _, h, _⟩ | ⟨_, _, _, _, h, _⟩ <;> rw [h] <;> omega
  have HJ := Lib.hid (inB_no (n := j) (lo := 0) (hi := blC c - 1) (by omega))
  clear h R hj
  generalize byC c = x at HR
  generalize blC c = y at HR hy HJ
  generalize vaC c = z at HR
  go_enter Tryd.func55, Tryd.ntmps55
  go_wp2_with fail
  refine HR.out.mono ?_
  rintro e w1 ⟨rfl, hg⟩
  go_wp2_with fail
  refine (isSlab_at HB.out _).mono ?_
  rintro e w' ⟨rfl, rfl⟩
  go_wp2_with fail
  refine (within_at HJ.out _).mono ?_
  rintro e w' ⟨rfl, rfl⟩
  go_wp2
  go_ret
  exact ⟨rfl, hg.alloc _⟩
set_option maxHeartbeats 800000 in
theorem block_in {s c j x y z : Int} (h : 1 ≤ s ∧ s ≤ 64) (hj : 0 ≤ j ∧ j ≤ y - 1) (hy : y ≤ 15) (hx : x = 64 ∨ x = 128 ∨ x = 192) (w : World)
    (HR : Hid (Calls Tryd.prog 70 #[.int .i64 c] w fun e w' => e = .returned (.agg #[.int .i64 x, .int .i64 y, .int .i64 z]) ∧ Gr w w')) :
    Calls Tryd.prog 55 #[.int .i64 s, .int .i64 c, .int .i64 j] w fun e w' => e = .returned (.int .u64 (1024 * s + 64 + j * x)) ∧ Gr w w' := by
  have HB := Lib.hid (inB_yes h)
  have HJ := Lib.hid (inB_yes hj)
  have HH := Lib.hid fun w => Calls.swap (header_any s w)
  have hh := hdA_range s
  have HE := Lib.hid (show hdA s = 1024 * s from if_pos h)
  obtain ⟨h1, h2⟩ := h
  obtain ⟨j1, j2⟩ := hj
  have j3 : j ≤ 14 := by omega
  rcases hx with rfl | rfl | rfl
  all_goals
    go_enter Tryd.func55, Tryd.ntmps55
    go_wp2_with fail
    refine HR.out.mono ?_
    rintro e w1 ⟨rfl, hg⟩
    go_wp2_with fail
    refine (isSlab_at HB.out _).mono ?_
    rintro e w' ⟨rfl, rfl⟩
    go_wp2_with fail
    refine (within_at HJ.out _).mono ?_
    rintro e w' ⟨rfl, rfl⟩
    go_wp2
    go_quiet ((go_at_call 69; exact Calls.quiet_of_same (HH.out _)))
    go_wp2
    go_ret
    exact ⟨gret_int (by rw [HE.out]), (hg.alloc _).drewN _⟩
theorem block_any (s c j : Int) (w : World) (R : Rms w) : Calls Tryd.prog 55 #[.int .i64 s, .int .i64 c, .int .i64 j] w fun e w' => e = .returned (.int .u64 (blkA s c j)) ∧ Gr w w' := by
  by_cases h : 1 ≤ s ∧ s ≤ 64
  · by_cases hj : 0 ≤ j ∧ j < blC c
    · rw [blkA_yes ⟨h.1, h.2, hj.1, hj.2⟩]
      have HR := Lib.hid (roomOf_any c w R)
      rcases cls c with ⟨_, h2, h3, _⟩ | ⟨_, h2, h3, _⟩ | ⟨_, h2, h3, _⟩ | ⟨_, _, _, _, h3, _⟩
      · exact block_in h (by omega) (by omega) (by omega) w HR
      · exact block_in h (by omega) (by omega) (by omega) w HR
      · exact block_in h (by omega) (by omega) (by omega) w HR
      · omega
    · rw [blkA_no (by omega)]
      exact block_none h hj w R
  · rw [blkA_no (by omega)]
    exact block_out h c j w R
set_option maxHeartbeats 800000 in
/-- Index's closure: it reads the slab, the class, the address in their boxes. -/
theorem reaches_any {s c a j : Int} {b1 b2 b3 : Nat} (w : World) (R : Rms w) (c1 : w.cell? ⟨b1, 0, none⟩ = some (.int .i64 s)) (c2 : w.cell? ⟨b2, 0, none⟩ = some (.int .i64 c)) (c3 : w.cell? ⟨b3, 0, none⟩ = some (.int .u64 a)) :
    Calls Tryd.prog 54 (#[.int .i64 j] ++ #[.pointer (some ⟨b1, 0, none⟩), .pointer (some ⟨b2, 0, none⟩), .pointer (some ⟨b3, 0, none⟩)]) w fun e w' => e = .returned (.bool (decide (a ≤ blkA s c j))) ∧ ∃ q os, w' = grow (w.drewN q) os := by
  have mixed : Tryd.prog.follows .mixedOrders = true := by kernel_rfl
  have l1 := w.block_lt_of_cell? _ c1
  have l2 := w.block_lt_of_cell? _ c2
  have l3 := w.block_lt_of_cell? _ c3
  have g1 := fun n os => cell_grown l1 c1 n os
  have g2 := fun n os => cell_grown l2 c2 n os
  have g3 := fun n os => cell_grown l3 c3 n os
  have HR := Lib.hid fun n os => block_any s c j _ (R.gr ⟨n, os, rfl⟩)
  have hr := blkA_range s c j
  generalize blkA s c j = v at HR hr ⊢
  clear R
  go_enter Tryd.func54, Tryd.ntmps54
  go_wp2
  go_quiet_grown ((go_at_call 55; exact Calls.grown_of (HR.out _ _)))
  go_wp2
  go_ret
  exact ⟨rfl, _, _, rfl⟩
end Go.Proofs.YtnjecjcnkmgjmaaDoor
/- The contract of geo's Index: which block begins at an address; for any address and class, where geo.rooms holds what its initialiser lays. -/
namespace Go.Proofs.YtnjecjcnkmgjmaaDoor
open Go.RowKit Go.Sort
set_option linter.unusedVariables false

theorem search_any {s c a : Int} {b1 b2 b3 n : Nat} (hn : n = (blC c).toNat) (w : World) (R : Rms w) (c1 : w.cell? ⟨b1, 0, none⟩ = some (.int .i64 s)) (c2 : w.cell? ⟨b2, 0, none⟩ = some (.int .i64 c)) (c3 : w.cell? ⟨b3, 0, none⟩ = some (.int .u64 a)) :
    Calls Tryd.prog 56 #[.int .i64 (n : Int), .func (.func 54) #[] #[.pointer (some ⟨b1, 0, none⟩), .pointer (some ⟨b2, 0, none⟩), .pointer (some ⟨b3, 0, none⟩)]] w
      fun e w' => e = .returned (.int .i64 ((List.range n).countP fun j : Nat => !decide (a ≤ blkA s c j) : Nat)) ∧ Gr w w' := by
  have eg : ∀ args w, (callFunc 54 args).run Tryd.prog w = .ok (.enter 54 args) w := enters_of Tryd.func54 (by kernel_rfl) rfl
  have hb := blC_range c
  have l1 := w.block_lt_of_cell? _ c1
  have l2 := w.block_lt_of_cell? _ c2
  have l3 := w.block_lt_of_cell? _ c3
  exact Any.sort_Search search 54 #[.pointer (some ⟨b1, 0, none⟩), .pointer (some ⟨b2, 0, none⟩), .pointer (some ⟨b3, 0, none⟩)] n (fun j => decide (a ≤ blkA s c j)) w eg (by omega)
    (fun m os j hj => reaches_any _ (R.gr ⟨m, os, rfl⟩) (cell_grown l1 c1 m os) (cell_grown l2 c2 m os) (cell_grown l3 c3 m os))
    (fun i j hij hj h => by
      have := blkA_mono (s := s) (c := c) hij (by omega)
      simp only [decide_eq_true_eq] at h ⊢
      omega)
/-- The three boxes that Index lays. -/
def boxed (w : World) (a c s : Int) : World := ((w.alloc (.cells #[.int .u64 a] 23)).alloc (.cells #[.int .i64 c] 3)).alloc (.cells #[.int .i64 s] 3)
theorem boxed_gr (w : World) (a c s : Int) : Gr w (boxed w a c s) := (((Gr.refl w).alloc _).alloc _).alloc _
theorem boxed_a (w : World) (a c s : Int) : (boxed w a c s).cell? ⟨w.heap.size, 0, none⟩ = some (.int .u64 a) := cell_alloc_sl _ (cell_alloc_sl _ (cell_new_sl w _ _))
theorem boxed_c (w : World) (a c s : Int) : (boxed w a c s).cell? ⟨w.heap.size + 1, 0, none⟩ = some (.int .i64 c) := by
  refine cell_alloc_sl _ ?_
  have := cell_new_sl (w.alloc (.cells #[.int .u64 a] 23)) (.int .i64 c) 3
  rwa [World.size_alloc] at this
theorem boxed_s (w : World) (a c s : Int) : (boxed w a c s).cell? ⟨w.heap.size + 1 + 1, 0, none⟩ = some (.int .i64 s) := by
  have := cell_new_sl ((w.alloc (.cells #[.int .u64 a] 23)).alloc (.cells #[.int .i64 c] 3)) (.int .i64 s) 3
  rwa [World.size_alloc, World.size_alloc] at this
theorem gr_cell {w w' : World} (h : Gr w w') {a : Addr} {v : Value} (hc : w.cell? a = some v) : w'.cell? a = some v := by
  obtain ⟨q, os, rfl⟩ := h
  exact cell_grown (w.block_lt_of_cell? _ hc) hc q os
set_option maxHeartbeats 800000 in
theorem index_walk {a c s : Int} {n k : Nat} {r : Int} {b : Bool} (w : World) (h0 : 0 ≤ s) (h1 : s ≤ 64) (hk : k ≤ 15) (R : Rms w)
    (HS : Hid (∀ w, Calls Tryd.prog 53 #[.int .u64 a] w fun e w' => e = .returned (.int .i64 s) ∧ w = w'))
    (HB : Hid (∀ w, Rms w → Calls Tryd.prog 57 #[.int .i64 c] w fun e w' => e = .returned (.int .i64 (n : Int)) ∧ Gr w w'))
    (HF : Hid (∀ w, Rms w → ∀ b1 b2 b3 : Nat, w.cell? ⟨b1, 0, none⟩ = some (.int .i64 s) → w.cell? ⟨b2, 0, none⟩ = some (.int .i64 c) → w.cell? ⟨b3, 0, none⟩ = some (.int .u64 a) →
      Calls Tryd.prog 56 #[.int .i64 (n : Int), .func (.func 54) #[] #[.pointer (some ⟨b1, 0, none⟩), .pointer (some ⟨b2, 0, none⟩), .pointer (some ⟨b3, 0, none⟩)]] w fun e w' => e = .returned (.int .i64 (k : Int)) ∧ Gr w w'))
    (HK : Hid (∀ w, Rms w → Calls Tryd.prog 55 #[.int .i64 s, .int .i64 c, .int .i64 (k : Int)] w fun e w' => e = .returned (.int .u64 (blkA s c k)) ∧ Gr w w'))
    (hr : (s == 0) = true ∧ r = 0 ∧ b = false ∨ (s == 0) = false ∧ (blkA s c k != a) = true ∧ r = 0 ∧ b = false ∨ (s == 0) = false ∧ (blkA s c k != a) = false ∧ r = k ∧ b = true) :
    Calls Tryd.prog 32 #[.int .u64 a, .int .i64 c] w fun e w' => e = .returned (.tuple #[.int .i64 r, .bool b]) ∧ Gr w w' := by
  have mixed : Tryd.prog.follows .mixedOrders = true := by kernel_rfl
  have HR := Lib.hid R
  clear R
  generalize blkA s c k = v at HK hr
  rcases hr with ⟨t1, rfl, rfl⟩ | ⟨t1, t2, rfl, rfl⟩ | ⟨t1, t2, rfl, rfl⟩
  all_goals
    go_enter Tryd.func32, Tryd.ntmps32
    go_wp2_with fail
    refine (HS.out _).mono ?_
    rintro e w1 ⟨rfl, rfl⟩
    go_wp2_with fail
    refine (HB.out (boxed w a c s) (HR.out.gr (boxed_gr w a c s))).mono ?_
    rintro e w2 ⟨rfl, hg2⟩
    have HG2 := Lib.hid hg2
    clear hg2
    go_wp2_with fail
    refine (HF.out w2 (HR.out.gr ((boxed_gr w a c s).trans HG2.out)) _ _ _ (gr_cell HG2.out (boxed_s w a c s)) (gr_cell HG2.out (boxed_c w a c s)) (gr_cell HG2.out (boxed_a w a c s))).mono ?_
    rintro e w3 ⟨rfl, hg3⟩
    have HG3 := Lib.hid ((HG2.out).trans hg3)
    clear hg3
    have g1 := fun q os => gr_cell (HG3.out.grow q os) (boxed_s w a c s)
    have g2 := fun q os => gr_cell (HG3.out.grow q os) (boxed_c w a c s)
    have g3 := fun q os => gr_cell (HG3.out.grow q os) (boxed_a w a c s)
    go_wp2_with fail
    go_quiet_grown ((go_at_call 55; exact Calls.grown_of (HK.out _ (HR.out.gr ((boxed_gr w a c s).trans (HG3.out.grow _ _))))))
    have g4 := g1 nq osq
    go_wp2
    go_ret2
    exact ⟨rfl, (boxed_gr w a c s).trans (HG3.out.grow _ _)⟩
theorem index_any {a : Int} (h0 : 0 ≤ a) (h1 : a < 18446744073709551616) (c : Int) (w : World) (R : Rms w) :
    Calls Tryd.prog 32 #[.int .u64 a, .int .i64 c] w fun e w' => e = .returned (.tuple #[.int .i64 (max (wantA a c) 0), .bool (decide (0 ≤ wantA a c))]) ∧ Gr w w' := by
  have hb := blC_range c
  have hs := slabA_range a
  have hk := cntA_le a c
  refine index_walk (s := slabA a) (n := (blC c).toNat) (k := cntA a c) w hs.1 hs.2 (by omega) R (Lib.hid fun w => slab_any h0 h1 w) (Lib.hid fun w R => ?_) (Lib.hid fun w R b1 b2 b3 c1 c2 c3 => ?_) (Lib.hid fun w R => block_any _ _ _ w R) ?_
  · rw [show (((blC c).toNat : Nat) : Int) = blC c from by omega]
    exact blocks_any c w R
  · exact search_any rfl w R c1 c2 c3
  · by_cases hz : slabA a = 0
    · have e : wantA a c = -1 := if_pos (Or.inl hz)
      rw [e]
      exact Or.inl ⟨by simpa using hz, rfl, rfl⟩
    · have hz' : (slabA a == 0) = false := by simpa using hz
      by_cases hv : blkA (slabA a) c (cntA a c) = a
      · have e : wantA a c = cntA a c := if_neg (by rintro (h | h); exact hz h; exact h hv)
        rw [e]
        exact Or.inr (Or.inr ⟨hz', by simpa using hv, by omega, by simp⟩)
      · have e : wantA a c = -1 := if_pos (Or.inr hv)
        rw [e]
        exact Or.inr (Or.inl ⟨hz', by simpa using hv, rfl, rfl⟩)
end Go.Proofs.YtnjecjcnkmgjmaaDoor
/- Contracts of the reference's functions of layer 3: they answer the same numbers; for any inputs. -/
namespace Go.Proofs.YtnjecjcnkmgjmaaDoor
open Go.RowKit Go.Sort
set_option linter.unusedVariables false

theorem refClass_any (n : Int) (w : World) : Calls Tryd.prog 12 #[.int .i64 n] w fun e w' => e = .returned (.int .i64 (clsN n)) ∧ w = w' := by
  by_cases h1 : 0 ≤ n
  · by_cases h2 : n ≤ 56
    · rw [show clsN n = 1 from if_pos ⟨h1, h2⟩]
      go_enter Tryd.func12, Tryd.ntmps12
      go_wp2
      go_ret
      exact ⟨rfl, rfl⟩
    · have h2' : 57 ≤ n := by omega
      by_cases h3 : n ≤ 120
      · rw [show clsN n = 2 from by unfold clsN; rw [if_neg (by omega), if_pos ⟨h2', h3⟩]]
        go_enter Tryd.func12, Tryd.ntmps12
        go_wp2
        go_ret
        exact ⟨rfl, rfl⟩
      · have h3' : 120 < n := by omega
        rw [show clsN n = 0 from by unfold clsN; rw [if_neg (by omega), if_neg (by omega)]]
        go_enter Tryd.func12, Tryd.ntmps12
        go_wp2
        go_ret
        exact ⟨rfl, rfl⟩
  · have h1' : n < 0 := by omega
    rw [show clsN n = 0 from by unfold clsN; rw [if_neg (by omega), if_neg (by omega)]]
    go_enter Tryd.func12, Tryd.ntmps12
    go_wp2
    go_ret
    exact ⟨rfl, rfl⟩
theorem refBytes_in {c : Int} (h : 1 ≤ c ∧ c ≤ 3) (w : World) : Calls Tryd.prog 24 #[.int .i64 c] w fun e w' => e = .returned (.int .i64 (64 * c)) ∧ w = w' := by
  obtain ⟨h1, h2⟩ := h
  go_enter Tryd.func24, Tryd.ntmps24
  go_wp2
  go_ret
  exact ⟨rfl, rfl⟩
theorem refBytes_out {c : Int} (h : ¬ (1 ≤ c ∧ c ≤ 3)) (w : World) : Calls Tryd.prog 24 #[.int .i64 c] w fun e w' => e = .returned (.int .i64 0) ∧ w = w' := by
  by_cases h1 : c < 1
  · clear h
    go_enter Tryd.func24, Tryd.ntmps24
    go_wp2
    go_ret
    exact ⟨rfl, rfl⟩
  · have h2 : 3 < c := by omega
    clear h
    go_enter Tryd.func24, Tryd.ntmps24
    go_wp2
    go_ret
    exact ⟨rfl, rfl⟩
theorem byC_in {c : Int} (h : 1 ≤ c ∧ c ≤ 3) : byC c = 64 * c := by
  rcases cls c with ⟨rfl, h2, _⟩ | ⟨rfl, h2, _⟩ | ⟨rfl, h2, _⟩ | ⟨_, _, _, _⟩ <;> omega
theorem byC_out {c : Int} (h : ¬ (1 ≤ c ∧ c ≤ 3)) : byC c = 0 ∧ blC c = 0 := by
  rcases cls c with ⟨rfl, h2, _⟩ | ⟨rfl, h2, _⟩ | ⟨rfl, h2, _⟩ | ⟨_, _, _, h4, h5, _⟩ <;> omega
theorem refBytes_any (c : Int) (w : World) : Calls Tryd.prog 24 #[.int .i64 c] w fun e w' => e = .returned (.int .i64 (byC c)) ∧ w = w' := by
  by_cases h : 1 ≤ c ∧ c ≤ 3
  · rw [byC_in h]; exact refBytes_in h w
  · rw [(byC_out h).1]; exact refBytes_out h w
set_option maxRecDepth 100000 in
set_option maxHeartbeats 800000 in
theorem refBlocks_in {c x n : Int} (hx : x = 64 ∧ n = 15 ∨ x = 128 ∧ n = 7 ∨ x = 192 ∧ n = 5) (w : World)
    (HB : Hid (∀ w, Calls Tryd.prog 24 #[.int .i64 c] w fun e w' => e = .returned (.int .i64 x) ∧ w = w')) :
    Calls Tryd.prog 22 #[.int .i64 c] w fun e w' => e = .returned (.int .i64 n) ∧ w = w' := by
  rcases hx with ⟨rfl, rfl⟩ | ⟨rfl, rfl⟩ | ⟨rfl, rfl⟩
  all_goals
    go_enter Tryd.func22, Tryd.ntmps22
    go_wp2_with (go_at_call 24; refine (HB.out _).mono ?_; rintro e w' ⟨rfl, rfl⟩)
  · go_loop [3] (fun i => ∃ k : Nat, k ≤ 15 ∧ i = .int .i64 k) (fun i => 15 - (intOf i).toNat)
    case atStart => exact ⟨0, by omega, rfl⟩
    case round =>
      obtain ⟨k, hk, rfl⟩ := hrel
      by_cases h : k < 15
      · go_wp2_with fail
        refine (HB.out _).mono ?_
        rintro e w' ⟨rfl, rfl⟩
        go_wp2_with fail
        go_round
        case rel => exact ⟨k + 1, by omega, by go_num⟩
        case measure => simp [intOf]; omega
      · obtain rfl : k = 15 := by omega
        go_wp2_with (go_at_call 24; refine (HB.out _).mono ?_; rintro e w' ⟨rfl, rfl⟩)
        go_ret
        exact ⟨rfl, rfl⟩
  · go_loop [3] (fun i => ∃ k : Nat, k ≤ 7 ∧ i = .int .i64 k) (fun i => 7 - (intOf i).toNat)
    case atStart => exact ⟨0, by omega, rfl⟩
    case round =>
      obtain ⟨k, hk, rfl⟩ := hrel
      by_cases h : k < 7
      · go_wp2_with (go_at_call 24; refine (HB.out _).mono ?_; rintro e w' ⟨rfl, rfl⟩)
        go_round
        case rel => exact ⟨k + 1, by omega, by go_num⟩
        case measure => simp [intOf]; omega
      · obtain rfl : k = 7 := by omega
        go_wp2_with (go_at_call 24; refine (HB.out _).mono ?_; rintro e w' ⟨rfl, rfl⟩)
        go_ret
        exact ⟨rfl, rfl⟩
  · go_loop [3] (fun i => ∃ k : Nat, k ≤ 5 ∧ i = .int .i64 k) (fun i => 5 - (intOf i).toNat)
    case atStart => exact ⟨0, by omega, rfl⟩
    case round =>
      obtain ⟨k, hk, rfl⟩ := hrel
      by_cases h : k < 5
      · go_wp2_with (go_at_call 24; refine (HB.out _).mono ?_; rintro e w' ⟨rfl, rfl⟩)
        go_round
        case rel => exact ⟨k + 1, by omega, by go_num⟩
        case measure => simp [intOf]; omega
      · obtain rfl : k = 5 := by omega
        go_wp2_with (go_at_call 24; refine (HB.out _).mono ?_; rintro e w' ⟨rfl, rfl⟩)
        go_ret
        exact ⟨rfl, rfl⟩
theorem refBlocks_any (c : Int) (w : World) : Calls Tryd.prog 22 #[.int .i64 c] w fun e w' => e = .returned (.int .i64 (blC c)) ∧ w = w' := by
  have HB := Lib.hid (refBytes_any c)
  rcases cls c with ⟨_, h2, h3, _⟩ | ⟨_, h2, h3, _⟩ | ⟨_, h2, h3, _⟩ | ⟨_, _, _, h2, h3, _⟩
  · exact refBlocks_in (by omega) w HB
  · exact refBlocks_in (by omega) w HB
  · exact refBlocks_in (by omega) w HB
  · rw [h2] at HB
    rw [h3]
    clear h2 h3
    go_enter Tryd.func22, Tryd.ntmps22
    go_wp2_with (go_at_call 24; refine (HB.out _).mono ?_; rintro e w' ⟨rfl, rfl⟩)
    go_ret
    exact ⟨rfl, rfl⟩
theorem refHeader_yes {s : Int} (h : 1 ≤ s ∧ s ≤ 64) (w : World) : Calls Tryd.prog 43 #[.int .i64 s] w fun e w' => e = .returned (.int .u64 (1024 * s)) ∧ w = w' := by
  obtain ⟨h1, h2⟩ := h
  go_enter Tryd.func43, Tryd.ntmps43
  go_wp2
  go_ret
  exact ⟨rfl, rfl⟩
theorem refHeader_no {s : Int} (h : ¬ (1 ≤ s ∧ s ≤ 64)) (w : World) : Calls Tryd.prog 43 #[.int .i64 s] w fun e w' => e = .returned (.int .u64 0) ∧ w = w' := by
  by_cases h1 : s < 1
  · clear h
    go_enter Tryd.func43, Tryd.ntmps43
    go_wp2
    go_ret
    exact ⟨rfl, rfl⟩
  · have h2 : 64 < s := by omega
    clear h
    go_enter Tryd.func43, Tryd.ntmps43
    go_wp2
    go_ret
    exact ⟨rfl, rfl⟩
theorem refHeader_any (s : Int) (w : World) : Calls Tryd.prog 43 #[.int .i64 s] w fun e w' => e = .returned (.int .u64 (hdA s)) ∧ w = w' := by
  by_cases h : 1 ≤ s ∧ s ≤ 64
  · rw [show hdA s = 1024 * s from if_pos h]; exact refHeader_yes h w
  · rw [show hdA s = 0 from if_neg h]; exact refHeader_no h w
end Go.Proofs.YtnjecjcnkmgjmaaDoor
/- Contracts of the reference's Slabs, Block, Slab, Index: they answer the same numbers; for any inputs. -/
namespace Go.Proofs.YtnjecjcnkmgjmaaDoor
open Go.RowKit Go.Sort
set_option linter.unusedVariables false

theorem slabsN_at {k : Int} (h : 1 ≤ k ∧ k ≤ 64) : slabsN (1024 + 1024 * k) = k := by
  unfold slabsN
  rw [if_pos (by omega)]
  omega
set_option maxHeartbeats 400000 in
theorem refBlock_out {s : Int} (h : ¬ (1 ≤ s ∧ s ≤ 64)) (c j : Int) (w : World) : Calls Tryd.prog 21 #[.int .i64 s, .int .i64 c, .int .i64 j] w fun e w' => e = .returned (.int .u64 0) ∧ w = w' := by
  have HH := Lib.hid (refHeader_no h)
  clear h
  go_enter Tryd.func21, Tryd.ntmps21
  go_wp2_with fail
  refine (HH.out _).mono ?_
  rintro e w' ⟨rfl, rfl⟩
  go_wp2
  go_ret
  exact ⟨rfl, rfl⟩
theorem refBlock_none {s c j : Int} (h : 1 ≤ s ∧ s ≤ 64) (hj : ¬ (0 ≤ j ∧ j < blC c)) (w : World) : Calls Tryd.prog 21 #[.int .i64 s, .int .i64 c, .int .i64 j] w fun e w' => e = .returned (.int .u64 0) ∧ w = w' := by
  have HH := Lib.hid (refHeader_yes h)
  have HB := Lib.hid (refBlocks_any c)
  have hb := blC_range c
  have t1 : ((1024 * s) == 0) = false := by simp; omega
  obtain ⟨h1, h2⟩ := h
  generalize blC c = n at *
  by_cases j0 : j < 0
  · clear hj
    go_enter Tryd.func21, Tryd.ntmps21
    go_wp2_with fail
    refine (HH.out _).mono ?_
    rintro e w' ⟨rfl, rfl⟩
    go_wp2
    go_ret
    exact ⟨rfl, rfl⟩
  · have j1 : n ≤ j := by omega
    have j2 : 0 ≤ j := by omega
    clear hj j0
    go_enter Tryd.func21, Tryd.ntmps21
    go_wp2_with fail
    refine (HH.out _).mono ?_
    rintro e w' ⟨rfl, rfl⟩
    go_wp2_with fail
    refine (HB.out _).mono ?_
    rintro e w' ⟨rfl, rfl⟩
    go_wp2
    go_ret
    exact ⟨rfl, rfl⟩
set_option maxHeartbeats 400000 in
theorem refBlock_in {s c j x y : Int} (h : 1 ≤ s ∧ s ≤ 64) (hj : 0 ≤ j ∧ j < y) (hy : y ≤ 15) (hx : x = 64 ∨ x = 128 ∨ x = 192) (w : World)
    (HB : Hid (∀ w, Calls Tryd.prog 22 #[.int .i64 c] w fun e w' => e = .returned (.int .i64 y) ∧ w = w'))
    (HX : Hid (∀ w, Calls Tryd.prog 24 #[.int .i64 c] w fun e w' => e = .returned (.int .i64 x) ∧ w = w')) :
    Calls Tryd.prog 21 #[.int .i64 s, .int .i64 c, .int .i64 j] w fun e w' => e = .returned (.int .u64 (1024 * s + 64 + j * x)) ∧ w = w' := by
  have HH := Lib.hid (refHeader_yes h)
  have t1 : ((1024 * s) == 0) = false := by simp; omega
  obtain ⟨h1, h2⟩ := h
  obtain ⟨j1, j2⟩ := hj
  have j3 : j ≤ 14 := by omega
  rcases hx with rfl | rfl | rfl
  all_goals
    go_enter Tryd.func21, Tryd.ntmps21
    go_wp2_with fail
    refine (HH.out _).mono ?_
    rintro e w' ⟨rfl, rfl⟩
    go_wp2_with fail
    refine (HB.out _).mono ?_
    rintro e w' ⟨rfl, rfl⟩
    go_wp2_with fail
    refine (HH.out _).mono ?_
    rintro e w' ⟨rfl, rfl⟩
    go_wp2_with fail
    refine (HX.out _).mono ?_
    rintro e w' ⟨rfl, rfl⟩
    go_wp2
    go_ret
    exact ⟨gret_int (by omega), rfl⟩
theorem refBlock_any (s c j : Int) (w : World) : Calls Tryd.prog 21 #[.int .i64 s, .int .i64 c, .int .i64 j] w fun e w' => e = .returned (.int .u64 (blkA s c j)) ∧ w = w' := by
  by_cases h : 1 ≤ s ∧ s ≤ 64
  · by_cases hj : 0 ≤ j ∧ j < blC c
    · rw [blkA_yes ⟨h.1, h.2, hj.1, hj.2⟩]
      have HB := Lib.hid (refBlocks_any c)
      have HX := Lib.hid (refBytes_any c)
      rcases cls c with ⟨_, h2, h3, _⟩ | ⟨_, h2, h3, _⟩ | ⟨_, h2, h3, _⟩ | ⟨_, _, _, _, h3, _⟩
      · exact refBlock_in h hj (by omega) (by omega) w HB HX
      · exact refBlock_in h hj (by omega) (by omega) w HB HX
      · exact refBlock_in h hj (by omega) (by omega) w HB HX
      · omega
    · rw [blkA_no (by omega)]
      exact refBlock_none h hj w
  · rw [blkA_no (by omega)]
    exact refBlock_out h c j w
end Go.Proofs.YtnjecjcnkmgjmaaDoor
/- The contract of the reference's Index, and of known() of layer 3; for any inputs, where geo.rooms holds what its initialiser lays. -/
namespace Go.Proofs.YtnjecjcnkmgjmaaDoor
open Go.RowKit Go.Sort
set_option linter.unusedVariables false

set_option maxHeartbeats 800000 in
set_option maxRecDepth 100000 in
theorem refIndex_any (a c : Int) (w : World) : Calls Tryd.prog 35 #[.int .u64 a, .int .i64 c] w fun e w' => e = .returned (.int .i64 (wantA a c)) ∧ w = w' := by
  obtain ⟨n, hn⟩ : ∃ n : Nat, blC c = n := ⟨(blC c).toNat, by have := blC_range c; omega⟩
  have hn15 : n ≤ 15 := by have := blC_range c; omega
  have HB := Lib.hid (show ∀ w, Calls Tryd.prog 22 #[.int .i64 c] w fun e w' => e = .returned (.int .i64 (n : Int)) ∧ w = w' from fun w => by rw [← hn]; exact refBlocks_any c w)
  have HN := Lib.hid hn
  clear hn
  go_enter Tryd.func35, Tryd.ntmps35
  go_wp2
  go_loop [5] (fun i => ∃ k : Nat, 1 ≤ k ∧ k ≤ 65 ∧ i = .int .i64 k ∧ Hid (∀ s j : Int, 1 ≤ s → s < k → 0 ≤ j → j < n → blkA s c j ≠ a)) (fun i => 65 - (intOf i).toNat)
  case atStart => exact ⟨1, by omega, by omega, rfl, fun s j h1 h2 h3 h4 => by omega⟩
  case round =>
    obtain ⟨k, hk1, hk, rfl, HS⟩ := hrel
    by_cases h : k < 65
    · go_wp2_with fail
      go_loop [6] (fun i => ∃ m : Nat, m ≤ n ∧ i = .int .i64 m ∧ Hid (∀ j : Int, 0 ≤ j → j < m → blkA k c j ≠ a)) (fun i => n - (intOf i).toNat)
      case atStart => exact ⟨0, by omega, rfl, fun j h1 h2 => by omega⟩
      case round =>
        obtain ⟨m, hm, rfl, HM⟩ := hrel
        by_cases hmn : m < n
        · have HK := Lib.hid (refBlock_any (k : Int) c (m : Int))
          have hr := blkA_range (k : Int) c (m : Int)
          by_cases he : blkA k c m = a
          · have HE := Lib.hid (show wantA a c = m from want_found (s := k) (c := c) (j := m) ⟨by omega, by omega, by omega, by have := HN.out; omega⟩ he)
            have ht : (blkA k c m == a) = true := by simpa using he
            clear he
            go_wp2_with fail
            refine (HB.out _).mono ?_
            rintro e w' ⟨rfl, rfl⟩
            go_wp2_with fail
            refine (HK.out _).mono ?_
            rintro e w' ⟨rfl, rfl⟩
            go_wp2
            go_ret
            exact ⟨gret_int HE.out.symm, rfl⟩
          · have HE := Lib.hid he
            have ht : (blkA k c m == a) = false := by simpa using he
            clear he
            go_wp2_with fail
            refine (HB.out _).mono ?_
            rintro e w' ⟨rfl, rfl⟩
            go_wp2_with fail
            refine (HK.out _).mono ?_
            rintro e w' ⟨rfl, rfl⟩
            go_wp2
            go_round
            case rel => exact ⟨m + 1, by omega, by go_num, fun j h1 h2 => by
              by_cases e : j = m
              · rw [e]; exact HE.out
              · exact HM.out j h1 (by omega)⟩
            case measure => simp [intOf]; omega
        · obtain rfl : m = n := by omega
          go_wp2_with fail
          refine (HB.out _).mono ?_
          rintro e w' ⟨rfl, rfl⟩
          go_wp2_with fail
          go_round
          case rel => exact ⟨k + 1, by omega, by omega, by go_num, fun s j h1 h2 h3 h4 => by
            by_cases e : s = k
            · rw [e]; exact HM.out j h3 h4
            · exact HS.out s j h1 (by omega) h3 h4⟩
          case measure => simp [intOf]; omega
    · obtain rfl : k = 65 := by omega
      have HE := Lib.hid (show wantA a c = -1 from want_none fun s j hh => HS.out s j hh.1 (by omega) hh.2.2.1 (by have := HN.out; omega))
      go_wp2
      go_ret
      exact ⟨gret_int HE.out.symm, rfl⟩
theorem want_2880_3 : wantA 2880 3 = 4 := want_found (s := 2) (c := 3) (j := 4) (by decide) (by decide)
theorem want_2880_1 : wantA 2880 1 = 12 := want_found (s := 2) (c := 1) (j := 12) (by decide) (by decide)
end Go.Proofs.YtnjecjcnkmgjmaaDoor
