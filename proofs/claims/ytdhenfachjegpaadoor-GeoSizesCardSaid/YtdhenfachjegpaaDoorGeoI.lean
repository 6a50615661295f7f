/- The contract of geo's Index: which block begins at an address; for any address and class, where geo.rooms holds what its initialiser lays. -/
import Derived.Test.YtdhenfachjegpaaDoorGeoC
import Derived.Test.YtdhenfachjegpaaDoorLaidSearch
namespace Go.Proofs.YtdhenfachjegpaaDoor
open Go.RowKit Go.Sort
set_option linter.unusedVariables false

theorem blC_range (c : Int) : 0 ≤ blC c ∧ blC c ≤ 15 := by rcases cls c with ⟨_, _, h, _⟩ | ⟨_, _, h, _⟩ | ⟨_, _, h, _⟩ | ⟨_, _, _, _, h, _⟩ <;> rw [h] <;> omega
theorem search_any {s c a : Int} {b1 b2 b3 n : Nat} (hn : n = (blC c).toNat) (w : World) (R : Rms w) (c1 : w.cell? ⟨b1, 0, none⟩ = some (.int .i64 s)) (c2 : w.cell? ⟨b2, 0, none⟩ = some (.int .i64 c)) (c3 : w.cell? ⟨b3, 0, none⟩ = some (.int .u64 a)) :
    Calls Tryd.prog 38 #[.int .i64 (n : Int), .func (.func 37) #[] #[.pointer (some ⟨b1, 0, none⟩), .pointer (some ⟨b2, 0, none⟩), .pointer (some ⟨b3, 0, none⟩)]] w
      fun e w' => e = .returned (.int .i64 ((List.range n).countP fun j : Nat => !decide (a ≤ blkA s c j) : Nat)) ∧ Gr w w' := by
  have eg : ∀ args w, (callFunc 37 args).run Tryd.prog w = .ok (.enter 37 args) w := enters_of Tryd.func37 (by kernel_rfl) rfl
  have hb := blC_range c
  have l1 := w.block_lt_of_cell? _ c1
  have l2 := w.block_lt_of_cell? _ c2
  have l3 := w.block_lt_of_cell? _ c3
  exact Any.sort_Search search 37 #[.pointer (some ⟨b1, 0, none⟩), .pointer (some ⟨b2, 0, none⟩), .pointer (some ⟨b3, 0, none⟩)] n (fun j => decide (a ≤ blkA s c j)) w eg (by omega)
    (fun m os j hj => reaches_any _ (R.gr ⟨m, os, rfl⟩) (cell_grown l1 c1 m os) (cell_grown l2 c2 m os) (cell_grown l3 c3 m os))
    (fun i j hij hj h => by
      have := blkA_mono (s := s) (c := c) hij (by omega)
      simp only [decide_eq_true_eq] at h ⊢
      omega)
/-- The three boxes that Index lays. -/
def boxed (w : World) (a c s : Int) : World := ((w.alloc (.cells #[.int .u64 a] 28)).alloc (.cells #[.int .i64 c] 3)).alloc (.cells #[.int .i64 s] 3)
theorem boxed_gr (w : World) (a c s : Int) : Gr w (boxed w a c s) := (((Gr.refl w).alloc _).alloc _).alloc _
theorem boxed_a (w : World) (a c s : Int) : (boxed w a c s).cell? ⟨w.heap.size, 0, none⟩ = some (.int .u64 a) := cell_alloc_sl _ (cell_alloc_sl _ (cell_new_sl w _ _))
theorem boxed_c (w : World) (a c s : Int) : (boxed w a c s).cell? ⟨w.heap.size + 1, 0, none⟩ = some (.int .i64 c) := by
  refine cell_alloc_sl _ ?_
  have := cell_new_sl (w.alloc (.cells #[.int .u64 a] 28)) (.int .i64 c) 3
  rwa [World.size_alloc] at this
theorem boxed_s (w : World) (a c s : Int) : (boxed w a c s).cell? ⟨w.heap.size + 1 + 1, 0, none⟩ = some (.int .i64 s) := by
  have := cell_new_sl ((w.alloc (.cells #[.int .u64 a] 28)).alloc (.cells #[.int .i64 c] 3)) (.int .i64 s) 3
  rwa [World.size_alloc, World.size_alloc] at this
theorem gr_cell {w w' : World} (h : Gr w w') {a : Addr} {v : Value} (hc : w.cell? a = some v) : w'.cell? a = some v := by
  obtain ⟨q, os, rfl⟩ := h
  exact cell_grown (w.block_lt_of_cell? _ hc) hc q os
set_option maxHeartbeats 800000 in
theorem index_walk {a c s : Int} {n k : Nat} {r : Int} {b : Bool} (w : World) (h0 : 0 ≤ s) (h1 : s ≤ 64) (hk : k ≤ 15) (R : Rms w)
    (HS : Hid (∀ w, Calls Tryd.prog 25 #[.int .u64 a] w fun e w' => e = .returned (.int .i64 s) ∧ w = w'))
    (HB : Hid (∀ w, Rms w → Calls Tryd.prog 16 #[.int .i64 c] w fun e w' => e = .returned (.int .i64 (n : Int)) ∧ Gr w w'))
    (HF : Hid (∀ w, Rms w → ∀ b1 b2 b3 : Nat, w.cell? ⟨b1, 0, none⟩ = some (.int .i64 s) → w.cell? ⟨b2, 0, none⟩ = some (.int .i64 c) → w.cell? ⟨b3, 0, none⟩ = some (.int .u64 a) →
      Calls Tryd.prog 38 #[.int .i64 (n : Int), .func (.func 37) #[] #[.pointer (some ⟨b1, 0, none⟩), .pointer (some ⟨b2, 0, none⟩), .pointer (some ⟨b3, 0, none⟩)]] w fun e w' => e = .returned (.int .i64 (k : Int)) ∧ Gr w w'))
    (HK : Hid (∀ w, Rms w → Calls Tryd.prog 22 #[.int .i64 s, .int .i64 c, .int .i64 (k : Int)] w fun e w' => e = .returned (.int .u64 (blkA s c k)) ∧ Gr w w'))
    (hr : (s == 0) = true ∧ r = 0 ∧ b = false ∨ (s == 0) = false ∧ (blkA s c k != a) = true ∧ r = 0 ∧ b = false ∨ (s == 0) = false ∧ (blkA s c k != a) = false ∧ r = k ∧ b = true) :
    Calls Tryd.prog 24 #[.int .u64 a, .int .i64 c] w fun e w' => e = .returned (.tuple #[.int .i64 r, .bool b]) ∧ Gr w w' := by
  have mixed : Tryd.prog.follows .mixedOrders = true := by kernel_rfl
  have HR := Lib.hid R
  clear R
  generalize blkA s c k = v at HK hr
  rcases hr with ⟨t1, rfl, rfl⟩ | ⟨t1, t2, rfl, rfl⟩ | ⟨t1, t2, rfl, rfl⟩
  all_goals
    go_enter Tryd.func24, Tryd.ntmps24
    go_wp2_with fail
    refine (HS.out _).mono ?_
    rintro e w1 ⟨rfl, rfl⟩
    go_wp2_with fail
    refine (HB.out (boxed w a c s) (HR.out.gr (boxed_gr w a c s))).mono ?_
    rintro e w2 ⟨rfl, hg2⟩
    have HG2 := Lib.hid hg2
    clear hg2
    go_wp2_with fail
    refine (HF.out w2 (HR.out.gr ((boxed_gr w a c s).trans HG2.out)) _ _ _ (gr_cell HG2.out (boxed_s w a c s)) (gr_cell HG2.out (boxed_c w a c s)) (gr_cell HG2.out (boxed_a w a c s))).mono ?_
    rintro e w3 ⟨rfl, hg3⟩
    have HG3 := Lib.hid ((HG2.out).trans hg3)
    clear hg3
    have g1 := fun q os => gr_cell (HG3.out.grow q os) (boxed_s w a c s)
    have g2 := fun q os => gr_cell (HG3.out.grow q os) (boxed_c w a c s)
    have g3 := fun q os => gr_cell (HG3.out.grow q os) (boxed_a w a c s)
    go_wp2_with fail
    go_quiet_grown ((go_at_call 22; exact Calls.grown_of (HK.out _ (HR.out.gr ((boxed_gr w a c s).trans (HG3.out.grow _ _))))))
    have g4 := g1 nq osq
    go_wp2
    go_ret2
    exact ⟨rfl, (boxed_gr w a c s).trans (HG3.out.grow _ _)⟩
theorem index_any {a : Int} (h0 : 0 ≤ a) (h1 : a < 18446744073709551616) (c : Int) (w : World) (R : Rms w) :
    Calls Tryd.prog 24 #[.int .u64 a, .int .i64 c] w fun e w' => e = .returned (.tuple #[.int .i64 (max (wantA a c) 0), .bool (decide (0 ≤ wantA a c))]) ∧ Gr w w' := by
  have hb := blC_range c
  have hs := slabA_range a
  have hk := cntA_le a c
  refine index_walk (s := slabA a) (n := (blC c).toNat) (k := cntA a c) w hs.1 hs.2 (by omega) R (Lib.hid fun w => slab_any h0 h1 w) (Lib.hid fun w R => ?_) (Lib.hid fun w R b1 b2 b3 c1 c2 c3 => ?_) (Lib.hid fun w R => block_any _ _ _ w R) ?_
  · rw [show (((blC c).toNat : Nat) : Int) = blC c from by omega]
    exact blocks_any c w R
  · exact search_any rfl w R c1 c2 c3
  · by_cases hz : slabA a = 0
    · have e : wantA a c = -1 := if_pos (Or.inl hz)
      rw [e]
      exact Or.inl ⟨by simpa using hz, rfl, rfl⟩
    · have hz' : (slabA a == 0) = false := by simpa using hz
      by_cases hv : blkA (slabA a) c (cntA a c) = a
      · have e : wantA a c = cntA a c := if_neg (by rintro (h | h); exact hz h; exact h hv)
        rw [e]
        exact Or.inr (Or.inr ⟨hz', by simpa using hv, by omega, by simp⟩)
      · have e : wantA a c = -1 := if_pos (Or.inr hv)
        rw [e]
        exact Or.inr (Or.inl ⟨hz', by simpa using hv, rfl, rfl⟩)
end Go.Proofs.YtdhenfachjegpaaDoor
