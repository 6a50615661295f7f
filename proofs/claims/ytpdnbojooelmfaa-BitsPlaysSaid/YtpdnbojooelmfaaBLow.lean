/- Count and Lowest: how many bits are set; the least that is not set, below a bound; of any word, any bound; without conditions. -/
import Derived.Test.YtpdnbojooelmfaaBAll
namespace Go.Proofs.Ytpdnbojooelmfaa
open Go.RowKit Go.Shelf
set_option linter.unusedVariables false
attribute [local go_sem] Oper.semAt_some
/-- The word of the bits that are not set. -/
def notB (b : Nat) : Nat := 18446744073709551615 - b
theorem notB_lt (b : Nat) : notB b < 18446744073709551616 := Nat.lt_of_le_of_lt (Nat.sub_le _ _) (by decide)
theorem notB_bit {b : Nat} (hb : b < 18446744073709551616) (k : Nat) : (notB b).testBit k = (decide (k < 64) && !b.testBit k) := by
  rw [show notB b = 2 ^ 64 - (b + 1) by unfold notB; omega, Nat.testBit_two_pow_sub_succ (by omega)]
theorem not64 {z : Int} (h0 : 0 ≤ z) (h1 : z < 18446744073709551616) : bits BinOp.xor IntKind.u64 IntKind.u64.max z = 18446744073709551615 - z := by
  obtain ⟨n, rfl⟩ : ∃ n : Nat, z = (n : Int) := ⟨z.toNat, by omega⟩
  have e : IntKind.u64.max = ((18446744073709551615 : Nat) : Int) := by decide
  rw [e, u64_xor_nat 18446744073709551615 n (by decide) (by omega)]
  have : 18446744073709551615 ^^^ n = 18446744073709551615 - n := by
    apply Nat.eq_of_testBit_eq
    intro k
    have h2 := notB_bit (b := n) (by omega) k
    unfold notB at h2
    rw [h2, Nat.testBit_xor, show (18446744073709551615 : Nat) = 2 ^ 64 - 1 by decide, Nat.testBit_two_pow_sub_one]
    by_cases hk : k < 64
    · simp [hk]
    · have hf : n.testBit k = false := by
        rw [Bool.eq_false_iff]; intro h; exact hk (bit_lt (by omega) h)
      simp [hk, hf]
  rw [this]; omega
/-- The least bit below n that is not set. -/
def lowB (b : Nat) (n : Int) : Option Nat := (upB (notB b) 64).find? fun j => decide ((j : Int) < n)
def lowV (r : Option Nat) : Int := match r with | some x => (x : Int) | none => 0
theorem low_some {b : Nat} {n : Int} {q : List Nat} {x : Nat} (hp : q ++ [x] <+: upB (notB b) 64) (hx : (x : Int) < n) (hq : ∀ y ∈ q, n ≤ (y : Int)) : lowB b n = some x := by
  obtain ⟨r, hr⟩ := hp
  unfold lowB
  rw [← hr, List.find?_append, List.find?_append, List.find?_eq_none.2 (fun y hy => by have := hq y hy; simp; omega)]
  simp [hx]
theorem low_none {b : Nat} {n : Int} (hq : ∀ y ∈ upB (notB b) 64, n ≤ (y : Int)) : lowB b n = none :=
  List.find?_eq_none.2 (fun y hy => by have := hq y hy; simp; omega)
set_option maxRecDepth 100000 in
set_option maxHeartbeats 4000000 in
theorem lowest_any {b : Nat} (hb : b < 18446744073709551616) (n : Int) (w : World) :
    Calls Try.prog 19 #[wv b, .int .i64 n] w fun e W' => e = .returned (.tuple #[.int .i64 (lowV (lowB b n)), .bool (lowB b n).isSome]) ∧ Below w.heap.size w W' := by
  have HA := Lib.hid (all_any (notB b))
  have hx64 : bits BinOp.xor IntKind.u64 IntKind.u64.max (b : Int) = ((notB b : Nat) : Int) := by rw [not64 (by omega) (by omega)]; unfold notB; omega
  have hx64' : bits BinOp.xor IntKind.u64 18446744073709551615 (b : Int) = ((notB b : Nat) : Int) := hx64
  unfold wv at HA ⊢
  refine (callsIn_wide (n := 6)).1 ?_
  refine callsIn_of_wp_marks Try.func19 rfl trivial ?_ rfl
  simp only [Try.ntmps19, List.size_toArray, List.length_cons, List.length_nil, Nat.reduceAdd, Nat.reduceSub, Array.replicate_succ, Array.replicate_zero, List.push_toArray, List.append_toArray, List.nil_append, List.cons_append]
  gi_wp2_with (refine ⟨trivial, ?_⟩; gi_at_call 32; refine (callsIn_wide.2 (HA.out _)).mono ?_; rintro e w' ⟨rfl, rfl⟩)
  have b0 := Boxed.new w 3 (.int .i64 n)
  have b1 := Boxed.new (w.alloc (.cells #[.int .i64 n] 3)) 3 (.int .i64 0)
  have b2 := Boxed.new ((w.alloc (.cells #[.int .i64 n] 3)).alloc (.cells #[.int .i64 0] 3)) 4 (.bool false)
  have b3 := Boxed.new (((w.alloc (.cells #[.int .i64 n] 3)).alloc (.cells #[.int .i64 0] 3)).alloc (.cells #[.bool false] 4)) 31 (.int .u64 (notB b : Int))
  simp only [World.size_alloc] at b1 b2 b3
  have hB0 : Below w.heap.size w ((((w.alloc (.cells #[.int .i64 n] 3)).alloc (.cells #[.int .i64 0] 3)).alloc (.cells #[.bool false] 4)).alloc (.cells #[.int .u64 (notB b : Int)] 31)) := ((((Below.refl _ w).alloc (Nat.le_refl _) _).alloc (by simp) _).alloc (by simp; omega) _).alloc (by simp; omega) _
  refine wpIn_rangeFunc_ownF rfl (by omega) (gf := 40) (lb := #[.pointer (some ⟨w.heap.size + 1 + 1 + 1, 0, none⟩)]) rfl trivial (enters_of Try.func40 (by kernel_rfl) rfl)
    (all_stops (notB_lt b) b3.cell) Kb.t (Kb.b (by simp)) (Below.refl _ _) (fun _ => rfl)
    (fun (pre : List Nat) W => ((∀ y ∈ pre, n ≤ ((y : Nat) : Int)) ∧ W.cell? ⟨w.heap.size, 0, none⟩ = some (.int .i64 n) ∧ W.cell? ⟨w.heap.size + 1, 0, none⟩ = some (.int .i64 0) ∧ W.frozen? ⟨w.heap.size + 1, 0, none⟩ = false ∧ W.cell? ⟨w.heap.size + 1 + 1, 0, none⟩ = some (.bool false) ∧ W.frozen? ⟨w.heap.size + 1 + 1, 0, none⟩ = false) ∧ Below w.heap.size w W)
    (fun c (pre : List Nat) W => (c = .ret ∧ ∃ (q : List Nat) (x : Nat), pre = q ++ [x] ∧ (x : Int) < n ∧ (∀ y ∈ q, n ≤ ((y : Nat) : Int)) ∧ W.cell? ⟨w.heap.size + 1, 0, none⟩ = some (.int .i64 (x : Int)) ∧ W.cell? ⟨w.heap.size + 1 + 1, 0, none⟩ = some (.bool true)) ∧ Below w.heap.size w W)
    (OwnFrom.and (Own.from (fun s A B row hs hg hr => ⟨hs.1, cell_kept hs.2.1 hg hr, cell_kept hs.2.2.1 hg hr, (frozen_kept hs.2.2.1 hg hr).trans hs.2.2.2.1, cell_kept hs.2.2.2.2.1 hg hr, (frozen_kept hs.2.2.2.2.1 hg hr).trans hs.2.2.2.2.2⟩) _) (ownFrom_below (Nat.le_refl _) (by simp; omega)))
    (fun c => OwnFrom.and (Own.from (fun s A B row hs hg hr => by obtain ⟨h1, q, x, h2, h3, h4, h5, h6⟩ := hs; exact ⟨h1, q, x, h2, h3, h4, cell_kept h5 hg hr, cell_kept h6 hg hr⟩) _) (ownFrom_below (Nat.le_refl _) (by simp; omega)))
    ⟨⟨by simp, (((b0.alloc _).alloc _).alloc _).cell, ((b1.alloc _).alloc _).cell, ((b1.alloc _).alloc _).frozen, (b2.alloc _).cell, (b2.alloc _).frozen⟩, hB0⟩
    (fun x => { tmps := #[.int .u64 (b : Int), .int .i64 n, undef, .pointer (some ⟨w.heap.size, 0, none⟩), .pointer (some ⟨w.heap.size + 1, 0, none⟩), .pointer (some ⟨w.heap.size + 1 + 1, 0, none⟩), .int .i64 (x : Int), .int .u64 (b : Int), .int .u64 (notB b : Int), .func (.func 40) #[] #[.pointer (some ⟨w.heap.size + 1 + 1 + 1, 0, none⟩)], .int .i64 (x : Int), undef, undef, undef, undef], defers := [] }) ?assign ?body ?done ?stop
  case assign =>
    intro l x W K hK
    gi_wp2
    exact hK
  case body =>
    rintro l pre x W ⟨⟨hp, hcn, hc0, hf0, hc1, hf1⟩, hB⟩ _
    clear hx64 hx64'
    have hs1 : ∀ v, (W.setCell ⟨w.heap.size + 1, 0, none⟩ v).cell? ⟨w.heap.size + 1 + 1, 0, none⟩ = some (.bool false) := fun v => (Kb.set (bx := w.heap.size + 1 + 1) (p := ⟨w.heap.size + 1, 0, none⟩) (by simp) v).cell hc1
    have hs2 : ∀ v, (W.setCell ⟨w.heap.size + 1, 0, none⟩ v).frozen? ⟨w.heap.size + 1 + 1, 0, none⟩ = false := fun v => by simpa using hf1
    gi_wp2
    · have hx : (x : Int) < n := by assumption
      refine ⟨(KeepsOthers.setCell _ _ _).trans (KeepsOthers.setCell _ _ _), ⟨rfl, pre, x, rfl, hx, hp, ?_, ?_⟩, (hB.setCell (p := ⟨w.heap.size + 1, 0, none⟩) (by simp) _).setCell (p := ⟨w.heap.size + 1 + 1, 0, none⟩) (by simp; omega) _⟩
      · exact (Kb.set (bx := w.heap.size + 1) (p := ⟨w.heap.size + 1 + 1, 0, none⟩) (by simp) _).cell (World.cell?_setCell_same' _ _ _ (by rw [hc0]; rfl))
      · rw [World.cell?_setCell_same' _ _ _ (by rw [hs1]; rfl)]
    · have hx : n ≤ (x : Int) := by assumption
      exact ⟨KeepsOthers.refl _, Kb.refl _ _, ⟨fun y hy => (List.mem_append.1 hy).elim (hp y) (fun e => by simp at e; omega), hcn, hc0, hf0, hc1, hf1⟩, hB⟩
  case done =>
    rintro D ys W hD rfl ⟨⟨hne, _, hc0, hf0, hc1, hf1⟩, hB⟩ hK
    have HE := Lib.hid (low_none hne)
    clear hne
    have hs1 : ∀ v, (W.setCell ⟨w.heap.size + 1, 0, none⟩ v).cell? ⟨w.heap.size + 1 + 1, 0, none⟩ = some (.bool false) := fun v => (Kb.set (bx := w.heap.size + 1 + 1) (p := ⟨w.heap.size + 1, 0, none⟩) (by simp) v).cell hc1
    have hs2 : ∀ v, (W.setCell ⟨w.heap.size + 1, 0, none⟩ v).frozen? ⟨w.heap.size + 1 + 1, 0, none⟩ = false := fun v => by simpa using hf1
    have hk1 := World.cell?_setCell_same' (W.setCell ⟨w.heap.size + 1, 0, none⟩ (.int .i64 0)) ⟨w.heap.size + 1 + 1, 0, none⟩ (.bool false) (by rw [hs1]; rfl)
    have hk0 := (Kb.set (bx := w.heap.size + 1) (W := W.setCell ⟨w.heap.size + 1, 0, none⟩ (.int .i64 0)) (p := ⟨w.heap.size + 1 + 1, 0, none⟩) (by simp) (.bool false)).cell (World.cell?_setCell_same' _ _ _ (by rw [hc0]; rfl))
    have HK0 := Lib.hid hk0
    have HK1 := Lib.hid hk1
    clear hk0 hk1
    gi_wp2
    have hK' := ((KeepsOthers.setCell W ⟨w.heap.size + 1, 0, none⟩ (.int .i64 0)).trans (KeepsOthers.setCell _ ⟨w.heap.size + 1 + 1, 0, none⟩ (.bool false))).same D _ hK rfl
    refine ⟨by simp, .inl ⟨_, _, rfl, run_takeDeferred hK', ?_⟩⟩
    have h0 := cell_kept HK0.out (grownBy_putObj' _ D (.deferred none)) (fun r e => by cases e; exact ⟨_, hK', rfl⟩)
    have h1 := cell_kept HK1.out (grownBy_putObj' _ D (.deferred none)) (fun r e => by cases e; exact ⟨_, hK', rfl⟩)
    refine ⟨.tuple #[.int .i64 0, .bool false], ?_, by rw [HE.out]; rfl, ((hB.setCell (p := ⟨w.heap.size + 1, 0, none⟩) (by simp) _).setCell (p := ⟨w.heap.size + 1 + 1, 0, none⟩) (by simp; omega) _).trans (belowK_b (w := w) (Nat.le_refl _) _ D _ _ (by simp at hD; omega) hK' rfl rfl)⟩
    simp [results, Try.f19, go_sem, h0, h1]
  case stop =>
    rintro D c pre W hD hpre ⟨⟨rfl, q, x, hq, hx, hl, hc0, hc1⟩, hB⟩ hK
    have HE := Lib.hid (low_some (hq ▸ hpre) hx hl)
    clear hl
    gi_wp2
    refine ⟨by simp, .inl ⟨_, _, rfl, run_takeDeferred hK, ?_⟩⟩
    have hk0 := cell_kept hc0 (grownBy_putObj' _ D (.deferred none)) (fun r e => by cases e; exact ⟨_, hK, rfl⟩)
    have hk1 := cell_kept hc1 (grownBy_putObj' _ D (.deferred none)) (fun r e => by cases e; exact ⟨_, hK, rfl⟩)
    refine ⟨.tuple #[.int .i64 (x : Int), .bool true], ?_, by rw [HE.out]; rfl, hB.trans (belowK_b (w := w) (Nat.le_refl _) W D _ _ (by simp at hD; omega) hK rfl rfl)⟩
    simp [results, Try.f19, go_sem, hk0, hk1]
end Go.Proofs.Ytpdnbojooelmfaa
