/- Texts of this claim, packed: N8Len. -/
import Derived.Test.YteojhhfcfdkmdaaPm02
import Derived.BigQuiet
import Derived.Deep.QuietTactic
set_option linter.unusedSimpArgs false
set_option linter.unusedVariables false
/- How many entries a node has: node.Len, and the document's; whether the entry at a place is valid; isLevel; of any node; without conditions. -/
namespace Go.Proofs.Yteojhhfcfdkmdaa
open Go.RowKit
set_option linter.unusedVariables false

theorem isLevel_any (l : Int) (w : World) : Calls Try.prog 88 #[.int .i64 l] w fun e w' => e = .returned (.bool (decide (0 ≤ l) && decide (l ≤ 15))) ∧ w = w' := by
  go_enter Try.func88, Try.ntmps88
  obtain h | h : 0 ≤ l ∨ l < 0 := by omega
  · go_wp2
    go_ret
    simp [h]
  · go_wp2
    go_ret
    simp
    omega
theorem run_ix (n : Nd) {k : Nat} (hk : k < 8) (W : World) : (Instr.index 25 (.agg n.pcl.toArray) (.int .i64 (k : Int))).run Try.prog W = .ok (.int .u64 (n.ptr k)) W := by
  have hu := Try.underlying25
  rcases lt8 hk with rfl | rfl | rfl | rfl | rfl | rfl | rfl | rfl <;>
    simp [Instr.index, go_sem, hu, Nd.pcl, Nd.ptr, Nd.ptrs]
set_option maxRecDepth 100000 in
set_option maxHeartbeats 1600000 in
theorem nlen_any (n : Nd) (w : World) : Calls Try.prog 60 #[n.V] w fun e w' => e = .returned (.int .i64 (n.len : Int)) ∧ Below w.heap.size w w' := by
  have R := Lib.hid (Row.new w 27 n.cl.toArray)
  have HB := Lib.hid ((Below.refl _ w).alloc (Nat.le_refl _) (.cells n.cl.toArray 27))
  have HP := Lib.hid (fun i (hi : i < 8) => n.at_pc hi)
  go_enter Try.func60, Try.ntmps60
  go_wp2_with (refine wpList_load_mid rfl _ _ rfl w.heap.size 13 rfl n.pcl _ (ndRp R.out) Try.underlying25 rfl ndIp ?_)
  go_loopw [7] (fun a wr => ∃ k : Nat, a = .int .i64 (k : Int) ∧ k ≤ 8 ∧ (∀ i, i < k → n.ptr i ≠ 0) ∧ wr = w.alloc (.cells n.cl.toArray 27)) (fun a _ => 8 - (intOf a).toNat)
  case atStart => exact ⟨0, rfl, by omega, fun i hi => by omega, rfl⟩
  case round =>
    obtain ⟨k, rfl, hk, hne, rfl⟩ := hrel
    have HE := Lib.hid hne
    clear hne
    by_cases hlt : k < 8
    · have hp := run_ix n hlt
      obtain ⟨x, hx⟩ : ∃ x, x = n.ptr k := ⟨_, rfl⟩
      rw [← hx] at hp
      have HX := Lib.hid hx
      clear hx
      obtain rfl | h0 : x = 0 ∨ x ≠ 0 := by omega
      · go_wp2
        go_ret
        exact ⟨by rw [n.len_eq hk HE.out (fun _ => HX.out.symm)]; rfl, HB.out⟩
      · go_wp2
        refine ⟨⟨k + 1, by go_num, by omega, fun i hi => ?_, trivial⟩, by simp [intOf]; omega⟩
        by_cases e : i = k
        · subst e; rw [← HX.out]; exact h0
        · exact HE.out i (by omega)
    · obtain rfl : k = 8 := by omega
      go_wp2
      go_ret
      exact ⟨by rw [n.len_eq hk HE.out (fun h => absurd h (by omega))]; rfl, HB.out⟩
set_option maxRecDepth 100000 in
set_option maxHeartbeats 1600000 in
theorem r8Len_any (n : Nd) (w : World) : Calls Try.prog 16 #[n.V] w fun e w' => e = .returned (.int .i64 (n.len : Int)) ∧ Below w.heap.size w w' := by
  have R := Lib.hid (Row.new w 27 n.cl.toArray)
  have HB := Lib.hid ((Below.refl _ w).alloc (Nat.le_refl _) (.cells n.cl.toArray 27))
  go_enter Try.func16, Try.ntmps16
  go_wp2_with fail
  go_loopw [3] (fun a wr => ∃ k : Nat, a = .int .i64 (k : Int) ∧ k ≤ 8 ∧ (∀ i, i < k → n.ptr i ≠ 0) ∧ wr = w.alloc (.cells n.cl.toArray 27)) (fun a _ => 8 - (intOf a).toNat)
  case atStart => exact ⟨0, rfl, by omega, fun i hi => by omega, rfl⟩
  case round =>
    obtain ⟨k, rfl, hk, hne, rfl⟩ := hrel
    have HE := Lib.hid hne
    clear hne
    by_cases hlt : k < 8
    · have ck := ndAt_ptr R.out hlt
      obtain ⟨x, hx⟩ : ∃ x, x = n.ptr k := ⟨_, rfl⟩
      rw [← hx] at ck
      have HX := Lib.hid hx
      clear hx
      obtain rfl | h0 : x = 0 ∨ x ≠ 0 := by omega
      · go_wp2
        go_ret
        exact ⟨by rw [n.len_eq hk HE.out (fun _ => HX.out.symm)]; rfl, HB.out⟩
      · go_wp2
        refine ⟨⟨k + 1, by go_num, by omega, fun i hi => ?_, trivial⟩, by simp [intOf]; omega⟩
        by_cases e : i = k
        · subst e; rw [← HX.out]; exact h0
        · exact HE.out i (by omega)
    · obtain rfl : k = 8 := by omega
      go_wp2
      go_ret
      exact ⟨by rw [n.len_eq hk HE.out (fun h => absurd h (by omega))]; rfl, HB.out⟩
set_option maxRecDepth 100000 in
set_option maxHeartbeats 1600000 in
theorem r8Is_any (n : Nd) (w : World) {i : Nat} (hi : i < 8) : Calls Try.prog 34 #[n.V, .int .i64 (i : Int)] w fun e w' => e = .returned (.bool (n.ok i)) ∧ Below w.heap.size w w' := by
  have R := Lib.hid (Row.new w 27 n.cl.toArray)
  have HB := Lib.hid ((Below.refl _ w).alloc (Nat.le_refl _) (.cells n.cl.toArray 27))
  have c4 : (w.alloc (.cells n.cl.toArray 27)).cell? ⟨w.heap.size, 4, none⟩ = some (.int .u64 n.fi) := ndAt_at R.out 4
  have ck := ndAt_ptr R.out hi
  obtain ⟨x, hx⟩ : ∃ x, x = n.ptr i := ⟨_, rfl⟩
  rw [← hx] at ck
  have HX := Lib.hid hx
  clear hx
  obtain rfl | ⟨j, rfl⟩ : i = 0 ∨ ∃ j, i = j + 1 := by cases i; exact .inl rfl; exact .inr ⟨_, rfl⟩
  · go_enter Try.func34, Try.ntmps34
    go_wp2
    go_ret
    exact ⟨by rw [HX.out]; rfl, HB.out⟩
  · have cj := ndAt_ptr R.out (i := j) (by omega)
    obtain ⟨y, hy⟩ : ∃ y, y = n.ptr j := ⟨_, rfl⟩
    rw [← hy] at cj
    have HY := Lib.hid hy
    clear hy
    go_enter Try.func34, Try.ntmps34
    go_wp2
    go_quiet (fail)
    go_wp2
    go_ret
    exact ⟨by rw [HX.out, HY.out]; simp [Nd.ok, Nd.ahd_succ], ⟨HB.out.os, HB.out.tape, HB.out.output, HB.out.size, HB.out.block⟩⟩
end Go.Proofs.Yteojhhfcfdkmdaa
