/- Texts of this claim, packed: N8Len. -/
import Derived.Test.YtkbklooocdfcfaaGreatDoorPz06
import Derived.BigQuiet
import Derived.Deep.QuietTactic
set_option linter.unusedVariables false
set_option maxRecDepth 100000
set_option maxHeartbeats 6400000
namespace Go.Proofs.YtkbklooocdfcfaaGreatDoor
open Go.RowKit
theorem isLevel_any (l : Int) (w : World) : Calls Tryz.prog 119 #[.int .i64 l] w fun e w' => e = .returned (.bool (decide (0 <= l) && decide (l <= 15))) /\ w = w' := by
 go_enter Tryz.func119, Tryz.ntmps119
 obtain h | h : 0 <= l \/ l < 0 := by omega
 ·go_wp2
  go_ret
  simp [h]
 ·go_wp2
  go_ret
  simp
  omega
theorem run_ix (n : Nd) {k : Nat} (hk : k < 8) (W : World) : (Instr.index 69 (.agg n.pcl.toArray) (.int .i64 (k : Int))).run Tryz.prog W = .ok (.int .u64 (n.ptr k)) W := by
 have hu := Tryz.underlying69
 rcases lt8 hk with rfl | rfl | rfl | rfl | rfl | rfl | rfl | rfl <;>
  simp [Instr.index, go_sem, hu, Nd.pcl, Nd.ptr, Nd.ptrs]
theorem nlen_any (n : Nd) (w : World) : Calls Tryz.prog 83 #[n.V] w fun e w' => e = .returned (.int .i64 (n.len : Int)) /\ Below w.heap.size w w' := by
 have R := Lib.hid (Row.new w 71 n.cl.toArray)
 have HB := Lib.hid ((Below.refl _ w).alloc (Nat.le_refl _) (.cells n.cl.toArray 71))
 have HP := Lib.hid (fun i (hi : i < 8) => n.at_pc hi)
 go_enter Tryz.func83, Tryz.ntmps83
 go_wp2_with (refine wpList_load_mid rfl _ _ rfl w.heap.size 13 rfl n.pcl _ (ndRp R.out) Tryz.underlying69 rfl ndIp ?_)
 go_loopw [7] (fun a wr => ∃ k : Nat, a = .int .i64 (k : Int) /\ k <= 8 /\ (∀ i, i < k -> n.ptr i ≠ 0) /\ wr = w.alloc (.cells n.cl.toArray 71)) (fun a _ => 8 - (intOf a).toNat)
 case atStart => exact ⟨0, rfl, by omega, fun i hi => by omega, rfl⟩
 case round =>
  obtain ⟨k, rfl, hk, hne, rfl⟩ := hrel
  have HE := Lib.hid hne
  clear hne
  by_cases hlt : k < 8
  ·have hp := run_ix n hlt
   obtain ⟨x, hx⟩ : ∃ x, x = n.ptr k := ⟨_, rfl⟩
   rw [<- hx] at hp
   have HX := Lib.hid hx
   clear hx
   obtain rfl | h0 : x = 0 \/ x ≠ 0 := by omega
   ·go_wp2
    go_ret
    exact ⟨by rw [n.len_eq hk HE.out (fun _ => HX.out.symm)]; rfl, HB.out⟩
   ·go_wp2
    refine ⟨⟨k + 1, by go_num, by omega, fun i hi => ?_, trivial⟩, by simp [intOf]; omega⟩
    by_cases e : i = k
    ·subst e; rw [<- HX.out]; exact h0
    ·exact HE.out i (by omega)
  ·obtain rfl : k = 8 := by omega
   go_wp2
   go_ret
   exact ⟨by rw [n.len_eq hk HE.out (fun h => absurd h (by omega))]; rfl, HB.out⟩
theorem r8Len_any (n : Nd) (w : World) : Calls Tryz.prog 29 #[n.V] w fun e w' => e = .returned (.int .i64 (n.len : Int)) /\ Below w.heap.size w w' := by
 have R := Lib.hid (Row.new w 71 n.cl.toArray)
 have HB := Lib.hid ((Below.refl _ w).alloc (Nat.le_refl _) (.cells n.cl.toArray 71))
 go_enter Tryz.func29, Tryz.ntmps29
 go_wp2_with fail
 go_loopw [3] (fun a wr => ∃ k : Nat, a = .int .i64 (k : Int) /\ k <= 8 /\ (∀ i, i < k -> n.ptr i ≠ 0) /\ wr = w.alloc (.cells n.cl.toArray 71)) (fun a _ => 8 - (intOf a).toNat)
 case atStart => exact ⟨0, rfl, by omega, fun i hi => by omega, rfl⟩
 case round =>
  obtain ⟨k, rfl, hk, hne, rfl⟩ := hrel
  have HE := Lib.hid hne
  clear hne
  by_cases hlt : k < 8
  ·have ck := ndAt_ptr R.out hlt
   obtain ⟨x, hx⟩ : ∃ x, x = n.ptr k := ⟨_, rfl⟩
   rw [<- hx] at ck
   have HX := Lib.hid hx
   clear hx
   obtain rfl | h0 : x = 0 \/ x ≠ 0 := by omega
   ·go_wp2
    go_ret
    exact ⟨by rw [n.len_eq hk HE.out (fun _ => HX.out.symm)]; rfl, HB.out⟩
   ·go_wp2
    refine ⟨⟨k + 1, by go_num, by omega, fun i hi => ?_, trivial⟩, by simp [intOf]; omega⟩
    by_cases e : i = k
    ·subst e; rw [<- HX.out]; exact h0
    ·exact HE.out i (by omega)
  ·obtain rfl : k = 8 := by omega
   go_wp2
   go_ret
   exact ⟨by rw [n.len_eq hk HE.out (fun h => absurd h (by omega))]; rfl, HB.out⟩
end Go.Proofs.YtkbklooocdfcfaaGreatDoor
