/- Texts of this claim, packed: N8Len. -/
import Derived.Test.YtiefgmibgdidpaaGreatDoorPh06
import Derived.BigQuiet
import Derived.Deep.QuietTactic
/- How many entries a node has: node.Len, and the document's; whether the entry at a place is valid; isLevel; of any node; without conditions. -/
namespace Go.Proofs.YtiefgmibgdidpaaGreatDoor
open Go.RowKit
set_option linter.unusedVariables false

theorem run_ix (n : Nd) {k : Nat} (hk : k < 8) (W : World) : (Instr.index 33 (.agg n.pcl.toArray) (.int .i64 (k : Int))).run Tryz.prog W = .ok (.int .u64 (n.ptr k)) W := by
  have hu := Tryz.underlying33
  rcases lt8 hk with rfl | rfl | rfl | rfl | rfl | rfl | rfl | rfl <;>
    simp [Instr.index, go_sem, hu, Nd.pcl, Nd.ptr, Nd.ptrs]
set_option maxRecDepth 100000 in
set_option maxHeartbeats 1600000 in
theorem nlen_any (n : Nd) (w : World) : Calls Tryz.prog 115 #[n.V] w fun e w' => e = .returned (.int .i64 (n.len : Int)) ∧ Below w.heap.size w w' := by
  have R := Lib.hid (Row.new w 35 n.cl.toArray)
  have HB := Lib.hid ((Below.refl _ w).alloc (Nat.le_refl _) (.cells n.cl.toArray 35))
  have HP := Lib.hid (fun i (hi : i < 8) => n.at_pc hi)
  go_enter Tryz.func115, Tryz.ntmps115
  go_wp2_with (refine wpList_load_mid rfl _ _ rfl w.heap.size 13 rfl n.pcl _ (ndRp R.out) Tryz.underlying33 rfl ndIp ?_)
  go_loopw [7] (fun a wr => ∃ k : Nat, a = .int .i64 (k : Int) ∧ k ≤ 8 ∧ (∀ i, i < k → n.ptr i ≠ 0) ∧ wr = w.alloc (.cells n.cl.toArray 35)) (fun a _ => 8 - (intOf a).toNat)
  case atStart => exact ⟨0, rfl, by omega, fun i hi => by omega, rfl⟩
  case round =>
    obtain ⟨k, rfl, hk, hne, rfl⟩ := hrel
    have HE := Lib.hid hne
    clear hne
    by_cases hlt : k < 8
    · have hp := run_ix n hlt
      obtain ⟨x, hx⟩ : ∃ x, x = n.ptr k := ⟨_, rfl⟩
      rw [← hx] at hp
      have HX := Lib.hid hx
      clear hx
      obtain rfl | h0 : x = 0 ∨ x ≠ 0 := by omega
      · go_wp2
        go_ret
        exact ⟨by rw [n.len_eq hk HE.out (fun _ => HX.out.symm)]; rfl, HB.out⟩
      · go_wp2
        refine ⟨⟨k + 1, by go_num, by omega, fun i hi => ?_, trivial⟩, by simp [intOf]; omega⟩
        by_cases e : i = k
        · subst e; rw [← HX.out]; exact h0
        · exact HE.out i (by omega)
    · obtain rfl : k = 8 := by omega
      go_wp2
      go_ret
      exact ⟨by rw [n.len_eq hk HE.out (fun h => absurd h (by omega))]; rfl, HB.out⟩
end Go.Proofs.YtiefgmibgdidpaaGreatDoor
