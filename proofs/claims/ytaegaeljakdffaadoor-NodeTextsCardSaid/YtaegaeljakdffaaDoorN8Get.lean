/- Find, At, Child: of any node, any key; without conditions. -/
import Derived.Test.YtaegaeljakdffaaDoorN8At
namespace Go.Proofs.YtaegaeljakdffaaDoor
open Go.RowKit Go.Shelf
set_option linter.unusedVariables false

theorem foldl_le (n : Nd) (key : Int) : ∀ (l : List Nat) (a : Nat), a ≤ 8 → (∀ x ∈ l, x < 8) → l.foldl (fun a p => if n.key p ≤ key then p + 1 else a) a ≤ 8
  | [], a, ha, _ => ha
  | x :: l, a, ha, h => by
    rw [List.foldl_cons]
    refine foldl_le n key l _ ?_ fun y hy => h y (List.mem_cons_of_mem _ hy)
    have := h x (by simp)
    split <;> omega
theorem atL_le (n : Nd) (key : Int) (l : List Nat) (h : ∀ x ∈ l, x < 8) : atL n key l ≤ 8 := foldl_le n key l 0 (by omega) h
theorem at_le (n : Nd) (key : Int) : n.at key ≤ 8 := atL_le n key _ fun x hx => n.vp_lt8 hx
set_option maxRecDepth 100000 in
set_option maxHeartbeats 1600000 in
theorem nFind_any (n : Nd) (key : Int) (w : World) : Calls Tryd.prog 15 #[n.V, .int .u64 key] w fun e w' => e = .returned (.tuple #[.int .i64 (optI (n.find key)), .bool (n.find key).isSome]) ∧ Below w.heap.size w w' := by
  obtain ⟨W0, hW0⟩ : ∃ W0, W0 = (w.alloc (.cells n.cl.toArray 27)).alloc (.cells #[.int .u64 key] 22) := ⟨_, rfl⟩
  have hb : Below w.heap.size w W0 := by rw [hW0]; exact low_and (alloc_low _ _) (alloc_low _ _)
  have r0 : NdAt W0 w.heap.size n := by rw [hW0]; exact (Row.new _ _ _).alloc _
  have c1 : W0.cell? ⟨w.heap.size + 1, 0, none⟩ = some (.int .u64 key) := by
    have := (Row.new (w.alloc (.cells n.cl.toArray 27)) 22 #[.int .u64 key]).cell 0
    simp only [World.size_alloc] at this
    rw [hW0, this]
    rfl
  have HW := Lib.hid hW0
  have R0 := Lib.hid r0
  have HF := Lib.hid (findF_any n key (w.heap.size + 1) W0 c1)
  have HB := Lib.hid hb
  clear hW0 r0 c1 hb
  go_enter Tryd.func15, Tryd.ntmps15
  go_wp2_with (first | (rw [← HW.out]; refine wpList_load_mid rfl _ _ rfl w.heap.size 0 rfl n.cl _ (ndR R0.out) Tryd.underlying27 rfl ndI ?_) | (go_at_call 27; refine HF.out.mono ?_; rintro e w' ⟨rfl, hb⟩))
  go_ret2
  exact ⟨rfl, low_and HB.out hb⟩
set_option maxRecDepth 100000 in
set_option maxHeartbeats 1600000 in
theorem nAt_any (n : Nd) (key : Int) (w : World) : Calls Tryd.prog 17 #[n.V, .int .u64 key] w fun e w' => e = .returned (.int .i64 (n.at key : Int)) ∧ Below w.heap.size w w' := by
  obtain ⟨W0, hW0⟩ : ∃ W0, W0 = (w.alloc (.cells n.cl.toArray 27)).alloc (.cells #[.int .u64 key] 22) := ⟨_, rfl⟩
  have hb : Below w.heap.size w W0 := by rw [hW0]; exact low_and (alloc_low _ _) (alloc_low _ _)
  have r0 : NdAt W0 w.heap.size n := by rw [hW0]; exact (Row.new _ _ _).alloc _
  have c1 : W0.cell? ⟨w.heap.size + 1, 0, none⟩ = some (.int .u64 key) := by
    have := (Row.new (w.alloc (.cells n.cl.toArray 27)) 22 #[.int .u64 key]).cell 0
    simp only [World.size_alloc] at this
    rw [hW0, this]
    rfl
  have HW := Lib.hid hW0
  have R0 := Lib.hid r0
  have HF := Lib.hid (behind_any n key (w.heap.size + 1) W0 c1)
  have HB := Lib.hid hb
  clear hW0 r0 c1 hb
  go_enter Tryd.func17, Tryd.ntmps17
  go_wp2_with (first | (rw [← HW.out]; refine wpList_load_mid rfl _ _ rfl w.heap.size 0 rfl n.cl _ (ndR R0.out) Tryd.underlying27 rfl ndI ?_) | (go_at_call 29; refine HF.out.mono ?_; rintro e w' ⟨rfl, hb⟩))
  go_ret
  exact ⟨rfl, low_and HB.out hb⟩
/-- By which pointer a key is looked for. -/
def Nd.child (n : Nd) (key : Int) : Int := if n.at key = 0 then n.fi else n.ptr (n.at key - 1)
end Go.Proofs.YtaegaeljakdffaaDoor
