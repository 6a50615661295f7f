/- fast's begin and end of a change; of any node; conditions: a base that may be. -/
import Derived.Test.YtbadlmicbbjkaaaN9Ch
namespace Go.Proofs.Ytbadlmicbbjkaaa
open Go.RowKit
set_option linter.unusedVariables false
theorem run_build_ch (base : Int) (n : Nd) (W : World) : (Instr.build 98 #[(0, .int .u64 base), (1, .agg n.cl.toArray)]).run Try.prog W = .ok (.agg (chC base n (.slice none 0 0)).toArray) W := by
  kernel_rfl
/-- A change is built of its base and its node. -/
theorem wpList_build_ch {ops : Array Oper} {rest : List Oper} {op : Oper} {a : Act} {w : World} {Q : Exit → Act → World → Prop} (hgd : op.guard = none) (x y : Operand) (ho : op.op = .build 98 #[(0, x), (1, y)])
    (base : Int) (n : Nd) (hx : a.eval x = .int .u64 base) (hy : a.eval y = .agg n.cl.toArray) (h : wpList Try.prog ops Q rest (a.put op.dst (.agg (chC base n (.slice none 0 0)).toArray)) w) : wpList Try.prog ops Q (op :: rest) a w :=
  wpList_plain hgd fun _ hK => by
    unfold Oper.wp execOp
    simp only [ho]
    simp only [List.map_toArray, List.map_cons, List.map_nil, hx, hy, run_build_ch, Sem.run_bind, Sem.run_pure, Result.andThen_ok]
    exact hK _ _ h
set_option maxRecDepth 100000 in
set_option maxHeartbeats 4000000 in
theorem begin_any {base : Int} (hb : 0 ≤ base ∧ base ≤ 1099511627776) (n : Nd) (w : World) : Calls Try.prog 45 #[.int .u64 base, n.V] w fun e w' => ∃ b, e = .returned (.pointer (some ⟨b, 0, none⟩)) ∧ ChAt w' w.heap.size b base n [(base + 24, IntKind.u64.wrap (n.ct + 1))] ∧ Below w.heap.size w w' := by
  have r0 := Row.new w 27 n.cl.toArray
  have HR0 := Lib.hid r0
  obtain ⟨W2, hW2⟩ : ∃ W2, W2 = (w.alloc (.cells n.cl.toArray 27)).alloc (.cells (chC base n (.slice none 0 0)).toArray 98) := ⟨_, rfl⟩
  have c3 : W2.cell? ⟨w.heap.size, 3, none⟩ = some (.int .u64 n.ct) := by rw [hW2]; exact ndAt_at (r0.alloc _) 3
  have hch : ChAt W2 w.heap.size (w.heap.size + 1) base n [] := by
    rw [hW2]
    refine ⟨by omega, .slice none 0 0, ?_, World.ownsRow_nil _ _ _ _, fun e => by cases e⟩
    have := Row.new (w.alloc (.cells n.cl.toArray 27)) 98 (chC base n (.slice none 0 0)).toArray
    simpa only [World.size_alloc] using this
  have HBW := Lib.hid (show Below w.heap.size w W2 by rw [hW2]; exact low_and (alloc_low _ _) (alloc_low _ _))
  have HS := Lib.hid (cstore_any hch (by simp) hb (at_ := 24) (by omega) (IntKind.u64.wrap (n.ct + 1)))
  have HW2 := Lib.hid hW2
  clear r0 hW2 hch
  go_enter Try.func45, Try.ntmps45
  go_wp2_with (first
    | (refine wpList_load_mid rfl _ _ rfl w.heap.size 0 rfl n.cl _ (ndR HR0.out) Try.underlying27 rfl ndI ?_)
    | (refine wpList_build_ch rfl _ _ rfl base n rfl rfl ?_)
    | (rw [← HW2.out])
    | (go_at_call 59; refine HS.out.mono ?_; rintro e w3 ⟨rfl, h3, hb3⟩))
  go_ret
  exact ⟨_, rfl, h3, HBW.out.trans hb3⟩
set_option maxRecDepth 100000 in
set_option maxHeartbeats 4000000 in
theorem cend_any {w : World} {B b : Nat} {base : Int} {n : Nd} {l : List (Int × Int)} (h : ChAt w B b base n l) (hl : l.length ≤ 1000) (hb : 0 ≤ base ∧ base ≤ 1099511627776) :
    Calls Try.prog 47 #[.pointer (some ⟨b, 0, none⟩)] w fun e w' => (∃ v, e = .returned v ∧ w'.ownsRow B 45 2 v (l.length + 1) (flatE (l ++ [(base + 24, IntKind.u64.wrap (n.ct + 2))]))) ∧ Below B w w' := by
  have hn := h.node 3 (.int .u64 n.ct) rfl
  have HS := Lib.hid (cstore_any h hl hb (at_ := 24) (by omega) (IntKind.u64.wrap (n.ct + 2)))
  clear h
  go_enter Try.func47, Try.ntmps47
  go_wp2_with (first
    | (go_at_call 59; refine HS.out.mono ?_; rintro e w3 ⟨rfl, ⟨hB3, v3, hr3, ho3, hn3⟩, hb3⟩; have c22 := (hr3.cell 22).trans List.getElem?_toArray; rw [chC_st] at c22))
  go_ret
  rw [List.length_append] at ho3
  exact ⟨⟨v3, rfl, ho3⟩, hb3⟩
end Go.Proofs.Ytbadlmicbbjkaaa
