/- Texts of this claim, packed: N9Eq. -/
import Derived.Test.YtbadlmicbbjkaaaPe02
import Derived.Laws.StructEq
/- A node equal to itself; no conditions. -/
namespace Go.Proofs.Ytbadlmicbbjkaaa
open Go.RowKit
set_option linter.unusedVariables false
theorem infU : (Try.prog.info? 22).map (fun i => (i.zero, i.size, i.bytes)) = some (some (.int .u64 0), 1, 8) := by kernel_rfl
theorem infA : (Try.prog.info? 23).map (fun i => (i.zero, i.size, i.bytes)) = some (some (.int .u64 0), 1, 8) := by kernel_rfl
theorem celU : Try.prog.cellsOf 22 = 1 := by kernel_rfl
theorem celA : Try.prog.cellsOf 23 = 1 := by kernel_rfl
theorem plnU : Try.prog.plainKey 22 = true := by kernel_rfl
theorem plnA : Try.prog.plainKey 23 = true := by kernel_rfl
theorem itemsG (dd : Nat) {e : TypeId} (he : Try.prog.plainKey e = true) (hu : Try.prog.underlying e = some (.int .u64)) (xs : Array Value) (w : World) : ∀ is : List Nat, (∀ i ∈ is, ∃ x, xs[i]? = some (.int .u64 x)) → (Op.eqItems (dd + 1) e 1 xs xs is).run Try.prog w = .ok true w
  | [], _ => by simp [Op.eqItems]
  | i :: is, h => by
    obtain ⟨x, hx⟩ := h i (by simp)
    have hp := run_part_plain (P := Try.prog) w he (xs := xs) (off := i) hx
    have hq := run_equalIn_int (P := Try.prog) w dd e .u64 .u64 x x hu
    simp only [beq_self_eq_true] at hq
    have hi := itemsG dd he hu xs w is (fun j hj => h j (by simp [hj]))
    simp only [Op.eqItems, Sem.run_bind, Nat.mul_one, hp, Result.andThen_ok, hq, Bool.not_true, Bool.false_eq_true, if_false, hi]
theorem eqArr (dd : Nat) {t e : TypeId} {n : Nat} (ht : Try.prog.underlying t = some (.array n e)) (hi : (Try.prog.info? e).map (fun i => (i.zero, i.size, i.bytes)) = some (some (.int .u64 0), 1, 8)) (hc : Try.prog.cellsOf e = 1) (he : Try.prog.plainKey e = true) (hu : Try.prog.underlying e = some (.int .u64))
    (xs : Array Value) (h : ∀ i, i < n → ∃ x, xs[i]? = some (.int .u64 x)) (w : World) : (Op.equalIn (dd + 2) t (.agg xs) (.agg xs)).run Try.prog w = .ok true w := by
  obtain ⟨i0, hi0, hz0, hz1, hz2⟩ := info_parts hi
  rw [run_equalIn_array (P := Try.prog) w (dd + 1) xs xs ht hi0, hc]
  exact itemsG dd he hu xs w _ (fun i hi => h i (List.mem_range.1 hi))
theorem eqK (n : Nd) (w : World) : (Op.equalIn 9999 24 (.agg (List.take 8 (List.drop 5 n.cl)).toArray) (.agg (List.take 8 (List.drop 5 n.cl)).toArray)).run Try.prog w = .ok true w :=
  eqArr 9997 Try.underlying24 infU celU plnU Try.underlying22 _ (fun i hi => by rcases lt8 hi with rfl | rfl | rfl | rfl | rfl | rfl | rfl | rfl <;> exact ⟨_, rfl⟩) w
theorem eqP (n : Nd) (w : World) : (Op.equalIn 9999 25 (.agg (List.take 8 (List.drop 13 n.cl)).toArray) (.agg (List.take 8 (List.drop 13 n.cl)).toArray)).run Try.prog w = .ok true w :=
  eqArr 9997 Try.underlying25 infA celA plnA Try.underlying23 _ (fun i hi => by rcases lt8 hi with rfl | rfl | rfl | rfl | rfl | rfl | rfl | rfl <;> exact ⟨_, rfl⟩) w
set_option maxRecDepth 100000 in
theorem eqNd (n : Nd) (w : World) : (Op.equalIn 10000 27 n.V n.V).run Try.prog w = .ok true w := by
  have hS : Try.prog.underlying 27 = some (.struct (Try.prog.fieldsOf 27)) := by kernel_rfl
  have hp : Try.prog.stoodInHeld 27 = false := by kernel_rfl
  have g0 : n.cl[0]? = some (.int .i64 n.l) := rfl
  have g1 : n.cl[1]? = some (.int .u64 n.lo) := rfl
  have g2 : n.cl[2]? = some (.int .u64 n.nx) := rfl
  have g3 : n.cl[3]? = some (.int .u64 n.ct) := rfl
  have g4 : n.cl[4]? = some (.int .u64 n.fi) := rfl
  have e0 := fun W => run_equalIn_int (P := Try.prog) W 9998 3 .i64 .i64 n.l n.l Try.underlying3
  have e1 := fun W (x : Int) => run_equalIn_int (P := Try.prog) W 9998 22 .u64 .u64 x x Try.underlying22
  have e2 := fun W (x : Int) => run_equalIn_int (P := Try.prog) W 9998 23 .u64 .u64 x x Try.underlying23
  have e3 := fun W => eqK n W
  have e4 := fun W => eqP n W
  unfold Nd.V
  rw [show (10000 : Nat) = 9999 + 1 from rfl, run_equalIn_agg w 9999 27 _ _ hS hp]
  simp only [Program.fieldsOf, Try.underlying27]
  go_simp
theorem eq_node (n : Nd) (w : World) : (binOp .eql 27 n.V n.V).run Try.prog w = .ok (.bool true) w := by
  unfold Nd.V
  rw [run_eql_struct]
  have := eqNd n w
  unfold Nd.V at this
  rw [this]
  rfl
theorem neq_node (n : Nd) (w : World) : (binOp .neq 27 n.V n.V).run Try.prog w = .ok (.bool false) w := by
  unfold Nd.V
  rw [run_neq_struct]
  have := eqNd n w
  unfold Nd.V at this
  rw [this]
  rfl
end Go.Proofs.Ytbadlmicbbjkaaa
