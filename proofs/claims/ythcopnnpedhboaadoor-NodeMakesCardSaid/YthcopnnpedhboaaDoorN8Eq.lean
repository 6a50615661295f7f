/- A node is equal to itself, and so are twenty-four words; no conditions. -/
import Derived.Test.YthcopnnpedhboaaDoorN8Of
import Derived.Test.YthcopnnpedhboaaDoorN8Same
namespace Go.Proofs.YthcopnnpedhboaaDoor
open Go.RowKit
set_option linter.unusedVariables false
set_option linter.unusedSimpArgs false
theorem infU : (Tryd.prog.info? 22).map (fun i => (i.zero, i.size, i.bytes)) = some (some (.int .u64 0), 1, 8) := by kernel_rfl
theorem infA : (Tryd.prog.info? 23).map (fun i => (i.zero, i.size, i.bytes)) = some (some (.int .u64 0), 1, 8) := by kernel_rfl
theorem celU : Tryd.prog.cellsOf 22 = 1 := by kernel_rfl
theorem celA : Tryd.prog.cellsOf 23 = 1 := by kernel_rfl
theorem plnU : Tryd.prog.plainKey 22 = true := by kernel_rfl
theorem plnA : Tryd.prog.plainKey 23 = true := by kernel_rfl
theorem itemsG (dd : Nat) {e : TypeId} (he : Tryd.prog.plainKey e = true) (hu : Tryd.prog.underlying e = some (.int .u64)) (xs : Array Value) (w : World) : ∀ is : List Nat, (∀ i ∈ is, ∃ x, xs[i]? = some (.int .u64 x)) → (Op.eqItems (dd + 1) e 1 xs xs is).run Tryd.prog w = .ok true w
  | [], _ => by simp [Op.eqItems]
  | i :: is, h => by
    obtain ⟨x, hx⟩ := h i (by simp)
    have hp := run_part_plain (P := Tryd.prog) w he (xs := xs) (off := i) hx
    have hq := run_equalIn_int (P := Tryd.prog) w dd e .u64 .u64 x x hu
    simp only [beq_self_eq_true] at hq
    have hi := itemsG dd he hu xs w is (fun j hj => h j (by simp [hj]))
    simp only [Op.eqItems, Sem.run_bind, Nat.mul_one, hp, Result.andThen_ok, hq, Bool.not_true, Bool.false_eq_true, if_false, hi]
theorem eqArr (dd : Nat) {t e : TypeId} {n : Nat} (ht : Tryd.prog.underlying t = some (.array n e)) (hi : (Tryd.prog.info? e).map (fun i => (i.zero, i.size, i.bytes)) = some (some (.int .u64 0), 1, 8)) (hc : Tryd.prog.cellsOf e = 1) (he : Tryd.prog.plainKey e = true) (hu : Tryd.prog.underlying e = some (.int .u64))
    (xs : Array Value) (h : ∀ i, i < n → ∃ x, xs[i]? = some (.int .u64 x)) (w : World) : (Op.equalIn (dd + 2) t (.agg xs) (.agg xs)).run Tryd.prog w = .ok true w := by
  obtain ⟨i0, hi0, hz0, hz1, hz2⟩ := info_parts hi
  rw [run_equalIn_array (P := Tryd.prog) w (dd + 1) xs xs ht hi0, hc]
  exact itemsG dd he hu xs w _ (fun i hi => h i (List.mem_range.1 hi))
theorem eqK (n : Nd) (w : World) : (Op.equalIn 9999 26 (.agg (List.take 8 (List.drop 5 n.cl)).toArray) (.agg (List.take 8 (List.drop 5 n.cl)).toArray)).run Tryd.prog w = .ok true w :=
  eqArr 9997 Tryd.underlying26 infU celU plnU Tryd.underlying22 _ (fun i hi => by rcases lt8 hi with rfl | rfl | rfl | rfl | rfl | rfl | rfl | rfl <;> exact ⟨_, rfl⟩) w
theorem eqP (n : Nd) (w : World) : (Op.equalIn 9999 27 (.agg (List.take 8 (List.drop 13 n.cl)).toArray) (.agg (List.take 8 (List.drop 13 n.cl)).toArray)).run Tryd.prog w = .ok true w :=
  eqArr 9997 Tryd.underlying27 infA celA plnA Tryd.underlying23 _ (fun i hi => by rcases lt8 hi with rfl | rfl | rfl | rfl | rfl | rfl | rfl | rfl <;> exact ⟨_, rfl⟩) w
set_option maxRecDepth 100000 in
theorem eqNd (n : Nd) (w : World) : (Op.equalIn 10000 29 n.V n.V).run Tryd.prog w = .ok true w := by
  have hS : Tryd.prog.underlying 29 = some (.struct (Tryd.prog.fieldsOf 29)) := by kernel_rfl
  have hp : Tryd.prog.stoodInHeld 29 = false := by kernel_rfl
  have g0 : n.cl[0]? = some (.int .i64 n.l) := rfl
  have g1 : n.cl[1]? = some (.int .u64 n.lo) := rfl
  have g2 : n.cl[2]? = some (.int .u64 n.nx) := rfl
  have g3 : n.cl[3]? = some (.int .u64 n.ct) := rfl
  have g4 : n.cl[4]? = some (.int .u64 n.fi) := rfl
  have e0 := fun W => run_equalIn_int (P := Tryd.prog) W 9998 3 .i64 .i64 n.l n.l Tryd.underlying3
  have e1 := fun W (x : Int) => run_equalIn_int (P := Tryd.prog) W 9998 22 .u64 .u64 x x Tryd.underlying22
  have e2 := fun W (x : Int) => run_equalIn_int (P := Tryd.prog) W 9998 23 .u64 .u64 x x Tryd.underlying23
  have e3 := fun W => eqK n W
  have e4 := fun W => eqP n W
  unfold Nd.V
  rw [show (10000 : Nat) = 9999 + 1 from rfl, run_equalIn_agg w 9999 29 _ _ hS hp]
  simp only [Program.fieldsOf, Tryd.underlying29]
  go_simp
theorem eq_node (n : Nd) (w : World) : (binOp .eql 29 n.V n.V).run Tryd.prog w = .ok (.bool true) w := by
  unfold Nd.V
  rw [run_eql_struct]
  have := eqNd n w
  unfold Nd.V at this
  rw [this]
  rfl
theorem neq_node (n : Nd) (w : World) : (binOp .neq 29 n.V n.V).run Tryd.prog w = .ok (.bool false) w := by
  unfold Nd.V
  rw [run_neq_struct]
  have := eqNd n w
  unfold Nd.V at this
  rw [this]
  rfl
/-- A node's words, as integers. -/
def wi (n : Nd) : List Int := if isLv n = true then [5495893775785918464 + n.l, n.lo, n.nx, n.ct, n.fi, 0, 0, 0, n.k0, n.p0, n.k1, n.p1, n.k2, n.p2, n.k3, n.p3, n.k4, n.p4, n.k5, n.p5, n.k6, n.p6, n.k7, n.p7]
  else [0, 0, 0, 0, 0, 0, 0, 0, 0, 0, 0, 0, 0, 0, 0, 0, 0, 0, 0, 0, 0, 0, 0, 0]
theorem wi_len (n : Nd) : (wi n).length = 24 := by unfold wi; split <;> rfl
theorem wi_words (n : Nd) : wordsL n = (wi n).map uw := by unfold wordsL wi; split <;> rfl
theorem wi_of (n : Nd) : (0 ≤ wAt (wi n) 0 ∧ wAt (wi n) 0 < 18446744073709551616) ∧ ofR (wi n) = if isLv n = true then (n, 0) else (zeroNd, 11) := by
  by_cases h : isLv n = true
  · have hb : 0 ≤ n.l ∧ n.l ≤ 15 := by simpa [isLv] using h
    have e : wi n = [5495893775785918464 + n.l, n.lo, n.nx, n.ct, n.fi, 0, 0, 0, n.k0, n.p0, n.k1, n.p1, n.k2, n.p2, n.k3, n.p3, n.k4, n.p4, n.k5, n.p5, n.k6, n.p6, n.k7, n.p7] := by unfold wi; rw [if_pos h]
    have e0 : wAt (wi n) 0 = 5495893775785918464 + n.l := by rw [e]; rfl
    refine ⟨by rw [e0]; omega, ?_⟩
    unfold ofR
    rw [e0, if_pos (by omega), if_pos h, show 5495893775785918464 + n.l - 5495893775785918464 = n.l by omega, e]
    cases n
    simp [ofN, Nd.put, wAt]
  · have e : wi n = [0, 0, 0, 0, 0, 0, 0, 0, 0, 0, 0, 0, 0, 0, 0, 0, 0, 0, 0, 0, 0, 0, 0, 0] := by unfold wi; rw [if_neg h]
    have e0 : wAt (wi n) 0 = 0 := by rw [e]; rfl
    refine ⟨by rw [e0]; omega, ?_⟩
    unfold ofR
    rw [e0, if_neg (by omega), if_neg h]
end Go.Proofs.YthcopnnpedhboaaDoor
