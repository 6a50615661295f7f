/- Texts of this claim, packed: 7Open. -/
import Derived.Test.YtgclbeagifoifaaPc21
import Derived.OpenShut
import Derived.Deep.SlicePairs
/- An argument that is a list of acts: what lies in memory. -/
namespace Go.Proofs.Ytgclbeagifoifaa
open Go.ChangeShapes Go.WideShapes Go.RowKit
set_option linter.unusedVariables false
instance : Inhabited Ac := ⟨⟨0, 0, 0⟩⟩
set_option maxRecDepth 100000 in
theorem open_acts {H : Type} {enc : TypeId × Value → H} {W : World} {held : Bool} {spare : Nat → Bool} {fuel : Nat} {A : Option Addr} {n cap : Nat} {x : DataW H × List MemPlace} (h : DataW.trod enc Try.prog W 0 spare held fuel 22 (Value.slice A n cap).cells.toList = some x) :
    ∃ l, ActsIn W A n cap l := by
  rcases Go.Deep.open_slice Try.underlying22 h with ⟨hcs, _⟩ | ⟨a, len, cp, m, k, D, Pl, hcs, hb, hl, hm, hmm, _, hx⟩
  · simp [Value.cells] at hcs
    obtain ⟨rfl, rfl, rfl⟩ := hcs
    exact ⟨[], rfl, Nat.le_refl _, by decide, fun h => absurd h (by decide)⟩
  · simp [Value.cells] at hcs
    obtain ⟨rfl, rfl, rfl⟩ := hcs
    have hnm : n ≤ m := by rw [hmm]; split <;> omega
    have hc3 : Try.prog.cellsOf 36 = 3 := by kernel_rfl
    have hw : ∀ i, i < n → ∃ q : Ac, W.cell? (a.add (i * 3)) = some (.int .i64 q.k) ∧ W.cell? ((a.add (i * 3)).add 1) = some (.int .i64 q.c) ∧ W.cell? ((a.add (i * 3)).add 2) = some (.int .u64 (q.id : Int)) ∧ q.id < 18446744073709551616 := fun i hi => by
      obtain ⟨cs', h1, h2⟩ := hx i (by omega)
      rw [hc3] at h1
      obtain ⟨_, hlen, hcell⟩ := World.cells?_some h1
      obtain ⟨xs, k', hk, hxy, _, hxl, hf⟩ := DataW.trod_struct Try.underlying36 h2
      match xs, hxl, cs', hlen with
      | [y0, y1, y2], _, [v0, v1, v2], _ =>
        have g0 := hf 0 _ rfl
        have g1 := hf 1 _ rfl
        have g2 := hf 2 _ rfl
        have e0 := hcell 0 (by omega)
        have e1 := hcell 1 (by omega)
        have e2 := hcell 2 (by omega)
        have ci : Try.prog.cellsOf 3 = 1 := by kernel_rfl
        have ca : Try.prog.cellsOf 34 = 1 := by kernel_rfl
        simp [ci, ca] at g0 g1 g2
        obtain ⟨n0, t0, _, f0⟩ := DataW.trod_int (by kernel_rfl) g0
        obtain ⟨n1, t1, _, f1⟩ := DataW.trod_int (by kernel_rfl) g1
        obtain ⟨n2, t2, _, f2⟩ := DataW.trod_int (by kernel_rfl) g2
        have b2 := bounds_u64 f2
        simp only [List.cons.injEq, and_true] at t0 t1 t2
        refine ⟨⟨n0, n1, n2.toNat⟩, ?_, ?_, ?_, by show n2.toNat < _; omega⟩
        · rw [← t0]; rw [Go.Deep.add_add, Nat.add_zero] at e0; simpa using e0
        · rw [← t1]; simpa using e1
        · show _ = some (Value.int .u64 ((n2.toNat : Nat) : Int))
          rw [show ((n2.toNat : Nat) : Int) = n2 from by omega, ← t2]
          simpa using e2
    obtain ⟨q, hq⟩ := Go.Deep.choose_lt hw
    have hget : ∀ i, i < n → acAt ((List.range n).map q) i = q i := fun i hi => by
      unfold acAt
      rw [List.getD_eq_getElem?_getD, List.getElem?_map, List.getElem?_range hi]; rfl
    refine ⟨(List.range n).map q, by simp, hl, by omega, fun _ => ⟨a, rfl, ⟨fun i hi => ?_, fun i hi => ?_, fun i hi => ?_, fun i hi => ?_⟩⟩⟩
    all_goals have hi' : i < n := by simpa using hi
    all_goals rw [hget i hi']
    · exact (hq i hi').1
    · exact (hq i hi').2.1
    · exact (hq i hi').2.2.1
    · exact (hq i hi').2.2.2
end Go.Proofs.Ytgclbeagifoifaa
