/- Texts of this claim, packed: ArgP. -/
import Derived.Test.YtaabdmlmemmnaaaPk23
import Derived.OpenShut
import Derived.Deep.SlicePairs
/- Arguments: a store, a list of stores: opened and shut; no conditions. -/
namespace Go.Proofs.Ytaabdmlmemmnaaa
open Go.RowKit Go.ChangeShapes Go.WideShapes
set_option linter.unusedVariables false
section
variable {H : Type} {enc : TypeId × Value → H} {w : World} {base : Nat} {spare : Nat → Bool} {held : Bool}
theorem u64_wf' {a : Int} (h : (Lit.int .u64 a).wf = true) : 0 ≤ a ∧ a < 18446744073709551616 := by
  simp only [Lit.wf, Bool.and_eq_true, decide_eq_true_eq] at h
  have hmin : IntKind.u64.min = 0 := rfl
  have hmax : IntKind.u64.max = 18446744073709551615 := rfl
  omega
theorem i64_wf' {a : Int} (h : (Lit.int .i64 a).wf = true) : -9223372036854775808 ≤ a ∧ a ≤ 9223372036854775807 := by
  simp only [Lit.wf, Bool.and_eq_true, decide_eq_true_eq] at h
  have hmin : IntKind.i64.min = -9223372036854775808 := rfl
  have hmax : IntKind.i64.max = 9223372036854775807 := rfl
  omega
theorem arr2 {l : List Value} (h : l.length = 2) : ∃ a0 a1, l = [a0, a1] := by
  match l, h with
  | [a0, a1], _ => exact ⟨a0, a1, rfl⟩
theorem cellsPutR : Try.prog.cellsOf 66 = 2 := by kernel_rfl
theorem cellsU64R : Try.prog.cellsOf 22 = 1 := by kernel_rfl
theorem cellsAdR : Try.prog.cellsOf 23 = 1 := by kernel_rfl
set_option maxRecDepth 100000 in
theorem open_put {r : Reach} {b0 : Nat} {v : Value} {d : DataW H} {p : List MemPlace} (hv : Value.okWide Try.prog w r b0 66 v) (h : DataW.Trod enc Try.prog w base spare held 66 v d p) :
    ∃ a0 a1 : Int, v = .agg #[.int .u64 a0, .int .u64 a1] ∧ d = .agg [.lit (.int .u64 a0), .lit (.int .u64 a1)] ∧ p = [] ∧ (Lit.int .u64 a0).wf = true ∧ (Lit.int .u64 a1).wf = true := by
  simp only [Value.okWide, Try.underlying66] at hv
  obtain ⟨cs, rfl, hs, _⟩ := hv
  obtain ⟨l⟩ := cs
  obtain ⟨z0, z1, rfl⟩ := arr2 (l := l) (by simpa [cellsPutR] using hs)
  obtain ⟨fuel, h⟩ := h
  obtain ⟨xs, n, rfl, hx, _, hl, hg⟩ := DataW.trod_struct Try.underlying66 h
  have hl2 : xs.length = 2 := hl
  match xs, hl2 with
  | [x0, x1], _ =>
    have g0 : DataW.trod enc Try.prog w base spare held n 23 [z0] = some x0 := by
      have := hg 0 _ rfl
      simpa [cellsAdR, Value.cells] using this
    have g1 : DataW.trod enc Try.prog w base spare held n 22 [z1] = some x1 := by
      have := hg 1 _ rfl
      simpa [cellsU64R, Value.cells] using this
    obtain ⟨a0, q0, rfl, w0⟩ := DataW.trod_int Try.underlying23 g0
    simp at q0
    subst q0
    obtain ⟨a1, q1, rfl, w1⟩ := DataW.trod_int Try.underlying22 g1
    simp at q1
    subst q1
    simp at hx
    exact ⟨a0, a1, rfl, hx.1, hx.2, w0, w1⟩
set_option maxRecDepth 100000 in
theorem shut_put {a0 a1 : Int} (w0 : (Lit.int .u64 a0).wf = true) (w1 : (Lit.int .u64 a1).wf = true) :
    DataW.Trod enc Try.prog w base spare held 66 (.agg #[.int .u64 a0, .int .u64 a1]) (.agg [.lit (.int .u64 a0), .lit (.int .u64 a1)]) [] := by
  refine ⟨3, ?_⟩
  simp only [DataW.trod, Try.underlying66, Try.underlying22, Try.underlying23, Value.cells, cellsPutR, cellsU64R, cellsAdR]
  simp [cellsU64R, cellsAdR, w0, w1]
end
/-- A list of stores as an argument. -/
def PutsIn (W : World) (A : Option Addr) (len cap : Nat) (l : List (Int × Int)) : Prop :=
  l.length = len ∧ len ≤ cap ∧ cap ≤ maxLen ∧ ((A = none ∧ len = 0 ∧ cap = 0) ∨ ∃ a, A = some a ∧ ∀ i, i < len → W.cell? (a.add (i * 2)) = some (.int .u64 (l.getD i (0, 0)).1) ∧ W.cell? (a.add (i * 2 + 1)) = some (.int .u64 (l.getD i (0, 0)).2)) ∧ ∀ e ∈ l, (0 ≤ e.1 ∧ e.1 < 18446744073709551616) ∧ 0 ≤ e.2 ∧ e.2 < 18446744073709551616
set_option maxRecDepth 100000 in
theorem open_puts {H : Type} {enc : TypeId × Value → H} {W : World} {held : Bool} {spare : Nat → Bool} {fuel : Nat} {a : Option Addr} {len cap : Nat} {x : DataW H × List MemPlace} (h : DataW.trod enc Try.prog W 0 spare held fuel 61 (Value.slice a len cap).cells.toList = some x) :
    ∃ l : List (Int × Int), PutsIn W a len cap l := by
  rcases Go.Deep.open_slice_pairs Try.underlying61 Try.underlying66 (by kernel_rfl) rfl rfl (by kernel_rfl) (by kernel_rfl) h with ⟨hcs, _⟩ | ⟨b, n, c, m, k, V0, V1, D0, D1, P0, P1, hcs, _, hl, hm, hmm, _, hall⟩
  · simp [Value.cells] at hcs
    obtain ⟨rfl, rfl, rfl⟩ := hcs
    exact ⟨[], rfl, Nat.zero_le _, Nat.zero_le _, .inl ⟨rfl, rfl, rfl⟩, fun e he => by cases he⟩
  · simp [Value.cells] at hcs
    obtain ⟨rfl, rfl, rfl⟩ := hcs
    have hnm : len ≤ m := by rw [hmm]; split <;> omega
    have hw : ∀ i, i < len → ∃ q : Int × Int, W.cell? (b.add (i * 2)) = some (.int .u64 q.1) ∧ W.cell? (b.add (i * 2 + 1)) = some (.int .u64 q.2) ∧ (0 ≤ q.1 ∧ q.1 < 18446744073709551616) ∧ 0 ≤ q.2 ∧ q.2 < 18446744073709551616 := fun i hi => by
      obtain ⟨c0, c1, t0, t1⟩ := hall i (by omega)
      obtain ⟨n0, e0, _, f0⟩ := DataW.trod_int (by kernel_rfl) t0
      obtain ⟨n1, e1, _, f1⟩ := DataW.trod_int (by kernel_rfl) t1
      have b0 := u64_wf' f0
      have b1 := u64_wf' f1
      simp only [List.cons.injEq, and_true] at e0 e1
      exact ⟨(n0, n1), by rw [c0, e0], by rw [c1, e1], b0, b1⟩
    obtain ⟨q, hq⟩ := Go.Deep.choose_lt hw
    have hget : ∀ i, i < len → ((List.range len).map q).getD i (0, 0) = q i := fun i hi => by
      rw [List.getD_eq_getElem?_getD, List.getElem?_map, List.getElem?_range hi]; rfl
    refine ⟨(List.range len).map q, by simp, hl, hm, .inr ⟨b, rfl, fun i hi => ?_⟩, fun e he => ?_⟩
    · rw [hget i hi]
      exact ⟨(hq i hi).1, (hq i hi).2.1⟩
    · obtain ⟨i, hi, rfl⟩ := List.mem_map.1 he
      have hi' : i < len := List.mem_range.1 hi
      exact ⟨(hq i hi').2.2.1, (hq i hi').2.2.2⟩
/-- The stores of an argument, as numbers that are none below 0. -/
def natPuts (l : List (Int × Int)) : List (Nat × Nat) := l.map fun p => (p.1.toNat, p.2.toNat)
theorem natPuts_length (l : List (Int × Int)) : (natPuts l).length = l.length := by simp [natPuts]
theorem natPuts_fit {W : World} {A : Option Addr} {len cap : Nat} {l : List (Int × Int)} (h : PutsIn W A len cap l) : ∀ p ∈ natPuts l, p.1 < 18446744073709551616 ∧ p.2 < 18446744073709551616 := by
  intro p hp
  obtain ⟨q, hq, rfl⟩ := List.mem_map.1 hp
  have := h.2.2.2.2 q hq
  dsimp only
  omega
end Go.Proofs.Ytaabdmlmemmnaaa
