/- NodeMakes for every argument: a list of entries opened; the walk for any slice of them. -/
import Derived.Test.YthcopnnpedhboaaDoorN8LawK
import Derived.Test.YthcopnnpedhboaaDoorN8Arg
import Derived.OpenShut
import Derived.Deep.SlicePairs
import Derived.DataReads
namespace Go.Proofs.YthcopnnpedhboaaDoor
open Go.RowKit Go.ChangeShapes Go.WideShapes
set_option linter.unusedVariables false
theorem u64_wfE {a : Int} (h : (Lit.int .u64 a).wf = true) : 0 ≤ a ∧ a < 18446744073709551616 := by
  simp only [Lit.wf, Bool.and_eq_true, decide_eq_true_eq] at h
  have hmin : IntKind.u64.min = 0 := rfl
  have hmax : IntKind.u64.max = 18446744073709551615 := rfl
  omega
/-- A list of entries as an argument. -/
def EntsIn (W : World) (A : Option Addr) (len cap : Nat) (l : List (Int × Int)) : Prop :=
  l.length = len ∧ len ≤ cap ∧ cap ≤ maxLen ∧ ((A = none ∧ len = 0 ∧ cap = 0) ∨ ∃ a, A = some a ∧ ∀ i, i < len → W.cell? (a.add (i * 2)) = some (.int .u64 (l.getD i (0, 0)).1) ∧ W.cell? (a.add (i * 2 + 1)) = some (.int .u64 (l.getD i (0, 0)).2)) ∧ ∀ e ∈ l, (0 ≤ e.1 ∧ e.1 < 18446744073709551616) ∧ 0 ≤ e.2 ∧ e.2 < 18446744073709551616
set_option maxRecDepth 100000 in
theorem open_ents {H : Type} {enc : TypeId × Value → H} {W : World} {held : Bool} {spare : Nat → Bool} {fuel : Nat} {a : Option Addr} {len cap : Nat} {x : DataW H × List MemPlace} (h : DataW.trod enc Tryd.prog W 0 spare held fuel 24 (Value.slice a len cap).cells.toList = some x) :
    ∃ l : List (Int × Int), EntsIn W a len cap l := by
  rcases Go.Deep.open_slice_pairs Tryd.underlying24 Tryd.underlying41 (by kernel_rfl) rfl rfl (by kernel_rfl) (by kernel_rfl) h with ⟨hcs, _⟩ | ⟨b, n, c, m, k, V0, V1, D0, D1, P0, P1, hcs, _, hl, hm, hmm, _, hall⟩
  · simp [Value.cells] at hcs
    obtain ⟨rfl, rfl, rfl⟩ := hcs
    exact ⟨[], rfl, Nat.zero_le _, Nat.zero_le _, .inl ⟨rfl, rfl, rfl⟩, fun e he => by cases he⟩
  · simp [Value.cells] at hcs
    obtain ⟨rfl, rfl, rfl⟩ := hcs
    have hnm : len ≤ m := by rw [hmm]; split <;> omega
    have hw : ∀ i, i < len → ∃ q : Int × Int, W.cell? (b.add (i * 2)) = some (.int .u64 q.1) ∧ W.cell? (b.add (i * 2 + 1)) = some (.int .u64 q.2) ∧ (0 ≤ q.1 ∧ q.1 < 18446744073709551616) ∧ 0 ≤ q.2 ∧ q.2 < 18446744073709551616 := fun i hi => by
      obtain ⟨c0, c1, t0, t1⟩ := hall i (by omega)
      obtain ⟨n0, e0, _, f0⟩ := DataW.trod_int (by kernel_rfl) t0
      obtain ⟨n1, e1, _, f1⟩ := DataW.trod_int (by kernel_rfl) t1
      have b0 := u64_wfE f0
      have b1 := u64_wfE f1
      simp only [List.cons.injEq, and_true] at e0 e1
      exact ⟨(n0, n1), by rw [c0, e0], by rw [c1, e1], b0, b1⟩
    obtain ⟨q, hq⟩ := Go.Deep.choose_lt hw
    have hget : ∀ i, i < len → ((List.range len).map q).getD i (0, 0) = q i := fun i hi => by
      rw [List.getD_eq_getElem?_getD, List.getElem?_map, List.getElem?_range hi]; rfl
    refine ⟨(List.range len).map q, by simp, hl, hm, .inr ⟨b, rfl, fun i hi => ?_⟩, fun e he => ?_⟩
    · rw [hget i hi]
      exact ⟨(hq i hi).1, (hq i hi).2.1⟩
    · obtain ⟨i, hi, rfl⟩ := List.mem_map.1 he
      have hi' : i < len := List.mem_range.1 hi
      exact ⟨(hq i hi').2.2.1, (hq i hi').2.2.2⟩
theorem EntsIn.ent {W : World} {A : Option Addr} {len cap : Nat} {l : List (Int × Int)} (h : EntsIn W A len cap l) : EntAt W (.slice A l.length cap) l := by
  obtain ⟨hlen, _, _, hr, _⟩ := h
  refine ⟨A, cap, rfl, fun h0 => ?_⟩
  rcases hr with ⟨_, h1, _⟩ | ⟨a, rfl, hc⟩
  · omega
  · have hs := World.cell?_spot (hc 0 (by omega)).1
    rw [Nat.zero_mul] at hs
    have hs' : a.spot = none := by
      unfold Addr.add at hs
      simpa using hs
    obtain ⟨b, o, sp⟩ := a
    dsimp only at hs'
    subst hs'
    refine ⟨b, o, rfl, fun i e he => ?_⟩
    have hi := (List.getElem?_eq_some_iff.1 he).1
    obtain ⟨c1, c2⟩ := hc i (by omega)
    rw [Addr.add_mid] at c1 c2
    rw [List.getD_eq_getElem?_getD, he] at c1 c2
    exact ⟨c1, by rw [Nat.add_assoc]; exact c2⟩
theorem EntsIn.flat {W : World} {a : Addr} {len cap : Nat} {l : List (Int × Int)} (h : EntsIn W (some a) len cap l) : ∀ j u, (flatE l)[j]? = some u → W.cell? (a.add j) = some u := by
  obtain ⟨hlen, _, _, hr, _⟩ := h
  rcases hr with ⟨h1, _⟩ | ⟨a', ha, hc⟩
  · cases h1
  · cases ha
    intro j u hu
    have hj := (List.getElem?_eq_some_iff.1 hu).1
    rw [flatE_len] at hj
    obtain ⟨e, he⟩ : ∃ e, l[j / 2]? = some e := ⟨_, List.getElem?_eq_getElem (by omega)⟩
    obtain ⟨f1, f2⟩ := flatE_at l (j / 2) e he
    obtain ⟨c1, c2⟩ := hc (j / 2) (by omega)
    rw [List.getD_eq_getElem?_getD, he] at c1 c2
    rcases (by omega : j = j / 2 * 2 ∨ j = j / 2 * 2 + 1) with e | e
    · rw [e] at hu ⊢
      rw [f1] at hu
      cases hu
      exact c1
    · rw [e] at hu ⊢
      rw [f2] at hu
      cases hu
      exact c2
theorem makes_all (base level low next first : Int) (A : Option Addr) (len cap : Nat) (l : List (Int × Int)) (W : World) (w0 : (Lit.int .u64 base).wf = true) (w1 : (Lit.int .i64 level).wf = true) (w2 : (Lit.int .u64 low).wf = true) (w3 : (Lit.int .u64 next).wf = true) (w4 : (Lit.int .u64 first).wf = true) (h : EntsIn W A len cap l) (R : Pow W) :
    Calls Tryd.prog 3 #[.int .u64 base, .int .i64 level, .int .u64 low, .int .u64 next, .int .u64 first, .slice A len cap] W fun e w' => e = .returned (.bool true) ∧ Below W.heap.size W w' := by
  have hlen := h.1
  by_cases hm : 20 < len
  · exact lawMakes_many base level low next first hm (Nat.le_trans h.2.1 h.2.2.1) R
  · subst hlen
    cases A with
    | some a => exact lawMakes_some base level low next first h.ent h.flat (by omega) R
    | none =>
      rcases h.2.2.2.1 with ⟨_, h1, h2⟩ | ⟨a, ha, _⟩
      · rw [h1, h2]
        exact lawMakes_none base level low next first R
      · cases ha
end Go.Proofs.YthcopnnpedhboaaDoor
