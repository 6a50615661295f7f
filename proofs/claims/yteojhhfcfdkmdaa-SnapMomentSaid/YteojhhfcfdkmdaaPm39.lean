/- Texts of this claim, packed: N9Arg. -/
import Derived.Test.YteojhhfcfdkmdaaPm02
import Derived.OpenShut
import Derived.Deep.SlicePairs
set_option linter.unusedSimpArgs false
set_option linter.unusedVariables false
/- Arguments: a node, a change that is asked for, a list of stores: opened and shut; no conditions. -/
namespace Go.Proofs.Yteojhhfcfdkmdaa
open Go.RowKit Go.ChangeShapes Go.WideShapes
set_option linter.unusedVariables false
section
variable {H : Type} {enc : TypeId × Value → H} {w : World} {base : Nat} {spare : Nat → Bool} {held : Bool}
theorem u64_wf' {a : Int} (h : (Lit.int .u64 a).wf = true) : 0 ≤ a ∧ a < 18446744073709551616 := by
  simp only [Lit.wf, Bool.and_eq_true, decide_eq_true_eq] at h
  have hmin : IntKind.u64.min = 0 := rfl
  have hmax : IntKind.u64.max = 18446744073709551615 := rfl
  omega
theorem i64_wf' {a : Int} (h : (Lit.int .i64 a).wf = true) : -9223372036854775808 ≤ a ∧ a ≤ 9223372036854775807 := by
  simp only [Lit.wf, Bool.and_eq_true, decide_eq_true_eq] at h
  have hmin : IntKind.i64.min = -9223372036854775808 := rfl
  have hmax : IntKind.i64.max = 9223372036854775807 := rfl
  omega
theorem arr21 {l : List Value} (h : l.length = 21) : ∃ a0 a1 a2 a3 a4 a5 a6 a7 a8 a9 a10 a11 a12 a13 a14 a15 a16 a17 a18 a19 a20, l = [a0, a1, a2, a3, a4, a5, a6, a7, a8, a9, a10, a11, a12, a13, a14, a15, a16, a17, a18, a19, a20] := by
  match l, h with
  | [a0, a1, a2, a3, a4, a5, a6, a7, a8, a9, a10, a11, a12, a13, a14, a15, a16, a17, a18, a19, a20], _ => exact ⟨a0, a1, a2, a3, a4, a5, a6, a7, a8, a9, a10, a11, a12, a13, a14, a15, a16, a17, a18, a19, a20, rfl⟩
theorem cellsNode : Try.prog.cellsOf 27 = 21 := by kernel_rfl
theorem cellsA8 : Try.prog.cellsOf 25 = 8 := by kernel_rfl
theorem cellsW8' : Try.prog.cellsOf 24 = 8 := by kernel_rfl
theorem cellsU' : Try.prog.cellsOf 22 = 1 := by kernel_rfl
theorem cellsAd : Try.prog.cellsOf 23 = 1 := by kernel_rfl
theorem cellsIn : Try.prog.cellsOf 3 = 1 := by kernel_rfl
theorem trod_arr8 {ty e : TypeId} (ht : Try.prog.underlying ty = some (.array 8 e)) (he : Try.prog.underlying e = some (.int .u64)) (hce : Try.prog.cellsOf e = 1) (hct : Try.prog.cellsOf ty = 8) {fuel : Nat} {b0 b1 b2 b3 b4 b5 b6 b7 : Value} {x : DataW H × List MemPlace}
    (h : DataW.trod enc Try.prog w base spare held fuel ty [b0, b1, b2, b3, b4, b5, b6, b7] = some x) : ∃ c0 c1 c2 c3 c4 c5 c6 c7 : Int, b0 = .int .u64 c0 ∧ b1 = .int .u64 c1 ∧ b2 = .int .u64 c2 ∧ b3 = .int .u64 c3 ∧ b4 = .int .u64 c4 ∧ b5 = .int .u64 c5 ∧ b6 = .int .u64 c6 ∧ b7 = .int .u64 c7 ∧ x = (.agg [.lit (.int .u64 c0), .lit (.int .u64 c1), .lit (.int .u64 c2), .lit (.int .u64 c3), .lit (.int .u64 c4), .lit (.int .u64 c5), .lit (.int .u64 c6), .lit (.int .u64 c7)], []) ∧ (Lit.int .u64 c0).wf = true ∧ (Lit.int .u64 c1).wf = true ∧ (Lit.int .u64 c2).wf = true ∧ (Lit.int .u64 c3).wf = true ∧ (Lit.int .u64 c4).wf = true ∧ (Lit.int .u64 c5).wf = true ∧ (Lit.int .u64 c6).wf = true ∧ (Lit.int .u64 c7).wf = true := by
  cases fuel with
  | zero => simp [DataW.trod] at h
  | succ fuel =>
    simp only [DataW.trod, ht, hce, hct, show List.range 8 = [0, 1, 2, 3, 4, 5, 6, 7] from rfl, List.mapM_cons, List.mapM_nil, Option.bind_eq_bind, Option.pure_def] at h
    split at h
    · obtain ⟨xs, hm, hx⟩ := Option.map_eq_some_iff.1 h
      obtain ⟨u0, h0, hm⟩ := Option.bind_eq_some_iff.1 hm
      obtain ⟨l1, k1, e1⟩ := Option.bind_eq_some_iff.1 hm
      obtain ⟨u1, h1, k1⟩ := Option.bind_eq_some_iff.1 k1
      obtain ⟨l2, k2, e2⟩ := Option.bind_eq_some_iff.1 k1
      obtain ⟨u2, h2, k2⟩ := Option.bind_eq_some_iff.1 k2
      obtain ⟨l3, k3, e3⟩ := Option.bind_eq_some_iff.1 k2
      obtain ⟨u3, h3, k3⟩ := Option.bind_eq_some_iff.1 k3
      obtain ⟨l4, k4, e4⟩ := Option.bind_eq_some_iff.1 k3
      obtain ⟨u4, h4, k4⟩ := Option.bind_eq_some_iff.1 k4
      obtain ⟨l5, k5, e5⟩ := Option.bind_eq_some_iff.1 k4
      obtain ⟨u5, h5, k5⟩ := Option.bind_eq_some_iff.1 k5
      obtain ⟨l6, k6, e6⟩ := Option.bind_eq_some_iff.1 k5
      obtain ⟨u6, h6, k6⟩ := Option.bind_eq_some_iff.1 k6
      obtain ⟨l7, k7, e7⟩ := Option.bind_eq_some_iff.1 k6
      obtain ⟨u7, h7, k7⟩ := Option.bind_eq_some_iff.1 k7
      simp only [Option.bind_some, Option.some.injEq] at e1 e2 e3 e4 e5 e6 e7 k7
      subst k7 e7 e6 e5 e4 e3 e2 e1
      obtain ⟨c0, q0, rfl, w0⟩ := DataW.trod_int he h0
      simp at q0
      subst q0
      obtain ⟨c1, q1, rfl, w1⟩ := DataW.trod_int he h1
      simp at q1
      subst q1
      obtain ⟨c2, q2, rfl, w2⟩ := DataW.trod_int he h2
      simp at q2
      subst q2
      obtain ⟨c3, q3, rfl, w3⟩ := DataW.trod_int he h3
      simp at q3
      subst q3
      obtain ⟨c4, q4, rfl, w4⟩ := DataW.trod_int he h4
      simp at q4
      subst q4
      obtain ⟨c5, q5, rfl, w5⟩ := DataW.trod_int he h5
      simp at q5
      subst q5
      obtain ⟨c6, q6, rfl, w6⟩ := DataW.trod_int he h6
      simp at q6
      subst q6
      obtain ⟨c7, q7, rfl, w7⟩ := DataW.trod_int he h7
      simp at q7
      subst q7
      simp at hx
      exact ⟨c0, c1, c2, c3, c4, c5, c6, c7, rfl, rfl, rfl, rfl, rfl, rfl, rfl, rfl, hx.symm, w0, w1, w2, w3, w4, w5, w6, w7⟩
    · cases h
set_option maxRecDepth 100000 in
theorem open_node {r : Reach} {b0 : Nat} {v : Value} {d : DataW H} {p : List MemPlace} (hv : Value.okWide Try.prog w r b0 27 v) (h : DataW.Trod enc Try.prog w base spare held 27 v d p) :
    ∃ a0 a1 a2 a3 a4 a5 a6 a7 a8 a9 a10 a11 a12 a13 a14 a15 a16 a17 a18 a19 a20 : Int, v = .agg #[.int .i64 a0, .int .u64 a1, .int .u64 a2, .int .u64 a3, .int .u64 a4, .int .u64 a5, .int .u64 a6, .int .u64 a7, .int .u64 a8, .int .u64 a9, .int .u64 a10, .int .u64 a11, .int .u64 a12, .int .u64 a13, .int .u64 a14, .int .u64 a15, .int .u64 a16, .int .u64 a17, .int .u64 a18, .int .u64 a19, .int .u64 a20] ∧ d = .agg [.lit (.int .i64 a0), .lit (.int .u64 a1), .lit (.int .u64 a2), .lit (.int .u64 a3), .lit (.int .u64 a4), .agg [.lit (.int .u64 a5), .lit (.int .u64 a6), .lit (.int .u64 a7), .lit (.int .u64 a8), .lit (.int .u64 a9), .lit (.int .u64 a10), .lit (.int .u64 a11), .lit (.int .u64 a12)], .agg [.lit (.int .u64 a13), .lit (.int .u64 a14), .lit (.int .u64 a15), .lit (.int .u64 a16), .lit (.int .u64 a17), .lit (.int .u64 a18), .lit (.int .u64 a19), .lit (.int .u64 a20)]] ∧ p = [] ∧ (Lit.int .i64 a0).wf = true ∧ (Lit.int .u64 a1).wf = true ∧ (Lit.int .u64 a2).wf = true ∧ (Lit.int .u64 a3).wf = true ∧ (Lit.int .u64 a4).wf = true ∧ (Lit.int .u64 a5).wf = true ∧ (Lit.int .u64 a6).wf = true ∧ (Lit.int .u64 a7).wf = true ∧ (Lit.int .u64 a8).wf = true ∧ (Lit.int .u64 a9).wf = true ∧ (Lit.int .u64 a10).wf = true ∧ (Lit.int .u64 a11).wf = true ∧ (Lit.int .u64 a12).wf = true ∧ (Lit.int .u64 a13).wf = true ∧ (Lit.int .u64 a14).wf = true ∧ (Lit.int .u64 a15).wf = true ∧ (Lit.int .u64 a16).wf = true ∧ (Lit.int .u64 a17).wf = true ∧ (Lit.int .u64 a18).wf = true ∧ (Lit.int .u64 a19).wf = true ∧ (Lit.int .u64 a20).wf = true := by
  simp only [Value.okWide, Try.underlying27] at hv
  obtain ⟨cs, rfl, hs, _⟩ := hv
  obtain ⟨l⟩ := cs
  obtain ⟨z0, z1, z2, z3, z4, z5, z6, z7, z8, z9, z10, z11, z12, z13, z14, z15, z16, z17, z18, z19, z20, rfl⟩ := arr21 (l := l) (by simpa [cellsNode] using hs)
  obtain ⟨fuel, h⟩ := h
  obtain ⟨xs, n, rfl, hx, _, hl, hg⟩ := DataW.trod_struct Try.underlying27 h
  have hl7 : xs.length = 7 := hl
  match xs, hl7 with
  | [x0, x1, x2, x3, x4, x5, x6], _ =>
    have g0 : DataW.trod enc Try.prog w base spare held n 3 [z0] = some x0 := by
      have := hg 0 _ rfl
      simpa [cellsIn, Value.cells] using this
    have g1 : DataW.trod enc Try.prog w base spare held n 22 [z1] = some x1 := by
      have := hg 1 _ rfl
      simpa [cellsU', Value.cells] using this
    have g2 : DataW.trod enc Try.prog w base spare held n 23 [z2] = some x2 := by
      have := hg 2 _ rfl
      simpa [cellsAd, Value.cells] using this
    have g3 : DataW.trod enc Try.prog w base spare held n 22 [z3] = some x3 := by
      have := hg 3 _ rfl
      simpa [cellsU', Value.cells] using this
    have g4 : DataW.trod enc Try.prog w base spare held n 23 [z4] = some x4 := by
      have := hg 4 _ rfl
      simpa [cellsAd, Value.cells] using this
    have g5 : DataW.trod enc Try.prog w base spare held n 24 [z5, z6, z7, z8, z9, z10, z11, z12] = some x5 := by
      have := hg 5 _ rfl
      simpa [cellsW8', Value.cells] using this
    have g6 : DataW.trod enc Try.prog w base spare held n 25 [z13, z14, z15, z16, z17, z18, z19, z20] = some x6 := by
      have := hg 6 _ rfl
      simpa [cellsA8, Value.cells] using this
    obtain ⟨a0, q0, rfl, w0⟩ := DataW.trod_int Try.underlying3 g0
    simp at q0
    subst q0
    obtain ⟨a1, q1, rfl, w1⟩ := DataW.trod_int Try.underlying22 g1
    simp at q1
    subst q1
    obtain ⟨a2, q2, rfl, w2⟩ := DataW.trod_int Try.underlying23 g2
    simp at q2
    subst q2
    obtain ⟨a3, q3, rfl, w3⟩ := DataW.trod_int Try.underlying22 g3
    simp at q3
    subst q3
    obtain ⟨a4, q4, rfl, w4⟩ := DataW.trod_int Try.underlying23 g4
    simp at q4
    subst q4
    obtain ⟨a5, a6, a7, a8, a9, a10, a11, a12, rfl, rfl, rfl, rfl, rfl, rfl, rfl, rfl, rfl, w5, w6, w7, w8, w9, w10, w11, w12⟩ := trod_arr8 Try.underlying24 Try.underlying22 cellsU' cellsW8' g5
    obtain ⟨a13, a14, a15, a16, a17, a18, a19, a20, rfl, rfl, rfl, rfl, rfl, rfl, rfl, rfl, rfl, w13, w14, w15, w16, w17, w18, w19, w20⟩ := trod_arr8 Try.underlying25 Try.underlying23 cellsAd cellsA8 g6
    simp at hx
    exact ⟨a0, a1, a2, a3, a4, a5, a6, a7, a8, a9, a10, a11, a12, a13, a14, a15, a16, a17, a18, a19, a20, rfl, hx.1, hx.2, w0, w1, w2, w3, w4, w5, w6, w7, w8, w9, w10, w11, w12, w13, w14, w15, w16, w17, w18, w19, w20⟩
set_option maxRecDepth 100000 in
theorem shut_node {a0 a1 a2 a3 a4 a5 a6 a7 a8 a9 a10 a11 a12 a13 a14 a15 a16 a17 a18 a19 a20 : Int} (w0 : (Lit.int .i64 a0).wf = true) (w1 : (Lit.int .u64 a1).wf = true) (w2 : (Lit.int .u64 a2).wf = true) (w3 : (Lit.int .u64 a3).wf = true) (w4 : (Lit.int .u64 a4).wf = true) (w5 : (Lit.int .u64 a5).wf = true) (w6 : (Lit.int .u64 a6).wf = true) (w7 : (Lit.int .u64 a7).wf = true) (w8 : (Lit.int .u64 a8).wf = true) (w9 : (Lit.int .u64 a9).wf = true) (w10 : (Lit.int .u64 a10).wf = true) (w11 : (Lit.int .u64 a11).wf = true) (w12 : (Lit.int .u64 a12).wf = true) (w13 : (Lit.int .u64 a13).wf = true) (w14 : (Lit.int .u64 a14).wf = true) (w15 : (Lit.int .u64 a15).wf = true) (w16 : (Lit.int .u64 a16).wf = true) (w17 : (Lit.int .u64 a17).wf = true) (w18 : (Lit.int .u64 a18).wf = true) (w19 : (Lit.int .u64 a19).wf = true) (w20 : (Lit.int .u64 a20).wf = true) :
    DataW.Trod enc Try.prog w base spare held 27 (.agg #[.int .i64 a0, .int .u64 a1, .int .u64 a2, .int .u64 a3, .int .u64 a4, .int .u64 a5, .int .u64 a6, .int .u64 a7, .int .u64 a8, .int .u64 a9, .int .u64 a10, .int .u64 a11, .int .u64 a12, .int .u64 a13, .int .u64 a14, .int .u64 a15, .int .u64 a16, .int .u64 a17, .int .u64 a18, .int .u64 a19, .int .u64 a20]) (.agg [.lit (.int .i64 a0), .lit (.int .u64 a1), .lit (.int .u64 a2), .lit (.int .u64 a3), .lit (.int .u64 a4), .agg [.lit (.int .u64 a5), .lit (.int .u64 a6), .lit (.int .u64 a7), .lit (.int .u64 a8), .lit (.int .u64 a9), .lit (.int .u64 a10), .lit (.int .u64 a11), .lit (.int .u64 a12)], .agg [.lit (.int .u64 a13), .lit (.int .u64 a14), .lit (.int .u64 a15), .lit (.int .u64 a16), .lit (.int .u64 a17), .lit (.int .u64 a18), .lit (.int .u64 a19), .lit (.int .u64 a20)]]) [] := by
  refine ⟨3, ?_⟩
  simp only [DataW.trod, Try.underlying27, Try.underlying24, Try.underlying25, Try.underlying3, Try.underlying22, Try.underlying23, Value.cells, cellsNode, cellsW8', cellsA8, cellsU', cellsAd, cellsIn, show List.range 8 = [0, 1, 2, 3, 4, 5, 6, 7] from rfl, List.mapM_cons, List.mapM_nil]
  simp [w0, w1, w2, w3, w4, w5, w6, w7, w8, w9, w10, w11, w12, w13, w14, w15, w16, w17, w18, w19, w20]
theorem arr3 {l : List Value} (h : l.length = 3) : ∃ a0 a1 a2, l = [a0, a1, a2] := by
  match l, h with
  | [a0, a1, a2], _ => exact ⟨a0, a1, a2, rfl⟩
end
/-- A list of stores as an argument. -/
def PutsIn (W : World) (A : Option Addr) (len cap : Nat) (l : List (Int × Int)) : Prop :=
  l.length = len ∧ len ≤ maxLen ∧ ((A = none ∧ len = 0 ∧ cap = 0) ∨ ∃ a, A = some a ∧ ∀ i, i < len → W.cell? (a.add (i * 2)) = some (.int .u64 (l.getD i (0, 0)).1) ∧ W.cell? (a.add (i * 2 + 1)) = some (.int .u64 (l.getD i (0, 0)).2)) ∧ ∀ e ∈ l, (0 ≤ e.1 ∧ e.1 < 18446744073709551616) ∧ 0 ≤ e.2 ∧ e.2 < 18446744073709551616
set_option maxRecDepth 100000 in
theorem open_puts {H : Type} {enc : TypeId × Value → H} {W : World} {held : Bool} {spare : Nat → Bool} {fuel : Nat} {a : Option Addr} {len cap : Nat} {x : DataW H × List MemPlace} (h : DataW.trod enc Try.prog W 0 spare held fuel 60 (Value.slice a len cap).cells.toList = some x) :
    ∃ l : List (Int × Int), PutsIn W a len cap l := by
  rcases Go.Deep.open_slice_pairs Try.underlying60 Try.underlying64 (by kernel_rfl) rfl rfl (by kernel_rfl) (by kernel_rfl) h with ⟨hcs, _⟩ | ⟨b, n, c, m, k, V0, V1, D0, D1, P0, P1, hcs, _, hl, hm, hmm, _, hall⟩
  · simp [Value.cells] at hcs
    obtain ⟨rfl, rfl, rfl⟩ := hcs
    exact ⟨[], rfl, Nat.zero_le _, .inl ⟨rfl, rfl, rfl⟩, fun e he => by cases he⟩
  · simp [Value.cells] at hcs
    obtain ⟨rfl, rfl, rfl⟩ := hcs
    have hnm : len ≤ m := by rw [hmm]; split <;> omega
    have hw : ∀ i, i < len → ∃ q : Int × Int, W.cell? (b.add (i * 2)) = some (.int .u64 q.1) ∧ W.cell? (b.add (i * 2 + 1)) = some (.int .u64 q.2) ∧ (0 ≤ q.1 ∧ q.1 < 18446744073709551616) ∧ 0 ≤ q.2 ∧ q.2 < 18446744073709551616 := fun i hi => by
      obtain ⟨c0, c1, t0, t1⟩ := hall i (by omega)
      obtain ⟨n0, e0, _, f0⟩ := DataW.trod_int (by kernel_rfl) t0
      obtain ⟨n1, e1, _, f1⟩ := DataW.trod_int (by kernel_rfl) t1
      have b0 := u64_wf' f0
      have b1 := u64_wf' f1
      simp only [List.cons.injEq, and_true] at e0 e1
      exact ⟨(n0, n1), by rw [c0, e0], by rw [c1, e1], b0, b1⟩
    obtain ⟨q, hq⟩ := Go.Deep.choose_lt hw
    have hget : ∀ i, i < len → ((List.range len).map q).getD i (0, 0) = q i := fun i hi => by
      rw [List.getD_eq_getElem?_getD, List.getElem?_map, List.getElem?_range hi]; rfl
    refine ⟨(List.range len).map q, by simp, Nat.le_trans hl hm, .inr ⟨b, rfl, fun i hi => ?_⟩, fun e he => ?_⟩
    · rw [hget i hi]
      exact ⟨(hq i hi).1, (hq i hi).2.1⟩
    · obtain ⟨i, hi, rfl⟩ := List.mem_map.1 he
      have hi' : i < len := List.mem_range.1 hi
      exact ⟨(hq i hi').2.2.1, (hq i hi').2.2.2⟩
end Go.Proofs.Yteojhhfcfdkmdaa
