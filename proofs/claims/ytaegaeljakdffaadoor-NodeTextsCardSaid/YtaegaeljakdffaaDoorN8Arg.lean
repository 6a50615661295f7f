/- A node as an argument: opened and shut; the library's table of powers, from what a row's list says. -/
import Derived.Test.YtaegaeljakdffaaDoorN8Text
import Derived.Test.YtaegaeljakdffaaDoorN8Store
import Derived.OpenShut
import Derived.Lib.SmallJoins
import Derived.Lib.LaidTab
namespace Go.Proofs.YtaegaeljakdffaaDoor
open Go.RowKit Go.ChangeShapes Go.WideShapes Go.ChangeAt
set_option linter.unusedVariables false
theorem pow_of_laid {W : World} (h : laidMet Tryd.prog [("math/bits.deBruijn32tab", Rows.laid_math_bits_deBruijn32tab), ("math/bits.deBruijn64tab", Rows.laid_math_bits_deBruijn64tab), ("internal/strconv.uint64pow10", Rows.laid_internal_strconv_uint64pow10)] W) : Pow W := by
  obtain ⟨ps, ⟨_, _, _, _, _, q1, _, _, _, _, ⟨_, _, _, _, _, q2, _, _, _, _, ⟨g', t', cs, fuel, p, q, hg', ht', hvar, hd, _, _⟩, _⟩, _⟩, _⟩ := h
  obtain rfl := Option.some.inj ((show Tryd.prog.globalNamed "internal/strconv.uint64pow10" = some 0 by kernel_rfl).symm.trans hg')
  obtain rfl := Option.some.inj ((show (Tryd.prog.globals[0]?).map (·.type) = some 85 by kernel_rfl).symm.trans ht')
  unfold Pow Lib.TabIs
  rw [hvar, ← Lib.cells_of_tab (n := 20) (e := 22) Tryd.underlying85 Tryd.underlying22 (by kernel_rfl) (by kernel_rfl) (show DataW.trod (fun _ => ()) Tryd.prog W 0 (fun _ => true) false fuel 85 cs.toList = some (Lib.tabData .u64 Lib.pow10Tab, p) from hd)]
section
variable {H : Type} {enc : TypeId × Value → H} {w : World} {base : Nat} {spare : Nat → Bool} {held : Bool}
theorem u64_wf' {a : Int} (h : (Lit.int .u64 a).wf = true) : 0 ≤ a ∧ a < 18446744073709551616 := by
  simp only [Lit.wf, Bool.and_eq_true, decide_eq_true_eq] at h
  have hmin : IntKind.u64.min = 0 := rfl
  have hmax : IntKind.u64.max = 18446744073709551615 := rfl
  omega
theorem i64_wf' {a : Int} (h : (Lit.int .i64 a).wf = true) : -9223372036854775808 ≤ a ∧ a ≤ 9223372036854775807 := by
  simp only [Lit.wf, Bool.and_eq_true, decide_eq_true_eq] at h
  have hmin : IntKind.i64.min = -9223372036854775808 := rfl
  have hmax : IntKind.i64.max = 9223372036854775807 := rfl
  omega
theorem arr21 {l : List Value} (h : l.length = 21) : ∃ a0 a1 a2 a3 a4 a5 a6 a7 a8 a9 a10 a11 a12 a13 a14 a15 a16 a17 a18 a19 a20, l = [a0, a1, a2, a3, a4, a5, a6, a7, a8, a9, a10, a11, a12, a13, a14, a15, a16, a17, a18, a19, a20] := by
  match l, h with
  | [a0, a1, a2, a3, a4, a5, a6, a7, a8, a9, a10, a11, a12, a13, a14, a15, a16, a17, a18, a19, a20], _ => exact ⟨a0, a1, a2, a3, a4, a5, a6, a7, a8, a9, a10, a11, a12, a13, a14, a15, a16, a17, a18, a19, a20, rfl⟩
theorem cellsNode : Tryd.prog.cellsOf 27 = 21 := by kernel_rfl
theorem cellsA8 : Tryd.prog.cellsOf 25 = 8 := by kernel_rfl
theorem cellsW8' : Tryd.prog.cellsOf 24 = 8 := by kernel_rfl
theorem cellsU' : Tryd.prog.cellsOf 22 = 1 := by kernel_rfl
theorem cellsAd : Tryd.prog.cellsOf 23 = 1 := by kernel_rfl
theorem cellsIn : Tryd.prog.cellsOf 3 = 1 := by kernel_rfl
theorem trod_arr8 {ty e : TypeId} (ht : Tryd.prog.underlying ty = some (.array 8 e)) (he : Tryd.prog.underlying e = some (.int .u64)) (hce : Tryd.prog.cellsOf e = 1) (hct : Tryd.prog.cellsOf ty = 8) {fuel : Nat} {b0 b1 b2 b3 b4 b5 b6 b7 : Value} {x : DataW H × List MemPlace}
    (h : DataW.trod enc Tryd.prog w base spare held fuel ty [b0, b1, b2, b3, b4, b5, b6, b7] = some x) : ∃ c0 c1 c2 c3 c4 c5 c6 c7 : Int, b0 = .int .u64 c0 ∧ b1 = .int .u64 c1 ∧ b2 = .int .u64 c2 ∧ b3 = .int .u64 c3 ∧ b4 = .int .u64 c4 ∧ b5 = .int .u64 c5 ∧ b6 = .int .u64 c6 ∧ b7 = .int .u64 c7 ∧ x = (.agg [.lit (.int .u64 c0), .lit (.int .u64 c1), .lit (.int .u64 c2), .lit (.int .u64 c3), .lit (.int .u64 c4), .lit (.int .u64 c5), .lit (.int .u64 c6), .lit (.int .u64 c7)], []) ∧ (Lit.int .u64 c0).wf = true ∧ (Lit.int .u64 c1).wf = true ∧ (Lit.int .u64 c2).wf = true ∧ (Lit.int .u64 c3).wf = true ∧ (Lit.int .u64 c4).wf = true ∧ (Lit.int .u64 c5).wf = true ∧ (Lit.int .u64 c6).wf = true ∧ (Lit.int .u64 c7).wf = true := by
  cases fuel with
  | zero => simp [DataW.trod] at h
  | succ fuel =>
    simp only [DataW.trod, ht, hce, hct, show List.range 8 = [0, 1, 2, 3, 4, 5, 6, 7] from rfl, List.mapM_cons, List.mapM_nil, Option.bind_eq_bind, Option.pure_def] at h
    split at h
    · obtain ⟨xs, hm, hx⟩ := Option.map_eq_some_iff.1 h
      obtain ⟨u0, h0, hm⟩ := Option.bind_eq_some_iff.1 hm
      obtain ⟨l1, k1, e1⟩ := Option.bind_eq_some_iff.1 hm
      obtain ⟨u1, h1, k1⟩ := Option.bind_eq_some_iff.1 k1
      obtain ⟨l2, k2, e2⟩ := Option.bind_eq_some_iff.1 k1
      obtain ⟨u2, h2, k2⟩ := Option.bind_eq_some_iff.1 k2
      obtain ⟨l3, k3, e3⟩ := Option.bind_eq_some_iff.1 k2
      obtain ⟨u3, h3, k3⟩ := Option.bind_eq_some_iff.1 k3
      obtain ⟨l4, k4, e4⟩ := Option.bind_eq_some_iff.1 k3
      obtain ⟨u4, h4, k4⟩ := Option.bind_eq_some_iff.1 k4
      obtain ⟨l5, k5, e5⟩ := Option.bind_eq_some_iff.1 k4
      obtain ⟨u5, h5, k5⟩ := Option.bind_eq_some_iff.1 k5
      obtain ⟨l6, k6, e6⟩ := Option.bind_eq_some_iff.1 k5
      obtain ⟨u6, h6, k6⟩ := Option.bind_eq_some_iff.1 k6
      obtain ⟨l7, k7, e7⟩ := Option.bind_eq_some_iff.1 k6
      obtain ⟨u7, h7, k7⟩ := Option.bind_eq_some_iff.1 k7
      simp only [Option.bind_some, Option.some.injEq] at e1 e2 e3 e4 e5 e6 e7 k7
      subst k7 e7 e6 e5 e4 e3 e2 e1
      obtain ⟨c0, q0, rfl, w0⟩ := DataW.trod_int he h0
      simp at q0
      subst q0
      obtain ⟨c1, q1, rfl, w1⟩ := DataW.trod_int he h1
      simp at q1
      subst q1
      obtain ⟨c2, q2, rfl, w2⟩ := DataW.trod_int he h2
      simp at q2
      subst q2
      obtain ⟨c3, q3, rfl, w3⟩ := DataW.trod_int he h3
      simp at q3
      subst q3
      obtain ⟨c4, q4, rfl, w4⟩ := DataW.trod_int he h4
      simp at q4
      subst q4
      obtain ⟨c5, q5, rfl, w5⟩ := DataW.trod_int he h5
      simp at q5
      subst q5
      obtain ⟨c6, q6, rfl, w6⟩ := DataW.trod_int he h6
      simp at q6
      subst q6
      obtain ⟨c7, q7, rfl, w7⟩ := DataW.trod_int he h7
      simp at q7
      subst q7
      simp at hx
      exact ⟨c0, c1, c2, c3, c4, c5, c6, c7, rfl, rfl, rfl, rfl, rfl, rfl, rfl, rfl, hx.symm, w0, w1, w2, w3, w4, w5, w6, w7⟩
    · cases h
set_option maxRecDepth 100000 in
theorem open_node {r : Reach} {b0 : Nat} {v : Value} {d : DataW H} {p : List MemPlace} (hv : Value.okWide Tryd.prog w r b0 27 v) (h : DataW.Trod enc Tryd.prog w base spare held 27 v d p) :
    ∃ a0 a1 a2 a3 a4 a5 a6 a7 a8 a9 a10 a11 a12 a13 a14 a15 a16 a17 a18 a19 a20 : Int, v = .agg #[.int .i64 a0, .int .u64 a1, .int .u64 a2, .int .u64 a3, .int .u64 a4, .int .u64 a5, .int .u64 a6, .int .u64 a7, .int .u64 a8, .int .u64 a9, .int .u64 a10, .int .u64 a11, .int .u64 a12, .int .u64 a13, .int .u64 a14, .int .u64 a15, .int .u64 a16, .int .u64 a17, .int .u64 a18, .int .u64 a19, .int .u64 a20] ∧ d = .agg [.lit (.int .i64 a0), .lit (.int .u64 a1), .lit (.int .u64 a2), .lit (.int .u64 a3), .lit (.int .u64 a4), .agg [.lit (.int .u64 a5), .lit (.int .u64 a6), .lit (.int .u64 a7), .lit (.int .u64 a8), .lit (.int .u64 a9), .lit (.int .u64 a10), .lit (.int .u64 a11), .lit (.int .u64 a12)], .agg [.lit (.int .u64 a13), .lit (.int .u64 a14), .lit (.int .u64 a15), .lit (.int .u64 a16), .lit (.int .u64 a17), .lit (.int .u64 a18), .lit (.int .u64 a19), .lit (.int .u64 a20)]] ∧ p = [] ∧ (Lit.int .i64 a0).wf = true ∧ (Lit.int .u64 a1).wf = true ∧ (Lit.int .u64 a2).wf = true ∧ (Lit.int .u64 a3).wf = true ∧ (Lit.int .u64 a4).wf = true ∧ (Lit.int .u64 a5).wf = true ∧ (Lit.int .u64 a6).wf = true ∧ (Lit.int .u64 a7).wf = true ∧ (Lit.int .u64 a8).wf = true ∧ (Lit.int .u64 a9).wf = true ∧ (Lit.int .u64 a10).wf = true ∧ (Lit.int .u64 a11).wf = true ∧ (Lit.int .u64 a12).wf = true ∧ (Lit.int .u64 a13).wf = true ∧ (Lit.int .u64 a14).wf = true ∧ (Lit.int .u64 a15).wf = true ∧ (Lit.int .u64 a16).wf = true ∧ (Lit.int .u64 a17).wf = true ∧ (Lit.int .u64 a18).wf = true ∧ (Lit.int .u64 a19).wf = true ∧ (Lit.int .u64 a20).wf = true := by
  simp only [Value.okWide, Tryd.underlying27] at hv
  obtain ⟨cs, rfl, hs, _⟩ := hv
  obtain ⟨l⟩ := cs
  obtain ⟨z0, z1, z2, z3, z4, z5, z6, z7, z8, z9, z10, z11, z12, z13, z14, z15, z16, z17, z18, z19, z20, rfl⟩ := arr21 (l := l) (by simpa [cellsNode] using hs)
  obtain ⟨fuel, h⟩ := h
  obtain ⟨xs, n, rfl, hx, _, hl, hg⟩ := DataW.trod_struct Tryd.underlying27 h
  have hl7 : xs.length = 7 := hl
  match xs, hl7 with
  | [x0, x1, x2, x3, x4, x5, x6], _ =>
    have g0 : DataW.trod enc Tryd.prog w base spare held n 3 [z0] = some x0 := by
      have := hg 0 _ rfl
      simpa [cellsIn, Value.cells] using this
    have g1 : DataW.trod enc Tryd.prog w base spare held n 22 [z1] = some x1 := by
      have := hg 1 _ rfl
      simpa [cellsU', Value.cells] using this
    have g2 : DataW.trod enc Tryd.prog w base spare held n 23 [z2] = some x2 := by
      have := hg 2 _ rfl
      simpa [cellsAd, Value.cells] using this
    have g3 : DataW.trod enc Tryd.prog w base spare held n 22 [z3] = some x3 := by
      have := hg 3 _ rfl
      simpa [cellsU', Value.cells] using this
    have g4 : DataW.trod enc Tryd.prog w base spare held n 23 [z4] = some x4 := by
      have := hg 4 _ rfl
      simpa [cellsAd, Value.cells] using this
    have g5 : DataW.trod enc Tryd.prog w base spare held n 24 [z5, z6, z7, z8, z9, z10, z11, z12] = some x5 := by
      have := hg 5 _ rfl
      simpa [cellsW8', Value.cells] using this
    have g6 : DataW.trod enc Tryd.prog w base spare held n 25 [z13, z14, z15, z16, z17, z18, z19, z20] = some x6 := by
      have := hg 6 _ rfl
      simpa [cellsA8, Value.cells] using this
    obtain ⟨a0, q0, rfl, w0⟩ := DataW.trod_int Tryd.underlying3 g0
    simp at q0
    subst q0
    obtain ⟨a1, q1, rfl, w1⟩ := DataW.trod_int Tryd.underlying22 g1
    simp at q1
    subst q1
    obtain ⟨a2, q2, rfl, w2⟩ := DataW.trod_int Tryd.underlying23 g2
    simp at q2
    subst q2
    obtain ⟨a3, q3, rfl, w3⟩ := DataW.trod_int Tryd.underlying22 g3
    simp at q3
    subst q3
    obtain ⟨a4, q4, rfl, w4⟩ := DataW.trod_int Tryd.underlying23 g4
    simp at q4
    subst q4
    obtain ⟨a5, a6, a7, a8, a9, a10, a11, a12, rfl, rfl, rfl, rfl, rfl, rfl, rfl, rfl, rfl, w5, w6, w7, w8, w9, w10, w11, w12⟩ := trod_arr8 Tryd.underlying24 Tryd.underlying22 cellsU' cellsW8' g5
    obtain ⟨a13, a14, a15, a16, a17, a18, a19, a20, rfl, rfl, rfl, rfl, rfl, rfl, rfl, rfl, rfl, w13, w14, w15, w16, w17, w18, w19, w20⟩ := trod_arr8 Tryd.underlying25 Tryd.underlying23 cellsAd cellsA8 g6
    simp at hx
    exact ⟨a0, a1, a2, a3, a4, a5, a6, a7, a8, a9, a10, a11, a12, a13, a14, a15, a16, a17, a18, a19, a20, rfl, hx.1, hx.2, w0, w1, w2, w3, w4, w5, w6, w7, w8, w9, w10, w11, w12, w13, w14, w15, w16, w17, w18, w19, w20⟩
set_option maxRecDepth 100000 in
theorem shut_node {a0 a1 a2 a3 a4 a5 a6 a7 a8 a9 a10 a11 a12 a13 a14 a15 a16 a17 a18 a19 a20 : Int} (w0 : (Lit.int .i64 a0).wf = true) (w1 : (Lit.int .u64 a1).wf = true) (w2 : (Lit.int .u64 a2).wf = true) (w3 : (Lit.int .u64 a3).wf = true) (w4 : (Lit.int .u64 a4).wf = true) (w5 : (Lit.int .u64 a5).wf = true) (w6 : (Lit.int .u64 a6).wf = true) (w7 : (Lit.int .u64 a7).wf = true) (w8 : (Lit.int .u64 a8).wf = true) (w9 : (Lit.int .u64 a9).wf = true) (w10 : (Lit.int .u64 a10).wf = true) (w11 : (Lit.int .u64 a11).wf = true) (w12 : (Lit.int .u64 a12).wf = true) (w13 : (Lit.int .u64 a13).wf = true) (w14 : (Lit.int .u64 a14).wf = true) (w15 : (Lit.int .u64 a15).wf = true) (w16 : (Lit.int .u64 a16).wf = true) (w17 : (Lit.int .u64 a17).wf = true) (w18 : (Lit.int .u64 a18).wf = true) (w19 : (Lit.int .u64 a19).wf = true) (w20 : (Lit.int .u64 a20).wf = true) :
    DataW.Trod enc Tryd.prog w base spare held 27 (.agg #[.int .i64 a0, .int .u64 a1, .int .u64 a2, .int .u64 a3, .int .u64 a4, .int .u64 a5, .int .u64 a6, .int .u64 a7, .int .u64 a8, .int .u64 a9, .int .u64 a10, .int .u64 a11, .int .u64 a12, .int .u64 a13, .int .u64 a14, .int .u64 a15, .int .u64 a16, .int .u64 a17, .int .u64 a18, .int .u64 a19, .int .u64 a20]) (.agg [.lit (.int .i64 a0), .lit (.int .u64 a1), .lit (.int .u64 a2), .lit (.int .u64 a3), .lit (.int .u64 a4), .agg [.lit (.int .u64 a5), .lit (.int .u64 a6), .lit (.int .u64 a7), .lit (.int .u64 a8), .lit (.int .u64 a9), .lit (.int .u64 a10), .lit (.int .u64 a11), .lit (.int .u64 a12)], .agg [.lit (.int .u64 a13), .lit (.int .u64 a14), .lit (.int .u64 a15), .lit (.int .u64 a16), .lit (.int .u64 a17), .lit (.int .u64 a18), .lit (.int .u64 a19), .lit (.int .u64 a20)]]) [] := by
  refine ⟨3, ?_⟩
  simp only [DataW.trod, Tryd.underlying27, Tryd.underlying24, Tryd.underlying25, Tryd.underlying3, Tryd.underlying22, Tryd.underlying23, Value.cells, cellsNode, cellsW8', cellsA8, cellsU', cellsAd, cellsIn, show List.range 8 = [0, 1, 2, 3, 4, 5, 6, 7] from rfl, List.mapM_cons, List.mapM_nil]
  simp [w0, w1, w2, w3, w4, w5, w6, w7, w8, w9, w10, w11, w12, w13, w14, w15, w16, w17, w18, w19, w20]
end
theorem node_val : ∀ {a0 a1 a2 a3 a4 a5 a6 a7 a8 a9 a10 a11 a12 a13 a14 a15 a16 a17 a18 a19 a20 : Int}, (.agg #[.int .i64 a0, .int .u64 a1, .int .u64 a2, .int .u64 a3, .int .u64 a4, .int .u64 a5, .int .u64 a6, .int .u64 a7, .int .u64 a8, .int .u64 a9, .int .u64 a10, .int .u64 a11, .int .u64 a12, .int .u64 a13, .int .u64 a14, .int .u64 a15, .int .u64 a16, .int .u64 a17, .int .u64 a18, .int .u64 a19, .int .u64 a20] : Value) = (Nd.mk a0 a1 a2 a3 a4 a5 a6 a7 a8 a9 a10 a11 a12 a13 a14 a15 a16 a17 a18 a19 a20).V := rfl
theorem node_wf {a0 a1 a2 a3 a4 a5 a6 a7 a8 a9 a10 a11 a12 a13 a14 a15 a16 a17 a18 a19 a20 : Int} (w0 : (Lit.int .i64 a0).wf = true) (w1 : (Lit.int .u64 a1).wf = true) (w2 : (Lit.int .u64 a2).wf = true) (w3 : (Lit.int .u64 a3).wf = true) (w4 : (Lit.int .u64 a4).wf = true) (w5 : (Lit.int .u64 a5).wf = true) (w6 : (Lit.int .u64 a6).wf = true) (w7 : (Lit.int .u64 a7).wf = true) (w8 : (Lit.int .u64 a8).wf = true) (w9 : (Lit.int .u64 a9).wf = true) (w10 : (Lit.int .u64 a10).wf = true) (w11 : (Lit.int .u64 a11).wf = true) (w12 : (Lit.int .u64 a12).wf = true) (w13 : (Lit.int .u64 a13).wf = true) (w14 : (Lit.int .u64 a14).wf = true) (w15 : (Lit.int .u64 a15).wf = true) (w16 : (Lit.int .u64 a16).wf = true) (w17 : (Lit.int .u64 a17).wf = true) (w18 : (Lit.int .u64 a18).wf = true) (w19 : (Lit.int .u64 a19).wf = true) (w20 : (Lit.int .u64 a20).wf = true) : (Nd.mk a0 a1 a2 a3 a4 a5 a6 a7 a8 a9 a10 a11 a12 a13 a14 a15 a16 a17 a18 a19 a20).Wf := by
  have hk := fun i (hi : i < 8) => lt8 hi
  refine ⟨(i64_wf' w0).1, (i64_wf' w0).2, u64_wf' w1, u64_wf' w2, u64_wf' w3, u64_wf' w4, fun i hi => ?_, fun i hi => ?_⟩
  · rcases hk i hi with rfl | rfl | rfl | rfl | rfl | rfl | rfl | rfl
    · exact u64_wf' w5
    · exact u64_wf' w6
    · exact u64_wf' w7
    · exact u64_wf' w8
    · exact u64_wf' w9
    · exact u64_wf' w10
    · exact u64_wf' w11
    · exact u64_wf' w12
  · rcases hk i hi with rfl | rfl | rfl | rfl | rfl | rfl | rfl | rfl
    · exact u64_wf' w13
    · exact u64_wf' w14
    · exact u64_wf' w15
    · exact u64_wf' w16
    · exact u64_wf' w17
    · exact u64_wf' w18
    · exact u64_wf' w19
    · exact u64_wf' w20
end Go.Proofs.YtaegaeljakdffaaDoor
