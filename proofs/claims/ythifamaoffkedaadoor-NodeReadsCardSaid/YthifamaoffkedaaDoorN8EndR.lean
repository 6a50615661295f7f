/- NodeReads as its row wants it: an array of 24 words as an argument, opened and shut; no conditions. -/
import Derived.Test.YthifamaoffkedaaDoorN8LawR
import Derived.Test.YthifamaoffkedaaDoorN8Arg
namespace Go.Proofs.YthifamaoffkedaaDoor
open Go.RowKit Go.ChangeShapes Go.WideShapes Go.ChangeAt
set_option linter.unusedVariables false
theorem arr24 {l : List Value} (h : l.length = 24) : ∃ a0 a1 a2 a3 a4 a5 a6 a7 a8 a9 a10 a11 a12 a13 a14 a15 a16 a17 a18 a19 a20 a21 a22 a23, l = [a0, a1, a2, a3, a4, a5, a6, a7, a8, a9, a10, a11, a12, a13, a14, a15, a16, a17, a18, a19, a20, a21, a22, a23] := by
  match l, h with
  | [a0, a1, a2, a3, a4, a5, a6, a7, a8, a9, a10, a11, a12, a13, a14, a15, a16, a17, a18, a19, a20, a21, a22, a23], _ => exact ⟨a0, a1, a2, a3, a4, a5, a6, a7, a8, a9, a10, a11, a12, a13, a14, a15, a16, a17, a18, a19, a20, a21, a22, a23, rfl⟩
theorem cellsW24 : Tryd.prog.cellsOf 28 = 24 := by kernel_rfl
section
variable {H : Type} {enc : TypeId × Value → H} {w : World} {base : Nat} {spare : Nat → Bool} {held : Bool}
set_option maxRecDepth 100000 in
set_option maxHeartbeats 4000000 in
theorem open_w24 {r : Reach} {b0 : Nat} {v : Value} {d : DataW H} {p : List MemPlace} (hv : Value.okWide Tryd.prog w r b0 28 v) (h : DataW.Trod enc Tryd.prog w base spare held 28 v d p) :
    ∃ a0 a1 a2 a3 a4 a5 a6 a7 a8 a9 a10 a11 a12 a13 a14 a15 a16 a17 a18 a19 a20 a21 a22 a23 : Int, v = .agg #[.int .u64 a0, .int .u64 a1, .int .u64 a2, .int .u64 a3, .int .u64 a4, .int .u64 a5, .int .u64 a6, .int .u64 a7, .int .u64 a8, .int .u64 a9, .int .u64 a10, .int .u64 a11, .int .u64 a12, .int .u64 a13, .int .u64 a14, .int .u64 a15, .int .u64 a16, .int .u64 a17, .int .u64 a18, .int .u64 a19, .int .u64 a20, .int .u64 a21, .int .u64 a22, .int .u64 a23] ∧ d = .agg [.lit (.int .u64 a0), .lit (.int .u64 a1), .lit (.int .u64 a2), .lit (.int .u64 a3), .lit (.int .u64 a4), .lit (.int .u64 a5), .lit (.int .u64 a6), .lit (.int .u64 a7), .lit (.int .u64 a8), .lit (.int .u64 a9), .lit (.int .u64 a10), .lit (.int .u64 a11), .lit (.int .u64 a12), .lit (.int .u64 a13), .lit (.int .u64 a14), .lit (.int .u64 a15), .lit (.int .u64 a16), .lit (.int .u64 a17), .lit (.int .u64 a18), .lit (.int .u64 a19), .lit (.int .u64 a20), .lit (.int .u64 a21), .lit (.int .u64 a22), .lit (.int .u64 a23)] ∧ p = [] ∧ (Lit.int .u64 a0).wf = true ∧ (Lit.int .u64 a1).wf = true ∧ (Lit.int .u64 a2).wf = true ∧ (Lit.int .u64 a3).wf = true ∧ (Lit.int .u64 a4).wf = true ∧ (Lit.int .u64 a5).wf = true ∧ (Lit.int .u64 a6).wf = true ∧ (Lit.int .u64 a7).wf = true ∧ (Lit.int .u64 a8).wf = true ∧ (Lit.int .u64 a9).wf = true ∧ (Lit.int .u64 a10).wf = true ∧ (Lit.int .u64 a11).wf = true ∧ (Lit.int .u64 a12).wf = true ∧ (Lit.int .u64 a13).wf = true ∧ (Lit.int .u64 a14).wf = true ∧ (Lit.int .u64 a15).wf = true ∧ (Lit.int .u64 a16).wf = true ∧ (Lit.int .u64 a17).wf = true ∧ (Lit.int .u64 a18).wf = true ∧ (Lit.int .u64 a19).wf = true ∧ (Lit.int .u64 a20).wf = true ∧ (Lit.int .u64 a21).wf = true ∧ (Lit.int .u64 a22).wf = true ∧ (Lit.int .u64 a23).wf = true := by
  simp only [Value.okWide, Tryd.underlying28] at hv
  obtain ⟨cs, rfl, hs, _⟩ := hv
  obtain ⟨l⟩ := cs
  obtain ⟨v0, v1, v2, v3, v4, v5, v6, v7, v8, v9, v10, v11, v12, v13, v14, v15, v16, v17, v18, v19, v20, v21, v22, v23, rfl⟩ := arr24 (l := l) (by simpa [cellsW24] using hs)
  obtain ⟨fuel, h⟩ := h
  cases fuel with
  | zero => simp [DataW.trod] at h
  | succ fuel =>
    simp only [DataW.trod, Tryd.underlying28, Value.cells, cellsW24, cellsU', show List.range 24 = [0, 1, 2, 3, 4, 5, 6, 7, 8, 9, 10, 11, 12, 13, 14, 15, 16, 17, 18, 19, 20, 21, 22, 23] from rfl, List.mapM_cons, List.mapM_nil, Option.bind_eq_bind, Option.pure_def] at h
    split at h
    · obtain ⟨xs, hm, hx⟩ := Option.map_eq_some_iff.1 h
      obtain ⟨u0, h0, hm⟩ := Option.bind_eq_some_iff.1 hm
      obtain ⟨l1, k1, e1⟩ := Option.bind_eq_some_iff.1 hm
      obtain ⟨u1, h1, k1⟩ := Option.bind_eq_some_iff.1 k1
      obtain ⟨l2, k2, e2⟩ := Option.bind_eq_some_iff.1 k1
      obtain ⟨u2, h2, k2⟩ := Option.bind_eq_some_iff.1 k2
      obtain ⟨l3, k3, e3⟩ := Option.bind_eq_some_iff.1 k2
      obtain ⟨u3, h3, k3⟩ := Option.bind_eq_some_iff.1 k3
      obtain ⟨l4, k4, e4⟩ := Option.bind_eq_some_iff.1 k3
      obtain ⟨u4, h4, k4⟩ := Option.bind_eq_some_iff.1 k4
      obtain ⟨l5, k5, e5⟩ := Option.bind_eq_some_iff.1 k4
      obtain ⟨u5, h5, k5⟩ := Option.bind_eq_some_iff.1 k5
      obtain ⟨l6, k6, e6⟩ := Option.bind_eq_some_iff.1 k5
      obtain ⟨u6, h6, k6⟩ := Option.bind_eq_some_iff.1 k6
      obtain ⟨l7, k7, e7⟩ := Option.bind_eq_some_iff.1 k6
      obtain ⟨u7, h7, k7⟩ := Option.bind_eq_some_iff.1 k7
      obtain ⟨l8, k8, e8⟩ := Option.bind_eq_some_iff.1 k7
      obtain ⟨u8, h8, k8⟩ := Option.bind_eq_some_iff.1 k8
      obtain ⟨l9, k9, e9⟩ := Option.bind_eq_some_iff.1 k8
      obtain ⟨u9, h9, k9⟩ := Option.bind_eq_some_iff.1 k9
      obtain ⟨l10, k10, e10⟩ := Option.bind_eq_some_iff.1 k9
      obtain ⟨u10, h10, k10⟩ := Option.bind_eq_some_iff.1 k10
      obtain ⟨l11, k11, e11⟩ := Option.bind_eq_some_iff.1 k10
      obtain ⟨u11, h11, k11⟩ := Option.bind_eq_some_iff.1 k11
      obtain ⟨l12, k12, e12⟩ := Option.bind_eq_some_iff.1 k11
      obtain ⟨u12, h12, k12⟩ := Option.bind_eq_some_iff.1 k12
      obtain ⟨l13, k13, e13⟩ := Option.bind_eq_some_iff.1 k12
      obtain ⟨u13, h13, k13⟩ := Option.bind_eq_some_iff.1 k13
      obtain ⟨l14, k14, e14⟩ := Option.bind_eq_some_iff.1 k13
      obtain ⟨u14, h14, k14⟩ := Option.bind_eq_some_iff.1 k14
      obtain ⟨l15, k15, e15⟩ := Option.bind_eq_some_iff.1 k14
      obtain ⟨u15, h15, k15⟩ := Option.bind_eq_some_iff.1 k15
      obtain ⟨l16, k16, e16⟩ := Option.bind_eq_some_iff.1 k15
      obtain ⟨u16, h16, k16⟩ := Option.bind_eq_some_iff.1 k16
      obtain ⟨l17, k17, e17⟩ := Option.bind_eq_some_iff.1 k16
      obtain ⟨u17, h17, k17⟩ := Option.bind_eq_some_iff.1 k17
      obtain ⟨l18, k18, e18⟩ := Option.bind_eq_some_iff.1 k17
      obtain ⟨u18, h18, k18⟩ := Option.bind_eq_some_iff.1 k18
      obtain ⟨l19, k19, e19⟩ := Option.bind_eq_some_iff.1 k18
      obtain ⟨u19, h19, k19⟩ := Option.bind_eq_some_iff.1 k19
      obtain ⟨l20, k20, e20⟩ := Option.bind_eq_some_iff.1 k19
      obtain ⟨u20, h20, k20⟩ := Option.bind_eq_some_iff.1 k20
      obtain ⟨l21, k21, e21⟩ := Option.bind_eq_some_iff.1 k20
      obtain ⟨u21, h21, k21⟩ := Option.bind_eq_some_iff.1 k21
      obtain ⟨l22, k22, e22⟩ := Option.bind_eq_some_iff.1 k21
      obtain ⟨u22, h22, k22⟩ := Option.bind_eq_some_iff.1 k22
      obtain ⟨l23, k23, e23⟩ := Option.bind_eq_some_iff.1 k22
      obtain ⟨u23, h23, k23⟩ := Option.bind_eq_some_iff.1 k23
      simp only [Option.bind_some, Option.some.injEq] at e1 e2 e3 e4 e5 e6 e7 e8 e9 e10 e11 e12 e13 e14 e15 e16 e17 e18 e19 e20 e21 e22 e23 k23
      subst k23 e23 e22 e21 e20 e19 e18 e17 e16 e15 e14 e13 e12 e11 e10 e9 e8 e7 e6 e5 e4 e3 e2 e1
      obtain ⟨c0, q0, rfl, w0⟩ := DataW.trod_int Tryd.underlying22 h0
      simp at q0
      subst q0
      obtain ⟨c1, q1, rfl, w1⟩ := DataW.trod_int Tryd.underlying22 h1
      simp at q1
      subst q1
      obtain ⟨c2, q2, rfl, w2⟩ := DataW.trod_int Tryd.underlying22 h2
      simp at q2
      subst q2
      obtain ⟨c3, q3, rfl, w3⟩ := DataW.trod_int Tryd.underlying22 h3
      simp at q3
      subst q3
      obtain ⟨c4, q4, rfl, w4⟩ := DataW.trod_int Tryd.underlying22 h4
      simp at q4
      subst q4
      obtain ⟨c5, q5, rfl, w5⟩ := DataW.trod_int Tryd.underlying22 h5
      simp at q5
      subst q5
      obtain ⟨c6, q6, rfl, w6⟩ := DataW.trod_int Tryd.underlying22 h6
      simp at q6
      subst q6
      obtain ⟨c7, q7, rfl, w7⟩ := DataW.trod_int Tryd.underlying22 h7
      simp at q7
      subst q7
      obtain ⟨c8, q8, rfl, w8⟩ := DataW.trod_int Tryd.underlying22 h8
      simp at q8
      subst q8
      obtain ⟨c9, q9, rfl, w9⟩ := DataW.trod_int Tryd.underlying22 h9
      simp at q9
      subst q9
      obtain ⟨c10, q10, rfl, w10⟩ := DataW.trod_int Tryd.underlying22 h10
      simp at q10
      subst q10
      obtain ⟨c11, q11, rfl, w11⟩ := DataW.trod_int Tryd.underlying22 h11
      simp at q11
      subst q11
      obtain ⟨c12, q12, rfl, w12⟩ := DataW.trod_int Tryd.underlying22 h12
      simp at q12
      subst q12
      obtain ⟨c13, q13, rfl, w13⟩ := DataW.trod_int Tryd.underlying22 h13
      simp at q13
      subst q13
      obtain ⟨c14, q14, rfl, w14⟩ := DataW.trod_int Tryd.underlying22 h14
      simp at q14
      subst q14
      obtain ⟨c15, q15, rfl, w15⟩ := DataW.trod_int Tryd.underlying22 h15
      simp at q15
      subst q15
      obtain ⟨c16, q16, rfl, w16⟩ := DataW.trod_int Tryd.underlying22 h16
      simp at q16
      subst q16
      obtain ⟨c17, q17, rfl, w17⟩ := DataW.trod_int Tryd.underlying22 h17
      simp at q17
      subst q17
      obtain ⟨c18, q18, rfl, w18⟩ := DataW.trod_int Tryd.underlying22 h18
      simp at q18
      subst q18
      obtain ⟨c19, q19, rfl, w19⟩ := DataW.trod_int Tryd.underlying22 h19
      simp at q19
      subst q19
      obtain ⟨c20, q20, rfl, w20⟩ := DataW.trod_int Tryd.underlying22 h20
      simp at q20
      subst q20
      obtain ⟨c21, q21, rfl, w21⟩ := DataW.trod_int Tryd.underlying22 h21
      simp at q21
      subst q21
      obtain ⟨c22, q22, rfl, w22⟩ := DataW.trod_int Tryd.underlying22 h22
      simp at q22
      subst q22
      obtain ⟨c23, q23, rfl, w23⟩ := DataW.trod_int Tryd.underlying22 h23
      simp at q23
      subst q23
      simp at hx
      exact ⟨c0, c1, c2, c3, c4, c5, c6, c7, c8, c9, c10, c11, c12, c13, c14, c15, c16, c17, c18, c19, c20, c21, c22, c23, rfl, hx.1.symm, hx.2, w0, w1, w2, w3, w4, w5, w6, w7, w8, w9, w10, w11, w12, w13, w14, w15, w16, w17, w18, w19, w20, w21, w22, w23⟩
    · cases h
set_option maxRecDepth 100000 in
set_option maxHeartbeats 4000000 in
theorem shut_w24 {a0 a1 a2 a3 a4 a5 a6 a7 a8 a9 a10 a11 a12 a13 a14 a15 a16 a17 a18 a19 a20 a21 a22 a23 : Int} (w0 : (Lit.int .u64 a0).wf = true) (w1 : (Lit.int .u64 a1).wf = true) (w2 : (Lit.int .u64 a2).wf = true) (w3 : (Lit.int .u64 a3).wf = true) (w4 : (Lit.int .u64 a4).wf = true) (w5 : (Lit.int .u64 a5).wf = true) (w6 : (Lit.int .u64 a6).wf = true) (w7 : (Lit.int .u64 a7).wf = true) (w8 : (Lit.int .u64 a8).wf = true) (w9 : (Lit.int .u64 a9).wf = true) (w10 : (Lit.int .u64 a10).wf = true) (w11 : (Lit.int .u64 a11).wf = true) (w12 : (Lit.int .u64 a12).wf = true) (w13 : (Lit.int .u64 a13).wf = true) (w14 : (Lit.int .u64 a14).wf = true) (w15 : (Lit.int .u64 a15).wf = true) (w16 : (Lit.int .u64 a16).wf = true) (w17 : (Lit.int .u64 a17).wf = true) (w18 : (Lit.int .u64 a18).wf = true) (w19 : (Lit.int .u64 a19).wf = true) (w20 : (Lit.int .u64 a20).wf = true) (w21 : (Lit.int .u64 a21).wf = true) (w22 : (Lit.int .u64 a22).wf = true) (w23 : (Lit.int .u64 a23).wf = true) :
    DataW.Trod enc Tryd.prog w base spare held 28 (.agg #[.int .u64 a0, .int .u64 a1, .int .u64 a2, .int .u64 a3, .int .u64 a4, .int .u64 a5, .int .u64 a6, .int .u64 a7, .int .u64 a8, .int .u64 a9, .int .u64 a10, .int .u64 a11, .int .u64 a12, .int .u64 a13, .int .u64 a14, .int .u64 a15, .int .u64 a16, .int .u64 a17, .int .u64 a18, .int .u64 a19, .int .u64 a20, .int .u64 a21, .int .u64 a22, .int .u64 a23]) (.agg [.lit (.int .u64 a0), .lit (.int .u64 a1), .lit (.int .u64 a2), .lit (.int .u64 a3), .lit (.int .u64 a4), .lit (.int .u64 a5), .lit (.int .u64 a6), .lit (.int .u64 a7), .lit (.int .u64 a8), .lit (.int .u64 a9), .lit (.int .u64 a10), .lit (.int .u64 a11), .lit (.int .u64 a12), .lit (.int .u64 a13), .lit (.int .u64 a14), .lit (.int .u64 a15), .lit (.int .u64 a16), .lit (.int .u64 a17), .lit (.int .u64 a18), .lit (.int .u64 a19), .lit (.int .u64 a20), .lit (.int .u64 a21), .lit (.int .u64 a22), .lit (.int .u64 a23)]) [] := by
  refine ⟨2, ?_⟩
  simp only [DataW.trod, Tryd.underlying28, Value.cells, cellsW24, cellsU', show List.range 24 = [0, 1, 2, 3, 4, 5, 6, 7, 8, 9, 10, 11, 12, 13, 14, 15, 16, 17, 18, 19, 20, 21, 22, 23] from rfl, List.mapM_cons, List.mapM_nil]
  simp [Tryd.underlying22, w0, w1, w2, w3, w4, w5, w6, w7, w8, w9, w10, w11, w12, w13, w14, w15, w16, w17, w18, w19, w20, w21, w22, w23]
end
theorem reads_all (a0 a1 a2 a3 a4 a5 a6 a7 a8 a9 a10 a11 a12 a13 a14 a15 a16 a17 a18 a19 a20 a21 a22 a23 : Int) (lv : Int) (W : World) (w0 : (Lit.int .u64 a0).wf = true) (w1 : (Lit.int .u64 a1).wf = true) (w2 : (Lit.int .u64 a2).wf = true) (w3 : (Lit.int .u64 a3).wf = true) (w4 : (Lit.int .u64 a4).wf = true) (w5 : (Lit.int .u64 a5).wf = true) (w6 : (Lit.int .u64 a6).wf = true) (w7 : (Lit.int .u64 a7).wf = true) (w8 : (Lit.int .u64 a8).wf = true) (w9 : (Lit.int .u64 a9).wf = true) (w10 : (Lit.int .u64 a10).wf = true) (w11 : (Lit.int .u64 a11).wf = true) (w12 : (Lit.int .u64 a12).wf = true) (w13 : (Lit.int .u64 a13).wf = true) (w14 : (Lit.int .u64 a14).wf = true) (w15 : (Lit.int .u64 a15).wf = true) (w16 : (Lit.int .u64 a16).wf = true) (w17 : (Lit.int .u64 a17).wf = true) (w18 : (Lit.int .u64 a18).wf = true) (w19 : (Lit.int .u64 a19).wf = true) (w20 : (Lit.int .u64 a20).wf = true) (w21 : (Lit.int .u64 a21).wf = true) (w22 : (Lit.int .u64 a22).wf = true) (w23 : (Lit.int .u64 a23).wf = true) (wl : (Lit.int .i64 lv).wf = true) (R : Pow W) :
    Calls Tryd.prog 4 #[.agg #[.int .u64 a0, .int .u64 a1, .int .u64 a2, .int .u64 a3, .int .u64 a4, .int .u64 a5, .int .u64 a6, .int .u64 a7, .int .u64 a8, .int .u64 a9, .int .u64 a10, .int .u64 a11, .int .u64 a12, .int .u64 a13, .int .u64 a14, .int .u64 a15, .int .u64 a16, .int .u64 a17, .int .u64 a18, .int .u64 a19, .int .u64 a20, .int .u64 a21, .int .u64 a22, .int .u64 a23], .int .i64 lv] W fun e W' => e = .returned (.bool true) ∧ Below W.heap.size W W' :=
  lawReads (x := [a0, a1, a2, a3, a4, a5, a6, a7, a8, a9, a10, a11, a12, a13, a14, a15, a16, a17, a18, a19, a20, a21, a22, a23]) rfl (u64_wf' w0) lv W R
end Go.Proofs.YthifamaoffkedaaDoor
