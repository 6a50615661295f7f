/- A superblock, and eight words, as arguments: opened and shut; and the laws of layer 4 as their rows want them. -/
import Derived.Test.YtlpampbdnbjphaaDoorSupQ
import Derived.OpenShut
import Derived.Lib.SmallJoins
namespace Go.Proofs.YtlpampbdnbjphaaDoor
open Go.RowKit Go.Sort Go.Shelf Go.ChangeShapes Go.WideShapes Go.ChangeAt
set_option linter.unusedVariables false

theorem u64_wf {a : Int} (h : (Lit.int .u64 a).wf = true) : 0 ≤ a ∧ a < 18446744073709551616 := by
  simp only [Lit.wf, Bool.and_eq_true, decide_eq_true_eq] at h
  have hmin : IntKind.u64.min = 0 := rfl
  have hmax : IntKind.u64.max = 18446744073709551615 := rfl
  omega
theorem i64_wf {a : Int} (h : (Lit.int .i64 a).wf = true) : -9223372036854775808 ≤ a ∧ a ≤ 9223372036854775807 := by
  simp only [Lit.wf, Bool.and_eq_true, decide_eq_true_eq] at h
  have hmin : IntKind.i64.min = -9223372036854775808 := rfl
  have hmax : IntKind.i64.max = 9223372036854775807 := rfl
  omega
section
variable {H : Type} {enc : TypeId × Value → H} {w : World} {base : Nat} {spare : Nat → Bool} {held : Bool}
theorem open_super {r : Reach} {b0 : Nat} {v : Value} {d : DataW H} {p : List MemPlace} (hv : Value.okWide Tryd.prog w r b0 25 v) (h : DataW.Trod enc Tryd.prog w base spare held 25 v d p) :
    ∃ a b : Int, v = .agg #[.int .u64 a, .int .u64 b] ∧ d = .agg [.lit (.int .u64 a), .lit (.int .u64 b)] ∧ p = [] ∧ (Lit.int .u64 a).wf = true ∧ (Lit.int .u64 b).wf = true := by
  obtain ⟨v0, v1, y0, y1, n, rfl, rfl, rfl, h0, h1⟩ := Joins.open_agg2 Tryd.underlying25 (by kernel_rfl) (by kernel_rfl) hv h
  obtain ⟨a, ea, rfl, wa⟩ := DataW.trod_int Tryd.underlying22 h0
  obtain ⟨b, eb, rfl, wb⟩ := DataW.trod_int Tryd.underlying23 h1
  simp at ea eb
  subst ea eb
  exact ⟨a, b, rfl, rfl, rfl, wa, wb⟩
theorem shut_super {a b : Int} (wa : (Lit.int .u64 a).wf = true) (wb : (Lit.int .u64 b).wf = true) :
    DataW.Trod enc Tryd.prog w base spare held 25 (.agg #[.int .u64 a, .int .u64 b]) (.agg [.lit (.int .u64 a), .lit (.int .u64 b)]) [] := by
  have := Joins.shut_agg2 (enc := enc) (w := w) (base := base) (spare := spare) (held := held) (v0 := .int .u64 a) (v1 := .int .u64 b) (y0 := (.lit (.int .u64 a), [])) (y1 := (.lit (.int .u64 b), [])) Tryd.underlying25 (by kernel_rfl) (by kernel_rfl)
    ⟨1, by simp [DataW.trod, Tryd.underlying22, wa]⟩ ⟨1, by simp [DataW.trod, Tryd.underlying23, wb]⟩
  simpa using this
theorem cellsW8 : Tryd.prog.cellsOf 32 = 8 := by kernel_rfl
theorem arr8 {l : List Value} (h : l.length = 8) : ∃ a b c d e f g h, l = [a, b, c, d, e, f, g, h] := by
  match l, h with
  | [a, b, c, d, e, f, g, h], _ => exact ⟨a, b, c, d, e, f, g, h, rfl⟩
theorem trod_word {fuel : Nat} {v : Value} {x : DataW H × List MemPlace} (h : DataW.trod enc Tryd.prog w base spare held fuel 22 [v] = some x) : ∃ a : Int, v = .int .u64 a ∧ x = (.lit (.int .u64 a), []) ∧ (Lit.int .u64 a).wf = true := by
  obtain ⟨a, ea, hx, wa⟩ := DataW.trod_int Tryd.underlying22 h
  simp at ea
  exact ⟨a, ea, hx, wa⟩
theorem open_w8 {r : Reach} {b0 : Nat} {v : Value} {d : DataW H} {p : List MemPlace} (hv : Value.okWide Tryd.prog w r b0 32 v) (h : DataW.Trod enc Tryd.prog w base spare held 32 v d p) :
    ∃ a0 a1 a2 a3 a4 a5 a6 a7 : Int, v = .agg #[.int .u64 a0, .int .u64 a1, .int .u64 a2, .int .u64 a3, .int .u64 a4, .int .u64 a5, .int .u64 a6, .int .u64 a7] ∧
      d = .agg [.lit (.int .u64 a0), .lit (.int .u64 a1), .lit (.int .u64 a2), .lit (.int .u64 a3), .lit (.int .u64 a4), .lit (.int .u64 a5), .lit (.int .u64 a6), .lit (.int .u64 a7)] ∧ p = [] ∧
      (Lit.int .u64 a0).wf = true ∧ (Lit.int .u64 a1).wf = true ∧ (Lit.int .u64 a2).wf = true ∧ (Lit.int .u64 a3).wf = true ∧ (Lit.int .u64 a4).wf = true ∧ (Lit.int .u64 a5).wf = true ∧ (Lit.int .u64 a6).wf = true ∧ (Lit.int .u64 a7).wf = true := by
  simp only [Value.okWide, Tryd.underlying32] at hv
  obtain ⟨cs, rfl, hs, _⟩ := hv
  obtain ⟨l⟩ := cs
  obtain ⟨v0, v1, v2, v3, v4, v5, v6, v7, rfl⟩ := arr8 (l := l) (by simpa [cellsW8] using hs)
  obtain ⟨fuel, h⟩ := h
  cases fuel with
  | zero => simp [DataW.trod] at h
  | succ fuel =>
    simp only [DataW.trod, Tryd.underlying32, Value.cells, cellsW8, cellsU64, show List.range 8 = [0, 1, 2, 3, 4, 5, 6, 7] from rfl, List.mapM_cons, List.mapM_nil, Option.bind_eq_bind, Option.pure_def] at h
    split at h
    · obtain ⟨xs, hm, hx⟩ := Option.map_eq_some_iff.1 h
      obtain ⟨u0, h0, hm⟩ := Option.bind_eq_some_iff.1 hm
      obtain ⟨l1, k1, e1⟩ := Option.bind_eq_some_iff.1 hm
      obtain ⟨u1, h1, k1⟩ := Option.bind_eq_some_iff.1 k1
      obtain ⟨l2, k2, e2⟩ := Option.bind_eq_some_iff.1 k1
      obtain ⟨u2, h2, k2⟩ := Option.bind_eq_some_iff.1 k2
      obtain ⟨l3, k3, e3⟩ := Option.bind_eq_some_iff.1 k2
      obtain ⟨u3, h3, k3⟩ := Option.bind_eq_some_iff.1 k3
      obtain ⟨l4, k4, e4⟩ := Option.bind_eq_some_iff.1 k3
      obtain ⟨u4, h4, k4⟩ := Option.bind_eq_some_iff.1 k4
      obtain ⟨l5, k5, e5⟩ := Option.bind_eq_some_iff.1 k4
      obtain ⟨u5, h5, k5⟩ := Option.bind_eq_some_iff.1 k5
      obtain ⟨l6, k6, e6⟩ := Option.bind_eq_some_iff.1 k5
      obtain ⟨u6, h6, k6⟩ := Option.bind_eq_some_iff.1 k6
      obtain ⟨l7, k7, e7⟩ := Option.bind_eq_some_iff.1 k6
      obtain ⟨u7, h7, k7⟩ := Option.bind_eq_some_iff.1 k7
      simp only [Option.bind_some, Option.some.injEq] at e1 e2 e3 e4 e5 e6 e7 k7
      subst k7 e7 e6 e5 e4 e3 e2 e1
      obtain ⟨a0, rfl, rfl, w0⟩ := trod_word h0
      obtain ⟨a1, rfl, rfl, w1⟩ := trod_word h1
      obtain ⟨a2, rfl, rfl, w2⟩ := trod_word h2
      obtain ⟨a3, rfl, rfl, w3⟩ := trod_word h3
      obtain ⟨a4, rfl, rfl, w4⟩ := trod_word h4
      obtain ⟨a5, rfl, rfl, w5⟩ := trod_word h5
      obtain ⟨a6, rfl, rfl, w6⟩ := trod_word h6
      obtain ⟨a7, rfl, rfl, w7⟩ := trod_word h7
      simp at hx
      exact ⟨a0, a1, a2, a3, a4, a5, a6, a7, rfl, hx.1.symm, hx.2, w0, w1, w2, w3, w4, w5, w6, w7⟩
    · cases h
theorem shut_w8 {a0 a1 a2 a3 a4 a5 a6 a7 : Int} (w0 : (Lit.int .u64 a0).wf = true) (w1 : (Lit.int .u64 a1).wf = true) (w2 : (Lit.int .u64 a2).wf = true) (w3 : (Lit.int .u64 a3).wf = true) (w4 : (Lit.int .u64 a4).wf = true) (w5 : (Lit.int .u64 a5).wf = true) (w6 : (Lit.int .u64 a6).wf = true) (w7 : (Lit.int .u64 a7).wf = true) :
    DataW.Trod enc Tryd.prog w base spare held 32 (.agg #[.int .u64 a0, .int .u64 a1, .int .u64 a2, .int .u64 a3, .int .u64 a4, .int .u64 a5, .int .u64 a6, .int .u64 a7])
      (.agg [.lit (.int .u64 a0), .lit (.int .u64 a1), .lit (.int .u64 a2), .lit (.int .u64 a3), .lit (.int .u64 a4), .lit (.int .u64 a5), .lit (.int .u64 a6), .lit (.int .u64 a7)]) [] := by
  refine ⟨2, ?_⟩
  simp only [DataW.trod, Tryd.underlying32, Value.cells, cellsW8, cellsU64, show List.range 8 = [0, 1, 2, 3, 4, 5, 6, 7] from rfl, List.mapM_cons, List.mapM_nil]
  simp [Tryd.underlying22, w0, w1, w2, w3, w4, w5, w6, w7]
end
theorem makes_all (s r n : Int) (w : World) (hs : (Lit.int .i64 s).wf = true) (hr : (Lit.int .u64 r).wf = true) (hn : (Lit.int .i64 n).wf = true) (R : Rms w) :
    Calls Tryd.prog 3 #[.int .i64 s, .int .u64 r, .int .i64 n] w fun e w' => e = .returned (.bool true) ∧ Below w.heap.size w w' := lawMakes_any (i64_wf hn).1 (i64_wf hn).2 w R
theorem may_all (z r n : Int) (w : World) (hz : (Lit.int .u64 z).wf = true) (hr : (Lit.int .u64 r).wf = true) (hn : (Lit.int .i64 n).wf = true) (R : Rms w) :
    Calls Tryd.prog 4 #[.agg #[.int .u64 z, .int .u64 r], .int .i64 n] w fun e w' => e = .returned (.bool true) ∧ Below w.heap.size w w' := lawMay_walk (i64_wf hn).1 (i64_wf hn).2 w R
theorem words_all (z r : Int) (w : World) (hz : (Lit.int .u64 z).wf = true) (hr : (Lit.int .u64 r).wf = true) (R : Rms w) :
    Calls Tryd.prog 5 #[.agg #[.int .u64 z, .int .u64 r]] w fun e w' => e = .returned (.bool true) ∧ Below w.heap.size w w' := lawWords_walk (u64_wf hz).1 (u64_wf hz).2 w R
theorem reads_all (a0 a1 a2 a3 a4 a5 a6 a7 : Int) (w : World) (w0 : (Lit.int .u64 a0).wf = true) (w1 : (Lit.int .u64 a1).wf = true) (w2 : (Lit.int .u64 a2).wf = true) (w3 : (Lit.int .u64 a3).wf = true) (w4 : (Lit.int .u64 a4).wf = true) (w5 : (Lit.int .u64 a5).wf = true) (w6 : (Lit.int .u64 a6).wf = true) (w7 : (Lit.int .u64 a7).wf = true) (R : Rms w) :
    Calls Tryd.prog 6 #[.agg #[.int .u64 a0, .int .u64 a1, .int .u64 a2, .int .u64 a3, .int .u64 a4, .int .u64 a5, .int .u64 a6, .int .u64 a7]] w fun e w' => e = .returned (.bool true) ∧ Below w.heap.size w w' :=
  lawReads_any (u64_wf w1).1 (u64_wf w1).2 (u64_wf w3).1 (u64_wf w3).2 w R
theorem bits_all (z r k b : Int) (w : World) (hz : (Lit.int .u64 z).wf = true) (hr : (Lit.int .u64 r).wf = true) (hk : (Lit.int .i64 k).wf = true) (hb : (Lit.int .i64 b).wf = true) (R : Rms w) :
    Calls Tryd.prog 7 #[.agg #[.int .u64 z, .int .u64 r], .int .i64 k, .int .i64 b] w fun e w' => e = .returned (.bool true) ∧ Below w.heap.size w w' := lawBits_any (u64_wf hz).1 (u64_wf hz).2 (u64_wf hr).1 (u64_wf hr).2 k b w R
theorem places_all (s r : Int) (w : World) (hs : (Lit.int .i64 s).wf = true) (hr : (Lit.int .u64 r).wf = true) (R : Rms w) :
    Calls Tryd.prog 8 #[.int .i64 s, .int .u64 r] w fun e w' => e = .returned (.bool true) ∧ Below w.heap.size w w' := lawPlaces_any (i64_wf hs).2 w R
end Go.Proofs.YtlpampbdnbjphaaDoor
