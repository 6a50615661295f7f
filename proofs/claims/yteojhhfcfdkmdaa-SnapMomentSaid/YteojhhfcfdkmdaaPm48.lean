/- Texts of this claim, packed: SnMx. -/
import Derived.Test.YteojhhfcfdkmdaaPm47
import Derived.Test.YteojhhfcfdkmdaaPm39
set_option linter.unusedSimpArgs false
set_option linter.unusedVariables false
/- The law SnapMoment, of any input, as its row asks for it; conditions: the numbers are such as Go's types hold. -/
namespace Go.Proofs.Yteojhhfcfdkmdaa
open Go.RowKit
set_option linter.unusedVariables false
theorem node_val : ∀ {a0 a1 a2 a3 a4 a5 a6 a7 a8 a9 a10 a11 a12 a13 a14 a15 a16 a17 a18 a19 a20 : Int}, (.agg #[.int .i64 a0, .int .u64 a1, .int .u64 a2, .int .u64 a3, .int .u64 a4, .int .u64 a5, .int .u64 a6, .int .u64 a7, .int .u64 a8, .int .u64 a9, .int .u64 a10, .int .u64 a11, .int .u64 a12, .int .u64 a13, .int .u64 a14, .int .u64 a15, .int .u64 a16, .int .u64 a17, .int .u64 a18, .int .u64 a19, .int .u64 a20] : Value) = (Nd.mk a0 a1 a2 a3 a4 a5 a6 a7 a8 a9 a10 a11 a12 a13 a14 a15 a16 a17 a18 a19 a20).V := rfl
theorem node_wf {a0 a1 a2 a3 a4 a5 a6 a7 a8 a9 a10 a11 a12 a13 a14 a15 a16 a17 a18 a19 a20 : Int} (w0 : (Lit.int .i64 a0).wf = true) (w1 : (Lit.int .u64 a1).wf = true) (w2 : (Lit.int .u64 a2).wf = true) (w3 : (Lit.int .u64 a3).wf = true) (w4 : (Lit.int .u64 a4).wf = true) (w5 : (Lit.int .u64 a5).wf = true) (w6 : (Lit.int .u64 a6).wf = true) (w7 : (Lit.int .u64 a7).wf = true) (w8 : (Lit.int .u64 a8).wf = true) (w9 : (Lit.int .u64 a9).wf = true) (w10 : (Lit.int .u64 a10).wf = true) (w11 : (Lit.int .u64 a11).wf = true) (w12 : (Lit.int .u64 a12).wf = true) (w13 : (Lit.int .u64 a13).wf = true) (w14 : (Lit.int .u64 a14).wf = true) (w15 : (Lit.int .u64 a15).wf = true) (w16 : (Lit.int .u64 a16).wf = true) (w17 : (Lit.int .u64 a17).wf = true) (w18 : (Lit.int .u64 a18).wf = true) (w19 : (Lit.int .u64 a19).wf = true) (w20 : (Lit.int .u64 a20).wf = true) : (Nd.mk a0 a1 a2 a3 a4 a5 a6 a7 a8 a9 a10 a11 a12 a13 a14 a15 a16 a17 a18 a19 a20).Fits := by
  have hk := fun i (hi : i < 8) => lt8 hi
  refine ⟨(i64_wf' w0).1, (i64_wf' w0).2, u64_wf' w1, u64_wf' w2, u64_wf' w3, u64_wf' w4, fun i hi => ?_, fun i hi => ?_⟩
  · rcases hk i hi with rfl | rfl | rfl | rfl | rfl | rfl | rfl | rfl
    · exact u64_wf' w5
    · exact u64_wf' w6
    · exact u64_wf' w7
    · exact u64_wf' w8
    · exact u64_wf' w9
    · exact u64_wf' w10
    · exact u64_wf' w11
    · exact u64_wf' w12
  · rcases hk i hi with rfl | rfl | rfl | rfl | rfl | rfl | rfl | rfl
    · exact u64_wf' w13
    · exact u64_wf' w14
    · exact u64_wf' w15
    · exact u64_wf' w16
    · exact u64_wf' w17
    · exact u64_wf' w18
    · exact u64_wf' w19
    · exact u64_wf' w20
theorem snapMoment_any (n : Nd) (hf : n.Fits) (low : Int) (hl : 0 ≤ low ∧ low < 18446744073709551616) (A : Option Addr) (m cap : Nat) (l : List Ask3) (ahead : Int) (AT : Option Addr) (nT capT : Nat) (w : World) (ha : AsksIn w A m cap l) (hT : TurnsS w AT nT) :
    Calls Try.prog 3 #[n.V, .int .u64 low, .slice A m cap, .int .i64 ahead, .slice AT nT capT] w fun e w' => e = .returned (.bool true) ∧ Below w.heap.size w w' := by
  by_cases h1 : rightB n = true
  · by_cases h2 : m ≤ 20
    · by_cases h3 : nT ≤ 300
      · exact snapMoment_main n hf low hl A m cap l ahead AT nT capT w ha hT h1 h2 h3
      · exact snapMoment_few n hf low hl A m cap ahead AT nT capT w (.inr (.inr (by omega)))
    · exact snapMoment_few n hf low hl A m cap ahead AT nT capT w (.inr (.inl (by omega)))
  · exact snapMoment_few n hf low hl A m cap ahead AT nT capT w (.inl (by simpa using h1))
theorem snapMoment_walk (a0 a1 a2 a3 a4 a5 a6 a7 a8 a9 a10 a11 a12 a13 a14 a15 a16 a17 a18 a19 a20 low : Int) (A : Option Addr) (m cap : Nat) (l : List Ask3) (ahead : Int) (AT : Option Addr) (nT capT : Nat) (w : World) (w0 : (Lit.int .i64 a0).wf = true) (w1 : (Lit.int .u64 a1).wf = true) (w2 : (Lit.int .u64 a2).wf = true) (w3 : (Lit.int .u64 a3).wf = true) (w4 : (Lit.int .u64 a4).wf = true) (w5 : (Lit.int .u64 a5).wf = true) (w6 : (Lit.int .u64 a6).wf = true) (w7 : (Lit.int .u64 a7).wf = true) (w8 : (Lit.int .u64 a8).wf = true) (w9 : (Lit.int .u64 a9).wf = true) (w10 : (Lit.int .u64 a10).wf = true) (w11 : (Lit.int .u64 a11).wf = true) (w12 : (Lit.int .u64 a12).wf = true) (w13 : (Lit.int .u64 a13).wf = true) (w14 : (Lit.int .u64 a14).wf = true) (w15 : (Lit.int .u64 a15).wf = true) (w16 : (Lit.int .u64 a16).wf = true) (w17 : (Lit.int .u64 a17).wf = true) (w18 : (Lit.int .u64 a18).wf = true) (w19 : (Lit.int .u64 a19).wf = true) (w20 : (Lit.int .u64 a20).wf = true) (wl : (Lit.int .u64 low).wf = true) (ha : AsksIn w A m cap l) (wa : (Lit.int .i64 ahead).wf = true) (hT : TurnsS w AT nT) :
    Calls Try.prog 3 #[.agg #[.int .i64 a0, .int .u64 a1, .int .u64 a2, .int .u64 a3, .int .u64 a4, .int .u64 a5, .int .u64 a6, .int .u64 a7, .int .u64 a8, .int .u64 a9, .int .u64 a10, .int .u64 a11, .int .u64 a12, .int .u64 a13, .int .u64 a14, .int .u64 a15, .int .u64 a16, .int .u64 a17, .int .u64 a18, .int .u64 a19, .int .u64 a20], .int .u64 low, .slice A m cap, .int .i64 ahead, .slice AT nT capT] w fun e w' => e = .returned (.bool true) ∧ Below w.heap.size w w' :=
  snapMoment_any _ (node_wf w0 w1 w2 w3 w4 w5 w6 w7 w8 w9 w10 w11 w12 w13 w14 w15 w16 w17 w18 w19 w20) low (u64_wf' wl) A m cap l ahead AT nT capT w ha hT
end Go.Proofs.Yteojhhfcfdkmdaa
