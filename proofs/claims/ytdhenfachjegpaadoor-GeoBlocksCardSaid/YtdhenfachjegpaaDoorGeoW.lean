/- The laws of layer 3, as their rows want them: for every number of its kind, what lay below is as it was. -/
import Derived.Test.YtdhenfachjegpaaDoorGeoL
import Derived.Test.YtdhenfachjegpaaDoorGeoM
import Derived.Test.YtdhenfachjegpaaDoorGeoP
namespace Go.Proofs.YtdhenfachjegpaaDoor
open Go.RowKit Go.Sort
set_option linter.unusedVariables false
theorem u64_wf {a : Int} (h : (Lit.int .u64 a).wf = true) : 0 ≤ a ∧ a < 18446744073709551616 := by
  simp only [Lit.wf, Bool.and_eq_true, decide_eq_true_eq] at h
  have hmin : IntKind.u64.min = 0 := rfl
  have hmax : IntKind.u64.max = 18446744073709551615 := rfl
  omega
theorem i64_wf {a : Int} (h : (Lit.int .i64 a).wf = true) : -9223372036854775808 ≤ a ∧ a ≤ 9223372036854775807 := by
  simp only [Lit.wf, Bool.and_eq_true, decide_eq_true_eq] at h
  have hmin : IntKind.i64.min = -9223372036854775808 := rfl
  have hmax : IntKind.i64.max = 9223372036854775807 := rfl
  omega
theorem Calls.low {P : Program} {f : FuncId} {args : Array Value} {w : World} {v : Value} (h : Calls P f args w fun e w' => e = .returned v ∧ Gr w w') : Calls P f args w fun e w' => e = .returned v ∧ Below w.heap.size w w' := h.mono fun _ _ ⟨a, b⟩ => ⟨a, b.all⟩
theorem sizes_all (a b c d : Int) (w : World) (ha : (Lit.int .i64 a).wf = true) (hb : (Lit.int .i64 b).wf = true) (hc : (Lit.int .i64 c).wf = true) (hd : (Lit.int .i64 d).wf = true) (R : Rms w) :
    Calls Tryd.prog 3 #[.int .i64 a, .int .i64 b, .int .i64 c, .int .i64 d] w fun e w' => e = .returned (.bool true) ∧ Below w.heap.size w w' := Calls.low (sizes_any (i64_wf ha).1 (i64_wf ha).2 b c d w R)
theorem blocks_all (a b c : Int) (w : World) (ha : (Lit.int .i64 a).wf = true) (hb : (Lit.int .i64 b).wf = true) (hc : (Lit.int .i64 c).wf = true) (R : Rms w) :
    Calls Tryd.prog 4 #[.int .i64 a, .int .i64 b, .int .i64 c] w fun e w' => e = .returned (.bool true) ∧ Below w.heap.size w w' := Calls.low (geoBlocks_any a b c w R)
theorem finds_all (a b : Int) (w : World) (ha : (Lit.int .u64 a).wf = true) (hb : (Lit.int .i64 b).wf = true) (R : Rms w) :
    Calls Tryd.prog 5 #[.int .u64 a, .int .i64 b] w fun e w' => e = .returned (.bool true) ∧ Below w.heap.size w w' := Calls.low (finds_any (u64_wf ha).1 (u64_wf ha).2 b w R)
theorem nodes_all (a b : Int) (w : World) (ha : (Lit.int .u64 a).wf = true) (hb : (Lit.int .i64 b).wf = true) (R : Rms w) :
    Calls Tryd.prog 7 #[.int .u64 a, .int .i64 b] w fun e w' => e = .returned (.bool true) ∧ Below w.heap.size w w' := Calls.low (nodes_any (u64_wf ha).1 b w R)
theorem apart_all (a b c d e f : Int) (w : World) (ha : (Lit.int .i64 a).wf = true) (hb : (Lit.int .i64 b).wf = true) (hc : (Lit.int .i64 c).wf = true) (hd : (Lit.int .i64 d).wf = true) (he : (Lit.int .i64 e).wf = true) (hf : (Lit.int .i64 f).wf = true) (R : Rms w) :
    Calls Tryd.prog 6 #[.int .i64 a, .int .i64 b, .int .i64 c, .int .i64 d, .int .i64 e, .int .i64 f] w fun e w' => e = .returned (.bool true) ∧ Below w.heap.size w w' := Calls.low (apart_any a b c d e f w R)
theorem whole_all (w : World) (R : Rms w) : Calls Tryd.prog 8 #[] w fun e w' => e = .returned (.bool true) ∧ Below w.heap.size w w' := Calls.low (geoWhole_any w R)
end Go.Proofs.YtdhenfachjegpaaDoor
