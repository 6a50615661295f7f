/- The document's Places and Valid: in new memory; of any node; without conditions. -/
import Derived.Test.YthcopnnpedhboaaDoorN8RefF
import Derived.Test.YthcopnnpedhboaaDoorN8Act
import Derived.Test.YthcopnnpedhboaaDoorN9W
namespace Go.Proofs.YthcopnnpedhboaaDoor
open Go.RowKit
set_option linter.unusedVariables false
def iv8 (n : Nat) : Value := .int .i64 (n : Int)
theorem info8I : (Tryd.prog.info? 3).map (fun i => (i.zero, i.size, i.bytes)) = some (some (.int .i64 0), 1, 8) := by kernel_rfl
theorem infoE8 : (Tryd.prog.info? 41).map (fun i => (i.zero, i.size, i.bytes)) = some (some (.agg #[.int .u64 0, .int .u64 0]), 2, 16) := by kernel_rfl
theorem own_getI {w : World} {B : Nat} {v : Value} {l : List Nat} (h : w.ownsRow B 3 1 v l.length (l.map iv8)) : ∃ A cap, v = .slice A l.length cap ∧ ∀ k, k < l.length → ∃ g, A = some ⟨g, 0, none⟩ ∧ w.cell? ⟨g, k, none⟩ = some (iv8 (l.getD k 0)) := by
  obtain ⟨A, cap, rfl, _, _, hs, _⟩ := own_sl h
  refine ⟨A, cap, rfl, fun k hk => ?_⟩
  obtain ⟨g, cap', he, _, _, hs'⟩ := own_some h (by omega)
  cases he
  refine ⟨g, rfl, ?_⟩
  have := hs' k (iv8 (l.getD k 0)) (by rw [List.getElem?_map, List.getD_eq_getElem?_getD, List.getElem?_eq_getElem hk]; rfl)
  obtain ⟨a, ha, hc⟩ := this
  cases ha
  rw [add_lit] at hc
  exact hc
end Go.Proofs.YthcopnnpedhboaaDoor
