/- The document's Find and Last: of any node, any key; without conditions. -/
import Derived.Test.YtaegaeljakdffaaDoorN8Get
import Derived.Test.YtaegaeljakdffaaDoorQLoadG
namespace Go.Proofs.YtaegaeljakdffaaDoor
open Go.RowKit
set_option linter.unusedVariables false
theorem vp_full (n : Nd) : n.vpTo n.len = n.vp := rfl
/-- The first of these places with a key; below nought: none. -/
def fndL (n : Nd) (key : Int) (l : List Nat) : Int := match l.find? (fun p => n.key p == key) with | some p => (p : Int) | none => -1
theorem fnd_hit {n : Nd} {key : Int} {i : Nat} (hi : i < n.len) (ho : n.ok i = true) (hk : n.key i = key) (h : ∀ p ∈ n.vpTo i, n.key p ≠ key) : fndL n key n.vp = (i : Int) := by
  obtain ⟨r, hr⟩ := n.vpTo_pre (show i + 1 ≤ n.len from hi)
  unfold fndL
  rw [← vp_full, ← hr, n.vpTo_yes ho, List.find?_append, List.find?_append, List.find?_eq_none.2 (fun y hy => by simpa using h y hy)]
  simp [hk]
theorem fnd_none {n : Nd} {key : Int} (h : ∀ p ∈ n.vp, n.key p ≠ key) : fndL n key n.vp = -1 := by
  unfold fndL
  rw [List.find?_eq_none.2 (fun y hy => by simpa using h y hy)]
end Go.Proofs.YtaegaeljakdffaaDoor
