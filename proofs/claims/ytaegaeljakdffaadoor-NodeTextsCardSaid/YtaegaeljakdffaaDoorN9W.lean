/- Worlds that have grown: small facts; no conditions. -/
import Derived.Test.YtaegaeljakdffaaDoorN8Act
import Derived.Deep.RegionLaw
import Derived.Deep.AppendLies
namespace Go.Proofs.YtaegaeljakdffaaDoor
open Go.RowKit Go.Sort
set_option linter.unusedVariables false
theorem frozen_grown9 {w w' : World} {row : Option Nat} (hg : w.grownBy w' row) {p : Addr} (hl : p.block < w.heap.size) (hn : some p.block ≠ row) (hf : w.frozen? p = false) : w'.frozen? p = false := by
  rw [World.frozen?_of_block (hg.block _ hl hn)]; exact hf
theorem frozen_alloc9 {w : World} {p : Addr} (hl : p.block < w.heap.size) (o : Obj) : (w.alloc o).frozen? p = w.frozen? p := World.frozen?_of_block (Below.heap_alloc w o p.block hl)
theorem heap_alloc_new9 (w : World) (o : Obj) : (w.alloc o).heap[w.heap.size]? = some o := by
  unfold World.alloc
  exact Array.getElem?_push_size
theorem drew_low9 (w : World) : Below w.heap.size w w.drew := ⟨rfl, rfl, rfl, Nat.le_refl _, fun _ _ => rfl⟩
end Go.Proofs.YtaegaeljakdffaaDoor
