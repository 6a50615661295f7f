/- Texts of this claim, packed: PIter. -/
import Derived.Test.YteojhhfcfdkmdaaPm19
import Derived.Test.YteojhhfcfdkmdaaPm14
import Derived.Shelf.Abstract
import Derived.Shelf.RegionOpen
import Derived.OwnWalkIn
import Derived.TacticsInMore
import Derived.LoopNIn
import Derived.LoopIn
set_option linter.unusedSimpArgs false
set_option linter.unusedVariables false
/- lines: the iterator over the lines with pending stores: it calls yield once for each of them, rising, whatever a round makes of the line that it was told; for memories that are there. -/
namespace Go.Proofs.Yteojhhfcfdkmdaa
open Go.RowKit Go.Shelf
set_option linter.unusedVariables false
attribute [local go_sem] Oper.semAt_some

/-- The lines with pending stores from j on, each with its number, the first one's being i. -/
def nzFrom : List (List (Nat × Nat)) → Nat → Nat → List (Nat × Nat)
  | [], _, _ => []
  | l :: t, i, j => if l = [] then nzFrom t i (j + 1) else (i, j) :: nzFrom t (i + 1) (j + 1)
def nz (p : List (List (Nat × Nat))) : List (Nat × Nat) := nzFrom p 0 0
def encN (x : Nat × Nat) : Array Value := #[.int .i64 (x.1 : Int), .int .i64 (x.2 : Int)]
theorem nzFrom_step {p : List (List (Nat × Nat))} {i j : Nat} {l : List (Nat × Nat)} (h : p[0]? = some l) : nzFrom p i j = if l = [] then nzFrom p.tail i (j + 1) else (i, j) :: nzFrom p.tail (i + 1) (j + 1) := by
  cases p with
  | nil => cases h
  | cons a t =>
    simp at h
    subst h
    rfl
/-- What the iterator reads when it has told k lines: its box's struct, and the row of lines as far as it is to come. -/
def Reads0 (W : World) (gp nl : Nat) (ps : List Value) (xs : List (Nat × Nat)) (k : Nat) : Prop :=
  ∀ (j : Nat) (v : Value), j < nl → (∀ (i : Nat) (q : Nat × Nat), xs[i]? = some q → i < k → q.2 < j) → ps[j]? = some v → W.cell? ⟨gp, j, none⟩ = some v
end Go.Proofs.Yteojhhfcfdkmdaa
