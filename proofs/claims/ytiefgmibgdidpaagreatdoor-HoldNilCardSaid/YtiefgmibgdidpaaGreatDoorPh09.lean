/- Texts of this claim, packed: PTail, PBytes. -/
import Derived.Test.YtiefgmibgdidpaaGreatDoorPh08
import Derived.ArgAppend
import Derived.Deep.AppendLies
/- append of one store onto a line's pending stores, wherever they stand in their block: into its spare cells, or into a new block; for lists of at most 10^9 stores. -/
namespace Go.Proofs.YtiefgmibgdidpaaGreatDoor
open Go.RowKit
set_option linter.unusedVariables false
end Go.Proofs.YtiefgmibgdidpaaGreatDoor
/- bytesOf, View, Image: the bytes of words, the lowest one of each first, in new memory. -/
namespace Go.Proofs.YtiefgmibgdidpaaGreatDoor
open Go.RowKit
set_option linter.unusedVariables false
theorem info5 : (Tryz.prog.info? 5).map (fun i => (i.zero, i.size, i.bytes)) = some (some (.int .u8 0), 1, 1) := by kernel_rfl

/-- A word's byte at place k; a word's bytes; the bytes of words. -/
def wbyt (n k : Nat) : Nat := n / 256 ^ k % 256
theorem ownsRow_len {w : World} {B n : Nat} {e : TypeId} {v : Value} {l : List Nat} (h : w.ownsRow B e 1 v n (l.map wv)) : l.length = n := by
  have := h.1
  simpa using this
end Go.Proofs.YtiefgmibgdidpaaGreatDoor
