/- Texts of this claim, packed: PTail, PStore, PBytes. -/
import Derived.Test.YtpjlajkjknkbaaaGreatDoorPg12
import Derived.ArgAppend
import Derived.Deep.AppendLies
import Derived.Deep.RegionLaw
import Derived.Deep.DrawnRows
/- append of one store onto a line's pending stores, wherever they stand in their block: into its spare cells, or into a new block; for lists of at most 10^9 stores. -/
namespace Go.Proofs.YtpjlajkjknkbaaaGreatDoor
open Go.RowKit
set_option linter.unusedVariables false
end Go.Proofs.YtpjlajkjknkbaaaGreatDoor
/- Store: the word at an address turns, and the store is pending; for addresses of words, words that fit, lines of at most 10^9 stores. -/
namespace Go.Proofs.YtpjlajkjknkbaaaGreatDoor
open Go.RowKit
set_option linter.unusedVariables false
attribute [local go_sem ↓] Go.wp_at_zero Go.wp_at_succ

/-- A store: the state behind it. -/
def St.store (s : St) (a v : Nat) : St := { s with view := s.view.set (a / 8) v, pend := s.pend.set (a / 64) (s.pend.getD (a / 64) [] ++ [(a, v)]), st := s.st + 1 }
def StPost (w : World) (y : Lay) (s' : St) (k : Int) (e : Ending) (w' : World) : Prop := e = .returned (.int .i64 k) ∧ ∃ y', MemAt w' y' s' ∧ Turn w w' y y'

theorem set_map (l : List Nat) (i v : Nat) : (l.map wv).set i (wv v) = (l.set i v).map wv := (List.map_set).symm

end Go.Proofs.YtpjlajkjknkbaaaGreatDoor
/- bytesOf, View, Image: the bytes of words, the lowest one of each first, in new memory. -/
namespace Go.Proofs.YtpjlajkjknkbaaaGreatDoor
open Go.RowKit
set_option linter.unusedVariables false
theorem info5 : (Tryz.prog.info? 5).map (fun i => (i.zero, i.size, i.bytes)) = some (some (.int .u8 0), 1, 1) := by kernel_rfl

/-- A word's byte at place k; a word's bytes; the bytes of words. -/
def wbyt (n k : Nat) : Nat := n / 256 ^ k % 256
theorem ownsRow_len {w : World} {B n : Nat} {e : TypeId} {v : Value} {l : List Nat} (h : w.ownsRow B e 1 v n (l.map wv)) : l.length = n := by
  have := h.1
  simpa using this
end Go.Proofs.YtpjlajkjknkbaaaGreatDoor
