/- Texts of this claim, packed: PBytes. -/
import Derived.Test.YtedefebdfcgjeaaDoorPk08
import Derived.Deep.AppendLies
/- bytesOf, View, Image: the bytes of words, the lowest one of each first, in new memory. -/
namespace Go.Proofs.YtedefebdfcgjeaaDoor
open Go.RowKit
set_option linter.unusedVariables false
theorem info5 : (Tryd.prog.info? 5).map (fun i => (i.zero, i.size, i.bytes)) = some (some (.int .u8 0), 1, 1) := by kernel_rfl

/-- A word's byte at place k; a word's bytes; the bytes of words. -/
def wbyt (n k : Nat) : Nat := n / 256 ^ k % 256
def wbytes (n : Nat) : List Nat := (List.range 8).map (wbyt n)
def bytesL (l : List Nat) : List Nat := l.flatMap wbytes
theorem wbytes_length (n : Nat) : (wbytes n).length = 8 := by simp [wbytes]
theorem bytesL_length (l : List Nat) : (bytesL l).length = 8 * l.length := by
  unfold bytesL
  induction l with
  | nil => rfl
  | cons a t ih => simp [List.flatMap_cons, ih, wbytes_length]; omega
theorem bytesL_append (a b : List Nat) : bytesL (a ++ b) = bytesL a ++ bytesL b := by simp [bytesL]
theorem bytesL_snoc (a : List Nat) (n : Nat) : bytesL (a ++ [n]) = bytesL a ++ wbytes n := by simp [bytesL]
theorem bytesL_lt (l : List Nat) : ∀ b ∈ bytesL l, b < 256 := by
  intro b hb
  simp only [bytesL, wbytes, List.mem_flatMap, List.mem_map] at hb
  obtain ⟨_, _, i, _, rfl⟩ := hb
  exact Nat.mod_lt _ (by decide)
theorem wbytes8 (n : Nat) : (wbytes n).map bv = [bv (wbyt n 0), bv (wbyt n 1), bv (wbyt n 2), bv (wbyt n 3), bv (wbyt n 4), bv (wbyt n 5), bv (wbyt n 6), bv (wbyt n 7)] := rfl
theorem wb8 (x : Nat) (hx : x < 18446744073709551616) : (wbytes x).map bv = #[Value.int IntKind.u8 ((x : Int) % 256), Value.int IntKind.u8 ((x : Int) / 256 % 256), Value.int IntKind.u8 ((x : Int) / 65536 % 256),
          Value.int IntKind.u8 ((x : Int) / 16777216 % 256), Value.int IntKind.u8 ((x : Int) / 4294967296 % 256),
          Value.int IntKind.u8 ((x : Int) / 1099511627776 % 256), Value.int IntKind.u8 ((x : Int) / 281474976710656 % 256),
          Value.int IntKind.u8 ((x : Int) / 72057594037927936)].toList := by
  have h : ∀ (a b : Nat) (c : Int), (a : Int) = c → bv a = Value.int .u8 c := fun a b c e => by unfold bv; rw [e]
  rw [wbytes8]
  simp only [List.cons.injEq, and_true]
  refine ⟨h _ 0 _ ?_, h _ 0 _ ?_, h _ 0 _ ?_, h _ 0 _ ?_, h _ 0 _ ?_, h _ 0 _ ?_, h _ 0 _ ?_, h _ 0 _ ?_⟩ <;> simp [wbyt] <;> omega
/-- Words that fit. -/
def Fits (l : List Nat) : Prop := ∀ x ∈ l, x < 18446744073709551616
theorem ownsRow_len {w : World} {B n : Nat} {e : TypeId} {v : Value} {l : List Nat} (h : w.ownsRow B e 1 v n (l.map wv)) : l.length = n := by
  have := h.1
  simpa using this
def BytesPost (w : World) (l : List Nat) (e : Ending) (w' : World) : Prop := (∃ v, e = .returned v ∧ w'.ownsRow w.heap.size 5 1 v l.length (l.map bv)) ∧ Below w.heap.size w w'
end Go.Proofs.YtedefebdfcgjeaaDoor
