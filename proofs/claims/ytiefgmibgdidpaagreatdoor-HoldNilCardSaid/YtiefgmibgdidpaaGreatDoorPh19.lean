/- Texts of this claim, packed: RnA. -/
import Derived.Test.YtiefgmibgdidpaaGreatDoorPh18
import Derived.Lib.SliceRun
import Derived.Deep.Cut
import Derived.Laws.EntriesVeiled
/- Runs: where one lies; slices of stores that are read; the copy of one; a run anew; how many are left; for stores that lie in memory. -/
namespace Go.Proofs.YtiefgmibgdidpaaGreatDoor
open Go.RowKit Go.Shelf
set_option linter.unusedVariables false

/-- A slice that reads as these stores. -/
def Ahead (w : World) (V : Value) (l : List (Nat × Nat)) : Prop :=
  (l = [] ∧ ∃ A cap, V = .slice A 0 cap ∧ cap ≤ maxLen) ∨
  (l ≠ [] ∧ ∃ g off cap, V = .slice (some ⟨g, off, none⟩) l.length cap ∧ l.length ≤ cap ∧ cap ≤ maxLen ∧ ∀ (i : Nat) (u : Value), (flat l)[i]? = some u → w.cell? ⟨g, off + i, none⟩ = some u)
theorem Ahead.nil (w : World) : Ahead w (.slice none 0 0) [] := .inl ⟨rfl, Option.none, 0, rfl, Nat.zero_le _⟩
theorem cell_heap {w w' : World} {g i : Nat} (h : w'.heap[g]? = w.heap[g]?) : w'.cell? ⟨g, i, Option.none⟩ = w.cell? ⟨g, i, Option.none⟩ := by
  unfold World.cell?
  simp only [h]
theorem Ahead.same {w w' : World} {V : Value} {l : List (Nat × Nat)} (h : Ahead w V l) (hk : ∀ k, V.ownBlock = some k → w'.heap[k]? = w.heap[k]?) : Ahead w' V l := by
  rcases h with h | ⟨h0, g, off, cap, rfl, h1, h2, h3⟩
  · exact .inl h
  · exact .inr ⟨h0, g, off, cap, rfl, h1, h2, fun i u hu => (cell_heap (hk g rfl)).trans (h3 i u hu)⟩
theorem Ahead.lt {w : World} {V : Value} {l : List (Nat × Nat)} (h : Ahead w V l) (h0 : l ≠ []) {k : Nat} (hk : V.ownBlock = some k) : k < w.heap.size := by
  rcases h with ⟨h, _⟩ | ⟨_, g, off, cap, rfl, h1, h2, h3⟩
  · exact absurd h h0
  · cases hk
    cases l with
    | nil => exact absurd rfl h0
    | cons p t =>
      have := h3 0 (wv p.1) (by rw [flat_cons]; rfl)
      exact block_lt_of_cell this
theorem Ahead.below {w w' : World} {V : Value} {l : List (Nat × Nat)} (h : Ahead w V l) (hb : Below w.heap.size w w') : Ahead w' V l := by
  by_cases h0 : l = []
  · rcases h with h | ⟨h1, _⟩
    · exact .inl h
    · exact absurd h0 h1
  · exact h.same fun k hk => hb.block k (h.lt h0 hk)
theorem Ahead.len {w : World} {V : Value} {l : List (Nat × Nat)} (h : Ahead w V l) : ∃ A cap, V = .slice A l.length cap ∧ l.length ≤ cap ∧ cap ≤ maxLen := by
  rcases h with ⟨rfl, A, cap, rfl, h1⟩ | ⟨_, g, off, cap, rfl, h1, h2, _⟩
  · exact ⟨A, cap, rfl, Nat.zero_le _, h1⟩
  · exact ⟨_, cap, rfl, h1, h2⟩

/-- What a run is to do next: a store, a flush, a fence, the end. -/
inductive Ph where
  | st
  | fl
  | fe
  | en
deriving DecidableEq
/-- A run's state. -/
structure RnRS where
  c : Int
  left : List (Nat × Nat)
  line : Nat
  ph : Ph
  done : Bool
  code : Int
def Ph.fn (rg : Nat) : Ph → Value
  | .st => .func (.func 147) #[.pointer (some ⟨rg, 0, none⟩)] #[]
  | .fl => .func (.func 156) #[.pointer (some ⟨rg, 0, none⟩)] #[]
  | .fe => .func (.func 161) #[.pointer (some ⟨rg, 0, none⟩)] #[]
  | .en => .func (.func 148) #[.pointer (some ⟨rg, 0, none⟩)] #[]
/-- Where it lies. -/
structure RunAt (w : World) (rg : Nat) (p : Option Addr) (r : RnRS) (V : Value) : Prop where
  row : Row w rg 222 #[.pointer p, .int .i64 r.c, V, .int .u64 (r.line : Int), r.ph.fn rg, .bool r.done, .int .i64 r.code]
  ah : Ahead w V r.left
def RnRS.new (c : Int) (l : List (Nat × Nat)) : RnRS := ⟨c, l, 0, if l = [] then .en else .st, false, 0⟩
end Go.Proofs.YtiefgmibgdidpaaGreatDoor
