/- Texts of this claim, packed: Low. -/
import Derived.Test.YteojhhfcfdkmdaaPm07
import Derived.Test.YteojhhfcfdkmdaaPm08
import Derived.BigQuiet
import Derived.Deep.QuietTactic
set_option linter.unusedSimpArgs false
set_option linter.unusedVariables false
/- A region that draws its order, whose operations only read, and whose callees may draw and lay blocks of whatever kind: one walk in the order of the text; no conditions. -/
namespace Go.Proofs.Yteojhhfcfdkmdaa
open Go.RowKit
set_option linter.unusedVariables false
/-- A world in which all that lay in w lies unturned. -/
structure LowBy (w : World) where
  W : World
  low : Below w.heap.size w W
instance lowInhabited (w : World) : Inhabited (LowBy w) := ⟨⟨w, Below.refl _ _⟩⟩
theorem wp_region_quiet_low {P : Program} {id : Nat} {Q : Exit → Act → World → Prop} {a : Act} {w : World} {l : List Oper} (hm : P.follows .mixedOrders = true) (hB : Region.lexB .any l.toArray = true)
    (h : wpQuiet P l.toArray (fun w' => ∃ p : LowBy w, w' = p.W) (fun a' => ∀ w', (∃ p : LowBy w, w' = p.W) → Q .normal a' w') l a) : (Code.region id l.toArray true).wp P Q a w :=
  wp_region_quiet (C := fun w' => ∃ p : LowBy w, w' = p.W) hm hB ⟨⟨w.drew, (Below.refl _ w).drew⟩, rfl⟩ (by simpa using h)
theorem wp_region_low_tail {P : Program} {id : Nat} {Q : Exit → Act → World → Prop} {a : Act} {w : World} {l : List Oper} (n : Nat) (hm : P.follows .mixedOrders = true) (hB : Region.lexTailB .any l.toArray n = true)
    (h : wpQuiet P l.toArray (fun w' => ∃ p : LowBy w, w' = p.W) (fun a' => ∀ w', (∃ p : LowBy w, w' = p.W) → wpList P l.toArray Q (l.drop n) a' w') (l.take n) a) : (Code.region id l.toArray true).wp P Q a w :=
  wp_region_quiet_tail (C := fun w' => ∃ p : LowBy w, w' = p.W) n hm hB ⟨⟨w.drew, (Below.refl _ w).drew⟩, rfl⟩ h
theorem Calls.low_of {P : Program} {f : FuncId} {args : Array Value} {w : World} {p : LowBy w} {v : Value}
    (h : Calls P f args p.W fun e w' => e = .returned v ∧ Below p.W.heap.size p.W w') : Calls P f args p.W fun e w'' => e = .returned v ∧ ∃ q : LowBy w, w'' = q.W :=
  h.mono fun _ w' ⟨he, hb⟩ => ⟨he, ⟨w', p.low.trans (hb.mono p.low.size)⟩, rfl⟩
theorem Calls.low_of_gr {P : Program} {f : FuncId} {args : Array Value} {w : World} {p : LowBy w} {v : Value}
    (h : Calls P f args p.W fun e w' => e = .returned v ∧ Gr p.W w') : Calls P f args p.W fun e w'' => e = .returned v ∧ ∃ q : LowBy w, w'' = q.W :=
  Calls.low_of (h.mono fun _ _ ⟨he, hg⟩ => ⟨he, hg.all⟩)
theorem Calls.low_of_same {P : Program} {f : FuncId} {args : Array Value} {w : World} {p : LowBy w} {v : Value}
    (h : Calls P f args p.W fun e w' => e = .returned v ∧ p.W = w') : Calls P f args p.W fun e w'' => e = .returned v ∧ ∃ q : LowBy w, w'' = q.W :=
  Calls.low_of (h.mono fun _ _ ⟨he, hg⟩ => ⟨he, by subst hg; exact Below.refl _ _⟩)
theorem LowBy.cell {w : World} {a : Addr} {v : Value} (h : w.cell? a = some v) (p : LowBy w) : p.W.cell? a = some v := (p.low.cell (w.block_lt_of_cell? _ h)).trans h
theorem LowBy.heap {w : World} {k : Nat} {o : Obj} (h : w.heap[k]? = some o) (p : LowBy w) : p.W.heap[k]? = some o := (p.low.block k (heap_lt h)).trans h
end Go.Proofs.Yteojhhfcfdkmdaa
