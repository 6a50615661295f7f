/- Texts of this claim, packed: Low, QLoad, QLoadG. -/
import Derived.Test.YtpjlajkjknkbaaaGreatDoorPg02
import Derived.Test.YtpjlajkjknkbaaaGreatDoorPg01
import Derived.BigQuiet
import Derived.Deep.QuietTactic
import Derived.Deep.MidRow
/- A region that draws its order, whose operations only read, and whose callees may draw and lay blocks of whatever kind: one walk in the order of the text; no conditions. -/
namespace Go.Proofs.YtpjlajkjknkbaaaGreatDoor
open Go.RowKit
set_option linter.unusedVariables false
/-- A world in which all that lay in w lies unturned. -/
structure LowBy (w : World) where
  W : World
  low : Below w.heap.size w W
instance lowInhabited (w : World) : Inhabited (LowBy w) := ⟨⟨w, Below.refl _ _⟩⟩
theorem wp_region_quiet_low {P : Program} {id : Nat} {Q : Exit → Act → World → Prop} {a : Act} {w : World} {l : List Oper} (hm : P.follows .mixedOrders = true) (hB : Region.lexB .any l.toArray = true)
    (h : wpQuiet P l.toArray (fun w' => ∃ p : LowBy w, w' = p.W) (fun a' => ∀ w', (∃ p : LowBy w, w' = p.W) → Q .normal a' w') l a) : (Code.region id l.toArray true).wp P Q a w :=
  wp_region_quiet (C := fun w' => ∃ p : LowBy w, w' = p.W) hm hB ⟨⟨w.drew, (Below.refl _ w).drew⟩, rfl⟩ (by simpa using h)
theorem wp_region_low_tail {P : Program} {id : Nat} {Q : Exit → Act → World → Prop} {a : Act} {w : World} {l : List Oper} (n : Nat) (hm : P.follows .mixedOrders = true) (hB : Region.lexTailB .any l.toArray n = true)
    (h : wpQuiet P l.toArray (fun w' => ∃ p : LowBy w, w' = p.W) (fun a' => ∀ w', (∃ p : LowBy w, w' = p.W) → wpList P l.toArray Q (l.drop n) a' w') (l.take n) a) : (Code.region id l.toArray true).wp P Q a w :=
  wp_region_quiet_tail (C := fun w' => ∃ p : LowBy w, w' = p.W) n hm hB ⟨⟨w.drew, (Below.refl _ w).drew⟩, rfl⟩ h
theorem Calls.low_of {P : Program} {f : FuncId} {args : Array Value} {w : World} {p : LowBy w} {v : Value}
    (h : Calls P f args p.W fun e w' => e = .returned v ∧ Below p.W.heap.size p.W w') : Calls P f args p.W fun e w'' => e = .returned v ∧ ∃ q : LowBy w, w'' = q.W :=
  h.mono fun _ w' ⟨he, hb⟩ => ⟨he, ⟨w', p.low.trans (hb.mono p.low.size)⟩, rfl⟩
theorem Calls.low_of_gr {P : Program} {f : FuncId} {args : Array Value} {w : World} {p : LowBy w} {v : Value}
    (h : Calls P f args p.W fun e w' => e = .returned v ∧ Gr p.W w') : Calls P f args p.W fun e w'' => e = .returned v ∧ ∃ q : LowBy w, w'' = q.W :=
  Calls.low_of (h.mono fun _ _ ⟨he, hg⟩ => ⟨he, hg.all⟩)
theorem Calls.low_of_same {P : Program} {f : FuncId} {args : Array Value} {w : World} {p : LowBy w} {v : Value}
    (h : Calls P f args p.W fun e w' => e = .returned v ∧ p.W = w') : Calls P f args p.W fun e w'' => e = .returned v ∧ ∃ q : LowBy w, w'' = q.W :=
  Calls.low_of (h.mono fun _ _ ⟨he, hg⟩ => ⟨he, by subst hg; exact Below.refl _ _⟩)
theorem LowBy.cell {w : World} {a : Addr} {v : Value} (h : w.cell? a = some v) (p : LowBy w) : p.W.cell? a = some v := (p.low.cell (w.block_lt_of_cell? _ h)).trans h
theorem LowBy.heap {w : World} {k : Nat} {o : Obj} (h : w.heap[k]? = some o) (p : LowBy w) : p.W.heap[k]? = some o := (p.low.block k (heap_lt h)).trans h
end Go.Proofs.YtpjlajkjknkbaaaGreatDoor
/- A whole variable read in a region that draws its order; no conditions. -/
namespace Go.Proofs.YtpjlajkjknkbaaaGreatDoor
open Go.RowKit
set_option linter.unusedVariables false
theorem quiet_load_mid {P : Program} {C : World → Prop} {op : Oper} {a : Act} {K : Act → Prop} (ty : TypeId) (x : Operand) (ho : op.op = .load ty x)
    (b o : Nat) (hx : a.eval x = .pointer (some ⟨b, o, none⟩)) (cs : List Value) (d : TypeDesc) (hS : ∀ w, C w → w.rangeAt b o cs)
    (hu : P.underlying ty = some d) (hd : d.isRow = true) (hi : (P.info? ty).map (·.size) = some cs.length) (hk : K (a.put op.dst (.agg cs.toArray))) : op.quiet P a C K :=
  ⟨_, fun w hw => by
    unfold Oper.quietAt execOp
    simp only [ho, hx, Instr.loadAt, Instr.sureAddr, Sem.run_bind, Sem.run_pure, Result.andThen_ok, run_loadVar_mid w b o ty cs d (hS w hw) hu hd hi]
    exact ⟨rfl, rfl⟩, hk⟩
end Go.Proofs.YtpjlajkjknkbaaaGreatDoor
/- A whole variable read behind a guard that says yes; no conditions. -/
namespace Go.Proofs.YtpjlajkjknkbaaaGreatDoor
open Go.RowKit
set_option linter.unusedVariables false
end Go.Proofs.YtpjlajkjknkbaaaGreatDoor
