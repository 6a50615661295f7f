/- Texts of this claim, packed: PFlush, PUnmark, PStep. -/
import Derived.Test.YtiefgmibgdidpaaGreatDoorPh08
import Derived.Test.YtiefgmibgdidpaaGreatDoorPh10
import Derived.Deep.RegionHeld3
import Derived.Deep.MidRow
/- Flush: what is pending of a line is marked; for states that a memory can have. -/
namespace Go.Proofs.YtiefgmibgdidpaaGreatDoor
open Go.RowKit
set_option linter.unusedVariables false
attribute [local go_sem ↓] Go.wp_at_zero Go.wp_at_succ

/-- A flush: the state behind it. -/
def St.flush (s : St) (c a : Nat) : St :=
  { s with fl := s.fl + 1, mm := if (s.pend.getD (a / 64) []).length = 0 then s.mm else upd s.mm (a / 64) fun k => if k = c then (s.pend.getD (a / 64) []).length else s.mm (a / 64) k }
theorem mem_marks {w W : World} {y : Lay} {s s' : St} (hm : MemAt w y s) (e1 : s'.nl = s.nl) (e2 : s'.lasted = s.lasted) (e3 : s'.view = s.view) (e4 : s'.pend = s.pend)
    (hrow : Row W y.g 96 #[.slice (some ⟨y.gl, 0, none⟩) (8 * s.nl) y.cl, .slice (some ⟨y.gv, 0, none⟩) (8 * s.nl) y.cv, .slice (some ⟨y.gp, 0, none⟩) s.nl y.cp, .map (some y.mb), wv s'.ld, wv s'.st, wv s'.fl, wv s'.fe])
    (hk : ∀ k, y.fp k → k ≠ y.g → k ≠ y.mb → W.heap[k]? = w.heap[k]?) (hmk : MarksAt W y.mb s.nl s'.mm) : MemAt W y s' := by
  have hd := hm.differ
  obtain ⟨nl, la, vi, pe, mm, q1, q2, q3, q4⟩ := s'
  dsimp only at e1 e2 e3 e4 hrow hmk
  subst e1 e2 e3 e4
  refine ⟨hrow, own_same hm.las (hk _ (.inr (.inl rfl)) (Ne.symm hd.g_gl) hd.gl_mb), own_same hm.vie (hk _ (.inr (.inr (.inl rfl))) (Ne.symm hd.g_gv) hd.gv_mb), hm.ne, own_same hm.pen (hk _ (.inr (.inr (.inr (.inl rfl)))) (Ne.symm hd.g_gp) hd.gp_mb), hm.plen, ?_, hm.apart, hmk, hm.pos, hm.most⟩
  intro j hj v l hv hl
  exact (hm.tails j hj v l hv hl).same fun k hk' => hk k (.inr (.inr (.inr (.inr (.inr ⟨j, v, hv, hk'⟩))))) (hd.tail j v k hv hk').1 (hd.tail j v k hv hk').2.2.2.2
end Go.Proofs.YtiefgmibgdidpaaGreatDoor
/- unmark: the elder stores that have lasted are taken out of all clients' marks of a line; for lines that there are, and marks that fit. -/
namespace Go.Proofs.YtiefgmibgdidpaaGreatDoor
open Go.RowKit
set_option linter.unusedVariables false
attribute [local go_sem ↓] Go.wp_at_zero Go.wp_at_succ

/-- What unmark makes of the marks. -/
def umk (m : Nat → Nat → Nat) (i n : Nat) : Nat → Nat → Nat := upd m i fun c => m i c - n
end Go.Proofs.YtiefgmibgdidpaaGreatDoor
/- A memory's place behind one of its parts has turned: what has lasted, what is seen, a line's stores; without conditions. -/
namespace Go.Proofs.YtiefgmibgdidpaaGreatDoor
open Go.RowKit
set_option linter.unusedVariables false
theorem mem_las {w W : World} {y : Lay} {s : St} {las : List Nat} (hm : MemAt w y s) (hl : W.ownsRow 0 27 1 (.slice (some ⟨y.gl, 0, none⟩) (8 * s.nl) y.cl) (8 * s.nl) (las.map wv)) (hb : But w W (fun k => k = y.gl)) :
    MemAt W y { s with lasted := las } ∧ Turn w W y y := by
  have hd := hm.differ
  have hk : ∀ k, y.fp k → k ≠ y.gl → W.heap[k]? = w.heap[k]? := fun k h1 h2 => hb.block k (hm.lt k h1) h2
  refine ⟨⟨hm.row.same (hk _ (.inl rfl) hd.g_gl), hl, own_same hm.vie (hk _ (.inr (.inr (.inl rfl))) (Ne.symm hd.gl_gv)), hm.ne, own_same hm.pen (hk _ (.inr (.inr (.inr (.inl rfl)))) (Ne.symm hd.gl_gp)), hm.plen, ?_, hm.apart, hm.marks.same (hk _ (.inr (.inr (.inr (.inr (.inl rfl))))) (Ne.symm hd.gl_mb)), hm.pos, hm.most⟩, rfl, hb.mono (fun k e => .inr (.inl e)), fun _ h => .inl h⟩
  intro j hj v l hv hl'
  exact (hm.tails j hj v l hv hl').same fun k hk' => hk k (.inr (.inr (.inr (.inr (.inr ⟨j, v, hv, hk'⟩))))) (hd.tail j v k hv hk').2.1
theorem mem_vie {w W : World} {y : Lay} {s : St} {vie : List Nat} (hm : MemAt w y s) (hl : W.ownsRow 0 27 1 (.slice (some ⟨y.gv, 0, none⟩) (8 * s.nl) y.cv) (8 * s.nl) (vie.map wv)) (hb : But w W (fun k => k = y.gv)) :
    MemAt W y { s with view := vie } ∧ Turn w W y y := by
  have hd := hm.differ
  have hk : ∀ k, y.fp k → k ≠ y.gv → W.heap[k]? = w.heap[k]? := fun k h1 h2 => hb.block k (hm.lt k h1) h2
  refine ⟨⟨hm.row.same (hk _ (.inl rfl) hd.g_gv), own_same hm.las (hk _ (.inr (.inl rfl)) hd.gl_gv), hl, hm.ne, own_same hm.pen (hk _ (.inr (.inr (.inr (.inl rfl)))) (Ne.symm hd.gv_gp)), hm.plen, ?_, hm.apart, hm.marks.same (hk _ (.inr (.inr (.inr (.inr (.inl rfl))))) (Ne.symm hd.gv_mb)), hm.pos, hm.most⟩, rfl, hb.mono (fun k e => .inr (.inr (.inl e))), fun _ h => .inl h⟩
  intro j hj v l hv hl'
  exact (hm.tails j hj v l hv hl').same fun k hk' => hk k (.inr (.inr (.inr (.inr (.inr ⟨j, v, hv, hk'⟩))))) (hd.tail j v k hv hk').2.2.1
def Lay.tail (y : Lay) (i : Nat) (R : Value) : Lay := { y with ps := y.ps.set i R }
end Go.Proofs.YtiefgmibgdidpaaGreatDoor
