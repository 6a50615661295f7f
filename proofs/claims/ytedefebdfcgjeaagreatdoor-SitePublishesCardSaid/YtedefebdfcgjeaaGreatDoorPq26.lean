/- Texts of this claim, packed: PCrash, PLook. -/
import Derived.Test.YtedefebdfcgjeaaGreatDoorPq24
import Derived.Test.YtedefebdfcgjeaaGreatDoorPq25
import Derived.Test.YtedefebdfcgjeaaGreatDoorPq21
import Derived.BigQuiet
/- Crash: a front of each line's pending stores lasts, all others are lost; for states that a memory can have, and a list of numbers that lies in other memory. -/
namespace Go.Proofs.YtedefebdfcgjeaaGreatDoor
open Go.RowKit Go.Shelf
set_option linter.unusedVariables false
attribute [local go_sem] Oper.semAt_some

theorem lines_any (p : Option Addr) (w : World) : Calls Tryz.prog 51 #[.pointer p] w fun e w' => e = .returned (.func (.func 81) #[] #[.pointer (some ⟨w.heap.size, 0, none⟩)]) ∧ w.alloc (.cells #[.pointer p] 24) = w' := by
  go_enter Tryz.func51, Tryz.ntmps51
  go_wp2
  go_ret
  exact ⟨rfl, rfl⟩
/-- The crash under way: k lines have been gone through. -/
def CrI (W0 : World) (y : Lay) (s : St) (keep : List Int) (k : Nat) (W : World) : Prop :=
  ∃ y', MemAt W y' (s.crashTo keep ((nz s.pend).take k)) ∧ Turn W0 W y y' ∧ y'.gp = y.gp ∧ y'.mb = y.mb ∧ ∀ j : Nat, (∀ (i : Nat) (q : Nat × Nat), (nz s.pend)[i]? = some q → i < k → q.2 < j) → y'.ps[j]? = y.ps[j]?
theorem fp_cells {w : World} {y : Lay} {s : St} (h : MemAt w y s) {k : Nat} (hk : y.fp k) : (∃ cs t, w.heap[k]? = some (.cells cs t (0, 0))) ∨ k = y.mb := by
  rcases hk with rfl | rfl | rfl | rfl | rfl | ⟨j, v, hv, hk⟩
  · exact .inl ⟨_, _, h.row⟩
  · obtain ⟨c, hc⟩ := own_at h.las
    exact .inl ⟨_, _, hc⟩
  · obtain ⟨c, hc⟩ := own_at h.vie
    exact .inl ⟨_, _, hc⟩
  · obtain ⟨c, hc⟩ := own_at h.pen
    exact .inl ⟨_, _, hc⟩
  · exact .inr rfl
  · obtain ⟨c, hc⟩ := ps_row h hv hk
    exact .inl ⟨_, _, hc⟩
theorem cri_stay {W0 : World} {y : Lay} {s : St} {keep : List Int} (hmb : y.mb < W0.heap.size) (k : Nat) (W W' : World) (row : Option Nat) (h : CrI W0 y s keep k W) (hg : W.grownBy W' row)
    (hr : ∀ r, row = some r → W0.heap.size ≤ r ∧ ∃ o : Obj, W.heap[r]? = some o ∧ o.isCells = false) : CrI W0 y s keep k W' := by
  obtain ⟨y', hm, ht, h1, h2, h3⟩ := h
  have hn : ∀ q, y'.fp q → some q ≠ row := by
    intro q hq e
    obtain ⟨h4, o, ho, hc⟩ := hr q e.symm
    rcases fp_cells hm hq with ⟨cs, t, h5⟩ | h5
    · rw [h5] at ho
      cases ho
      cases hc
    · omega
  refine ⟨y', hm.same fun q hq => hg.block q (hm.lt q hq) (hn q hq), ⟨ht.g, ht.but.trans (q := fun q => W0.heap.size ≤ q) ⟨hg.os, hg.tape, hg.output, hg.size, fun q hq hq2 => hg.block q hq (fun e => hq2 (hr q e.symm).1)⟩ (fun q hq => .inr hq), ht.fp⟩, h1, h2, h3⟩
theorem cri_next {W0 W W1 W2 : World} {y y' y1 y2 : Lay} {s : St} {keep : List Int} {k : Nat} {x : Nat × Nat} (hx : (nz s.pend)[k]? = some x)
    (ht : Turn W0 W y y') (hgp : y'.gp = y.gp) (hmb : y'.mb = y.mb) (hps : ∀ j : Nat, (∀ (i : Nat) (q : Nat × Nat), (nz s.pend)[i]? = some q → i < k → q.2 < j) → y'.ps[j]? = y.ps[j]?)
    (t1 : Turn W W1 y' y1) (n1 : y'.Near y1 x.2) (t2 : Turn W1 W2 y1 y2) (n2 : y1.Near y2 x.2) (hm : MemAt W2 y2 ((s.crashTo keep ((nz s.pend).take k)).crash1 keep x)) : CrI W0 y s keep (k + 1) W2 := by
  have hkl := (List.getElem?_eq_some_iff.1 hx).1
  have hxe : (nz s.pend)[k] = x := (List.getElem?_eq_some_iff.1 hx).2
  refine ⟨y2, ?_, (ht.trans t1).trans t2, n2.2.1.trans (n1.2.1.trans hgp), n2.2.2.2.1.trans (n1.2.2.2.1.trans hmb), ?_⟩
  · rw [List.take_succ_eq_append_getElem hkl, crashTo_snoc, hxe]
    exact hm
  · intro j hj
    have hxj : x.2 < j := hj k x hx (by omega)
    rw [n2.2.2.2.2.2.2.2.2 j (by omega), n1.2.2.2.2.2.2.2.2 j (by omega)]
    exact hps j fun i q hq hi => hj i q hq (by omega)
end Go.Proofs.YtedefebdfcgjeaaGreatDoor
/- Pending, Load, Evict, Stats, Fence and Crash where they are refused, and where they are not: what each answers; for states that a memory can have. -/
namespace Go.Proofs.YtedefebdfcgjeaaGreatDoor
open Go.RowKit
set_option linter.unusedVariables false

end Go.Proofs.YtedefebdfcgjeaaGreatDoor
