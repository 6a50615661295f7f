/- A memory's place behind one of its parts has turned: what has lasted, what is seen, a line's stores; without conditions. -/
import Derived.Test.YtedefebdfcgjeaaPUnmark
namespace Go.Proofs.Ytedefebdfcgjeaa
open Go.RowKit
set_option linter.unusedVariables false
theorem row_at {w : World} {t : TypeId} {cs : Array Value} {k : Nat} (h : k = w.heap.size) : Row (w.alloc (.cells cs t)) k t cs := by
  subst h
  exact Row.new w t cs
theorem mem_las {w W : World} {y : Lay} {s : St} {las : List Nat} (hm : MemAt w y s) (hl : W.ownsRow 0 29 1 (.slice (some ⟨y.gl, 0, none⟩) (8 * s.nl) y.cl) (8 * s.nl) (las.map wv)) (hb : But w W (fun k => k = y.gl)) :
    MemAt W y { s with lasted := las } ∧ Turn w W y y := by
  have hd := hm.differ
  have hk : ∀ k, y.fp k → k ≠ y.gl → W.heap[k]? = w.heap[k]? := fun k h1 h2 => hb.block k (hm.lt k h1) h2
  refine ⟨⟨hm.row.same (hk _ (.inl rfl) hd.g_gl), hl, own_same hm.vie (hk _ (.inr (.inr (.inl rfl))) (Ne.symm hd.gl_gv)), hm.ne, own_same hm.pen (hk _ (.inr (.inr (.inr (.inl rfl)))) (Ne.symm hd.gl_gp)), hm.plen, ?_, hm.apart, hm.marks.same (hk _ (.inr (.inr (.inr (.inr (.inl rfl))))) (Ne.symm hd.gl_mb)), hm.pos, hm.most⟩, rfl, hb.mono (fun k e => .inr (.inl e)), fun _ h => .inl h⟩
  intro j hj v l hv hl'
  exact (hm.tails j hj v l hv hl').same fun k hk' => hk k (.inr (.inr (.inr (.inr (.inr ⟨j, v, hv, hk'⟩))))) (hd.tail j v k hv hk').2.1
theorem mem_vie {w W : World} {y : Lay} {s : St} {vie : List Nat} (hm : MemAt w y s) (hl : W.ownsRow 0 29 1 (.slice (some ⟨y.gv, 0, none⟩) (8 * s.nl) y.cv) (8 * s.nl) (vie.map wv)) (hb : But w W (fun k => k = y.gv)) :
    MemAt W y { s with view := vie } ∧ Turn w W y y := by
  have hd := hm.differ
  have hk : ∀ k, y.fp k → k ≠ y.gv → W.heap[k]? = w.heap[k]? := fun k h1 h2 => hb.block k (hm.lt k h1) h2
  refine ⟨⟨hm.row.same (hk _ (.inl rfl) hd.g_gv), own_same hm.las (hk _ (.inr (.inl rfl)) hd.gl_gv), hl, hm.ne, own_same hm.pen (hk _ (.inr (.inr (.inr (.inl rfl)))) (Ne.symm hd.gv_gp)), hm.plen, ?_, hm.apart, hm.marks.same (hk _ (.inr (.inr (.inr (.inr (.inl rfl))))) (Ne.symm hd.gv_mb)), hm.pos, hm.most⟩, rfl, hb.mono (fun k e => .inr (.inr (.inl e))), fun _ h => .inl h⟩
  intro j hj v l hv hl'
  exact (hm.tails j hj v l hv hl').same fun k hk' => hk k (.inr (.inr (.inr (.inr (.inr ⟨j, v, hv, hk'⟩))))) (hd.tail j v k hv hk').2.2.1
theorem mem_mks {w W : World} {y : Lay} {s : St} {m : Nat → Nat → Nat} (hm : MemAt w y s) (hk : MarksAt W y.mb s.nl m) (hb : But w W (fun k => k = y.mb)) :
    MemAt W y { s with mm := m } ∧ Turn w W y y :=
  ⟨mem_marks hm rfl rfl rfl rfl (hb.row hm.row hm.differ.g_mb) (fun k h1 _ h3 => hb.block k (hm.lt k h1) h3) hk, rfl, hb.mono (fun k e => .inr (.inr (.inr (.inr (.inl e))))), fun _ h => .inl h⟩
/-- The same place, but for one line's stores. -/
def Lay.Near (y y' : Lay) (i : Nat) : Prop := y'.g = y.g ∧ y'.gp = y.gp ∧ y'.cp = y.cp ∧ y'.mb = y.mb ∧ y'.gv = y.gv ∧ y'.gl = y.gl ∧ y'.cv = y.cv ∧ y'.cl = y.cl ∧ ∀ j, j ≠ i → y'.ps[j]? = y.ps[j]?
theorem near_refl (y : Lay) (i : Nat) : y.Near y i := ⟨rfl, rfl, rfl, rfl, rfl, rfl, rfl, rfl, fun _ _ => rfl⟩
def Lay.tail (y : Lay) (i : Nat) (R : Value) : Lay := { y with ps := y.ps.set i R }
theorem near_tail (y : Lay) (i : Nat) (R : Value) : y.Near (y.tail i R) i := ⟨rfl, rfl, rfl, rfl, rfl, rfl, rfl, rfl, fun j h => List.getElem?_set_ne (Ne.symm h)⟩
theorem mem_tail {w : World} {y : Lay} {s : St} {i : Nat} {V R : Value} {l : List (Nat × Nat)} (hm : MemAt w y s) (hi : i < s.nl) (hV : y.ps[i]? = some V) (hR : R.ownBlock = none ∨ R.ownBlock = V.ownBlock) (ht : Tail w R l) :
    MemAt (w.setCell ⟨y.gp, i, none⟩ R) (y.tail i R) { s with pend := s.pend.set i l } ∧ Turn w (w.setCell ⟨y.gp, i, none⟩ R) y (y.tail i R) := by
  have hd := hm.differ
  have hpl := ps_len hm
  have hk : ∀ k, k ≠ y.gp → (w.setCell ⟨y.gp, i, none⟩ R).heap[k]? = w.heap[k]? := fun k h => heap_setCell_other _ _ _ _ h
  have hn : ∀ (j : Nat) (u : Value), j ≠ i → (y.ps.set i R)[j]? = some u → y.ps[j]? = some u := by
    intro j u hj hu
    rwa [List.getElem?_set_ne (by omega)] at hu
  have hs : (y.ps.set i R)[i]? = some R := List.getElem?_set_self (by omega)
  have hRk : ∀ k, R.ownBlock = some k → V.ownBlock = some k := by
    intro k h
    rcases hR with h0 | h0
    · rw [h0] at h; cases h
    · rw [← h0]; exact h
  refine ⟨⟨hm.row.same (hk _ hd.g_gp), own_same hm.las (hk _ hd.gl_gp), own_same hm.vie (hk _ hd.gv_gp), hm.ne, own_stored hm.pen i _, by show (s.pend.set _ _).length = _; rw [List.length_set]; exact hm.plen, ?_, ?_, hm.marks.same (hk _ (Ne.symm hd.gp_mb)), hm.pos, hm.most⟩, rfl, ?_, ?_⟩
  · intro j hj v m hv hl'
    by_cases e : j = i
    · subst e
      have hv' : (y.ps.set j R)[j]? = some v := hv
      have hl2 : (s.pend.set j l)[j]? = some m := hl'
      rw [hs] at hv'
      rw [List.getElem?_set_self (by have := hm.plen; omega)] at hl2
      cases hv'
      cases hl2
      exact ht.same fun k hk' => hk k (hd.tail j V k hV (hRk k hk')).2.2.2.1
    · have hl2 : (s.pend.set i l)[j]? = some m := hl'
      rw [List.getElem?_set_ne (by omega)] at hl2
      exact (hm.tails j hj v m (hn j v e hv) hl2).same fun k hk' => hk k (hd.tail j v k (hn j v e hv) hk').2.2.2.1
  · intro j1 j2 v1 v2 k hj hv1 hv2 hk1 hk2
    have g1 : ∃ u1, y.ps[j1]? = some u1 ∧ u1.ownBlock = some k := by
      by_cases e : j1 = i
      · subst e
        have hv' : (y.ps.set j1 R)[j1]? = some v1 := hv1
        rw [hs] at hv'
        cases hv'
        exact ⟨V, hV, hRk k hk1⟩
      · exact ⟨v1, hn j1 v1 e hv1, hk1⟩
    have g2 : ∃ u2, y.ps[j2]? = some u2 ∧ u2.ownBlock = some k := by
      by_cases e : j2 = i
      · subst e
        have hv' : (y.ps.set j2 R)[j2]? = some v2 := hv2
        rw [hs] at hv'
        cases hv'
        exact ⟨V, hV, hRk k hk2⟩
      · exact ⟨v2, hn j2 v2 e hv2, hk2⟩
    obtain ⟨u1, a1, a2⟩ := g1
    obtain ⟨u2, b1, b2⟩ := g2
    exact hm.apart j1 j2 u1 u2 k hj a1 b1 a2 b2
  · exact ⟨rfl, rfl, rfl, by simp [World.setCell], fun k _ h => hk k (fun e => h (.inr (.inr (.inr (.inl e)))))⟩
  · rintro k (rfl | rfl | rfl | rfl | rfl | ⟨j, v, hv, hk'⟩)
    · exact .inl (.inl rfl)
    · exact .inl (.inr (.inl rfl))
    · exact .inl (.inr (.inr (.inl rfl)))
    · exact .inl (.inr (.inr (.inr (.inl rfl))))
    · exact .inl (.inr (.inr (.inr (.inr (.inl rfl)))))
    · by_cases e : j = i
      · subst e
        have hv' : (y.ps.set j R)[j]? = some v := hv
        rw [hs] at hv'
        cases hv'
        exact .inl (.inr (.inr (.inr (.inr (.inr ⟨j, V, hV, hRk k hk'⟩)))))
      · exact .inl (.inr (.inr (.inr (.inr (.inr ⟨j, v, hn j v e hv, hk'⟩)))))
end Go.Proofs.Ytedefebdfcgjeaa
