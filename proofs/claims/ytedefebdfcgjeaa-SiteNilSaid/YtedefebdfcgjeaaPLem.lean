/- How a memory's place is kept while other blocks turn, and that its blocks differ; without conditions. -/
import Derived.Test.YtedefebdfcgjeaaPSmall
namespace Go.Proofs.Ytedefebdfcgjeaa
open Go.RowKit Go.Maps
set_option linter.unusedVariables false

/-- A cell in another block stays. -/
theorem cell_far {w : World} {p q : Addr} (h : p.block ≠ q.block) (u : Value) : (w.setCell p u).cell? q = w.cell? q :=
  World.cell?_of_block (heap_setCell_other w p q.block u (Ne.symm h))
theorem cell_else {w : World} {g i j : Nat} (h : i ≠ j) (u : Value) : (w.setCell ⟨g, i, none⟩ u).cell? ⟨g, j, none⟩ = w.cell? ⟨g, j, none⟩ :=
  World.cell?_setCell_other _ _ _ _ (fun e => h (by injection e))
theorem frozen_grown {w w' : World} {row : Option Nat} (hg : w.grownBy w' row) {p : Addr} (hl : p.block < w.heap.size) (hn : some p.block ≠ row) (hf : w.frozen? p = false) : w'.frozen? p = false := by
  rw [World.frozen?_of_block (hg.block _ hl hn)]; exact hf
theorem frozen_alloc {w : World} {p : Addr} (hl : p.block < w.heap.size) (o : Obj) : (w.alloc o).frozen? p = w.frozen? p := World.frozen?_of_block (Below.heap_alloc w o p.block hl)
theorem Row.ne {w : World} {g g' : Nat} {t t' : TypeId} {cs cs' : Array Value} (h : Row w g t cs) (h' : Row w g' t' cs') (hne : t ≠ t') : g ≠ g' := by
  rintro rfl
  unfold Row at h h'
  rw [h] at h'
  injection h' with h'
  injection h' with _ ht
  exact hne ht
theorem Row.ne_map {w : World} {g g' : Nat} {t : TypeId} {cs : Array Value} {es : Array MapEntry} {c : Nat} (h : Row w g t cs) (h' : w.heap[g']? = some (.map es c)) : g ≠ g' := by
  rintro rfl
  unfold Row at h
  rw [h] at h'
  injection h' with h'
  cases h'
theorem Row.same {w w' : World} {g : Nat} {t : TypeId} {cs : Array Value} (h : Row w g t cs) (hk : w'.heap[g]? = w.heap[g]?) : Row w' g t cs := hk.trans h
theorem own_at {w : World} {B n g c : Nat} {e : TypeId} {xs : List Value} (h : w.ownsRow B e 1 (.slice (some ⟨g, 0, none⟩) n c) n xs) : ∃ cur, Row w g e cur := by
  rcases h.2 with ⟨h0, _⟩ | ⟨g', cap, cur, h0, _, hh, _⟩
  · cases h0
  · simp only [Value.slice.injEq, Option.some.injEq, Addr.mk.injEq, and_true, true_and] at h0
    obtain ⟨rfl, rfl⟩ := h0
    exact ⟨cur, hh⟩
theorem own_same {w w' : World} {B n g c : Nat} {e : TypeId} {xs : List Value} (h : w.ownsRow B e 1 (.slice (some ⟨g, 0, none⟩) n c) n xs) (hk : w'.heap[g]? = w.heap[g]?) : w'.ownsRow B e 1 (.slice (some ⟨g, 0, none⟩) n c) n xs := by
  refine ⟨h.1, ?_⟩
  rcases h.2 with h0 | ⟨g', cap, cur, h0, hg, hh, hr⟩
  · exact .inl h0
  · have e1 := h0
    simp only [Value.slice.injEq, Option.some.injEq, Addr.mk.injEq, and_true, true_and] at e1
    obtain ⟨rfl, rfl⟩ := e1
    exact .inr ⟨g, c, cur, rfl, hg, hk.trans hh, hr⟩
theorem own_lt {w : World} {B n g c : Nat} {e : TypeId} {xs : List Value} (h : w.ownsRow B e 1 (.slice (some ⟨g, 0, none⟩) n c) n xs) : g < w.heap.size := (h.lt g rfl).2

theorem Tail.row {w : World} {v : Value} {l : List (Nat × Nat)} {h : Nat} (ht : Tail w v l) (hb : v.ownBlock = some h) : ∃ cur, Row w h 75 cur := by
  rcases ht with ⟨rfl, _⟩ | ⟨h', off, cap, cur, rfl, hr, _⟩
  · cases hb
  · have : h' = h := by simpa [Value.ownBlock] using hb
    subst this
    exact ⟨cur, hr⟩
theorem Tail.same {w w' : World} {v : Value} {l : List (Nat × Nat)} (ht : Tail w v l) (hk : ∀ h, v.ownBlock = some h → w'.heap[h]? = w.heap[h]?) : Tail w' v l := by
  rcases ht with h0 | ⟨h', off, cap, cur, rfl, hr, hrest⟩
  · exact .inl h0
  · exact .inr ⟨h', off, cap, cur, rfl, hr.same (hk h' rfl), hrest⟩
theorem Tail.len {w : World} {v : Value} {l : List (Nat × Nat)} (ht : Tail w v l) : ∃ A c, v = .slice A l.length c ∧ l.length ≤ c := by
  rcases ht with ⟨rfl, rfl⟩ | ⟨h', off, cap, cur, rfl, _, _, hlc, _⟩
  · exact ⟨_, _, rfl, Nat.le_refl _⟩
  · exact ⟨_, _, rfl, hlc⟩

theorem MarksAt.same {w w' : World} {mb nl : Nat} {m : Nat → Nat → Nat} (h : MarksAt w mb nl m) (hk : w'.heap[mb]? = w.heap[mb]?) : MarksAt w' mb nl m := by
  obtain ⟨D, ⟨es, c, hb, hr⟩, h2⟩ := h
  exact ⟨D, ⟨es, c, hk.trans hb, hr⟩, h2⟩
theorem MarksAt.map {w : World} {mb nl : Nat} {m : Nat → Nat → Nat} (h : MarksAt w mb nl m) : ∃ es c, w.heap[mb]? = some (.map es c) := by
  obtain ⟨D, ⟨es, c, hb, hr⟩, h2⟩ := h
  exact ⟨es, c, hb⟩
theorem MarksAt.lt {w : World} {mb nl : Nat} {m : Nat → Nat → Nat} (h : MarksAt w mb nl m) : mb < w.heap.size := by
  obtain ⟨es, c, hb⟩ := h.map
  exact (Array.getElem?_eq_some_iff.1 hb).1

theorem ps_get {w : World} {y : Lay} {s : St} (h : MemAt w y s) {j : Nat} (hj : j < s.nl) : ∃ v l, y.ps[j]? = some v ∧ s.pend[j]? = some l ∧ Tail w v l := by
  have h1 : y.ps.length = s.nl := by have := h.pen.1; omega
  have h2 := h.plen
  exact ⟨_, _, List.getElem?_eq_getElem (by omega), List.getElem?_eq_getElem (by omega), h.tails j hj _ _ (List.getElem?_eq_getElem (by omega)) (List.getElem?_eq_getElem (by omega))⟩
theorem ps_len {w : World} {y : Lay} {s : St} (h : MemAt w y s) : y.ps.length = s.nl := by have := h.pen.1; omega
theorem ps_row {w : World} {y : Lay} {s : St} (h : MemAt w y s) {j : Nat} {v : Value} {k : Nat} (hv : y.ps[j]? = some v) (hk : v.ownBlock = some k) : ∃ cur, Row w k 75 cur := by
  have hj : j < s.nl := by
    have := ps_len h
    have := (List.getElem?_eq_some_iff.1 hv).1
    omega
  obtain ⟨v', l, h1, h2, h3⟩ := ps_get h hj
  rw [hv] at h1
  cases h1
  exact h3.row hk

/-- The blocks differ. -/
structure Differ (y : Lay) : Prop where
  g_gl : y.g ≠ y.gl
  g_gv : y.g ≠ y.gv
  g_gp : y.g ≠ y.gp
  g_mb : y.g ≠ y.mb
  gl_gv : y.gl ≠ y.gv
  gl_gp : y.gl ≠ y.gp
  gl_mb : y.gl ≠ y.mb
  gv_gp : y.gv ≠ y.gp
  gv_mb : y.gv ≠ y.mb
  gp_mb : y.gp ≠ y.mb
  tail : ∀ (j : Nat) (v : Value) (k : Nat), y.ps[j]? = some v → v.ownBlock = some k → k ≠ y.g ∧ k ≠ y.gl ∧ k ≠ y.gv ∧ k ≠ y.gp ∧ k ≠ y.mb
theorem MemAt.differ {w : World} {y : Lay} {s : St} (h : MemAt w y s) : Differ y := by
  obtain ⟨cl, hl⟩ := own_at h.las
  obtain ⟨cv, hv⟩ := own_at h.vie
  obtain ⟨cp, hp⟩ := own_at h.pen
  obtain ⟨es, c, hm⟩ := h.marks.map
  refine ⟨h.row.ne hl (by decide), h.row.ne hv (by decide), h.row.ne hp (by decide), h.row.ne_map hm, h.ne, hl.ne hp (by decide), hl.ne_map hm, hv.ne hp (by decide), hv.ne_map hm, hp.ne_map hm, ?_⟩
  intro j v k hv' hk
  obtain ⟨cur, hr⟩ := ps_row h hv' hk
  exact ⟨hr.ne h.row (by decide), hr.ne hl (by decide), hr.ne hv (by decide), hr.ne hp (by decide), hr.ne_map hm⟩
theorem MemAt.lt {w : World} {y : Lay} {s : St} (h : MemAt w y s) : ∀ k, y.fp k → k < w.heap.size := by
  rintro k (rfl | rfl | rfl | rfl | rfl | ⟨j, v, hv, hk⟩)
  · exact h.row.lt
  · exact own_lt h.las
  · exact own_lt h.vie
  · exact own_lt h.pen
  · exact h.marks.lt
  · obtain ⟨cur, hr⟩ := ps_row h hv hk
    exact hr.lt
/-- The memory stays while its blocks do. -/
theorem MemAt.same {w w' : World} {y : Lay} {s : St} (h : MemAt w y s) (hk : ∀ k, y.fp k → w'.heap[k]? = w.heap[k]?) : MemAt w' y s := by
  refine ⟨h.row.same (hk _ (.inl rfl)), own_same h.las (hk _ (.inr (.inl rfl))), own_same h.vie (hk _ (.inr (.inr (.inl rfl)))), h.ne, own_same h.pen (hk _ (.inr (.inr (.inr (.inl rfl))))), h.plen, ?_, h.apart, h.marks.same (hk _ (.inr (.inr (.inr (.inr (.inl rfl)))))), h.pos, h.most⟩
  intro j hj v l hv hl
  exact (h.tails j hj v l hv hl).same fun k hk' => hk k (.inr (.inr (.inr (.inr (.inr ⟨j, v, hv, hk'⟩)))))
theorem MemAt.below {w w' : World} {y : Lay} {s : St} (h : MemAt w y s) (hb : Below w.heap.size w w') : MemAt w' y s := h.same fun k hk => hb.block k (h.lt k hk)
theorem MemAt.but {w w' : World} {y : Lay} {s : St} {fp : Nat → Prop} (h : MemAt w y s) (hb : But w w' fp) (hd : ∀ k, y.fp k → ¬ fp k) : MemAt w' y s := h.same fun k hk => hb.block k (h.lt k hk) (hd k hk)
theorem own_stored {w : World} {B n g c : Nat} {e : TypeId} {xs : List Value} (h : w.ownsRow B e 1 (.slice (some ⟨g, 0, none⟩) n c) n xs) (j : Nat) (u : Value) : (w.setCell ⟨g, j, none⟩ u).ownsRow B e 1 (.slice (some ⟨g, 0, none⟩) n c) n (xs.set j u) := by
  rcases h.2 with ⟨h0, _⟩ | ⟨g', cap, cur, h0, hg, hh, hnc, hm, hsz, htk⟩
  · cases h0
  · simp only [Value.slice.injEq, Option.some.injEq, Addr.mk.injEq, and_true, true_and] at h0
    obtain ⟨rfl, rfl⟩ := h0
    refine ⟨by simpa using h.1, .inr ⟨g, c, _, rfl, hg, heap_setCell_same w g j cur e u hh, hnc, hm, by simpa using hsz, ?_⟩⟩
    rw [Array.toList_setIfInBounds, ← htk, List.take_set]
end Go.Proofs.Ytedefebdfcgjeaa
