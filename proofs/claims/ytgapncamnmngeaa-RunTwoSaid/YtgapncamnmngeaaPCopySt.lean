/- The copy under way: what holds when k lines are copied; plain facts, without conditions but its own. -/
import Derived.Test.YtgapncamnmngeaaPClone
namespace Go.Proofs.Ytgapncamnmngeaa
open Go.RowKit Go.Shelf
set_option linter.unusedVariables false
attribute [local go_sem] Oper.semAt_some
/-- The line j is among the first k with pending stores. -/
def Gone (p : List (List (Nat × Nat))) (k j : Nat) : Prop := ∃ (i : Nat) (q : Nat × Nat), i < k ∧ (nz p)[i]? = some q ∧ q.2 = j
/-- The copy under way: the first k lines that have pending stores are copied. -/
structure CpI (w W0 : World) (nl : Nat) (p : List (List (Nat × Nat))) (ps : List Value) (k : Nat) (W : World) : Prop where
  row : Row W (w.heap.size + 1) 22 ps.toArray
  len : ps.length = nl
  low : Below w.heap.size w W
  mid : ∀ q, q < W0.heap.size → q ≠ w.heap.size + 1 → W.heap[q]? = W0.heap[q]?
  size : W0.heap.size ≤ W.heap.size
  tails : ∀ (j : Nat) (v : Value) (l : List (Nat × Nat)), ps[j]? = some v → p[j]? = some l → Gone p k j → Tail W v l
  rest : ∀ (j : Nat) (v : Value), ps[j]? = some v → ¬ Gone p k j → v = .slice none 0 0
  new : ∀ (j g : Nat) (v : Value), ps[j]? = some v → v.ownBlock = some g → W0.heap.size ≤ g ∧ ∃ cur, Row W g 32 cur
  apart : ∀ (i j : Nat) (v u : Value) (g : Nat), i ≠ j → ps[i]? = some v → ps[j]? = some u → v.ownBlock = some g → u.ownBlock ≠ some g
theorem cpi_stay {w W0 : World} {nl : Nat} {p : List (List (Nat × Nat))} (hsz : w.heap.size + 2 ≤ W0.heap.size) (k : Nat) (W W' : World) (row : Option Nat) (h : ∃ ps, CpI w W0 nl p ps k W) (hg : W.grownBy W' row)
    (hr : ∀ r, row = some r → W0.heap.size ≤ r ∧ ∃ o : Obj, W.heap[r]? = some o ∧ o.isCells = false) : ∃ ps, CpI w W0 nl p ps k W' := by
  obtain ⟨ps, h⟩ := h
  have hne : ∀ g (cur : Array Value) (t : TypeId), Row W g t cur → some g ≠ row := by
    intro g cur t hR e
    obtain ⟨_, o, ho, hc⟩ := hr g e.symm
    have hR' : W.heap[g]? = some (.cells cur t (0, 0)) := hR
    rw [hR'] at ho
    cases ho
    cases hc
  refine ⟨ps, h.row.grown hg (hne _ _ _ h.row), h.len, h.low.trans ⟨hg.os, hg.tape, hg.output, hg.size, fun q hq => hg.block q (by have := h.low.size; omega) (fun e => by have := (hr _ e.symm).1; omega)⟩, ?_, Nat.le_trans h.size hg.size, ?_, h.rest, ?_, h.apart⟩
  · intro q hq hn
    rw [← h.mid q hq hn]
    exact hg.block q (Nat.lt_of_lt_of_le hq h.size) (fun e => by have := (hr _ e.symm).1; omega)
  · intro j v l hv hl hgn
    refine (h.tails j v l hv hl hgn).same fun b hb => ?_
    obtain ⟨_, cur, hR⟩ := h.new j b v hv hb
    exact hg.block b hR.lt (hne _ _ _ hR)
  · intro j g v hv hb
    obtain ⟨h1, cur, hR⟩ := h.new j g v hv hb
    exact ⟨h1, cur, hR.grown hg (hne _ _ _ hR)⟩
theorem cpi_next {w W0 W wy : World} {nl k : Nat} {p : List (List (Nat × Nat))} {ps : List Value} {x : Nat × Nat} {m : List (Nat × Nat)} {v : Value} (hsz : w.heap.size + 2 ≤ W0.heap.size) (h : CpI w W0 nl p ps k W) (hx : (nz p)[k]? = some x) (hp : p[x.2]? = some m) (hnl : x.2 < nl)
    (ht : Tail wy v m) (hnew : ∀ q, v.ownBlock = some q → W.heap.size ≤ q) (hb : Below W.heap.size W wy) :
    CpI w W0 nl p (ps.set x.2 v) (k + 1) (wy.setCell ⟨w.heap.size + 1, x.2, none⟩ v) := by
  have hs := h.size
  have hrl := h.row.lt
  have hgone : ∀ j, Gone p (k + 1) j ↔ Gone p k j ∨ j = x.2 := by
    intro j
    constructor
    · rintro ⟨i, q, hi, hq, rfl⟩
      rcases Nat.lt_or_ge i k with h1 | h1
      · exact .inl ⟨i, q, h1, hq, rfl⟩
      · obtain rfl : i = k := by omega
        rw [hx] at hq
        cases hq
        exact .inr rfl
    · rintro (⟨i, q, hi, hq, e⟩ | rfl)
      · exact ⟨i, q, by omega, hq, e⟩
      · exact ⟨k, x, by omega, hx, rfl⟩
  have hheap : ∀ q, q < W.heap.size → q ≠ w.heap.size + 1 → (wy.setCell ⟨w.heap.size + 1, x.2, none⟩ v).heap[q]? = W.heap[q]? := fun q hq hn => (heap_setCell_other _ _ _ _ hn).trans (hb.block q hq)
  have hvb : ∀ q, v.ownBlock = some q → (wy.setCell ⟨w.heap.size + 1, x.2, none⟩ v).heap[q]? = wy.heap[q]? := fun q hq => heap_setCell_other _ _ _ _ (by have := hnew q hq; show q ≠ w.heap.size + 1; omega)
  have hold : ∀ (j : Nat) (u : Value) (g : Nat), ps[j]? = some u → u.ownBlock = some g → W0.heap.size ≤ g ∧ g < W.heap.size := by
    intro j u g hu hg
    obtain ⟨h1, cur, hR⟩ := h.new j g u hu hg
    exact ⟨h1, hR.lt⟩
  have hset : ∀ (j : Nat) (u : Value), (ps.set x.2 v)[j]? = some u → (j = x.2 ∧ u = v) ∨ (j ≠ x.2 ∧ ps[j]? = some u) := by
    intro j u hu
    rw [List.getElem?_set] at hu
    by_cases e : x.2 = j
    · rw [if_pos e, if_pos (by rw [h.len]; exact hnl)] at hu
      cases hu
      exact .inl ⟨e.symm, rfl⟩
    · rw [if_neg e] at hu
      exact .inr ⟨fun e2 => e e2.symm, hu⟩
  refine ⟨?_, by rw [List.length_set]; exact h.len, ?_, ?_, ?_, ?_, ?_, ?_, ?_⟩
  · have := (h.row.below hb hrl).set x.2 v
    simpa using this
  · exact (h.low.trans (hb.mono h.low.size)).setCell (by show w.heap.size ≤ w.heap.size + 1; omega) _
  · intro q hq hn
    rw [← h.mid q hq hn]
    exact hheap q (by omega) hn
  · have := hb.size
    simp [World.setCell]
    omega
  · intro j u l hu hl hg
    rcases hset j u hu with ⟨rfl, rfl⟩ | ⟨hne, hu'⟩
    · rw [hp] at hl
      cases hl
      exact ht.same fun b hb' => hvb b hb'
    · have hg' : Gone p k j := by
        rcases (hgone j).1 hg with h1 | h1
        · exact h1
        · exact absurd h1 hne
      refine (h.tails j u l hu' hl hg').same fun b hb' => ?_
      have := hold j u b hu' hb'
      exact hheap b this.2 (by omega)
  · intro j u hu hg
    rcases hset j u hu with ⟨rfl, rfl⟩ | ⟨hne, hu'⟩
    · exact absurd ((hgone _).2 (.inr rfl)) hg
    · exact h.rest j u hu' fun h1 => hg ((hgone j).2 (.inl h1))
  · intro j g u hu hg
    rcases hset j u hu with ⟨rfl, rfl⟩ | ⟨hne, hu'⟩
    · have h1 := hnew g hg
      obtain ⟨cur, hR⟩ := ht.row hg
      exact ⟨by omega, cur, hR.same (hvb g hg)⟩
    · obtain ⟨h1, cur, hR⟩ := h.new j g u hu' hg
      have := hold j u g hu' hg
      exact ⟨h1, cur, hR.same (hheap g this.2 (by omega))⟩
  · intro i j a b g hij ha hb' hga hgb
    rcases hset i a ha with ⟨rfl, rfl⟩ | ⟨hne, ha'⟩
    · rcases hset j b hb' with ⟨rfl, _⟩ | ⟨_, hb''⟩
      · exact hij rfl
      · have h1 := hnew g hga
        have h2 := hold j b g hb'' hgb
        omega
    · rcases hset j b hb' with ⟨rfl, rfl⟩ | ⟨_, hb''⟩
      · have h1 := hnew g hgb
        have h2 := hold i a g ha' hga
        omega
      · exact h.apart i j a b g hij ha' hb'' hga hgb
end Go.Proofs.Ytgapncamnmngeaa
