/- Plain facts of a run's steps: the memory stays such as one can be, the run may go on; what is new stays new. -/
import Derived.Test.YtgapncamnmngeaaRnG
namespace Go.Proofs.Ytgapncamnmngeaa
open Go.RowKit Go.Shelf
set_option linter.unusedVariables false

theorem RS.Good.line_lt {r : RS} {s : St} (g : r.Good s.nl) (hp : s.pend.length = s.nl) {a v : Nat} {t : List (Nat × Nat)} (hl : r.left = (a, v) :: t) : a / 64 < s.pend.length := by
  have := (g.pu (a, v) (by rw [hl]; exact List.mem_cons_self)).2.1
  rw [hp]
  omega
theorem mem_Ok {r : RS} {s : St} {i : Nat} (ok : s.Ok) (hs : Small s i) (hi : i ≤ 1000) (hp : s.pend.length = s.nl) (g : r.Good s.nl) : (r.mem s).Ok := by
  unfold RS.mem
  split
  · split
    · exact ok
    · rename_i a v t hl
      have h1 := g.pu (a, v) (by rw [hl]; exact List.mem_cons_self)
      have h2 := g.line_lt hp hl
      refine store_Ok ok h1.1 h2 h1.2.2 (by have := hs.st; omega) ?_
      rw [getD_at h2]
      have := hs.pe _ (List.getElem_mem h2)
      omega
  · exact flush_Ok ok (by have := hs.fl; omega)
  · exact fence_Ok ok (by have := hs.fe; omega)
  · exact ok
theorem mem_nl (r : RS) (s : St) : (r.mem s).nl = s.nl := by
  unfold RS.mem
  split
  · split <;> rfl
  · rfl
  · rfl
  · rfl
theorem Small.mono {s : St} {i j : Nat} (h : Small s i) (hij : i ≤ j) : Small s j := ⟨Nat.le_trans h.st hij, Nat.le_trans h.fl hij, Nat.le_trans h.fe hij, fun l hl => Nat.le_trans (h.pe l hl) hij⟩
theorem mem_Small {r : RS} {s : St} {i : Nat} (hs : Small s i) : Small (r.mem s) (i + 1) := by
  unfold RS.mem
  split
  · split
    · exact hs.mono (by omega)
    · rename_i a v t hl
      refine ⟨Nat.succ_le_succ hs.st, Nat.le_succ_of_le hs.fl, Nat.le_succ_of_le hs.fe, fun l h => ?_⟩
      have h' : l ∈ s.pend.set (a / 64) (s.pend.getD (a / 64) [] ++ [(a, v)]) := h
      rcases List.mem_or_eq_of_mem_set h' with h2 | rfl
      · exact Nat.le_succ_of_le (hs.pe l h2)
      · rw [List.length_append, List.getD_eq_getElem?_getD]
        cases e : s.pend[a / 64]? with
        | none => simp
        | some m => exact Nat.succ_le_succ (hs.pe m (List.mem_of_getElem? e))
  · exact ⟨Nat.le_succ_of_le hs.st, Nat.succ_le_succ hs.fl, Nat.le_succ_of_le hs.fe, fun l h => Nat.le_succ_of_le (hs.pe l h)⟩
  · refine ⟨Nat.le_succ_of_le hs.st, Nat.le_succ_of_le hs.fl, Nat.succ_le_succ hs.fe, fun l h => ?_⟩
    have h' : l ∈ s.pend.mapIdx fun j l => if (fun _ : Nat => true) j = true then l.drop (s.mm j r.c.toNat) else l := h
    rw [List.mem_mapIdx] at h'
    obtain ⟨j, hj, rfl⟩ := h'
    have := hs.pe _ (List.getElem_mem hj)
    simp only [if_true, List.length_drop]
    omega
  · exact hs.mono (by omega)
theorem next_Good {r : RS} {nl : Nat} (g : r.Good nl) (hd : r.next.done = false) : r.next.Good nl := by
  obtain ⟨c, left, line, ph, done, code⟩ := r
  obtain ⟨gc0, gc1, gdn, gcd, glf, gpu, gl8, gl64⟩ := g
  cases ph with
  | st =>
    cases left with
    | nil => exact absurd rfl (glf rfl)
    | cons av t =>
      obtain ⟨a, v⟩ := av
      have ha := gpu (a, v) List.mem_cons_self
      refine ⟨gc0, gc1, gdn, gcd, ?_, fun p hp => gpu p (List.mem_cons_of_mem _ hp), ?_, ?_⟩
      · intro h
        have h' : (if ends a t then Ph.fl else Ph.st) = .st := h
        intro h0
        have h0' : t = [] := h0
        subst h0'
        cases h'
      · show a / 64 * 64 % 8 = 0
        omega
      · show a / 64 * 64 < 64 * nl
        have := ha.2.1
        dsimp only at this
        omega
  | fl => exact ⟨gc0, gc1, gdn, gcd, (fun h => by cases h), gpu, gl8, gl64⟩
  | fe =>
    refine ⟨gc0, gc1, hd, gcd, fun _ => ?_, gpu, gl8, gl64⟩
    have h' : left.isEmpty = false := hd
    intro h0
    have h0' : left = [] := h0
    subst h0'
    cases h'
  | en => cases hd
theorem new_Good {c : Int} {l : List (Nat × Nat)} {nl : Nat} (c0 : 0 ≤ c) (c1 : c ≤ 64) (hn : 0 < nl) (pu : ∀ p ∈ l, p.1 % 8 = 0 ∧ p.1 < 64 * nl ∧ p.2 < 18446744073709551616) : (RS.new c l).Good nl := by
  refine ⟨c0, c1, rfl, rfl, fun h h0 => ?_, pu, rfl, by show 0 < _; omega⟩
  have h0' : l = [] := h0
  unfold RS.new at h
  rw [if_pos h0'] at h
  cases h
theorem zero_Small (nl : Nat) : Small (St.zero nl) 0 := ⟨Nat.le_refl _, Nat.le_refl _, Nat.le_refl _, fun l hl => by
  have h' : l ∈ List.replicate nl ([] : List (Nat × Nat)) := hl
  rw [List.eq_of_mem_replicate h']
  exact Nat.le_refl _⟩

/-- All that there is of a memory and a run is new since w. -/
structure Fresh (w w' : World) (y : Lay) (rg : Nat) : Prop where
  low : Below w.heap.size w w'
  fp : ∀ k, y.fp k → w.heap.size ≤ k
  rg : w.heap.size ≤ rg
theorem Fresh.step {w w1 w2 : World} {y y' : Lay} {rg : Nat} (h : Fresh w w1 y rg) (T : RT w1 w2 y y' rg) : Fresh w w2 y' rg :=
  ⟨h.low.trans (T.but.below h.low.size fun k hk => by
    rcases hk with hk | rfl
    · exact h.fp k hk
    · exact h.rg), fun k hk => by
    rcases T.fp k hk with h1 | h1
    · exact h.fp k h1
    · exact Nat.le_trans h.low.size h1, h.rg⟩
theorem Fresh.below {w w1 w2 : World} {y : Lay} {rg : Nat} (h : Fresh w w1 y rg) (hb : Below w1.heap.size w1 w2) : Fresh w w2 y rg := ⟨h.low.trans (hb.mono h.low.size), h.fp, h.rg⟩
theorem RunOn.below {w w' : World} {y : Lay} {rg : Nat} {r : RS} {V : Value} (h : RunOn w y rg r V) (hb : Below w.heap.size w w') : RunOn w' y rg r V :=
  ⟨⟨h.run.row.below hb h.run.row.lt, h.run.ah.below hb⟩, h.sep, h.vsep⟩
/-- A run anew beside a memory that lay ahead of it. -/
theorem RunOn.new {w w' : World} {y : Lay} {s : St} {rg : Nat} {c : Int} {l : List (Nat × Nat)} {V : Value} (hm : MemAt w y s) (hr : RunAt w' rg (some ⟨y.g, 0, none⟩) (RS.new c l) V) (hg : w.heap.size ≤ rg) (hv : ∀ k, V.ownBlock = some k → l ≠ [] → w.heap.size ≤ k ∧ k ≠ rg) : RunOn w' y rg (RS.new c l) V :=
  ⟨hr, fun hf => by have := hm.lt _ hf; omega, fun b hb h0 => ⟨fun hf => by have := hm.lt _ hf; have := (hv b hb h0).1; omega, (hv b hb h0).2⟩⟩
end Go.Proofs.Ytgapncamnmngeaa
