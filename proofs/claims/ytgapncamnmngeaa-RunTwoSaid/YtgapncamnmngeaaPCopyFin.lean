/- The copy, done: its parts are a memory of the same state; plain facts, without conditions but on its parts. -/
import Derived.Test.YtgapncamnmngeaaPCopySt
namespace Go.Proofs.Ytgapncamnmngeaa
open Go.RowKit Go.Shelf
set_option linter.unusedVariables false
theorem nzFrom_all : ∀ (p : List (List (Nat × Nat))) (i j0 j : Nat) (l : List (Nat × Nat)), p[j]? = some l → l ≠ [] → ∃ q ∈ nzFrom p i j0, q.2 = j0 + j
  | [], _, _, _, _, h, _ => by simp at h
  | a :: t, i, j0, 0, l, h, hl => by
    simp at h
    subst h
    unfold nzFrom
    rw [if_neg hl]
    exact ⟨(i, j0), List.mem_cons_self, rfl⟩
  | a :: t, i, j0, j + 1, l, h, hl => by
    have h' : t[j]? = some l := by simpa using h
    unfold nzFrom
    split
    · obtain ⟨q, hq, e⟩ := nzFrom_all t i (j0 + 1) j l h' hl
      exact ⟨q, hq, by omega⟩
    · obtain ⟨q, hq, e⟩ := nzFrom_all t (i + 1) (j0 + 1) j l h' hl
      exact ⟨q, List.mem_cons_of_mem _ hq, by omega⟩
theorem gone_all {p : List (List (Nat × Nat))} {j : Nat} {l : List (Nat × Nat)} (h : p[j]? = some l) (hl : l ≠ []) : Gone p (nz p).length j := by
  obtain ⟨q, hq, e⟩ := nzFrom_all p 0 0 j l h hl
  obtain ⟨i, hi, hqi⟩ := List.getElem_of_mem hq
  exact ⟨i, q, hi, by show (nzFrom p 0 0)[i]? = some q; rw [List.getElem?_eq_getElem hi, hqi], by omega⟩
theorem copy_mem {w W0 W w1 w2 wn wf : World} {y : Lay} {s : St} {ps : List Value} {g1 c1 g2 c2 : Nat} {Dm : DataW Unit} (hI : CpI w W0 s.nl s.pend ps (nz s.pend).length W) (hm : MemAt W y s) (hsz : w.heap.size + 2 ≤ W0.heap.size)
    (ho1 : w1.ownsRow W.heap.size 29 1 (.slice (some ⟨g1, 0, none⟩) (8 * s.nl) c1) (8 * s.nl) (s.lasted.map wv)) (hb1 : Below W.heap.size W w1)
    (ho2 : w2.ownsRow w1.heap.size 29 1 (.slice (some ⟨g2, 0, none⟩) (8 * s.nl) c2) (8 * s.nl) (s.view.map wv)) (hb2 : Below w1.heap.size w1 w2)
    (ho3 : wn.ownsMap Try.prog 3 mkR w2.heap.size (Maps.size Dm) Dm) (hb3 : Below w2.heap.size w2 wn)
    (hf : wf = wn.alloc (.cells #[.slice (some ⟨g1, 0, none⟩) (8 * s.nl) c1, .slice (some ⟨g2, 0, none⟩) (8 * s.nl) c2, .slice (some ⟨w.heap.size + 1, 0, none⟩) s.nl s.nl, .map (some w2.heap.size), wv s.ld, wv s.st, wv s.fl, wv s.fe] 76))
    (hmk : ∀ (Wx : World) (b : Nat), Wx.ownsMap Try.prog 3 mkR b (Maps.size Dm) Dm → MarksAt Wx b s.nl s.mm) :
    ∃ y' : Lay, y'.g = wn.heap.size ∧ MemAt wf y' s ∧ (∀ k, y'.fp k → w.heap.size ≤ k) ∧ Below w.heap.size w wf := by
  have hbf : Below wn.heap.size wn wf := by rw [hf]; exact alloc_below _ _
  have hbW : Below W.heap.size W wf := Below.and (Below.and (Below.and hb1 hb2) hb3) hbf
  have s0 := hI.size
  have s1 := hb1.size
  have s2 := hb2.size
  have s3 := hb3.size
  have hmost := hm.most
  have k1 : wf.ownsRow W.heap.size 29 1 (.slice (some ⟨g1, 0, none⟩) (8 * s.nl) c1) (8 * s.nl) (s.lasted.map wv) := own_keep ho1 (Below.and (Below.and hb2 hb3) hbf)
  have k2 : wf.ownsRow w1.heap.size 29 1 (.slice (some ⟨g2, 0, none⟩) (8 * s.nl) c2) (8 * s.nl) (s.view.map wv) := own_keep ho2 (Below.and hb3 hbf)
  have b1 := own_from k1 g1 rfl
  have b2 := own_from k2 g2 rfl
  have l1 := (ho1.lt g1 rfl).2
  have hrow : Row wf (w.heap.size + 1) 22 ps.toArray := hI.row.below hbW hI.row.lt
  have hnewb : ∀ (j : Nat) (v : Value) (g : Nat), ps[j]? = some v → v.ownBlock = some g → w.heap.size ≤ g := by
    intro j v g hv hg
    have := (hI.new j g v hv hg).1
    omega
  refine ⟨⟨wn.heap.size, g1, g2, w.heap.size + 1, w2.heap.size, c1, c2, s.nl, ps⟩, rfl, ⟨?_, own_mono k1 (Nat.zero_le _), own_mono k2 (Nat.zero_le _), ?_, ?_, hm.plen, ?_, hI.apart, ?_, hm.pos, hm.most⟩, ?_, ?_⟩
  · rw [hf]
    exact Row.new _ _ _
  · show g1 ≠ g2
    omega
  · exact ⟨by simp [hI.len], .inr ⟨_, s.nl, _, rfl, Nat.zero_le _, hrow, Nat.le_refl _, by unfold maxLen; omega, by simp [hI.len], by simp [← hI.len]⟩⟩
  · intro j hj v l hv hl
    by_cases hg : Gone s.pend (nz s.pend).length j
    · refine (hI.tails j v l hv hl hg).same fun b hb => ?_
      obtain ⟨_, cur, hR⟩ := hI.new j b v hv hb
      exact hbW.block b hR.lt
    · by_cases hl0 : l = []
      · exact .inl ⟨hI.rest j v hv hg, hl0⟩
      · exact absurd (gone_all hl hl0) hg
  · refine hmk wf w2.heap.size ?_
    obtain ⟨es, c, h1, F, hs, hD⟩ := ho3
    exact ⟨es, c, (hbf.block _ (Array.getElem?_eq_some_iff.1 h1).1).trans h1, F, hs, hD⟩
  · have lw := hI.low.size
    rintro k (h | h | h | h | h | ⟨j, v, hv, hk⟩)
    · dsimp only at h; omega
    · dsimp only at h; omega
    · dsimp only at h; omega
    · dsimp only at h; omega
    · dsimp only at h; omega
    · exact hnewb j v k hv hk
  · exact Below.and hI.low hbW
end Go.Proofs.Ytgapncamnmngeaa
