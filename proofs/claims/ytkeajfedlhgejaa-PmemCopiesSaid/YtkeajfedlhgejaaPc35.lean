/- Texts of this claim, packed: PClone, PCopySt, PCopyFin. -/
import Derived.Test.YtkeajfedlhgejaaPc15
import Derived.Lib.SliceRun
import Derived.Shelf.SlMaps.Clone
/- slices.Clone of words, of stores, maps.Clone of marks: each answers a new one that reads the same; without conditions but on length. -/
namespace Go.Proofs.Ytkeajfedlhgejaa
open Go.RowKit Go.Shelf
set_option linter.unusedVariables false
def cloneMk_ren : Go.Shelf.Ren := ⟨fun | 5 => 51 | 7 => 66 | n => n, fun | 23 => 68 | 25 => 3 | 3 => 97 | 4 => 4 | 20 => 20 | n => n, fun | n => n⟩
theorem cloneMk : Go.Proofs.SlLaysW.n5 Try.prog cloneMk_ren := {
  mixed := by kernel_rfl
  f5 := ⟨Try.f51.name, by decide, Try.func51.trans (congrArg some (by kernel_rfl))⟩
  f7 := Try.func66.trans (congrArg some (by kernel_rfl))
  t4 := Try.underlying4
  a4 := Try.isAgg4
  z4 := Try.sizeOf4
  v4 := Try.zeroValue4
  t20 := Try.underlying20
  a20 := Try.isAgg20
  z20 := Try.sizeOf20
  v20 := Try.zeroValue20
  t23 := Try.underlying68
  a23 := Try.isAgg68
  z23 := Try.sizeOf68
  v23 := Try.zeroValue68 }
theorem cloneM_any {w : World} {mb n : Nat} {D : DataW Unit} (h : w.ownsMap Try.prog 3 mkR mb n D) :
    Calls Try.prog 51 #[.map (some mb)] w fun e w' => e = .returned (.map (some w.heap.size)) ∧ w'.ownsMap Try.prog 3 mkR w.heap.size n D ∧ w'.ownsMap Try.prog 3 mkR mb n D ∧ Below w.heap.size w w' :=
  AnyW.maps_Clone_owns cloneMk 3 mkR mb n D w h
set_option maxRecDepth 100000 in
set_option maxHeartbeats 1600000 in
theorem cloneW_any (l : List Nat) (g n cap B : Nat) (w : World) (hlen : l.length = n) (hl : n ≤ 131072) (h : w.ownsRow B 34 1 (.slice (some ⟨g, 0, none⟩) n cap) n (l.map wv)) :
    Calls Try.prog 50 #[.slice (some ⟨g, 0, none⟩) n cap] w fun e w' => (∃ v, e = .returned v ∧ w'.ownsRow w.heap.size 34 1 v n (l.map wv)) ∧ Below w.heap.size w w' := by
  obtain ⟨i0, hi, hz0, hz1, hz2⟩ := info_parts info34
  have q22 : ∀ (w : World) (a : Option Addr) (n c n' c' : Nat), (binOp .eql 66 (.slice a n c) (.slice none n' c')).run Try.prog w = .ok (.bool a.isNone) w := fun w a n c n' c' => Lib.run_eql_slice_nil w _ _ a n c n' c' Try.underlying66
  have hc : ∀ (o : Obj) (j : Nat) u, (l.map wv)[j]? = some u → (w.alloc o).cell? ((⟨g, 0, none⟩ : Addr).add j) = some u := by
    intro o j u hu
    exact (own_keep h (alloc_below w o)).cells rfl j u hu
  have HC := Lib.hid hc
  have HL := Lib.hid hl
  have HN := Lib.hid hlen
  clear hc h hl hlen
  go_enter Try.func50, Try.ntmps50
  go_wp2_with (at_builtin; refine wpList_append_own _ rfl _ _ 66 rfl w.heap.size 34 i0 (.int .u64 0) 1 8 Try.underlying66 hi hz0 hz1 hz2 rfl (by decide) _ _ _ rfl (World.ownsRow_made w #[] 0 (Nat.le_refl _) (Nat.zero_le _) rfl) ⟨g, 0, none⟩ n cap (l.map wv) rfl ?qc1 ?qc2 ?qc3 ?qc4 ?qc5 ?qc6 ?_)
  case qc1 => have := HN.out; simp; omega
  case qc2 => intro j u hj; exact HC.out _ j u hj
  case qc3 => exact wv_ones l
  case qc4 => have := HL.out; unfold maxLen; omega
  case qc5 => have := HL.out; omega
  case qc6 => simp
  intro v' w1 hown hgrow hnil
  go_wp2
  go_ret
  refine ⟨⟨v', rfl, by simpa using hown⟩, ?_⟩
  exact ((Below.refl _ w).alloc (Nat.le_refl _) _).grown hgrow (by simp) (by intro k hk; simp [Value.ownBlock] at hk; omega)
set_option maxRecDepth 100000 in
set_option maxHeartbeats 1600000 in
theorem cloneP_any {w : World} {v : Value} {l : List (Nat × Nat)} (h : Tail w v l) (h0 : l ≠ []) (hl : l.length ≤ 1000000000) :
    Calls Try.prog 49 #[v] w fun e w' => (∃ v', e = .returned v' ∧ Tail w' v' l ∧ (∀ k, v'.ownBlock = some k → w.heap.size ≤ k)) ∧ Below w.heap.size w w' := by
  rcases h with ⟨_, hn⟩ | ⟨g, off, cap, cur, rfl, hr, hp, hlc, hcm, hoc, hcur⟩
  · exact absurd hn h0
  obtain ⟨i0, hi, hz0, hz1, hz2⟩ := info_parts info47
  have q22 : ∀ (w : World) (a : Option Addr) (n c n' c' : Nat), (binOp .eql 41 (.slice a n c) (.slice none n' c')).run Try.prog w = .ok (.bool a.isNone) w := fun w a n c n' c' => Lib.run_eql_slice_nil w _ _ a n c n' c' Try.underlying41
  have hc : ∀ (o : Obj) (j : Nat) u, (flat l)[j]? = some u → (w.alloc o).cell? ((⟨g, off, none⟩ : Addr).add j) = some u := by
    intro o j u hu
    rw [Addr.add_lit, (hr.alloc o).cell, ← hu, ← hcur, ← Array.getElem?_toList]
    have hj : j < l.length * 2 := by
      have := (List.getElem?_eq_some_iff.1 hu).1
      rw [flat_length] at this
      omega
    rw [List.getElem?_take_of_lt hj, List.getElem?_drop]
  have HC := Lib.hid hc
  have HL := Lib.hid hl
  have HP := Lib.hid hp
  clear hc hl hr hcur hoc hcm hlc h0 hp
  obtain ⟨n, hn⟩ : ∃ n, n = l.length := ⟨_, rfl⟩
  rw [← hn] at HL HP ⊢
  have HN := Lib.hid hn
  clear hn
  go_enter Try.func49, Try.ntmps49
  go_wp2_with (at_builtin; refine wpList_append_own _ rfl _ _ 41 rfl w.heap.size 47 i0 (.agg #[.int .u64 0, .int .u64 0]) 2 16 Try.underlying41 hi hz0 hz1 hz2 rfl (by decide) _ _ _ rfl (World.ownsRow_made w #[] 0 (Nat.le_refl _) (Nat.zero_le _) rfl) ⟨g, off, none⟩ n cap (flat l) rfl ?qc1 ?qc2 ?qc3 ?qc4 ?qc5 ?qc6 ?_)
  case qc1 => rw [flat_length, HN.out]; omega
  case qc2 => intro j u hj; exact HC.out _ j u hj
  case qc3 => exact flat_ones l
  case qc4 => have := HL.out; unfold maxLen; omega
  case qc5 => have := HL.out; omega
  case qc6 => simp
  intro v' w1 hown hgrow hnil
  go_wp2
  go_ret
  refine ⟨⟨v', rfl, ?_, ?_⟩, ?_⟩
  · rcases hown.2 with ⟨_, h1⟩ | ⟨g', cap', cur', rfl, hb, hh, h2, h3, h4, h5⟩
    · have := HP.out
      omega
    · refine .inr ⟨g', 0, cap', cur', ?_, hh, ?_, ?_, h3, ?_, ?_⟩
      · rw [HN.out]
      · have := HP.out; have := HN.out; omega
      · have := HN.out; omega
      · omega
      · have := HN.out
        simpa [this] using h5
  · intro k hk
    exact (hown.lt k hk).1
  · exact ((Below.refl _ w).alloc (Nat.le_refl _) _).grown hgrow (by simp) (by intro k hk; simp [Value.ownBlock] at hk; omega)
end Go.Proofs.Ytkeajfedlhgejaa
/- The copy under way: what holds when k lines are copied; plain facts, without conditions but its own. -/
namespace Go.Proofs.Ytkeajfedlhgejaa
open Go.RowKit Go.Shelf
set_option linter.unusedVariables false
attribute [local go_sem] Oper.semAt_some
/-- The line j is among the first k with pending stores. -/
def Gone (p : List (List (Nat × Nat))) (k j : Nat) : Prop := ∃ (i : Nat) (q : Nat × Nat), i < k ∧ (nz p)[i]? = some q ∧ q.2 = j
/-- The copy under way: the first k lines that have pending stores are copied. -/
structure CpI (w W0 : World) (nl : Nat) (p : List (List (Nat × Nat))) (ps : List Value) (k : Nat) (W : World) : Prop where
  row : Row W (w.heap.size + 1) 41 ps.toArray
  len : ps.length = nl
  low : Below w.heap.size w W
  mid : ∀ q, q < W0.heap.size → q ≠ w.heap.size + 1 → W.heap[q]? = W0.heap[q]?
  size : W0.heap.size ≤ W.heap.size
  tails : ∀ (j : Nat) (v : Value) (l : List (Nat × Nat)), ps[j]? = some v → p[j]? = some l → Gone p k j → Tail W v l
  rest : ∀ (j : Nat) (v : Value), ps[j]? = some v → ¬ Gone p k j → v = .slice none 0 0
  new : ∀ (j g : Nat) (v : Value), ps[j]? = some v → v.ownBlock = some g → W0.heap.size ≤ g ∧ ∃ cur, Row W g 47 cur
  apart : ∀ (i j : Nat) (v u : Value) (g : Nat), i ≠ j → ps[i]? = some v → ps[j]? = some u → v.ownBlock = some g → u.ownBlock ≠ some g
theorem cpi_stay {w W0 : World} {nl : Nat} {p : List (List (Nat × Nat))} (hsz : w.heap.size + 2 ≤ W0.heap.size) (k : Nat) (W W' : World) (row : Option Nat) (h : ∃ ps, CpI w W0 nl p ps k W) (hg : W.grownBy W' row)
    (hr : ∀ r, row = some r → W0.heap.size ≤ r ∧ ∃ o : Obj, W.heap[r]? = some o ∧ o.isCells = false) : ∃ ps, CpI w W0 nl p ps k W' := by
  obtain ⟨ps, h⟩ := h
  have hne : ∀ g (cur : Array Value) (t : TypeId), Row W g t cur → some g ≠ row := by
    intro g cur t hR e
    obtain ⟨_, o, ho, hc⟩ := hr g e.symm
    have hR' : W.heap[g]? = some (.cells cur t (0, 0)) := hR
    rw [hR'] at ho
    cases ho
    cases hc
  refine ⟨ps, h.row.grown hg (hne _ _ _ h.row), h.len, h.low.trans ⟨hg.os, hg.tape, hg.output, hg.size, fun q hq => hg.block q (by have := h.low.size; omega) (fun e => by have := (hr _ e.symm).1; omega)⟩, ?_, Nat.le_trans h.size hg.size, ?_, h.rest, ?_, h.apart⟩
  · intro q hq hn
    rw [← h.mid q hq hn]
    exact hg.block q (Nat.lt_of_lt_of_le hq h.size) (fun e => by have := (hr _ e.symm).1; omega)
  · intro j v l hv hl hgn
    refine (h.tails j v l hv hl hgn).same fun b hb => ?_
    obtain ⟨_, cur, hR⟩ := h.new j b v hv hb
    exact hg.block b hR.lt (hne _ _ _ hR)
  · intro j g v hv hb
    obtain ⟨h1, cur, hR⟩ := h.new j g v hv hb
    exact ⟨h1, cur, hR.grown hg (hne _ _ _ hR)⟩
theorem cpi_next {w W0 W wy : World} {nl k : Nat} {p : List (List (Nat × Nat))} {ps : List Value} {x : Nat × Nat} {m : List (Nat × Nat)} {v : Value} (hsz : w.heap.size + 2 ≤ W0.heap.size) (h : CpI w W0 nl p ps k W) (hx : (nz p)[k]? = some x) (hp : p[x.2]? = some m) (hnl : x.2 < nl)
    (ht : Tail wy v m) (hnew : ∀ q, v.ownBlock = some q → W.heap.size ≤ q) (hb : Below W.heap.size W wy) :
    CpI w W0 nl p (ps.set x.2 v) (k + 1) (wy.setCell ⟨w.heap.size + 1, x.2, none⟩ v) := by
  have hs := h.size
  have hrl := h.row.lt
  have hgone : ∀ j, Gone p (k + 1) j ↔ Gone p k j ∨ j = x.2 := by
    intro j
    constructor
    · rintro ⟨i, q, hi, hq, rfl⟩
      rcases Nat.lt_or_ge i k with h1 | h1
      · exact .inl ⟨i, q, h1, hq, rfl⟩
      · obtain rfl : i = k := by omega
        rw [hx] at hq
        cases hq
        exact .inr rfl
    · rintro (⟨i, q, hi, hq, e⟩ | rfl)
      · exact ⟨i, q, by omega, hq, e⟩
      · exact ⟨k, x, by omega, hx, rfl⟩
  have hheap : ∀ q, q < W.heap.size → q ≠ w.heap.size + 1 → (wy.setCell ⟨w.heap.size + 1, x.2, none⟩ v).heap[q]? = W.heap[q]? := fun q hq hn => (heap_setCell_other _ _ _ _ hn).trans (hb.block q hq)
  have hvb : ∀ q, v.ownBlock = some q → (wy.setCell ⟨w.heap.size + 1, x.2, none⟩ v).heap[q]? = wy.heap[q]? := fun q hq => heap_setCell_other _ _ _ _ (by have := hnew q hq; show q ≠ w.heap.size + 1; omega)
  have hold : ∀ (j : Nat) (u : Value) (g : Nat), ps[j]? = some u → u.ownBlock = some g → W0.heap.size ≤ g ∧ g < W.heap.size := by
    intro j u g hu hg
    obtain ⟨h1, cur, hR⟩ := h.new j g u hu hg
    exact ⟨h1, hR.lt⟩
  have hset : ∀ (j : Nat) (u : Value), (ps.set x.2 v)[j]? = some u → (j = x.2 ∧ u = v) ∨ (j ≠ x.2 ∧ ps[j]? = some u) := by
    intro j u hu
    rw [List.getElem?_set] at hu
    by_cases e : x.2 = j
    · rw [if_pos e, if_pos (by rw [h.len]; exact hnl)] at hu
      cases hu
      exact .inl ⟨e.symm, rfl⟩
    · rw [if_neg e] at hu
      exact .inr ⟨fun e2 => e e2.symm, hu⟩
  refine ⟨?_, by rw [List.length_set]; exact h.len, ?_, ?_, ?_, ?_, ?_, ?_, ?_⟩
  · have := (h.row.below hb hrl).set x.2 v
    simpa using this
  · exact (h.low.trans (hb.mono h.low.size)).setCell (by show w.heap.size ≤ w.heap.size + 1; omega) _
  · intro q hq hn
    rw [← h.mid q hq hn]
    exact hheap q (by omega) hn
  · have := hb.size
    simp [World.setCell]
    omega
  · intro j u l hu hl hg
    rcases hset j u hu with ⟨rfl, rfl⟩ | ⟨hne, hu'⟩
    · rw [hp] at hl
      cases hl
      exact ht.same fun b hb' => hvb b hb'
    · have hg' : Gone p k j := by
        rcases (hgone j).1 hg with h1 | h1
        · exact h1
        · exact absurd h1 hne
      refine (h.tails j u l hu' hl hg').same fun b hb' => ?_
      have := hold j u b hu' hb'
      exact hheap b this.2 (by omega)
  · intro j u hu hg
    rcases hset j u hu with ⟨rfl, rfl⟩ | ⟨hne, hu'⟩
    · exact absurd ((hgone _).2 (.inr rfl)) hg
    · exact h.rest j u hu' fun h1 => hg ((hgone j).2 (.inl h1))
  · intro j g u hu hg
    rcases hset j u hu with ⟨rfl, rfl⟩ | ⟨hne, hu'⟩
    · have h1 := hnew g hg
      obtain ⟨cur, hR⟩ := ht.row hg
      exact ⟨by omega, cur, hR.same (hvb g hg)⟩
    · obtain ⟨h1, cur, hR⟩ := h.new j g u hu' hg
      have := hold j u g hu' hg
      exact ⟨h1, cur, hR.same (hheap g this.2 (by omega))⟩
  · intro i j a b g hij ha hb' hga hgb
    rcases hset i a ha with ⟨rfl, rfl⟩ | ⟨hne, ha'⟩
    · rcases hset j b hb' with ⟨rfl, _⟩ | ⟨_, hb''⟩
      · exact hij rfl
      · have h1 := hnew g hga
        have h2 := hold j b g hb'' hgb
        omega
    · rcases hset j b hb' with ⟨rfl, rfl⟩ | ⟨_, hb''⟩
      · have h1 := hnew g hgb
        have h2 := hold i a g ha' hga
        omega
      · exact h.apart i j a b g hij ha' hb'' hga hgb
end Go.Proofs.Ytkeajfedlhgejaa
/- The copy, done: its parts are a memory of the same state; plain facts, without conditions but on its parts. -/
namespace Go.Proofs.Ytkeajfedlhgejaa
open Go.RowKit Go.Shelf
set_option linter.unusedVariables false
theorem nzFrom_all : ∀ (p : List (List (Nat × Nat))) (i j0 j : Nat) (l : List (Nat × Nat)), p[j]? = some l → l ≠ [] → ∃ q ∈ nzFrom p i j0, q.2 = j0 + j
  | [], _, _, _, _, h, _ => by simp at h
  | a :: t, i, j0, 0, l, h, hl => by
    simp at h
    subst h
    unfold nzFrom
    rw [if_neg hl]
    exact ⟨(i, j0), List.mem_cons_self, rfl⟩
  | a :: t, i, j0, j + 1, l, h, hl => by
    have h' : t[j]? = some l := by simpa using h
    unfold nzFrom
    split
    · obtain ⟨q, hq, e⟩ := nzFrom_all t i (j0 + 1) j l h' hl
      exact ⟨q, hq, by omega⟩
    · obtain ⟨q, hq, e⟩ := nzFrom_all t (i + 1) (j0 + 1) j l h' hl
      exact ⟨q, List.mem_cons_of_mem _ hq, by omega⟩
theorem gone_all {p : List (List (Nat × Nat))} {j : Nat} {l : List (Nat × Nat)} (h : p[j]? = some l) (hl : l ≠ []) : Gone p (nz p).length j := by
  obtain ⟨q, hq, e⟩ := nzFrom_all p 0 0 j l h hl
  obtain ⟨i, hi, hqi⟩ := List.getElem_of_mem hq
  exact ⟨i, q, hi, by show (nzFrom p 0 0)[i]? = some q; rw [List.getElem?_eq_getElem hi, hqi], by omega⟩
theorem copy_mem {w W0 W w1 w2 wn wf : World} {y : Lay} {s : St} {ps : List Value} {g1 c1 g2 c2 : Nat} {Dm : DataW Unit} (hI : CpI w W0 s.nl s.pend ps (nz s.pend).length W) (hm : MemAt W y s) (hsz : w.heap.size + 2 ≤ W0.heap.size)
    (ho1 : w1.ownsRow W.heap.size 34 1 (.slice (some ⟨g1, 0, none⟩) (8 * s.nl) c1) (8 * s.nl) (s.lasted.map wv)) (hb1 : Below W.heap.size W w1)
    (ho2 : w2.ownsRow w1.heap.size 34 1 (.slice (some ⟨g2, 0, none⟩) (8 * s.nl) c2) (8 * s.nl) (s.view.map wv)) (hb2 : Below w1.heap.size w1 w2)
    (ho3 : wn.ownsMap Try.prog 3 mkR w2.heap.size (Maps.size Dm) Dm) (hb3 : Below w2.heap.size w2 wn)
    (hf : wf = wn.alloc (.cells #[.slice (some ⟨g1, 0, none⟩) (8 * s.nl) c1, .slice (some ⟨g2, 0, none⟩) (8 * s.nl) c2, .slice (some ⟨w.heap.size + 1, 0, none⟩) s.nl s.nl, .map (some w2.heap.size), wv s.ld, wv s.st, wv s.fl, wv s.fe] 70))
    (hmk : ∀ (Wx : World) (b : Nat), Wx.ownsMap Try.prog 3 mkR b (Maps.size Dm) Dm → MarksAt Wx b s.nl s.mm) :
    ∃ y' : Lay, y'.g = wn.heap.size ∧ MemAt wf y' s ∧ (∀ k, y'.fp k → w.heap.size ≤ k) ∧ Below w.heap.size w wf := by
  have hbf : Below wn.heap.size wn wf := by rw [hf]; exact alloc_below _ _
  have hbW : Below W.heap.size W wf := Below.and (Below.and (Below.and hb1 hb2) hb3) hbf
  have s0 := hI.size
  have s1 := hb1.size
  have s2 := hb2.size
  have s3 := hb3.size
  have hmost := hm.most
  have k1 : wf.ownsRow W.heap.size 34 1 (.slice (some ⟨g1, 0, none⟩) (8 * s.nl) c1) (8 * s.nl) (s.lasted.map wv) := own_keep ho1 (Below.and (Below.and hb2 hb3) hbf)
  have k2 : wf.ownsRow w1.heap.size 34 1 (.slice (some ⟨g2, 0, none⟩) (8 * s.nl) c2) (8 * s.nl) (s.view.map wv) := own_keep ho2 (Below.and hb3 hbf)
  have b1 := own_from k1 g1 rfl
  have b2 := own_from k2 g2 rfl
  have l1 := (ho1.lt g1 rfl).2
  have hrow : Row wf (w.heap.size + 1) 41 ps.toArray := hI.row.below hbW hI.row.lt
  have hnewb : ∀ (j : Nat) (v : Value) (g : Nat), ps[j]? = some v → v.ownBlock = some g → w.heap.size ≤ g := by
    intro j v g hv hg
    have := (hI.new j g v hv hg).1
    omega
  refine ⟨⟨wn.heap.size, g1, g2, w.heap.size + 1, w2.heap.size, c1, c2, s.nl, ps⟩, rfl, ⟨?_, own_mono k1 (Nat.zero_le _), own_mono k2 (Nat.zero_le _), ?_, ?_, hm.plen, ?_, hI.apart, ?_, hm.pos, hm.most⟩, ?_, ?_⟩
  · rw [hf]
    exact Row.new _ _ _
  · show g1 ≠ g2
    omega
  · exact ⟨by simp [hI.len], .inr ⟨_, s.nl, _, rfl, Nat.zero_le _, hrow, Nat.le_refl _, by unfold maxLen; omega, by simp [hI.len], by simp [← hI.len]⟩⟩
  · intro j hj v l hv hl
    by_cases hg : Gone s.pend (nz s.pend).length j
    · refine (hI.tails j v l hv hl hg).same fun b hb => ?_
      obtain ⟨_, cur, hR⟩ := hI.new j b v hv hb
      exact hbW.block b hR.lt
    · by_cases hl0 : l = []
      · exact .inl ⟨hI.rest j v hv hg, hl0⟩
      · exact absurd (gone_all hl hl0) hg
  · refine hmk wf w2.heap.size ?_
    obtain ⟨es, c, h1, F, hs, hD⟩ := ho3
    exact ⟨es, c, (hbf.block _ (Array.getElem?_eq_some_iff.1 h1).1).trans h1, F, hs, hD⟩
  · have lw := hI.low.size
    rintro k (h | h | h | h | h | ⟨j, v, hv, hk⟩)
    · dsimp only at h; omega
    · dsimp only at h; omega
    · dsimp only at h; omega
    · dsimp only at h; omega
    · dsimp only at h; omega
    · exact hnewb j v k hv hk
  · exact Below.and hI.low hbW
end Go.Proofs.Ytkeajfedlhgejaa
