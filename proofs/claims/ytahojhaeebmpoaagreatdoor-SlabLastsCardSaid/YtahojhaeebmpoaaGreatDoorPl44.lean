/- Texts of this claim, packed: PClone, PCopySt, PCopyFin, PCopy. -/
import Derived.Test.YtahojhaeebmpoaaGreatDoorPl23
import Derived.Lib.SliceRun
import Derived.Shelf.SlMaps.Clone
import Derived.Deep.RegionHeld3
/- slices.Clone of words, of stores, maps.Clone of marks: each answers a new one that reads the same; without conditions but on length. -/
namespace Go.Proofs.YtahojhaeebmpoaaGreatDoor
open Go.RowKit Go.Shelf
set_option linter.unusedVariables false
def cloneMk_ren : Go.Shelf.Ren := ⟨fun | 5 => 61 | 7 => 90 | n => n, fun | 23 => 112 | 25 => 3 | 3 => 127 | 4 => 4 | 20 => 20 | n => n, fun | n => n⟩
theorem cloneMk : Go.Proofs.SlLaysW.n5 Tryz.prog cloneMk_ren := {
  mixed := by kernel_rfl
  f5 := ⟨Tryz.f61.name, by decide, Tryz.func61.trans (congrArg some (by kernel_rfl))⟩
  f7 := Tryz.func90.trans (congrArg some (by kernel_rfl))
  t4 := Tryz.underlying4
  a4 := Tryz.isAgg4
  z4 := Tryz.sizeOf4
  v4 := Tryz.zeroValue4
  t20 := Tryz.underlying20
  a20 := Tryz.isAgg20
  z20 := Tryz.sizeOf20
  v20 := Tryz.zeroValue20
  t23 := Tryz.underlying112
  a23 := Tryz.isAgg112
  z23 := Tryz.sizeOf112
  v23 := Tryz.zeroValue112 }
theorem cloneM_any {w : World} {mb n : Nat} {D : DataW Unit} (h : w.ownsMap Tryz.prog 3 mkR mb n D) :
    Calls Tryz.prog 61 #[.map (some mb)] w fun e w' => e = .returned (.map (some w.heap.size)) ∧ w'.ownsMap Tryz.prog 3 mkR w.heap.size n D ∧ w'.ownsMap Tryz.prog 3 mkR mb n D ∧ Below w.heap.size w w' :=
  AnyW.maps_Clone_owns cloneMk 3 mkR mb n D w h
set_option maxRecDepth 100000 in
set_option maxHeartbeats 1600000 in
theorem cloneW_any (l : List Nat) (g n cap B : Nat) (w : World) (hlen : l.length = n) (hl : n ≤ 131072) (h : w.ownsRow B 23 1 (.slice (some ⟨g, 0, none⟩) n cap) n (l.map wv)) :
    Calls Tryz.prog 60 #[.slice (some ⟨g, 0, none⟩) n cap] w fun e w' => (∃ v, e = .returned v ∧ w'.ownsRow w.heap.size 23 1 v n (l.map wv)) ∧ Below w.heap.size w w' := by
  obtain ⟨i0, hi, hz0, hz1, hz2⟩ := info_parts info23
  have q22 : ∀ (w : World) (a : Option Addr) (n c n' c' : Nat), (binOp .eql 111 (.slice a n c) (.slice none n' c')).run Tryz.prog w = .ok (.bool a.isNone) w := fun w a n c n' c' => Lib.run_eql_slice_nil w _ _ a n c n' c' Tryz.underlying111
  have hc : ∀ (o : Obj) (j : Nat) u, (l.map wv)[j]? = some u → (w.alloc o).cell? ((⟨g, 0, none⟩ : Addr).add j) = some u := by
    intro o j u hu
    exact (own_keep h (alloc_below w o)).cells rfl j u hu
  have HC := Lib.hid hc
  have HL := Lib.hid hl
  have HN := Lib.hid hlen
  clear hc h hl hlen
  go_enter Tryz.func60, Tryz.ntmps60
  go_wp2_with (at_builtin; refine wpList_append_own _ rfl _ _ 111 rfl w.heap.size 23 i0 (.int .u64 0) 1 8 Tryz.underlying111 hi hz0 hz1 hz2 rfl (by decide) _ _ _ rfl (World.ownsRow_made w #[] 0 (Nat.le_refl _) (Nat.zero_le _) rfl) ⟨g, 0, none⟩ n cap (l.map wv) rfl ?qc1 ?qc2 ?qc3 ?qc4 ?qc5 ?qc6 ?_)
  case qc1 => have := HN.out; simp; omega
  case qc2 => intro j u hj; exact HC.out _ j u hj
  case qc3 => exact wv_ones l
  case qc4 => have := HL.out; unfold maxLen; omega
  case qc5 => have := HL.out; omega
  case qc6 => simp
  intro v' w1 hown hgrow hnil
  go_wp2
  go_ret
  refine ⟨⟨v', rfl, by simpa using hown⟩, ?_⟩
  exact ((Below.refl _ w).alloc (Nat.le_refl _) _).grown hgrow (by simp) (by intro k hk; simp [Value.ownBlock] at hk; omega)
set_option maxRecDepth 100000 in
set_option maxHeartbeats 1600000 in
theorem cloneP_any {w : World} {v : Value} {l : List (Nat × Nat)} (h : Tail w v l) (h0 : l ≠ []) (hl : l.length ≤ 1000000000) :
    Calls Tryz.prog 59 #[v] w fun e w' => (∃ v', e = .returned v' ∧ Tail w' v' l ∧ (∀ k, v'.ownBlock = some k → w.heap.size ≤ k)) ∧ Below w.heap.size w w' := by
  rcases h with ⟨_, hn⟩ | ⟨g, off, cap, cur, rfl, hr, hp, hlc, hcm, hoc, hcur⟩
  · exact absurd hn h0
  obtain ⟨i0, hi, hz0, hz1, hz2⟩ := info_parts info123
  have q22 : ∀ (w : World) (a : Option Addr) (n c n' c' : Nat), (binOp .eql 120 (.slice a n c) (.slice none n' c')).run Tryz.prog w = .ok (.bool a.isNone) w := fun w a n c n' c' => Lib.run_eql_slice_nil w _ _ a n c n' c' Tryz.underlying120
  have hc : ∀ (o : Obj) (j : Nat) u, (flat l)[j]? = some u → (w.alloc o).cell? ((⟨g, off, none⟩ : Addr).add j) = some u := by
    intro o j u hu
    rw [Addr.add_lit, (hr.alloc o).cell, ← hu, ← hcur, ← Array.getElem?_toList]
    have hj : j < l.length * 2 := by
      have := (List.getElem?_eq_some_iff.1 hu).1
      rw [flat_length] at this
      omega
    rw [List.getElem?_take_of_lt hj, List.getElem?_drop]
  have HC := Lib.hid hc
  have HL := Lib.hid hl
  have HP := Lib.hid hp
  clear hc hl hr hcur hoc hcm hlc h0 hp
  obtain ⟨n, hn⟩ : ∃ n, n = l.length := ⟨_, rfl⟩
  rw [← hn] at HL HP ⊢
  have HN := Lib.hid hn
  clear hn
  go_enter Tryz.func59, Tryz.ntmps59
  go_wp2_with (at_builtin; refine wpList_append_own _ rfl _ _ 120 rfl w.heap.size 123 i0 (.agg #[.int .u64 0, .int .u64 0]) 2 16 Tryz.underlying120 hi hz0 hz1 hz2 rfl (by decide) _ _ _ rfl (World.ownsRow_made w #[] 0 (Nat.le_refl _) (Nat.zero_le _) rfl) ⟨g, off, none⟩ n cap (flat l) rfl ?qc1 ?qc2 ?qc3 ?qc4 ?qc5 ?qc6 ?_)
  case qc1 => rw [flat_length, HN.out]; omega
  case qc2 => intro j u hj; exact HC.out _ j u hj
  case qc3 => exact flat_ones l
  case qc4 => have := HL.out; unfold maxLen; omega
  case qc5 => have := HL.out; omega
  case qc6 => simp
  intro v' w1 hown hgrow hnil
  go_wp2
  go_ret
  refine ⟨⟨v', rfl, ?_, ?_⟩, ?_⟩
  · rcases hown.2 with ⟨_, h1⟩ | ⟨g', cap', cur', rfl, hb, hh, h2, h3, h4, h5⟩
    · have := HP.out
      omega
    · refine .inr ⟨g', 0, cap', cur', ?_, hh, ?_, ?_, h3, ?_, ?_⟩
      · rw [HN.out]
      · have := HP.out; have := HN.out; omega
      · have := HN.out; omega
      · omega
      · have := HN.out
        simpa [this] using h5
  · intro k hk
    exact (hown.lt k hk).1
  · exact ((Below.refl _ w).alloc (Nat.le_refl _) _).grown hgrow (by simp) (by intro k hk; simp [Value.ownBlock] at hk; omega)
end Go.Proofs.YtahojhaeebmpoaaGreatDoor
/- The copy under way: what holds when k lines are copied; plain facts, without conditions but its own. -/
namespace Go.Proofs.YtahojhaeebmpoaaGreatDoor
open Go.RowKit Go.Shelf
set_option linter.unusedVariables false
attribute [local go_sem] Oper.semAt_some
def Gone (p : List (List (Nat × Nat))) (k j : Nat) : Prop := ∃ (i : Nat) (q : Nat × Nat), i < k ∧ (nz p)[i]? = some q ∧ q.2 = j
structure CpI (w W0 : World) (nl : Nat) (p : List (List (Nat × Nat))) (ps : List Value) (k : Nat) (W : World) : Prop where
  row : Row W (w.heap.size + 1) 120 ps.toArray
  len : ps.length = nl
  low : Below w.heap.size w W
  mid : ∀ q, q < W0.heap.size → q ≠ w.heap.size + 1 → W.heap[q]? = W0.heap[q]?
  size : W0.heap.size ≤ W.heap.size
  tails : ∀ (j : Nat) (v : Value) (l : List (Nat × Nat)), ps[j]? = some v → p[j]? = some l → Gone p k j → Tail W v l
  rest : ∀ (j : Nat) (v : Value), ps[j]? = some v → ¬ Gone p k j → v = .slice none 0 0
  new : ∀ (j g : Nat) (v : Value), ps[j]? = some v → v.ownBlock = some g → W0.heap.size ≤ g ∧ ∃ cur, Row W g 123 cur
  apart : ∀ (i j : Nat) (v u : Value) (g : Nat), i ≠ j → ps[i]? = some v → ps[j]? = some u → v.ownBlock = some g → u.ownBlock ≠ some g
theorem cpi_stay {w W0 : World} {nl : Nat} {p : List (List (Nat × Nat))} (hsz : w.heap.size + 2 ≤ W0.heap.size) (k : Nat) (W W' : World) (row : Option Nat) (h : ∃ ps, CpI w W0 nl p ps k W) (hg : W.grownBy W' row)
    (hr : ∀ r, row = some r → W0.heap.size ≤ r ∧ ∃ o : Obj, W.heap[r]? = some o ∧ o.isCells = false) : ∃ ps, CpI w W0 nl p ps k W' := by
  obtain ⟨ps, h⟩ := h
  have hne : ∀ g (cur : Array Value) (t : TypeId), Row W g t cur → some g ≠ row := by
    intro g cur t hR e
    obtain ⟨_, o, ho, hc⟩ := hr g e.symm
    have hR' : W.heap[g]? = some (.cells cur t (0, 0)) := hR
    rw [hR'] at ho
    cases ho
    cases hc
  refine ⟨ps, h.row.grown hg (hne _ _ _ h.row), h.len, h.low.trans ⟨hg.os, hg.tape, hg.output, hg.size, fun q hq => hg.block q (by have := h.low.size; omega) (fun e => by have := (hr _ e.symm).1; omega)⟩, ?_, Nat.le_trans h.size hg.size, ?_, h.rest, ?_, h.apart⟩
  · intro q hq hn
    rw [← h.mid q hq hn]
    exact hg.block q (Nat.lt_of_lt_of_le hq h.size) (fun e => by have := (hr _ e.symm).1; omega)
  · intro j v l hv hl hgn
    refine (h.tails j v l hv hl hgn).same fun b hb => ?_
    obtain ⟨_, cur, hR⟩ := h.new j b v hv hb
    exact hg.block b hR.lt (hne _ _ _ hR)
  · intro j g v hv hb
    obtain ⟨h1, cur, hR⟩ := h.new j g v hv hb
    exact ⟨h1, cur, hR.grown hg (hne _ _ _ hR)⟩
theorem cpi_next {w W0 W wy : World} {nl k : Nat} {p : List (List (Nat × Nat))} {ps : List Value} {x : Nat × Nat} {m : List (Nat × Nat)} {v : Value} (hsz : w.heap.size + 2 ≤ W0.heap.size) (h : CpI w W0 nl p ps k W) (hx : (nz p)[k]? = some x) (hp : p[x.2]? = some m) (hnl : x.2 < nl)
    (ht : Tail wy v m) (hnew : ∀ q, v.ownBlock = some q → W.heap.size ≤ q) (hb : Below W.heap.size W wy) :
    CpI w W0 nl p (ps.set x.2 v) (k + 1) (wy.setCell ⟨w.heap.size + 1, x.2, none⟩ v) := by
  have hs := h.size
  have hrl := h.row.lt
  have hgone : ∀ j, Gone p (k + 1) j ↔ Gone p k j ∨ j = x.2 := by
    intro j
    constructor
    · rintro ⟨i, q, hi, hq, rfl⟩
      rcases Nat.lt_or_ge i k with h1 | h1
      · exact .inl ⟨i, q, h1, hq, rfl⟩
      · obtain rfl : i = k := by omega
        rw [hx] at hq
        cases hq
        exact .inr rfl
    · rintro (⟨i, q, hi, hq, e⟩ | rfl)
      · exact ⟨i, q, by omega, hq, e⟩
      · exact ⟨k, x, by omega, hx, rfl⟩
  have hheap : ∀ q, q < W.heap.size → q ≠ w.heap.size + 1 → (wy.setCell ⟨w.heap.size + 1, x.2, none⟩ v).heap[q]? = W.heap[q]? := fun q hq hn => (heap_setCell_other _ _ _ _ hn).trans (hb.block q hq)
  have hvb : ∀ q, v.ownBlock = some q → (wy.setCell ⟨w.heap.size + 1, x.2, none⟩ v).heap[q]? = wy.heap[q]? := fun q hq => heap_setCell_other _ _ _ _ (by have := hnew q hq; show q ≠ w.heap.size + 1; omega)
  have hold : ∀ (j : Nat) (u : Value) (g : Nat), ps[j]? = some u → u.ownBlock = some g → W0.heap.size ≤ g ∧ g < W.heap.size := by
    intro j u g hu hg
    obtain ⟨h1, cur, hR⟩ := h.new j g u hu hg
    exact ⟨h1, hR.lt⟩
  have hset : ∀ (j : Nat) (u : Value), (ps.set x.2 v)[j]? = some u → (j = x.2 ∧ u = v) ∨ (j ≠ x.2 ∧ ps[j]? = some u) := by
    intro j u hu
    rw [List.getElem?_set] at hu
    by_cases e : x.2 = j
    · rw [if_pos e, if_pos (by rw [h.len]; exact hnl)] at hu
      cases hu
      exact .inl ⟨e.symm, rfl⟩
    · rw [if_neg e] at hu
      exact .inr ⟨fun e2 => e e2.symm, hu⟩
  refine ⟨?_, by rw [List.length_set]; exact h.len, ?_, ?_, ?_, ?_, ?_, ?_, ?_⟩
  · have := (h.row.below hb hrl).set x.2 v
    simpa using this
  · exact (h.low.trans (hb.mono h.low.size)).setCell (by show w.heap.size ≤ w.heap.size + 1; omega) _
  · intro q hq hn
    rw [← h.mid q hq hn]
    exact hheap q (by omega) hn
  · have := hb.size
    simp [World.setCell]
    omega
  · intro j u l hu hl hg
    rcases hset j u hu with ⟨rfl, rfl⟩ | ⟨hne, hu'⟩
    · rw [hp] at hl
      cases hl
      exact ht.same fun b hb' => hvb b hb'
    · have hg' : Gone p k j := by
        rcases (hgone j).1 hg with h1 | h1
        · exact h1
        · exact absurd h1 hne
      refine (h.tails j u l hu' hl hg').same fun b hb' => ?_
      have := hold j u b hu' hb'
      exact hheap b this.2 (by omega)
  · intro j u hu hg
    rcases hset j u hu with ⟨rfl, rfl⟩ | ⟨hne, hu'⟩
    · exact absurd ((hgone _).2 (.inr rfl)) hg
    · exact h.rest j u hu' fun h1 => hg ((hgone j).2 (.inl h1))
  · intro j g u hu hg
    rcases hset j u hu with ⟨rfl, rfl⟩ | ⟨hne, hu'⟩
    · have h1 := hnew g hg
      obtain ⟨cur, hR⟩ := ht.row hg
      exact ⟨by omega, cur, hR.same (hvb g hg)⟩
    · obtain ⟨h1, cur, hR⟩ := h.new j g u hu' hg
      have := hold j u g hu' hg
      exact ⟨h1, cur, hR.same (hheap g this.2 (by omega))⟩
  · intro i j a b g hij ha hb' hga hgb
    rcases hset i a ha with ⟨rfl, rfl⟩ | ⟨hne, ha'⟩
    · rcases hset j b hb' with ⟨rfl, _⟩ | ⟨_, hb''⟩
      · exact hij rfl
      · have h1 := hnew g hga
        have h2 := hold j b g hb'' hgb
        omega
    · rcases hset j b hb' with ⟨rfl, rfl⟩ | ⟨_, hb''⟩
      · have h1 := hnew g hgb
        have h2 := hold i a g ha' hga
        omega
      · exact h.apart i j a b g hij ha' hb'' hga hgb
end Go.Proofs.YtahojhaeebmpoaaGreatDoor
/- The copy, done: its parts are a memory of the same state; plain facts, without conditions but on its parts. -/
namespace Go.Proofs.YtahojhaeebmpoaaGreatDoor
open Go.RowKit Go.Shelf
set_option linter.unusedVariables false
theorem nzFrom_all : ∀ (p : List (List (Nat × Nat))) (i j0 j : Nat) (l : List (Nat × Nat)), p[j]? = some l → l ≠ [] → ∃ q ∈ nzFrom p i j0, q.2 = j0 + j
  | [], _, _, _, _, h, _ => by simp at h
  | a :: t, i, j0, 0, l, h, hl => by
    simp at h
    subst h
    unfold nzFrom
    rw [if_neg hl]
    exact ⟨(i, j0), List.mem_cons_self, rfl⟩
  | a :: t, i, j0, j + 1, l, h, hl => by
    have h' : t[j]? = some l := by simpa using h
    unfold nzFrom
    split
    · obtain ⟨q, hq, e⟩ := nzFrom_all t i (j0 + 1) j l h' hl
      exact ⟨q, hq, by omega⟩
    · obtain ⟨q, hq, e⟩ := nzFrom_all t (i + 1) (j0 + 1) j l h' hl
      exact ⟨q, List.mem_cons_of_mem _ hq, by omega⟩
theorem gone_all {p : List (List (Nat × Nat))} {j : Nat} {l : List (Nat × Nat)} (h : p[j]? = some l) (hl : l ≠ []) : Gone p (nz p).length j := by
  obtain ⟨q, hq, e⟩ := nzFrom_all p 0 0 j l h hl
  obtain ⟨i, hi, hqi⟩ := List.getElem_of_mem hq
  exact ⟨i, q, hi, by show (nzFrom p 0 0)[i]? = some q; rw [List.getElem?_eq_getElem hi, hqi], by omega⟩
theorem copy_mem {w W0 W w1 w2 wn wf : World} {y : Lay} {s : St} {ps : List Value} {g1 c1 g2 c2 : Nat} {Dm : DataW Unit} (hI : CpI w W0 s.nl s.pend ps (nz s.pend).length W) (hm : MemAt W y s) (hsz : w.heap.size + 2 ≤ W0.heap.size)
    (ho1 : w1.ownsRow W.heap.size 23 1 (.slice (some ⟨g1, 0, none⟩) (8 * s.nl) c1) (8 * s.nl) (s.lasted.map wv)) (hb1 : Below W.heap.size W w1)
    (ho2 : w2.ownsRow w1.heap.size 23 1 (.slice (some ⟨g2, 0, none⟩) (8 * s.nl) c2) (8 * s.nl) (s.view.map wv)) (hb2 : Below w1.heap.size w1 w2)
    (ho3 : wn.ownsMap Tryz.prog 3 mkR w2.heap.size (Maps.size Dm) Dm) (hb3 : Below w2.heap.size w2 wn)
    (hf : wf = wn.alloc (.cells #[.slice (some ⟨g1, 0, none⟩) (8 * s.nl) c1, .slice (some ⟨g2, 0, none⟩) (8 * s.nl) c2, .slice (some ⟨w.heap.size + 1, 0, none⟩) s.nl s.nl, .map (some w2.heap.size), wv s.ld, wv s.st, wv s.fl, wv s.fe] 116))
    (hmk : ∀ (Wx : World) (b : Nat), Wx.ownsMap Tryz.prog 3 mkR b (Maps.size Dm) Dm → MarksAt Wx b s.nl s.mm) :
    ∃ y' : Lay, y'.g = wn.heap.size ∧ MemAt wf y' s ∧ (∀ k, y'.fp k → w.heap.size ≤ k) ∧ Below w.heap.size w wf := by
  have hbf : Below wn.heap.size wn wf := by rw [hf]; exact alloc_below _ _
  have hbW : Below W.heap.size W wf := Below.and (Below.and (Below.and hb1 hb2) hb3) hbf
  have s0 := hI.size
  have s1 := hb1.size
  have s2 := hb2.size
  have s3 := hb3.size
  have hmost := hm.most
  have k1 : wf.ownsRow W.heap.size 23 1 (.slice (some ⟨g1, 0, none⟩) (8 * s.nl) c1) (8 * s.nl) (s.lasted.map wv) := own_keep ho1 (Below.and (Below.and hb2 hb3) hbf)
  have k2 : wf.ownsRow w1.heap.size 23 1 (.slice (some ⟨g2, 0, none⟩) (8 * s.nl) c2) (8 * s.nl) (s.view.map wv) := own_keep ho2 (Below.and hb3 hbf)
  have b1 := own_from k1 g1 rfl
  have b2 := own_from k2 g2 rfl
  have l1 := (ho1.lt g1 rfl).2
  have hrow : Row wf (w.heap.size + 1) 120 ps.toArray := hI.row.below hbW hI.row.lt
  have hnewb : ∀ (j : Nat) (v : Value) (g : Nat), ps[j]? = some v → v.ownBlock = some g → w.heap.size ≤ g := by
    intro j v g hv hg
    have := (hI.new j g v hv hg).1
    omega
  refine ⟨⟨wn.heap.size, g1, g2, w.heap.size + 1, w2.heap.size, c1, c2, s.nl, ps⟩, rfl, ⟨?_, own_mono k1 (Nat.zero_le _), own_mono k2 (Nat.zero_le _), ?_, ?_, hm.plen, ?_, hI.apart, ?_, hm.pos, hm.most⟩, ?_, ?_⟩
  · rw [hf]
    exact Row.new _ _ _
  · show g1 ≠ g2
    omega
  · exact ⟨by simp [hI.len], .inr ⟨_, s.nl, _, rfl, Nat.zero_le _, hrow, Nat.le_refl _, by unfold maxLen; omega, by simp [hI.len], by simp [← hI.len]⟩⟩
  · intro j hj v l hv hl
    by_cases hg : Gone s.pend (nz s.pend).length j
    · refine (hI.tails j v l hv hl hg).same fun b hb => ?_
      obtain ⟨_, cur, hR⟩ := hI.new j b v hv hb
      exact hbW.block b hR.lt
    · by_cases hl0 : l = []
      · exact .inl ⟨hI.rest j v hv hg, hl0⟩
      · exact absurd (gone_all hl hl0) hg
  · refine hmk wf w2.heap.size ?_
    obtain ⟨es, c, h1, F, hs, hD⟩ := ho3
    exact ⟨es, c, (hbf.block _ (Array.getElem?_eq_some_iff.1 h1).1).trans h1, F, hs, hD⟩
  · have lw := hI.low.size
    rintro k (h | h | h | h | h | ⟨j, v, hv, hk⟩)
    · dsimp only at h; omega
    · dsimp only at h; omega
    · dsimp only at h; omega
    · dsimp only at h; omega
    · dsimp only at h; omega
    · exact hnewb j v k hv hk
  · exact Below.and hI.low hbW
end Go.Proofs.YtahojhaeebmpoaaGreatDoor
/- Copy of a memory that is there: a new one of the same state, in new blocks; for states that a memory can have. -/
namespace Go.Proofs.YtahojhaeebmpoaaGreatDoor
open Go.RowKit Go.Shelf
set_option linter.unusedVariables false
attribute [local go_sem] Oper.semAt_some
abbrev CpS (w W : World) (y : Lay) (s : St) (W' : World) : Prop := W'.cell? ⟨w.heap.size, 0, none⟩ = some (.pointer (some ⟨y.g, 0, none⟩)) ∧ W'.cell? ⟨w.heap.size + 1 + 1, 0, none⟩ = some (.slice (some ⟨w.heap.size + 1, 0, none⟩) s.nl s.nl) ∧ W'.cell? ⟨y.g, 0, none⟩ = some (.slice (some ⟨y.gl, 0, none⟩) (8 * s.nl) y.cl) ∧ W'.cell? ⟨y.g, 1, none⟩ = some (.slice (some ⟨y.gv, 0, none⟩) (8 * s.nl) y.cv) ∧ W'.cell? ⟨y.g, 3, none⟩ = some (.map (some y.mb)) ∧ W'.cell? ⟨y.g, 4, none⟩ = some (.int .u64 (s.ld : Int)) ∧ W'.cell? ⟨y.g, 5, none⟩ = some (.int .u64 (s.st : Int)) ∧ W'.cell? ⟨y.g, 6, none⟩ = some (.int .u64 (s.fl : Int)) ∧ W'.cell? ⟨y.g, 7, none⟩ = some (.int .u64 (s.fe : Int)) ∧ Below W.heap.size W W'
theorem CpS.low {w W : World} {y : Lay} {s : St} {W' : World} (h : CpS w W y s W') : Below W.heap.size W W' := h.2.2.2.2.2.2.2.2.2
theorem own_map_below {w w' : World} {b n : Nat} {D : DataW Unit} (h : w.ownsMap Tryz.prog 3 mkR b n D) (hb : Below w.heap.size w w') : w'.ownsMap Tryz.prog 3 mkR b n D := by
  have hl := h.lt
  obtain ⟨es, c, h1, F, hs, hD⟩ := h
  exact ⟨es, c, (hb.block b hl).trans h1, F, hs, hD⟩
set_option maxRecDepth 100000 in
set_option maxHeartbeats 3200000 in
theorem copy_yes {w : World} {y : Lay} {s : St} (h : MemAt w y s) (ok : s.Ok) :
    Calls Tryz.prog 19 #[.pointer (some ⟨y.g, 0, none⟩)] w fun e w' => ∃ y' : Lay, e = .returned (.pointer (some ⟨y'.g, 0, none⟩)) ∧ MemAt w' y' s ∧ (∀ k, y'.fp k → w.heap.size ≤ k) ∧ Below w.heap.size w w' := by
  refine (callsIn_wide (n := 6)).1 ?_
  refine callsIn_of_wp_marks Tryz.func19 rfl trivial ?_ rfl
  obtain ⟨j0, hj, hy0, hy1, hy2⟩ := info_parts info120
  have hmost := h.most
  have hm2 := fun W : World => run_make (P := Tryz.prog) W 110 120 j0 _ Tryz.underlying110 hj hy0 .i64 .i64 ((s.nl : Nat) : Int) ((s.nl : Nat) : Int) (by omega) (by omega) (by rw [hy2]; omega) (by omega)
  simp only [Int.toNat_natCast, hy1] at hm2
  simp only [Tryz.ntmps19, List.size_toArray, List.length_cons, List.length_nil, Nat.reduceAdd, Nat.reduceSub, Array.replicate_succ, Array.replicate_zero, List.push_toArray, List.append_toArray, List.nil_append, List.cons_append]
  have HN := Lib.hid fun W (hb : Below w.heap.size w W) => none_yes (h.below hb)
  have c2 := fun W (hb : Below w.heap.size w W) => ((h.below hb).row.cell 2)
  simp only [List.getElem?_toArray, List.getElem?_cons_succ, List.getElem?_cons_zero] at c2
  have C2 := Lib.hid c2
  have c2a := C2.out _ (alloc_below w (.cells #[.pointer (some ⟨y.g, 0, none⟩)] 48))
  have HM := Lib.hid h
  clear c2 h
  gi_wp2_with (refine ⟨trivial, ?_⟩; first | (gi_at_call 57; refine (callsIn_wide.2 (HN.out _ (alloc_below _ _))).mono ?_; rintro e w' ⟨rfl, rfl⟩) | (gi_at_call 58; refine (callsIn_wide.2 (lines_any _ _)).mono ?_; rintro e w' ⟨rfl, rfl⟩))
  obtain ⟨W0, hW0⟩ : ∃ W0, W0 = ((((w.alloc (.cells #[.pointer (some ⟨y.g, 0, none⟩)] 48)).alloc (.cells (madeCells #[.slice none 0 0] s.nl) 120)).alloc (.cells #[.slice (some ⟨w.heap.size + 1, 0, none⟩) s.nl s.nl] 110)).alloc (.cells #[.pointer (some ⟨y.g, 0, none⟩)] 48)) := ⟨_, rfl⟩
  rw [← hW0]
  have hb0 : Below w.heap.size w W0 := by
    rw [hW0]
    exact Below.and (Below.and (Below.and (alloc_below _ _) (alloc_below _ _)) (alloc_below _ _)) (alloc_below _ _)
  have hsz : W0.heap.size = w.heap.size + 4 := by rw [hW0]; simp
  have r1 : Row W0 w.heap.size 48 #[.pointer (some ⟨y.g, 0, none⟩)] := by
    rw [hW0]
    exact (((Row.new _ _ _).alloc _).alloc _).alloc _
  have r2 : Row W0 (w.heap.size + 1) 120 (madeCells #[.slice none 0 0] s.nl) := by
    rw [hW0]
    exact ((row_at (by simp)).alloc _).alloc _
  have r3 : Row W0 (w.heap.size + 2) 110 #[.slice (some ⟨w.heap.size + 1, 0, none⟩) s.nl s.nl] := by
    rw [hW0]
    exact (row_at (by simp)).alloc _
  have r4 : Row W0 (w.heap.size + 3) 48 #[.pointer (some ⟨y.g, 0, none⟩)] := by
    rw [hW0]
    exact row_at (by simp)
  rw [madeCells_one] at r2
  have hm0 := HM.out.below hb0
  have hplen := HM.out.plen
  have hstart : CpI w W0 s.nl s.pend (List.replicate s.nl (.slice none 0 0)) 0 W0 := by
    refine ⟨r2, by simp, hb0, fun _ _ _ => rfl, Nat.le_refl _, ?_, ?_, ?_, ?_⟩
    · rintro j v l _ _ ⟨i, q, hi, _⟩
      omega
    · intro j v hv _
      exact List.eq_of_mem_replicate (List.mem_of_getElem? hv)
    · intro j g v hv hg
      rw [List.eq_of_mem_replicate (List.mem_of_getElem? hv)] at hg
      cases hg
    · intro i j v u g _ hv _ hg
      rw [List.eq_of_mem_replicate (List.mem_of_getElem? hv)] at hg
      cases hg
  have HB0 := Lib.hid hb0
  have HSZ := Lib.hid hsz
  have R1 := Lib.hid r1
  have R3 := Lib.hid r3
  have HOK := Lib.hid ok
  have h4 : w.heap.size + 2 ≤ W0.heap.size := by omega
  have H4 := Lib.hid h4
  clear hW0 hm2 c2a hb0 r1 r2 r3 ok hy0 hy1 hy2 hj
  refine range_all rfl (by omega) (gf := 89) (lb := #[.pointer (some ⟨w.heap.size + 1 + 1 + 1, 0, none⟩)]) rfl trivial (enters_of Tryz.func89 (by kernel_rfl) rfl) (nz s.pend) (encs := encN) (fun _ => rfl) (fun k W => ∃ ps, CpI w W0 s.nl s.pend ps k W)
    (cpi_stay h4) ⟨_, hstart⟩ (iter_tells hm0 (w.heap.size + 1 + 1 + 1) _ (r4.cell 0) ?reads)
    (fun x => { tmps := #[.pointer (some ⟨y.g, 0, none⟩), .pointer (some ⟨w.heap.size, 0, none⟩), .pointer none, .pointer (some ⟨w.heap.size + 1 + 1, 0, none⟩), undef, .int .i64 (x.2 : Int), .pointer (some ⟨y.g, 0, none⟩), .bool false, .pointer (some ⟨y.g, 0, none⟩), .pointer (some ⟨y.g, 0, none⟩), .pointer (some ⟨y.g, 2, none⟩), .slice (some ⟨y.gp, 0, none⟩) s.nl y.cp, .int .i64 (s.nl : Int), .slice (some ⟨w.heap.size + 1, 0, none⟩) s.nl s.nl, .pointer (some ⟨y.g, 0, none⟩), .func (.func 89) #[] #[.pointer (some ⟨w.heap.size + 1 + 1 + 1, 0, none⟩)], .int .i64 (x.1 : Int), .int .i64 (x.2 : Int), undef, undef, undef, undef, undef, undef, undef, undef, undef, undef, undef, undef, undef, undef, undef, undef, undef, undef, undef, undef, undef, undef, undef, undef, undef, undef, undef, undef, undef, undef, undef, undef, undef], defers := [] }) ?assign ?body ?done
  case reads =>
    rintro k W ⟨ps, hI⟩ j u hj hq hv
    rw [(HM.out.below hI.low).pen.cellAt j (by omega)]
    exact hv
  case assign =>
    intro l x W K hK
    dsimp only [encN]
    gi_wp2
    exact hK
  case body =>
    rintro l k x W hx ⟨ps, hI⟩
    have hxb := nzFrom_bound _ _ _ x (List.mem_of_getElem? hx)
    obtain ⟨hx1, m, hmj, hmne⟩ := nzFrom_at _ _ _ k x hx
    rw [Nat.sub_zero] at hmj
    have hmW := HM.out.below hI.low
    obtain ⟨V, m', hV, hm', htl⟩ := ps_get hmW (j := x.2) (by omega)
    rw [hmj] at hm'
    cases hm'
    have hml := HOK.out.few m (List.mem_of_getElem? hmj)
    have HCL := Lib.hid fun W' (hb : Below W.heap.size W W') => cloneP_any (htl.same (w' := W') fun q hq => hb.block q (by obtain ⟨cur, hR⟩ := htl.row hq; exact hR.lt)) hmne hml
    obtain ⟨AV, capV, rfl, hcV⟩ := htl.len
    have rb1 : Row W w.heap.size 48 #[.pointer (some ⟨y.g, 0, none⟩)] := R1.out.same (hI.mid _ (by omega) (by omega))
    have rb3 : Row W (w.heap.size + 2) 110 #[.slice (some ⟨w.heap.size + 1, 0, none⟩) s.nl s.nl] := R3.out.same (hI.mid _ (by omega) (by omega))
    have b1 := rb1.cell 0
    have b3 := rb3.cell 0
    have b2 := hmW.row.cell 2
    simp only [List.getElem?_toArray, List.getElem?_cons_succ, List.getElem?_cons_zero] at b1 b2 b3
    have b4 : W.cell? ⟨y.gp, x.2, none⟩ = some (.slice AV m.length capV) := by rw [hmW.pen.cellAt x.2 (by omega), hV]
    have B3 := Lib.hid fun W' (hb : Below W.heap.size W W') => show W'.cell? ⟨w.heap.size + 2, 0, none⟩ = some (.slice (some ⟨w.heap.size + 1, 0, none⟩) s.nl s.nl) from by
      have := (rb3.below hb rb3.lt).cell 0
      simpa using this
    have F3 := Lib.hid fun W' (hb : Below W.heap.size W W') => (hI.row.below hb hI.row.lt).free x.2
    have i0 : (0 : Int) ≤ (x.2 : Int) := by omega
    have i1 : (x.2 : Int) < (s.nl : Int) := by omega
    have C3 := Lib.hid fun W' (hb : Below W.heap.size W W') => show ∃ u, W'.cell? ⟨w.heap.size + 1, x.2, none⟩ = some u from by
      have := (hI.row.below hb hI.row.lt).cell x.2
      rw [this]
      have hl := hI.len
      exact ⟨_, by rw [List.getElem?_toArray]; exact List.getElem?_eq_getElem (by omega)⟩
    have FIN := Lib.hid fun wy vy (ht : Tail wy vy m) (hnew : ∀ q, vy.ownBlock = some q → W.heap.size ≤ q) (hb : Below W.heap.size W wy) => show KeepsFrom W0.heap.size W (wy.setCell ⟨w.heap.size + 1, x.2, none⟩ vy) ∧ ∃ ps, CpI w W0 s.nl s.pend ps (k + 1) (wy.setCell ⟨w.heap.size + 1, x.2, none⟩ vy) from by
      refine ⟨⟨?_, ?_⟩, _, cpi_next H4.out hI hx hmj (by omega) ht hnew hb⟩
      · have := hb.size
        simp [World.setCell]
        omega
      · intro q o hq ho hc
        have hql := (Array.getElem?_eq_some_iff.1 ho).1
        rw [heap_setCell_other _ _ _ _ (by show q ≠ w.heap.size + 1; omega), hb.block q hql]
        exact ho
    obtain ⟨xi, xj⟩ := x
    dsimp only at *
    clear hx hI hmj hmne hmW hV htl rb1 rb3 hx1 hstart hm0 r4 h4 hsz
    gi_wp2_with fail
    refine wpIn_region_any (by kernel_rfl) (wpAnyIn_of ?nodef ?lets _ _ _ _ ?_)
    case nodef => exact noDefer_all (by kernel_rfl)
    case lets =>
      rintro ⟨a, w, h⟩
      simp [Exit.then, Exit.inBlock] at h
      obtain ⟨h, _⟩ := h
      cases h
    change wpAny _ _ _ _ _ _ _ (World.drew _)
    refine wpAny_take (i := 1) (oi := ⟨some 19, _, _, _, _, _⟩) (v := .int .i64 (xj : Int)) rfl (by kernel_rfl) (by kernel_rfl) (by kernel_rfl) (fun _ _ _ h => h) (Or.inl ⟨by kernel_rfl, by intro w; go_simp⟩) ?_
    simp only [Act.put, List.setIfInBounds_toArray, List.set_cons_zero, List.set_cons_succ]
    refine wpAny_take (i := 6) (oi := ⟨some 24, _, _, _, _, _⟩) (v := .int .i64 (xj : Int)) rfl (by kernel_rfl) (by kernel_rfl) (by kernel_rfl) (fun _ _ _ h => h) (Or.inl ⟨by kernel_rfl, by intro w; go_simp⟩) ?_
    simp only [Act.put, List.setIfInBounds_toArray, List.set_cons_zero, List.set_cons_succ]
    refine wpAny_ready (rs := [0, 2]) (by kernel_rfl) (by simp) ?_
    refine AllReady.cons rfl (fun K hK => ?_) (AllReady.cons rfl (fun K hK => ?_) AllReady.nil)
    · skip
      go_simp
      refine hK _ _ ?_
      clear hK K
      refine wpAny_ready (rs := [2]) (by kernel_rfl) (by simp) ?_
      refine AllReady.cons rfl (fun K hK => ?_) AllReady.nil
      go_simp
      refine hK _ _ ?_
      clear hK K
      refine wpAny_take (i := 3) (oi := ⟨some 21, _, _, _, _, _⟩) (v := .pointer (some ⟨y.g, 0, none⟩)) rfl (by kernel_rfl) (by kernel_rfl) (by kernel_rfl) (fun _ _ _ h => h) (Or.inl ⟨by kernel_rfl, by intro w; go_simp⟩) ?_
      simp only [Act.put, List.setIfInBounds_toArray, List.set_cons_zero, List.set_cons_succ]
      refine wpAny_take (i := 4) (oi := ⟨some 22, _, _, _, _, _⟩) (v := .pointer (some ⟨y.g, 2, none⟩)) rfl (by kernel_rfl) (by kernel_rfl) (by kernel_rfl) (fun _ _ _ h => h) (Or.inl ⟨by kernel_rfl, by intro w; go_simp⟩) ?_
      simp only [Act.put, List.setIfInBounds_toArray, List.set_cons_zero, List.set_cons_succ]
      refine wpAny_ready (rs := [5]) (by kernel_rfl) (by simp) ?_
      refine AllReady.cons rfl (fun K hK => ?_) AllReady.nil
      go_simp
      refine hK _ _ ?_
      clear hK K
      refine wpAny_take (i := 7) (oi := ⟨some 25, _, _, _, _, _⟩) (v := .pointer (some ⟨y.gp, xj, none⟩)) rfl (by kernel_rfl) (by kernel_rfl) (by kernel_rfl) (fun _ _ _ h => h) (Or.inl ⟨by kernel_rfl, by intro w; go_simp⟩) ?_
      simp only [Act.put, List.setIfInBounds_toArray, List.set_cons_zero, List.set_cons_succ]
      refine wpAny_ready (rs := [8]) (by kernel_rfl) (by simp) ?_
      refine AllReady.cons rfl (fun K hK => ?_) AllReady.nil
      go_simp
      refine hK _ _ ?_
      clear hK K
      refine wpAny_ready (rs := [9]) (by kernel_rfl) (by simp) ?_
      refine AllReady.cons rfl (fun K hK => ?_) AllReady.nil
      go_simp
      refine (HCL.out W.drew (drew_below W)).mono ?_
      rintro e wy ⟨⟨vy, rfl, hty, hnew⟩, hby⟩
      have hby' : Below W.heap.size W wy := Below.and (drew_below W) hby
      have b3y := B3.out wy hby'
      have fy := F3.out wy hby'
      obtain ⟨uy, cuy⟩ := C3.out wy hby'
      obtain ⟨Ay, cy, rfl, _⟩ := hty.len
      refine hK _ _ ?_
      clear hK K
      refine wpAny_take (i := 10) (oi := ⟨some 28, _, _, _, _, _⟩) (v := .pointer (some ⟨w.heap.size + 1, xj, none⟩)) rfl (by kernel_rfl) (by kernel_rfl) (by kernel_rfl) (fun _ _ _ h => h) (Or.inl ⟨by kernel_rfl, by intro w; go_simp⟩) ?_
      simp only [Act.put, List.setIfInBounds_toArray, List.set_cons_zero, List.set_cons_succ]
      refine wpAny_ready (rs := [11]) (by kernel_rfl) (by simp) ?_
      refine AllReady.cons rfl (fun K hK => ?_) AllReady.nil
      go_simp
      refine hK _ _ ?_
      clear hK K
      refine wpAny_done (by kernel_rfl) ?_ _
      simp only [Exit.inBlock, Exit.then]
      exact ⟨rfl, FIN.out wy _ hty (fun q hq => hnew q hq) hby'⟩
    · skip
      go_simp
      refine hK _ _ ?_
      clear hK K
      refine wpAny_take (i := 3) (oi := ⟨some 21, _, _, _, _, _⟩) (v := .pointer (some ⟨y.g, 0, none⟩)) rfl (by kernel_rfl) (by kernel_rfl) (by kernel_rfl) (fun _ _ _ h => h) (Or.inl ⟨by kernel_rfl, by intro w; go_simp⟩) ?_
      simp only [Act.put, List.setIfInBounds_toArray, List.set_cons_zero, List.set_cons_succ]
      refine wpAny_take (i := 4) (oi := ⟨some 22, _, _, _, _, _⟩) (v := .pointer (some ⟨y.g, 2, none⟩)) rfl (by kernel_rfl) (by kernel_rfl) (by kernel_rfl) (fun _ _ _ h => h) (Or.inl ⟨by kernel_rfl, by intro w; go_simp⟩) ?_
      simp only [Act.put, List.setIfInBounds_toArray, List.set_cons_zero, List.set_cons_succ]
      refine wpAny_ready (rs := [0, 5]) (by kernel_rfl) (by simp) ?_
      refine AllReady.cons rfl (fun K hK => ?_) (AllReady.cons rfl (fun K hK => ?_) AllReady.nil)
      · skip
        go_simp
        refine hK _ _ ?_
        clear hK K
        refine wpAny_ready (rs := [5]) (by kernel_rfl) (by simp) ?_
        refine AllReady.cons rfl (fun K hK => ?_) AllReady.nil
        go_simp
        refine hK _ _ ?_
        clear hK K
        refine wpAny_take (i := 7) (oi := ⟨some 25, _, _, _, _, _⟩) (v := .pointer (some ⟨y.gp, xj, none⟩)) rfl (by kernel_rfl) (by kernel_rfl) (by kernel_rfl) (fun _ _ _ h => h) (Or.inl ⟨by kernel_rfl, by intro w; go_simp⟩) ?_
        simp only [Act.put, List.setIfInBounds_toArray, List.set_cons_zero, List.set_cons_succ]
        refine wpAny_ready (rs := [8]) (by kernel_rfl) (by simp) ?_
        refine AllReady.cons rfl (fun K hK => ?_) AllReady.nil
        go_simp
        refine hK _ _ ?_
        clear hK K
        refine wpAny_ready (rs := [9]) (by kernel_rfl) (by simp) ?_
        refine AllReady.cons rfl (fun K hK => ?_) AllReady.nil
        go_simp
        refine (HCL.out W.drew (drew_below W)).mono ?_
        rintro e wy ⟨⟨vy, rfl, hty, hnew⟩, hby⟩
        have hby' : Below W.heap.size W wy := Below.and (drew_below W) hby
        have b3y := B3.out wy hby'
        have fy := F3.out wy hby'
        obtain ⟨uy, cuy⟩ := C3.out wy hby'
        obtain ⟨Ay, cy, rfl, _⟩ := hty.len
        refine hK _ _ ?_
        clear hK K
        refine wpAny_take (i := 10) (oi := ⟨some 28, _, _, _, _, _⟩) (v := .pointer (some ⟨w.heap.size + 1, xj, none⟩)) rfl (by kernel_rfl) (by kernel_rfl) (by kernel_rfl) (fun _ _ _ h => h) (Or.inl ⟨by kernel_rfl, by intro w; go_simp⟩) ?_
        simp only [Act.put, List.setIfInBounds_toArray, List.set_cons_zero, List.set_cons_succ]
        refine wpAny_ready (rs := [11]) (by kernel_rfl) (by simp) ?_
        refine AllReady.cons rfl (fun K hK => ?_) AllReady.nil
        go_simp
        refine hK _ _ ?_
        clear hK K
        refine wpAny_done (by kernel_rfl) ?_ _
        simp only [Exit.inBlock, Exit.then]
        exact ⟨rfl, FIN.out wy _ hty (fun q hq => hnew q hq) hby'⟩
      · skip
        go_simp
        refine hK _ _ ?_
        clear hK K
        refine wpAny_take (i := 7) (oi := ⟨some 25, _, _, _, _, _⟩) (v := .pointer (some ⟨y.gp, xj, none⟩)) rfl (by kernel_rfl) (by kernel_rfl) (by kernel_rfl) (fun _ _ _ h => h) (Or.inl ⟨by kernel_rfl, by intro w; go_simp⟩) ?_
        simp only [Act.put, List.setIfInBounds_toArray, List.set_cons_zero, List.set_cons_succ]
        refine wpAny_ready (rs := [0, 8]) (by kernel_rfl) (by simp) ?_
        refine AllReady.cons rfl (fun K hK => ?_) (AllReady.cons rfl (fun K hK => ?_) AllReady.nil)
        · skip
          go_simp
          refine hK _ _ ?_
          clear hK K
          refine wpAny_ready (rs := [8]) (by kernel_rfl) (by simp) ?_
          refine AllReady.cons rfl (fun K hK => ?_) AllReady.nil
          go_simp
          refine hK _ _ ?_
          clear hK K
          refine wpAny_ready (rs := [9]) (by kernel_rfl) (by simp) ?_
          refine AllReady.cons rfl (fun K hK => ?_) AllReady.nil
          go_simp
          refine (HCL.out W.drew (drew_below W)).mono ?_
          rintro e wy ⟨⟨vy, rfl, hty, hnew⟩, hby⟩
          have hby' : Below W.heap.size W wy := Below.and (drew_below W) hby
          have b3y := B3.out wy hby'
          have fy := F3.out wy hby'
          obtain ⟨uy, cuy⟩ := C3.out wy hby'
          obtain ⟨Ay, cy, rfl, _⟩ := hty.len
          refine hK _ _ ?_
          clear hK K
          refine wpAny_take (i := 10) (oi := ⟨some 28, _, _, _, _, _⟩) (v := .pointer (some ⟨w.heap.size + 1, xj, none⟩)) rfl (by kernel_rfl) (by kernel_rfl) (by kernel_rfl) (fun _ _ _ h => h) (Or.inl ⟨by kernel_rfl, by intro w; go_simp⟩) ?_
          simp only [Act.put, List.setIfInBounds_toArray, List.set_cons_zero, List.set_cons_succ]
          refine wpAny_ready (rs := [11]) (by kernel_rfl) (by simp) ?_
          refine AllReady.cons rfl (fun K hK => ?_) AllReady.nil
          go_simp
          refine hK _ _ ?_
          clear hK K
          refine wpAny_done (by kernel_rfl) ?_ _
          simp only [Exit.inBlock, Exit.then]
          exact ⟨rfl, FIN.out wy _ hty (fun q hq => hnew q hq) hby'⟩
        · skip
          go_simp
          refine hK _ _ ?_
          clear hK K
          refine wpAny_ready (rs := [0, 9]) (by kernel_rfl) (by simp) ?_
          refine AllReady.cons rfl (fun K hK => ?_) (AllReady.cons rfl (fun K hK => ?_) AllReady.nil)
          · skip
            go_simp
            refine hK _ _ ?_
            clear hK K
            refine wpAny_ready (rs := [9]) (by kernel_rfl) (by simp) ?_
            refine AllReady.cons rfl (fun K hK => ?_) AllReady.nil
            go_simp
            refine (HCL.out W.drew (drew_below W)).mono ?_
            rintro e wy ⟨⟨vy, rfl, hty, hnew⟩, hby⟩
            have hby' : Below W.heap.size W wy := Below.and (drew_below W) hby
            have b3y := B3.out wy hby'
            have fy := F3.out wy hby'
            obtain ⟨uy, cuy⟩ := C3.out wy hby'
            obtain ⟨Ay, cy, rfl, _⟩ := hty.len
            refine hK _ _ ?_
            clear hK K
            refine wpAny_take (i := 10) (oi := ⟨some 28, _, _, _, _, _⟩) (v := .pointer (some ⟨w.heap.size + 1, xj, none⟩)) rfl (by kernel_rfl) (by kernel_rfl) (by kernel_rfl) (fun _ _ _ h => h) (Or.inl ⟨by kernel_rfl, by intro w; go_simp⟩) ?_
            simp only [Act.put, List.setIfInBounds_toArray, List.set_cons_zero, List.set_cons_succ]
            refine wpAny_ready (rs := [11]) (by kernel_rfl) (by simp) ?_
            refine AllReady.cons rfl (fun K hK => ?_) AllReady.nil
            go_simp
            refine hK _ _ ?_
            clear hK K
            refine wpAny_done (by kernel_rfl) ?_ _
            simp only [Exit.inBlock, Exit.then]
            exact ⟨rfl, FIN.out wy _ hty (fun q hq => hnew q hq) hby'⟩
          · skip
            go_simp
            refine (HCL.out W.drew (drew_below W)).mono ?_
            rintro e wy ⟨⟨vy, rfl, hty, hnew⟩, hby⟩
            have hby' : Below W.heap.size W wy := Below.and (drew_below W) hby
            have b3y := B3.out wy hby'
            have fy := F3.out wy hby'
            obtain ⟨uy, cuy⟩ := C3.out wy hby'
            obtain ⟨Ay, cy, rfl, _⟩ := hty.len
            refine hK _ _ ?_
            clear hK K
            refine wpAny_ready (rs := [0]) (by kernel_rfl) (by simp) ?_
            refine AllReady.cons rfl (fun K hK => ?_) AllReady.nil
            go_simp
            refine hK _ _ ?_
            clear hK K
            refine wpAny_take (i := 10) (oi := ⟨some 28, _, _, _, _, _⟩) (v := .pointer (some ⟨w.heap.size + 1, xj, none⟩)) rfl (by kernel_rfl) (by kernel_rfl) (by kernel_rfl) (fun _ _ _ h => h) (Or.inl ⟨by kernel_rfl, by intro w; go_simp⟩) ?_
            simp only [Act.put, List.setIfInBounds_toArray, List.set_cons_zero, List.set_cons_succ]
            refine wpAny_ready (rs := [11]) (by kernel_rfl) (by simp) ?_
            refine AllReady.cons rfl (fun K hK => ?_) AllReady.nil
            go_simp
            refine hK _ _ ?_
            clear hK K
            refine wpAny_done (by kernel_rfl) ?_ _
            simp only [Exit.inBlock, Exit.then]
            exact ⟨rfl, FIN.out wy _ hty (fun q hq => hnew q hq) hby'⟩
  case done =>
    rintro D W hD ⟨ps, hI⟩ hK
    have hmW := HM.out.below hI.low
    have rb1 : Row W w.heap.size 48 #[.pointer (some ⟨y.g, 0, none⟩)] := R1.out.same (hI.mid _ (by omega) (by omega))
    have rb3 : Row W (w.heap.size + 2) 110 #[.slice (some ⟨w.heap.size + 1, 0, none⟩) s.nl s.nl] := R3.out.same (hI.mid _ (by omega) (by omega))
    have b1 : ∀ W', Below W.heap.size W W' → W'.cell? ⟨w.heap.size, 0, none⟩ = some (.pointer (some ⟨y.g, 0, none⟩)) := fun W' hb => by
      have := (rb1.below hb rb1.lt).cell 0
      simpa using this
    have b3 : ∀ W', Below W.heap.size W W' → W'.cell? ⟨w.heap.size + 1 + 1, 0, none⟩ = some (.slice (some ⟨w.heap.size + 1, 0, none⟩) s.nl s.nl) := fun W' hb => by
      have := (rb3.below hb rb3.lt).cell 0
      simpa using this
    have hrow : ∀ W' (i : Nat), Below W.heap.size W W' → W'.cell? ⟨y.g, i, none⟩ = (#[.slice (some ⟨y.gl, 0, none⟩) (8 * s.nl) y.cl, .slice (some ⟨y.gv, 0, none⟩) (8 * s.nl) y.cv, .slice (some ⟨y.gp, 0, none⟩) s.nl y.cp, .map (some y.mb), wv s.ld, wv s.st, wv s.fl, wv s.fe] : Array Value)[i]? := fun W' i hb => (hmW.below hb).row.cell i
    have d0 := fun W' hb => hrow W' 0 hb
    have d1 := fun W' hb => hrow W' 1 hb
    have d3 := fun W' hb => hrow W' 3 hb
    have d4 := fun W' hb => hrow W' 4 hb
    have d5 := fun W' hb => hrow W' 5 hb
    have d6 := fun W' hb => hrow W' 6 hb
    have d7 := fun W' hb => hrow W' 7 hb
    simp only [List.getElem?_toArray, List.getElem?_cons_succ, List.getElem?_cons_zero] at d0 d1 d3 d4 d5 d6 d7
    have HC1 := Lib.hid fun W' (hS : CpS w W y s W') => cloneW_any s.lasted y.gl (8 * s.nl) y.cl 0 W' (ownsRow_len hmW.las) (by omega) (hmW.below hS.low).las
    have HC2 := Lib.hid fun W' (hS : CpS w W y s W') => cloneW_any s.view y.gv (8 * s.nl) y.cv 0 W' (ownsRow_len hmW.vie) (by omega) (hmW.below hS.low).vie
    obtain ⟨Dm, hown, hk, hs, ha⟩ := hmW.marks
    have HC3 := Lib.hid fun W' (hS : CpS w W y s W') => cloneM_any (own_map_below hown hS.low)
    have HII := Lib.hid hI
    have HMW := Lib.hid hmW
    have HMK := Lib.hid fun (Wx : World) (b : Nat) (ho : Wx.ownsMap Tryz.prog 3 mkR b (Maps.size Dm) Dm) => show MarksAt Wx b s.nl s.mm from ⟨Dm, ho, hk, hs, ha⟩
    clear hI hmW rb1 rb3 hstart hm0 r4 hk hs ha hown hrow HN C2
    have hpos : 0 < 8 * s.nl := by have := HMW.out.pos; omega
    unfold wv at d4 d5 d6 d7
    have STAY := Lib.hid fun W' (hb : Below W.heap.size W W') => And.intro (b1 W' hb) (And.intro (b3 W' hb) (And.intro (d0 W' hb) (And.intro (d1 W' hb) (And.intro (d3 W' hb) (And.intro (d4 W' hb) (And.intro (d5 W' hb) (And.intro (d6 W' hb) (And.intro (d7 W' hb) hb))))))))
    clear b1 b3 d0 d1 d3 d4 d5 d6 d7 hsz h4
    gi_wp2_with fail
    refine wpIn_wide.2 ?_
    go_region_held3 (fun W' => W'.cell? ⟨w.heap.size, 0, none⟩ = some (.pointer (some ⟨y.g, 0, none⟩)) ∧ W'.cell? ⟨w.heap.size + 1 + 1, 0, none⟩ = some (.slice (some ⟨w.heap.size + 1, 0, none⟩) s.nl s.nl) ∧ W'.cell? ⟨y.g, 0, none⟩ = some (.slice (some ⟨y.gl, 0, none⟩) (8 * s.nl) y.cl) ∧ W'.cell? ⟨y.g, 1, none⟩ = some (.slice (some ⟨y.gv, 0, none⟩) (8 * s.nl) y.cv) ∧ W'.cell? ⟨y.g, 3, none⟩ = some (.map (some y.mb)) ∧ W'.cell? ⟨y.g, 4, none⟩ = some (.int .u64 (s.ld : Int)) ∧ W'.cell? ⟨y.g, 5, none⟩ = some (.int .u64 (s.st : Int)) ∧ W'.cell? ⟨y.g, 6, none⟩ = some (.int .u64 (s.fl : Int)) ∧ W'.cell? ⟨y.g, 7, none⟩ = some (.int .u64 (s.fe : Int)) ∧ Below W.heap.size W W')
      ((refine STAY.out _ ?_; (first | exact drew_below _ | (refine Below.and ?_ hb; exact CpS.low (w := w) (y := y) (s := s) (by assumption)) | (refine Below.and ?_ (alloc_below _ _); exact CpS.low (w := w) (y := y) (s := s) (by assumption)))))
      (first | (go_at_call 60; (first | refine (HC1.out _ (by assumption)).mono ?_ | refine (HC2.out _ (by assumption)).mono ?_); rintro e wn ⟨⟨v, rfl, ho⟩, hb⟩; obtain ⟨g1, c1, rfl, _⟩ := own_some ho hpos) | (go_at_call 61; refine (HC3.out _ (by assumption)).mono ?_; rintro e wn ⟨rfl, ho, _, hb⟩))
    rename_i w1 hb1 ga ca _ ho1 w2 hb2 _ ho2 _ hheld
    clear hheld
    obtain ⟨Wf, hWf⟩ : ∃ Wf, Wf = wn.alloc (.cells #[.slice (some ⟨ga, 0, none⟩) (8 * s.nl) ca, .slice (some ⟨g1, 0, none⟩) (8 * s.nl) c1, .slice (some ⟨w.heap.size + 1, 0, none⟩) s.nl s.nl, .map (some w2.heap.size), .int .u64 (s.ld : Int), .int .u64 (s.st : Int), .int .u64 (s.fl : Int), .int .u64 (s.fe : Int)] 116) := ⟨_, rfl⟩
    have hb1' : Below W.heap.size W w1 := Below.and (drew_below W) hb1
    have hbWf : Below W.heap.size W Wf := by
      rw [hWf]
      exact Below.and (Below.and (Below.and hb1' hb2) hb) (alloc_below _ _)
    obtain ⟨y', hyg, hmf, hfp, hbf⟩ := copy_mem (wf := Wf) HII.out HMW.out H4.out ho1 hb1' ho2 hb2 ho hb hWf HMK.out
    rw [← hWf]
    have hDl : D < W.heap.size := (Array.getElem?_eq_some_iff.1 hK).1
    have hKf : Wf.heap[D]? = some (.deferred (some [])) := (hbWf.block D hDl).trans hK
    have hg := grownBy_putObj' Wf D (.deferred none)
    have hlw := HII.out.low.size
    have hw0 := HSZ.out
    have hmF : MemAt (Wf.putObj D (.deferred none)) y' s := hmf.same fun q hq => hg.block q (hmf.lt q hq) (fun e => by
      have e' : q = D := Option.some.inj e
      subst e'
      rcases fp_obj hmf q hq with ⟨cs, t, h5⟩ | ⟨es, c, h5⟩
      · rw [h5] at hKf; cases hKf
      · rw [h5] at hKf; cases hKf)
    have hbF : Below w.heap.size w (Wf.putObj D (.deferred none)) := by
      refine hbf.trans ⟨hg.os, hg.tape, hg.output, hg.size, fun q hq => hg.block q ?_ ?_⟩
      · have := hbf.size
        omega
      · intro e
        have e' : q = D := Option.some.inj e
        omega
    clear hWf hg hmf hbf hbWf ho1 ho2 ho hb1 hb1' hb2 hb hlw hw0
    gi_wp2
    refine ⟨by simp, .inl ⟨_, _, rfl, run_takeDeferred hKf, ?_⟩⟩
    exact ⟨_, results_tmp rfl _ _ _, y', by rw [hyg]; rfl, hmF, hfp, hbF⟩
end Go.Proofs.YtahojhaeebmpoaaGreatDoor
