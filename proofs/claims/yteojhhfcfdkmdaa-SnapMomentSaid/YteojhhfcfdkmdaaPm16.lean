/- Texts of this claim, packed: PStore. -/
import Derived.Test.YteojhhfcfdkmdaaPm15
import Derived.Test.YteojhhfcfdkmdaaPm14
import Derived.Deep.RegionLaw
import Derived.Deep.DrawnRows
set_option linter.unusedSimpArgs false
set_option linter.unusedVariables false
/- Store: the word at an address turns, and the store is pending; for addresses of words, words that fit, lines of at most 10^9 stores. -/
namespace Go.Proofs.Yteojhhfcfdkmdaa
open Go.RowKit
set_option linter.unusedVariables false
attribute [local go_sem ↓] Go.wp_at_zero Go.wp_at_succ

/-- A store: the state behind it. -/
def St.store (s : St) (a v : Nat) : St := { s with view := s.view.set (a / 8) v, pend := s.pend.set (a / 64) (s.pend.getD (a / 64) [] ++ [(a, v)]), st := s.st + 1 }
def StPost (w : World) (y : Lay) (s' : St) (k : Int) (e : Ending) (w' : World) : Prop := e = .returned (.int .i64 k) ∧ ∃ y', MemAt w' y' s' ∧ Turn w w' y y'

theorem set_map (l : List Nat) (i v : Nat) : (l.map wv).set i (wv v) = (l.set i v).map wv := (List.map_set).symm

/-- The memory behind a store, put together. -/
theorem store_mem {w W0 W1 w1 : World} {y : Lay} {s : St} {a v i h off cap : Nat} {V : Value} {l : List (Nat × Nat)} (hm : MemAt w y s) (hi : i = a / 64) (ha : a < 64 * s.nl) (hV : y.ps[i]? = some V) (hl : s.pend[i]? = some l)
    (h0 : W0 = (w.setCell ⟨y.g, 5, none⟩ (wv (s.st + 1))).setCell ⟨y.gv, a / 8, none⟩ (wv v)) (h1 : Below W0.heap.size W0 W1)
    (ht : Tail w1 (.slice (some ⟨h, off, none⟩) (l.length + 1) cap) (l ++ [(a, v)])) (hg : W1.grownBy w1 V.ownBlock) (hh : V.ownBlock = some h ∨ W1.heap.size ≤ h) :
    ∃ y', MemAt (w1.setCell ⟨y.gp, i, none⟩ (.slice (some ⟨h, off, none⟩) (l.length + 1) cap)) y' (s.store a v) ∧ Turn w (w1.setCell ⟨y.gp, i, none⟩ (.slice (some ⟨h, off, none⟩) (l.length + 1) cap)) y y' := by
  have hd := hm.differ
  have hin : i < s.nl := by omega
  have hpl := ps_len hm
  have hs0 : W0.heap.size = w.heap.size := by rw [h0]; simp [World.setCell]
  have hk0 : ∀ k, k ≠ y.g → k ≠ y.gv → W0.heap[k]? = w.heap[k]? := by
    intro k h1 h2
    rw [h0, heap_setCell_other _ _ _ _ h2, heap_setCell_other _ _ _ _ h1]
  have hk2 : ∀ k, k < W0.heap.size → V.ownBlock ≠ some k → k ≠ y.gp → (w1.setCell ⟨y.gp, i, none⟩ (.slice (some ⟨h, off, none⟩) (l.length + 1) cap)).heap[k]? = W0.heap[k]? := by
    intro k h2 h3 h4
    rw [heap_setCell_other _ _ _ _ h4, hg.block k (Nat.lt_of_lt_of_le h2 h1.size) (fun e => h3 e.symm), h1.block k h2]
  have hk : ∀ k, k < w.heap.size → V.ownBlock ≠ some k → k ≠ y.gp → k ≠ y.g → k ≠ y.gv → (w1.setCell ⟨y.gp, i, none⟩ (.slice (some ⟨h, off, none⟩) (l.length + 1) cap)).heap[k]? = w.heap[k]? := by
    intro k h2 h3 h4 h5 h6
    rw [hk2 k (by omega) h3 h4, hk0 k h5 h6]
  have hVne := fun k => hd.tail i V k hV
  have hgV : V.ownBlock ≠ some y.g := fun e => (hVne _ e).1 rfl
  have hglV : V.ownBlock ≠ some y.gl := fun e => (hVne _ e).2.1 rfl
  have hgvV : V.ownBlock ≠ some y.gv := fun e => (hVne _ e).2.2.1 rfl
  have hgpV : V.ownBlock ≠ some y.gp := fun e => (hVne _ e).2.2.2.1 rfl
  have hmbV : V.ownBlock ≠ some y.mb := fun e => (hVne _ e).2.2.2.2 rfl
  have hsz1 : W1.heap.size ≤ w1.heap.size := hg.size
  have hgt : ∀ k, V.ownBlock = some k → k < w.heap.size := fun k e => hm.lt k (.inr (.inr (.inr (.inr (.inr ⟨i, V, hV, e⟩)))))
  have hpsn : ∀ (j : Nat) (u : Value), j ≠ i → (y.ps.set i (Value.slice (some ⟨h, off, none⟩) (l.length + 1) cap))[j]? = some u → y.ps[j]? = some u := by
    intro j u hj hu
    rwa [List.getElem?_set_ne (by omega)] at hu
  have hpsi : (y.ps.set i (Value.slice (some ⟨h, off, none⟩) (l.length + 1) cap))[i]? = some (.slice (some ⟨h, off, none⟩) (l.length + 1) cap) := List.getElem?_set_self (by omega)
  have hhk : ∀ j u, j ≠ i → y.ps[j]? = some u → u.ownBlock ≠ some h := by
    intro j u hj hu e
    rcases hh with hh | hh
    · exact hm.apart j i u V h hj hu hV e hh
    · have := hm.lt h (.inr (.inr (.inr (.inr (.inr ⟨j, u, hu, e⟩)))))
      have := h1.size
      omega
  refine ⟨{ y with ps := y.ps.set i (.slice (some ⟨h, off, none⟩) (l.length + 1) cap) }, ⟨?_, ?_, ?_, hm.ne, ?_, ?_, ?_, ?_, ?_, hm.pos, hm.most⟩, rfl, ?_, ?_⟩
  · refine Row.same (w := W0) ?_ (hk2 _ (by rw [hs0]; exact hm.row.lt) hgV hd.g_gp)
    rw [h0]
    exact (hm.row.set 5 _).other hd.g_gv _
  · exact own_same hm.las (hk _ (own_lt hm.las) hglV hd.gl_gp (Ne.symm hd.g_gl) hd.gl_gv)
  · have h2 := own_stored (own_same (w' := w.setCell ⟨y.g, 5, none⟩ (wv (s.st + 1))) hm.vie (heap_setCell_other _ _ _ _ (Ne.symm hd.g_gv))) (a / 8) (wv v)
    rw [set_map, ← h0] at h2
    exact own_same h2 (hk2 _ (by rw [hs0]; exact own_lt hm.vie) hgvV hd.gv_gp)
  · have h2 : w1.heap[y.gp]? = w.heap[y.gp]? := by
      have := own_lt hm.pen
      rw [hg.block _ (by have := h1.size; omega) (Ne.symm hgpV), h1.block _ (by omega), hk0 _ (Ne.symm hd.g_gp) (Ne.symm hd.gv_gp)]
    exact own_stored (own_same hm.pen h2) i _
  · show (s.pend.set _ _).length = s.nl
    rw [List.length_set]
    exact hm.plen
  · intro j hj u m hu hmm
    by_cases e : j = i
    · subst e
      rw [hpsi] at hu
      cases hu
      have e2 : (s.store a v).pend = s.pend.set j (s.pend.getD j [] ++ [(a, v)]) := by rw [hi]; rfl
      rw [e2, List.getElem?_set_self (by have := hm.plen; omega), List.getD_eq_getElem?_getD, hl] at hmm
      cases hmm
      exact ht.same fun k hk' => heap_setCell_other _ _ _ _ (by
        rintro rfl
        have hk'' : y.gp = h := by
          have := Option.some.inj hk'
          exact this.symm
        rcases hh with hh | hh
        · exact hgpV (by rw [hh, hk''])
        · have := own_lt hm.pen
          have := h1.size
          omega)
    · have hu' := hpsn j u e hu
      have e2 : (s.store a v).pend = s.pend.set i (s.pend.getD i [] ++ [(a, v)]) := by rw [hi]; rfl
      rw [e2, List.getElem?_set_ne (by omega)] at hmm
      refine (hm.tails j hj u m hu' hmm).same fun k hk' => ?_
      obtain ⟨n1, n2, n3, n4, n5⟩ := hd.tail j u k hu' hk'
      exact hk k (hm.lt k (.inr (.inr (.inr (.inr (.inr ⟨j, u, hu', hk'⟩)))))) (fun e' => hm.apart j i u V k e hu' hV hk' e') n4 n1 n3
  · intro j1 j2 v1 v2 k hj hv1 hv2 hk1 hk2'
    by_cases e1 : j1 = i
    · subst e1
      rw [hpsi] at hv1
      cases hv1
      have : h = k := by simpa [Value.ownBlock] using hk1
      subst this
      exact hhk j2 v2 (Ne.symm hj) (hpsn j2 v2 (Ne.symm hj) hv2) hk2'
    · by_cases e2 : j2 = i
      · subst e2
        rw [hpsi] at hv2
        cases hv2
        have : h = k := by simpa [Value.ownBlock] using hk2'
        subst this
        exact hhk j1 v1 hj (hpsn j1 v1 hj hv1) hk1
      · exact hm.apart j1 j2 v1 v2 k hj (hpsn j1 v1 e1 hv1) (hpsn j2 v2 e2 hv2) hk1 hk2'
  · exact hm.marks.same (hk _ hm.marks.lt hmbV (Ne.symm hd.gp_mb) (Ne.symm hd.g_mb) (Ne.symm hd.gv_mb))
  · refine ⟨?_, ?_, ?_, ?_, ?_⟩
    · exact hg.os.trans (h1.os.trans (by rw [h0]; rfl))
    · exact hg.tape.trans (h1.tape.trans (by rw [h0]; rfl))
    · exact hg.output.trans (h1.output.trans (by rw [h0]; rfl))
    · have := h1.size
      simp only [World.setCell, Array.size_modify]
      omega
    · intro k hk' hn
      exact hk k hk' (fun e => hn (.inr (.inr (.inr (.inr (.inr ⟨i, V, hV, e⟩)))))) (fun e => hn (.inr (.inr (.inr (.inl e))))) (fun e => hn (.inl e)) (fun e => hn (.inr (.inr (.inl e))))
  · rintro k (rfl | rfl | rfl | rfl | rfl | ⟨j, u, hu, hk'⟩)
    · exact .inl (.inl rfl)
    · exact .inl (.inr (.inl rfl))
    · exact .inl (.inr (.inr (.inl rfl)))
    · exact .inl (.inr (.inr (.inr (.inl rfl))))
    · exact .inl (.inr (.inr (.inr (.inr (.inl rfl)))))
    · by_cases e : j = i
      · subst e
        have hu2 : (Value.slice (some ⟨h, off, none⟩) (l.length + 1) cap) = u := by
          have : (y.ps.set j (Value.slice (some ⟨h, off, none⟩) (l.length + 1) cap))[j]? = some u := hu
          rw [hpsi] at this
          exact Option.some.inj this
        subst hu2
        have : h = k := by simpa [Value.ownBlock] using hk'
        subst this
        rcases hh with hh | hh
        · exact .inl (.inr (.inr (.inr (.inr (.inr ⟨j, V, hV, hh⟩)))))
        · exact .inr (by have := h1.size; omega)
      · exact .inl (.inr (.inr (.inr (.inr (.inr ⟨j, u, hpsn j u e hu, hk'⟩)))))

theorem store_no {p : Option Addr} {w : World} (h : NoMem w p) (a v : Int) : Calls Try.prog 21 #[.pointer p, .int .u64 a, .int .u64 v] w fun e w' => e = .returned (.int .i64 1) ∧ w = w' := by
  have H := Lib.hid (refused_no h true a)
  clear h
  go_enter Try.func21, Try.ntmps21
  go_wp2_with fail
  refine H.out.mono ?_
  rintro e w1 ⟨rfl, rfl⟩
  go_wp2
  go_ret
  exact ⟨rfl, rfl⟩
theorem store_range {w : World} {y : Lay} {s : St} (h : MemAt w y s) (a : Nat) (v : Int) (ha : a % 8 ≠ 0 ∨ 64 * s.nl ≤ a) : Calls Try.prog 21 #[.pointer (some ⟨y.g, 0, none⟩), .int .u64 (a : Int), .int .u64 v] w fun e w' => e = .returned (.int .i64 3) ∧ w = w' := by
  have H := Lib.hid (refused_range h a ha)
  obtain ⟨g, hg⟩ : ∃ g, g = y.g := ⟨_, rfl⟩
  rw [← hg] at H ⊢
  clear h ha hg
  go_enter Try.func21, Try.ntmps21
  go_wp2_with fail
  refine H.out.mono ?_
  rintro e w1 ⟨rfl, rfl⟩
  go_wp2
  go_ret
  exact ⟨rfl, rfl⟩
set_option maxRecDepth 100000 in
set_option maxHeartbeats 3200000 in
theorem store_ok {w : World} {y : Lay} {s : St} (h : MemAt w y s) (a v : Nat) (h8 : a % 8 = 0) (ha : a < 64 * s.nl) (hv : v < 18446744073709551616) (hst : s.st < 9223372036854775808) (hn : ∀ l ∈ s.pend, l.length ≤ 1000000000) :
    Calls Try.prog 21 #[.pointer (some ⟨y.g, 0, none⟩), .int .u64 (a : Int), .int .u64 (v : Int)] w (StPost w y (s.store a v) 0) := by
  have HR := Lib.hid (refused_ok h a h8 ha)
  have hmost := h.most
  have HL := Lib.hid fun W => lineOf_any a W (by omega)
  obtain ⟨V, l, hV, hl, ht⟩ := ps_get h (j := a / 64) (by omega)
  have hll := hn l (List.mem_of_getElem? hl)
  have hd := h.differ
  obtain ⟨i, hi⟩ : ∃ i, i = a / 64 := ⟨_, rfl⟩
  rw [← hi] at hV hl HL
  have c1 := h.row.cell 1
  have c2 := h.row.cell 2
  have c5 := h.row.cell 5
  simp only [List.getElem?_toArray, List.getElem?_cons_succ, List.getElem?_cons_zero] at c1 c2 c5
  have f5 := h.row.free 5
  obtain ⟨cv, hcv⟩ := own_at h.vie
  have cvv : ∃ u, w.cell? ⟨y.gv, a / 8, none⟩ = some u := by
    rw [h.vie.cellAt (a / 8) (by omega)]
    have : a / 8 < (s.view.map wv).length := by have := h.vie.1; omega
    exact ⟨_, List.getElem?_eq_getElem this⟩
  obtain ⟨u, cvv⟩ := cvv
  have fv : w.frozen? ⟨y.gv, a / 8, none⟩ = false := hcv.free _
  obtain ⟨cp, hcp⟩ := own_at h.pen
  have cpp : w.cell? ⟨y.gp, i, none⟩ = some V := by rw [h.pen.cellAt i (by omega), hV]
  have fp : w.frozen? ⟨y.gp, i, none⟩ = false := hcp.free _
  obtain ⟨N, hN⟩ : ∃ N, N = 8 * s.nl := ⟨_, rfl⟩
  rw [← hN] at c1
  have ebN : (a : Int) / 8 < (N : Int) := by omega
  have hin : i < s.nl := by omega
  have haB : a < 1048576 := by omega
  unfold wv at c5
  have cv1 : (w.setCell ⟨y.g, 5, none⟩ (.int .u64 ((s.st : Int) + 1))).cell? ⟨y.gv, a / 8, none⟩ = some u := by
    rw [cell_far hd.g_gv]
    exact cvv
  have HM := Lib.hid h
  have HI := Lib.hid hi
  have HA := Lib.hid ha
  clear h hi ha hN hn h8
  go_enter Try.func21, Try.ntmps21
  go_wp2_with fail
  refine HR.out.mono ?_
  rintro e w1 ⟨rfl, rfl⟩
  go_wp2_with fail
  refine (HL.out _).mono ?_
  rintro e w2 ⟨rfl, rfl⟩
  go_wp2_with fail
  obtain ⟨W0, hW0⟩ : ∃ W0, W0 = (w.setCell ⟨y.g, 5, none⟩ (wv (s.st + 1))).setCell ⟨y.gv, a / 8, none⟩ (wv v) := ⟨_, rfl⟩
  have hW1 := hW0
  have e1 : wv (s.st + 1) = .int .u64 ((s.st : Int) + 1) := rfl
  have e2 : wv v = .int .u64 (v : Int) := rfl
  rw [e1, e2] at hW1
  rw [← hW1]
  have d2 : W0.cell? ⟨y.g, 2, none⟩ = some (.slice (some ⟨y.gp, 0, none⟩) s.nl y.cp) := by
    rw [hW1, cell_far (Ne.symm hd.g_gv), cell_else (by decide)]
    exact c2
  have dp : W0.cell? ⟨y.gp, i, none⟩ = some V := by
    rw [hW1, cell_far hd.gv_gp, cell_far hd.g_gp]
    exact cpp
  have hk0 : ∀ k, k ≠ y.g → k ≠ y.gv → W0.heap[k]? = w.heap[k]? := by
    intro k h1 h2
    rw [hW1, heap_setCell_other _ _ _ _ h2, heap_setCell_other _ _ _ _ h1]
  have hz : W0.heap.size = w.heap.size := by rw [hW1]; simp [World.setCell]
  have ht0 : Tail W0 V l := ht.same fun k hk => hk0 k (hd.tail i V k hV hk).1 (hd.tail i V k hV hk).2.2.1
  have fp0 : W0.frozen? ⟨y.gp, i, none⟩ = false := by rw [World.frozen?_of_block (hk0 y.gp (Ne.symm hd.g_gp) (Ne.symm hd.gv_gp))]; exact fp
  have n1 : V.ownBlock ≠ some y.g := fun e => (hd.tail i V _ hV e).1 rfl
  have n2 : V.ownBlock ≠ some y.gp := fun e => (hd.tail i V _ hV e).2.2.2.1 rfl
  have l1 : y.g < W0.heap.size := by rw [hz]; exact HM.out.row.lt
  have l2 : y.gp < W0.heap.size := by rw [hz]; exact own_lt HM.out.pen
  have i0 : (0 : Int) ≤ (i : Int) := by omega
  have i1 : (i : Int) < (s.nl : Int) := by omega
  have HT := Lib.hid fun W (hb : Below W0.heap.size W0 W) => ht0.same (w' := W) fun k hk => hb.block k (by rw [hz]; exact HM.out.lt k (.inr (.inr (.inr (.inr (.inr ⟨i, V, hV, hk⟩))))))
  have HD := Lib.hid hd
  have HV := Lib.hid hV
  have HLL := Lib.hid hl
  have HW := Lib.hid hW0
  have HK := Lib.hid hk0
  clear hW0 hW1 e1 e2 c1 c2 c5 f5 cv1 cvv fv cpp fp hcp hcv ht ht0 hd hV hl hk0 hz
  go_region_law ((refine step_append_tail (by rfl) (.tmp 45) (.tmp 49) (by rfl) V l (a, v) (by rfl) (HT.out _ (Below.and (alloc_below _ _) (drew_below _))) hll ⟨W0.heap.size, 0, none⟩ 1 (by rfl) (World.news_of_block (cs := #[wv a, wv v]) (t := 64) (fr := (0, 0)) (heap_alloc_new W0 _)) ?_; intro h off cap w1 htl hgrow hh; have fq : w1.frozen? ⟨y.gp, i, none⟩ = false := frozen_grown hgrow (by simp; omega) (Ne.symm n2) (by simp; exact (frozen_alloc l2 _).trans fp0); have dq : w1.cell? ⟨y.gp, i, none⟩ = some V := (hgrow.cell_far _ (by simp; omega) (Ne.symm n2)).trans (by simp; exact (World.cell?_alloc_lt _ _ _ l2).trans dp); have dg : w1.cell? ⟨y.g, 2, none⟩ = some (.slice (some ⟨y.gp, 0, none⟩) s.nl y.cp) := (hgrow.cell_far _ (by simp; omega) (Ne.symm n1)).trans (by simp; exact (World.cell?_alloc_lt _ _ _ l1).trans d2)))
  all_goals go_wp2
  all_goals go_ret
  all_goals exact ⟨rfl, store_mem HM.out HI.out HA.out HV.out HLL.out HW.out (Below.and (alloc_below _ _) (drew_below _)) htl hgrow hh⟩
end Go.Proofs.Yteojhhfcfdkmdaa
