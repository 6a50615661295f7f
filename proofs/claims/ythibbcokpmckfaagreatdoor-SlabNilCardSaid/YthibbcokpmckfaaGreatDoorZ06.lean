/- Texts of this claim, packed: PTail, PStore, PFlush, PRange. -/
import Derived.Test.YthibbcokpmckfaaGreatDoorZ05
import Derived.ArgAppend
import Derived.Deep.AppendLies
import Derived.Deep.RegionLaw
import Derived.Deep.DrawnRows
import Derived.Deep.RegionHeld3
import Derived.Deep.MidRow
/- append of one store onto a line's pending stores, wherever they stand in their block: into its spare cells, or into a new block; for lists of at most 10^9 stores. -/
namespace Go.Proofs.YthibbcokpmckfaaGreatDoor
open Go.RowKit
set_option linter.unusedVariables false
theorem info129 : (Tryz.prog.info? 129).map (fun i => (i.zero, i.size, i.bytes)) = some (some (.agg #[.int .u64 0, .int .u64 0]), 2, 16) := by kernel_rfl

theorem tail_take {cur : List Value} {off n : Nat} {xs : List Value} {x y : Value} (hl : xs.length = n * 2) (h : (cur.drop off).take (n * 2) = xs) (hs : off + n * 2 + 1 < cur.length) :
    (((cur.set (off + n * 2) x).set (off + n * 2 + 1) y).drop off).take ((n + 1) * 2) = xs ++ [x, y] := by
  apply List.ext_getElem?
  intro i
  rw [List.getElem?_take, List.getElem?_drop]
  have hx : ∀ j, xs[j]? = if j < n * 2 then cur[off + j]? else none := by
    intro j
    rw [← h, List.getElem?_take, List.getElem?_drop]
  by_cases h1 : i < n * 2
  · rw [if_pos (by omega), List.getElem?_set_ne (by omega), List.getElem?_set_ne (by omega), List.getElem?_append_left (by omega), hx, if_pos h1]
  · by_cases h2 : i = n * 2
    · subst h2
      rw [if_pos (by omega), List.getElem?_set_ne (by omega), List.getElem?_set_self (by omega), List.getElem?_append_right (by omega), hl, Nat.sub_self]
      rfl
    · by_cases h3 : i = n * 2 + 1
      · subst h3
        rw [if_pos (by omega), show off + (n * 2 + 1) = off + n * 2 + 1 from by omega, List.getElem?_set_self (by rw [List.length_set]; omega), List.getElem?_append_right (by omega), hl, show n * 2 + 1 - n * 2 = 1 from by omega]
        rfl
      · rw [if_neg (by omega), List.getElem?_append_right (by omega), hl]
        rw [List.getElem?_eq_none (by simp; omega)]

theorem run_append_tail {ty : TypeId} {w : World} {v : Value} {l : List (Nat × Nat)} (p : Nat × Nat) (ht : Tail w v l) (hn : l.length ≤ 1000000000) (ad : Addr) (c : Nat) (hnews : ∀ j u, [wv p.1, wv p.2][j]? = some u → w.cell? (ad.add j) = some u) :
    ∃ h off cap w', (Builtin.append_ #[126, 126] ty #[v, .slice (some ad) 1 c]).run Tryz.prog w = .ok (.slice (some ⟨h, off, none⟩) (l.length + 1) cap) w' ∧ Tail w' (.slice (some ⟨h, off, none⟩) (l.length + 1) cap) (l ++ [p]) ∧ w.grownBy w' v.ownBlock ∧ (v.ownBlock = some h ∨ w.heap.size ≤ h) := by
  obtain ⟨i0, hi, hz0, hz1, hz2⟩ := info_parts info129
  have hmx : l.length + 1 ≤ maxLen := by unfold maxLen; omega
  have hlen : (l ++ [p]).length = l.length + 1 := by simp
  have hflat : flat (l ++ [p]) = flat l ++ [wv p.1, wv p.2] := by rw [flat_append]; rfl
  rcases ht with ⟨rfl, rfl⟩ | ⟨h, off, cap, cur, rfl, hr, hp0, hlc, hcm, hfit, htk⟩
  · obtain ⟨v', w', hrun, ho, hg, _⟩ := run_append_own (P := Tryz.prog) w w.heap.size 126 ty 129 i0 _ 2 16 Tryz.underlying126 hi hz0 hz1 hz2 rfl (by decide) (.slice none 0 0) 0 [] (World.ownsRow_nil w _ _ _) ad 1 c [wv p.1, wv p.2] rfl hnews
      (by intro u hu; simp at hu; rcases hu with rfl | rfl <;> rfl) (by unfold maxLen; omega) (by omega) (Nat.le_refl _)
    rcases ho.2 with ⟨_, h0⟩ | ⟨g, cap, cur, rfl, hbg, hh, hnc, hm, hcs, htk⟩
    · omega
    · refine ⟨g, 0, cap, w', hrun, .inr ⟨g, 0, cap, cur, rfl, hh, by simp, by simpa using hnc, hm, by omega, ?_⟩, hg, .inr hbg⟩
      · rw [List.drop_zero]
        simpa [flat] using htk
  · by_cases hroom : l.length + 1 ≤ cap
    · have hc : ∀ j, j < 2 → (w.cell? ⟨h, off + l.length * 2 + j, none⟩).isSome = true := by
        intro j hj
        rw [hr.cell, Array.getElem?_eq_getElem (by omega)]
        rfl
      have hrun := run_append_room_cells (P := Tryz.prog) w 126 ty 129 i0 Tryz.underlying126 hi h off l.length cap ad 1 c [wv p.1, wv p.2] (by rw [hz1]; rfl) hnews
        (by intro u hu; simp at hu; rcases hu with rfl | rfl <;> rfl) hroom (by rw [hz1]; simpa using hc) (fun j _ => hr.free _)
      rw [hz1] at hrun
      refine ⟨h, off, cap, _, hrun, .inr ⟨h, off, cap, _, by rw [hlen], ((hr.set _ _).set _ _), by rw [hlen]; omega, by rw [hlen]; exact hroom, hcm, by simpa using hfit, ?_⟩, ?_, .inl rfl⟩
      · rw [hlen, hflat]
        simp only [Array.toList_setIfInBounds]
        refine tail_take ?_ htk ?_
        · rw [flat_length]; omega
        · have := Array.length_toList (xs := cur); omega
      · refine ⟨rfl, rfl, rfl, by simp [World.setCells, World.setCell], fun k hk hne => ?_⟩
        have hkh : k ≠ h := fun e => hne (by rw [e]; rfl)
        show ((w.setCell _ _).setCell _ _).heap[k]? = _
        rw [heap_setCell_other _ _ _ _ hkh, heap_setCell_other _ _ _ _ hkh]
    · obtain ⟨v', w', hrun, ho, hg⟩ := run_append_arg_grows (P := Tryz.prog) w 126 ty 129 i0 _ 2 16 Tryz.underlying126 hi hz0 hz1 hz2 rfl (by decide) ⟨h, off, none⟩ l.length cap (flat l) (by rw [flat_length]; omega)
        (by
          intro j u hu
          have e : (⟨h, off, none⟩ : Addr).add j = ⟨h, off + j, none⟩ := by unfold Addr.add; split <;> simp_all
          rw [e, hr.cell]
          rw [← htk, List.getElem?_take, List.getElem?_drop] at hu
          split at hu
          · simpa using hu
          · cases hu) ad 1 c [wv p.1, wv p.2] rfl hnews (by omega) hmx (by omega)
      rcases ho.2 with ⟨_, h0⟩ | ⟨g, cap', cur', rfl, hbg, hh, hnc, hm, hcs, htk'⟩
      · omega
      · refine ⟨g, 0, cap', w', hrun, .inr ⟨g, 0, cap', cur', by rw [hlen], hh, by rw [hlen]; omega, by rw [hlen]; exact hnc, hm, by omega, ?_⟩, ⟨hg.os, hg.tape, hg.output, hg.size, fun k hk _ => hg.block k hk (by simp)⟩, .inr hbg⟩
        · rw [List.drop_zero, hlen, hflat]
          exact htk'
  
/-- At the operation; at a step of a region that draws its order. -/
theorem wp_append_tail {w : World} {o : Oper} {a : Act} {K : Act → World → Prop} {Q : Exit → Act → World → Prop} (s x : Operand)
    (ho : o.op = .call { callee := .builtin .append, args := #[s, x], argTypes := #[126, 126] }) (v : Value) (l : List (Nat × Nat)) (p : Nat × Nat) (hs : a.eval s = v) (ht : Tail w v l) (hn : l.length ≤ 1000000000)
    (ad : Addr) (c : Nat) (hx : a.eval x = .slice (some ad) 1 c) (hnews : ∀ j u, [wv p.1, wv p.2][j]? = some u → w.cell? (ad.add j) = some u)
    (h : ∀ h off cap w', Tail w' (.slice (some ⟨h, off, none⟩) (l.length + 1) cap) (l ++ [p]) → w.grownBy w' v.ownBlock → (v.ownBlock = some h ∨ w.heap.size ≤ h) → K (a.put o.dst (.slice (some ⟨h, off, none⟩) (l.length + 1) cap)) w') : o.wp Tryz.prog a w K Q := by
  obtain ⟨g, off, cap, w', hr, h2, h3, h4⟩ := run_append_tail (ty := o.type) p ht hn ad c hnews
  unfold Oper.wp execOp
  simp only [ho, resolve, invoke, builtin, Sem.run_bind, Sem.run_pure, Result.andThen_ok, List.map_toArray, List.map_cons, List.map_nil, hs, hx, hr]
  exact h g off cap w' h2 h3 h4
theorem step_append_tail {w : World} {ops : Array Oper} {o : Oper} {a : Act} {K : Act → World → Prop} {Q : Exit → Act → World → Prop} {E : Prop} (hgd : o.guard = none) (s x : Operand)
    (ho : o.op = .call { callee := .builtin .append, args := #[s, x], argTypes := #[126, 126] }) (v : Value) (l : List (Nat × Nat)) (p : Nat × Nat) (hs : a.eval s = v) (ht : Tail w v l) (hn : l.length ≤ 1000000000)
    (ad : Addr) (c : Nat) (hx : a.eval x = .slice (some ad) 1 c) (hnews : ∀ j u, [wv p.1, wv p.2][j]? = some u → w.cell? (ad.add j) = some u)
    (h : ∀ h off cap w', Tail w' (.slice (some ⟨h, off, none⟩) (l.length + 1) cap) (l ++ [p]) → w.grownBy w' v.ownBlock → (v.ownBlock = some h ∨ w.heap.size ≤ h) → K (a.put o.dst (.slice (some ⟨h, off, none⟩) (l.length + 1) cap)) w') :
    if Region.wanted o (yielded ops a.tmps) = true then Oper.wp Tryz.prog o a w K Q else E := by
  have hw : Region.wanted o (yielded ops a.tmps) = true := by simp [Region.wanted, hgd]
  rw [if_pos hw]
  exact wp_append_tail s x ho v l p hs ht hn ad c hx hnews h
end Go.Proofs.YthibbcokpmckfaaGreatDoor
/- Store: the word at an address turns, and the store is pending; for addresses of words, words that fit, lines of at most 10^9 stores. -/
namespace Go.Proofs.YthibbcokpmckfaaGreatDoor
open Go.RowKit
set_option linter.unusedVariables false
attribute [local go_sem ↓] Go.wp_at_zero Go.wp_at_succ

/-- A store: the state behind it. -/
def St.store (s : St) (a v : Nat) : St := { s with view := s.view.set (a / 8) v, pend := s.pend.set (a / 64) (s.pend.getD (a / 64) [] ++ [(a, v)]), st := s.st + 1 }
def StPost (w : World) (y : Lay) (s' : St) (k : Int) (e : Ending) (w' : World) : Prop := e = .returned (.int .i64 k) ∧ ∃ y', MemAt w' y' s' ∧ Turn w w' y y'

theorem set_map (l : List Nat) (i v : Nat) : (l.map wv).set i (wv v) = (l.set i v).map wv := (List.map_set).symm

/-- The memory behind a store, put together. -/
theorem store_mem {w W0 W1 w1 : World} {y : Lay} {s : St} {a v i h off cap : Nat} {V : Value} {l : List (Nat × Nat)} (hm : MemAt w y s) (hi : i = a / 64) (ha : a < 64 * s.nl) (hV : y.ps[i]? = some V) (hl : s.pend[i]? = some l)
    (h0 : W0 = (w.setCell ⟨y.g, 5, none⟩ (wv (s.st + 1))).setCell ⟨y.gv, a / 8, none⟩ (wv v)) (h1 : Below W0.heap.size W0 W1)
    (ht : Tail w1 (.slice (some ⟨h, off, none⟩) (l.length + 1) cap) (l ++ [(a, v)])) (hg : W1.grownBy w1 V.ownBlock) (hh : V.ownBlock = some h ∨ W1.heap.size ≤ h) :
    ∃ y', MemAt (w1.setCell ⟨y.gp, i, none⟩ (.slice (some ⟨h, off, none⟩) (l.length + 1) cap)) y' (s.store a v) ∧ Turn w (w1.setCell ⟨y.gp, i, none⟩ (.slice (some ⟨h, off, none⟩) (l.length + 1) cap)) y y' := by
  have hd := hm.differ
  have hin : i < s.nl := by omega
  have hpl := ps_len hm
  have hs0 : W0.heap.size = w.heap.size := by rw [h0]; simp [World.setCell]
  have hk0 : ∀ k, k ≠ y.g → k ≠ y.gv → W0.heap[k]? = w.heap[k]? := by
    intro k h1 h2
    rw [h0, heap_setCell_other _ _ _ _ h2, heap_setCell_other _ _ _ _ h1]
  have hk2 : ∀ k, k < W0.heap.size → V.ownBlock ≠ some k → k ≠ y.gp → (w1.setCell ⟨y.gp, i, none⟩ (.slice (some ⟨h, off, none⟩) (l.length + 1) cap)).heap[k]? = W0.heap[k]? := by
    intro k h2 h3 h4
    rw [heap_setCell_other _ _ _ _ h4, hg.block k (Nat.lt_of_lt_of_le h2 h1.size) (fun e => h3 e.symm), h1.block k h2]
  have hk : ∀ k, k < w.heap.size → V.ownBlock ≠ some k → k ≠ y.gp → k ≠ y.g → k ≠ y.gv → (w1.setCell ⟨y.gp, i, none⟩ (.slice (some ⟨h, off, none⟩) (l.length + 1) cap)).heap[k]? = w.heap[k]? := by
    intro k h2 h3 h4 h5 h6
    rw [hk2 k (by omega) h3 h4, hk0 k h5 h6]
  have hVne := fun k => hd.tail i V k hV
  have hgV : V.ownBlock ≠ some y.g := fun e => (hVne _ e).1 rfl
  have hglV : V.ownBlock ≠ some y.gl := fun e => (hVne _ e).2.1 rfl
  have hgvV : V.ownBlock ≠ some y.gv := fun e => (hVne _ e).2.2.1 rfl
  have hgpV : V.ownBlock ≠ some y.gp := fun e => (hVne _ e).2.2.2.1 rfl
  have hmbV : V.ownBlock ≠ some y.mb := fun e => (hVne _ e).2.2.2.2 rfl
  have hsz1 : W1.heap.size ≤ w1.heap.size := hg.size
  have hgt : ∀ k, V.ownBlock = some k → k < w.heap.size := fun k e => hm.lt k (.inr (.inr (.inr (.inr (.inr ⟨i, V, hV, e⟩)))))
  have hpsn : ∀ (j : Nat) (u : Value), j ≠ i → (y.ps.set i (Value.slice (some ⟨h, off, none⟩) (l.length + 1) cap))[j]? = some u → y.ps[j]? = some u := by
    intro j u hj hu
    rwa [List.getElem?_set_ne (by omega)] at hu
  have hpsi : (y.ps.set i (Value.slice (some ⟨h, off, none⟩) (l.length + 1) cap))[i]? = some (.slice (some ⟨h, off, none⟩) (l.length + 1) cap) := List.getElem?_set_self (by omega)
  have hhk : ∀ j u, j ≠ i → y.ps[j]? = some u → u.ownBlock ≠ some h := by
    intro j u hj hu e
    rcases hh with hh | hh
    · exact hm.apart j i u V h hj hu hV e hh
    · have := hm.lt h (.inr (.inr (.inr (.inr (.inr ⟨j, u, hu, e⟩)))))
      have := h1.size
      omega
  refine ⟨{ y with ps := y.ps.set i (.slice (some ⟨h, off, none⟩) (l.length + 1) cap) }, ⟨?_, ?_, ?_, hm.ne, ?_, ?_, ?_, ?_, ?_, hm.pos, hm.most⟩, rfl, ?_, ?_⟩
  · refine Row.same (w := W0) ?_ (hk2 _ (by rw [hs0]; exact hm.row.lt) hgV hd.g_gp)
    rw [h0]
    exact (hm.row.set 5 _).other hd.g_gv _
  · exact own_same hm.las (hk _ (own_lt hm.las) hglV hd.gl_gp (Ne.symm hd.g_gl) hd.gl_gv)
  · have h2 := own_stored (own_same (w' := w.setCell ⟨y.g, 5, none⟩ (wv (s.st + 1))) hm.vie (heap_setCell_other _ _ _ _ (Ne.symm hd.g_gv))) (a / 8) (wv v)
    rw [set_map, ← h0] at h2
    exact own_same h2 (hk2 _ (by rw [hs0]; exact own_lt hm.vie) hgvV hd.gv_gp)
  · have h2 : w1.heap[y.gp]? = w.heap[y.gp]? := by
      have := own_lt hm.pen
      rw [hg.block _ (by have := h1.size; omega) (Ne.symm hgpV), h1.block _ (by omega), hk0 _ (Ne.symm hd.g_gp) (Ne.symm hd.gv_gp)]
    exact own_stored (own_same hm.pen h2) i _
  · show (s.pend.set _ _).length = s.nl
    rw [List.length_set]
    exact hm.plen
  · intro j hj u m hu hmm
    by_cases e : j = i
    · subst e
      rw [hpsi] at hu
      cases hu
      have e2 : (s.store a v).pend = s.pend.set j (s.pend.getD j [] ++ [(a, v)]) := by rw [hi]; rfl
      rw [e2, List.getElem?_set_self (by have := hm.plen; omega), List.getD_eq_getElem?_getD, hl] at hmm
      cases hmm
      exact ht.same fun k hk' => heap_setCell_other _ _ _ _ (by
        rintro rfl
        have hk'' : y.gp = h := by
          have := Option.some.inj hk'
          exact this.symm
        rcases hh with hh | hh
        · exact hgpV (by rw [hh, hk''])
        · have := own_lt hm.pen
          have := h1.size
          omega)
    · have hu' := hpsn j u e hu
      have e2 : (s.store a v).pend = s.pend.set i (s.pend.getD i [] ++ [(a, v)]) := by rw [hi]; rfl
      rw [e2, List.getElem?_set_ne (by omega)] at hmm
      refine (hm.tails j hj u m hu' hmm).same fun k hk' => ?_
      obtain ⟨n1, n2, n3, n4, n5⟩ := hd.tail j u k hu' hk'
      exact hk k (hm.lt k (.inr (.inr (.inr (.inr (.inr ⟨j, u, hu', hk'⟩)))))) (fun e' => hm.apart j i u V k e hu' hV hk' e') n4 n1 n3
  · intro j1 j2 v1 v2 k hj hv1 hv2 hk1 hk2'
    by_cases e1 : j1 = i
    · subst e1
      rw [hpsi] at hv1
      cases hv1
      have : h = k := by simpa [Value.ownBlock] using hk1
      subst this
      exact hhk j2 v2 (Ne.symm hj) (hpsn j2 v2 (Ne.symm hj) hv2) hk2'
    · by_cases e2 : j2 = i
      · subst e2
        rw [hpsi] at hv2
        cases hv2
        have : h = k := by simpa [Value.ownBlock] using hk2'
        subst this
        exact hhk j1 v1 hj (hpsn j1 v1 hj hv1) hk1
      · exact hm.apart j1 j2 v1 v2 k hj (hpsn j1 v1 e1 hv1) (hpsn j2 v2 e2 hv2) hk1 hk2'
  · exact hm.marks.same (hk _ hm.marks.lt hmbV (Ne.symm hd.gp_mb) (Ne.symm hd.g_mb) (Ne.symm hd.gv_mb))
  · refine ⟨?_, ?_, ?_, ?_, ?_⟩
    · exact hg.os.trans (h1.os.trans (by rw [h0]; rfl))
    · exact hg.tape.trans (h1.tape.trans (by rw [h0]; rfl))
    · exact hg.output.trans (h1.output.trans (by rw [h0]; rfl))
    · have := h1.size
      simp only [World.setCell, Array.size_modify]
      omega
    · intro k hk' hn
      exact hk k hk' (fun e => hn (.inr (.inr (.inr (.inr (.inr ⟨i, V, hV, e⟩)))))) (fun e => hn (.inr (.inr (.inr (.inl e))))) (fun e => hn (.inl e)) (fun e => hn (.inr (.inr (.inl e))))
  · rintro k (rfl | rfl | rfl | rfl | rfl | ⟨j, u, hu, hk'⟩)
    · exact .inl (.inl rfl)
    · exact .inl (.inr (.inl rfl))
    · exact .inl (.inr (.inr (.inl rfl)))
    · exact .inl (.inr (.inr (.inr (.inl rfl))))
    · exact .inl (.inr (.inr (.inr (.inr (.inl rfl)))))
    · by_cases e : j = i
      · subst e
        have hu2 : (Value.slice (some ⟨h, off, none⟩) (l.length + 1) cap) = u := by
          have : (y.ps.set j (Value.slice (some ⟨h, off, none⟩) (l.length + 1) cap))[j]? = some u := hu
          rw [hpsi] at this
          exact Option.some.inj this
        subst hu2
        have : h = k := by simpa [Value.ownBlock] using hk'
        subst this
        rcases hh with hh | hh
        · exact .inl (.inr (.inr (.inr (.inr (.inr ⟨j, V, hV, hh⟩)))))
        · exact .inr (by have := h1.size; omega)
      · exact .inl (.inr (.inr (.inr (.inr (.inr ⟨j, u, hpsn j u e hu, hk'⟩)))))

theorem store_no {p : Option Addr} {w : World} (h : NoMem w p) (a v : Int) : Calls Tryz.prog 112 #[.pointer p, .int .u64 a, .int .u64 v] w fun e w' => e = .returned (.int .i64 1) ∧ w = w' := by
  have H := Lib.hid (refused_no h true a)
  clear h
  go_enter Tryz.func112, Tryz.ntmps112
  go_wp2_with fail
  refine H.out.mono ?_
  rintro e w1 ⟨rfl, rfl⟩
  go_wp2
  go_ret
  exact ⟨rfl, rfl⟩
theorem store_range {w : World} {y : Lay} {s : St} (h : MemAt w y s) (a : Nat) (v : Int) (ha : a % 8 ≠ 0 ∨ 64 * s.nl ≤ a) : Calls Tryz.prog 112 #[.pointer (some ⟨y.g, 0, none⟩), .int .u64 (a : Int), .int .u64 v] w fun e w' => e = .returned (.int .i64 3) ∧ w = w' := by
  have H := Lib.hid (refused_range h a ha)
  obtain ⟨g, hg⟩ : ∃ g, g = y.g := ⟨_, rfl⟩
  rw [← hg] at H ⊢
  clear h ha hg
  go_enter Tryz.func112, Tryz.ntmps112
  go_wp2_with fail
  refine H.out.mono ?_
  rintro e w1 ⟨rfl, rfl⟩
  go_wp2
  go_ret
  exact ⟨rfl, rfl⟩
set_option maxRecDepth 100000 in
set_option maxHeartbeats 3200000 in
theorem store_ok {w : World} {y : Lay} {s : St} (h : MemAt w y s) (a v : Nat) (h8 : a % 8 = 0) (ha : a < 64 * s.nl) (hv : v < 18446744073709551616) (hst : s.st < 9223372036854775808) (hn : ∀ l ∈ s.pend, l.length ≤ 1000000000) :
    Calls Tryz.prog 112 #[.pointer (some ⟨y.g, 0, none⟩), .int .u64 (a : Int), .int .u64 (v : Int)] w (StPost w y (s.store a v) 0) := by
  have HR := Lib.hid (refused_ok h a h8 ha)
  have hmost := h.most
  have HL := Lib.hid fun W => lineOf_any a W (by omega)
  obtain ⟨V, l, hV, hl, ht⟩ := ps_get h (j := a / 64) (by omega)
  have hll := hn l (List.mem_of_getElem? hl)
  have hd := h.differ
  obtain ⟨i, hi⟩ : ∃ i, i = a / 64 := ⟨_, rfl⟩
  rw [← hi] at hV hl HL
  have c1 := h.row.cell 1
  have c2 := h.row.cell 2
  have c5 := h.row.cell 5
  simp only [List.getElem?_toArray, List.getElem?_cons_succ, List.getElem?_cons_zero] at c1 c2 c5
  have f5 := h.row.free 5
  obtain ⟨cv, hcv⟩ := own_at h.vie
  have cvv : ∃ u, w.cell? ⟨y.gv, a / 8, none⟩ = some u := by
    rw [h.vie.cellAt (a / 8) (by omega)]
    have : a / 8 < (s.view.map wv).length := by have := h.vie.1; omega
    exact ⟨_, List.getElem?_eq_getElem this⟩
  obtain ⟨u, cvv⟩ := cvv
  have fv : w.frozen? ⟨y.gv, a / 8, none⟩ = false := hcv.free _
  obtain ⟨cp, hcp⟩ := own_at h.pen
  have cpp : w.cell? ⟨y.gp, i, none⟩ = some V := by rw [h.pen.cellAt i (by omega), hV]
  have fp : w.frozen? ⟨y.gp, i, none⟩ = false := hcp.free _
  obtain ⟨N, hN⟩ : ∃ N, N = 8 * s.nl := ⟨_, rfl⟩
  rw [← hN] at c1
  have ebN : (a : Int) / 8 < (N : Int) := by omega
  have hin : i < s.nl := by omega
  have haB : a < 1048576 := by omega
  unfold wv at c5
  have cv1 : (w.setCell ⟨y.g, 5, none⟩ (.int .u64 ((s.st : Int) + 1))).cell? ⟨y.gv, a / 8, none⟩ = some u := by
    rw [cell_far hd.g_gv]
    exact cvv
  have HM := Lib.hid h
  have HI := Lib.hid hi
  have HA := Lib.hid ha
  clear h hi ha hN hn h8
  go_enter Tryz.func112, Tryz.ntmps112
  go_wp2_with fail
  refine HR.out.mono ?_
  rintro e w1 ⟨rfl, rfl⟩
  go_wp2_with fail
  refine (HL.out _).mono ?_
  rintro e w2 ⟨rfl, rfl⟩
  go_wp2_with fail
  obtain ⟨W0, hW0⟩ : ∃ W0, W0 = (w.setCell ⟨y.g, 5, none⟩ (wv (s.st + 1))).setCell ⟨y.gv, a / 8, none⟩ (wv v) := ⟨_, rfl⟩
  have hW1 := hW0
  have e1 : wv (s.st + 1) = .int .u64 ((s.st : Int) + 1) := rfl
  have e2 : wv v = .int .u64 (v : Int) := rfl
  rw [e1, e2] at hW1
  rw [← hW1]
  have d2 : W0.cell? ⟨y.g, 2, none⟩ = some (.slice (some ⟨y.gp, 0, none⟩) s.nl y.cp) := by
    rw [hW1, cell_far (Ne.symm hd.g_gv), cell_else (by decide)]
    exact c2
  have dp : W0.cell? ⟨y.gp, i, none⟩ = some V := by
    rw [hW1, cell_far hd.gv_gp, cell_far hd.g_gp]
    exact cpp
  have hk0 : ∀ k, k ≠ y.g → k ≠ y.gv → W0.heap[k]? = w.heap[k]? := by
    intro k h1 h2
    rw [hW1, heap_setCell_other _ _ _ _ h2, heap_setCell_other _ _ _ _ h1]
  have hz : W0.heap.size = w.heap.size := by rw [hW1]; simp [World.setCell]
  have ht0 : Tail W0 V l := ht.same fun k hk => hk0 k (hd.tail i V k hV hk).1 (hd.tail i V k hV hk).2.2.1
  have fp0 : W0.frozen? ⟨y.gp, i, none⟩ = false := by rw [World.frozen?_of_block (hk0 y.gp (Ne.symm hd.g_gp) (Ne.symm hd.gv_gp))]; exact fp
  have n1 : V.ownBlock ≠ some y.g := fun e => (hd.tail i V _ hV e).1 rfl
  have n2 : V.ownBlock ≠ some y.gp := fun e => (hd.tail i V _ hV e).2.2.2.1 rfl
  have l1 : y.g < W0.heap.size := by rw [hz]; exact HM.out.row.lt
  have l2 : y.gp < W0.heap.size := by rw [hz]; exact own_lt HM.out.pen
  have i0 : (0 : Int) ≤ (i : Int) := by omega
  have i1 : (i : Int) < (s.nl : Int) := by omega
  have HT := Lib.hid fun W (hb : Below W0.heap.size W0 W) => ht0.same (w' := W) fun k hk => hb.block k (by rw [hz]; exact HM.out.lt k (.inr (.inr (.inr (.inr (.inr ⟨i, V, hV, hk⟩))))))
  have HD := Lib.hid hd
  have HV := Lib.hid hV
  have HLL := Lib.hid hl
  have HW := Lib.hid hW0
  have HK := Lib.hid hk0
  clear hW0 hW1 e1 e2 c1 c2 c5 f5 cv1 cvv fv cpp fp hcp hcv ht ht0 hd hV hl hk0 hz
  go_region_law ((refine step_append_tail (by rfl) (.tmp 45) (.tmp 49) (by rfl) V l (a, v) (by rfl) (HT.out _ (Below.and (alloc_below _ _) (drew_below _))) hll ⟨W0.heap.size, 0, none⟩ 1 (by rfl) (World.news_of_block (cs := #[wv a, wv v]) (t := 129) (fr := (0, 0)) (heap_alloc_new W0 _)) ?_; intro h off cap w1 htl hgrow hh; have fq : w1.frozen? ⟨y.gp, i, none⟩ = false := frozen_grown hgrow (by simp; omega) (Ne.symm n2) (by simp; exact (frozen_alloc l2 _).trans fp0); have dq : w1.cell? ⟨y.gp, i, none⟩ = some V := (hgrow.cell_far _ (by simp; omega) (Ne.symm n2)).trans (by simp; exact (World.cell?_alloc_lt _ _ _ l2).trans dp); have dg : w1.cell? ⟨y.g, 2, none⟩ = some (.slice (some ⟨y.gp, 0, none⟩) s.nl y.cp) := (hgrow.cell_far _ (by simp; omega) (Ne.symm n1)).trans (by simp; exact (World.cell?_alloc_lt _ _ _ l1).trans d2)))
  all_goals go_wp2
  all_goals go_ret
  all_goals exact ⟨rfl, store_mem HM.out HI.out HA.out HV.out HLL.out HW.out (Below.and (alloc_below _ _) (drew_below _)) htl hgrow hh⟩
end Go.Proofs.YthibbcokpmckfaaGreatDoor
/- Flush: what is pending of a line is marked; for states that a memory can have. -/
namespace Go.Proofs.YthibbcokpmckfaaGreatDoor
open Go.RowKit
set_option linter.unusedVariables false
attribute [local go_sem ↓] Go.wp_at_zero Go.wp_at_succ

/-- A flush: the state behind it. -/
def St.flush (s : St) (c a : Nat) : St :=
  { s with fl := s.fl + 1, mm := if (s.pend.getD (a / 64) []).length = 0 then s.mm else upd s.mm (a / 64) fun k => if k = c then (s.pend.getD (a / 64) []).length else s.mm (a / 64) k }
theorem mem_marks {w W : World} {y : Lay} {s s' : St} (hm : MemAt w y s) (e1 : s'.nl = s.nl) (e2 : s'.lasted = s.lasted) (e3 : s'.view = s.view) (e4 : s'.pend = s.pend)
    (hrow : Row W y.g 122 #[.slice (some ⟨y.gl, 0, none⟩) (8 * s.nl) y.cl, .slice (some ⟨y.gv, 0, none⟩) (8 * s.nl) y.cv, .slice (some ⟨y.gp, 0, none⟩) s.nl y.cp, .map (some y.mb), wv s'.ld, wv s'.st, wv s'.fl, wv s'.fe])
    (hk : ∀ k, y.fp k → k ≠ y.g → k ≠ y.mb → W.heap[k]? = w.heap[k]?) (hmk : MarksAt W y.mb s.nl s'.mm) : MemAt W y s' := by
  have hd := hm.differ
  obtain ⟨nl, la, vi, pe, mm, q1, q2, q3, q4⟩ := s'
  dsimp only at e1 e2 e3 e4 hrow hmk
  subst e1 e2 e3 e4
  refine ⟨hrow, own_same hm.las (hk _ (.inr (.inl rfl)) (Ne.symm hd.g_gl) hd.gl_mb), own_same hm.vie (hk _ (.inr (.inr (.inl rfl))) (Ne.symm hd.g_gv) hd.gv_mb), hm.ne, own_same hm.pen (hk _ (.inr (.inr (.inr (.inl rfl)))) (Ne.symm hd.g_gp) hd.gp_mb), hm.plen, ?_, hm.apart, hmk, hm.pos, hm.most⟩
  intro j hj v l hv hl
  exact (hm.tails j hj v l hv hl).same fun k hk' => hk k (.inr (.inr (.inr (.inr (.inr ⟨j, v, hv, hk'⟩))))) (hd.tail j v k hv hk').1 (hd.tail j v k hv hk').2.2.2.2
set_option maxRecDepth 100000 in
set_option maxHeartbeats 3200000 in
theorem flush_ok {w : World} {y : Lay} {s : St} (h : MemAt w y s) (ok : s.Ok) (c a : Nat) (hc : c ≤ 64) (h8 : a % 8 = 0) (ha : a < 64 * s.nl) :
    Calls Tryz.prog 138 #[.pointer (some ⟨y.g, 0, none⟩), .int .i64 (c : Int), .int .u64 (a : Int)] w (StPost w y (s.flush c a) 0) := by
  have HC := Lib.hid (isClient_any (c : Int) w)
  rw [show decide (0 ≤ (c : Int) ∧ (c : Int) ≤ 64) = true from by simp; omega] at HC
  have HR := Lib.hid (refused_ok h a h8 ha)
  have hmost := h.most
  have HL := Lib.hid fun W => lineOf_any a W (by omega)
  obtain ⟨V, l, hV, hl, ht⟩ := ps_get h (j := a / 64) (by omega)
  have hll := ok.few l (List.mem_of_getElem? hl)
  obtain ⟨A, cap, hVe, hcap⟩ := ht.len
  have hd := h.differ
  obtain ⟨i, hi⟩ : ∃ i, i = a / 64 := ⟨_, rfl⟩
  rw [← hi] at hV hl HL
  have c2 := h.row.cell 2
  have c3 := h.row.cell 3
  have c6 := h.row.cell 6
  simp only [List.getElem?_toArray, List.getElem?_cons_succ, List.getElem?_cons_zero] at c2 c3 c6
  have f6 := h.row.free 6
  have cpp : w.cell? ⟨y.gp, i, none⟩ = some V := by rw [h.pen.cellAt i (by omega), hV]
  have hin : i < s.nl := by omega
  have haB : a < 1048576 := by omega
  have hfl := ok.num.2.2.1
  unfold wv at c6
  have cp1 : (w.setCell ⟨y.g, 6, none⟩ (.int .u64 ((s.fl : Int) + 1))).cell? ⟨y.gp, i, none⟩ = some V := by
    rw [cell_far hd.g_gp]
    exact cpp
  subst hVe
  have HM := Lib.hid h
  have HI := Lib.hid hi
  have HO := Lib.hid ok
  have HA := Lib.hid ha
  have HT := Lib.hid ht
  have HD := Lib.hid hd
  have HV := Lib.hid hV
  have HLL := Lib.hid hl
  clear h hi ha h8 ok ht hd hV hl cpp
  by_cases hn : l.length = 0
  · go_enter Tryz.func138, Tryz.ntmps138
    go_wp2_with fail
    refine HC.out.mono ?_
    rintro e w1 ⟨rfl, rfl⟩
    go_wp2_with fail
    refine HR.out.mono ?_
    rintro e w1 ⟨rfl, rfl⟩
    go_wp2_with fail
    refine (HL.out _).mono ?_
    rintro e w2 ⟨rfl, rfl⟩
    go_wp2_with fail
    go_ret
    refine ⟨rfl, y, ?_, ?_⟩
    · have e : s.flush c a = { s with fl := s.fl + 1 } := by
        unfold St.flush
        rw [if_pos]
        rw [← HI.out, List.getD_eq_getElem?_getD, HLL.out]
        exact hn
      rw [e]
      exact mem_marks HM.out rfl rfl rfl rfl (HM.out.row.set 6 _) (fun k _ h1 _ => heap_setCell_other _ _ _ _ h1) (HM.out.marks.same (heap_setCell_other _ _ _ _ (Ne.symm HD.out.g_mb)))
    · refine ⟨rfl, ⟨rfl, rfl, rfl, by simp [World.setCell], fun k _ hn => heap_setCell_other _ _ _ _ (fun e => hn (.inl e))⟩, fun _ h => .inl h⟩
  · have hn1 : 0 < l.length := by omega
    clear hn
    go_enter Tryz.func138, Tryz.ntmps138
    go_wp2_with fail
    refine HC.out.mono ?_
    rintro e w1 ⟨rfl, rfl⟩
    go_wp2_with fail
    refine HR.out.mono ?_
    rintro e w1 ⟨rfl, rfl⟩
    go_wp2_with fail
    refine (HL.out _).mono ?_
    rintro e w2 ⟨rfl, rfl⟩
    obtain ⟨W0, hW0⟩ : ∃ W0, W0 = w.setCell ⟨y.g, 6, none⟩ (wv (s.fl + 1)) := ⟨_, rfl⟩
    have hW1 := hW0
    rw [show wv (s.fl + 1) = .int .u64 ((s.fl : Int) + 1) from rfl] at hW1
    rw [← hW1] at cp1 ⊢
    have hm0 : MarksAt W0 y.mb s.nl s.mm := by
      refine HM.out.marks.same ?_
      rw [hW1, heap_setCell_other _ _ _ _ (Ne.symm HD.out.g_mb)]
    have hlk := marks_look (i := i) hm0 (by omega) (by omega)
    rw [mkV_marr] at hlk
    obtain ⟨B, hB⟩ : ∃ B, B = marr (s.mm i) := ⟨_, rfl⟩
    rw [← hB] at hlk
    have d2 : W0.cell? ⟨y.g, 2, none⟩ = some (.slice (some ⟨y.gp, 0, none⟩) s.nl y.cp) := by
      rw [hW1, cell_else (by decide)]
      exact c2
    have d3 : W0.cell? ⟨y.g, 3, none⟩ = some (.map (some y.mb)) := by
      rw [hW1, cell_else (by decide)]
      exact c3
    have HB := Lib.hid hB
    have HW := Lib.hid hW0
    clear hW0 hW1 hm0 c2 c3 c6 f6
    have hfit : (Tryz.prog.info? 133).map (·.size) = some B.size := by rw [hB]; exact marr_fit _
    have hold : (Array.replicate 65 (Value.int .i64 0)).size = B.size := by rw [hB, marr_size]; rfl
    have hone : B.all (·.oneCell') = true := by rw [hB]; exact marr_one _
    clear hB
    have hr3 := Row.new W0 133 (Array.replicate 65 (Value.int .i64 0))
    have hrr : Row ((W0.alloc (.cells Tryz.zeroCells133 133)).setRow W0.heap.size B) W0.heap.size 133 B := (Row.new W0 133 Tryz.zeroCells133).setRow B
    have hcB : ((W0.alloc (.cells Tryz.zeroCells133 133)).setRow W0.heap.size B).cell? ⟨W0.heap.size, c, none⟩ = some (.int .i64 (s.mm i c : Int)) := by
      rw [hrr.cell, HB.out, marr_get _ _ (by omega)]
    have hfB : ((W0.alloc (.cells Tryz.zeroCells133 133)).setRow W0.heap.size B).frozen? ⟨W0.heap.size, c, none⟩ = false := hrr.free c
    have HRR := Lib.hid hrr
    clear hrr
    go_wp2_with (refine wpList_store_row rfl 133 (.tmp 10) (.tmp 45) rfl W0.heap.size B rfl rfl 133 _ hr3 hfit hold hone ?_)
    obtain ⟨W2, hW2⟩ : ∃ W2, W2 = ((W0.alloc (.cells Tryz.zeroCells133 133)).setRow W0.heap.size B).setCell ⟨W0.heap.size, c, none⟩ (.int .i64 (l.length : Int)) := ⟨_, rfl⟩
    rw [← hW2]
    have hb2 : Below W0.heap.size W0 W2 := by
      rw [hW2]
      exact (below_setRow (alloc_below _ _) (Nat.le_refl _) _).setCell (Nat.le_refl _) _
    have hr2 : Row W2 W0.heap.size 133 (marr fun k => if k = c then l.length else s.mm i k) := by
      have := HRR.out.set c (.int .i64 (l.length : Int))
      rw [hW2]
      rwa [HB.out, marr_set _ _ _ (by omega), ← HB.out] at this
    have hlt : y.g < W0.heap.size := block_lt_of_cell d3
    have e3 : W2.cell? ⟨y.g, 3, none⟩ = some (.map (some y.mb)) := (hb2.cell (p := ⟨y.g, 3, none⟩) hlt).trans d3
    have hm2 : MarksAt W2.drew y.mb s.nl s.mm := by
      have h1 : MarksAt W0 y.mb s.nl s.mm := HM.out.marks.same (by rw [HW.out, heap_setCell_other _ _ _ _ (Ne.symm HD.out.g_mb)])
      exact h1.same (hb2.block _ h1.lt)
    obtain ⟨W3, hup, hm3, hg3⟩ := marks_put (f := fun k => if k = c then l.length else s.mm i k) hm2 hin hmost ⟨c, by omega, by show (if c = c then l.length else s.mm i c) ≠ 0; rw [if_pos rfl]; omega⟩ (by
      intro k
      have := HO.out.mk_le i k
      show (if k = c then l.length else s.mm i k) ≤ _
      split <;> omega)
    rw [mkV_marr] at hup
    obtain ⟨Bl, hBl⟩ : ∃ Bl : List Value, Bl.toArray = marr fun k => if k = c then l.length else s.mm i k := ⟨_, Array.toArray_toList⟩
    rw [← hBl] at hup hr2
    have hra : W2.rangeAt W0.heap.size 0 Bl := by
      intro j v hv
      rw [Nat.zero_add, hr2.cell]
      simpa using hv
    have hu := Tryz.underlying133
    have hiB : (Tryz.prog.info? 133).map (·.size) = some Bl.length := by
      rw [size133]
      have : Bl.toArray.size = 65 := by rw [hBl, marr_size]
      simpa using this.symm
    have hmbl : y.mb < W0.heap.size := by
      have := HM.out.marks.lt
      rw [HW.out]
      simpa [World.setCell] using this
    have hra3 : W3.rangeAt W0.heap.size 0 Bl := by
      intro j v hv
      rw [World.cell?_of_block (hg3.block W0.heap.size (by have := hb2.size; have := hr2.lt; simpa using this) (by intro e; have e := Option.some.inj e; omega))]
      exact hra j v hv
    have e33 : W3.cell? ⟨y.g, 3, none⟩ = some (.map (some y.mb)) := by
      rw [World.cell?_of_block (hg3.block y.g (by have := hb2.size; show y.g < W2.heap.size; omega) (by intro e; exact HD.out.g_mb (Option.some.inj e)))]
      exact e3
    have HBL := Lib.hid hBl
    have HW2 := Lib.hid hW2
    have HB2 := Lib.hid hb2
    have HM3 := Lib.hid hm3
    have HG3 := Lib.hid hg3
    clear hmbl hW2 hb2 hr2 hm2 hm3 hg3 hBl hr3 hcB hfB hlk hfit hold hone d2 d3 cp1
    go_region_held3 (fun w' => w'.cell? ⟨y.g, 3, none⟩ = some (.map (some y.mb)) ∧ w'.rangeAt W0.heap.size 0 Bl) (first | exact ⟨e3, hra⟩ | exact ⟨e33, hra3⟩) (fail)
    go_wp2
    go_ret
    have hs0 : W0.heap.size = w.heap.size := by rw [HW.out]; simp [World.setCell]
    have hs2 := HB2.out.size
    have hk3 : ∀ k, k < w.heap.size → k ≠ y.g → k ≠ y.mb → W3.heap[k]? = w.heap[k]? := by
      intro k h1 h2 h3
      rw [HG3.out.block k (by show k < W2.heap.size; omega) (fun e => h3 (Option.some.inj e))]
      show W2.heap[k]? = _
      rw [HB2.out.block k (by omega), HW.out, heap_setCell_other _ _ _ _ h2]
    refine ⟨rfl, y, ?_, ?_⟩
    · refine mem_marks (W := W3) HM.out rfl rfl rfl rfl ?_ ?_ ?_
      · have r0 := HM.out.row.set 6 (wv (s.fl + 1))
        rw [← HW.out] at r0
        have r2 := r0.below HB2.out r0.lt
        exact (HG3.out.block y.g (by show y.g < W2.heap.size; exact r2.lt) (fun e => HD.out.g_mb (Option.some.inj e))).trans r2
      · exact fun k h1 h2 h3 => hk3 k (HM.out.lt k h1) h2 h3
      · have e : (s.flush c a).mm = upd s.mm i fun k => if k = c then l.length else s.mm i k := by
          unfold St.flush
          rw [← HI.out, List.getD_eq_getElem?_getD, HLL.out]
          exact if_neg (by show ¬ l.length = 0; omega)
        rw [e]
        exact HM3.out
    · refine ⟨rfl, ⟨HG3.out.os.trans (HB2.out.os.trans (by rw [HW.out]; rfl)), HG3.out.tape.trans (HB2.out.tape.trans (by rw [HW.out]; rfl)), HG3.out.output.trans (HB2.out.output.trans (by rw [HW.out]; rfl)), ?_, fun k h1 hn => hk3 k h1 (fun e => hn (.inl e)) (fun e => hn (.inr (.inr (.inr (.inr (.inl e))))))⟩, fun _ h => .inl h⟩
      have : W2.heap.size ≤ W3.heap.size := HG3.out.size
      omega

theorem flush_no {p : Option Addr} {w : World} (h : NoMem w p) (c a : Int) : Calls Tryz.prog 138 #[.pointer p, .int .i64 c, .int .u64 a] w fun e w' => e = .returned (.int .i64 1) ∧ w = w' := by
  have HC := Lib.hid (isClient_any c w)
  have H := Lib.hid fun f => refused_no h f a
  clear h
  go_enter Tryz.func138, Tryz.ntmps138
  go_wp2_with fail
  refine HC.out.mono ?_
  rintro e w1 ⟨rfl, rfl⟩
  go_wp2_with fail
  refine (H.out _).mono ?_
  rintro e w1 ⟨rfl, rfl⟩
  go_wp2
  go_ret
  exact ⟨rfl, rfl⟩
theorem flush_arg {w : World} {y : Lay} {s : St} (h : MemAt w y s) (c a : Int) (hc : c < 0 ∨ 64 < c) : Calls Tryz.prog 138 #[.pointer (some ⟨y.g, 0, none⟩), .int .i64 c, .int .u64 a] w fun e w' => e = .returned (.int .i64 2) ∧ w = w' := by
  have HC := Lib.hid (isClient_any c w)
  rw [show decide (0 ≤ c ∧ c ≤ 64) = false from by simp; omega] at HC
  have H := Lib.hid (refused_arg h a)
  obtain ⟨g, hg⟩ : ∃ g, g = y.g := ⟨_, rfl⟩
  rw [← hg] at H ⊢
  clear h hc hg
  go_enter Tryz.func138, Tryz.ntmps138
  go_wp2_with fail
  refine HC.out.mono ?_
  rintro e w1 ⟨rfl, rfl⟩
  go_wp2_with fail
  refine H.out.mono ?_
  rintro e w1 ⟨rfl, rfl⟩
  go_wp2
  go_ret
  exact ⟨rfl, rfl⟩
theorem flush_range {w : World} {y : Lay} {s : St} (h : MemAt w y s) (c : Int) (a : Nat) (hc : 0 ≤ c ∧ c ≤ 64) (ha : a % 8 ≠ 0 ∨ 64 * s.nl ≤ a) : Calls Tryz.prog 138 #[.pointer (some ⟨y.g, 0, none⟩), .int .i64 c, .int .u64 (a : Int)] w fun e w' => e = .returned (.int .i64 3) ∧ w = w' := by
  have HC := Lib.hid (isClient_any c w)
  rw [show decide (0 ≤ c ∧ c ≤ 64) = true from by simp; omega] at HC
  have H := Lib.hid (refused_range h a ha)
  obtain ⟨g, hg⟩ : ∃ g, g = y.g := ⟨_, rfl⟩
  rw [← hg] at H ⊢
  clear h hc hg ha
  go_enter Tryz.func138, Tryz.ntmps138
  go_wp2_with fail
  refine HC.out.mono ?_
  rintro e w1 ⟨rfl, rfl⟩
  go_wp2_with fail
  refine H.out.mono ?_
  rintro e w1 ⟨rfl, rfl⟩
  go_wp2
  go_ret
  exact ⟨rfl, rfl⟩
end Go.Proofs.YthibbcokpmckfaaGreatDoor
/- A map that is gone over while its entries are written anew or struck: what is left stays what it was, but for those that are struck; without conditions. -/
namespace Go.Proofs.YthibbcokpmckfaaGreatDoor
open Go.RowKit Go.Maps Go.ChangeMaps Go.MapKept
open Go.WideElems (Fit rd rg pl rd_val rd_key rg_of)
set_option linter.unusedVariables false

/-- The map's entries behind are some of those ahead, by their stamps and keys; the clock stands. -/
def MapStep (w w' : World) (b : Nat) : Prop :=
  ∀ es clock, w.heap[b]? = some (.map es clock) → ∃ es' : Array MapEntry, w'.heap[b]? = some (.map es' clock) ∧ ∀ x' ∈ es'.toList, ∃ x ∈ es.toList, x.born = x'.born ∧ x.key = x'.key
theorem MapStep.same {w w' : World} {b : Nat} (h : w'.heap[b]? = w.heap[b]?) : MapStep w w' b := fun es c he => ⟨es, h.trans he, fun x hx => ⟨x, hx, rfl, rfl⟩⟩
theorem MapStep.trans {w w1 w2 : World} {b : Nat} (h : MapStep w w1 b) (h2 : MapStep w1 w2 b) : MapStep w w2 b := by
  intro es c he
  obtain ⟨es1, h1, hx1⟩ := h es c he
  obtain ⟨es2, h3, hx2⟩ := h2 es1 c h1
  refine ⟨es2, h3, fun x hx => ?_⟩
  obtain ⟨x1, m1, b1, k1⟩ := hx2 x hx
  obtain ⟨x0, m0, b0, k0⟩ := hx1 x1 m1
  exact ⟨x0, m0, b0.trans b1, k0.trans k1⟩

theorem own_one {w : World} {P : Program} {k : TypeId} {R : Value → Option (DataW Unit × List MemPlace)} {b n n' : Nat} {D D' : DataW Unit} (h : w.ownsMap P k R b n D) (h' : w.ownsMap P k R b n' D') : D = D' := by
  obtain ⟨es, c, hb, _, _, rfl⟩ := h
  obtain ⟨es', c', hb', _, _, rfl⟩ := h'
  rw [hb] at hb'
  injection hb' with hb'
  injection hb' with e1 e2
  rw [e1]

section
variable {P : Program} {k : TypeId} {R : Value → Option (DataW Unit × List MemPlace)} {w w' : World} {b r n n' : Nat} {D D' : DataW Unit} {left : Lit → Bool} {cnt : Nat}
theorem has_entry {es : Array MapEntry} {c : Nat} (K : Keyed P k) (F : Fit P k R es c) (kl : Lit) : Maps.has (.map ((es.toList.map (rg P k R)).foldr DataW.insert [])) kl = true ↔ ∃ x ∈ es.toList, (rg P k R x).1 = kl := by
  rw [Maps.has_eq, List.any_eq_true]
  constructor
  · rintro ⟨p, hp, hs⟩
    obtain ⟨x, hx, rfl⟩ := List.mem_map.1 (mem_sorted.1 hp)
    exact ⟨x, hx, WideAt.sameKey_eq hs⟩
  · rintro ⟨x, hx, rfl⟩
    refine ⟨_, mem_sorted.2 (List.mem_map.2 ⟨x, hx, rfl⟩), ?_⟩
    obtain ⟨y, hy⟩ := F.reads x hx
    rw [rg_of hy]
    exact WideAt.sameKey_self (K.key (rd_key hy))
theorem rg_key {es : Array MapEntry} {c : Nat} (F : Fit P k R es c) {x : MapEntry} (hx : x ∈ es.toList) : keyOf P k x.key = some (rg P k R x).1 := by
  obtain ⟨y, hy⟩ := F.reads x hx
  rw [rg_of hy]
  exact rd_key hy
theorem left_has (h : w.ranges P k R b r n D left cnt) (K : Keyed P k) {kl : Lit} (hl : left kl = true) : Maps.has D kl = true := by
  obtain ⟨es, clock, since, seen, c0, hb, F, hs, rfl, hr, hold, hc, hl1, hl2, _⟩ := h
  exact (has_entry K F kl).2 (hl2 kl hl)
/-- The range goes on behind such a step. -/
theorem ranges_step (h : w.ranges P k R b r n D left cnt) (K : Keyed P k) (hst : MapStep w w' b) (hr' : w'.heap[r]? = w.heap[r]?) (hown : w'.ownsMap P k R b n' D') :
    ∃ cnt', w'.ranges P k R b r n' D' (fun kl => left kl && Maps.has D' kl) cnt' ∧ cnt' ≤ cnt := by
  obtain ⟨es, clock, since, seen, c0, hb, F, hs, rfl, hr, hold, hc, hl1, hl2, h1, h2⟩ := h
  obtain ⟨es', hb', hx'⟩ := hst es clock hb
  obtain ⟨es2, c2, hb2, F', hs', rfl⟩ := hown
  rw [hb'] at hb2
  injection hb2 with hb2
  injection hb2 with e1 e2
  subst e1 e2
  have same : ∀ x ∈ es.toList, ∀ x' ∈ es'.toList, x.key = x'.key → (rg P k R x').1 = (rg P k R x).1 := by
    intro x hx x' hx' e
    obtain ⟨y, hy⟩ := F.reads x hx
    obtain ⟨y', hy'⟩ := F'.reads x' hx'
    rw [rg_of hy, rg_of hy']
    have m1 := rd_key hy
    have m2 := rd_key hy'
    rw [e, m2] at m1
    exact Option.some.inj m1
  refine ⟨(leftOf es' seen).size, ⟨es', clock, since, seen, c0, hb', F', hs', rfl, hr'.trans hr, ?_, rfl, ?_, ?_, h1, h2⟩, ?_⟩
  · intro x hx
    obtain ⟨x0, m0, b0, _⟩ := hx' x hx
    rw [← b0]
    exact hold x0 m0
  · intro x hx
    obtain ⟨x0, m0, b0, k0⟩ := hx' x hx
    dsimp only
    rw [(has_entry K F' _).2 ⟨x, hx, rfl⟩, Bool.and_true, same x0 m0 x hx k0, hl1 x0 m0, b0]
  · intro kl hkl
    simp only [Bool.and_eq_true] at hkl
    exact (has_entry K F' kl).1 hkl.2
  · subst hc
    have e1 : ∀ a : Array MapEntry, (leftOf a seen).size = ((a.toList.filter fun e => !seen.contains e.born).map MapEntry.born).length := fun a => by
      unfold leftOf
      rw [← Array.toList_filter, List.length_map, Array.length_toList]
    rw [e1, e1]
    refine List.Nodup.length_le_of_subset ?_ ?_
    · have := F'.stamped.2.1
      exact (List.Sublist.map _ List.filter_sublist).nodup this
    · intro q hq
      obtain ⟨x, hx, rfl⟩ := List.mem_map.1 hq
      rw [List.mem_filter] at hx
      obtain ⟨x0, m0, b0, _⟩ := hx' x hx.1
      exact List.mem_map.2 ⟨x0, List.mem_filter.2 ⟨m0, by rw [b0]; exact hx.2⟩, b0⟩
end

set_option maxRecDepth 100000 in
/-- A store at a key that is there, and a deletion, are such steps. -/
theorem put_step {w w' : World} {mb nl i : Nat} {m : Nat → Nat → Nat} {f : Nat → Nat} (h : MarksAt w mb nl m) (hi : i < nl) (hb : nl ≤ 16384) (hs : someMk (m i))
    (hrun : (Instr.mapUpdate 118 (.map (some mb)) (.int .i64 (i : Int)) (mkV f)).run Tryz.prog w = .ok () w') : MapStep w w' mb := by
  obtain ⟨D, ⟨es, clock, hmb, F, hsz, rfl⟩, hk, hs2, ha⟩ := h
  have hkey := key_of (i := i) (by omega)
  have hthere := (hs2 i hi).2 hs
  obtain ⟨x0, hx0, hk0⟩ := (has_entry keyed F _).1 hthere
  have hkeys : ∀ e ∈ es.toList, ∃ l, keyOf Tryz.prog 3 e.key = some l := fun e he => by
    obtain ⟨y, hy⟩ := F.reads e he
    exact ⟨_, rd_key hy⟩
  rcases keyed.find w hkey es.toList hkeys with ⟨h1, h2⟩ | ⟨j, e0, h1, h2, h3⟩
  · exfalso
    have m := rg_key F hx0
    rw [hk0] at m
    exact h2 x0 hx0 (keyed.inj m hkey)
  · have hj : es[j]? = some e0 := by simpa using h2
    have hrun2 : (Instr.mapUpdate 118 (.map (some mb)) (.int .i64 (i : Int)) (mkV f)).run Tryz.prog w = .ok () (setBlock w mb (.map (es.modify j (fun e' => { e' with key := .int .i64 (i : Int), val := mkV f })) clock)) := by
      simp [Instr.mapUpdate, run_underlying Tryz.underlying118, MapKept.run_getObj_map hmb, keyed.check w false hkey, h1, hj, h3, keyed.stays w hkey, MapKept.run_setObj_map _ hmb, Result.andThen, setBlock]
    rw [hrun2] at hrun
    injection hrun with _ hw
    subst hw
    intro es2 c2 he2
    rw [hmb] at he2
    injection he2 with he2
    injection he2 with e1 e2
    subst e1 e2
    refine ⟨_, heap_setBlock_same hmb _, fun x' hx' => ?_⟩
    rw [Array.toList_modify] at hx'
    obtain ⟨q, hq, ex⟩ := List.getElem_of_mem hx'
    have hq' : q < es.toList.length := by simpa using hq
    refine ⟨es.toList[q], List.getElem_mem hq', ?_⟩
    rw [List.getElem_modify] at ex
    rw [← ex]
    split
    · rename_i hjq
      subst hjq
      have : es.toList[j] = e0 := by
        rw [List.getElem?_eq_getElem hq'] at h2
        exact Option.some.inj h2
      rw [this]
      exact ⟨rfl, h3⟩
    · exact ⟨rfl, rfl⟩
set_option maxRecDepth 100000 in
theorem del_step {w w' : World} {mb nl i : Nat} {ty : TypeId} {m : Nat → Nat → Nat} (h : MarksAt w mb nl m) (hi : i < nl) (hb : nl ≤ 16384)
    (hrun : (Builtin.delete_ #[118, 3] ty #[.map (some mb), .int .i64 (i : Int)]).run Tryz.prog w = .ok (.tuple #[]) w') : MapStep w w' mb := by
  obtain ⟨D, ⟨es, clock, hmb, F, hsz, rfl⟩, hk, hs2, ha⟩ := h
  obtain ⟨es', hrun2, _, _, _, hsub, _⟩ := fit_drop_who (ty := ty) keyed Tryz.underlying118 hmb F (key_of (i := i) (by omega))
  rw [hrun2] at hrun
  injection hrun with _ hw
  subst hw
  intro es2 c2 he2
  rw [hmb] at he2
  injection he2 with he2
  injection he2 with e1 e2
  subst e1 e2
  exact ⟨es', heap_setBlock_same hmb _, fun x hx => ⟨x, hsub.subset hx, rfl, rfl⟩⟩
end Go.Proofs.YthibbcokpmckfaaGreatDoor
