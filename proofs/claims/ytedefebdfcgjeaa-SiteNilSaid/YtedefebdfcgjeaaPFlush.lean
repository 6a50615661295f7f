/- Flush: what is pending of a line is marked; for states that a memory can have. -/
import Derived.Test.YtedefebdfcgjeaaPMarks
import Derived.Test.YtedefebdfcgjeaaPStore
import Derived.Deep.RegionHeld3
import Derived.Deep.MidRow
namespace Go.Proofs.Ytedefebdfcgjeaa
open Go.RowKit
set_option linter.unusedVariables false
attribute [local go_sem ↓] Go.wp_at_zero Go.wp_at_succ

/-- A flush: the state behind it. -/
def St.flush (s : St) (c a : Nat) : St :=
  { s with fl := s.fl + 1, mm := if (s.pend.getD (a / 64) []).length = 0 then s.mm else upd s.mm (a / 64) fun k => if k = c then (s.pend.getD (a / 64) []).length else s.mm (a / 64) k }
theorem mem_marks {w W : World} {y : Lay} {s s' : St} (hm : MemAt w y s) (e1 : s'.nl = s.nl) (e2 : s'.lasted = s.lasted) (e3 : s'.view = s.view) (e4 : s'.pend = s.pend)
    (hrow : Row W y.g 55 #[.slice (some ⟨y.gl, 0, none⟩) (8 * s.nl) y.cl, .slice (some ⟨y.gv, 0, none⟩) (8 * s.nl) y.cv, .slice (some ⟨y.gp, 0, none⟩) s.nl y.cp, .map (some y.mb), wv s'.ld, wv s'.st, wv s'.fl, wv s'.fe])
    (hk : ∀ k, y.fp k → k ≠ y.g → k ≠ y.mb → W.heap[k]? = w.heap[k]?) (hmk : MarksAt W y.mb s.nl s'.mm) : MemAt W y s' := by
  have hd := hm.differ
  obtain ⟨nl, la, vi, pe, mm, q1, q2, q3, q4⟩ := s'
  dsimp only at e1 e2 e3 e4 hrow hmk
  subst e1 e2 e3 e4
  refine ⟨hrow, own_same hm.las (hk _ (.inr (.inl rfl)) (Ne.symm hd.g_gl) hd.gl_mb), own_same hm.vie (hk _ (.inr (.inr (.inl rfl))) (Ne.symm hd.g_gv) hd.gv_mb), hm.ne, own_same hm.pen (hk _ (.inr (.inr (.inr (.inl rfl)))) (Ne.symm hd.g_gp) hd.gp_mb), hm.plen, ?_, hm.apart, hmk, hm.pos, hm.most⟩
  intro j hj v l hv hl
  exact (hm.tails j hj v l hv hl).same fun k hk' => hk k (.inr (.inr (.inr (.inr (.inr ⟨j, v, hv, hk'⟩))))) (hd.tail j v k hv hk').1 (hd.tail j v k hv hk').2.2.2.2
set_option maxRecDepth 100000 in
set_option maxHeartbeats 3200000 in
theorem flush_ok {w : World} {y : Lay} {s : St} (h : MemAt w y s) (ok : s.Ok) (c a : Nat) (hc : c ≤ 64) (h8 : a % 8 = 0) (ha : a < 64 * s.nl) :
    Calls Try.prog 24 #[.pointer (some ⟨y.g, 0, none⟩), .int .i64 (c : Int), .int .u64 (a : Int)] w (StPost w y (s.flush c a) 0) := by
  have HC := Lib.hid (isClient_any (c : Int) w)
  rw [show decide (0 ≤ (c : Int) ∧ (c : Int) ≤ 64) = true from by simp; omega] at HC
  have HR := Lib.hid (refused_ok h a h8 ha)
  have hmost := h.most
  have HL := Lib.hid fun W => lineOf_any a W (by omega)
  obtain ⟨V, l, hV, hl, ht⟩ := ps_get h (j := a / 64) (by omega)
  have hll := ok.few l (List.mem_of_getElem? hl)
  obtain ⟨A, cap, hVe, hcap⟩ := ht.len
  have hd := h.differ
  obtain ⟨i, hi⟩ : ∃ i, i = a / 64 := ⟨_, rfl⟩
  rw [← hi] at hV hl HL
  have c2 := h.row.cell 2
  have c3 := h.row.cell 3
  have c6 := h.row.cell 6
  simp only [List.getElem?_toArray, List.getElem?_cons_succ, List.getElem?_cons_zero] at c2 c3 c6
  have f6 := h.row.free 6
  have cpp : w.cell? ⟨y.gp, i, none⟩ = some V := by rw [h.pen.cellAt i (by omega), hV]
  have hin : i < s.nl := by omega
  have haB : a < 1048576 := by omega
  have hfl := ok.num.2.2.1
  unfold wv at c6
  have cp1 : (w.setCell ⟨y.g, 6, none⟩ (.int .u64 ((s.fl : Int) + 1))).cell? ⟨y.gp, i, none⟩ = some V := by
    rw [cell_far hd.g_gp]
    exact cpp
  subst hVe
  have HM := Lib.hid h
  have HI := Lib.hid hi
  have HO := Lib.hid ok
  have HA := Lib.hid ha
  have HT := Lib.hid ht
  have HD := Lib.hid hd
  have HV := Lib.hid hV
  have HLL := Lib.hid hl
  clear h hi ha h8 ok ht hd hV hl cpp
  by_cases hn : l.length = 0
  · go_enter Try.func24, Try.ntmps24
    go_wp2_with fail
    refine HC.out.mono ?_
    rintro e w1 ⟨rfl, rfl⟩
    go_wp2_with fail
    refine HR.out.mono ?_
    rintro e w1 ⟨rfl, rfl⟩
    go_wp2_with fail
    refine (HL.out _).mono ?_
    rintro e w2 ⟨rfl, rfl⟩
    go_wp2_with fail
    go_ret
    refine ⟨rfl, y, ?_, ?_⟩
    · have e : s.flush c a = { s with fl := s.fl + 1 } := by
        unfold St.flush
        rw [if_pos]
        rw [← HI.out, List.getD_eq_getElem?_getD, HLL.out]
        exact hn
      rw [e]
      exact mem_marks HM.out rfl rfl rfl rfl (HM.out.row.set 6 _) (fun k _ h1 _ => heap_setCell_other _ _ _ _ h1) (HM.out.marks.same (heap_setCell_other _ _ _ _ (Ne.symm HD.out.g_mb)))
    · refine ⟨rfl, ⟨rfl, rfl, rfl, by simp [World.setCell], fun k _ hn => heap_setCell_other _ _ _ _ (fun e => hn (.inl e))⟩, fun _ h => .inl h⟩
  · have hn1 : 0 < l.length := by omega
    clear hn
    go_enter Try.func24, Try.ntmps24
    go_wp2_with fail
    refine HC.out.mono ?_
    rintro e w1 ⟨rfl, rfl⟩
    go_wp2_with fail
    refine HR.out.mono ?_
    rintro e w1 ⟨rfl, rfl⟩
    go_wp2_with fail
    refine (HL.out _).mono ?_
    rintro e w2 ⟨rfl, rfl⟩
    obtain ⟨W0, hW0⟩ : ∃ W0, W0 = w.setCell ⟨y.g, 6, none⟩ (wv (s.fl + 1)) := ⟨_, rfl⟩
    have hW1 := hW0
    rw [show wv (s.fl + 1) = .int .u64 ((s.fl : Int) + 1) from rfl] at hW1
    rw [← hW1] at cp1 ⊢
    have hm0 : MarksAt W0 y.mb s.nl s.mm := by
      refine HM.out.marks.same ?_
      rw [hW1, heap_setCell_other _ _ _ _ (Ne.symm HD.out.g_mb)]
    have hlk := marks_look (i := i) hm0 (by omega) (by omega)
    rw [mkV_marr] at hlk
    obtain ⟨B, hB⟩ : ∃ B, B = marr (s.mm i) := ⟨_, rfl⟩
    rw [← hB] at hlk
    have d2 : W0.cell? ⟨y.g, 2, none⟩ = some (.slice (some ⟨y.gp, 0, none⟩) s.nl y.cp) := by
      rw [hW1, cell_else (by decide)]
      exact c2
    have d3 : W0.cell? ⟨y.g, 3, none⟩ = some (.map (some y.mb)) := by
      rw [hW1, cell_else (by decide)]
      exact c3
    have HB := Lib.hid hB
    have HW := Lib.hid hW0
    clear hW0 hW1 hm0 c2 c3 c6 f6
    have hfit : (Try.prog.info? 77).map (·.size) = some B.size := by rw [hB]; exact marr_fit _
    have hold : (Array.replicate 65 (Value.int .i64 0)).size = B.size := by rw [hB, marr_size]; rfl
    have hone : B.all (·.oneCell') = true := by rw [hB]; exact marr_one _
    clear hB
    have hr3 := Row.new W0 77 (Array.replicate 65 (Value.int .i64 0))
    have hrr : Row ((W0.alloc (.cells Try.zeroCells77 77)).setRow W0.heap.size B) W0.heap.size 77 B := (Row.new W0 77 Try.zeroCells77).setRow B
    have hcB : ((W0.alloc (.cells Try.zeroCells77 77)).setRow W0.heap.size B).cell? ⟨W0.heap.size, c, none⟩ = some (.int .i64 (s.mm i c : Int)) := by
      rw [hrr.cell, HB.out, marr_get _ _ (by omega)]
    have hfB : ((W0.alloc (.cells Try.zeroCells77 77)).setRow W0.heap.size B).frozen? ⟨W0.heap.size, c, none⟩ = false := hrr.free c
    have HRR := Lib.hid hrr
    clear hrr
    go_wp2_with (refine wpList_store_row rfl 77 (.tmp 10) (.tmp 45) rfl W0.heap.size B rfl rfl 77 _ hr3 hfit hold hone ?_)
    obtain ⟨W2, hW2⟩ : ∃ W2, W2 = ((W0.alloc (.cells Try.zeroCells77 77)).setRow W0.heap.size B).setCell ⟨W0.heap.size, c, none⟩ (.int .i64 (l.length : Int)) := ⟨_, rfl⟩
    rw [← hW2]
    have hb2 : Below W0.heap.size W0 W2 := by
      rw [hW2]
      exact (below_setRow (alloc_below _ _) (Nat.le_refl _) _).setCell (Nat.le_refl _) _
    have hr2 : Row W2 W0.heap.size 77 (marr fun k => if k = c then l.length else s.mm i k) := by
      have := HRR.out.set c (.int .i64 (l.length : Int))
      rw [hW2]
      rwa [HB.out, marr_set _ _ _ (by omega), ← HB.out] at this
    have hlt : y.g < W0.heap.size := block_lt_of_cell d3
    have e3 : W2.cell? ⟨y.g, 3, none⟩ = some (.map (some y.mb)) := (hb2.cell (p := ⟨y.g, 3, none⟩) hlt).trans d3
    have hm2 : MarksAt W2.drew y.mb s.nl s.mm := by
      have h1 : MarksAt W0 y.mb s.nl s.mm := HM.out.marks.same (by rw [HW.out, heap_setCell_other _ _ _ _ (Ne.symm HD.out.g_mb)])
      exact h1.same (hb2.block _ h1.lt)
    obtain ⟨W3, hup, hm3, hg3⟩ := marks_put (f := fun k => if k = c then l.length else s.mm i k) hm2 hin hmost ⟨c, by omega, by show (if c = c then l.length else s.mm i c) ≠ 0; rw [if_pos rfl]; omega⟩ (by
      intro k
      have := HO.out.mk_le i k
      show (if k = c then l.length else s.mm i k) ≤ _
      split <;> omega)
    rw [mkV_marr] at hup
    obtain ⟨Bl, hBl⟩ : ∃ Bl : List Value, Bl.toArray = marr fun k => if k = c then l.length else s.mm i k := ⟨_, Array.toArray_toList⟩
    rw [← hBl] at hup hr2
    have hra : W2.rangeAt W0.heap.size 0 Bl := by
      intro j v hv
      rw [Nat.zero_add, hr2.cell]
      simpa using hv
    have hu := Try.underlying77
    have hiB : (Try.prog.info? 77).map (·.size) = some Bl.length := by
      rw [size77]
      have : Bl.toArray.size = 65 := by rw [hBl, marr_size]
      simpa using this.symm
    have hmbl : y.mb < W0.heap.size := by
      have := HM.out.marks.lt
      rw [HW.out]
      simpa [World.setCell] using this
    have hra3 : W3.rangeAt W0.heap.size 0 Bl := by
      intro j v hv
      rw [World.cell?_of_block (hg3.block W0.heap.size (by have := hb2.size; have := hr2.lt; simpa using this) (by intro e; have e := Option.some.inj e; omega))]
      exact hra j v hv
    have e33 : W3.cell? ⟨y.g, 3, none⟩ = some (.map (some y.mb)) := by
      rw [World.cell?_of_block (hg3.block y.g (by have := hb2.size; show y.g < W2.heap.size; omega) (by intro e; exact HD.out.g_mb (Option.some.inj e)))]
      exact e3
    have HBL := Lib.hid hBl
    have HW2 := Lib.hid hW2
    have HB2 := Lib.hid hb2
    have HM3 := Lib.hid hm3
    have HG3 := Lib.hid hg3
    clear hmbl hW2 hb2 hr2 hm2 hm3 hg3 hBl hr3 hcB hfB hlk hfit hold hone d2 d3 cp1
    go_region_held3 (fun w' => w'.cell? ⟨y.g, 3, none⟩ = some (.map (some y.mb)) ∧ w'.rangeAt W0.heap.size 0 Bl) (first | exact ⟨e3, hra⟩ | exact ⟨e33, hra3⟩) (fail)
    go_wp2
    go_ret
    have hs0 : W0.heap.size = w.heap.size := by rw [HW.out]; simp [World.setCell]
    have hs2 := HB2.out.size
    have hk3 : ∀ k, k < w.heap.size → k ≠ y.g → k ≠ y.mb → W3.heap[k]? = w.heap[k]? := by
      intro k h1 h2 h3
      rw [HG3.out.block k (by show k < W2.heap.size; omega) (fun e => h3 (Option.some.inj e))]
      show W2.heap[k]? = _
      rw [HB2.out.block k (by omega), HW.out, heap_setCell_other _ _ _ _ h2]
    refine ⟨rfl, y, ?_, ?_⟩
    · refine mem_marks (W := W3) HM.out rfl rfl rfl rfl ?_ ?_ ?_
      · have r0 := HM.out.row.set 6 (wv (s.fl + 1))
        rw [← HW.out] at r0
        have r2 := r0.below HB2.out r0.lt
        exact (HG3.out.block y.g (by show y.g < W2.heap.size; exact r2.lt) (fun e => HD.out.g_mb (Option.some.inj e))).trans r2
      · exact fun k h1 h2 h3 => hk3 k (HM.out.lt k h1) h2 h3
      · have e : (s.flush c a).mm = upd s.mm i fun k => if k = c then l.length else s.mm i k := by
          unfold St.flush
          rw [← HI.out, List.getD_eq_getElem?_getD, HLL.out]
          exact if_neg (by show ¬ l.length = 0; omega)
        rw [e]
        exact HM3.out
    · refine ⟨rfl, ⟨HG3.out.os.trans (HB2.out.os.trans (by rw [HW.out]; rfl)), HG3.out.tape.trans (HB2.out.tape.trans (by rw [HW.out]; rfl)), HG3.out.output.trans (HB2.out.output.trans (by rw [HW.out]; rfl)), ?_, fun k h1 hn => hk3 k h1 (fun e => hn (.inl e)) (fun e => hn (.inr (.inr (.inr (.inr (.inl e))))))⟩, fun _ h => .inl h⟩
      have : W2.heap.size ≤ W3.heap.size := HG3.out.size
      omega

theorem flush_no {p : Option Addr} {w : World} (h : NoMem w p) (c a : Int) : Calls Try.prog 24 #[.pointer p, .int .i64 c, .int .u64 a] w fun e w' => e = .returned (.int .i64 1) ∧ w = w' := by
  have HC := Lib.hid (isClient_any c w)
  have H := Lib.hid fun f => refused_no h f a
  clear h
  go_enter Try.func24, Try.ntmps24
  go_wp2_with fail
  refine HC.out.mono ?_
  rintro e w1 ⟨rfl, rfl⟩
  go_wp2_with fail
  refine (H.out _).mono ?_
  rintro e w1 ⟨rfl, rfl⟩
  go_wp2
  go_ret
  exact ⟨rfl, rfl⟩
theorem flush_arg {w : World} {y : Lay} {s : St} (h : MemAt w y s) (c a : Int) (hc : c < 0 ∨ 64 < c) : Calls Try.prog 24 #[.pointer (some ⟨y.g, 0, none⟩), .int .i64 c, .int .u64 a] w fun e w' => e = .returned (.int .i64 2) ∧ w = w' := by
  have HC := Lib.hid (isClient_any c w)
  rw [show decide (0 ≤ c ∧ c ≤ 64) = false from by simp; omega] at HC
  have H := Lib.hid (refused_arg h a)
  obtain ⟨g, hg⟩ : ∃ g, g = y.g := ⟨_, rfl⟩
  rw [← hg] at H ⊢
  clear h hc hg
  go_enter Try.func24, Try.ntmps24
  go_wp2_with fail
  refine HC.out.mono ?_
  rintro e w1 ⟨rfl, rfl⟩
  go_wp2_with fail
  refine H.out.mono ?_
  rintro e w1 ⟨rfl, rfl⟩
  go_wp2
  go_ret
  exact ⟨rfl, rfl⟩
theorem flush_range {w : World} {y : Lay} {s : St} (h : MemAt w y s) (c : Int) (a : Nat) (hc : 0 ≤ c ∧ c ≤ 64) (ha : a % 8 ≠ 0 ∨ 64 * s.nl ≤ a) : Calls Try.prog 24 #[.pointer (some ⟨y.g, 0, none⟩), .int .i64 c, .int .u64 (a : Int)] w fun e w' => e = .returned (.int .i64 3) ∧ w = w' := by
  have HC := Lib.hid (isClient_any c w)
  rw [show decide (0 ≤ c ∧ c ≤ 64) = true from by simp; omega] at HC
  have H := Lib.hid (refused_range h a ha)
  obtain ⟨g, hg⟩ : ∃ g, g = y.g := ⟨_, rfl⟩
  rw [← hg] at H ⊢
  clear h hc hg ha
  go_enter Try.func24, Try.ntmps24
  go_wp2_with fail
  refine HC.out.mono ?_
  rintro e w1 ⟨rfl, rfl⟩
  go_wp2_with fail
  refine H.out.mono ?_
  rintro e w1 ⟨rfl, rfl⟩
  go_wp2
  go_ret
  exact ⟨rfl, rfl⟩
end Go.Proofs.Ytedefebdfcgjeaa
