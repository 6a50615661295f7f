/- Texts of this claim, packed: PFlush, PUnmark, PStep. -/
import Derived.Test.YteojhhfcfdkmdaaPm14
import Derived.Test.YteojhhfcfdkmdaaPm16
import Derived.Deep.RegionHeld3
import Derived.Deep.MidRow
set_option linter.unusedSimpArgs false
set_option linter.unusedVariables false
/- Flush: what is pending of a line is marked; for states that a memory can have. -/
namespace Go.Proofs.Yteojhhfcfdkmdaa
open Go.RowKit
set_option linter.unusedVariables false
attribute [local go_sem ↓] Go.wp_at_zero Go.wp_at_succ

/-- A flush: the state behind it. -/
def St.flush (s : St) (c a : Nat) : St :=
  { s with fl := s.fl + 1, mm := if (s.pend.getD (a / 64) []).length = 0 then s.mm else upd s.mm (a / 64) fun k => if k = c then (s.pend.getD (a / 64) []).length else s.mm (a / 64) k }
theorem mem_marks {w W : World} {y : Lay} {s s' : St} (hm : MemAt w y s) (e1 : s'.nl = s.nl) (e2 : s'.lasted = s.lasted) (e3 : s'.view = s.view) (e4 : s'.pend = s.pend)
    (hrow : Row W y.g 97 #[.slice (some ⟨y.gl, 0, none⟩) (8 * s.nl) y.cl, .slice (some ⟨y.gv, 0, none⟩) (8 * s.nl) y.cv, .slice (some ⟨y.gp, 0, none⟩) s.nl y.cp, .map (some y.mb), wv s'.ld, wv s'.st, wv s'.fl, wv s'.fe])
    (hk : ∀ k, y.fp k → k ≠ y.g → k ≠ y.mb → W.heap[k]? = w.heap[k]?) (hmk : MarksAt W y.mb s.nl s'.mm) : MemAt W y s' := by
  have hd := hm.differ
  obtain ⟨nl, la, vi, pe, mm, q1, q2, q3, q4⟩ := s'
  dsimp only at e1 e2 e3 e4 hrow hmk
  subst e1 e2 e3 e4
  refine ⟨hrow, own_same hm.las (hk _ (.inr (.inl rfl)) (Ne.symm hd.g_gl) hd.gl_mb), own_same hm.vie (hk _ (.inr (.inr (.inl rfl))) (Ne.symm hd.g_gv) hd.gv_mb), hm.ne, own_same hm.pen (hk _ (.inr (.inr (.inr (.inl rfl)))) (Ne.symm hd.g_gp) hd.gp_mb), hm.plen, ?_, hm.apart, hmk, hm.pos, hm.most⟩
  intro j hj v l hv hl
  exact (hm.tails j hj v l hv hl).same fun k hk' => hk k (.inr (.inr (.inr (.inr (.inr ⟨j, v, hv, hk'⟩))))) (hd.tail j v k hv hk').1 (hd.tail j v k hv hk').2.2.2.2
set_option maxRecDepth 100000 in
set_option maxHeartbeats 3200000 in
theorem flush_ok {w : World} {y : Lay} {s : St} (h : MemAt w y s) (ok : s.Ok) (c a : Nat) (hc : c ≤ 64) (h8 : a % 8 = 0) (ha : a < 64 * s.nl) :
    Calls Try.prog 22 #[.pointer (some ⟨y.g, 0, none⟩), .int .i64 (c : Int), .int .u64 (a : Int)] w (StPost w y (s.flush c a) 0) := by
  have HC := Lib.hid (isClient_any (c : Int) w)
  rw [show decide (0 ≤ (c : Int) ∧ (c : Int) ≤ 64) = true from by simp; omega] at HC
  have HR := Lib.hid (refused_ok h a h8 ha)
  have hmost := h.most
  have HL := Lib.hid fun W => lineOf_any a W (by omega)
  obtain ⟨V, l, hV, hl, ht⟩ := ps_get h (j := a / 64) (by omega)
  have hll := ok.few l (List.mem_of_getElem? hl)
  obtain ⟨A, cap, hVe, hcap⟩ := ht.len
  have hd := h.differ
  obtain ⟨i, hi⟩ : ∃ i, i = a / 64 := ⟨_, rfl⟩
  rw [← hi] at hV hl HL
  have c2 := h.row.cell 2
  have c3 := h.row.cell 3
  have c6 := h.row.cell 6
  simp only [List.getElem?_toArray, List.getElem?_cons_succ, List.getElem?_cons_zero] at c2 c3 c6
  have f6 := h.row.free 6
  have cpp : w.cell? ⟨y.gp, i, none⟩ = some V := by rw [h.pen.cellAt i (by omega), hV]
  have hin : i < s.nl := by omega
  have haB : a < 1048576 := by omega
  have hfl := ok.num.2.2.1
  unfold wv at c6
  have cp1 : (w.setCell ⟨y.g, 6, none⟩ (.int .u64 ((s.fl : Int) + 1))).cell? ⟨y.gp, i, none⟩ = some V := by
    rw [cell_far hd.g_gp]
    exact cpp
  subst hVe
  have HM := Lib.hid h
  have HI := Lib.hid hi
  have HO := Lib.hid ok
  have HA := Lib.hid ha
  have HT := Lib.hid ht
  have HD := Lib.hid hd
  have HV := Lib.hid hV
  have HLL := Lib.hid hl
  clear h hi ha h8 ok ht hd hV hl cpp
  by_cases hn : l.length = 0
  · go_enter Try.func22, Try.ntmps22
    go_wp2_with fail
    refine HC.out.mono ?_
    rintro e w1 ⟨rfl, rfl⟩
    go_wp2_with fail
    refine HR.out.mono ?_
    rintro e w1 ⟨rfl, rfl⟩
    go_wp2_with fail
    refine (HL.out _).mono ?_
    rintro e w2 ⟨rfl, rfl⟩
    go_wp2_with fail
    go_ret
    refine ⟨rfl, y, ?_, ?_⟩
    · have e : s.flush c a = { s with fl := s.fl + 1 } := by
        unfold St.flush
        rw [if_pos]
        rw [← HI.out, List.getD_eq_getElem?_getD, HLL.out]
        exact hn
      rw [e]
      exact mem_marks HM.out rfl rfl rfl rfl (HM.out.row.set 6 _) (fun k _ h1 _ => heap_setCell_other _ _ _ _ h1) (HM.out.marks.same (heap_setCell_other _ _ _ _ (Ne.symm HD.out.g_mb)))
    · refine ⟨rfl, ⟨rfl, rfl, rfl, by simp [World.setCell], fun k _ hn => heap_setCell_other _ _ _ _ (fun e => hn (.inl e))⟩, fun _ h => .inl h⟩
  · have hn1 : 0 < l.length := by omega
    clear hn
    go_enter Try.func22, Try.ntmps22
    go_wp2_with fail
    refine HC.out.mono ?_
    rintro e w1 ⟨rfl, rfl⟩
    go_wp2_with fail
    refine HR.out.mono ?_
    rintro e w1 ⟨rfl, rfl⟩
    go_wp2_with fail
    refine (HL.out _).mono ?_
    rintro e w2 ⟨rfl, rfl⟩
    obtain ⟨W0, hW0⟩ : ∃ W0, W0 = w.setCell ⟨y.g, 6, none⟩ (wv (s.fl + 1)) := ⟨_, rfl⟩
    have hW1 := hW0
    rw [show wv (s.fl + 1) = .int .u64 ((s.fl : Int) + 1) from rfl] at hW1
    rw [← hW1] at cp1 ⊢
    have hm0 : MarksAt W0 y.mb s.nl s.mm := by
      refine HM.out.marks.same ?_
      rw [hW1, heap_setCell_other _ _ _ _ (Ne.symm HD.out.g_mb)]
    have hlk := marks_look (i := i) hm0 (by omega) (by omega)
    rw [mkV_marr] at hlk
    obtain ⟨B, hB⟩ : ∃ B, B = marr (s.mm i) := ⟨_, rfl⟩
    rw [← hB] at hlk
    have d2 : W0.cell? ⟨y.g, 2, none⟩ = some (.slice (some ⟨y.gp, 0, none⟩) s.nl y.cp) := by
      rw [hW1, cell_else (by decide)]
      exact c2
    have d3 : W0.cell? ⟨y.g, 3, none⟩ = some (.map (some y.mb)) := by
      rw [hW1, cell_else (by decide)]
      exact c3
    have HB := Lib.hid hB
    have HW := Lib.hid hW0
    clear hW0 hW1 hm0 c2 c3 c6 f6
    have hfit : (Try.prog.info? 103).map (·.size) = some B.size := by rw [hB]; exact marr_fit _
    have hold : (Array.replicate 65 (Value.int .i64 0)).size = B.size := by rw [hB, marr_size]; rfl
    have hone : B.all (·.oneCell') = true := by rw [hB]; exact marr_one _
    clear hB
    have hr3 := Row.new W0 103 (Array.replicate 65 (Value.int .i64 0))
    have hrr : Row ((W0.alloc (.cells Try.zeroCells103 103)).setRow W0.heap.size B) W0.heap.size 103 B := (Row.new W0 103 Try.zeroCells103).setRow B
    have hcB : ((W0.alloc (.cells Try.zeroCells103 103)).setRow W0.heap.size B).cell? ⟨W0.heap.size, c, none⟩ = some (.int .i64 (s.mm i c : Int)) := by
      rw [hrr.cell, HB.out, marr_get _ _ (by omega)]
    have hfB : ((W0.alloc (.cells Try.zeroCells103 103)).setRow W0.heap.size B).frozen? ⟨W0.heap.size, c, none⟩ = false := hrr.free c
    have HRR := Lib.hid hrr
    clear hrr
    go_wp2_with (refine wpList_store_row rfl 103 (.tmp 10) (.tmp 45) rfl W0.heap.size B rfl rfl 103 _ hr3 hfit hold hone ?_)
    obtain ⟨W2, hW2⟩ : ∃ W2, W2 = ((W0.alloc (.cells Try.zeroCells103 103)).setRow W0.heap.size B).setCell ⟨W0.heap.size, c, none⟩ (.int .i64 (l.length : Int)) := ⟨_, rfl⟩
    rw [← hW2]
    have hb2 : Below W0.heap.size W0 W2 := by
      rw [hW2]
      exact (below_setRow (alloc_below _ _) (Nat.le_refl _) _).setCell (Nat.le_refl _) _
    have hr2 : Row W2 W0.heap.size 103 (marr fun k => if k = c then l.length else s.mm i k) := by
      have := HRR.out.set c (.int .i64 (l.length : Int))
      rw [hW2]
      rwa [HB.out, marr_set _ _ _ (by omega), ← HB.out] at this
    have hlt : y.g < W0.heap.size := block_lt_of_cell d3
    have e3 : W2.cell? ⟨y.g, 3, none⟩ = some (.map (some y.mb)) := (hb2.cell (p := ⟨y.g, 3, none⟩) hlt).trans d3
    have hm2 : MarksAt W2.drew y.mb s.nl s.mm := by
      have h1 : MarksAt W0 y.mb s.nl s.mm := HM.out.marks.same (by rw [HW.out, heap_setCell_other _ _ _ _ (Ne.symm HD.out.g_mb)])
      exact h1.same (hb2.block _ h1.lt)
    obtain ⟨W3, hup, hm3, hg3⟩ := marks_put (f := fun k => if k = c then l.length else s.mm i k) hm2 hin hmost ⟨c, by omega, by show (if c = c then l.length else s.mm i c) ≠ 0; rw [if_pos rfl]; omega⟩ (by
      intro k
      have := HO.out.mk_le i k
      show (if k = c then l.length else s.mm i k) ≤ _
      split <;> omega)
    rw [mkV_marr] at hup
    obtain ⟨Bl, hBl⟩ : ∃ Bl : List Value, Bl.toArray = marr fun k => if k = c then l.length else s.mm i k := ⟨_, Array.toArray_toList⟩
    rw [← hBl] at hup hr2
    have hra : W2.rangeAt W0.heap.size 0 Bl := by
      intro j v hv
      rw [Nat.zero_add, hr2.cell]
      simpa using hv
    have hu := Try.underlying103
    have hiB : (Try.prog.info? 103).map (·.size) = some Bl.length := by
      rw [size103]
      have : Bl.toArray.size = 65 := by rw [hBl, marr_size]
      simpa using this.symm
    have hmbl : y.mb < W0.heap.size := by
      have := HM.out.marks.lt
      rw [HW.out]
      simpa [World.setCell] using this
    have hra3 : W3.rangeAt W0.heap.size 0 Bl := by
      intro j v hv
      rw [World.cell?_of_block (hg3.block W0.heap.size (by have := hb2.size; have := hr2.lt; simpa using this) (by intro e; have e := Option.some.inj e; omega))]
      exact hra j v hv
    have e33 : W3.cell? ⟨y.g, 3, none⟩ = some (.map (some y.mb)) := by
      rw [World.cell?_of_block (hg3.block y.g (by have := hb2.size; show y.g < W2.heap.size; omega) (by intro e; exact HD.out.g_mb (Option.some.inj e)))]
      exact e3
    have HBL := Lib.hid hBl
    have HW2 := Lib.hid hW2
    have HB2 := Lib.hid hb2
    have HM3 := Lib.hid hm3
    have HG3 := Lib.hid hg3
    clear hmbl hW2 hb2 hr2 hm2 hm3 hg3 hBl hr3 hcB hfB hlk hfit hold hone d2 d3 cp1
    go_region_held3 (fun w' => w'.cell? ⟨y.g, 3, none⟩ = some (.map (some y.mb)) ∧ w'.rangeAt W0.heap.size 0 Bl) (first | exact ⟨e3, hra⟩ | exact ⟨e33, hra3⟩) (fail)
    go_wp2
    go_ret
    have hs0 : W0.heap.size = w.heap.size := by rw [HW.out]; simp [World.setCell]
    have hs2 := HB2.out.size
    have hk3 : ∀ k, k < w.heap.size → k ≠ y.g → k ≠ y.mb → W3.heap[k]? = w.heap[k]? := by
      intro k h1 h2 h3
      rw [HG3.out.block k (by show k < W2.heap.size; omega) (fun e => h3 (Option.some.inj e))]
      show W2.heap[k]? = _
      rw [HB2.out.block k (by omega), HW.out, heap_setCell_other _ _ _ _ h2]
    refine ⟨rfl, y, ?_, ?_⟩
    · refine mem_marks (W := W3) HM.out rfl rfl rfl rfl ?_ ?_ ?_
      · have r0 := HM.out.row.set 6 (wv (s.fl + 1))
        rw [← HW.out] at r0
        have r2 := r0.below HB2.out r0.lt
        exact (HG3.out.block y.g (by show y.g < W2.heap.size; exact r2.lt) (fun e => HD.out.g_mb (Option.some.inj e))).trans r2
      · exact fun k h1 h2 h3 => hk3 k (HM.out.lt k h1) h2 h3
      · have e : (s.flush c a).mm = upd s.mm i fun k => if k = c then l.length else s.mm i k := by
          unfold St.flush
          rw [← HI.out, List.getD_eq_getElem?_getD, HLL.out]
          exact if_neg (by show ¬ l.length = 0; omega)
        rw [e]
        exact HM3.out
    · refine ⟨rfl, ⟨HG3.out.os.trans (HB2.out.os.trans (by rw [HW.out]; rfl)), HG3.out.tape.trans (HB2.out.tape.trans (by rw [HW.out]; rfl)), HG3.out.output.trans (HB2.out.output.trans (by rw [HW.out]; rfl)), ?_, fun k h1 hn => hk3 k h1 (fun e => hn (.inl e)) (fun e => hn (.inr (.inr (.inr (.inr (.inl e))))))⟩, fun _ h => .inl h⟩
      have : W2.heap.size ≤ W3.heap.size := HG3.out.size
      omega

theorem flush_no {p : Option Addr} {w : World} (h : NoMem w p) (c a : Int) : Calls Try.prog 22 #[.pointer p, .int .i64 c, .int .u64 a] w fun e w' => e = .returned (.int .i64 1) ∧ w = w' := by
  have HC := Lib.hid (isClient_any c w)
  have H := Lib.hid fun f => refused_no h f a
  clear h
  go_enter Try.func22, Try.ntmps22
  go_wp2_with fail
  refine HC.out.mono ?_
  rintro e w1 ⟨rfl, rfl⟩
  go_wp2_with fail
  refine (H.out _).mono ?_
  rintro e w1 ⟨rfl, rfl⟩
  go_wp2
  go_ret
  exact ⟨rfl, rfl⟩
theorem flush_arg {w : World} {y : Lay} {s : St} (h : MemAt w y s) (c a : Int) (hc : c < 0 ∨ 64 < c) : Calls Try.prog 22 #[.pointer (some ⟨y.g, 0, none⟩), .int .i64 c, .int .u64 a] w fun e w' => e = .returned (.int .i64 2) ∧ w = w' := by
  have HC := Lib.hid (isClient_any c w)
  rw [show decide (0 ≤ c ∧ c ≤ 64) = false from by simp; omega] at HC
  have H := Lib.hid (refused_arg h a)
  obtain ⟨g, hg⟩ : ∃ g, g = y.g := ⟨_, rfl⟩
  rw [← hg] at H ⊢
  clear h hc hg
  go_enter Try.func22, Try.ntmps22
  go_wp2_with fail
  refine HC.out.mono ?_
  rintro e w1 ⟨rfl, rfl⟩
  go_wp2_with fail
  refine H.out.mono ?_
  rintro e w1 ⟨rfl, rfl⟩
  go_wp2
  go_ret
  exact ⟨rfl, rfl⟩
theorem flush_range {w : World} {y : Lay} {s : St} (h : MemAt w y s) (c : Int) (a : Nat) (hc : 0 ≤ c ∧ c ≤ 64) (ha : a % 8 ≠ 0 ∨ 64 * s.nl ≤ a) : Calls Try.prog 22 #[.pointer (some ⟨y.g, 0, none⟩), .int .i64 c, .int .u64 (a : Int)] w fun e w' => e = .returned (.int .i64 3) ∧ w = w' := by
  have HC := Lib.hid (isClient_any c w)
  rw [show decide (0 ≤ c ∧ c ≤ 64) = true from by simp; omega] at HC
  have H := Lib.hid (refused_range h a ha)
  obtain ⟨g, hg⟩ : ∃ g, g = y.g := ⟨_, rfl⟩
  rw [← hg] at H ⊢
  clear h hc hg ha
  go_enter Try.func22, Try.ntmps22
  go_wp2_with fail
  refine HC.out.mono ?_
  rintro e w1 ⟨rfl, rfl⟩
  go_wp2_with fail
  refine H.out.mono ?_
  rintro e w1 ⟨rfl, rfl⟩
  go_wp2
  go_ret
  exact ⟨rfl, rfl⟩
end Go.Proofs.Yteojhhfcfdkmdaa
/- unmark: the elder stores that have lasted are taken out of all clients' marks of a line; for lines that there are, and marks that fit. -/
namespace Go.Proofs.Yteojhhfcfdkmdaa
open Go.RowKit
set_option linter.unusedVariables false
attribute [local go_sem ↓] Go.wp_at_zero Go.wp_at_succ

theorem infoInt : (Try.prog.info? 3).map (fun i => (i.zero, i.size, i.bytes)) = some (some (.int .i64 0), 1, 8) := by kernel_rfl
theorem cellsInt : Try.prog.cellsOf 3 = 1 := by kernel_rfl
theorem plainInt : Try.prog.plainKey 3 = true := by kernel_rfl
theorem items65 (f : Nat → Nat) (w : World) : ∀ is : List Nat, (∀ i ∈ is, i < 65) → (Op.eqItems 9999 3 1 (marr f) (marr fun _ => 0) is).run Try.prog w = .ok (is.all fun i => f i == 0) w
  | [], _ => by simp [Op.eqItems]
  | i :: is, h => by
    have hp := run_part_plain (P := Try.prog) w plainInt (xs := marr f) (off := i) (marr_get f i (h i (by simp)))
    have hq := run_part_plain (P := Try.prog) w plainInt (xs := marr fun _ => 0) (off := i) (marr_get _ i (h i (by simp)))
    have he := run_equalIn_int (P := Try.prog) w 9998 3 .i64 .i64 (f i : Int) ((0 : Nat) : Int) Try.underlying3
    have hi := items65 f w is (fun j hj => h j (by simp [hj]))
    have hb : (((f i : Int)) == ((0 : Nat) : Int)) = (f i == 0) := by
      rw [Bool.eq_iff_iff, beq_iff_eq, beq_iff_eq]
      omega
    simp only [Op.eqItems, Sem.run_bind, Nat.mul_one, hp, hq, Result.andThen_ok, he, hb, hi, List.all_cons]
    cases hz : (f i == 0) <;> simp [hi]
def allZero (f : Nat → Nat) : Bool := (List.range 65).all fun i => f i == 0
theorem allZero_iff (f : Nat → Nat) : allZero f = true ↔ ¬ someMk f := by
  unfold allZero someMk
  rw [List.all_eq_true]
  constructor
  · rintro h ⟨c, hc, hn⟩
    exact hn (beq_iff_eq.1 (h c (List.mem_range.2 hc)))
  · intro h c hc
    have hc' := List.mem_range.1 hc
    by_cases e : f c = 0
    · simp [e]
    · exact absurd ⟨c, hc', e⟩ h
theorem eql65 (f : Nat → Nat) (w : World) : (binOp .eql 103 (.agg (marr f)) (.agg (marr fun _ => 0))).run Try.prog w = .ok (.bool (allZero f)) w := by
  obtain ⟨i0, hi, hz0, hz1, hz2⟩ := info_parts infoInt
  have h := run_equalIn_array (P := Try.prog) w 9999 (marr f) (marr fun _ => 0) Try.underlying103 hi
  rw [cellsInt, items65 f w _ (by intro i hi; exact List.mem_range.1 hi)] at h
  rw [run_eql_struct, h]
  rfl
theorem marks_of {w : World} {mb nl : Nat} {m m' : Nat → Nat → Nat} (h : MarksAt w mb nl m) (he : ∀ j, j < nl → ∀ c, c < 65 → m j c = m' j c) : MarksAt w mb nl m' := by
  obtain ⟨D, h1, h2, h3, h4⟩ := h
  refine ⟨D, h1, h2, fun j hj => (h3 j hj).trans ?_, fun j hj z hz => (h4 j hj z hz).trans (mkD_of (he j hj))⟩
  constructor
  · rintro ⟨c, hc, hn⟩
    exact ⟨c, hc, by rw [← he j hj c hc]; exact hn⟩
  · rintro ⟨c, hc, hn⟩
    exact ⟨c, hc, by rw [he j hj c hc]; exact hn⟩

theorem marr_of {f g : Nat → Nat} (h : ∀ c, c < 65 → f c = g c) : marr f = marr g := by
  have := mkV_of h
  rw [mkV_marr, mkV_marr] at this
  exact Value.agg.inj this
theorem zero65 : Try.zeroCells103 = marr fun _ => 0 := by kernel_rfl
/-- What unmark makes of the marks. -/
def umk (m : Nat → Nat → Nat) (i n : Nat) : Nat → Nat → Nat := upd m i fun c => m i c - n
theorem umk_at (m : Nat → Nat → Nat) (i n c : Nat) : umk m i n i c = m i c - n := by simp [umk, upd]
theorem umk_far {m : Nat → Nat → Nat} {i n j c : Nat} (h : ¬ j = i) : umk m i n j c = m j c := by simp [umk, upd, h]
def UnPost (w : World) (y : Lay) (s : St) (i n : Nat) (e : Ending) (w' : World) : Prop :=
  e = .returned (.tuple #[]) ∧ MemAt w' y { s with mm := umk s.mm i n } ∧ But w w' (fun k => k = y.mb) ∧ MapStep w w' y.mb
theorem un_mem {w W0 W3 : World} {y : Lay} {s : St} {m' : Nat → Nat → Nat} (hm : MemAt w y s) (hb : Below w.heap.size w W0) (hg : W0.grownBy W3 (some y.mb)) (hmk : MarksAt W3 y.mb s.nl m') :
    MemAt W3 y { s with mm := m' } ∧ But w W3 (fun k => k = y.mb) := by
  have hk : ∀ k, k < w.heap.size → k ≠ y.mb → W3.heap[k]? = w.heap[k]? := fun k h1 h2 =>
    (hg.block k (Nat.lt_of_lt_of_le h1 hb.size) (fun e => h2 (Option.some.inj e))).trans (hb.block k h1)
  refine ⟨mem_marks hm rfl rfl rfl rfl ?_ ?_ hmk, ⟨hg.os.trans hb.os, hg.tape.trans hb.tape, hg.output.trans hb.output, Nat.le_trans hb.size hg.size, fun k h1 h2 => hk k h1 h2⟩⟩
  · exact (hk y.g hm.row.lt hm.differ.g_mb).trans hm.row
  · exact fun k h1 h2 h3 => hk k (hm.lt k h1) h3
set_option maxRecDepth 100000 in
set_option maxHeartbeats 3200000 in
theorem unmark_ok {w : World} {y : Lay} {s : St} (h : MemAt w y s) (i n : Nat) (hi : i < s.nl) (hn : n ≤ 1000000000) (hmk : ∀ j c, s.mm j c ≤ 1000000000) :
    Calls Try.prog 56 #[.pointer (some ⟨y.g, 0, none⟩), .int .i64 (i : Int), .int .i64 (n : Int)] w (UnPost w y s i n) := by
  have hmost := h.most
  have c3 := h.row.cell 3
  simp only [List.getElem?_toArray, List.getElem?_cons_succ, List.getElem?_cons_zero] at c3
  obtain ⟨b, hbs, hlk⟩ := marks_look_ok (i := i) h.marks hi hmost
  rw [mkV_marr] at hlk
  obtain ⟨B, hB⟩ : ∃ B, B = marr (s.mm i) := ⟨_, rfl⟩
  rw [← hB] at hlk
  have hfit : (Try.prog.info? 103).map (·.size) = some B.size := by rw [hB]; exact marr_fit _
  have hold : (Array.replicate 65 (Value.int .i64 0)).size = B.size := by rw [hB, marr_size]; rfl
  have hone : B.all (·.oneCell') = true := by rw [hB]; exact marr_one _
  have hr3 := Row.new w 103 (Array.replicate 65 (Value.int .i64 0))
  have hrr : Row ((w.alloc (.cells Try.zeroCells103 103)).setRow w.heap.size B) w.heap.size 103 B := (Row.new w 103 Try.zeroCells103).setRow B
  have hb0 : Below w.heap.size w ((w.alloc (.cells Try.zeroCells103 103)).setRow w.heap.size B) := below_setRow (alloc_below _ _) (Nat.le_refl _) _
  have HM := Lib.hid h
  have HB := Lib.hid hB
  have HBS := Lib.hid hbs
  have HMK := Lib.hid hmk
  have HRR := Lib.hid hrr
  clear h hB hbs hmk hrr
  cases b
  · go_enter Try.func56, Try.ntmps56
    go_wp2_with (refine wpList_store_row rfl 103 (.tmp 6) (.tmp 16) rfl w.heap.size B rfl rfl 103 _ hr3 hfit hold hone ?_)
    refine bodyPost_ret (results_none rfl _ _ _) rfl ?_
    have hns : ¬ someMk (s.mm i) := fun hx => by have := HBS.out.2 hx; cases this
    obtain ⟨h1, h2⟩ := un_mem (m' := umk s.mm i n) HM.out hb0 (World.grownBy.refl _ _) (marks_of (HM.out.marks.same (hb0.block _ HM.out.marks.lt)) (by
      intro j hj c hc
      by_cases e : j = i
      · rw [e, umk_at, not_some hns c hc]
        omega
      · rw [umk_far e]))
    exact ⟨rfl, h1, h2, MapStep.same (hb0.block _ HM.out.marks.lt)⟩
  · go_enter Try.func56, Try.ntmps56
    go_wp2_with (refine wpList_store_row rfl 103 (.tmp 6) (.tmp 16) rfl w.heap.size B rfl rfl 103 _ hr3 hfit hold hone ?_)
    clear hfit hold hone hr3 hlk
    go_loopw [20] (fun v wr => ∃ k : Nat, k ≤ 65 ∧ v = .int .i64 k ∧ Row wr w.heap.size 103 (marr fun c => if c < k then s.mm i c - n else s.mm i c) ∧ Below w.heap.size w wr) (fun v _ => 65 - (intOf v).toNat)
    case atStart => exact ⟨0, by omega, rfl, by simpa [HB.out] using HRR.out, hb0⟩
    case round =>
      obtain ⟨k, hk, rfl, hr, hb⟩ := hrel
      clear hb0
      by_cases hlt : k < 65
      · have hc := hr.cell k
        rw [marr_get _ _ hlt, if_neg (by omega)] at hc
        have hf := hr.free k
        have hm1 := HMK.out i k
        obtain ⟨q, hq⟩ : ∃ q, q = s.mm i k := ⟨_, rfl⟩
        rw [← hq] at hc hm1
        have HQ := Lib.hid hq
        have HR := Lib.hid hr
        clear hq hr
        go_wp2
        all_goals
          go_roundw
          case rel =>
            have e1 : Value.int .i64 (if n < q then (q : Int) - (n : Int) else 0) = .int .i64 (((q - n : Nat)) : Int) := by
              congr 1
              split <;> omega
            rw [e1]
            refine ⟨k + 1, by omega, by go_num, ?_, hb.setCell (Nat.le_refl _) _⟩
            have h2 := HR.out.set k (.int .i64 ((q - n : Nat) : Int))
            rw [marr_set _ _ _ hlt] at h2
            rw [marr_of (g := fun c => if c = k then q - n else if c < k then s.mm i c - n else s.mm i c)]
            · exact h2
            · intro c hc
              by_cases e : c = k
              · rw [if_pos e, if_pos (by omega), e, HQ.out]
              · rw [if_neg e]
                by_cases e2 : c < k
                · rw [if_pos e2, if_pos (by omega)]
                · rw [if_neg e2, if_neg (by omega)]
          case measure => simp [intOf]; omega
      · have hk2 : k = 65 := by omega
        subst hk2
        rw [marr_of (g := fun c => s.mm i c - n) (fun c hc => if_pos hc)] at hr
        obtain ⟨f, hf⟩ : ∃ f, f = fun c => s.mm i c - n := ⟨_, rfl⟩
        rw [← hf] at hr
        have he := eql65 f
        have hu := Try.underlying103
        have hi2 := marr_fit f
        obtain ⟨Bf, hBf⟩ : ∃ Bf, Bf = marr f := ⟨_, rfl⟩
        rw [← hBf] at hr he hi2
        have hr' := hr
        have HF := Lib.hid hf
        have HBF := Lib.hid hBf
        clear hf hBf
        rw [← zero65] at he
        have hlt : y.g < w.heap.size := block_lt_of_cell c3
        have e3 : wr.cell? ⟨y.g, 3, none⟩ = some (.map (some y.mb)) := (hb.cell (p := ⟨y.g, 3, none⟩) hlt).trans c3
        have hmb : y.mb < w.heap.size := HM.out.marks.lt
        have hm1 : MarksAt wr y.mb s.nl s.mm := HM.out.marks.same (hb.block _ hmb)
        cases hz : allZero f
        · rw [hz] at he
          have hsome : someMk f := by
            by_cases hx : someMk f
            · exact hx
            · have := (allZero_iff f).2 hx
              rw [hz] at this
              cases this
          have hm2 : MarksAt wr.drew y.mb s.nl s.mm := hm1
          obtain ⟨W3, hup, hm3, hg3⟩ := marks_put (f := f) hm2 hi hmost hsome (by
            intro k
            have := HMK.out i k
            rw [HF.out]
            dsimp only
            omega)
          rw [mkV_marr, ← HBF.out] at hup
          obtain ⟨Bl, hBl⟩ : ∃ Bl : List Value, Bl.toArray = Bf := ⟨_, Array.toArray_toList⟩
          have hra : wr.rangeAt w.heap.size 0 Bl := by
            intro j v hv
            rw [Nat.zero_add, hr.cell, ← hBl]
            simpa using hv
          have hg3' : wr.grownBy W3 (some y.mb) := ⟨hg3.os, hg3.tape, hg3.output, hg3.size, hg3.block⟩
          have hra3 : W3.rangeAt w.heap.size 0 Bl := by
            intro j v hv
            rw [World.cell?_of_block (hg3'.block w.heap.size hr.lt (by intro e; have e := Option.some.inj e; omega))]
            exact hra j v hv
          have e33 : W3.cell? ⟨y.g, 3, none⟩ = some (.map (some y.mb)) := by
            rw [World.cell?_of_block (hg3'.block y.g (by have := hb.size; omega) (by intro e; exact HM.out.differ.g_mb (Option.some.inj e)))]
            exact e3
          subst hBl
          have hiB : (Try.prog.info? 103).map (·.size) = some Bl.length := by simpa using hi2
          have HM3 := Lib.hid hm3
          have HG3 := Lib.hid hg3'
          have HST := Lib.hid ((MapStep.same (hb.block _ hmb)).trans (put_step (w := wr.drew) hm2 hi hmost (HBS.out.1 trivial) (by rw [mkV_marr, ← HBF.out]; exact hup)))
          clear hm1 hm2 hm3 hg3 hg3' hz hr
          go_wp2_with (refine wpList_load_row rfl 103 (.tmp 6) rfl w.heap.size rfl 103 Bl.toArray (0, 0) _ hr' hu rfl hi2 ?_)
          clear hr' he hi2
          go_region_held3 (fun w' => w'.cell? ⟨y.g, 3, none⟩ = some (.map (some y.mb)) ∧ w'.rangeAt w.heap.size 0 Bl) (first | exact ⟨e3, hra⟩ | exact ⟨e33, hra3⟩) (fail)
          go_wp2
          go_end0
          obtain ⟨h1, h2⟩ := un_mem (m' := umk s.mm i n) HM.out hb HG3.out (by
            have := HM3.out
            rw [HF.out] at this
            exact this)
          exact ⟨rfl, h1, h2, HST.out⟩
        · rw [hz] at he
          have hnot : ¬ someMk f := (allZero_iff f).1 hz
          obtain ⟨W3, hdel, hm3, hg3⟩ := marks_del (f := f) (ty := 0) hm1 hi hmost hnot
          have HM3 := Lib.hid hm3
          have HG3 := Lib.hid hg3
          have HST := Lib.hid ((MapStep.same (hb.block _ hmb)).trans (del_step hm1 hi hmost hdel))
          clear hm1 hm3 hg3 hz hr
          go_wp2_with (refine wpList_load_row rfl 103 (.tmp 6) rfl w.heap.size rfl 103 Bf (0, 0) _ hr' hu rfl hi2 ?_)
          refine bodyPost_ret (results_none rfl _ _ _) rfl ?_
          obtain ⟨h1, h2⟩ := un_mem (m' := umk s.mm i n) HM.out hb HG3.out (by
            have := HM3.out
            rw [HF.out] at this
            exact this)
          exact ⟨rfl, h1, h2, HST.out⟩
end Go.Proofs.Yteojhhfcfdkmdaa
/- A memory's place behind one of its parts has turned: what has lasted, what is seen, a line's stores; without conditions. -/
namespace Go.Proofs.Yteojhhfcfdkmdaa
open Go.RowKit
set_option linter.unusedVariables false
theorem row_at {w : World} {t : TypeId} {cs : Array Value} {k : Nat} (h : k = w.heap.size) : Row (w.alloc (.cells cs t)) k t cs := by
  subst h
  exact Row.new w t cs
theorem mem_las {w W : World} {y : Lay} {s : St} {las : List Nat} (hm : MemAt w y s) (hl : W.ownsRow 0 22 1 (.slice (some ⟨y.gl, 0, none⟩) (8 * s.nl) y.cl) (8 * s.nl) (las.map wv)) (hb : But w W (fun k => k = y.gl)) :
    MemAt W y { s with lasted := las } ∧ Turn w W y y := by
  have hd := hm.differ
  have hk : ∀ k, y.fp k → k ≠ y.gl → W.heap[k]? = w.heap[k]? := fun k h1 h2 => hb.block k (hm.lt k h1) h2
  refine ⟨⟨hm.row.same (hk _ (.inl rfl) hd.g_gl), hl, own_same hm.vie (hk _ (.inr (.inr (.inl rfl))) (Ne.symm hd.gl_gv)), hm.ne, own_same hm.pen (hk _ (.inr (.inr (.inr (.inl rfl)))) (Ne.symm hd.gl_gp)), hm.plen, ?_, hm.apart, hm.marks.same (hk _ (.inr (.inr (.inr (.inr (.inl rfl))))) (Ne.symm hd.gl_mb)), hm.pos, hm.most⟩, rfl, hb.mono (fun k e => .inr (.inl e)), fun _ h => .inl h⟩
  intro j hj v l hv hl'
  exact (hm.tails j hj v l hv hl').same fun k hk' => hk k (.inr (.inr (.inr (.inr (.inr ⟨j, v, hv, hk'⟩))))) (hd.tail j v k hv hk').2.1
theorem mem_vie {w W : World} {y : Lay} {s : St} {vie : List Nat} (hm : MemAt w y s) (hl : W.ownsRow 0 22 1 (.slice (some ⟨y.gv, 0, none⟩) (8 * s.nl) y.cv) (8 * s.nl) (vie.map wv)) (hb : But w W (fun k => k = y.gv)) :
    MemAt W y { s with view := vie } ∧ Turn w W y y := by
  have hd := hm.differ
  have hk : ∀ k, y.fp k → k ≠ y.gv → W.heap[k]? = w.heap[k]? := fun k h1 h2 => hb.block k (hm.lt k h1) h2
  refine ⟨⟨hm.row.same (hk _ (.inl rfl) hd.g_gv), own_same hm.las (hk _ (.inr (.inl rfl)) hd.gl_gv), hl, hm.ne, own_same hm.pen (hk _ (.inr (.inr (.inr (.inl rfl)))) (Ne.symm hd.gv_gp)), hm.plen, ?_, hm.apart, hm.marks.same (hk _ (.inr (.inr (.inr (.inr (.inl rfl))))) (Ne.symm hd.gv_mb)), hm.pos, hm.most⟩, rfl, hb.mono (fun k e => .inr (.inr (.inl e))), fun _ h => .inl h⟩
  intro j hj v l hv hl'
  exact (hm.tails j hj v l hv hl').same fun k hk' => hk k (.inr (.inr (.inr (.inr (.inr ⟨j, v, hv, hk'⟩))))) (hd.tail j v k hv hk').2.2.1
theorem mem_mks {w W : World} {y : Lay} {s : St} {m : Nat → Nat → Nat} (hm : MemAt w y s) (hk : MarksAt W y.mb s.nl m) (hb : But w W (fun k => k = y.mb)) :
    MemAt W y { s with mm := m } ∧ Turn w W y y :=
  ⟨mem_marks hm rfl rfl rfl rfl (hb.row hm.row hm.differ.g_mb) (fun k h1 _ h3 => hb.block k (hm.lt k h1) h3) hk, rfl, hb.mono (fun k e => .inr (.inr (.inr (.inr (.inl e))))), fun _ h => .inl h⟩
/-- The same place, but for one line's stores. -/
def Lay.Near (y y' : Lay) (i : Nat) : Prop := y'.g = y.g ∧ y'.gp = y.gp ∧ y'.cp = y.cp ∧ y'.mb = y.mb ∧ y'.gv = y.gv ∧ y'.gl = y.gl ∧ y'.cv = y.cv ∧ y'.cl = y.cl ∧ ∀ j, j ≠ i → y'.ps[j]? = y.ps[j]?
theorem near_refl (y : Lay) (i : Nat) : y.Near y i := ⟨rfl, rfl, rfl, rfl, rfl, rfl, rfl, rfl, fun _ _ => rfl⟩
def Lay.tail (y : Lay) (i : Nat) (R : Value) : Lay := { y with ps := y.ps.set i R }
theorem near_tail (y : Lay) (i : Nat) (R : Value) : y.Near (y.tail i R) i := ⟨rfl, rfl, rfl, rfl, rfl, rfl, rfl, rfl, fun j h => List.getElem?_set_ne (Ne.symm h)⟩
theorem mem_tail {w : World} {y : Lay} {s : St} {i : Nat} {V R : Value} {l : List (Nat × Nat)} (hm : MemAt w y s) (hi : i < s.nl) (hV : y.ps[i]? = some V) (hR : R.ownBlock = none ∨ R.ownBlock = V.ownBlock) (ht : Tail w R l) :
    MemAt (w.setCell ⟨y.gp, i, none⟩ R) (y.tail i R) { s with pend := s.pend.set i l } ∧ Turn w (w.setCell ⟨y.gp, i, none⟩ R) y (y.tail i R) := by
  have hd := hm.differ
  have hpl := ps_len hm
  have hk : ∀ k, k ≠ y.gp → (w.setCell ⟨y.gp, i, none⟩ R).heap[k]? = w.heap[k]? := fun k h => heap_setCell_other _ _ _ _ h
  have hn : ∀ (j : Nat) (u : Value), j ≠ i → (y.ps.set i R)[j]? = some u → y.ps[j]? = some u := by
    intro j u hj hu
    rwa [List.getElem?_set_ne (by omega)] at hu
  have hs : (y.ps.set i R)[i]? = some R := List.getElem?_set_self (by omega)
  have hRk : ∀ k, R.ownBlock = some k → V.ownBlock = some k := by
    intro k h
    rcases hR with h0 | h0
    · rw [h0] at h; cases h
    · rw [← h0]; exact h
  refine ⟨⟨hm.row.same (hk _ hd.g_gp), own_same hm.las (hk _ hd.gl_gp), own_same hm.vie (hk _ hd.gv_gp), hm.ne, own_stored hm.pen i _, by show (s.pend.set _ _).length = _; rw [List.length_set]; exact hm.plen, ?_, ?_, hm.marks.same (hk _ (Ne.symm hd.gp_mb)), hm.pos, hm.most⟩, rfl, ?_, ?_⟩
  · intro j hj v m hv hl'
    by_cases e : j = i
    · subst e
      have hv' : (y.ps.set j R)[j]? = some v := hv
      have hl2 : (s.pend.set j l)[j]? = some m := hl'
      rw [hs] at hv'
      rw [List.getElem?_set_self (by have := hm.plen; omega)] at hl2
      cases hv'
      cases hl2
      exact ht.same fun k hk' => hk k (hd.tail j V k hV (hRk k hk')).2.2.2.1
    · have hl2 : (s.pend.set i l)[j]? = some m := hl'
      rw [List.getElem?_set_ne (by omega)] at hl2
      exact (hm.tails j hj v m (hn j v e hv) hl2).same fun k hk' => hk k (hd.tail j v k (hn j v e hv) hk').2.2.2.1
  · intro j1 j2 v1 v2 k hj hv1 hv2 hk1 hk2
    have g1 : ∃ u1, y.ps[j1]? = some u1 ∧ u1.ownBlock = some k := by
      by_cases e : j1 = i
      · subst e
        have hv' : (y.ps.set j1 R)[j1]? = some v1 := hv1
        rw [hs] at hv'
        cases hv'
        exact ⟨V, hV, hRk k hk1⟩
      · exact ⟨v1, hn j1 v1 e hv1, hk1⟩
    have g2 : ∃ u2, y.ps[j2]? = some u2 ∧ u2.ownBlock = some k := by
      by_cases e : j2 = i
      · subst e
        have hv' : (y.ps.set j2 R)[j2]? = some v2 := hv2
        rw [hs] at hv'
        cases hv'
        exact ⟨V, hV, hRk k hk2⟩
      · exact ⟨v2, hn j2 v2 e hv2, hk2⟩
    obtain ⟨u1, a1, a2⟩ := g1
    obtain ⟨u2, b1, b2⟩ := g2
    exact hm.apart j1 j2 u1 u2 k hj a1 b1 a2 b2
  · exact ⟨rfl, rfl, rfl, by simp [World.setCell], fun k _ h => hk k (fun e => h (.inr (.inr (.inr (.inl e)))))⟩
  · rintro k (rfl | rfl | rfl | rfl | rfl | ⟨j, v, hv, hk'⟩)
    · exact .inl (.inl rfl)
    · exact .inl (.inr (.inl rfl))
    · exact .inl (.inr (.inr (.inl rfl)))
    · exact .inl (.inr (.inr (.inr (.inl rfl))))
    · exact .inl (.inr (.inr (.inr (.inr (.inl rfl)))))
    · by_cases e : j = i
      · subst e
        have hv' : (y.ps.set j R)[j]? = some v := hv
        rw [hs] at hv'
        cases hv'
        exact .inl (.inr (.inr (.inr (.inr (.inr ⟨j, V, hV, hRk k hk'⟩)))))
      · exact .inl (.inr (.inr (.inr (.inr (.inr ⟨j, v, hn j v e hv, hk'⟩)))))
end Go.Proofs.Yteojhhfcfdkmdaa
