/- Texts of this claim, packed: PUnmark, PStep, PLast. -/
import Derived.Test.YthibbcokpmckfaaGreatDoorZ06
import Derived.Deep.QuietTactic
import Derived.BigQuiet
/- unmark: the elder stores that have lasted are taken out of all clients' marks of a line; for lines that there are, and marks that fit. -/
namespace Go.Proofs.YthibbcokpmckfaaGreatDoor
open Go.RowKit
set_option linter.unusedVariables false
attribute [local go_sem ↓] Go.wp_at_zero Go.wp_at_succ

theorem infoInt : (Tryz.prog.info? 3).map (fun i => (i.zero, i.size, i.bytes)) = some (some (.int .i64 0), 1, 8) := by kernel_rfl
theorem cellsInt : Tryz.prog.cellsOf 3 = 1 := by kernel_rfl
theorem plainInt : Tryz.prog.plainKey 3 = true := by kernel_rfl
theorem items65 (f : Nat → Nat) (w : World) : ∀ is : List Nat, (∀ i ∈ is, i < 65) → (Op.eqItems 9999 3 1 (marr f) (marr fun _ => 0) is).run Tryz.prog w = .ok (is.all fun i => f i == 0) w
  | [], _ => by simp [Op.eqItems]
  | i :: is, h => by
    have hp := run_part_plain (P := Tryz.prog) w plainInt (xs := marr f) (off := i) (marr_get f i (h i (by simp)))
    have hq := run_part_plain (P := Tryz.prog) w plainInt (xs := marr fun _ => 0) (off := i) (marr_get _ i (h i (by simp)))
    have he := run_equalIn_int (P := Tryz.prog) w 9998 3 .i64 .i64 (f i : Int) ((0 : Nat) : Int) Tryz.underlying3
    have hi := items65 f w is (fun j hj => h j (by simp [hj]))
    have hb : (((f i : Int)) == ((0 : Nat) : Int)) = (f i == 0) := by
      rw [Bool.eq_iff_iff, beq_iff_eq, beq_iff_eq]
      omega
    simp only [Op.eqItems, Sem.run_bind, Nat.mul_one, hp, hq, Result.andThen_ok, he, hb, hi, List.all_cons]
    cases hz : (f i == 0) <;> simp [hi]
def allZero (f : Nat → Nat) : Bool := (List.range 65).all fun i => f i == 0
theorem allZero_iff (f : Nat → Nat) : allZero f = true ↔ ¬ someMk f := by
  unfold allZero someMk
  rw [List.all_eq_true]
  constructor
  · rintro h ⟨c, hc, hn⟩
    exact hn (beq_iff_eq.1 (h c (List.mem_range.2 hc)))
  · intro h c hc
    have hc' := List.mem_range.1 hc
    by_cases e : f c = 0
    · simp [e]
    · exact absurd ⟨c, hc', e⟩ h
theorem eql65 (f : Nat → Nat) (w : World) : (binOp .eql 133 (.agg (marr f)) (.agg (marr fun _ => 0))).run Tryz.prog w = .ok (.bool (allZero f)) w := by
  obtain ⟨i0, hi, hz0, hz1, hz2⟩ := info_parts infoInt
  have h := run_equalIn_array (P := Tryz.prog) w 9999 (marr f) (marr fun _ => 0) Tryz.underlying133 hi
  rw [cellsInt, items65 f w _ (by intro i hi; exact List.mem_range.1 hi)] at h
  rw [run_eql_struct, h]
  rfl
theorem marks_of {w : World} {mb nl : Nat} {m m' : Nat → Nat → Nat} (h : MarksAt w mb nl m) (he : ∀ j, j < nl → ∀ c, c < 65 → m j c = m' j c) : MarksAt w mb nl m' := by
  obtain ⟨D, h1, h2, h3, h4⟩ := h
  refine ⟨D, h1, h2, fun j hj => (h3 j hj).trans ?_, fun j hj z hz => (h4 j hj z hz).trans (mkD_of (he j hj))⟩
  constructor
  · rintro ⟨c, hc, hn⟩
    exact ⟨c, hc, by rw [← he j hj c hc]; exact hn⟩
  · rintro ⟨c, hc, hn⟩
    exact ⟨c, hc, by rw [he j hj c hc]; exact hn⟩

theorem marr_of {f g : Nat → Nat} (h : ∀ c, c < 65 → f c = g c) : marr f = marr g := by
  have := mkV_of h
  rw [mkV_marr, mkV_marr] at this
  exact Value.agg.inj this
theorem zero65 : Tryz.zeroCells133 = marr fun _ => 0 := by kernel_rfl
/-- What unmark makes of the marks. -/
def umk (m : Nat → Nat → Nat) (i n : Nat) : Nat → Nat → Nat := upd m i fun c => m i c - n
theorem umk_at (m : Nat → Nat → Nat) (i n c : Nat) : umk m i n i c = m i c - n := by simp [umk, upd]
theorem umk_far {m : Nat → Nat → Nat} {i n j c : Nat} (h : ¬ j = i) : umk m i n j c = m j c := by simp [umk, upd, h]
def UnPost (w : World) (y : Lay) (s : St) (i n : Nat) (e : Ending) (w' : World) : Prop :=
  e = .returned (.tuple #[]) ∧ MemAt w' y { s with mm := umk s.mm i n } ∧ But w w' (fun k => k = y.mb) ∧ MapStep w w' y.mb
theorem un_mem {w W0 W3 : World} {y : Lay} {s : St} {m' : Nat → Nat → Nat} (hm : MemAt w y s) (hb : Below w.heap.size w W0) (hg : W0.grownBy W3 (some y.mb)) (hmk : MarksAt W3 y.mb s.nl m') :
    MemAt W3 y { s with mm := m' } ∧ But w W3 (fun k => k = y.mb) := by
  have hk : ∀ k, k < w.heap.size → k ≠ y.mb → W3.heap[k]? = w.heap[k]? := fun k h1 h2 =>
    (hg.block k (Nat.lt_of_lt_of_le h1 hb.size) (fun e => h2 (Option.some.inj e))).trans (hb.block k h1)
  refine ⟨mem_marks hm rfl rfl rfl rfl ?_ ?_ hmk, ⟨hg.os.trans hb.os, hg.tape.trans hb.tape, hg.output.trans hb.output, Nat.le_trans hb.size hg.size, fun k h1 h2 => hk k h1 h2⟩⟩
  · exact (hk y.g hm.row.lt hm.differ.g_mb).trans hm.row
  · exact fun k h1 h2 h3 => hk k (hm.lt k h1) h3
set_option maxRecDepth 100000 in
set_option maxHeartbeats 3200000 in
theorem unmark_ok {w : World} {y : Lay} {s : St} (h : MemAt w y s) (i n : Nat) (hi : i < s.nl) (hn : n ≤ 1000000000) (hmk : ∀ j c, s.mm j c ≤ 1000000000) :
    Calls Tryz.prog 94 #[.pointer (some ⟨y.g, 0, none⟩), .int .i64 (i : Int), .int .i64 (n : Int)] w (UnPost w y s i n) := by
  have hmost := h.most
  have c3 := h.row.cell 3
  simp only [List.getElem?_toArray, List.getElem?_cons_succ, List.getElem?_cons_zero] at c3
  obtain ⟨b, hbs, hlk⟩ := marks_look_ok (i := i) h.marks hi hmost
  rw [mkV_marr] at hlk
  obtain ⟨B, hB⟩ : ∃ B, B = marr (s.mm i) := ⟨_, rfl⟩
  rw [← hB] at hlk
  have hfit : (Tryz.prog.info? 133).map (·.size) = some B.size := by rw [hB]; exact marr_fit _
  have hold : (Array.replicate 65 (Value.int .i64 0)).size = B.size := by rw [hB, marr_size]; rfl
  have hone : B.all (·.oneCell') = true := by rw [hB]; exact marr_one _
  have hr3 := Row.new w 133 (Array.replicate 65 (Value.int .i64 0))
  have hrr : Row ((w.alloc (.cells Tryz.zeroCells133 133)).setRow w.heap.size B) w.heap.size 133 B := (Row.new w 133 Tryz.zeroCells133).setRow B
  have hb0 : Below w.heap.size w ((w.alloc (.cells Tryz.zeroCells133 133)).setRow w.heap.size B) := below_setRow (alloc_below _ _) (Nat.le_refl _) _
  have HM := Lib.hid h
  have HB := Lib.hid hB
  have HBS := Lib.hid hbs
  have HMK := Lib.hid hmk
  have HRR := Lib.hid hrr
  clear h hB hbs hmk hrr
  cases b
  · go_enter Tryz.func94, Tryz.ntmps94
    go_wp2_with (refine wpList_store_row rfl 133 (.tmp 6) (.tmp 16) rfl w.heap.size B rfl rfl 133 _ hr3 hfit hold hone ?_)
    refine bodyPost_ret (results_none rfl _ _ _) rfl ?_
    have hns : ¬ someMk (s.mm i) := fun hx => by have := HBS.out.2 hx; cases this
    obtain ⟨h1, h2⟩ := un_mem (m' := umk s.mm i n) HM.out hb0 (World.grownBy.refl _ _) (marks_of (HM.out.marks.same (hb0.block _ HM.out.marks.lt)) (by
      intro j hj c hc
      by_cases e : j = i
      · rw [e, umk_at, not_some hns c hc]
        omega
      · rw [umk_far e]))
    exact ⟨rfl, h1, h2, MapStep.same (hb0.block _ HM.out.marks.lt)⟩
  · go_enter Tryz.func94, Tryz.ntmps94
    go_wp2_with (refine wpList_store_row rfl 133 (.tmp 6) (.tmp 16) rfl w.heap.size B rfl rfl 133 _ hr3 hfit hold hone ?_)
    clear hfit hold hone hr3 hlk
    go_loopw [20] (fun v wr => ∃ k : Nat, k ≤ 65 ∧ v = .int .i64 k ∧ Row wr w.heap.size 133 (marr fun c => if c < k then s.mm i c - n else s.mm i c) ∧ Below w.heap.size w wr) (fun v _ => 65 - (intOf v).toNat)
    case atStart => exact ⟨0, by omega, rfl, by simpa [HB.out] using HRR.out, hb0⟩
    case round =>
      obtain ⟨k, hk, rfl, hr, hb⟩ := hrel
      clear hb0
      by_cases hlt : k < 65
      · have hc := hr.cell k
        rw [marr_get _ _ hlt, if_neg (by omega)] at hc
        have hf := hr.free k
        have hm1 := HMK.out i k
        obtain ⟨q, hq⟩ : ∃ q, q = s.mm i k := ⟨_, rfl⟩
        rw [← hq] at hc hm1
        have HQ := Lib.hid hq
        have HR := Lib.hid hr
        clear hq hr
        go_wp2
        all_goals
          go_roundw
          case rel =>
            have e1 : Value.int .i64 (if n < q then (q : Int) - (n : Int) else 0) = .int .i64 (((q - n : Nat)) : Int) := by
              congr 1
              split <;> omega
            rw [e1]
            refine ⟨k + 1, by omega, by go_num, ?_, hb.setCell (Nat.le_refl _) _⟩
            have h2 := HR.out.set k (.int .i64 ((q - n : Nat) : Int))
            rw [marr_set _ _ _ hlt] at h2
            rw [marr_of (g := fun c => if c = k then q - n else if c < k then s.mm i c - n else s.mm i c)]
            · exact h2
            · intro c hc
              by_cases e : c = k
              · rw [if_pos e, if_pos (by omega), e, HQ.out]
              · rw [if_neg e]
                by_cases e2 : c < k
                · rw [if_pos e2, if_pos (by omega)]
                · rw [if_neg e2, if_neg (by omega)]
          case measure => simp [intOf]; omega
      · have hk2 : k = 65 := by omega
        subst hk2
        rw [marr_of (g := fun c => s.mm i c - n) (fun c hc => if_pos hc)] at hr
        obtain ⟨f, hf⟩ : ∃ f, f = fun c => s.mm i c - n := ⟨_, rfl⟩
        rw [← hf] at hr
        have he := eql65 f
        have hu := Tryz.underlying133
        have hi2 := marr_fit f
        obtain ⟨Bf, hBf⟩ : ∃ Bf, Bf = marr f := ⟨_, rfl⟩
        rw [← hBf] at hr he hi2
        have hr' := hr
        have HF := Lib.hid hf
        have HBF := Lib.hid hBf
        clear hf hBf
        rw [← zero65] at he
        have hlt : y.g < w.heap.size := block_lt_of_cell c3
        have e3 : wr.cell? ⟨y.g, 3, none⟩ = some (.map (some y.mb)) := (hb.cell (p := ⟨y.g, 3, none⟩) hlt).trans c3
        have hmb : y.mb < w.heap.size := HM.out.marks.lt
        have hm1 : MarksAt wr y.mb s.nl s.mm := HM.out.marks.same (hb.block _ hmb)
        cases hz : allZero f
        · rw [hz] at he
          have hsome : someMk f := by
            by_cases hx : someMk f
            · exact hx
            · have := (allZero_iff f).2 hx
              rw [hz] at this
              cases this
          have hm2 : MarksAt wr.drew y.mb s.nl s.mm := hm1
          obtain ⟨W3, hup, hm3, hg3⟩ := marks_put (f := f) hm2 hi hmost hsome (by
            intro k
            have := HMK.out i k
            rw [HF.out]
            dsimp only
            omega)
          rw [mkV_marr, ← HBF.out] at hup
          obtain ⟨Bl, hBl⟩ : ∃ Bl : List Value, Bl.toArray = Bf := ⟨_, Array.toArray_toList⟩
          have hra : wr.rangeAt w.heap.size 0 Bl := by
            intro j v hv
            rw [Nat.zero_add, hr.cell, ← hBl]
            simpa using hv
          have hg3' : wr.grownBy W3 (some y.mb) := ⟨hg3.os, hg3.tape, hg3.output, hg3.size, hg3.block⟩
          have hra3 : W3.rangeAt w.heap.size 0 Bl := by
            intro j v hv
            rw [World.cell?_of_block (hg3'.block w.heap.size hr.lt (by intro e; have e := Option.some.inj e; omega))]
            exact hra j v hv
          have e33 : W3.cell? ⟨y.g, 3, none⟩ = some (.map (some y.mb)) := by
            rw [World.cell?_of_block (hg3'.block y.g (by have := hb.size; omega) (by intro e; exact HM.out.differ.g_mb (Option.some.inj e)))]
            exact e3
          subst hBl
          have hiB : (Tryz.prog.info? 133).map (·.size) = some Bl.length := by simpa using hi2
          have HM3 := Lib.hid hm3
          have HG3 := Lib.hid hg3'
          have HST := Lib.hid ((MapStep.same (hb.block _ hmb)).trans (put_step (w := wr.drew) hm2 hi hmost (HBS.out.1 trivial) (by rw [mkV_marr, ← HBF.out]; exact hup)))
          clear hm1 hm2 hm3 hg3 hg3' hz hr
          go_wp2_with (refine wpList_load_row rfl 133 (.tmp 6) rfl w.heap.size rfl 133 Bl.toArray (0, 0) _ hr' hu rfl hi2 ?_)
          clear hr' he hi2
          go_region_held3 (fun w' => w'.cell? ⟨y.g, 3, none⟩ = some (.map (some y.mb)) ∧ w'.rangeAt w.heap.size 0 Bl) (first | exact ⟨e3, hra⟩ | exact ⟨e33, hra3⟩) (fail)
          go_wp2
          go_end0
          obtain ⟨h1, h2⟩ := un_mem (m' := umk s.mm i n) HM.out hb HG3.out (by
            have := HM3.out
            rw [HF.out] at this
            exact this)
          exact ⟨rfl, h1, h2, HST.out⟩
        · rw [hz] at he
          have hnot : ¬ someMk f := (allZero_iff f).1 hz
          obtain ⟨W3, hdel, hm3, hg3⟩ := marks_del (f := f) (ty := 0) hm1 hi hmost hnot
          have HM3 := Lib.hid hm3
          have HG3 := Lib.hid hg3
          have HST := Lib.hid ((MapStep.same (hb.block _ hmb)).trans (del_step hm1 hi hmost hdel))
          clear hm1 hm3 hg3 hz hr
          go_wp2_with (refine wpList_load_row rfl 133 (.tmp 6) rfl w.heap.size rfl 133 Bf (0, 0) _ hr' hu rfl hi2 ?_)
          refine bodyPost_ret (results_none rfl _ _ _) rfl ?_
          obtain ⟨h1, h2⟩ := un_mem (m' := umk s.mm i n) HM.out hb HG3.out (by
            have := HM3.out
            rw [HF.out] at this
            exact this)
          exact ⟨rfl, h1, h2, HST.out⟩
end Go.Proofs.YthibbcokpmckfaaGreatDoor
/- A memory's place behind one of its parts has turned: what has lasted, what is seen, a line's stores; without conditions. -/
namespace Go.Proofs.YthibbcokpmckfaaGreatDoor
open Go.RowKit
set_option linter.unusedVariables false
theorem row_at {w : World} {t : TypeId} {cs : Array Value} {k : Nat} (h : k = w.heap.size) : Row (w.alloc (.cells cs t)) k t cs := by
  subst h
  exact Row.new w t cs
theorem mem_las {w W : World} {y : Lay} {s : St} {las : List Nat} (hm : MemAt w y s) (hl : W.ownsRow 0 23 1 (.slice (some ⟨y.gl, 0, none⟩) (8 * s.nl) y.cl) (8 * s.nl) (las.map wv)) (hb : But w W (fun k => k = y.gl)) :
    MemAt W y { s with lasted := las } ∧ Turn w W y y := by
  have hd := hm.differ
  have hk : ∀ k, y.fp k → k ≠ y.gl → W.heap[k]? = w.heap[k]? := fun k h1 h2 => hb.block k (hm.lt k h1) h2
  refine ⟨⟨hm.row.same (hk _ (.inl rfl) hd.g_gl), hl, own_same hm.vie (hk _ (.inr (.inr (.inl rfl))) (Ne.symm hd.gl_gv)), hm.ne, own_same hm.pen (hk _ (.inr (.inr (.inr (.inl rfl)))) (Ne.symm hd.gl_gp)), hm.plen, ?_, hm.apart, hm.marks.same (hk _ (.inr (.inr (.inr (.inr (.inl rfl))))) (Ne.symm hd.gl_mb)), hm.pos, hm.most⟩, rfl, hb.mono (fun k e => .inr (.inl e)), fun _ h => .inl h⟩
  intro j hj v l hv hl'
  exact (hm.tails j hj v l hv hl').same fun k hk' => hk k (.inr (.inr (.inr (.inr (.inr ⟨j, v, hv, hk'⟩))))) (hd.tail j v k hv hk').2.1
theorem mem_vie {w W : World} {y : Lay} {s : St} {vie : List Nat} (hm : MemAt w y s) (hl : W.ownsRow 0 23 1 (.slice (some ⟨y.gv, 0, none⟩) (8 * s.nl) y.cv) (8 * s.nl) (vie.map wv)) (hb : But w W (fun k => k = y.gv)) :
    MemAt W y { s with view := vie } ∧ Turn w W y y := by
  have hd := hm.differ
  have hk : ∀ k, y.fp k → k ≠ y.gv → W.heap[k]? = w.heap[k]? := fun k h1 h2 => hb.block k (hm.lt k h1) h2
  refine ⟨⟨hm.row.same (hk _ (.inl rfl) hd.g_gv), own_same hm.las (hk _ (.inr (.inl rfl)) hd.gl_gv), hl, hm.ne, own_same hm.pen (hk _ (.inr (.inr (.inr (.inl rfl)))) (Ne.symm hd.gv_gp)), hm.plen, ?_, hm.apart, hm.marks.same (hk _ (.inr (.inr (.inr (.inr (.inl rfl))))) (Ne.symm hd.gv_mb)), hm.pos, hm.most⟩, rfl, hb.mono (fun k e => .inr (.inr (.inl e))), fun _ h => .inl h⟩
  intro j hj v l hv hl'
  exact (hm.tails j hj v l hv hl').same fun k hk' => hk k (.inr (.inr (.inr (.inr (.inr ⟨j, v, hv, hk'⟩))))) (hd.tail j v k hv hk').2.2.1
theorem mem_mks {w W : World} {y : Lay} {s : St} {m : Nat → Nat → Nat} (hm : MemAt w y s) (hk : MarksAt W y.mb s.nl m) (hb : But w W (fun k => k = y.mb)) :
    MemAt W y { s with mm := m } ∧ Turn w W y y :=
  ⟨mem_marks hm rfl rfl rfl rfl (hb.row hm.row hm.differ.g_mb) (fun k h1 _ h3 => hb.block k (hm.lt k h1) h3) hk, rfl, hb.mono (fun k e => .inr (.inr (.inr (.inr (.inl e))))), fun _ h => .inl h⟩
/-- The same place, but for one line's stores. -/
def Lay.Near (y y' : Lay) (i : Nat) : Prop := y'.g = y.g ∧ y'.gp = y.gp ∧ y'.cp = y.cp ∧ y'.mb = y.mb ∧ y'.gv = y.gv ∧ y'.gl = y.gl ∧ y'.cv = y.cv ∧ y'.cl = y.cl ∧ ∀ j, j ≠ i → y'.ps[j]? = y.ps[j]?
theorem near_refl (y : Lay) (i : Nat) : y.Near y i := ⟨rfl, rfl, rfl, rfl, rfl, rfl, rfl, rfl, fun _ _ => rfl⟩
def Lay.tail (y : Lay) (i : Nat) (R : Value) : Lay := { y with ps := y.ps.set i R }
theorem near_tail (y : Lay) (i : Nat) (R : Value) : y.Near (y.tail i R) i := ⟨rfl, rfl, rfl, rfl, rfl, rfl, rfl, rfl, fun j h => List.getElem?_set_ne (Ne.symm h)⟩
theorem mem_tail {w : World} {y : Lay} {s : St} {i : Nat} {V R : Value} {l : List (Nat × Nat)} (hm : MemAt w y s) (hi : i < s.nl) (hV : y.ps[i]? = some V) (hR : R.ownBlock = none ∨ R.ownBlock = V.ownBlock) (ht : Tail w R l) :
    MemAt (w.setCell ⟨y.gp, i, none⟩ R) (y.tail i R) { s with pend := s.pend.set i l } ∧ Turn w (w.setCell ⟨y.gp, i, none⟩ R) y (y.tail i R) := by
  have hd := hm.differ
  have hpl := ps_len hm
  have hk : ∀ k, k ≠ y.gp → (w.setCell ⟨y.gp, i, none⟩ R).heap[k]? = w.heap[k]? := fun k h => heap_setCell_other _ _ _ _ h
  have hn : ∀ (j : Nat) (u : Value), j ≠ i → (y.ps.set i R)[j]? = some u → y.ps[j]? = some u := by
    intro j u hj hu
    rwa [List.getElem?_set_ne (by omega)] at hu
  have hs : (y.ps.set i R)[i]? = some R := List.getElem?_set_self (by omega)
  have hRk : ∀ k, R.ownBlock = some k → V.ownBlock = some k := by
    intro k h
    rcases hR with h0 | h0
    · rw [h0] at h; cases h
    · rw [← h0]; exact h
  refine ⟨⟨hm.row.same (hk _ hd.g_gp), own_same hm.las (hk _ hd.gl_gp), own_same hm.vie (hk _ hd.gv_gp), hm.ne, own_stored hm.pen i _, by show (s.pend.set _ _).length = _; rw [List.length_set]; exact hm.plen, ?_, ?_, hm.marks.same (hk _ (Ne.symm hd.gp_mb)), hm.pos, hm.most⟩, rfl, ?_, ?_⟩
  · intro j hj v m hv hl'
    by_cases e : j = i
    · subst e
      have hv' : (y.ps.set j R)[j]? = some v := hv
      have hl2 : (s.pend.set j l)[j]? = some m := hl'
      rw [hs] at hv'
      rw [List.getElem?_set_self (by have := hm.plen; omega)] at hl2
      cases hv'
      cases hl2
      exact ht.same fun k hk' => hk k (hd.tail j V k hV (hRk k hk')).2.2.2.1
    · have hl2 : (s.pend.set i l)[j]? = some m := hl'
      rw [List.getElem?_set_ne (by omega)] at hl2
      exact (hm.tails j hj v m (hn j v e hv) hl2).same fun k hk' => hk k (hd.tail j v k (hn j v e hv) hk').2.2.2.1
  · intro j1 j2 v1 v2 k hj hv1 hv2 hk1 hk2
    have g1 : ∃ u1, y.ps[j1]? = some u1 ∧ u1.ownBlock = some k := by
      by_cases e : j1 = i
      · subst e
        have hv' : (y.ps.set j1 R)[j1]? = some v1 := hv1
        rw [hs] at hv'
        cases hv'
        exact ⟨V, hV, hRk k hk1⟩
      · exact ⟨v1, hn j1 v1 e hv1, hk1⟩
    have g2 : ∃ u2, y.ps[j2]? = some u2 ∧ u2.ownBlock = some k := by
      by_cases e : j2 = i
      · subst e
        have hv' : (y.ps.set j2 R)[j2]? = some v2 := hv2
        rw [hs] at hv'
        cases hv'
        exact ⟨V, hV, hRk k hk2⟩
      · exact ⟨v2, hn j2 v2 e hv2, hk2⟩
    obtain ⟨u1, a1, a2⟩ := g1
    obtain ⟨u2, b1, b2⟩ := g2
    exact hm.apart j1 j2 u1 u2 k hj a1 b1 a2 b2
  · exact ⟨rfl, rfl, rfl, by simp [World.setCell], fun k _ h => hk k (fun e => h (.inr (.inr (.inr (.inl e)))))⟩
  · rintro k (rfl | rfl | rfl | rfl | rfl | ⟨j, v, hv, hk'⟩)
    · exact .inl (.inl rfl)
    · exact .inl (.inr (.inl rfl))
    · exact .inl (.inr (.inr (.inl rfl)))
    · exact .inl (.inr (.inr (.inr (.inl rfl))))
    · exact .inl (.inr (.inr (.inr (.inr (.inl rfl)))))
    · by_cases e : j = i
      · subst e
        have hv' : (y.ps.set j R)[j]? = some v := hv
        rw [hs] at hv'
        cases hv'
        exact .inl (.inr (.inr (.inr (.inr (.inr ⟨j, V, hV, hRk k hk'⟩)))))
      · exact .inl (.inr (.inr (.inr (.inr (.inr ⟨j, v, hn j v e hv, hk'⟩)))))
end Go.Proofs.YthibbcokpmckfaaGreatDoor
/- last: the elder pending stores of a line last; for lines that there are, and at most as many as are pending. -/
namespace Go.Proofs.YthibbcokpmckfaaGreatDoor
open Go.RowKit
set_option linter.unusedVariables false
attribute [local go_sem ↓] Go.wp_at_zero Go.wp_at_succ

/-- Stores that have lasted, one behind the other; the state behind that. -/
def lastW (las : List Nat) (ps : List (Nat × Nat)) : List Nat := ps.foldl (fun l p => l.set (p.1 / 8) p.2) las
theorem lastW_length (las : List Nat) (ps : List (Nat × Nat)) : (lastW las ps).length = las.length := by
  unfold lastW
  induction ps generalizing las with
  | nil => rfl
  | cons p t ih => rw [List.foldl_cons, ih, List.length_set]
theorem lastW_snoc (las : List Nat) (ps : List (Nat × Nat)) (p : Nat × Nat) : lastW las (ps ++ [p]) = (lastW las ps).set (p.1 / 8) p.2 := by simp [lastW]
def St.last (s : St) (i n : Nat) : St := { s with lasted := lastW s.lasted ((s.pend.getD i []).take n), pend := s.pend.set i ((s.pend.getD i []).drop n), mm := umk s.mm i n }
def LastPost (w : World) (y : Lay) (s' : St) (i : Nat) (e : Ending) (w' : World) : Prop := e = .returned (.tuple #[]) ∧ ∃ y', MemAt w' y' s' ∧ Turn w w' y y' ∧ y.Near y' i ∧ MapStep w w' y.mb

theorem last_zero {w : World} {y : Lay} {s : St} (h : MemAt w y s) (i : Nat) (hi : i < s.nl) : MemAt w y (s.last i 0) := by
  have e1 : (s.last i 0).pend = s.pend := by
    show s.pend.set i _ = _
    rw [List.drop_zero, List.getD_eq_getElem?_getD, List.getElem?_eq_getElem (by have := h.plen; omega), Option.getD_some]
    exact List.set_getElem_self _
  refine mem_marks h rfl (by show lastW s.lasted (List.take 0 (s.pend.getD i [])) = _; rw [List.take_zero]; rfl) rfl e1 h.row (fun _ _ _ _ => rfl) (marks_of h.marks ?_)
  intro j hj c hc
  show _ = umk s.mm i 0 j c
  by_cases e : j = i
  · rw [e, umk_at]; omega
  · rw [umk_far e]
theorem last_none {w : World} {y : Lay} {s : St} (h : MemAt w y s) (i : Nat) (hi : i < s.nl) :
    Calls Tryz.prog 65 #[.pointer (some ⟨y.g, 0, none⟩), .int .i64 (i : Int), .int .i64 0] w (LastPost w y (s.last i 0) i) := by
  have H := Lib.hid (last_zero h i hi)
  obtain ⟨g, hg⟩ : ∃ g, g = y.g := ⟨_, rfl⟩
  rw [← hg]
  clear h hg
  go_enter Tryz.func65, Tryz.ntmps65
  go_wp2_with fail
  refine bodyPost_ret (results_none rfl _ _ _) rfl ?_
  exact ⟨rfl, y, H.out, Turn.refl _ _, near_refl _ _, MapStep.same rfl⟩
theorem Tail.drop {w : World} {h off cap L n : Nat} {l : List (Nat × Nat)} (ht : Tail w (.slice (some ⟨h, off, none⟩) L cap) l) (hn : n < l.length) : Tail w (.slice (some ⟨h, off + n * 2, none⟩) (l.length - n) (cap - n)) (l.drop n) := by
  rcases ht with ⟨h0, _⟩ | ⟨h', off', cap', cur, h0, hr, hp, hlc, hcm, hfit, htk⟩
  · cases h0
  · simp only [Value.slice.injEq, Option.some.injEq, Addr.mk.injEq, and_true] at h0
    obtain ⟨⟨rfl, rfl⟩, rfl, rfl⟩ := h0
    refine .inr ⟨h, off + n * 2, cap - n, cur, by rw [List.length_drop], hr, by rw [List.length_drop]; omega, by rw [List.length_drop]; omega, by omega, by omega, ?_⟩
    rw [← flat_drop, ← htk, List.drop_take, List.drop_drop, List.length_drop]
    congr 1
    · omega
    · congr 1
      omega
theorem last_fin {w wr W' w' : World} {y : Lay} {s : St} {i n : Nat} {l : List (Nat × Nat)} {R : Value} (hl : s.pend[i]? = some l) (t1 : Turn w wr y y) (t2 : Turn wr W' y (y.tail i R))
    (hm : MemAt w' (y.tail i R) { s with lasted := lastW s.lasted (l.take n), pend := s.pend.set i (l.drop n), mm := umk s.mm i n }) (hb : But W' w' (fun k => k = (y.tail i R).mb)) (he : W'.heap[y.mb]? = w.heap[y.mb]?) (hst : MapStep W' w' (y.tail i R).mb) : LastPost w y (s.last i n) i (.returned (.tuple #[])) w' := by
  have e : s.last i n = { s with lasted := lastW s.lasted (l.take n), pend := s.pend.set i (l.drop n), mm := umk s.mm i n } := by
    unfold St.last
    rw [List.getD_eq_getElem?_getD, hl]
    rfl
  rw [e]
  exact ⟨rfl, y.tail i R, hm, (t1.trans t2).trans ⟨rfl, hb.mono (fun k e => .inr (.inr (.inr (.inr (.inl e))))), fun _ h => .inl h⟩, near_tail _ _ _, (MapStep.same he).trans hst⟩
set_option maxRecDepth 100000 in
set_option maxHeartbeats 3200000 in
theorem last_some {w : World} {y : Lay} {s : St} (h : MemAt w y s) (ok : s.Ok) (i n : Nat) (l : List (Nat × Nat)) (hi : i < s.nl) (hl : s.pend[i]? = some l) (hn0 : 0 < n) (hn : n ≤ l.length) :
    Calls Tryz.prog 65 #[.pointer (some ⟨y.g, 0, none⟩), .int .i64 (i : Int), .int .i64 (n : Int)] w (LastPost w y (s.last i n) i) := by
  have hmost := h.most
  have hll := ok.few l (List.mem_of_getElem? hl)
  have c0 := h.row.cell 0
  have c2 := h.row.cell 2
  simp only [List.getElem?_toArray, List.getElem?_cons_succ, List.getElem?_cons_zero] at c0 c2
  obtain ⟨V, l', hV, hl', ht⟩ := ps_get h hi
  rw [hl] at hl'
  cases hl'
  have ht' := ht
  rcases ht with ⟨_, rfl⟩ | ⟨hb, off, cap, cur, rfl, hr, hp0, hlc, hcm, hfit, htk⟩
  · simp at hn
    omega
  have hd := h.differ
  have cpp : w.cell? ⟨y.gp, i, none⟩ = some (.slice (some ⟨hb, off, none⟩) l.length cap) := by rw [h.pen.cellAt i (by omega), hV]
  have hcells : ∀ k (hk : k < l.length), w.cell? ⟨hb, off + k * 2, none⟩ = some (wv l[k].1) ∧ w.cell? ⟨hb, off + k * 2 + 1, none⟩ = some (wv l[k].2) := by
    intro k hk
    obtain ⟨g1, g2⟩ := flat_get l k hk
    rw [← htk, List.getElem?_take, List.getElem?_drop] at g1 g2
    rw [if_pos (by omega)] at g1 g2
    rw [hr.cell, hr.cell]
    refine ⟨?_, ?_⟩
    · rw [show off + k * 2 = off + 2 * k from by omega]; simpa using g1
    · rw [show off + k * 2 + 1 = off + (2 * k + 1) from by omega]; simpa using g2
  obtain ⟨L, hL⟩ : ∃ L, L = l.length := ⟨_, rfl⟩
  rw [← hL] at cpp hlc hn hll hp0
  have hcm' : cap ≤ 9223372036854775807 := by unfold maxLen at hcm; omega
  have HM := Lib.hid h
  have HO := Lib.hid ok
  have HD := Lib.hid hd
  have HV := Lib.hid hV
  have HLL := Lib.hid hl
  have HT := Lib.hid ht'
  have HC := Lib.hid hcells
  have HL := Lib.hid hL
  have hn00 : ((n : Int) == 0) = false := by rw [Bool.eq_false_iff]; intro hh; have := beq_iff_eq.1 hh; omega
  have i0 : (0 : Int) ≤ (i : Int) := by omega
  have i1 : (i : Int) < (s.nl : Int) := by omega
  have b0 : (0 : Int) ≤ (n : Int) := by omega
  have b1 : (n : Int) ≤ (L : Int) := by omega
  have b2 : (n : Int) ≤ (cap : Int) := by omega
  have b3 : (L : Int) ≤ (cap : Int) := by omega
  clear h ok hd hV hl ht' hcells hL htk hfit hr
  obtain ⟨N, hN⟩ : ∃ N, N = 8 * s.nl := ⟨_, rfl⟩
  rw [← hN] at c0
  have HN := Lib.hid hN
  have HC0 := Lib.hid c0
  have hNb : N ≤ 131072 := by omega
  clear hN c0
  have hcase : (cap = n ∧ L = n) ∨ (n < cap ∧ L = n) ∨ n < L := by omega
  have hL0 : L < 9223372036854775808 := by omega
  rcases hcase with ⟨hcap, hLn⟩ | ⟨hcap, hLn⟩ | hLn
  · have hcap := hcap.symm
    subst hcap
    have hrest : L - n = 0 ∧ l.drop n = [] := ⟨by omega, List.drop_of_length_le (by rw [← HL.out]; omega)⟩
    have HR := Lib.hid hrest
    have e0 : ((L : Int) - (n : Int) == 0) = true := by rw [beq_iff_eq]; omega
    have HLn := Lib.hid hLn
    clear hLn hrest
    go_enter Tryz.func65, Tryz.ntmps65
    go_wp2_with fail
    go_quiet (fail)
    go_wp2_with fail
    go_loopw [29] (fun v wr => ∃ k : Nat, k ≤ n ∧ v = .int .i64 k ∧ wr.ownsRow 0 23 1 (.slice (some ⟨y.gl, 0, none⟩) (8 * s.nl) y.cl) (8 * s.nl) ((lastW s.lasted (l.take k)).map wv) ∧ But w wr (fun k => k = y.gl)) (fun v _ => n - (intOf v).toNat)
    case atStart => exact ⟨0, by omega, rfl, by rw [List.take_zero]; exact own_keep HM.out.las (drewN_below _ _), But.of_below (drewN_below _ _) _⟩
    case round =>
      obtain ⟨k, hk, rfl, hown, hbut⟩ := hrel
      by_cases hlt : k < n
      · have hkl : k < l.length := by rw [← HL.out]; omega
        obtain ⟨q1, q2⟩ := HC.out k hkl
        have hne : hb ≠ y.gl := (HD.out.tail i _ hb HV.out rfl).2.1
        have q1' : wr.cell? ⟨hb, off + k * 2, none⟩ = some (wv l[k].1) := hbut.cell q1 hne
        have q2' : wr.cell? ⟨hb, off + k * 2 + 1, none⟩ = some (wv l[k].2) := hbut.cell q2 hne
        obtain ⟨p8, p64, pw⟩ := HO.out.put i l HLL.out l[k] (List.getElem_mem hkl)
        have hsn : lastW s.lasted (l.take (k + 1)) = (lastW s.lasted (l.take k)).set (l[k].1 / 8) l[k].2 := by rw [List.take_succ_eq_append_getElem hkl, lastW_snoc]
        obtain ⟨a, ha⟩ : ∃ a, a = l[k].1 := ⟨_, rfl⟩
        obtain ⟨v, hv⟩ : ∃ v, v = l[k].2 := ⟨_, rfl⟩
        rw [← ha] at q1' p8 p64 hsn
        rw [← hv] at q2' pw hsn
        unfold wv at q1' q2'
        have HS := Lib.hid hsn
        clear q1 q2 ha hv hsn
        have haN : a / 8 < N := by have := HN.out; omega
        have c0 : wr.cell? ⟨y.g, 0, none⟩ = some (.slice (some ⟨y.gl, 0, none⟩) N y.cl) := hbut.cell HC0.out HD.out.g_gl
        have hgl := own_lt hown
        have hgg : y.g < wr.heap.size := block_lt_of_cell c0
        obtain ⟨u, hu⟩ : ∃ u, wr.cell? ⟨y.gl, a / 8, none⟩ = some u := by
          rw [hown.cellAt (a / 8) (by have := HN.out; omega)]
          have : a / 8 < ((lastW s.lasted (l.take k)).map wv).length := by have := hown.1; have := HN.out; omega
          exact ⟨_, List.getElem?_eq_getElem this⟩
        obtain ⟨ccl, hcl⟩ := own_at hown
        have hfl := hcl.free (a / 8)
        have x1 : (wr.alloc (.cells #[.int .u64 (a : Int), .int .u64 (v : Int)] 129)).cell? ⟨y.g, 0, none⟩ = some (.slice (some ⟨y.gl, 0, none⟩) N y.cl) := (World.cell?_alloc_lt _ _ _ hgg).trans c0
        have x2 : (wr.alloc (.cells #[.int .u64 (a : Int), .int .u64 (v : Int)] 129)).cell? ⟨wr.heap.size, 0, none⟩ = some (.int .u64 (a : Int)) := (Row.new wr 129 #[.int .u64 (a : Int), .int .u64 (v : Int)]).cell 0
        have x3 : (wr.alloc (.cells #[.int .u64 (a : Int), .int .u64 (v : Int)] 129)).cell? ⟨wr.heap.size, 1, none⟩ = some (.int .u64 (v : Int)) := (Row.new wr 129 #[.int .u64 (a : Int), .int .u64 (v : Int)]).cell 1
        have x4 : (wr.alloc (.cells #[.int .u64 (a : Int), .int .u64 (v : Int)] 129)).cell? ⟨y.gl, a / 8, none⟩ = some u := (World.cell?_alloc_lt _ _ _ hgl).trans hu
        have x5 : (wr.alloc (.cells #[.int .u64 (a : Int), .int .u64 (v : Int)] 129)).frozen? ⟨y.gl, a / 8, none⟩ = false := (frozen_alloc hgl _).trans hfl
        have hab : a < 1048576 := by omega
        have hx0 : (0 : Int) ≤ (a : Int) / 8 := by omega
        have hx1 : (a : Int) / 8 < (N : Int) := by omega
        have k0 : (0 : Int) ≤ (k : Int) := by omega
        have k1 : (k : Int) < (n : Int) := by omega
        have hx2 : ((a : Int) / 8).toNat = a / 8 := by omega
        have hx3 : IntKind.u64.wrap ((a : Int) / 8) = (a : Int) / 8 := by rw [IntKind.wrap_u64]; omega
        have HOWN := Lib.hid hown
        have HBUT := Lib.hid hbut
        clear hown hbut hcl hfl hu c0
        have z1 : ((wr.setCell ⟨y.gl, a / 8, none⟩ (.int .u64 (v : Int))).alloc (.cells #[.int .u64 (a : Int), .int .u64 (v : Int)] 129)).cell? ⟨y.g, 0, none⟩ = some (.slice (some ⟨y.gl, 0, none⟩) N y.cl) := by
          rw [World.cell?_alloc_lt _ _ _ (by rw [size_set]; exact hgg), cell_far (Ne.symm HD.out.g_gl)]
          exact (World.cell?_alloc_lt _ _ _ hgg).symm.trans x1
        have zr : Row ((wr.setCell ⟨y.gl, a / 8, none⟩ (.int .u64 (v : Int))).alloc (.cells #[.int .u64 (a : Int), .int .u64 (v : Int)] 129)) wr.heap.size 129 #[.int .u64 (a : Int), .int .u64 (v : Int)] := row_at (by rw [size_set])
        have z2 := zr.cell 0
        have z3 := zr.cell 1
        simp only [List.getElem?_toArray, List.getElem?_cons_succ, List.getElem?_cons_zero] at z2 z3
        clear zr
        go_wp2_with fail
        go_region_held3 (fun w' => w'.cell? ⟨y.g, 0, none⟩ = some (.slice (some ⟨y.gl, 0, none⟩) N y.cl) ∧ w'.cell? ⟨wr.heap.size, 0, none⟩ = some (.int .u64 (a : Int)) ∧ w'.cell? ⟨wr.heap.size, 1, none⟩ = some (.int .u64 (v : Int)))
          (first | exact ⟨x1, x2, x3⟩ | exact ⟨z1, z2, z3⟩) (fail)
        go_wp2
        go_roundw
        case rel =>
          refine ⟨k + 1, by omega, by go_num, ?_, ((HBUT.out.set (p := ⟨y.gl, a / 8, none⟩) rfl _).alloc _).drew⟩
          have h1 := own_stored HOWN.out (a / 8) (wv v)
          rw [set_map, ← HS.out] at h1
          exact h1.alloc _
        case measure => simp [intOf]; omega
      · have hkn : k = n := by omega
        rw [hkn] at hown ⊢
        clear hkn hk hlt
        have e2 : wr.cell? ⟨y.g, 2, none⟩ = some (.slice (some ⟨y.gp, 0, none⟩) s.nl y.cp) := hbut.cell c2 HD.out.g_gl
        have ep : wr.cell? ⟨y.gp, i, none⟩ = some (.slice (some ⟨hb, off, none⟩) L n) := hbut.cell cpp (Ne.symm HD.out.gl_gp)
        obtain ⟨m1, t1⟩ := mem_las HM.out hown hbut
        obtain ⟨cpr, hpr⟩ := own_at m1.pen
        have fp : wr.frozen? ⟨y.gp, i, none⟩ = false := hpr.free i
        have HX := Lib.hid fun (R : Value) (h1 : R.ownBlock = none ∨ R.ownBlock = some hb) (h2 : Tail wr R (l.drop n)) => mem_tail m1 hi HV.out h1 h2
        have HT1 := Lib.hid t1
        have HEM := Lib.hid fun R => (heap_setCell_other wr ⟨y.gp, i, none⟩ y.mb R (Ne.symm HD.out.gp_mb)).trans (hbut.block _ HM.out.marks.lt (Ne.symm HD.out.gl_mb))
        have HTl := Lib.hid (m1.tails i hi _ _ HV.out HLL.out)
        clear m1 t1 hpr hown hbut c2 cpp
        go_wp2_with fail
        refine (unmark_ok (HX.out _ (.inl rfl) (.inl ⟨rfl, HR.out.2⟩)).1 i n hi ?_ ?_).mono ?_
        · omega
        · intro j c
          exact HO.out.mk_le j c
        · rintro e w' ⟨rfl, hm', hb', hst'⟩
          have t2 := (HX.out _ (.inl rfl) (.inl ⟨rfl, HR.out.2⟩)).2
          clear e0
          go_wp2
          go_end0
          exact last_fin HLL.out HT1.out t2 hm' hb' (HEM.out _) hst'
  · have hrest : L - n = 0 ∧ l.drop n = [] := ⟨by omega, List.drop_of_length_le (by rw [← HL.out]; omega)⟩
    have HR := Lib.hid hrest
    have e0 : ((L : Int) - (n : Int) == 0) = true := by rw [beq_iff_eq]; omega
    have HLn := Lib.hid hLn
    clear hLn hrest
    go_enter Tryz.func65, Tryz.ntmps65
    go_wp2_with fail
    go_quiet (fail)
    go_wp2_with fail
    go_loopw [29] (fun v wr => ∃ k : Nat, k ≤ n ∧ v = .int .i64 k ∧ wr.ownsRow 0 23 1 (.slice (some ⟨y.gl, 0, none⟩) (8 * s.nl) y.cl) (8 * s.nl) ((lastW s.lasted (l.take k)).map wv) ∧ But w wr (fun k => k = y.gl)) (fun v _ => n - (intOf v).toNat)
    case atStart => exact ⟨0, by omega, rfl, by rw [List.take_zero]; exact own_keep HM.out.las (drewN_below _ _), But.of_below (drewN_below _ _) _⟩
    case round =>
      obtain ⟨k, hk, rfl, hown, hbut⟩ := hrel
      by_cases hlt : k < n
      · have hkl : k < l.length := by rw [← HL.out]; omega
        obtain ⟨q1, q2⟩ := HC.out k hkl
        have hne : hb ≠ y.gl := (HD.out.tail i _ hb HV.out rfl).2.1
        have q1' : wr.cell? ⟨hb, off + k * 2, none⟩ = some (wv l[k].1) := hbut.cell q1 hne
        have q2' : wr.cell? ⟨hb, off + k * 2 + 1, none⟩ = some (wv l[k].2) := hbut.cell q2 hne
        obtain ⟨p8, p64, pw⟩ := HO.out.put i l HLL.out l[k] (List.getElem_mem hkl)
        have hsn : lastW s.lasted (l.take (k + 1)) = (lastW s.lasted (l.take k)).set (l[k].1 / 8) l[k].2 := by rw [List.take_succ_eq_append_getElem hkl, lastW_snoc]
        obtain ⟨a, ha⟩ : ∃ a, a = l[k].1 := ⟨_, rfl⟩
        obtain ⟨v, hv⟩ : ∃ v, v = l[k].2 := ⟨_, rfl⟩
        rw [← ha] at q1' p8 p64 hsn
        rw [← hv] at q2' pw hsn
        unfold wv at q1' q2'
        have HS := Lib.hid hsn
        clear q1 q2 ha hv hsn
        have haN : a / 8 < N := by have := HN.out; omega
        have c0 : wr.cell? ⟨y.g, 0, none⟩ = some (.slice (some ⟨y.gl, 0, none⟩) N y.cl) := hbut.cell HC0.out HD.out.g_gl
        have hgl := own_lt hown
        have hgg : y.g < wr.heap.size := block_lt_of_cell c0
        obtain ⟨u, hu⟩ : ∃ u, wr.cell? ⟨y.gl, a / 8, none⟩ = some u := by
          rw [hown.cellAt (a / 8) (by have := HN.out; omega)]
          have : a / 8 < ((lastW s.lasted (l.take k)).map wv).length := by have := hown.1; have := HN.out; omega
          exact ⟨_, List.getElem?_eq_getElem this⟩
        obtain ⟨ccl, hcl⟩ := own_at hown
        have hfl := hcl.free (a / 8)
        have x1 : (wr.alloc (.cells #[.int .u64 (a : Int), .int .u64 (v : Int)] 129)).cell? ⟨y.g, 0, none⟩ = some (.slice (some ⟨y.gl, 0, none⟩) N y.cl) := (World.cell?_alloc_lt _ _ _ hgg).trans c0
        have x2 : (wr.alloc (.cells #[.int .u64 (a : Int), .int .u64 (v : Int)] 129)).cell? ⟨wr.heap.size, 0, none⟩ = some (.int .u64 (a : Int)) := (Row.new wr 129 #[.int .u64 (a : Int), .int .u64 (v : Int)]).cell 0
        have x3 : (wr.alloc (.cells #[.int .u64 (a : Int), .int .u64 (v : Int)] 129)).cell? ⟨wr.heap.size, 1, none⟩ = some (.int .u64 (v : Int)) := (Row.new wr 129 #[.int .u64 (a : Int), .int .u64 (v : Int)]).cell 1
        have x4 : (wr.alloc (.cells #[.int .u64 (a : Int), .int .u64 (v : Int)] 129)).cell? ⟨y.gl, a / 8, none⟩ = some u := (World.cell?_alloc_lt _ _ _ hgl).trans hu
        have x5 : (wr.alloc (.cells #[.int .u64 (a : Int), .int .u64 (v : Int)] 129)).frozen? ⟨y.gl, a / 8, none⟩ = false := (frozen_alloc hgl _).trans hfl
        have hab : a < 1048576 := by omega
        have hx0 : (0 : Int) ≤ (a : Int) / 8 := by omega
        have hx1 : (a : Int) / 8 < (N : Int) := by omega
        have k0 : (0 : Int) ≤ (k : Int) := by omega
        have k1 : (k : Int) < (n : Int) := by omega
        have hx2 : ((a : Int) / 8).toNat = a / 8 := by omega
        have hx3 : IntKind.u64.wrap ((a : Int) / 8) = (a : Int) / 8 := by rw [IntKind.wrap_u64]; omega
        have HOWN := Lib.hid hown
        have HBUT := Lib.hid hbut
        clear hown hbut hcl hfl hu c0
        have z1 : ((wr.setCell ⟨y.gl, a / 8, none⟩ (.int .u64 (v : Int))).alloc (.cells #[.int .u64 (a : Int), .int .u64 (v : Int)] 129)).cell? ⟨y.g, 0, none⟩ = some (.slice (some ⟨y.gl, 0, none⟩) N y.cl) := by
          rw [World.cell?_alloc_lt _ _ _ (by rw [size_set]; exact hgg), cell_far (Ne.symm HD.out.g_gl)]
          exact (World.cell?_alloc_lt _ _ _ hgg).symm.trans x1
        have zr : Row ((wr.setCell ⟨y.gl, a / 8, none⟩ (.int .u64 (v : Int))).alloc (.cells #[.int .u64 (a : Int), .int .u64 (v : Int)] 129)) wr.heap.size 129 #[.int .u64 (a : Int), .int .u64 (v : Int)] := row_at (by rw [size_set])
        have z2 := zr.cell 0
        have z3 := zr.cell 1
        simp only [List.getElem?_toArray, List.getElem?_cons_succ, List.getElem?_cons_zero] at z2 z3
        clear zr
        go_wp2_with fail
        go_region_held3 (fun w' => w'.cell? ⟨y.g, 0, none⟩ = some (.slice (some ⟨y.gl, 0, none⟩) N y.cl) ∧ w'.cell? ⟨wr.heap.size, 0, none⟩ = some (.int .u64 (a : Int)) ∧ w'.cell? ⟨wr.heap.size, 1, none⟩ = some (.int .u64 (v : Int)))
          (first | exact ⟨x1, x2, x3⟩ | exact ⟨z1, z2, z3⟩) (fail)
        go_wp2
        go_roundw
        case rel =>
          refine ⟨k + 1, by omega, by go_num, ?_, ((HBUT.out.set (p := ⟨y.gl, a / 8, none⟩) rfl _).alloc _).drew⟩
          have h1 := own_stored HOWN.out (a / 8) (wv v)
          rw [set_map, ← HS.out] at h1
          exact h1.alloc _
        case measure => simp [intOf]; omega
      · have hkn : k = n := by omega
        rw [hkn] at hown ⊢
        clear hkn hk hlt
        have e2 : wr.cell? ⟨y.g, 2, none⟩ = some (.slice (some ⟨y.gp, 0, none⟩) s.nl y.cp) := hbut.cell c2 HD.out.g_gl
        have ep : wr.cell? ⟨y.gp, i, none⟩ = some (.slice (some ⟨hb, off, none⟩) L cap) := hbut.cell cpp (Ne.symm HD.out.gl_gp)
        obtain ⟨m1, t1⟩ := mem_las HM.out hown hbut
        obtain ⟨cpr, hpr⟩ := own_at m1.pen
        have fp : wr.frozen? ⟨y.gp, i, none⟩ = false := hpr.free i
        have HX := Lib.hid fun (R : Value) (h1 : R.ownBlock = none ∨ R.ownBlock = some hb) (h2 : Tail wr R (l.drop n)) => mem_tail m1 hi HV.out h1 h2
        have HT1 := Lib.hid t1
        have HEM := Lib.hid fun R => (heap_setCell_other wr ⟨y.gp, i, none⟩ y.mb R (Ne.symm HD.out.gp_mb)).trans (hbut.block _ HM.out.marks.lt (Ne.symm HD.out.gl_mb))
        have HTl := Lib.hid (m1.tails i hi _ _ HV.out HLL.out)
        clear m1 t1 hpr hown hbut c2 cpp
        go_wp2_with fail
        refine (unmark_ok (HX.out _ (.inl rfl) (.inl ⟨rfl, HR.out.2⟩)).1 i n hi ?_ ?_).mono ?_
        · omega
        · intro j c
          exact HO.out.mk_le j c
        · rintro e w' ⟨rfl, hm', hb', hst'⟩
          have t2 := (HX.out _ (.inl rfl) (.inl ⟨rfl, HR.out.2⟩)).2
          clear e0
          go_wp2
          go_end0
          exact last_fin HLL.out HT1.out t2 hm' hb' (HEM.out _) hst'
  · have hcap : n < cap := by omega
    go_enter Tryz.func65, Tryz.ntmps65
    go_wp2_with fail
    go_quiet (fail)
    go_wp2_with fail
    go_loopw [29] (fun v wr => ∃ k : Nat, k ≤ n ∧ v = .int .i64 k ∧ wr.ownsRow 0 23 1 (.slice (some ⟨y.gl, 0, none⟩) (8 * s.nl) y.cl) (8 * s.nl) ((lastW s.lasted (l.take k)).map wv) ∧ But w wr (fun k => k = y.gl)) (fun v _ => n - (intOf v).toNat)
    case atStart => exact ⟨0, by omega, rfl, by rw [List.take_zero]; exact own_keep HM.out.las (drewN_below _ _), But.of_below (drewN_below _ _) _⟩
    case round =>
      obtain ⟨k, hk, rfl, hown, hbut⟩ := hrel
      by_cases hlt : k < n
      · have hkl : k < l.length := by rw [← HL.out]; omega
        obtain ⟨q1, q2⟩ := HC.out k hkl
        have hne : hb ≠ y.gl := (HD.out.tail i _ hb HV.out rfl).2.1
        have q1' : wr.cell? ⟨hb, off + k * 2, none⟩ = some (wv l[k].1) := hbut.cell q1 hne
        have q2' : wr.cell? ⟨hb, off + k * 2 + 1, none⟩ = some (wv l[k].2) := hbut.cell q2 hne
        obtain ⟨p8, p64, pw⟩ := HO.out.put i l HLL.out l[k] (List.getElem_mem hkl)
        have hsn : lastW s.lasted (l.take (k + 1)) = (lastW s.lasted (l.take k)).set (l[k].1 / 8) l[k].2 := by rw [List.take_succ_eq_append_getElem hkl, lastW_snoc]
        obtain ⟨a, ha⟩ : ∃ a, a = l[k].1 := ⟨_, rfl⟩
        obtain ⟨v, hv⟩ : ∃ v, v = l[k].2 := ⟨_, rfl⟩
        rw [← ha] at q1' p8 p64 hsn
        rw [← hv] at q2' pw hsn
        unfold wv at q1' q2'
        have HS := Lib.hid hsn
        clear q1 q2 ha hv hsn
        have haN : a / 8 < N := by have := HN.out; omega
        have c0 : wr.cell? ⟨y.g, 0, none⟩ = some (.slice (some ⟨y.gl, 0, none⟩) N y.cl) := hbut.cell HC0.out HD.out.g_gl
        have hgl := own_lt hown
        have hgg : y.g < wr.heap.size := block_lt_of_cell c0
        obtain ⟨u, hu⟩ : ∃ u, wr.cell? ⟨y.gl, a / 8, none⟩ = some u := by
          rw [hown.cellAt (a / 8) (by have := HN.out; omega)]
          have : a / 8 < ((lastW s.lasted (l.take k)).map wv).length := by have := hown.1; have := HN.out; omega
          exact ⟨_, List.getElem?_eq_getElem this⟩
        obtain ⟨ccl, hcl⟩ := own_at hown
        have hfl := hcl.free (a / 8)
        have x1 : (wr.alloc (.cells #[.int .u64 (a : Int), .int .u64 (v : Int)] 129)).cell? ⟨y.g, 0, none⟩ = some (.slice (some ⟨y.gl, 0, none⟩) N y.cl) := (World.cell?_alloc_lt _ _ _ hgg).trans c0
        have x2 : (wr.alloc (.cells #[.int .u64 (a : Int), .int .u64 (v : Int)] 129)).cell? ⟨wr.heap.size, 0, none⟩ = some (.int .u64 (a : Int)) := (Row.new wr 129 #[.int .u64 (a : Int), .int .u64 (v : Int)]).cell 0
        have x3 : (wr.alloc (.cells #[.int .u64 (a : Int), .int .u64 (v : Int)] 129)).cell? ⟨wr.heap.size, 1, none⟩ = some (.int .u64 (v : Int)) := (Row.new wr 129 #[.int .u64 (a : Int), .int .u64 (v : Int)]).cell 1
        have x4 : (wr.alloc (.cells #[.int .u64 (a : Int), .int .u64 (v : Int)] 129)).cell? ⟨y.gl, a / 8, none⟩ = some u := (World.cell?_alloc_lt _ _ _ hgl).trans hu
        have x5 : (wr.alloc (.cells #[.int .u64 (a : Int), .int .u64 (v : Int)] 129)).frozen? ⟨y.gl, a / 8, none⟩ = false := (frozen_alloc hgl _).trans hfl
        have hab : a < 1048576 := by omega
        have hx0 : (0 : Int) ≤ (a : Int) / 8 := by omega
        have hx1 : (a : Int) / 8 < (N : Int) := by omega
        have k0 : (0 : Int) ≤ (k : Int) := by omega
        have k1 : (k : Int) < (n : Int) := by omega
        have hx2 : ((a : Int) / 8).toNat = a / 8 := by omega
        have hx3 : IntKind.u64.wrap ((a : Int) / 8) = (a : Int) / 8 := by rw [IntKind.wrap_u64]; omega
        have HOWN := Lib.hid hown
        have HBUT := Lib.hid hbut
        clear hown hbut hcl hfl hu c0
        have z1 : ((wr.setCell ⟨y.gl, a / 8, none⟩ (.int .u64 (v : Int))).alloc (.cells #[.int .u64 (a : Int), .int .u64 (v : Int)] 129)).cell? ⟨y.g, 0, none⟩ = some (.slice (some ⟨y.gl, 0, none⟩) N y.cl) := by
          rw [World.cell?_alloc_lt _ _ _ (by rw [size_set]; exact hgg), cell_far (Ne.symm HD.out.g_gl)]
          exact (World.cell?_alloc_lt _ _ _ hgg).symm.trans x1
        have zr : Row ((wr.setCell ⟨y.gl, a / 8, none⟩ (.int .u64 (v : Int))).alloc (.cells #[.int .u64 (a : Int), .int .u64 (v : Int)] 129)) wr.heap.size 129 #[.int .u64 (a : Int), .int .u64 (v : Int)] := row_at (by rw [size_set])
        have z2 := zr.cell 0
        have z3 := zr.cell 1
        simp only [List.getElem?_toArray, List.getElem?_cons_succ, List.getElem?_cons_zero] at z2 z3
        clear zr
        go_wp2_with fail
        go_region_held3 (fun w' => w'.cell? ⟨y.g, 0, none⟩ = some (.slice (some ⟨y.gl, 0, none⟩) N y.cl) ∧ w'.cell? ⟨wr.heap.size, 0, none⟩ = some (.int .u64 (a : Int)) ∧ w'.cell? ⟨wr.heap.size, 1, none⟩ = some (.int .u64 (v : Int)))
          (first | exact ⟨x1, x2, x3⟩ | exact ⟨z1, z2, z3⟩) (fail)
        go_wp2
        go_roundw
        case rel =>
          refine ⟨k + 1, by omega, by go_num, ?_, ((HBUT.out.set (p := ⟨y.gl, a / 8, none⟩) rfl _).alloc _).drew⟩
          have h1 := own_stored HOWN.out (a / 8) (wv v)
          rw [set_map, ← HS.out] at h1
          exact h1.alloc _
        case measure => simp [intOf]; omega
      · have hkn : k = n := by omega
        rw [hkn] at hown ⊢
        clear hkn hk hlt
        have e2 : wr.cell? ⟨y.g, 2, none⟩ = some (.slice (some ⟨y.gp, 0, none⟩) s.nl y.cp) := hbut.cell c2 HD.out.g_gl
        have ep : wr.cell? ⟨y.gp, i, none⟩ = some (.slice (some ⟨hb, off, none⟩) L cap) := hbut.cell cpp (Ne.symm HD.out.gl_gp)
        obtain ⟨m1, t1⟩ := mem_las HM.out hown hbut
        obtain ⟨cpr, hpr⟩ := own_at m1.pen
        have fp : wr.frozen? ⟨y.gp, i, none⟩ = false := hpr.free i
        have HX := Lib.hid fun (R : Value) (h1 : R.ownBlock = none ∨ R.ownBlock = some hb) (h2 : Tail wr R (l.drop n)) => mem_tail m1 hi HV.out h1 h2
        have HT1 := Lib.hid t1
        have HEM := Lib.hid fun R => (heap_setCell_other wr ⟨y.gp, i, none⟩ y.mb R (Ne.symm HD.out.gp_mb)).trans (hbut.block _ HM.out.marks.lt (Ne.symm HD.out.gl_mb))
        have HTl := Lib.hid (m1.tails i hi _ _ HV.out HLL.out)
        have htl : Tail wr (.slice (some ⟨hb, off + n * 2, none⟩) (L - n) (cap - n)) (l.drop n) := by
          have := HTl.out
          rw [← HL.out] at this
          rw [HL.out]
          exact this.drop (by rw [← HL.out]; exact hLn)
        have HTT := Lib.hid htl
        clear m1 t1 hpr hown hbut c2 cpp htl
        go_wp2_with fail
        refine (unmark_ok (HX.out _ (.inr rfl) HTT.out).1 i n hi ?_ ?_).mono ?_
        · omega
        · intro j c
          exact HO.out.mk_le j c
        · rintro e w' ⟨rfl, hm', hb', hst'⟩
          have t2 := (HX.out _ (.inr rfl) HTT.out).2
          go_wp2
          go_end0
          exact last_fin HLL.out HT1.out t2 hm' hb' (HEM.out _) hst'
theorem last_ok {w : World} {y : Lay} {s : St} (h : MemAt w y s) (ok : s.Ok) (i n : Nat) (hi : i < s.nl) (hn : n ≤ (s.pend.getD i []).length) :
    Calls Tryz.prog 65 #[.pointer (some ⟨y.g, 0, none⟩), .int .i64 (i : Int), .int .i64 (n : Int)] w (LastPost w y (s.last i n) i) := by
  by_cases h0 : n = 0
  · subst h0
    exact last_none h i hi
  · have hl := List.getElem?_eq_getElem (show i < s.pend.length by have := h.plen; omega)
    rw [List.getD_eq_getElem?_getD, hl] at hn
    exact last_some h ok i n _ hi hl (by omega) hn
end Go.Proofs.YthibbcokpmckfaaGreatDoor
