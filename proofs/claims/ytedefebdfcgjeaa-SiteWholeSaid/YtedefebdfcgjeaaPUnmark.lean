/- unmark: the elder stores that have lasted are taken out of all clients' marks of a line; for lines that there are, and marks that fit. -/
import Derived.Test.YtedefebdfcgjeaaPFlush
import Derived.Test.YtedefebdfcgjeaaPRange
namespace Go.Proofs.Ytedefebdfcgjeaa
open Go.RowKit
set_option linter.unusedVariables false
attribute [local go_sem ↓] Go.wp_at_zero Go.wp_at_succ

theorem infoInt : (Try.prog.info? 3).map (fun i => (i.zero, i.size, i.bytes)) = some (some (.int .i64 0), 1, 8) := by kernel_rfl
theorem cellsInt : Try.prog.cellsOf 3 = 1 := by kernel_rfl
theorem plainInt : Try.prog.plainKey 3 = true := by kernel_rfl
theorem items65 (f : Nat → Nat) (w : World) : ∀ is : List Nat, (∀ i ∈ is, i < 65) → (Op.eqItems 9999 3 1 (marr f) (marr fun _ => 0) is).run Try.prog w = .ok (is.all fun i => f i == 0) w
  | [], _ => by simp [Op.eqItems]
  | i :: is, h => by
    have hp := run_part_plain (P := Try.prog) w plainInt (xs := marr f) (off := i) (marr_get f i (h i (by simp)))
    have hq := run_part_plain (P := Try.prog) w plainInt (xs := marr fun _ => 0) (off := i) (marr_get _ i (h i (by simp)))
    have he := run_equalIn_int (P := Try.prog) w 9998 3 .i64 .i64 (f i : Int) ((0 : Nat) : Int) Try.underlying3
    have hi := items65 f w is (fun j hj => h j (by simp [hj]))
    have hb : (((f i : Int)) == ((0 : Nat) : Int)) = (f i == 0) := by
      rw [Bool.eq_iff_iff, beq_iff_eq, beq_iff_eq]
      omega
    simp only [Op.eqItems, Sem.run_bind, Nat.mul_one, hp, hq, Result.andThen_ok, he, hb, hi, List.all_cons]
    cases hz : (f i == 0) <;> simp [hi]
def allZero (f : Nat → Nat) : Bool := (List.range 65).all fun i => f i == 0
theorem allZero_iff (f : Nat → Nat) : allZero f = true ↔ ¬ someMk f := by
  unfold allZero someMk
  rw [List.all_eq_true]
  constructor
  · rintro h ⟨c, hc, hn⟩
    exact hn (beq_iff_eq.1 (h c (List.mem_range.2 hc)))
  · intro h c hc
    have hc' := List.mem_range.1 hc
    by_cases e : f c = 0
    · simp [e]
    · exact absurd ⟨c, hc', e⟩ h
theorem eql65 (f : Nat → Nat) (w : World) : (binOp .eql 77 (.agg (marr f)) (.agg (marr fun _ => 0))).run Try.prog w = .ok (.bool (allZero f)) w := by
  obtain ⟨i0, hi, hz0, hz1, hz2⟩ := info_parts infoInt
  have h := run_equalIn_array (P := Try.prog) w 9999 (marr f) (marr fun _ => 0) Try.underlying77 hi
  rw [cellsInt, items65 f w _ (by intro i hi; exact List.mem_range.1 hi)] at h
  rw [run_eql_struct, h]
  rfl
theorem marks_of {w : World} {mb nl : Nat} {m m' : Nat → Nat → Nat} (h : MarksAt w mb nl m) (he : ∀ j, j < nl → ∀ c, c < 65 → m j c = m' j c) : MarksAt w mb nl m' := by
  obtain ⟨D, h1, h2, h3, h4⟩ := h
  refine ⟨D, h1, h2, fun j hj => (h3 j hj).trans ?_, fun j hj z hz => (h4 j hj z hz).trans (mkD_of (he j hj))⟩
  constructor
  · rintro ⟨c, hc, hn⟩
    exact ⟨c, hc, by rw [← he j hj c hc]; exact hn⟩
  · rintro ⟨c, hc, hn⟩
    exact ⟨c, hc, by rw [he j hj c hc]; exact hn⟩

theorem marr_of {f g : Nat → Nat} (h : ∀ c, c < 65 → f c = g c) : marr f = marr g := by
  have := mkV_of h
  rw [mkV_marr, mkV_marr] at this
  exact Value.agg.inj this
theorem zero65 : Try.zeroCells77 = marr fun _ => 0 := by kernel_rfl
/-- What unmark makes of the marks. -/
def umk (m : Nat → Nat → Nat) (i n : Nat) : Nat → Nat → Nat := upd m i fun c => m i c - n
theorem umk_at (m : Nat → Nat → Nat) (i n c : Nat) : umk m i n i c = m i c - n := by simp [umk, upd]
theorem umk_far {m : Nat → Nat → Nat} {i n j c : Nat} (h : ¬ j = i) : umk m i n j c = m j c := by simp [umk, upd, h]
def UnPost (w : World) (y : Lay) (s : St) (i n : Nat) (e : Ending) (w' : World) : Prop :=
  e = .returned (.tuple #[]) ∧ MemAt w' y { s with mm := umk s.mm i n } ∧ But w w' (fun k => k = y.mb) ∧ MapStep w w' y.mb
theorem un_mem {w W0 W3 : World} {y : Lay} {s : St} {m' : Nat → Nat → Nat} (hm : MemAt w y s) (hb : Below w.heap.size w W0) (hg : W0.grownBy W3 (some y.mb)) (hmk : MarksAt W3 y.mb s.nl m') :
    MemAt W3 y { s with mm := m' } ∧ But w W3 (fun k => k = y.mb) := by
  have hk : ∀ k, k < w.heap.size → k ≠ y.mb → W3.heap[k]? = w.heap[k]? := fun k h1 h2 =>
    (hg.block k (Nat.lt_of_lt_of_le h1 hb.size) (fun e => h2 (Option.some.inj e))).trans (hb.block k h1)
  refine ⟨mem_marks hm rfl rfl rfl rfl ?_ ?_ hmk, ⟨hg.os.trans hb.os, hg.tape.trans hb.tape, hg.output.trans hb.output, Nat.le_trans hb.size hg.size, fun k h1 h2 => hk k h1 h2⟩⟩
  · exact (hk y.g hm.row.lt hm.differ.g_mb).trans hm.row
  · exact fun k h1 h2 h3 => hk k (hm.lt k h1) h3
set_option maxRecDepth 100000 in
set_option maxHeartbeats 3200000 in
theorem unmark_ok {w : World} {y : Lay} {s : St} (h : MemAt w y s) (i n : Nat) (hi : i < s.nl) (hn : n ≤ 1000000000) (hmk : ∀ j c, s.mm j c ≤ 1000000000) :
    Calls Try.prog 37 #[.pointer (some ⟨y.g, 0, none⟩), .int .i64 (i : Int), .int .i64 (n : Int)] w (UnPost w y s i n) := by
  have hmost := h.most
  have c3 := h.row.cell 3
  simp only [List.getElem?_toArray, List.getElem?_cons_succ, List.getElem?_cons_zero] at c3
  obtain ⟨b, hbs, hlk⟩ := marks_look_ok (i := i) h.marks hi hmost
  rw [mkV_marr] at hlk
  obtain ⟨B, hB⟩ : ∃ B, B = marr (s.mm i) := ⟨_, rfl⟩
  rw [← hB] at hlk
  have hfit : (Try.prog.info? 77).map (·.size) = some B.size := by rw [hB]; exact marr_fit _
  have hold : (Array.replicate 65 (Value.int .i64 0)).size = B.size := by rw [hB, marr_size]; rfl
  have hone : B.all (·.oneCell') = true := by rw [hB]; exact marr_one _
  have hr3 := Row.new w 77 (Array.replicate 65 (Value.int .i64 0))
  have hrr : Row ((w.alloc (.cells Try.zeroCells77 77)).setRow w.heap.size B) w.heap.size 77 B := (Row.new w 77 Try.zeroCells77).setRow B
  have hb0 : Below w.heap.size w ((w.alloc (.cells Try.zeroCells77 77)).setRow w.heap.size B) := below_setRow (alloc_below _ _) (Nat.le_refl _) _
  have HM := Lib.hid h
  have HB := Lib.hid hB
  have HBS := Lib.hid hbs
  have HMK := Lib.hid hmk
  have HRR := Lib.hid hrr
  clear h hB hbs hmk hrr
  cases b
  · go_enter Try.func37, Try.ntmps37
    go_wp2_with (refine wpList_store_row rfl 77 (.tmp 6) (.tmp 16) rfl w.heap.size B rfl rfl 77 _ hr3 hfit hold hone ?_)
    refine bodyPost_ret (results_none rfl _ _ _) rfl ?_
    have hns : ¬ someMk (s.mm i) := fun hx => by have := HBS.out.2 hx; cases this
    obtain ⟨h1, h2⟩ := un_mem (m' := umk s.mm i n) HM.out hb0 (World.grownBy.refl _ _) (marks_of (HM.out.marks.same (hb0.block _ HM.out.marks.lt)) (by
      intro j hj c hc
      by_cases e : j = i
      · rw [e, umk_at, not_some hns c hc]
        omega
      · rw [umk_far e]))
    exact ⟨rfl, h1, h2, MapStep.same (hb0.block _ HM.out.marks.lt)⟩
  · go_enter Try.func37, Try.ntmps37
    go_wp2_with (refine wpList_store_row rfl 77 (.tmp 6) (.tmp 16) rfl w.heap.size B rfl rfl 77 _ hr3 hfit hold hone ?_)
    clear hfit hold hone hr3 hlk
    go_loopw [20] (fun v wr => ∃ k : Nat, k ≤ 65 ∧ v = .int .i64 k ∧ Row wr w.heap.size 77 (marr fun c => if c < k then s.mm i c - n else s.mm i c) ∧ Below w.heap.size w wr) (fun v _ => 65 - (intOf v).toNat)
    case atStart => exact ⟨0, by omega, rfl, by simpa [HB.out] using HRR.out, hb0⟩
    case round =>
      obtain ⟨k, hk, rfl, hr, hb⟩ := hrel
      clear hb0
      by_cases hlt : k < 65
      · have hc := hr.cell k
        rw [marr_get _ _ hlt, if_neg (by omega)] at hc
        have hf := hr.free k
        have hm1 := HMK.out i k
        obtain ⟨q, hq⟩ : ∃ q, q = s.mm i k := ⟨_, rfl⟩
        rw [← hq] at hc hm1
        have HQ := Lib.hid hq
        have HR := Lib.hid hr
        clear hq hr
        go_wp2
        all_goals
          go_roundw
          case rel =>
            have e1 : Value.int .i64 (if n < q then (q : Int) - (n : Int) else 0) = .int .i64 (((q - n : Nat)) : Int) := by
              congr 1
              split <;> omega
            rw [e1]
            refine ⟨k + 1, by omega, by go_num, ?_, hb.setCell (Nat.le_refl _) _⟩
            have h2 := HR.out.set k (.int .i64 ((q - n : Nat) : Int))
            rw [marr_set _ _ _ hlt] at h2
            rw [marr_of (g := fun c => if c = k then q - n else if c < k then s.mm i c - n else s.mm i c)]
            · exact h2
            · intro c hc
              by_cases e : c = k
              · rw [if_pos e, if_pos (by omega), e, HQ.out]
              · rw [if_neg e]
                by_cases e2 : c < k
                · rw [if_pos e2, if_pos (by omega)]
                · rw [if_neg e2, if_neg (by omega)]
          case measure => simp [intOf]; omega
      · have hk2 : k = 65 := by omega
        subst hk2
        rw [marr_of (g := fun c => s.mm i c - n) (fun c hc => if_pos hc)] at hr
        obtain ⟨f, hf⟩ : ∃ f, f = fun c => s.mm i c - n := ⟨_, rfl⟩
        rw [← hf] at hr
        have he := eql65 f
        have hu := Try.underlying77
        have hi2 := marr_fit f
        obtain ⟨Bf, hBf⟩ : ∃ Bf, Bf = marr f := ⟨_, rfl⟩
        rw [← hBf] at hr he hi2
        have hr' := hr
        have HF := Lib.hid hf
        have HBF := Lib.hid hBf
        clear hf hBf
        rw [← zero65] at he
        have hlt : y.g < w.heap.size := block_lt_of_cell c3
        have e3 : wr.cell? ⟨y.g, 3, none⟩ = some (.map (some y.mb)) := (hb.cell (p := ⟨y.g, 3, none⟩) hlt).trans c3
        have hmb : y.mb < w.heap.size := HM.out.marks.lt
        have hm1 : MarksAt wr y.mb s.nl s.mm := HM.out.marks.same (hb.block _ hmb)
        cases hz : allZero f
        · rw [hz] at he
          have hsome : someMk f := by
            by_cases hx : someMk f
            · exact hx
            · have := (allZero_iff f).2 hx
              rw [hz] at this
              cases this
          have hm2 : MarksAt wr.drew y.mb s.nl s.mm := hm1
          obtain ⟨W3, hup, hm3, hg3⟩ := marks_put (f := f) hm2 hi hmost hsome (by
            intro k
            have := HMK.out i k
            rw [HF.out]
            dsimp only
            omega)
          rw [mkV_marr, ← HBF.out] at hup
          obtain ⟨Bl, hBl⟩ : ∃ Bl : List Value, Bl.toArray = Bf := ⟨_, Array.toArray_toList⟩
          have hra : wr.rangeAt w.heap.size 0 Bl := by
            intro j v hv
            rw [Nat.zero_add, hr.cell, ← hBl]
            simpa using hv
          have hg3' : wr.grownBy W3 (some y.mb) := ⟨hg3.os, hg3.tape, hg3.output, hg3.size, hg3.block⟩
          have hra3 : W3.rangeAt w.heap.size 0 Bl := by
            intro j v hv
            rw [World.cell?_of_block (hg3'.block w.heap.size hr.lt (by intro e; have e := Option.some.inj e; omega))]
            exact hra j v hv
          have e33 : W3.cell? ⟨y.g, 3, none⟩ = some (.map (some y.mb)) := by
            rw [World.cell?_of_block (hg3'.block y.g (by have := hb.size; omega) (by intro e; exact HM.out.differ.g_mb (Option.some.inj e)))]
            exact e3
          subst hBl
          have hiB : (Try.prog.info? 77).map (·.size) = some Bl.length := by simpa using hi2
          have HM3 := Lib.hid hm3
          have HG3 := Lib.hid hg3'
          have HST := Lib.hid ((MapStep.same (hb.block _ hmb)).trans (put_step (w := wr.drew) hm2 hi hmost (HBS.out.1 trivial) (by rw [mkV_marr, ← HBF.out]; exact hup)))
          clear hm1 hm2 hm3 hg3 hg3' hz hr
          go_wp2_with (refine wpList_load_row rfl 77 (.tmp 6) rfl w.heap.size rfl 77 Bl.toArray (0, 0) _ hr' hu rfl hi2 ?_)
          clear hr' he hi2
          go_region_held3 (fun w' => w'.cell? ⟨y.g, 3, none⟩ = some (.map (some y.mb)) ∧ w'.rangeAt w.heap.size 0 Bl) (first | exact ⟨e3, hra⟩ | exact ⟨e33, hra3⟩) (fail)
          go_wp2
          go_end0
          obtain ⟨h1, h2⟩ := un_mem (m' := umk s.mm i n) HM.out hb HG3.out (by
            have := HM3.out
            rw [HF.out] at this
            exact this)
          exact ⟨rfl, h1, h2, HST.out⟩
        · rw [hz] at he
          have hnot : ¬ someMk f := (allZero_iff f).1 hz
          obtain ⟨W3, hdel, hm3, hg3⟩ := marks_del (f := f) (ty := 0) hm1 hi hmost hnot
          have HM3 := Lib.hid hm3
          have HG3 := Lib.hid hg3
          have HST := Lib.hid ((MapStep.same (hb.block _ hmb)).trans (del_step hm1 hi hmost hdel))
          clear hm1 hm3 hg3 hz hr
          go_wp2_with (refine wpList_load_row rfl 77 (.tmp 6) rfl w.heap.size rfl 77 Bf (0, 0) _ hr' hu rfl hi2 ?_)
          refine bodyPost_ret (results_none rfl _ _ _) rfl ?_
          obtain ⟨h1, h2⟩ := un_mem (m' := umk s.mm i n) HM.out hb HG3.out (by
            have := HM3.out
            rw [HF.out] at this
            exact this)
          exact ⟨rfl, h1, h2, HST.out⟩
end Go.Proofs.Ytedefebdfcgjeaa
