/- Texts of this claim, packed: PLast, PFenSt, PFence, PLose. -/
import Derived.Test.YteojhhfcfdkmdaaPm17
import Derived.Test.YteojhhfcfdkmdaaPm15
import Derived.Deep.QuietTactic
import Derived.BigQuiet
import Derived.Maps.RangeWalk
import Derived.Deep.RegionHeld3
set_option linter.unusedSimpArgs false
set_option linter.unusedVariables false
/- last: the elder pending stores of a line last; for lines that there are, and at most as many as are pending. -/
namespace Go.Proofs.Yteojhhfcfdkmdaa
open Go.RowKit
set_option linter.unusedVariables false
attribute [local go_sem ↓] Go.wp_at_zero Go.wp_at_succ

/-- Stores that have lasted, one behind the other; the state behind that. -/
def lastW (las : List Nat) (ps : List (Nat × Nat)) : List Nat := ps.foldl (fun l p => l.set (p.1 / 8) p.2) las
theorem lastW_length (las : List Nat) (ps : List (Nat × Nat)) : (lastW las ps).length = las.length := by
  unfold lastW
  induction ps generalizing las with
  | nil => rfl
  | cons p t ih => rw [List.foldl_cons, ih, List.length_set]
theorem lastW_snoc (las : List Nat) (ps : List (Nat × Nat)) (p : Nat × Nat) : lastW las (ps ++ [p]) = (lastW las ps).set (p.1 / 8) p.2 := by simp [lastW]
def St.last (s : St) (i n : Nat) : St := { s with lasted := lastW s.lasted ((s.pend.getD i []).take n), pend := s.pend.set i ((s.pend.getD i []).drop n), mm := umk s.mm i n }
def LastPost (w : World) (y : Lay) (s' : St) (i : Nat) (e : Ending) (w' : World) : Prop := e = .returned (.tuple #[]) ∧ ∃ y', MemAt w' y' s' ∧ Turn w w' y y' ∧ y.Near y' i ∧ MapStep w w' y.mb

theorem last_zero {w : World} {y : Lay} {s : St} (h : MemAt w y s) (i : Nat) (hi : i < s.nl) : MemAt w y (s.last i 0) := by
  have e1 : (s.last i 0).pend = s.pend := by
    show s.pend.set i _ = _
    rw [List.drop_zero, List.getD_eq_getElem?_getD, List.getElem?_eq_getElem (by have := h.plen; omega), Option.getD_some]
    exact List.set_getElem_self _
  refine mem_marks h rfl (by show lastW s.lasted (List.take 0 (s.pend.getD i [])) = _; rw [List.take_zero]; rfl) rfl e1 h.row (fun _ _ _ _ => rfl) (marks_of h.marks ?_)
  intro j hj c hc
  show _ = umk s.mm i 0 j c
  by_cases e : j = i
  · rw [e, umk_at]; omega
  · rw [umk_far e]
theorem last_none {w : World} {y : Lay} {s : St} (h : MemAt w y s) (i : Nat) (hi : i < s.nl) :
    Calls Try.prog 41 #[.pointer (some ⟨y.g, 0, none⟩), .int .i64 (i : Int), .int .i64 0] w (LastPost w y (s.last i 0) i) := by
  have H := Lib.hid (last_zero h i hi)
  obtain ⟨g, hg⟩ : ∃ g, g = y.g := ⟨_, rfl⟩
  rw [← hg]
  clear h hg
  go_enter Try.func41, Try.ntmps41
  go_wp2_with fail
  refine bodyPost_ret (results_none rfl _ _ _) rfl ?_
  exact ⟨rfl, y, H.out, Turn.refl _ _, near_refl _ _, MapStep.same rfl⟩
theorem Tail.drop {w : World} {h off cap L n : Nat} {l : List (Nat × Nat)} (ht : Tail w (.slice (some ⟨h, off, none⟩) L cap) l) (hn : n < l.length) : Tail w (.slice (some ⟨h, off + n * 2, none⟩) (l.length - n) (cap - n)) (l.drop n) := by
  rcases ht with ⟨h0, _⟩ | ⟨h', off', cap', cur, h0, hr, hp, hlc, hcm, hfit, htk⟩
  · cases h0
  · simp only [Value.slice.injEq, Option.some.injEq, Addr.mk.injEq, and_true] at h0
    obtain ⟨⟨rfl, rfl⟩, rfl, rfl⟩ := h0
    refine .inr ⟨h, off + n * 2, cap - n, cur, by rw [List.length_drop], hr, by rw [List.length_drop]; omega, by rw [List.length_drop]; omega, by omega, by omega, ?_⟩
    rw [← flat_drop, ← htk, List.drop_take, List.drop_drop, List.length_drop]
    congr 1
    · omega
    · congr 1
      omega
theorem last_fin {w wr W' w' : World} {y : Lay} {s : St} {i n : Nat} {l : List (Nat × Nat)} {R : Value} (hl : s.pend[i]? = some l) (t1 : Turn w wr y y) (t2 : Turn wr W' y (y.tail i R))
    (hm : MemAt w' (y.tail i R) { s with lasted := lastW s.lasted (l.take n), pend := s.pend.set i (l.drop n), mm := umk s.mm i n }) (hb : But W' w' (fun k => k = (y.tail i R).mb)) (he : W'.heap[y.mb]? = w.heap[y.mb]?) (hst : MapStep W' w' (y.tail i R).mb) : LastPost w y (s.last i n) i (.returned (.tuple #[])) w' := by
  have e : s.last i n = { s with lasted := lastW s.lasted (l.take n), pend := s.pend.set i (l.drop n), mm := umk s.mm i n } := by
    unfold St.last
    rw [List.getD_eq_getElem?_getD, hl]
    rfl
  rw [e]
  exact ⟨rfl, y.tail i R, hm, (t1.trans t2).trans ⟨rfl, hb.mono (fun k e => .inr (.inr (.inr (.inr (.inl e))))), fun _ h => .inl h⟩, near_tail _ _ _, (MapStep.same he).trans hst⟩
set_option maxRecDepth 100000 in
set_option maxHeartbeats 3200000 in
theorem last_some {w : World} {y : Lay} {s : St} (h : MemAt w y s) (ok : s.Ok) (i n : Nat) (l : List (Nat × Nat)) (hi : i < s.nl) (hl : s.pend[i]? = some l) (hn0 : 0 < n) (hn : n ≤ l.length) :
    Calls Try.prog 41 #[.pointer (some ⟨y.g, 0, none⟩), .int .i64 (i : Int), .int .i64 (n : Int)] w (LastPost w y (s.last i n) i) := by
  have hmost := h.most
  have hll := ok.few l (List.mem_of_getElem? hl)
  have c0 := h.row.cell 0
  have c2 := h.row.cell 2
  simp only [List.getElem?_toArray, List.getElem?_cons_succ, List.getElem?_cons_zero] at c0 c2
  obtain ⟨V, l', hV, hl', ht⟩ := ps_get h hi
  rw [hl] at hl'
  cases hl'
  have ht' := ht
  rcases ht with ⟨_, rfl⟩ | ⟨hb, off, cap, cur, rfl, hr, hp0, hlc, hcm, hfit, htk⟩
  · simp at hn
    omega
  have hd := h.differ
  have cpp : w.cell? ⟨y.gp, i, none⟩ = some (.slice (some ⟨hb, off, none⟩) l.length cap) := by rw [h.pen.cellAt i (by omega), hV]
  have hcells : ∀ k (hk : k < l.length), w.cell? ⟨hb, off + k * 2, none⟩ = some (wv l[k].1) ∧ w.cell? ⟨hb, off + k * 2 + 1, none⟩ = some (wv l[k].2) := by
    intro k hk
    obtain ⟨g1, g2⟩ := flat_get l k hk
    rw [← htk, List.getElem?_take, List.getElem?_drop] at g1 g2
    rw [if_pos (by omega)] at g1 g2
    rw [hr.cell, hr.cell]
    refine ⟨?_, ?_⟩
    · rw [show off + k * 2 = off + 2 * k from by omega]; simpa using g1
    · rw [show off + k * 2 + 1 = off + (2 * k + 1) from by omega]; simpa using g2
  obtain ⟨L, hL⟩ : ∃ L, L = l.length := ⟨_, rfl⟩
  rw [← hL] at cpp hlc hn hll hp0
  have hcm' : cap ≤ 9223372036854775807 := by unfold maxLen at hcm; omega
  have HM := Lib.hid h
  have HO := Lib.hid ok
  have HD := Lib.hid hd
  have HV := Lib.hid hV
  have HLL := Lib.hid hl
  have HT := Lib.hid ht'
  have HC := Lib.hid hcells
  have HL := Lib.hid hL
  have hn00 : ((n : Int) == 0) = false := by rw [Bool.eq_false_iff]; intro hh; have := beq_iff_eq.1 hh; omega
  have i0 : (0 : Int) ≤ (i : Int) := by omega
  have i1 : (i : Int) < (s.nl : Int) := by omega
  have b0 : (0 : Int) ≤ (n : Int) := by omega
  have b1 : (n : Int) ≤ (L : Int) := by omega
  have b2 : (n : Int) ≤ (cap : Int) := by omega
  have b3 : (L : Int) ≤ (cap : Int) := by omega
  clear h ok hd hV hl ht' hcells hL htk hfit hr
  obtain ⟨N, hN⟩ : ∃ N, N = 8 * s.nl := ⟨_, rfl⟩
  rw [← hN] at c0
  have HN := Lib.hid hN
  have HC0 := Lib.hid c0
  have hNb : N ≤ 131072 := by omega
  clear hN c0
  have hcase : (cap = n ∧ L = n) ∨ (n < cap ∧ L = n) ∨ n < L := by omega
  have hL0 : L < 9223372036854775808 := by omega
  rcases hcase with ⟨hcap, hLn⟩ | ⟨hcap, hLn⟩ | hLn
  · have hcap := hcap.symm
    subst hcap
    have hrest : L - n = 0 ∧ l.drop n = [] := ⟨by omega, List.drop_of_length_le (by rw [← HL.out]; omega)⟩
    have HR := Lib.hid hrest
    have e0 : ((L : Int) - (n : Int) == 0) = true := by rw [beq_iff_eq]; omega
    have HLn := Lib.hid hLn
    clear hLn hrest
    go_enter Try.func41, Try.ntmps41
    go_wp2_with fail
    go_quiet (fail)
    go_wp2_with fail
    go_loopw [29] (fun v wr => ∃ k : Nat, k ≤ n ∧ v = .int .i64 k ∧ wr.ownsRow 0 22 1 (.slice (some ⟨y.gl, 0, none⟩) (8 * s.nl) y.cl) (8 * s.nl) ((lastW s.lasted (l.take k)).map wv) ∧ But w wr (fun k => k = y.gl)) (fun v _ => n - (intOf v).toNat)
    case atStart => exact ⟨0, by omega, rfl, by rw [List.take_zero]; exact own_keep HM.out.las (drewN_below _ _), But.of_below (drewN_below _ _) _⟩
    case round =>
      obtain ⟨k, hk, rfl, hown, hbut⟩ := hrel
      by_cases hlt : k < n
      · have hkl : k < l.length := by rw [← HL.out]; omega
        obtain ⟨q1, q2⟩ := HC.out k hkl
        have hne : hb ≠ y.gl := (HD.out.tail i _ hb HV.out rfl).2.1
        have q1' : wr.cell? ⟨hb, off + k * 2, none⟩ = some (wv l[k].1) := hbut.cell q1 hne
        have q2' : wr.cell? ⟨hb, off + k * 2 + 1, none⟩ = some (wv l[k].2) := hbut.cell q2 hne
        obtain ⟨p8, p64, pw⟩ := HO.out.put i l HLL.out l[k] (List.getElem_mem hkl)
        have hsn : lastW s.lasted (l.take (k + 1)) = (lastW s.lasted (l.take k)).set (l[k].1 / 8) l[k].2 := by rw [List.take_succ_eq_append_getElem hkl, lastW_snoc]
        obtain ⟨a, ha⟩ : ∃ a, a = l[k].1 := ⟨_, rfl⟩
        obtain ⟨v, hv⟩ : ∃ v, v = l[k].2 := ⟨_, rfl⟩
        rw [← ha] at q1' p8 p64 hsn
        rw [← hv] at q2' pw hsn
        unfold wv at q1' q2'
        have HS := Lib.hid hsn
        clear q1 q2 ha hv hsn
        have haN : a / 8 < N := by have := HN.out; omega
        have c0 : wr.cell? ⟨y.g, 0, none⟩ = some (.slice (some ⟨y.gl, 0, none⟩) N y.cl) := hbut.cell HC0.out HD.out.g_gl
        have hgl := own_lt hown
        have hgg : y.g < wr.heap.size := block_lt_of_cell c0
        obtain ⟨u, hu⟩ : ∃ u, wr.cell? ⟨y.gl, a / 8, none⟩ = some u := by
          rw [hown.cellAt (a / 8) (by have := HN.out; omega)]
          have : a / 8 < ((lastW s.lasted (l.take k)).map wv).length := by have := hown.1; have := HN.out; omega
          exact ⟨_, List.getElem?_eq_getElem this⟩
        obtain ⟨ccl, hcl⟩ := own_at hown
        have hfl := hcl.free (a / 8)
        have x1 : (wr.alloc (.cells #[.int .u64 (a : Int), .int .u64 (v : Int)] 64)).cell? ⟨y.g, 0, none⟩ = some (.slice (some ⟨y.gl, 0, none⟩) N y.cl) := (World.cell?_alloc_lt _ _ _ hgg).trans c0
        have x2 : (wr.alloc (.cells #[.int .u64 (a : Int), .int .u64 (v : Int)] 64)).cell? ⟨wr.heap.size, 0, none⟩ = some (.int .u64 (a : Int)) := (Row.new wr 64 #[.int .u64 (a : Int), .int .u64 (v : Int)]).cell 0
        have x3 : (wr.alloc (.cells #[.int .u64 (a : Int), .int .u64 (v : Int)] 64)).cell? ⟨wr.heap.size, 1, none⟩ = some (.int .u64 (v : Int)) := (Row.new wr 64 #[.int .u64 (a : Int), .int .u64 (v : Int)]).cell 1
        have x4 : (wr.alloc (.cells #[.int .u64 (a : Int), .int .u64 (v : Int)] 64)).cell? ⟨y.gl, a / 8, none⟩ = some u := (World.cell?_alloc_lt _ _ _ hgl).trans hu
        have x5 : (wr.alloc (.cells #[.int .u64 (a : Int), .int .u64 (v : Int)] 64)).frozen? ⟨y.gl, a / 8, none⟩ = false := (frozen_alloc hgl _).trans hfl
        have hab : a < 1048576 := by omega
        have hx0 : (0 : Int) ≤ (a : Int) / 8 := by omega
        have hx1 : (a : Int) / 8 < (N : Int) := by omega
        have k0 : (0 : Int) ≤ (k : Int) := by omega
        have k1 : (k : Int) < (n : Int) := by omega
        have hx2 : ((a : Int) / 8).toNat = a / 8 := by omega
        have hx3 : IntKind.u64.wrap ((a : Int) / 8) = (a : Int) / 8 := by rw [IntKind.wrap_u64]; omega
        have HOWN := Lib.hid hown
        have HBUT := Lib.hid hbut
        clear hown hbut hcl hfl hu c0
        have z1 : ((wr.setCell ⟨y.gl, a / 8, none⟩ (.int .u64 (v : Int))).alloc (.cells #[.int .u64 (a : Int), .int .u64 (v : Int)] 64)).cell? ⟨y.g, 0, none⟩ = some (.slice (some ⟨y.gl, 0, none⟩) N y.cl) := by
          rw [World.cell?_alloc_lt _ _ _ (by rw [size_set]; exact hgg), cell_far (Ne.symm HD.out.g_gl)]
          exact (World.cell?_alloc_lt _ _ _ hgg).symm.trans x1
        have zr : Row ((wr.setCell ⟨y.gl, a / 8, none⟩ (.int .u64 (v : Int))).alloc (.cells #[.int .u64 (a : Int), .int .u64 (v : Int)] 64)) wr.heap.size 64 #[.int .u64 (a : Int), .int .u64 (v : Int)] := row_at (by rw [size_set])
        have z2 := zr.cell 0
        have z3 := zr.cell 1
        simp only [List.getElem?_toArray, List.getElem?_cons_succ, List.getElem?_cons_zero] at z2 z3
        clear zr
        go_wp2_with fail
        go_region_held3 (fun w' => w'.cell? ⟨y.g, 0, none⟩ = some (.slice (some ⟨y.gl, 0, none⟩) N y.cl) ∧ w'.cell? ⟨wr.heap.size, 0, none⟩ = some (.int .u64 (a : Int)) ∧ w'.cell? ⟨wr.heap.size, 1, none⟩ = some (.int .u64 (v : Int)))
          (first | exact ⟨x1, x2, x3⟩ | exact ⟨z1, z2, z3⟩) (fail)
        go_wp2
        go_roundw
        case rel =>
          refine ⟨k + 1, by omega, by go_num, ?_, ((HBUT.out.set (p := ⟨y.gl, a / 8, none⟩) rfl _).alloc _).drew⟩
          have h1 := own_stored HOWN.out (a / 8) (wv v)
          rw [set_map, ← HS.out] at h1
          exact h1.alloc _
        case measure => simp [intOf]; omega
      · have hkn : k = n := by omega
        rw [hkn] at hown ⊢
        clear hkn hk hlt
        have e2 : wr.cell? ⟨y.g, 2, none⟩ = some (.slice (some ⟨y.gp, 0, none⟩) s.nl y.cp) := hbut.cell c2 HD.out.g_gl
        have ep : wr.cell? ⟨y.gp, i, none⟩ = some (.slice (some ⟨hb, off, none⟩) L n) := hbut.cell cpp (Ne.symm HD.out.gl_gp)
        obtain ⟨m1, t1⟩ := mem_las HM.out hown hbut
        obtain ⟨cpr, hpr⟩ := own_at m1.pen
        have fp : wr.frozen? ⟨y.gp, i, none⟩ = false := hpr.free i
        have HX := Lib.hid fun (R : Value) (h1 : R.ownBlock = none ∨ R.ownBlock = some hb) (h2 : Tail wr R (l.drop n)) => mem_tail m1 hi HV.out h1 h2
        have HT1 := Lib.hid t1
        have HEM := Lib.hid fun R => (heap_setCell_other wr ⟨y.gp, i, none⟩ y.mb R (Ne.symm HD.out.gp_mb)).trans (hbut.block _ HM.out.marks.lt (Ne.symm HD.out.gl_mb))
        have HTl := Lib.hid (m1.tails i hi _ _ HV.out HLL.out)
        clear m1 t1 hpr hown hbut c2 cpp
        go_wp2_with fail
        refine (unmark_ok (HX.out _ (.inl rfl) (.inl ⟨rfl, HR.out.2⟩)).1 i n hi ?_ ?_).mono ?_
        · omega
        · intro j c
          exact HO.out.mk_le j c
        · rintro e w' ⟨rfl, hm', hb', hst'⟩
          have t2 := (HX.out _ (.inl rfl) (.inl ⟨rfl, HR.out.2⟩)).2
          clear e0
          go_wp2
          go_end0
          exact last_fin HLL.out HT1.out t2 hm' hb' (HEM.out _) hst'
  · have hrest : L - n = 0 ∧ l.drop n = [] := ⟨by omega, List.drop_of_length_le (by rw [← HL.out]; omega)⟩
    have HR := Lib.hid hrest
    have e0 : ((L : Int) - (n : Int) == 0) = true := by rw [beq_iff_eq]; omega
    have HLn := Lib.hid hLn
    clear hLn hrest
    go_enter Try.func41, Try.ntmps41
    go_wp2_with fail
    go_quiet (fail)
    go_wp2_with fail
    go_loopw [29] (fun v wr => ∃ k : Nat, k ≤ n ∧ v = .int .i64 k ∧ wr.ownsRow 0 22 1 (.slice (some ⟨y.gl, 0, none⟩) (8 * s.nl) y.cl) (8 * s.nl) ((lastW s.lasted (l.take k)).map wv) ∧ But w wr (fun k => k = y.gl)) (fun v _ => n - (intOf v).toNat)
    case atStart => exact ⟨0, by omega, rfl, by rw [List.take_zero]; exact own_keep HM.out.las (drewN_below _ _), But.of_below (drewN_below _ _) _⟩
    case round =>
      obtain ⟨k, hk, rfl, hown, hbut⟩ := hrel
      by_cases hlt : k < n
      · have hkl : k < l.length := by rw [← HL.out]; omega
        obtain ⟨q1, q2⟩ := HC.out k hkl
        have hne : hb ≠ y.gl := (HD.out.tail i _ hb HV.out rfl).2.1
        have q1' : wr.cell? ⟨hb, off + k * 2, none⟩ = some (wv l[k].1) := hbut.cell q1 hne
        have q2' : wr.cell? ⟨hb, off + k * 2 + 1, none⟩ = some (wv l[k].2) := hbut.cell q2 hne
        obtain ⟨p8, p64, pw⟩ := HO.out.put i l HLL.out l[k] (List.getElem_mem hkl)
        have hsn : lastW s.lasted (l.take (k + 1)) = (lastW s.lasted (l.take k)).set (l[k].1 / 8) l[k].2 := by rw [List.take_succ_eq_append_getElem hkl, lastW_snoc]
        obtain ⟨a, ha⟩ : ∃ a, a = l[k].1 := ⟨_, rfl⟩
        obtain ⟨v, hv⟩ : ∃ v, v = l[k].2 := ⟨_, rfl⟩
        rw [← ha] at q1' p8 p64 hsn
        rw [← hv] at q2' pw hsn
        unfold wv at q1' q2'
        have HS := Lib.hid hsn
        clear q1 q2 ha hv hsn
        have haN : a / 8 < N := by have := HN.out; omega
        have c0 : wr.cell? ⟨y.g, 0, none⟩ = some (.slice (some ⟨y.gl, 0, none⟩) N y.cl) := hbut.cell HC0.out HD.out.g_gl
        have hgl := own_lt hown
        have hgg : y.g < wr.heap.size := block_lt_of_cell c0
        obtain ⟨u, hu⟩ : ∃ u, wr.cell? ⟨y.gl, a / 8, none⟩ = some u := by
          rw [hown.cellAt (a / 8) (by have := HN.out; omega)]
          have : a / 8 < ((lastW s.lasted (l.take k)).map wv).length := by have := hown.1; have := HN.out; omega
          exact ⟨_, List.getElem?_eq_getElem this⟩
        obtain ⟨ccl, hcl⟩ := own_at hown
        have hfl := hcl.free (a / 8)
        have x1 : (wr.alloc (.cells #[.int .u64 (a : Int), .int .u64 (v : Int)] 64)).cell? ⟨y.g, 0, none⟩ = some (.slice (some ⟨y.gl, 0, none⟩) N y.cl) := (World.cell?_alloc_lt _ _ _ hgg).trans c0
        have x2 : (wr.alloc (.cells #[.int .u64 (a : Int), .int .u64 (v : Int)] 64)).cell? ⟨wr.heap.size, 0, none⟩ = some (.int .u64 (a : Int)) := (Row.new wr 64 #[.int .u64 (a : Int), .int .u64 (v : Int)]).cell 0
        have x3 : (wr.alloc (.cells #[.int .u64 (a : Int), .int .u64 (v : Int)] 64)).cell? ⟨wr.heap.size, 1, none⟩ = some (.int .u64 (v : Int)) := (Row.new wr 64 #[.int .u64 (a : Int), .int .u64 (v : Int)]).cell 1
        have x4 : (wr.alloc (.cells #[.int .u64 (a : Int), .int .u64 (v : Int)] 64)).cell? ⟨y.gl, a / 8, none⟩ = some u := (World.cell?_alloc_lt _ _ _ hgl).trans hu
        have x5 : (wr.alloc (.cells #[.int .u64 (a : Int), .int .u64 (v : Int)] 64)).frozen? ⟨y.gl, a / 8, none⟩ = false := (frozen_alloc hgl _).trans hfl
        have hab : a < 1048576 := by omega
        have hx0 : (0 : Int) ≤ (a : Int) / 8 := by omega
        have hx1 : (a : Int) / 8 < (N : Int) := by omega
        have k0 : (0 : Int) ≤ (k : Int) := by omega
        have k1 : (k : Int) < (n : Int) := by omega
        have hx2 : ((a : Int) / 8).toNat = a / 8 := by omega
        have hx3 : IntKind.u64.wrap ((a : Int) / 8) = (a : Int) / 8 := by rw [IntKind.wrap_u64]; omega
        have HOWN := Lib.hid hown
        have HBUT := Lib.hid hbut
        clear hown hbut hcl hfl hu c0
        have z1 : ((wr.setCell ⟨y.gl, a / 8, none⟩ (.int .u64 (v : Int))).alloc (.cells #[.int .u64 (a : Int), .int .u64 (v : Int)] 64)).cell? ⟨y.g, 0, none⟩ = some (.slice (some ⟨y.gl, 0, none⟩) N y.cl) := by
          rw [World.cell?_alloc_lt _ _ _ (by rw [size_set]; exact hgg), cell_far (Ne.symm HD.out.g_gl)]
          exact (World.cell?_alloc_lt _ _ _ hgg).symm.trans x1
        have zr : Row ((wr.setCell ⟨y.gl, a / 8, none⟩ (.int .u64 (v : Int))).alloc (.cells #[.int .u64 (a : Int), .int .u64 (v : Int)] 64)) wr.heap.size 64 #[.int .u64 (a : Int), .int .u64 (v : Int)] := row_at (by rw [size_set])
        have z2 := zr.cell 0
        have z3 := zr.cell 1
        simp only [List.getElem?_toArray, List.getElem?_cons_succ, List.getElem?_cons_zero] at z2 z3
        clear zr
        go_wp2_with fail
        go_region_held3 (fun w' => w'.cell? ⟨y.g, 0, none⟩ = some (.slice (some ⟨y.gl, 0, none⟩) N y.cl) ∧ w'.cell? ⟨wr.heap.size, 0, none⟩ = some (.int .u64 (a : Int)) ∧ w'.cell? ⟨wr.heap.size, 1, none⟩ = some (.int .u64 (v : Int)))
          (first | exact ⟨x1, x2, x3⟩ | exact ⟨z1, z2, z3⟩) (fail)
        go_wp2
        go_roundw
        case rel =>
          refine ⟨k + 1, by omega, by go_num, ?_, ((HBUT.out.set (p := ⟨y.gl, a / 8, none⟩) rfl _).alloc _).drew⟩
          have h1 := own_stored HOWN.out (a / 8) (wv v)
          rw [set_map, ← HS.out] at h1
          exact h1.alloc _
        case measure => simp [intOf]; omega
      · have hkn : k = n := by omega
        rw [hkn] at hown ⊢
        clear hkn hk hlt
        have e2 : wr.cell? ⟨y.g, 2, none⟩ = some (.slice (some ⟨y.gp, 0, none⟩) s.nl y.cp) := hbut.cell c2 HD.out.g_gl
        have ep : wr.cell? ⟨y.gp, i, none⟩ = some (.slice (some ⟨hb, off, none⟩) L cap) := hbut.cell cpp (Ne.symm HD.out.gl_gp)
        obtain ⟨m1, t1⟩ := mem_las HM.out hown hbut
        obtain ⟨cpr, hpr⟩ := own_at m1.pen
        have fp : wr.frozen? ⟨y.gp, i, none⟩ = false := hpr.free i
        have HX := Lib.hid fun (R : Value) (h1 : R.ownBlock = none ∨ R.ownBlock = some hb) (h2 : Tail wr R (l.drop n)) => mem_tail m1 hi HV.out h1 h2
        have HT1 := Lib.hid t1
        have HEM := Lib.hid fun R => (heap_setCell_other wr ⟨y.gp, i, none⟩ y.mb R (Ne.symm HD.out.gp_mb)).trans (hbut.block _ HM.out.marks.lt (Ne.symm HD.out.gl_mb))
        have HTl := Lib.hid (m1.tails i hi _ _ HV.out HLL.out)
        clear m1 t1 hpr hown hbut c2 cpp
        go_wp2_with fail
        refine (unmark_ok (HX.out _ (.inl rfl) (.inl ⟨rfl, HR.out.2⟩)).1 i n hi ?_ ?_).mono ?_
        · omega
        · intro j c
          exact HO.out.mk_le j c
        · rintro e w' ⟨rfl, hm', hb', hst'⟩
          have t2 := (HX.out _ (.inl rfl) (.inl ⟨rfl, HR.out.2⟩)).2
          clear e0
          go_wp2
          go_end0
          exact last_fin HLL.out HT1.out t2 hm' hb' (HEM.out _) hst'
  · have hcap : n < cap := by omega
    go_enter Try.func41, Try.ntmps41
    go_wp2_with fail
    go_quiet (fail)
    go_wp2_with fail
    go_loopw [29] (fun v wr => ∃ k : Nat, k ≤ n ∧ v = .int .i64 k ∧ wr.ownsRow 0 22 1 (.slice (some ⟨y.gl, 0, none⟩) (8 * s.nl) y.cl) (8 * s.nl) ((lastW s.lasted (l.take k)).map wv) ∧ But w wr (fun k => k = y.gl)) (fun v _ => n - (intOf v).toNat)
    case atStart => exact ⟨0, by omega, rfl, by rw [List.take_zero]; exact own_keep HM.out.las (drewN_below _ _), But.of_below (drewN_below _ _) _⟩
    case round =>
      obtain ⟨k, hk, rfl, hown, hbut⟩ := hrel
      by_cases hlt : k < n
      · have hkl : k < l.length := by rw [← HL.out]; omega
        obtain ⟨q1, q2⟩ := HC.out k hkl
        have hne : hb ≠ y.gl := (HD.out.tail i _ hb HV.out rfl).2.1
        have q1' : wr.cell? ⟨hb, off + k * 2, none⟩ = some (wv l[k].1) := hbut.cell q1 hne
        have q2' : wr.cell? ⟨hb, off + k * 2 + 1, none⟩ = some (wv l[k].2) := hbut.cell q2 hne
        obtain ⟨p8, p64, pw⟩ := HO.out.put i l HLL.out l[k] (List.getElem_mem hkl)
        have hsn : lastW s.lasted (l.take (k + 1)) = (lastW s.lasted (l.take k)).set (l[k].1 / 8) l[k].2 := by rw [List.take_succ_eq_append_getElem hkl, lastW_snoc]
        obtain ⟨a, ha⟩ : ∃ a, a = l[k].1 := ⟨_, rfl⟩
        obtain ⟨v, hv⟩ : ∃ v, v = l[k].2 := ⟨_, rfl⟩
        rw [← ha] at q1' p8 p64 hsn
        rw [← hv] at q2' pw hsn
        unfold wv at q1' q2'
        have HS := Lib.hid hsn
        clear q1 q2 ha hv hsn
        have haN : a / 8 < N := by have := HN.out; omega
        have c0 : wr.cell? ⟨y.g, 0, none⟩ = some (.slice (some ⟨y.gl, 0, none⟩) N y.cl) := hbut.cell HC0.out HD.out.g_gl
        have hgl := own_lt hown
        have hgg : y.g < wr.heap.size := block_lt_of_cell c0
        obtain ⟨u, hu⟩ : ∃ u, wr.cell? ⟨y.gl, a / 8, none⟩ = some u := by
          rw [hown.cellAt (a / 8) (by have := HN.out; omega)]
          have : a / 8 < ((lastW s.lasted (l.take k)).map wv).length := by have := hown.1; have := HN.out; omega
          exact ⟨_, List.getElem?_eq_getElem this⟩
        obtain ⟨ccl, hcl⟩ := own_at hown
        have hfl := hcl.free (a / 8)
        have x1 : (wr.alloc (.cells #[.int .u64 (a : Int), .int .u64 (v : Int)] 64)).cell? ⟨y.g, 0, none⟩ = some (.slice (some ⟨y.gl, 0, none⟩) N y.cl) := (World.cell?_alloc_lt _ _ _ hgg).trans c0
        have x2 : (wr.alloc (.cells #[.int .u64 (a : Int), .int .u64 (v : Int)] 64)).cell? ⟨wr.heap.size, 0, none⟩ = some (.int .u64 (a : Int)) := (Row.new wr 64 #[.int .u64 (a : Int), .int .u64 (v : Int)]).cell 0
        have x3 : (wr.alloc (.cells #[.int .u64 (a : Int), .int .u64 (v : Int)] 64)).cell? ⟨wr.heap.size, 1, none⟩ = some (.int .u64 (v : Int)) := (Row.new wr 64 #[.int .u64 (a : Int), .int .u64 (v : Int)]).cell 1
        have x4 : (wr.alloc (.cells #[.int .u64 (a : Int), .int .u64 (v : Int)] 64)).cell? ⟨y.gl, a / 8, none⟩ = some u := (World.cell?_alloc_lt _ _ _ hgl).trans hu
        have x5 : (wr.alloc (.cells #[.int .u64 (a : Int), .int .u64 (v : Int)] 64)).frozen? ⟨y.gl, a / 8, none⟩ = false := (frozen_alloc hgl _).trans hfl
        have hab : a < 1048576 := by omega
        have hx0 : (0 : Int) ≤ (a : Int) / 8 := by omega
        have hx1 : (a : Int) / 8 < (N : Int) := by omega
        have k0 : (0 : Int) ≤ (k : Int) := by omega
        have k1 : (k : Int) < (n : Int) := by omega
        have hx2 : ((a : Int) / 8).toNat = a / 8 := by omega
        have hx3 : IntKind.u64.wrap ((a : Int) / 8) = (a : Int) / 8 := by rw [IntKind.wrap_u64]; omega
        have HOWN := Lib.hid hown
        have HBUT := Lib.hid hbut
        clear hown hbut hcl hfl hu c0
        have z1 : ((wr.setCell ⟨y.gl, a / 8, none⟩ (.int .u64 (v : Int))).alloc (.cells #[.int .u64 (a : Int), .int .u64 (v : Int)] 64)).cell? ⟨y.g, 0, none⟩ = some (.slice (some ⟨y.gl, 0, none⟩) N y.cl) := by
          rw [World.cell?_alloc_lt _ _ _ (by rw [size_set]; exact hgg), cell_far (Ne.symm HD.out.g_gl)]
          exact (World.cell?_alloc_lt _ _ _ hgg).symm.trans x1
        have zr : Row ((wr.setCell ⟨y.gl, a / 8, none⟩ (.int .u64 (v : Int))).alloc (.cells #[.int .u64 (a : Int), .int .u64 (v : Int)] 64)) wr.heap.size 64 #[.int .u64 (a : Int), .int .u64 (v : Int)] := row_at (by rw [size_set])
        have z2 := zr.cell 0
        have z3 := zr.cell 1
        simp only [List.getElem?_toArray, List.getElem?_cons_succ, List.getElem?_cons_zero] at z2 z3
        clear zr
        go_wp2_with fail
        go_region_held3 (fun w' => w'.cell? ⟨y.g, 0, none⟩ = some (.slice (some ⟨y.gl, 0, none⟩) N y.cl) ∧ w'.cell? ⟨wr.heap.size, 0, none⟩ = some (.int .u64 (a : Int)) ∧ w'.cell? ⟨wr.heap.size, 1, none⟩ = some (.int .u64 (v : Int)))
          (first | exact ⟨x1, x2, x3⟩ | exact ⟨z1, z2, z3⟩) (fail)
        go_wp2
        go_roundw
        case rel =>
          refine ⟨k + 1, by omega, by go_num, ?_, ((HBUT.out.set (p := ⟨y.gl, a / 8, none⟩) rfl _).alloc _).drew⟩
          have h1 := own_stored HOWN.out (a / 8) (wv v)
          rw [set_map, ← HS.out] at h1
          exact h1.alloc _
        case measure => simp [intOf]; omega
      · have hkn : k = n := by omega
        rw [hkn] at hown ⊢
        clear hkn hk hlt
        have e2 : wr.cell? ⟨y.g, 2, none⟩ = some (.slice (some ⟨y.gp, 0, none⟩) s.nl y.cp) := hbut.cell c2 HD.out.g_gl
        have ep : wr.cell? ⟨y.gp, i, none⟩ = some (.slice (some ⟨hb, off, none⟩) L cap) := hbut.cell cpp (Ne.symm HD.out.gl_gp)
        obtain ⟨m1, t1⟩ := mem_las HM.out hown hbut
        obtain ⟨cpr, hpr⟩ := own_at m1.pen
        have fp : wr.frozen? ⟨y.gp, i, none⟩ = false := hpr.free i
        have HX := Lib.hid fun (R : Value) (h1 : R.ownBlock = none ∨ R.ownBlock = some hb) (h2 : Tail wr R (l.drop n)) => mem_tail m1 hi HV.out h1 h2
        have HT1 := Lib.hid t1
        have HEM := Lib.hid fun R => (heap_setCell_other wr ⟨y.gp, i, none⟩ y.mb R (Ne.symm HD.out.gp_mb)).trans (hbut.block _ HM.out.marks.lt (Ne.symm HD.out.gl_mb))
        have HTl := Lib.hid (m1.tails i hi _ _ HV.out HLL.out)
        have htl : Tail wr (.slice (some ⟨hb, off + n * 2, none⟩) (L - n) (cap - n)) (l.drop n) := by
          have := HTl.out
          rw [← HL.out] at this
          rw [HL.out]
          exact this.drop (by rw [← HL.out]; exact hLn)
        have HTT := Lib.hid htl
        clear m1 t1 hpr hown hbut c2 cpp htl
        go_wp2_with fail
        refine (unmark_ok (HX.out _ (.inr rfl) HTT.out).1 i n hi ?_ ?_).mono ?_
        · omega
        · intro j c
          exact HO.out.mk_le j c
        · rintro e w' ⟨rfl, hm', hb', hst'⟩
          have t2 := (HX.out _ (.inr rfl) HTT.out).2
          go_wp2
          go_end0
          exact last_fin HLL.out HT1.out t2 hm' hb' (HEM.out _) hst'
theorem last_ok {w : World} {y : Lay} {s : St} (h : MemAt w y s) (ok : s.Ok) (i n : Nat) (hi : i < s.nl) (hn : n ≤ (s.pend.getD i []).length) :
    Calls Try.prog 41 #[.pointer (some ⟨y.g, 0, none⟩), .int .i64 (i : Int), .int .i64 (n : Int)] w (LastPost w y (s.last i n) i) := by
  by_cases h0 : n = 0
  · subst h0
    exact last_none h i hi
  · have hl := List.getElem?_eq_getElem (show i < s.pend.length by have := h.plen; omega)
    rw [List.getD_eq_getElem?_getD, hl] at hn
    exact last_some h ok i n _ hi hl (by omega) hn
end Go.Proofs.Yteojhhfcfdkmdaa
/- What a fence makes of a state, line by line; plain facts, for states that a memory can have. -/
namespace Go.Proofs.Yteojhhfcfdkmdaa
set_option linter.unusedVariables false
theorem lastW_local {las las' : List Nat} (ps : List (Nat × Nat)) {k : Nat} (hl : las.length = las'.length) (h : las[k]? = las'[k]?) : (lastW las ps)[k]? = (lastW las' ps)[k]? := by
  induction ps generalizing las las' with
  | nil => exact h
  | cons p t ih =>
    show (lastW (las.set (p.1 / 8) p.2) t)[k]? = (lastW (las'.set (p.1 / 8) p.2) t)[k]?
    refine ih (by simpa using hl) ?_
    rw [List.getElem?_set, List.getElem?_set, hl, h]
theorem lastW_far {las : List Nat} {ps : List (Nat × Nat)} {k : Nat} (h : ∀ p ∈ ps, p.1 / 8 ≠ k) : (lastW las ps)[k]? = las[k]? := by
  induction ps generalizing las with
  | nil => rfl
  | cons p t ih =>
    show (lastW (las.set (p.1 / 8) p.2) t)[k]? = _
    rw [ih (fun q hq => h q (by simp [hq])), List.getElem?_set_ne (h p (by simp))]
theorem lastW_fits {las : List Nat} {ps : List (Nat × Nat)} (h1 : ∀ x ∈ las, x < 18446744073709551616) (h2 : ∀ p ∈ ps, p.2 < 18446744073709551616) : ∀ x ∈ lastW las ps, x < 18446744073709551616 := by
  induction ps generalizing las with
  | nil => exact h1
  | cons p t ih =>
    refine ih (las := las.set (p.1 / 8) p.2) ?_ (fun q hq => h2 q (by simp [hq]))
    intro x hx
    rcases List.mem_or_eq_of_mem_set hx with hx | rfl
    · exact h1 x hx
    · exact h2 p (by simp)

/-- The state behind a fence of those lines that V says. -/
def St.fenV (s : St) (c : Nat) (V : Nat → Bool) : St :=
  { s with
    lasted := s.lasted.mapIdx fun k x => if V (k / 8) = true then (lastW s.lasted ((s.pend.getD (k / 8) []).take (s.mm (k / 8) c))).getD k 0 else x
    pend := s.pend.mapIdx fun j l => if V j = true then l.drop (s.mm j c) else l
    mm := fun j => if V j = true then (fun k => s.mm j k - s.mm j c) else s.mm j }
theorem st_ext {s t : St} (h1 : s.nl = t.nl) (h2 : s.lasted = t.lasted) (h3 : s.view = t.view) (h4 : s.pend = t.pend) (h5 : s.mm = t.mm) (h6 : s.ld = t.ld) (h7 : s.st = t.st) (h8 : s.fl = t.fl) (h9 : s.fe = t.fe) : s = t := by
  cases s
  cases t
  dsimp only at *
  subst h1 h2 h3 h4 h5 h6 h7 h8 h9
  rfl
theorem getD_at {α : Type} {l : List α} {i : Nat} {d : α} (h : i < l.length) : l.getD i d = l[i] := by rw [List.getD_eq_getElem?_getD, List.getElem?_eq_getElem h]; rfl
theorem fenV_none (s : St) (c : Nat) : s.fenV c (fun _ => false) = s := by
  refine st_ext rfl ?_ rfl ?_ ?_ rfl rfl rfl rfl
  · apply List.ext_getElem?
    intro i
    simp [St.fenV]
  · apply List.ext_getElem?
    intro i
    simp [St.fenV]
  · funext j
    simp [St.fenV]
theorem fenV_step {s : St} (ok : s.Ok) (hp : s.pend.length = s.nl) {c j : Nat} {V : Nat → Bool} (hj : j < s.nl) (hV : V j = false) :
    (s.fenV c V).last j (s.mm j c) = s.fenV c (fun i => V i || i == j) := by
  have hpj : (s.fenV c V).pend.getD j [] = s.pend.getD j [] := by
    simp [St.fenV, List.getD_eq_getElem?_getD, List.getElem?_mapIdx, hV]
  refine st_ext rfl ?_ rfl ?_ ?_ rfl rfl rfl rfl
  · show lastW (s.fenV c V).lasted (((s.fenV c V).pend.getD j []).take (s.mm j c)) = _
    rw [hpj]
    apply List.ext_getElem?
    intro k
    by_cases hk : k / 8 = j
    · have h1 : (s.fenV c V).lasted[k]? = s.lasted[k]? := by
        simp [St.fenV, List.getElem?_mapIdx, hk, hV]
      rw [lastW_local _ (by simp [St.fenV]) h1]
      simp only [St.fenV, List.getElem?_mapIdx, hk, beq_self_eq_true, Bool.or_true, if_true]
      generalize (s.pend.getD j []).take (s.mm j c) = PS
      have hlen := lastW_length s.lasted PS
      by_cases hl : k < s.lasted.length
      · rw [List.getElem?_eq_getElem hl, List.getElem?_eq_getElem (show k < (lastW s.lasted PS).length by omega)]
        simp only [Option.map_some]
        rw [getD_at (show k < (lastW s.lasted PS).length by omega)]
      · rw [List.getElem?_eq_none (show s.lasted.length ≤ k by omega), List.getElem?_eq_none (show (lastW s.lasted PS).length ≤ k by omega)]
        rfl
    · rw [lastW_far]
      · have e : (k / 8 == j) = false := by simpa using hk
        simp only [St.fenV, List.getElem?_mapIdx, e, Bool.or_false]
      · intro p hp'
        have hm := List.mem_of_mem_take hp'
        rw [getD_at (by omega)] at hm
        have := (ok.put j _ (List.getElem?_eq_getElem (by omega)) p hm).2.1
        omega
  · show (s.fenV c V).pend.set j (((s.fenV c V).pend.getD j []).drop (s.mm j c)) = _
    rw [hpj]
    apply List.ext_getElem?
    intro k
    rw [List.getElem?_set]
    by_cases hk : j = k
    · subst hk
      rw [if_pos rfl, if_pos (by simp [St.fenV]; omega)]
      simp only [St.fenV, List.getElem?_mapIdx, beq_self_eq_true, Bool.or_true, if_true]
      rw [List.getElem?_eq_getElem (by omega), getD_at (by omega)]
      rfl
    · rw [if_neg hk]
      have e : (k == j) = false := by simpa using fun x => hk x.symm
      simp only [St.fenV, List.getElem?_mapIdx, e, Bool.or_false]
  · funext i
    show umk (s.fenV c V).mm j (s.mm j c) i = _
    by_cases hi : i = j
    · subst hi
      funext q
      rw [umk_at]
      simp [St.fenV, hV]
    · funext q
      rw [umk_far hi]
      have e : (i == j) = false := by simpa using hi
      show (if V i = true then (fun k => s.mm i k - s.mm i c) else s.mm i) q = (if (V i || i == j) = true then (fun k => s.mm i k - s.mm i c) else s.mm i) q
      rw [e, Bool.or_false]
theorem fenV_ok {s : St} (ok : s.Ok) (c : Nat) (V : Nat → Bool) : (s.fenV c V).Ok := by
  refine ⟨?_, ok.vie, ?_, ?_, ?_, ok.num⟩
  · intro x hx
    simp only [St.fenV, List.mem_mapIdx] at hx
    obtain ⟨k, hk, rfl⟩ := hx
    split
    · rw [getD_at (by rw [lastW_length]; exact hk)]
      refine lastW_fits ok.las ?_ _ (List.getElem_mem _)
      intro p hp
      have hm := List.mem_of_mem_take hp
      by_cases hl : k / 8 < s.pend.length
      · rw [getD_at hl] at hm
        exact (ok.put _ _ (List.getElem?_eq_getElem hl) p hm).2.2
      · rw [List.getD_eq_getElem?_getD, List.getElem?_eq_none (by omega)] at hm
        cases hm
    · exact ok.las _ (List.getElem_mem hk)
  · intro j l hl p hp
    simp only [St.fenV, List.getElem?_mapIdx] at hl
    cases e : s.pend[j]? with
    | none => rw [e] at hl; cases hl
    | some l0 =>
      rw [e] at hl
      simp only [Option.map_some, Option.some.injEq] at hl
      subst hl
      refine ok.put j l0 e p ?_
      split at hp
      · exact List.mem_of_mem_drop hp
      · exact hp
  · intro l hl
    simp only [St.fenV, List.mem_mapIdx] at hl
    obtain ⟨k, hk, rfl⟩ := hl
    have := ok.few _ (List.getElem_mem hk)
    split
    · rw [List.length_drop]; omega
    · exact this
  · intro j q
    have h1 := ok.mks j q
    by_cases hl : j < s.pend.length
    · rw [getD_at hl] at h1
      rw [getD_at (by simpa [St.fenV] using hl)]
      simp only [St.fenV, List.getElem_mapIdx]
      split
      · rw [List.length_drop]
        show s.mm j q - s.mm j c ≤ _
        omega
      · exact h1
    · rw [List.getD_eq_getElem?_getD, List.getElem?_eq_none (by omega)] at h1
      have h1' : s.mm j q = 0 := by simpa using h1
      simp only [St.fenV]
      split
      · show s.mm j q - s.mm j c ≤ _
        omega
      · omega
theorem fenV_all {s : St} (ok : s.Ok) (hp : s.pend.length = s.nl) (hl : s.lasted.length = 8 * s.nl) {c : Nat} {V : Nat → Bool} (h : ∀ j, j < s.nl → V j = false → s.mm j c = 0) : s.fenV c V = s.fenV c (fun _ => true) := by
  refine st_ext rfl ?_ rfl ?_ ?_ rfl rfl rfl rfl
  · apply List.ext_getElem
    · simp [St.fenV]
    · intro k h1 h2
      have hk : k < s.lasted.length := by simpa [St.fenV] using h1
      simp only [St.fenV, List.getElem_mapIdx, if_true]
      cases hv : V (k / 8)
      · simp only [Bool.false_eq_true, if_false]
        rw [h (k / 8) (by omega) hv, List.take_zero]
        show _ = (lastW s.lasted []).getD k 0
        rw [getD_at (by rw [lastW_length]; exact hk)]
        rfl
      · simp
  · apply List.ext_getElem
    · simp [St.fenV]
    · intro k h1 h2
      have hk : k < s.pend.length := by simpa [St.fenV] using h1
      simp only [St.fenV, List.getElem_mapIdx, if_true]
      cases hv : V k
      · simp only [Bool.false_eq_true, if_false]
        rw [h k (by omega) hv, List.drop_zero]
      · simp
  · funext j q
    simp only [St.fenV, if_true]
    cases hv : V j
    · simp only [Bool.false_eq_true, if_false]
      by_cases hj : j < s.nl
      · rw [h j hj hv]; omega
      · have h1 := ok.mks j q
        rw [List.getD_eq_getElem?_getD, List.getElem?_eq_none (by omega)] at h1
        have h1' : s.mm j q = 0 := by simpa using h1
        omega
    · simp
/-- A fence: the state behind it. -/
def St.fence (s : St) (c : Nat) : St := { s with fe := s.fe + 1 }.fenV c (fun _ => true)
end Go.Proofs.Yteojhhfcfdkmdaa
/- Fence: all that a client has marked lasts, of each line in order; for states that a memory can have. -/
namespace Go.Proofs.Yteojhhfcfdkmdaa
open Go.RowKit Go.Maps
set_option linter.unusedVariables false

theorem fp_obj {w : World} {y : Lay} {s : St} (h : MemAt w y s) : ∀ k, y.fp k → (∃ cs t, w.heap[k]? = some (.cells cs t (0, 0))) ∨ ∃ es c, w.heap[k]? = some (.map es c) := by
  rintro k (rfl | rfl | rfl | rfl | rfl | ⟨j, v, hv, hk⟩)
  · exact .inl ⟨_, _, h.row⟩
  · obtain ⟨c, hc⟩ := own_at h.las
    exact .inl ⟨_, _, hc⟩
  · obtain ⟨c, hc⟩ := own_at h.vie
    exact .inl ⟨_, _, hc⟩
  · obtain ⟨c, hc⟩ := own_at h.pen
    exact .inl ⟨_, _, hc⟩
  · exact .inr h.marks.map
  · obtain ⟨c, hc⟩ := ps_row h hv hk
    exact .inl ⟨_, _, hc⟩
theorem iter_not {w : World} {y : Lay} {s : St} {r : Nat} {m : Option Nat} {a c : Nat} {seen : Array Nat} (h : MemAt w y s) (hr : w.heap[r]? = some (.mapIter m a seen c)) : ¬ y.fp r := by
  intro hf
  rcases fp_obj h r hf with ⟨cs, t, e⟩ | ⟨es, c, e⟩
  · rw [e] at hr; cases hr
  · rw [e] at hr; cases hr
theorem ranges_iter {P : Program} {k : TypeId} {R : Value → Option (DataW Unit × List MemPlace)} {w : World} {b r n : Nat} {D : DataW Unit} {left : Lit → Bool} {cnt : Nat} (h : w.ranges P k R b r n D left cnt) :
    ∃ a seen c, w.heap[r]? = some (.mapIter (some b) a seen c) := by
  obtain ⟨es, clock, since, seen, c0, hb, F, hs, hD, hr, _⟩ := h
  exact ⟨_, _, _, hr⟩

/-- The loop's state: which lines have been fenced, and what is left. -/
structure FenAt (w wr : World) (y : Lay) (s : St) (c r : Nat) (V : Nat → Bool) (y' : Lay) (n : Nat) (D : DataW Unit) (left : Lit → Bool) (cnt : Nat) : Prop where
  rg : wr.ranges Try.prog 3 mkR y.mb r n D left cnt
  mem : MemAt wr y' (s.fenV c V)
  turn : Turn w wr y y'
  rge : w.heap.size ≤ r
  mb : y'.mb = y.mb
  left : ∀ j, j < s.nl → (left (key j) = true ↔ V j = false ∧ someMk (s.mm j))
theorem fen_left {s : St} {c : Nat} {V : Nat → Bool} {j : Nat} (hV : V j = false) : (s.fenV c V).mm j = s.mm j := by
  simp [St.fenV, hV]
theorem fen_next {w wr : World} {y y' : Lay} {s : St} {c r n cnt : Nat} {V : Nat → Bool} {D : DataW Unit} {left : Lit → Bool} (h : FenAt w wr y s c r V y' n D left cnt) {x : Int} {f : Nat → Nat} {kl : Lit} {a : DataW Unit} {ps : List MemPlace}
    (hkey : keyOf Try.prog 3 (.int .i64 x) = some kl) (hl : left kl = true) (hv : mkR (mkV f) = some (a, ps)) (hat : ∀ zd, D.atKey kl zd = a) :
    ∃ j : Nat, j < s.nl ∧ x = (j : Int) ∧ kl = key j ∧ V j = false ∧ mkV f = mkV (s.mm j) := by
  obtain ⟨D2, own2, hk2, hs2, ha2⟩ := h.mem.marks
  rw [h.mb] at own2
  have hD := own_one h.rg.owns own2
  subst hD
  have hhas := left_has h.rg keyed hl
  obtain ⟨j, hj, rfl⟩ := hk2 kl hhas
  have hj' : j < s.nl := hj
  have hm := h.mem.most
  have hx : x = (j : Int) := by
    have e1 : Value.int .i64 x = .int .i64 (j : Int) := keyed.inj hkey (key_of (i := j) (by omega))
    exact (Value.int.inj e1).2
  have hV := ((h.left j hj').1 hl).1
  refine ⟨j, hj', hx, rfl, hV, ?_⟩
  obtain ⟨f', e3, e4, _⟩ := mkR_inv hv
  have e6 : a = mkD f' := congrArg Prod.fst e4
  have e5 := ha2 j hj (mkD fun _ => 0) hhas
  rw [hat, fen_left hV] at e5
  have e7 : mkD f' = mkD (s.mm j) := e6.symm.trans e5
  exact e3.trans (mkV_of (mkD_inj e7))
theorem fen_round {w wr w1 W2 w3 : World} {y y' y3 : Lay} {s : St} {c r n cnt cnt1 j : Nat} {V : Nat → Bool} {D : DataW Unit} {left : Lit → Bool} (ok : s.Ok) (h : FenAt w wr y s c r V y' n D left cnt)
    (hj : j < s.nl) (hV : V j = false) (hrg1 : w1.ranges Try.prog 3 mkR y.mb r n D (fun z => left z && !z.sameKey (key j)) cnt1) (hlt : cnt1 < cnt) (hg1 : wr.grownBy w1 (some r)) (hb2 : Below w1.heap.size w1 W2)
    (hm3 : MemAt w3 y3 ((s.fenV c V).last j (s.mm j c))) (ht3 : Turn W2 w3 y' y3) (hmb : y3.mb = y'.mb) (hst : MapStep W2 w3 y'.mb) :
    ∃ n3 D3 left3 cnt3, FenAt w w3 y s c r (fun i => V i || i == j) y3 n3 D3 left3 cnt3 ∧ cnt3 < cnt := by
  obtain ⟨a, seen, q, hit⟩ := ranges_iter hrg1
  have hrlt : r < w1.heap.size := hrg1.lt
  have hm1 : MemAt w1 y' (s.fenV c V) := h.mem.same fun k hk => hg1.block k (h.mem.lt k hk) (fun e => by
    obtain ⟨a', seen', q', hit'⟩ := ranges_iter h.rg
    exact iter_not h.mem hit' (by rw [← Option.some.inj e]; exact hk))
  have hm2 : MemAt W2 y' (s.fenV c V) := hm1.below hb2
  have hit2 : W2.heap[r]? = some (.mapIter (some y.mb) a seen q) := (hb2.block r hrlt).trans hit
  have hnot : ¬ y'.fp r := iter_not hm2 hit2
  have hrg2 : W2.ranges Try.prog 3 mkR y.mb r n D (fun z => left z && !z.sameKey (key j)) cnt1 :=
    hrg1.kept (row := none) ⟨hb2.os, hb2.tape, hb2.output, hb2.size, fun k hk _ => hb2.block k hk⟩ (by simp) (by simp)
  obtain ⟨D3, own3, hk3, hs3, ha3⟩ := hm3.marks
  rw [hmb, h.mb] at own3
  rw [h.mb] at hst
  obtain ⟨cnt3, hrg3, hle⟩ := ranges_step hrg2 keyed hst (ht3.but.block r (by have := hb2.size; omega) hnot) own3
  rw [fenV_step ok (by have := h.mem.plen; simpa [St.fenV] using this) hj hV] at hm3 hs3
  have b1 : But w w1 y.fp := h.turn.but.trans (q := fun k => k = r) ⟨hg1.os, hg1.tape, hg1.output, hg1.size, fun k hk hn => hg1.block k hk (fun e => hn (Option.some.inj e))⟩ (fun k e => .inr (by rw [e]; exact h.rge))
  have b2 : But w W2 y.fp := b1.trans (But.of_below hb2 y.fp) (fun _ h => .inl h)
  have b3 : But w w3 y.fp := b2.trans ht3.but h.turn.fp
  refine ⟨_, D3, _, cnt3, ⟨hrg3, hm3, ⟨ht3.g.trans h.turn.g, b3, fun k hk => ?_⟩, h.rge, hmb.trans h.mb, ?_⟩, by omega⟩
  · rcases ht3.fp k hk with h1 | h1
    · exact h.turn.fp k h1
    · exact .inr (Nat.le_trans b2.size h1)
  · intro i hi
    have h1 := h.left i hi
    have h2 := hs3 i hi
    by_cases e : i = j
    · subst e
      simp [same_refl (key_is _)]
    · have e1 : (key i).sameKey (key j) = false := Maps.sameKey_ne (fun x => e (key_inj x))
      have e2 : (V i || i == j) = V i := by
        have : (i == j) = false := by simpa using e
        rw [this, Bool.or_false]
      rw [e1, e2]
      simp only [Bool.not_false, Bool.and_true, Bool.and_eq_true]
      constructor
      · exact fun hx => h1.1 hx.1
      · intro hx
        refine ⟨h1.2 hx, h2.2 ?_⟩
        rw [fen_left (by rw [e2]; exact hx.1)]
        exact hx.2
set_option maxRecDepth 100000 in
set_option maxHeartbeats 3200000 in
theorem fence_ok {w : World} {y : Lay} {s : St} (h : MemAt w y s) (ok : s.Ok) (c : Nat) (hc : c ≤ 64) (hfe1 : s.fe + 1 < 9223372036854775808) :
    Calls Try.prog 23 #[.pointer (some ⟨y.g, 0, none⟩), .int .i64 (c : Int)] w (StPost w y (s.fence c) 0) := by
  have HC := Lib.hid (isClient_any (c : Int) w)
  rw [show decide (0 ≤ (c : Int) ∧ (c : Int) ≤ 64) = true from by simp; omega] at HC
  have HR0 : Calls Try.prog 38 #[.pointer (some ⟨y.g, 0, none⟩), .bool true, .int .u64 0] w fun e w' => e = .returned (.int .i64 0) ∧ w = w' := refused_ok h 0 (by decide) (by have := h.pos; omega)
  have HR := Lib.hid HR0
  have hmost := h.most
  have hd := h.differ
  have c3 := h.row.cell 3
  have c7 := h.row.cell 7
  simp only [List.getElem?_toArray, List.getElem?_cons_succ, List.getElem?_cons_zero] at c3 c7
  have f7 := h.row.free 7
  have hfe := ok.num.2.2.2
  unfold wv at c7
  obtain ⟨W0, hW0⟩ : ∃ W0, W0 = w.setCell ⟨y.g, 7, none⟩ (wv (s.fe + 1)) := ⟨_, rfl⟩
  have hW1 := hW0
  rw [show wv (s.fe + 1) = .int .u64 ((s.fe : Int) + 1) from rfl] at hW1
  obtain ⟨s1, hs1⟩ : ∃ s1 : St, s1 = { s with fe := s.fe + 1 } := ⟨_, rfl⟩
  have hm0 : MemAt W0 y s1 := by
    rw [hW0, hs1]
    exact mem_marks h rfl rfl rfl rfl (h.row.set 7 _) (fun k _ h1 _ => heap_setCell_other _ _ _ _ h1) (h.marks.same (heap_setCell_other _ _ _ _ (Ne.symm hd.g_mb)))
  have d3 : W0.cell? ⟨y.g, 3, none⟩ = some (.map (some y.mb)) := by
    rw [hW1, cell_else (by decide)]
    exact c3
  have hok1 : s1.Ok := by
    rw [hs1]
    exact ⟨ok.las, ok.vie, ok.put, ok.few, ok.mks, ⟨ok.num.1, ok.num.2.1, ok.num.2.2.1, hfe1⟩⟩
  have hnl : s1.nl = s.nl := by rw [hs1]
  obtain ⟨D, hown, hk, hs, ha⟩ := hm0.marks
  have ht0 : Turn w W0 y y := by
    rw [hW0]
    exact ⟨rfl, (But.refl w _).set (p := ⟨y.g, 7, none⟩) (.inl rfl) _, fun _ h => .inl h⟩
  have e0 : s.fence c = s1.fenV c (fun _ => true) := by rw [hs1]; rfl
  rw [e0]
  have HM0 := Lib.hid hm0
  have HT0 := Lib.hid ht0
  have HK := Lib.hid hk
  have HS := Lib.hid hs
  have HOK := Lib.hid hok1
  have HD := Lib.hid hd
  clear h ok hd hm0 ht0 hk hs ha hok1 e0 hW0 c3 HR0
  subst hW1
  go_enter Try.func23, Try.ntmps23
  go_wp2_with fail
  refine HC.out.mono ?_
  rintro e w1 ⟨rfl, rfl⟩
  go_wp2_with fail
  refine HR.out.mono ?_
  rintro e w1 ⟨rfl, rfl⟩
  go_wp2_with (at_range; refine wpList_range_own _ rfl (.tmp 27) 93 rfl 3 103 keyed Try.underlying93 mkR y.mb (Maps.size D) D rfl hown ?_; intro w0 hrg0 hg0 hs0)
  go_frame
  obtain ⟨r, hr⟩ : ∃ r, r = (w.setCell ⟨y.g, 7, none⟩ (.int .u64 ((s.fe : Int) + 1))).heap.size := ⟨_, rfl⟩
  rw [← hr] at hrg0 ⊢
  have hstart : FenAt w w0 y s1 c r (fun _ => false) y (Maps.size D) D (Maps.has D) (Maps.size D) := by
    refine ⟨hrg0, ?_, ?_, by rw [hr, size_set]; exact Nat.le_refl _, rfl, ?_⟩
    · rw [fenV_none]
      exact HM0.out.same fun k hk => hg0.block k (HM0.out.lt k hk) (by simp)
    · exact HT0.out.trans (Turn.of_below y ⟨hg0.os, hg0.tape, hg0.output, hg0.size, fun k hk => hg0.block k hk (by simp)⟩)
    · intro j hj
      rw [HS.out j hj]
      simp
  have HST := Lib.hid hstart
  have HN := Lib.hid hnl
  clear hstart hrg0 hg0 hs0 hr hown hnl d3 c7 f7 hs1
  go_loopw [6] (fun v wr => ∃ V y' n D left cnt, FenAt w wr y s1 c r V y' n D left cnt) (fun _ wr => wr.rangeLeft y.mb r)
  case atStart => exact ⟨_, _, _, _, _, _, HST.out⟩
  case round =>
    obtain ⟨V, y', n, D', left, cnt, hF⟩ := hrel
    have hF' := hF
    obtain ⟨hrg, hmem, hturn, hrge, hmb, hleft⟩ := hF
    have HFM := Lib.hid hmem
    have HFT := Lib.hid hturn
    have HFL := Lib.hid hleft
    have HF := Lib.hid hF'
    have HRG := Lib.hid hrg
    clear hmem hturn hleft hF' HST
    go_wp2_with (at_next; refine wpList_next_ranges wr rfl (.tmp 28) rfl 3 keyed mkR (fun x : Int => Value.int .i64 x) mkV (fun key kl hkey => by obtain ⟨x, rfl, _⟩ := Maps.keyOf_int_inv Try.underlying3 hkey; exact ⟨x, rfl⟩) (fun v y hv => by obtain ⟨f, rfl, _⟩ := mkR_inv hv; exact ⟨f, rfl⟩) y.mb r n D' left cnt rfl hrg ?_ ?_)
    · intro hc0 hl0
      clear hrg
      go_wp2_with fail
      go_ret
      have hv : ∀ j, j < s1.nl → V j = false → s1.mm j c = 0 := by
        intro j hj hv
        have h1 : ¬ someMk (s1.mm j) := fun hx => by
          have := (HFL.out j hj).2 ⟨hv, hx⟩
          rw [hl0] at this
          cases this
        exact not_some h1 c (by omega)
      have hlen := HM0.out.plen
      have hll := ownsRow_len HM0.out.las
      refine ⟨rfl, y', ?_, HFT.out⟩
      rw [← fenV_all HOK.out hlen hll hv]
      exact HFM.out
    · intro x f kl a ps w1 cnt1 hkey hl hv hat hrg1 hlt hg1 hsz hen
      clear hsz
      obtain ⟨j, hj, rfl, rfl, hVj, hfm⟩ := fen_next HF.out hkey hl hv hat
      rw [hfm, mkV_marr] at hen ⊢
      obtain ⟨B, hB⟩ : ∃ B, B = marr (s1.mm j) := ⟨_, rfl⟩
      rw [← hB] at hen ⊢
      have hfit : (Try.prog.info? 103).map (·.size) = some B.size := by rw [hB]; exact marr_fit _
      have hold : (Array.replicate 65 (Value.int .i64 0)).size = B.size := by rw [hB, marr_size]; rfl
      have hone : B.all (·.oneCell') = true := by rw [hB]; exact marr_one _
      have hr3 := Row.new w1 103 (Array.replicate 65 (Value.int .i64 0))
      have hrr : Row ((w1.alloc (.cells Try.zeroCells103 103)).setRow w1.heap.size B) w1.heap.size 103 B := (Row.new w1 103 Try.zeroCells103).setRow B
      have hcB := hrr.cell c
      rw [hB, marr_get _ _ (by omega), ← hB] at hcB
      have hb2 : Below w1.heap.size w1 ((w1.alloc (.cells Try.zeroCells103 103)).setRow w1.heap.size B) := below_setRow (alloc_below _ _) (Nat.le_refl _) _
      have hm1 : MemAt w1 y' (s1.fenV c V) := HFM.out.same fun k hk => hg1.block k (HFM.out.lt k hk) (fun e => by
        obtain ⟨a', seen', q', hit'⟩ := ranges_iter HRG.out
        exact iter_not HFM.out hit' (by rw [← Option.some.inj e]; exact hk))
      have HLast := Lib.hid (last_ok (hm1.below hb2) (fenV_ok HOK.out c V) j (s1.mm j c) hj (by
        have h1 := (fenV_ok HOK.out c V).mks j c
        rwa [fen_left hVj] at h1))
      rw [HFT.out.g] at HLast
      have HB2 := Lib.hid hb2
      have HR1 := Lib.hid hrg1
      have HG1 := Lib.hid hg1
      clear hrr hb2 hm1 hrg1 hg1 hkey hl hv hat hfm hB hrg
      go_wp2_with (refine wpList_store_row rfl 103 (.tmp 7) (.tmp 33) rfl w1.heap.size B rfl rfl 103 _ hr3 hfit hold hone ?_)
      refine HLast.out.mono ?_
      rintro e w3 ⟨rfl, y3, hm3, ht3, hmb3, hst3⟩
      obtain ⟨n3, D3, left3, cnt3, hF3, hlt3⟩ := fen_round HOK.out HF.out hj hVj HR1.out hlt HG1.out HB2.out hm3 ht3 hmb3.2.2.2.1 hst3
      have HF3 := Lib.hid hF3
      clear hF3 hm3 ht3 hst3
      go_wp2
      go_roundw
      case rel => exact ⟨_, _, _, _, _, _, HF3.out⟩
      case measure => rw [HF3.out.rg.left_eq, HRG.out.left_eq]; exact hlt3
end Go.Proofs.Yteojhhfcfdkmdaa
/- lose: a line is what has lasted of it, with nothing pending, or marked; for lines that there are. -/
namespace Go.Proofs.Yteojhhfcfdkmdaa
open Go.RowKit
set_option linter.unusedVariables false
attribute [local go_sem ↓] Go.wp_at_zero Go.wp_at_succ

theorem size22 : (Try.prog.info? 22).map (·.size) = some 1 := by kernel_rfl
/-- copy into a row that is known whole, at a step of a region that draws its order. -/
theorem step_copy_set {ops : Array Oper} {o : Oper} {a : Act} {w : World} {K : Act → World → Prop} {Q : Exit → Act → World → Prop} {E : Prop} (hgd : o.guard = none) (d s : Operand) (dT sT : TypeId)
    (ho : o.op = .call { callee := .builtin .copy, args := #[d, s], argTypes := #[dT, sT] }) (elem : TypeId) (hu : Try.prog.underlying dT = some (.slice elem)) (hsz : (Try.prog.info? elem).map (·.size) = some 1)
    (ad : Addr) (dLen dCap sLen sCap : Nat) (g off : Nat) (hd : a.eval d = .slice (some ⟨g, off, none⟩) dLen dCap) (hs : a.eval s = .slice (some ad) sLen sCap)
    (cur : List Value) (t : TypeId) (hg : w.heap[g]? = some (.cells cur.toArray t (0, 0))) (cs : List Value) (hn : cs.length = Nat.min sLen dLen) (h0 : 0 < cs.length)
    (hsrc : ∀ j v, cs[j]? = some v → w.cell? (ad.add j) = some v) (hfit : off + cs.length ≤ cur.length) (h1 : ∀ v ∈ cs, v.oneCell' = true)
    (h : ∀ w', w'.heap[g]? = some (.cells (splice cur off cs).toArray t (0, 0)) → But w w' (fun k => k = g) → K (a.put o.dst (goInt cs.length)) w') :
    if Region.wanted o (yielded ops a.tmps) = true then Oper.wp Try.prog o a w K Q else E := by
  have hw : Region.wanted o (yielded ops a.tmps) = true := by simp [Region.wanted, hgd]
  rw [if_pos hw]
  have hrun := run_copy_row (P := Try.prog) w dT sT o.type elem g off dLen dCap ad sLen sCap cur.toArray t cs hu hsz hg hn hsrc (by simpa using hfit) h1
  unfold Oper.wp
  simp [execOp, ho, resolve, invoke, builtin, hd, hs, hrun, Result.andThen]
  exact h _ (show _ = _ by simpa [splice] using setRow_heap w g _ _ t _ hg) ⟨rfl, rfl, rfl, by simp, fun k hk hn => setRow_other w g k _ hn⟩

/-- The state behind it. -/
def loseV (las vie : List Nat) (i : Nat) : List Nat := vie.mapIdx fun k x => if k / 8 = i then las.getD k 0 else x
def St.lose (s : St) (i : Nat) : St := { s with view := loseV s.lasted s.view i, pend := s.pend.set i [], mm := upd s.mm i fun _ => 0 }
theorem loseV_splice {las vie : List Nat} {nl i : Nat} (h1 : las.length = 8 * nl) (h2 : vie.length = 8 * nl) (hi : i < nl) : loseV las vie i = splice vie (8 * i) ((las.drop (8 * i)).take 8) := by
  have hL : ((las.drop (8 * i)).take 8).length = 8 := by rw [List.length_take, List.length_drop]; omega
  apply List.ext_getElem?
  intro k
  unfold loseV splice
  rw [List.getElem?_mapIdx]
  by_cases a1 : k < 8 * i
  · rw [List.getElem?_append_left (by rw [List.length_take]; omega), List.getElem?_take_of_lt a1, List.getElem?_eq_getElem (by omega)]
    simp only [Option.map_some]
    rw [if_neg (by omega)]
  · have e1 : (vie.take (8 * i)).length = 8 * i := by rw [List.length_take]; omega
    rw [List.getElem?_append_right (by omega), e1]
    by_cases a2 : k < 8 * i + 8
    · rw [List.getElem?_append_left (by omega), List.getElem?_take_of_lt (by omega), List.getElem?_drop, show 8 * i + (k - 8 * i) = k from by omega, List.getElem?_eq_getElem (show k < vie.length by omega), List.getElem?_eq_getElem (show k < las.length by omega)]
      simp only [Option.map_some]
      rw [if_pos (by omega), getD_at (by omega)]
    · rw [List.getElem?_append_right (by omega), hL, List.getElem?_drop, show 8 * i + 8 + (k - 8 * i - 8) = k from by omega]
      by_cases a3 : k < vie.length
      · rw [List.getElem?_eq_getElem a3]
        simp only [Option.map_some]
        rw [if_neg (by omega)]
      · rw [List.getElem?_eq_none (by omega)]
        rfl
theorem splice_take {α : Type} {cur : List α} {n off : Nat} {xs cs : List α} (h : cur.take n = xs) (hf : off + cs.length ≤ n) (hn : n ≤ cur.length) : (splice cur off cs).take n = splice xs off cs := by
  subst h
  unfold splice
  rw [List.take_append, List.take_append, List.take_take, List.length_take, Nat.min_eq_left (show off ≤ cur.length by omega), Nat.min_eq_right (show off ≤ n by omega), List.take_take, Nat.min_eq_left (show off ≤ n by omega), List.take_of_length_le (show cs.length ≤ n - off by omega), List.drop_take]
  congr 3
  omega
theorem splice_map {α β : Type} (f : α → β) (l cs : List α) (off : Nat) : (splice l off cs).map f = splice (l.map f) off (cs.map f) := by simp [splice, List.map_take, List.map_drop]
end Go.Proofs.Yteojhhfcfdkmdaa
