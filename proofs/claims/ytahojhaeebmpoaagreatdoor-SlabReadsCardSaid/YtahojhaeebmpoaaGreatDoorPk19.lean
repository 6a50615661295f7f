/- Texts of this claim, packed: PLast. -/
import Derived.Test.YtahojhaeebmpoaaGreatDoorPk18
import Derived.Deep.QuietTactic
import Derived.BigQuiet
/- last: the elder pending stores of a line last; for lines that there are, and at most as many as are pending. -/
namespace Go.Proofs.YtahojhaeebmpoaaGreatDoor
open Go.RowKit
set_option linter.unusedVariables false
attribute [local go_sem ↓] Go.wp_at_zero Go.wp_at_succ

/-- Stores that have lasted, one behind the other; the state behind that. -/
def lastW (las : List Nat) (ps : List (Nat × Nat)) : List Nat := ps.foldl (fun l p => l.set (p.1 / 8) p.2) las
theorem lastW_length (las : List Nat) (ps : List (Nat × Nat)) : (lastW las ps).length = las.length := by
  unfold lastW
  induction ps generalizing las with
  | nil => rfl
  | cons p t ih => rw [List.foldl_cons, ih, List.length_set]
theorem lastW_snoc (las : List Nat) (ps : List (Nat × Nat)) (p : Nat × Nat) : lastW las (ps ++ [p]) = (lastW las ps).set (p.1 / 8) p.2 := by simp [lastW]
def St.last (s : St) (i n : Nat) : St := { s with lasted := lastW s.lasted ((s.pend.getD i []).take n), pend := s.pend.set i ((s.pend.getD i []).drop n), mm := umk s.mm i n }
def LastPost (w : World) (y : Lay) (s' : St) (i : Nat) (e : Ending) (w' : World) : Prop := e = .returned (.tuple #[]) ∧ ∃ y', MemAt w' y' s' ∧ Turn w w' y y' ∧ y.Near y' i ∧ MapStep w w' y.mb

theorem last_zero {w : World} {y : Lay} {s : St} (h : MemAt w y s) (i : Nat) (hi : i < s.nl) : MemAt w y (s.last i 0) := by
  have e1 : (s.last i 0).pend = s.pend := by
    show s.pend.set i _ = _
    rw [List.drop_zero, List.getD_eq_getElem?_getD, List.getElem?_eq_getElem (by have := h.plen; omega), Option.getD_some]
    exact List.set_getElem_self _
  refine mem_marks h rfl (by show lastW s.lasted (List.take 0 (s.pend.getD i [])) = _; rw [List.take_zero]; rfl) rfl e1 h.row (fun _ _ _ _ => rfl) (marks_of h.marks ?_)
  intro j hj c hc
  show _ = umk s.mm i 0 j c
  by_cases e : j = i
  · rw [e, umk_at]; omega
  · rw [umk_far e]
theorem last_none {w : World} {y : Lay} {s : St} (h : MemAt w y s) (i : Nat) (hi : i < s.nl) :
    Calls Tryz.prog 62 #[.pointer (some ⟨y.g, 0, none⟩), .int .i64 (i : Int), .int .i64 0] w (LastPost w y (s.last i 0) i) := by
  have H := Lib.hid (last_zero h i hi)
  obtain ⟨g, hg⟩ : ∃ g, g = y.g := ⟨_, rfl⟩
  rw [← hg]
  clear h hg
  go_enter Tryz.func62, Tryz.ntmps62
  go_wp2_with fail
  refine bodyPost_ret (results_none rfl _ _ _) rfl ?_
  exact ⟨rfl, y, H.out, Turn.refl _ _, near_refl _ _, MapStep.same rfl⟩
theorem Tail.drop {w : World} {h off cap L n : Nat} {l : List (Nat × Nat)} (ht : Tail w (.slice (some ⟨h, off, none⟩) L cap) l) (hn : n < l.length) : Tail w (.slice (some ⟨h, off + n * 2, none⟩) (l.length - n) (cap - n)) (l.drop n) := by
  rcases ht with ⟨h0, _⟩ | ⟨h', off', cap', cur, h0, hr, hp, hlc, hcm, hfit, htk⟩
  · cases h0
  · simp only [Value.slice.injEq, Option.some.injEq, Addr.mk.injEq, and_true] at h0
    obtain ⟨⟨rfl, rfl⟩, rfl, rfl⟩ := h0
    refine .inr ⟨h, off + n * 2, cap - n, cur, by rw [List.length_drop], hr, by rw [List.length_drop]; omega, by rw [List.length_drop]; omega, by omega, by omega, ?_⟩
    rw [← flat_drop, ← htk, List.drop_take, List.drop_drop, List.length_drop]
    congr 1
    · omega
    · congr 1
      omega
theorem last_fin {w wr W' w' : World} {y : Lay} {s : St} {i n : Nat} {l : List (Nat × Nat)} {R : Value} (hl : s.pend[i]? = some l) (t1 : Turn w wr y y) (t2 : Turn wr W' y (y.tail i R))
    (hm : MemAt w' (y.tail i R) { s with lasted := lastW s.lasted (l.take n), pend := s.pend.set i (l.drop n), mm := umk s.mm i n }) (hb : But W' w' (fun k => k = (y.tail i R).mb)) (he : W'.heap[y.mb]? = w.heap[y.mb]?) (hst : MapStep W' w' (y.tail i R).mb) : LastPost w y (s.last i n) i (.returned (.tuple #[])) w' := by
  have e : s.last i n = { s with lasted := lastW s.lasted (l.take n), pend := s.pend.set i (l.drop n), mm := umk s.mm i n } := by
    unfold St.last
    rw [List.getD_eq_getElem?_getD, hl]
    rfl
  rw [e]
  exact ⟨rfl, y.tail i R, hm, (t1.trans t2).trans ⟨rfl, hb.mono (fun k e => .inr (.inr (.inr (.inr (.inl e))))), fun _ h => .inl h⟩, near_tail _ _ _, (MapStep.same he).trans hst⟩
set_option maxRecDepth 100000 in
set_option maxHeartbeats 3200000 in
theorem last_some {w : World} {y : Lay} {s : St} (h : MemAt w y s) (ok : s.Ok) (i n : Nat) (l : List (Nat × Nat)) (hi : i < s.nl) (hl : s.pend[i]? = some l) (hn0 : 0 < n) (hn : n ≤ l.length) :
    Calls Tryz.prog 62 #[.pointer (some ⟨y.g, 0, none⟩), .int .i64 (i : Int), .int .i64 (n : Int)] w (LastPost w y (s.last i n) i) := by
  have hmost := h.most
  have hll := ok.few l (List.mem_of_getElem? hl)
  have c0 := h.row.cell 0
  have c2 := h.row.cell 2
  simp only [List.getElem?_toArray, List.getElem?_cons_succ, List.getElem?_cons_zero] at c0 c2
  obtain ⟨V, l', hV, hl', ht⟩ := ps_get h hi
  rw [hl] at hl'
  cases hl'
  have ht' := ht
  rcases ht with ⟨_, rfl⟩ | ⟨hb, off, cap, cur, rfl, hr, hp0, hlc, hcm, hfit, htk⟩
  · simp at hn
    omega
  have hd := h.differ
  have cpp : w.cell? ⟨y.gp, i, none⟩ = some (.slice (some ⟨hb, off, none⟩) l.length cap) := by rw [h.pen.cellAt i (by omega), hV]
  have hcells : ∀ k (hk : k < l.length), w.cell? ⟨hb, off + k * 2, none⟩ = some (wv l[k].1) ∧ w.cell? ⟨hb, off + k * 2 + 1, none⟩ = some (wv l[k].2) := by
    intro k hk
    obtain ⟨g1, g2⟩ := flat_get l k hk
    rw [← htk, List.getElem?_take, List.getElem?_drop] at g1 g2
    rw [if_pos (by omega)] at g1 g2
    rw [hr.cell, hr.cell]
    refine ⟨?_, ?_⟩
    · rw [show off + k * 2 = off + 2 * k from by omega]; simpa using g1
    · rw [show off + k * 2 + 1 = off + (2 * k + 1) from by omega]; simpa using g2
  obtain ⟨L, hL⟩ : ∃ L, L = l.length := ⟨_, rfl⟩
  rw [← hL] at cpp hlc hn hll hp0
  have hcm' : cap ≤ 9223372036854775807 := by unfold maxLen at hcm; omega
  have HM := Lib.hid h
  have HO := Lib.hid ok
  have HD := Lib.hid hd
  have HV := Lib.hid hV
  have HLL := Lib.hid hl
  have HT := Lib.hid ht'
  have HC := Lib.hid hcells
  have HL := Lib.hid hL
  have hn00 : ((n : Int) == 0) = false := by rw [Bool.eq_false_iff]; intro hh; have := beq_iff_eq.1 hh; omega
  have i0 : (0 : Int) ≤ (i : Int) := by omega
  have i1 : (i : Int) < (s.nl : Int) := by omega
  have b0 : (0 : Int) ≤ (n : Int) := by omega
  have b1 : (n : Int) ≤ (L : Int) := by omega
  have b2 : (n : Int) ≤ (cap : Int) := by omega
  have b3 : (L : Int) ≤ (cap : Int) := by omega
  clear h ok hd hV hl ht' hcells hL htk hfit hr
  obtain ⟨N, hN⟩ : ∃ N, N = 8 * s.nl := ⟨_, rfl⟩
  rw [← hN] at c0
  have HN := Lib.hid hN
  have HC0 := Lib.hid c0
  have hNb : N ≤ 131072 := by omega
  clear hN c0
  have hcase : (cap = n ∧ L = n) ∨ (n < cap ∧ L = n) ∨ n < L := by omega
  have hL0 : L < 9223372036854775808 := by omega
  rcases hcase with ⟨hcap, hLn⟩ | ⟨hcap, hLn⟩ | hLn
  · have hcap := hcap.symm
    subst hcap
    have hrest : L - n = 0 ∧ l.drop n = [] := ⟨by omega, List.drop_of_length_le (by rw [← HL.out]; omega)⟩
    have HR := Lib.hid hrest
    have e0 : ((L : Int) - (n : Int) == 0) = true := by rw [beq_iff_eq]; omega
    have HLn := Lib.hid hLn
    clear hLn hrest
    go_enter Tryz.func62, Tryz.ntmps62
    go_wp2_with fail
    go_quiet (fail)
    go_wp2_with fail
    go_loopw [29] (fun v wr => ∃ k : Nat, k ≤ n ∧ v = .int .i64 k ∧ wr.ownsRow 0 23 1 (.slice (some ⟨y.gl, 0, none⟩) (8 * s.nl) y.cl) (8 * s.nl) ((lastW s.lasted (l.take k)).map wv) ∧ But w wr (fun k => k = y.gl)) (fun v _ => n - (intOf v).toNat)
    case atStart => exact ⟨0, by omega, rfl, by rw [List.take_zero]; exact own_keep HM.out.las (drewN_below _ _), But.of_below (drewN_below _ _) _⟩
    case round =>
      obtain ⟨k, hk, rfl, hown, hbut⟩ := hrel
      by_cases hlt : k < n
      · have hkl : k < l.length := by rw [← HL.out]; omega
        obtain ⟨q1, q2⟩ := HC.out k hkl
        have hne : hb ≠ y.gl := (HD.out.tail i _ hb HV.out rfl).2.1
        have q1' : wr.cell? ⟨hb, off + k * 2, none⟩ = some (wv l[k].1) := hbut.cell q1 hne
        have q2' : wr.cell? ⟨hb, off + k * 2 + 1, none⟩ = some (wv l[k].2) := hbut.cell q2 hne
        obtain ⟨p8, p64, pw⟩ := HO.out.put i l HLL.out l[k] (List.getElem_mem hkl)
        have hsn : lastW s.lasted (l.take (k + 1)) = (lastW s.lasted (l.take k)).set (l[k].1 / 8) l[k].2 := by rw [List.take_succ_eq_append_getElem hkl, lastW_snoc]
        obtain ⟨a, ha⟩ : ∃ a, a = l[k].1 := ⟨_, rfl⟩
        obtain ⟨v, hv⟩ : ∃ v, v = l[k].2 := ⟨_, rfl⟩
        rw [← ha] at q1' p8 p64 hsn
        rw [← hv] at q2' pw hsn
        unfold wv at q1' q2'
        have HS := Lib.hid hsn
        clear q1 q2 ha hv hsn
        have haN : a / 8 < N := by have := HN.out; omega
        have c0 : wr.cell? ⟨y.g, 0, none⟩ = some (.slice (some ⟨y.gl, 0, none⟩) N y.cl) := hbut.cell HC0.out HD.out.g_gl
        have hgl := own_lt hown
        have hgg : y.g < wr.heap.size := block_lt_of_cell c0
        obtain ⟨u, hu⟩ : ∃ u, wr.cell? ⟨y.gl, a / 8, none⟩ = some u := by
          rw [hown.cellAt (a / 8) (by have := HN.out; omega)]
          have : a / 8 < ((lastW s.lasted (l.take k)).map wv).length := by have := hown.1; have := HN.out; omega
          exact ⟨_, List.getElem?_eq_getElem this⟩
        obtain ⟨ccl, hcl⟩ := own_at hown
        have hfl := hcl.free (a / 8)
        have x1 : (wr.alloc (.cells #[.int .u64 (a : Int), .int .u64 (v : Int)] 123)).cell? ⟨y.g, 0, none⟩ = some (.slice (some ⟨y.gl, 0, none⟩) N y.cl) := (World.cell?_alloc_lt _ _ _ hgg).trans c0
        have x2 : (wr.alloc (.cells #[.int .u64 (a : Int), .int .u64 (v : Int)] 123)).cell? ⟨wr.heap.size, 0, none⟩ = some (.int .u64 (a : Int)) := (Row.new wr 123 #[.int .u64 (a : Int), .int .u64 (v : Int)]).cell 0
        have x3 : (wr.alloc (.cells #[.int .u64 (a : Int), .int .u64 (v : Int)] 123)).cell? ⟨wr.heap.size, 1, none⟩ = some (.int .u64 (v : Int)) := (Row.new wr 123 #[.int .u64 (a : Int), .int .u64 (v : Int)]).cell 1
        have x4 : (wr.alloc (.cells #[.int .u64 (a : Int), .int .u64 (v : Int)] 123)).cell? ⟨y.gl, a / 8, none⟩ = some u := (World.cell?_alloc_lt _ _ _ hgl).trans hu
        have x5 : (wr.alloc (.cells #[.int .u64 (a : Int), .int .u64 (v : Int)] 123)).frozen? ⟨y.gl, a / 8, none⟩ = false := (frozen_alloc hgl _).trans hfl
        have hab : a < 1048576 := by omega
        have hx0 : (0 : Int) ≤ (a : Int) / 8 := by omega
        have hx1 : (a : Int) / 8 < (N : Int) := by omega
        have k0 : (0 : Int) ≤ (k : Int) := by omega
        have k1 : (k : Int) < (n : Int) := by omega
        have hx2 : ((a : Int) / 8).toNat = a / 8 := by omega
        have hx3 : IntKind.u64.wrap ((a : Int) / 8) = (a : Int) / 8 := by rw [IntKind.wrap_u64]; omega
        have HOWN := Lib.hid hown
        have HBUT := Lib.hid hbut
        clear hown hbut hcl hfl hu c0
        have z1 : ((wr.setCell ⟨y.gl, a / 8, none⟩ (.int .u64 (v : Int))).alloc (.cells #[.int .u64 (a : Int), .int .u64 (v : Int)] 123)).cell? ⟨y.g, 0, none⟩ = some (.slice (some ⟨y.gl, 0, none⟩) N y.cl) := by
          rw [World.cell?_alloc_lt _ _ _ (by rw [size_set]; exact hgg), cell_far (Ne.symm HD.out.g_gl)]
          exact (World.cell?_alloc_lt _ _ _ hgg).symm.trans x1
        have zr : Row ((wr.setCell ⟨y.gl, a / 8, none⟩ (.int .u64 (v : Int))).alloc (.cells #[.int .u64 (a : Int), .int .u64 (v : Int)] 123)) wr.heap.size 123 #[.int .u64 (a : Int), .int .u64 (v : Int)] := row_at (by rw [size_set])
        have z2 := zr.cell 0
        have z3 := zr.cell 1
        simp only [List.getElem?_toArray, List.getElem?_cons_succ, List.getElem?_cons_zero] at z2 z3
        clear zr
        go_wp2_with fail
        go_region_held3 (fun w' => w'.cell? ⟨y.g, 0, none⟩ = some (.slice (some ⟨y.gl, 0, none⟩) N y.cl) ∧ w'.cell? ⟨wr.heap.size, 0, none⟩ = some (.int .u64 (a : Int)) ∧ w'.cell? ⟨wr.heap.size, 1, none⟩ = some (.int .u64 (v : Int)))
          (first | exact ⟨x1, x2, x3⟩ | exact ⟨z1, z2, z3⟩) (fail)
        go_wp2
        go_roundw
        case rel =>
          refine ⟨k + 1, by omega, by go_num, ?_, ((HBUT.out.set (p := ⟨y.gl, a / 8, none⟩) rfl _).alloc _).drew⟩
          have h1 := own_stored HOWN.out (a / 8) (wv v)
          rw [set_map, ← HS.out] at h1
          exact h1.alloc _
        case measure => simp [intOf]; omega
      · have hkn : k = n := by omega
        rw [hkn] at hown ⊢
        clear hkn hk hlt
        have e2 : wr.cell? ⟨y.g, 2, none⟩ = some (.slice (some ⟨y.gp, 0, none⟩) s.nl y.cp) := hbut.cell c2 HD.out.g_gl
        have ep : wr.cell? ⟨y.gp, i, none⟩ = some (.slice (some ⟨hb, off, none⟩) L n) := hbut.cell cpp (Ne.symm HD.out.gl_gp)
        obtain ⟨m1, t1⟩ := mem_las HM.out hown hbut
        obtain ⟨cpr, hpr⟩ := own_at m1.pen
        have fp : wr.frozen? ⟨y.gp, i, none⟩ = false := hpr.free i
        have HX := Lib.hid fun (R : Value) (h1 : R.ownBlock = none ∨ R.ownBlock = some hb) (h2 : Tail wr R (l.drop n)) => mem_tail m1 hi HV.out h1 h2
        have HT1 := Lib.hid t1
        have HEM := Lib.hid fun R => (heap_setCell_other wr ⟨y.gp, i, none⟩ y.mb R (Ne.symm HD.out.gp_mb)).trans (hbut.block _ HM.out.marks.lt (Ne.symm HD.out.gl_mb))
        have HTl := Lib.hid (m1.tails i hi _ _ HV.out HLL.out)
        clear m1 t1 hpr hown hbut c2 cpp
        go_wp2_with fail
        refine (unmark_ok (HX.out _ (.inl rfl) (.inl ⟨rfl, HR.out.2⟩)).1 i n hi ?_ ?_).mono ?_
        · omega
        · intro j c
          exact HO.out.mk_le j c
        · rintro e w' ⟨rfl, hm', hb', hst'⟩
          have t2 := (HX.out _ (.inl rfl) (.inl ⟨rfl, HR.out.2⟩)).2
          clear e0
          go_wp2
          go_end0
          exact last_fin HLL.out HT1.out t2 hm' hb' (HEM.out _) hst'
  · have hrest : L - n = 0 ∧ l.drop n = [] := ⟨by omega, List.drop_of_length_le (by rw [← HL.out]; omega)⟩
    have HR := Lib.hid hrest
    have e0 : ((L : Int) - (n : Int) == 0) = true := by rw [beq_iff_eq]; omega
    have HLn := Lib.hid hLn
    clear hLn hrest
    go_enter Tryz.func62, Tryz.ntmps62
    go_wp2_with fail
    go_quiet (fail)
    go_wp2_with fail
    go_loopw [29] (fun v wr => ∃ k : Nat, k ≤ n ∧ v = .int .i64 k ∧ wr.ownsRow 0 23 1 (.slice (some ⟨y.gl, 0, none⟩) (8 * s.nl) y.cl) (8 * s.nl) ((lastW s.lasted (l.take k)).map wv) ∧ But w wr (fun k => k = y.gl)) (fun v _ => n - (intOf v).toNat)
    case atStart => exact ⟨0, by omega, rfl, by rw [List.take_zero]; exact own_keep HM.out.las (drewN_below _ _), But.of_below (drewN_below _ _) _⟩
    case round =>
      obtain ⟨k, hk, rfl, hown, hbut⟩ := hrel
      by_cases hlt : k < n
      · have hkl : k < l.length := by rw [← HL.out]; omega
        obtain ⟨q1, q2⟩ := HC.out k hkl
        have hne : hb ≠ y.gl := (HD.out.tail i _ hb HV.out rfl).2.1
        have q1' : wr.cell? ⟨hb, off + k * 2, none⟩ = some (wv l[k].1) := hbut.cell q1 hne
        have q2' : wr.cell? ⟨hb, off + k * 2 + 1, none⟩ = some (wv l[k].2) := hbut.cell q2 hne
        obtain ⟨p8, p64, pw⟩ := HO.out.put i l HLL.out l[k] (List.getElem_mem hkl)
        have hsn : lastW s.lasted (l.take (k + 1)) = (lastW s.lasted (l.take k)).set (l[k].1 / 8) l[k].2 := by rw [List.take_succ_eq_append_getElem hkl, lastW_snoc]
        obtain ⟨a, ha⟩ : ∃ a, a = l[k].1 := ⟨_, rfl⟩
        obtain ⟨v, hv⟩ : ∃ v, v = l[k].2 := ⟨_, rfl⟩
        rw [← ha] at q1' p8 p64 hsn
        rw [← hv] at q2' pw hsn
        unfold wv at q1' q2'
        have HS := Lib.hid hsn
        clear q1 q2 ha hv hsn
        have haN : a / 8 < N := by have := HN.out; omega
        have c0 : wr.cell? ⟨y.g, 0, none⟩ = some (.slice (some ⟨y.gl, 0, none⟩) N y.cl) := hbut.cell HC0.out HD.out.g_gl
        have hgl := own_lt hown
        have hgg : y.g < wr.heap.size := block_lt_of_cell c0
        obtain ⟨u, hu⟩ : ∃ u, wr.cell? ⟨y.gl, a / 8, none⟩ = some u := by
          rw [hown.cellAt (a / 8) (by have := HN.out; omega)]
          have : a / 8 < ((lastW s.lasted (l.take k)).map wv).length := by have := hown.1; have := HN.out; omega
          exact ⟨_, List.getElem?_eq_getElem this⟩
        obtain ⟨ccl, hcl⟩ := own_at hown
        have hfl := hcl.free (a / 8)
        have x1 : (wr.alloc (.cells #[.int .u64 (a : Int), .int .u64 (v : Int)] 123)).cell? ⟨y.g, 0, none⟩ = some (.slice (some ⟨y.gl, 0, none⟩) N y.cl) := (World.cell?_alloc_lt _ _ _ hgg).trans c0
        have x2 : (wr.alloc (.cells #[.int .u64 (a : Int), .int .u64 (v : Int)] 123)).cell? ⟨wr.heap.size, 0, none⟩ = some (.int .u64 (a : Int)) := (Row.new wr 123 #[.int .u64 (a : Int), .int .u64 (v : Int)]).cell 0
        have x3 : (wr.alloc (.cells #[.int .u64 (a : Int), .int .u64 (v : Int)] 123)).cell? ⟨wr.heap.size, 1, none⟩ = some (.int .u64 (v : Int)) := (Row.new wr 123 #[.int .u64 (a : Int), .int .u64 (v : Int)]).cell 1
        have x4 : (wr.alloc (.cells #[.int .u64 (a : Int), .int .u64 (v : Int)] 123)).cell? ⟨y.gl, a / 8, none⟩ = some u := (World.cell?_alloc_lt _ _ _ hgl).trans hu
        have x5 : (wr.alloc (.cells #[.int .u64 (a : Int), .int .u64 (v : Int)] 123)).frozen? ⟨y.gl, a / 8, none⟩ = false := (frozen_alloc hgl _).trans hfl
        have hab : a < 1048576 := by omega
        have hx0 : (0 : Int) ≤ (a : Int) / 8 := by omega
        have hx1 : (a : Int) / 8 < (N : Int) := by omega
        have k0 : (0 : Int) ≤ (k : Int) := by omega
        have k1 : (k : Int) < (n : Int) := by omega
        have hx2 : ((a : Int) / 8).toNat = a / 8 := by omega
        have hx3 : IntKind.u64.wrap ((a : Int) / 8) = (a : Int) / 8 := by rw [IntKind.wrap_u64]; omega
        have HOWN := Lib.hid hown
        have HBUT := Lib.hid hbut
        clear hown hbut hcl hfl hu c0
        have z1 : ((wr.setCell ⟨y.gl, a / 8, none⟩ (.int .u64 (v : Int))).alloc (.cells #[.int .u64 (a : Int), .int .u64 (v : Int)] 123)).cell? ⟨y.g, 0, none⟩ = some (.slice (some ⟨y.gl, 0, none⟩) N y.cl) := by
          rw [World.cell?_alloc_lt _ _ _ (by rw [size_set]; exact hgg), cell_far (Ne.symm HD.out.g_gl)]
          exact (World.cell?_alloc_lt _ _ _ hgg).symm.trans x1
        have zr : Row ((wr.setCell ⟨y.gl, a / 8, none⟩ (.int .u64 (v : Int))).alloc (.cells #[.int .u64 (a : Int), .int .u64 (v : Int)] 123)) wr.heap.size 123 #[.int .u64 (a : Int), .int .u64 (v : Int)] := row_at (by rw [size_set])
        have z2 := zr.cell 0
        have z3 := zr.cell 1
        simp only [List.getElem?_toArray, List.getElem?_cons_succ, List.getElem?_cons_zero] at z2 z3
        clear zr
        go_wp2_with fail
        go_region_held3 (fun w' => w'.cell? ⟨y.g, 0, none⟩ = some (.slice (some ⟨y.gl, 0, none⟩) N y.cl) ∧ w'.cell? ⟨wr.heap.size, 0, none⟩ = some (.int .u64 (a : Int)) ∧ w'.cell? ⟨wr.heap.size, 1, none⟩ = some (.int .u64 (v : Int)))
          (first | exact ⟨x1, x2, x3⟩ | exact ⟨z1, z2, z3⟩) (fail)
        go_wp2
        go_roundw
        case rel =>
          refine ⟨k + 1, by omega, by go_num, ?_, ((HBUT.out.set (p := ⟨y.gl, a / 8, none⟩) rfl _).alloc _).drew⟩
          have h1 := own_stored HOWN.out (a / 8) (wv v)
          rw [set_map, ← HS.out] at h1
          exact h1.alloc _
        case measure => simp [intOf]; omega
      · have hkn : k = n := by omega
        rw [hkn] at hown ⊢
        clear hkn hk hlt
        have e2 : wr.cell? ⟨y.g, 2, none⟩ = some (.slice (some ⟨y.gp, 0, none⟩) s.nl y.cp) := hbut.cell c2 HD.out.g_gl
        have ep : wr.cell? ⟨y.gp, i, none⟩ = some (.slice (some ⟨hb, off, none⟩) L cap) := hbut.cell cpp (Ne.symm HD.out.gl_gp)
        obtain ⟨m1, t1⟩ := mem_las HM.out hown hbut
        obtain ⟨cpr, hpr⟩ := own_at m1.pen
        have fp : wr.frozen? ⟨y.gp, i, none⟩ = false := hpr.free i
        have HX := Lib.hid fun (R : Value) (h1 : R.ownBlock = none ∨ R.ownBlock = some hb) (h2 : Tail wr R (l.drop n)) => mem_tail m1 hi HV.out h1 h2
        have HT1 := Lib.hid t1
        have HEM := Lib.hid fun R => (heap_setCell_other wr ⟨y.gp, i, none⟩ y.mb R (Ne.symm HD.out.gp_mb)).trans (hbut.block _ HM.out.marks.lt (Ne.symm HD.out.gl_mb))
        have HTl := Lib.hid (m1.tails i hi _ _ HV.out HLL.out)
        clear m1 t1 hpr hown hbut c2 cpp
        go_wp2_with fail
        refine (unmark_ok (HX.out _ (.inl rfl) (.inl ⟨rfl, HR.out.2⟩)).1 i n hi ?_ ?_).mono ?_
        · omega
        · intro j c
          exact HO.out.mk_le j c
        · rintro e w' ⟨rfl, hm', hb', hst'⟩
          have t2 := (HX.out _ (.inl rfl) (.inl ⟨rfl, HR.out.2⟩)).2
          clear e0
          go_wp2
          go_end0
          exact last_fin HLL.out HT1.out t2 hm' hb' (HEM.out _) hst'
  · have hcap : n < cap := by omega
    go_enter Tryz.func62, Tryz.ntmps62
    go_wp2_with fail
    go_quiet (fail)
    go_wp2_with fail
    go_loopw [29] (fun v wr => ∃ k : Nat, k ≤ n ∧ v = .int .i64 k ∧ wr.ownsRow 0 23 1 (.slice (some ⟨y.gl, 0, none⟩) (8 * s.nl) y.cl) (8 * s.nl) ((lastW s.lasted (l.take k)).map wv) ∧ But w wr (fun k => k = y.gl)) (fun v _ => n - (intOf v).toNat)
    case atStart => exact ⟨0, by omega, rfl, by rw [List.take_zero]; exact own_keep HM.out.las (drewN_below _ _), But.of_below (drewN_below _ _) _⟩
    case round =>
      obtain ⟨k, hk, rfl, hown, hbut⟩ := hrel
      by_cases hlt : k < n
      · have hkl : k < l.length := by rw [← HL.out]; omega
        obtain ⟨q1, q2⟩ := HC.out k hkl
        have hne : hb ≠ y.gl := (HD.out.tail i _ hb HV.out rfl).2.1
        have q1' : wr.cell? ⟨hb, off + k * 2, none⟩ = some (wv l[k].1) := hbut.cell q1 hne
        have q2' : wr.cell? ⟨hb, off + k * 2 + 1, none⟩ = some (wv l[k].2) := hbut.cell q2 hne
        obtain ⟨p8, p64, pw⟩ := HO.out.put i l HLL.out l[k] (List.getElem_mem hkl)
        have hsn : lastW s.lasted (l.take (k + 1)) = (lastW s.lasted (l.take k)).set (l[k].1 / 8) l[k].2 := by rw [List.take_succ_eq_append_getElem hkl, lastW_snoc]
        obtain ⟨a, ha⟩ : ∃ a, a = l[k].1 := ⟨_, rfl⟩
        obtain ⟨v, hv⟩ : ∃ v, v = l[k].2 := ⟨_, rfl⟩
        rw [← ha] at q1' p8 p64 hsn
        rw [← hv] at q2' pw hsn
        unfold wv at q1' q2'
        have HS := Lib.hid hsn
        clear q1 q2 ha hv hsn
        have haN : a / 8 < N := by have := HN.out; omega
        have c0 : wr.cell? ⟨y.g, 0, none⟩ = some (.slice (some ⟨y.gl, 0, none⟩) N y.cl) := hbut.cell HC0.out HD.out.g_gl
        have hgl := own_lt hown
        have hgg : y.g < wr.heap.size := block_lt_of_cell c0
        obtain ⟨u, hu⟩ : ∃ u, wr.cell? ⟨y.gl, a / 8, none⟩ = some u := by
          rw [hown.cellAt (a / 8) (by have := HN.out; omega)]
          have : a / 8 < ((lastW s.lasted (l.take k)).map wv).length := by have := hown.1; have := HN.out; omega
          exact ⟨_, List.getElem?_eq_getElem this⟩
        obtain ⟨ccl, hcl⟩ := own_at hown
        have hfl := hcl.free (a / 8)
        have x1 : (wr.alloc (.cells #[.int .u64 (a : Int), .int .u64 (v : Int)] 123)).cell? ⟨y.g, 0, none⟩ = some (.slice (some ⟨y.gl, 0, none⟩) N y.cl) := (World.cell?_alloc_lt _ _ _ hgg).trans c0
        have x2 : (wr.alloc (.cells #[.int .u64 (a : Int), .int .u64 (v : Int)] 123)).cell? ⟨wr.heap.size, 0, none⟩ = some (.int .u64 (a : Int)) := (Row.new wr 123 #[.int .u64 (a : Int), .int .u64 (v : Int)]).cell 0
        have x3 : (wr.alloc (.cells #[.int .u64 (a : Int), .int .u64 (v : Int)] 123)).cell? ⟨wr.heap.size, 1, none⟩ = some (.int .u64 (v : Int)) := (Row.new wr 123 #[.int .u64 (a : Int), .int .u64 (v : Int)]).cell 1
        have x4 : (wr.alloc (.cells #[.int .u64 (a : Int), .int .u64 (v : Int)] 123)).cell? ⟨y.gl, a / 8, none⟩ = some u := (World.cell?_alloc_lt _ _ _ hgl).trans hu
        have x5 : (wr.alloc (.cells #[.int .u64 (a : Int), .int .u64 (v : Int)] 123)).frozen? ⟨y.gl, a / 8, none⟩ = false := (frozen_alloc hgl _).trans hfl
        have hab : a < 1048576 := by omega
        have hx0 : (0 : Int) ≤ (a : Int) / 8 := by omega
        have hx1 : (a : Int) / 8 < (N : Int) := by omega
        have k0 : (0 : Int) ≤ (k : Int) := by omega
        have k1 : (k : Int) < (n : Int) := by omega
        have hx2 : ((a : Int) / 8).toNat = a / 8 := by omega
        have hx3 : IntKind.u64.wrap ((a : Int) / 8) = (a : Int) / 8 := by rw [IntKind.wrap_u64]; omega
        have HOWN := Lib.hid hown
        have HBUT := Lib.hid hbut
        clear hown hbut hcl hfl hu c0
        have z1 : ((wr.setCell ⟨y.gl, a / 8, none⟩ (.int .u64 (v : Int))).alloc (.cells #[.int .u64 (a : Int), .int .u64 (v : Int)] 123)).cell? ⟨y.g, 0, none⟩ = some (.slice (some ⟨y.gl, 0, none⟩) N y.cl) := by
          rw [World.cell?_alloc_lt _ _ _ (by rw [size_set]; exact hgg), cell_far (Ne.symm HD.out.g_gl)]
          exact (World.cell?_alloc_lt _ _ _ hgg).symm.trans x1
        have zr : Row ((wr.setCell ⟨y.gl, a / 8, none⟩ (.int .u64 (v : Int))).alloc (.cells #[.int .u64 (a : Int), .int .u64 (v : Int)] 123)) wr.heap.size 123 #[.int .u64 (a : Int), .int .u64 (v : Int)] := row_at (by rw [size_set])
        have z2 := zr.cell 0
        have z3 := zr.cell 1
        simp only [List.getElem?_toArray, List.getElem?_cons_succ, List.getElem?_cons_zero] at z2 z3
        clear zr
        go_wp2_with fail
        go_region_held3 (fun w' => w'.cell? ⟨y.g, 0, none⟩ = some (.slice (some ⟨y.gl, 0, none⟩) N y.cl) ∧ w'.cell? ⟨wr.heap.size, 0, none⟩ = some (.int .u64 (a : Int)) ∧ w'.cell? ⟨wr.heap.size, 1, none⟩ = some (.int .u64 (v : Int)))
          (first | exact ⟨x1, x2, x3⟩ | exact ⟨z1, z2, z3⟩) (fail)
        go_wp2
        go_roundw
        case rel =>
          refine ⟨k + 1, by omega, by go_num, ?_, ((HBUT.out.set (p := ⟨y.gl, a / 8, none⟩) rfl _).alloc _).drew⟩
          have h1 := own_stored HOWN.out (a / 8) (wv v)
          rw [set_map, ← HS.out] at h1
          exact h1.alloc _
        case measure => simp [intOf]; omega
      · have hkn : k = n := by omega
        rw [hkn] at hown ⊢
        clear hkn hk hlt
        have e2 : wr.cell? ⟨y.g, 2, none⟩ = some (.slice (some ⟨y.gp, 0, none⟩) s.nl y.cp) := hbut.cell c2 HD.out.g_gl
        have ep : wr.cell? ⟨y.gp, i, none⟩ = some (.slice (some ⟨hb, off, none⟩) L cap) := hbut.cell cpp (Ne.symm HD.out.gl_gp)
        obtain ⟨m1, t1⟩ := mem_las HM.out hown hbut
        obtain ⟨cpr, hpr⟩ := own_at m1.pen
        have fp : wr.frozen? ⟨y.gp, i, none⟩ = false := hpr.free i
        have HX := Lib.hid fun (R : Value) (h1 : R.ownBlock = none ∨ R.ownBlock = some hb) (h2 : Tail wr R (l.drop n)) => mem_tail m1 hi HV.out h1 h2
        have HT1 := Lib.hid t1
        have HEM := Lib.hid fun R => (heap_setCell_other wr ⟨y.gp, i, none⟩ y.mb R (Ne.symm HD.out.gp_mb)).trans (hbut.block _ HM.out.marks.lt (Ne.symm HD.out.gl_mb))
        have HTl := Lib.hid (m1.tails i hi _ _ HV.out HLL.out)
        have htl : Tail wr (.slice (some ⟨hb, off + n * 2, none⟩) (L - n) (cap - n)) (l.drop n) := by
          have := HTl.out
          rw [← HL.out] at this
          rw [HL.out]
          exact this.drop (by rw [← HL.out]; exact hLn)
        have HTT := Lib.hid htl
        clear m1 t1 hpr hown hbut c2 cpp htl
        go_wp2_with fail
        refine (unmark_ok (HX.out _ (.inr rfl) HTT.out).1 i n hi ?_ ?_).mono ?_
        · omega
        · intro j c
          exact HO.out.mk_le j c
        · rintro e w' ⟨rfl, hm', hb', hst'⟩
          have t2 := (HX.out _ (.inr rfl) HTT.out).2
          go_wp2
          go_end0
          exact last_fin HLL.out HT1.out t2 hm' hb' (HEM.out _) hst'
theorem last_ok {w : World} {y : Lay} {s : St} (h : MemAt w y s) (ok : s.Ok) (i n : Nat) (hi : i < s.nl) (hn : n ≤ (s.pend.getD i []).length) :
    Calls Tryz.prog 62 #[.pointer (some ⟨y.g, 0, none⟩), .int .i64 (i : Int), .int .i64 (n : Int)] w (LastPost w y (s.last i n) i) := by
  by_cases h0 : n = 0
  · subst h0
    exact last_none h i hi
  · have hl := List.getElem?_eq_getElem (show i < s.pend.length by have := h.plen; omega)
    rw [List.getD_eq_getElem?_getD, hl] at hn
    exact last_some h ok i n _ hi hl (by omega) hn
end Go.Proofs.YtahojhaeebmpoaaGreatDoor
