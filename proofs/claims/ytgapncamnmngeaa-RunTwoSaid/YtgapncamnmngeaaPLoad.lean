/- Load, Evict and Stats of a memory that is there: what each answers; and Fence, Evict where they are refused; for states that a memory can have. -/
import Derived.Test.YtgapncamnmngeaaPNo
import Derived.Test.YtgapncamnmngeaaPLast
import Derived.Test.YtgapncamnmngeaaPOk
namespace Go.Proofs.Ytgapncamnmngeaa
open Go.RowKit
set_option linter.unusedVariables false
def AnsPost (w : World) (y : Lay) (s' : St) (v : Value) (e : Ending) (w' : World) : Prop := e = .returned v ∧ ∃ y', MemAt w' y' s' ∧ Turn w w' y y'
theorem load_range {w : World} {y : Lay} {s : St} (h : MemAt w y s) (a : Nat) (ha : a % 8 ≠ 0 ∨ 64 * s.nl ≤ a) : Calls Try.prog 28 #[.pointer (some ⟨y.g, 0, none⟩), .int .u64 (a : Int)] w fun e w' => e = .returned (.tuple #[.int .u64 0, .int .i64 3]) ∧ w = w' := by
  have H := Lib.hid (refused_range h a ha)
  obtain ⟨g, hg⟩ : ∃ g, g = y.g := ⟨_, rfl⟩
  rw [← hg] at H ⊢
  clear h ha hg
  go_enter Try.func28, Try.ntmps28
  go_wp2_with fail
  refine H.out.mono ?_
  rintro e w1 ⟨rfl, rfl⟩
  go_wp2
  go_ret2
  exact ⟨rfl, rfl⟩
set_option maxHeartbeats 1600000 in
theorem load_ok {w : World} {y : Lay} {s : St} (h : MemAt w y s) (ok : s.Ok) (a : Nat) (h8 : a % 8 = 0) (ha : a < 64 * s.nl) :
    Calls Try.prog 28 #[.pointer (some ⟨y.g, 0, none⟩), .int .u64 (a : Int)] w (AnsPost w y { s with ld := s.ld + 1 } (.tuple #[.int .u64 ((s.view.getD (a / 8) 0 : Nat) : Int), .int .i64 0])) := by
  have HR := Lib.hid (refused_ok h a h8 ha)
  have hmost := h.most
  have hd := h.differ
  have c1 := h.row.cell 1
  have c4 := h.row.cell 4
  simp only [List.getElem?_toArray, List.getElem?_cons_succ, List.getElem?_cons_zero] at c1 c4
  have f4 := h.row.free 4
  have hld := ok.num.1
  have hvl : a / 8 < s.view.length := by have := ownsRow_len h.vie; omega
  obtain ⟨W0, hW0⟩ : ∃ W0, W0 = w.setCell ⟨y.g, 4, none⟩ (wv (s.ld + 1)) := ⟨_, rfl⟩
  have hm0 : MemAt W0 y { s with ld := s.ld + 1 } := by
    rw [hW0]
    exact mem_marks h rfl rfl rfl rfl (h.row.set 4 _) (fun k _ h1 _ => heap_setCell_other _ _ _ _ h1) (h.marks.same (heap_setCell_other _ _ _ _ (Ne.symm hd.g_mb)))
  have ht0 : Turn w W0 y y := by
    rw [hW0]
    exact ⟨rfl, (But.refl w _).set (p := ⟨y.g, 4, none⟩) (.inl rfl) _, fun _ h => .inl h⟩
  have hv : W0.cell? ⟨y.gv, a / 8, none⟩ = some (.int .u64 ((s.view.getD (a / 8) 0 : Nat) : Int)) := by
    rw [hW0, cell_far hd.g_gv, h.vie.cellAt (a / 8) (by omega), List.getElem?_map, List.getElem?_eq_getElem hvl, getD_at hvl]
    rfl
  have d1 : W0.cell? ⟨y.g, 1, none⟩ = some (.slice (some ⟨y.gv, 0, none⟩) (8 * s.nl) y.cv) := by
    rw [hW0, cell_else (by decide)]
    exact c1
  unfold wv at c4
  rw [show wv (s.ld + 1) = .int .u64 ((s.ld : Int) + 1) from rfl] at hW0
  have HM := Lib.hid hm0
  have HT := Lib.hid ht0
  obtain ⟨N, hN⟩ : ∃ N, N = 8 * s.nl := ⟨_, rfl⟩
  rw [← hN] at d1
  have ebN : (a : Int) / 8 < (N : Int) := by omega
  have haB : a < 1048576 := by omega
  obtain ⟨u, hu⟩ : ∃ u, u = s.view.getD (a / 8) 0 := ⟨_, rfl⟩
  rw [← hu] at hv ⊢
  clear hm0 ht0 c1 hvl ok hN hd h hu h8 ha
  subst hW0
  go_enter Try.func28, Try.ntmps28
  go_wp2_with fail
  refine HR.out.mono ?_
  rintro e w1 ⟨rfl, rfl⟩
  go_wp2
  go_ret2
  exact ⟨rfl, y, HM.out, HT.out⟩
theorem evict_arg {w : World} {y : Lay} {s : St} (h : MemAt w y s) (a n : Int) (hn : n < 0) : Calls Try.prog 36 #[.pointer (some ⟨y.g, 0, none⟩), .int .u64 a, .int .i64 n] w fun e w' => e = .returned (.tuple #[.int .i64 0, .int .i64 2]) ∧ w = w' := by
  have H := Lib.hid (refused_arg h a)
  obtain ⟨g, hg⟩ : ∃ g, g = y.g := ⟨_, rfl⟩
  rw [← hg] at H ⊢
  have d : decide (n < 0) = true := by simp; omega
  have d2 : decide (0 ≤ n) = false := by simp; omega
  clear h hg
  go_enter Try.func36, Try.ntmps36
  go_wp2_with fail
  refine H.out.mono ?_
  rintro e w1 ⟨rfl, rfl⟩
  go_wp2
  go_ret2
  exact ⟨rfl, rfl⟩
theorem evict_range {w : World} {y : Lay} {s : St} (h : MemAt w y s) (a n : Nat) (ha : a % 8 ≠ 0 ∨ 64 * s.nl ≤ a) : Calls Try.prog 36 #[.pointer (some ⟨y.g, 0, none⟩), .int .u64 (a : Int), .int .i64 (n : Int)] w fun e w' => e = .returned (.tuple #[.int .i64 0, .int .i64 3]) ∧ w = w' := by
  have H := Lib.hid (refused_range h a ha)
  obtain ⟨g, hg⟩ : ∃ g, g = y.g := ⟨_, rfl⟩
  rw [← hg] at H ⊢
  have d : decide ((n : Int) < 0) = false := by simp
  clear h hg ha
  go_enter Try.func36, Try.ntmps36
  go_wp2_with fail
  refine H.out.mono ?_
  rintro e w1 ⟨rfl, rfl⟩
  go_wp2
  go_ret2
  exact ⟨rfl, rfl⟩
theorem fence_arg {w : World} {y : Lay} {s : St} (h : MemAt w y s) (c : Int) (hc : c < 0 ∨ 64 < c) : Calls Try.prog 53 #[.pointer (some ⟨y.g, 0, none⟩), .int .i64 c] w fun e w' => e = .returned (.int .i64 2) ∧ w = w' := by
  have HC := Lib.hid (isClient_any c w)
  rw [show decide (0 ≤ c ∧ c ≤ 64) = false from by simp; omega] at HC
  have H := Lib.hid (refused_arg h 0)
  obtain ⟨g, hg⟩ : ∃ g, g = y.g := ⟨_, rfl⟩
  rw [← hg] at H ⊢
  clear h hc hg
  go_enter Try.func53, Try.ntmps53
  go_wp2_with fail
  refine HC.out.mono ?_
  rintro e w1 ⟨rfl, rfl⟩
  go_wp2_with fail
  refine H.out.mono ?_
  rintro e w1 ⟨rfl, rfl⟩
  go_wp2
  go_ret
  exact ⟨rfl, rfl⟩
theorem stats_yes {w : World} {y : Lay} {s : St} (h : MemAt w y s) : Calls Try.prog 15 #[.pointer (some ⟨y.g, 0, none⟩)] w fun e w' => e = .returned (.agg #[wv s.ld, wv s.st, wv s.fl, wv s.fe]) ∧ Below w.heap.size w w' := by
  have H := Lib.hid (none_yes (h.below (alloc_below w (.cells #[.int .u64 0, .int .u64 0, .int .u64 0, .int .u64 0] 38))))
  have hb := alloc_below w (.cells #[.int .u64 0, .int .u64 0, .int .u64 0, .int .u64 0] 38)
  have hr := (h.below hb).row
  have d4 := hr.cell 4
  have d5 := hr.cell 5
  have d6 := hr.cell 6
  have d7 := hr.cell 7
  simp only [List.getElem?_toArray, List.getElem?_cons_succ, List.getElem?_cons_zero] at d4 d5 d6 d7
  unfold wv at d4 d5 d6 d7 ⊢
  clear hr hb h
  go_enter Try.func15, Try.ntmps15
  go_wp2_with fail
  refine H.out.mono ?_
  rintro e w1 ⟨rfl, rfl⟩
  go_wp2
  refine bodyPost_ret (results_cell_row rfl _ _ w.heap.size 38 #[.int .u64 (s.ld : Int), .int .u64 (s.st : Int), .int .u64 (s.fl : Int), .int .u64 (s.fe : Int)] _ _ rfl (heap_alloc_new _ _) Try.underlying38 rfl (by kernel_rfl)) rfl ?_
  exact ⟨rfl, alloc_below _ _⟩
set_option maxHeartbeats 800000 in
theorem evict_ok {w : World} {y : Lay} {s : St} (h : MemAt w y s) (ok : s.Ok) (a n : Nat) (h8 : a % 8 = 0) (ha : a < 64 * s.nl) :
    Calls Try.prog 36 #[.pointer (some ⟨y.g, 0, none⟩), .int .u64 (a : Int), .int .i64 (n : Int)] w
      (AnsPost w y (s.last (a / 64) (min n (s.pend.getD (a / 64) []).length)) (.tuple #[.int .i64 ((min n (s.pend.getD (a / 64) []).length : Nat) : Int), .int .i64 0])) := by
  have HR := Lib.hid (refused_ok h a h8 ha)
  have hmost := h.most
  have HL := Lib.hid fun W => lineOf_any a W (by omega)
  obtain ⟨V, l, hV, hl, ht⟩ := ps_get h (j := a / 64) (by omega)
  obtain ⟨A, cap, rfl, hcap⟩ := ht.len
  have hlen : s.pend.getD (a / 64) [] = l := by rw [List.getD_eq_getElem?_getD, hl]; rfl
  obtain ⟨i, hi⟩ : ∃ i, i = a / 64 := ⟨_, rfl⟩
  have HX := Lib.hid (last_ok h ok i (min n l.length) (by omega) (by rw [hi, hlen]; exact Nat.min_le_right _ _))
  rw [hlen]
  rw [← hi] at hV HL ⊢
  have c2 := h.row.cell 2
  simp only [List.getElem?_toArray, List.getElem?_cons_succ, List.getElem?_cons_zero] at c2
  have cpp : w.cell? ⟨y.gp, i, none⟩ = some (.slice A l.length cap) := by rw [h.pen.cellAt i (by omega), hV]
  have hin : i < s.nl := by omega
  have i0 : (0 : Int) ≤ (i : Int) := by omega
  have i1 : (i : Int) < (s.nl : Int) := by omega
  have d : decide ((n : Int) < 0) = false := by simp
  have key : min n l.length = l.length ∧ l.length < n ∨ min n l.length = n ∧ ¬ l.length < n := by omega
  clear h ht hV hl hlen hi ha h8
  rcases key with ⟨e, hc⟩ | ⟨e, hc⟩
  all_goals
    rw [e] at HX ⊢
    clear e
    go_enter Try.func36, Try.ntmps36
    go_wp2_with fail
    refine HR.out.mono ?_
    rintro e w1 ⟨rfl, rfl⟩
    go_wp2_with fail
    refine (HL.out _).mono ?_
    rintro e w1 ⟨rfl, rfl⟩
    go_wp2_with fail
    refine HX.out.mono ?_
    rintro e w1 ⟨rfl, y', hm', ht', _, _⟩
    go_wp2
    go_ret2
    exact ⟨rfl, y', hm', ht'⟩
end Go.Proofs.Ytgapncamnmngeaa
