/- Texts of this claim, packed: PNo, PLook, POk, PLoad, LSt, LAt, LFind. -/
import Derived.Test.YthibbcokpmckfaaGreatDoorZ08
import Derived.Test.YthibbcokpmckfaaGreatDoorZ09
import Derived.Test.YthibbcokpmckfaaGreatDoorZ07
import Derived.Test.YthibbcokpmckfaaGreatDoorZ01
import Derived.Test.YthibbcokpmckfaaGreatDoorZ05
import Derived.BigQuiet
import Derived.WalkMore
/- No memory, nil or zero: what Load, Evict, Fence, Stats, Copy, Same, Lines and Crash make of it; and Lines of a memory with nothing pending. -/
namespace Go.Proofs.YthibbcokpmckfaaGreatDoor
open Go.RowKit Go.Shelf
set_option linter.unusedVariables false
attribute [local go_sem] Oper.semAt_some

theorem load_no {p : Option Addr} {w : World} (h : NoMem w p) (a : Int) : Calls Tryz.prog 83 #[.pointer p, .int .u64 a] w fun e w' => e = .returned (.tuple #[.int .u64 0, .int .i64 1]) ∧ w = w' := by
  have H := Lib.hid (refused_no h true a)
  clear h
  go_enter Tryz.func83, Tryz.ntmps83
  go_wp2_with fail
  refine H.out.mono ?_
  rintro e w1 ⟨rfl, rfl⟩
  go_wp2
  go_ret2
  exact ⟨rfl, rfl⟩
theorem evict_no {p : Option Addr} {w : World} (h : NoMem w p) (a n : Int) : Calls Tryz.prog 59 #[.pointer p, .int .u64 a, .int .i64 n] w fun e w' => e = .returned (.tuple #[.int .i64 0, .int .i64 1]) ∧ w = w' := by
  have H := Lib.hid fun f => refused_no h f a
  clear h
  go_enter Tryz.func59, Tryz.ntmps59
  go_wp2_with fail
  refine (H.out _).mono ?_
  rintro e w1 ⟨rfl, rfl⟩
  go_wp2
  go_ret2
  exact ⟨rfl, rfl⟩
theorem fence_no {p : Option Addr} {w : World} (h : NoMem w p) (c : Int) : Calls Tryz.prog 144 #[.pointer p, .int .i64 c] w fun e w' => e = .returned (.int .i64 1) ∧ w = w' := by
  have HC := Lib.hid (isClient_any c w)
  have H := Lib.hid fun f => refused_no h f 0
  clear h
  go_enter Tryz.func144, Tryz.ntmps144
  go_wp2_with fail
  refine HC.out.mono ?_
  rintro e w1 ⟨rfl, rfl⟩
  go_wp2_with fail
  refine (H.out _).mono ?_
  rintro e w1 ⟨rfl, rfl⟩
  go_wp2
  go_ret
  exact ⟨rfl, rfl⟩
theorem copy_no {p : Option Addr} {w : World} (h : NoMem w p) : Calls Tryz.prog 21 #[.pointer p] w fun e w' => e = .returned (.pointer none) ∧ Below w.heap.size w w' := by
  have H := Lib.hid fun W (hb : Below w.heap.size w W) => none_no (h.below hb)
  clear h
  go_enter Tryz.func21, Tryz.ntmps21
  go_wp2_with fail
  refine (H.out _ (alloc_below _ _)).mono ?_
  rintro e w1 ⟨rfl, rfl⟩
  go_wp2
  go_ret
  exact ⟨rfl, alloc_below _ _⟩
theorem stats_no {p : Option Addr} {w : World} (h : NoMem w p) : Calls Tryz.prog 115 #[.pointer p] w fun e w' => e = .returned (.agg #[.int .u64 0, .int .u64 0, .int .u64 0, .int .u64 0]) ∧ Below w.heap.size w w' := by
  have H := Lib.hid fun W (hb : Below w.heap.size w W) => none_no (h.below hb)
  clear h
  go_enter Tryz.func115, Tryz.ntmps115
  go_wp2_with fail
  refine (H.out _ (alloc_below _ _)).mono ?_
  rintro e w1 ⟨rfl, rfl⟩
  go_wp2
  refine bodyPost_ret (results_cell_row rfl _ _ w.heap.size 120 #[.int .u64 0, .int .u64 0, .int .u64 0, .int .u64 0] _ _ rfl (heap_alloc_new _ _) Tryz.underlying120 rfl (by kernel_rfl)) rfl ?_
  exact ⟨rfl, alloc_below _ _⟩
set_option maxRecDepth 100000 in
set_option maxHeartbeats 1600000 in
theorem iter_none {w : World} {p : Option Addr} (h : NoMem w p) (bx : Nat) (I : Nat → World → Prop) (hbx : w.cell? ⟨bx, 0, none⟩ = some (.pointer p)) :
    Tells Fence.wide 5 Tryz.prog 92 #[.pointer (some ⟨bx, 0, none⟩)] encN [] w I := by
  intro l J W hW hJ hY h0
  have hbox : W.cell? ⟨bx, 0, none⟩ = some (.pointer p) := (hW.cell (p := ⟨bx, 0, none⟩) (block_lt_of_cell hbx)).trans hbx
  have HN := Lib.hid (none_no (h.below hW))
  have H0 := Lib.hid h0
  clear hJ hY h0 hbx h hW
  refine callsIn_of_wp Tryz.func92 rfl trivial ?_ rfl
  simp only [Tryz.ntmps92, List.size_toArray, List.length_cons, List.length_nil, Nat.reduceAdd, Nat.reduceSub, Array.replicate_succ, Array.replicate_zero, List.push_toArray, List.append_toArray, List.nil_append, List.cons_append]
  gi_wp2_with (refine ⟨trivial, ?_⟩; gi_at_call 60; refine (callsIn_wide.2 HN.out).mono ?_; rintro e w' ⟨rfl, rfl⟩)
  (try simp only [Exit.inBlock, Exit.then])
  refine bodyPost_ret (results_none rfl _ _ _) rfl ?_
  exact ⟨⟨_, rfl⟩, H0.out⟩
theorem grown_stays {W0 W W' : World} {row : Option Nat} (h : Below W0.heap.size W0 W) (hg : W.grownBy W' row) (hr : ∀ r, row = some r → W0.heap.size ≤ r ∧ ∃ o : Obj, W.heap[r]? = some o ∧ o.isCells = false) : Below W0.heap.size W0 W' :=
  h.trans ⟨hg.os, hg.tape, hg.output, hg.size, fun k hk => hg.block k (Nat.lt_of_lt_of_le hk h.size) (fun e => by have := (hr k e.symm).1; omega)⟩
set_option maxRecDepth 100000 in
set_option maxHeartbeats 1600000 in
theorem crash_no {w : World} {p : Option Addr} (h : NoMem w p) (A : Option Addr) (n cap : Nat) : Calls Tryz.prog 22 #[.pointer p, .slice A n cap] w fun e w' => e = .returned (.tuple #[]) ∧ Below w.heap.size w w' := by
  refine (callsIn_wide (n := 6)).1 ?_
  refine callsIn_of_wp_marks Tryz.func22 rfl trivial ?_ rfl
  simp only [Tryz.ntmps22, List.size_toArray, List.length_cons, List.length_nil, Nat.reduceAdd, Nat.reduceSub, Array.replicate_succ, Array.replicate_zero, List.push_toArray, List.append_toArray, List.nil_append, List.cons_append]
  gi_wp2_with (refine ⟨trivial, ?_⟩; gi_at_call 61; refine (callsIn_wide.2 (lines_any _ _)).mono ?_; rintro e w' ⟨rfl, rfl⟩)
  obtain ⟨W0, hW0⟩ : ∃ W0, W0 = (((w.alloc (.cells #[.pointer p] 48)).alloc (.cells #[.slice A n cap] 47)).alloc (.cells #[.pointer p] 48)) := ⟨_, rfl⟩
  rw [← hW0]
  have hb0 : Below w.heap.size w W0 := by
    rw [hW0]
    exact Below.and (Below.and (alloc_below _ _) (alloc_below _ _)) (alloc_below _ _)
  have r3 : Row W0 (w.heap.size + 1 + 1) 48 #[.pointer p] := by
    rw [hW0]
    exact row_at (by simp)
  have hm0 := h.below hb0
  have HB0 := Lib.hid hb0
  clear hW0 h
  refine range_all rfl (by omega) (gf := 92) (lb := #[.pointer (some ⟨w.heap.size + 1 + 1, 0, none⟩)]) rfl trivial (enters_of Tryz.func92 (by kernel_rfl) rfl) [] (encs := encN) (fun _ => rfl) (fun _ W => Below W0.heap.size W0 W)
    (fun k W W' row hI hg hr => grown_stays hI hg hr) (Below.refl _ _) (iter_none hm0 (w.heap.size + 1 + 1) _ (r3.cell 0))
    (fun x => { tmps := #[.pointer p, .slice A n cap, .pointer (some ⟨w.heap.size, 0, none⟩), .pointer (some ⟨w.heap.size + 1, 0, none⟩), .int .i64 (x.1 : Int), .int .i64 (x.2 : Int), .pointer p,
      .func (.func 92) #[] #[.pointer (some ⟨w.heap.size + 1 + 1, 0, none⟩)], .int .i64 (x.1 : Int), .int .i64 (x.2 : Int), undef, undef, undef, undef, undef, undef, undef, undef, undef, undef, undef, undef, undef, undef, undef, undef, undef], defers := [] }) ?assign ?body ?done
  case assign =>
    intro l x W K hK
    dsimp only [encN]
    gi_wp2
    exact hK
  case body =>
    rintro l k x W hx
    cases hx
  case done =>
    rintro D W hD hI hK
    gi_wp2
    refine ⟨by simp, .inl ⟨_, _, rfl, run_takeDeferred hK, ?_⟩⟩
    have hb := grown_stays hI (grownBy_putObj' W D (.deferred none)) (fun r e => by cases e; exact ⟨hD, _, hK, rfl⟩)
    exact ⟨_, results_none rfl _ _ _, rfl, Below.and HB0.out hb⟩
theorem nzFrom_none (n i j : Nat) : nzFrom (List.replicate n ([] : List (Nat × Nat))) i j = [] := by
  induction n generalizing i j with
  | zero => rfl
  | succ n ih => rw [List.replicate_succ]; unfold nzFrom; rw [if_pos rfl]; exact ih _ _
theorem zero_nz (nl : Nat) : nz (St.zero nl).pend = [] := nzFrom_none nl 0 0
end Go.Proofs.YthibbcokpmckfaaGreatDoor
/- Pending, Load, Evict, Stats, Fence and Crash where they are refused, and where they are not: what each answers; for states that a memory can have. -/
namespace Go.Proofs.YthibbcokpmckfaaGreatDoor
open Go.RowKit
set_option linter.unusedVariables false

end Go.Proofs.YthibbcokpmckfaaGreatDoor
/- A new memory's state, and those behind stores, flushes, fences and crashes, are such as a memory can have. -/
namespace Go.Proofs.YthibbcokpmckfaaGreatDoor
open Go.RowKit
set_option linter.unusedVariables false
theorem zero_Ok (nl : Nat) : (St.zero nl).Ok := by
  refine ⟨?_, ?_, ?_, ?_, ?_, ?_⟩
  · intro x hx
    rw [List.eq_of_mem_replicate hx]
    decide
  · intro x hx
    rw [List.eq_of_mem_replicate hx]
    decide
  · intro j l hl p hp
    rw [List.eq_of_mem_replicate (List.mem_of_getElem? hl)] at hp
    cases hp
  · intro l hl
    rw [List.eq_of_mem_replicate hl]
    decide
  · intro j c
    exact Nat.zero_le _
  · exact ⟨(by decide : 0 < 9223372036854775808), (by decide : 0 < 9223372036854775808), (by decide : 0 < 9223372036854775808), (by decide : 0 < 9223372036854775808)⟩
theorem store_Ok {s : St} (ok : s.Ok) {a v : Nat} (h8 : a % 8 = 0) (ha : a / 64 < s.pend.length) (hv : v < 18446744073709551616) (hst : s.st + 1 < 9223372036854775808) (hn : (s.pend.getD (a / 64) []).length + 1 ≤ 1000000000) : (s.store a v).Ok := by
  have hgi := getD_at (d := ([] : List (Nat × Nat))) ha
  refine ⟨ok.las, ?_, ?_, ?_, ?_, ⟨ok.num.1, hst, ok.num.2.2⟩⟩
  · intro x hx
    rcases List.mem_or_eq_of_mem_set hx with h | rfl
    · exact ok.vie x h
    · exact hv
  · intro j l hl p hp
    have hl' : (s.pend.set (a / 64) (s.pend.getD (a / 64) [] ++ [(a, v)]))[j]? = some l := hl
    rw [List.getElem?_set] at hl'
    by_cases e : a / 64 = j
    · rw [if_pos e, if_pos ha] at hl'
      cases hl'
      rcases List.mem_append.1 hp with h | h
      · rw [hgi] at h
        rw [← e]
        exact ok.put _ _ (List.getElem?_eq_getElem ha) p h
      · have : p = (a, v) := by simpa using h
        subst this
        exact ⟨h8, e, hv⟩
    · rw [if_neg e] at hl'
      exact ok.put j l hl' p hp
  · intro l hl
    rcases List.mem_or_eq_of_mem_set hl with h | h
    · exact ok.few l h
    · rw [h, List.length_append]
      simpa using hn
  · intro j c
    show s.mm j c ≤ ((s.pend.set (a / 64) (s.pend.getD (a / 64) [] ++ [(a, v)])).getD j []).length
    rw [set_getD ha]
    have := ok.mks j c
    by_cases e : j = a / 64
    · rw [if_pos e, List.length_append, ← e]
      omega
    · rw [if_neg e]
      exact this
theorem flush_Ok {s : St} (ok : s.Ok) {c a : Nat} (hfl : s.fl + 1 < 9223372036854775808) : (s.flush c a).Ok := by
  refine ⟨ok.las, ok.vie, ok.put, ok.few, ?_, ⟨ok.num.1, ok.num.2.1, hfl, ok.num.2.2.2⟩⟩
  intro j q
  show (if (s.pend.getD (a / 64) []).length = 0 then s.mm else upd s.mm (a / 64) fun k => if k = c then (s.pend.getD (a / 64) []).length else s.mm (a / 64) k) j q ≤ (s.pend.getD j []).length
  by_cases h0 : (s.pend.getD (a / 64) []).length = 0
  · rw [if_pos h0]
    exact ok.mks j q
  · rw [if_neg h0]
    unfold upd
    by_cases e : j = a / 64
    · rw [if_pos e]
      by_cases e2 : q = c
      · rw [if_pos e2, e]
        exact Nat.le_refl _
      · rw [if_neg e2, e]
        exact ok.mks _ q
    · rw [if_neg e]
      exact ok.mks j q
theorem fence_Ok {s : St} (ok : s.Ok) {c : Nat} (hfe : s.fe + 1 < 9223372036854775808) : (s.fence c).Ok :=
  fenV_ok (s := { s with fe := s.fe + 1 }) ⟨ok.las, ok.vie, ok.put, ok.few, ok.mks, ⟨ok.num.1, ok.num.2.1, ok.num.2.2.1, hfe⟩⟩ c _
theorem crash_Ok {s : St} (ok : s.Ok) (keep : List Int) : (s.crash keep).Ok := by
  refine crashTo_Ok ok keep _ fun x hx => ?_
  have := nzFrom_bound _ _ _ x hx
  omega

/-- The document's rows: the states that known goes through. -/
def k1 : St := (St.zero 2).store 0 1
def k2 : St := k1.store 8 2
def k3 : St := k2.flush 0 0
def k4 : St := k3.store 0 3
def k5 : St := k4.fence 0
def k6 : St := k5.store 64 5
def k7 : St := k6.crash [0, 1]
theorem k1_Ok : k1.Ok := store_Ok (zero_Ok 2) (by decide) (by decide) (by decide) (by decide) (by decide)
theorem k2_Ok : k2.Ok := store_Ok k1_Ok (by decide) (by decide) (by decide) (by decide) (by decide)
theorem k3_Ok : k3.Ok := flush_Ok k2_Ok (by decide)
theorem k4_Ok : k4.Ok := store_Ok k3_Ok (by decide) (by decide) (by decide) (by decide) (by decide)
theorem k5_Ok : k5.Ok := fence_Ok k4_Ok (by decide)
theorem k6_Ok : k6.Ok := store_Ok k5_Ok (by decide) (by decide) (by decide) (by decide) (by decide)
theorem k7_Ok : k7.Ok := crash_Ok k6_Ok _
theorem k5_las : k5.lasted = [1, 2, 0, 0, 0, 0, 0, 0, 0, 0, 0, 0, 0, 0, 0, 0] := by decide
theorem k5_vie : k5.view = [3, 2, 0, 0, 0, 0, 0, 0, 0, 0, 0, 0, 0, 0, 0, 0] := by decide
theorem k5_pen : k5.pend = [[(0, 3)], []] := by decide
theorem k7_las : k7.lasted = [1, 2, 0, 0, 0, 0, 0, 0, 5, 0, 0, 0, 0, 0, 0, 0] := by decide
theorem k7_vie : k7.view = [1, 2, 0, 0, 0, 0, 0, 0, 5, 0, 0, 0, 0, 0, 0, 0] := by decide
end Go.Proofs.YthibbcokpmckfaaGreatDoor
/- Load, Evict and Stats of a memory that is there: what each answers; and Fence, Evict where they are refused; for states that a memory can have. -/
namespace Go.Proofs.YthibbcokpmckfaaGreatDoor
open Go.RowKit
set_option linter.unusedVariables false
def AnsPost (w : World) (y : Lay) (s' : St) (v : Value) (e : Ending) (w' : World) : Prop := e = .returned v ∧ ∃ y', MemAt w' y' s' ∧ Turn w w' y y'
theorem load_range {w : World} {y : Lay} {s : St} (h : MemAt w y s) (a : Nat) (ha : a % 8 ≠ 0 ∨ 64 * s.nl ≤ a) : Calls Tryz.prog 83 #[.pointer (some ⟨y.g, 0, none⟩), .int .u64 (a : Int)] w fun e w' => e = .returned (.tuple #[.int .u64 0, .int .i64 3]) ∧ w = w' := by
  have H := Lib.hid (refused_range h a ha)
  obtain ⟨g, hg⟩ : ∃ g, g = y.g := ⟨_, rfl⟩
  rw [← hg] at H ⊢
  clear h ha hg
  go_enter Tryz.func83, Tryz.ntmps83
  go_wp2_with fail
  refine H.out.mono ?_
  rintro e w1 ⟨rfl, rfl⟩
  go_wp2
  go_ret2
  exact ⟨rfl, rfl⟩
set_option maxHeartbeats 1600000 in
theorem load_ok {w : World} {y : Lay} {s : St} (h : MemAt w y s) (ok : s.Ok) (a : Nat) (h8 : a % 8 = 0) (ha : a < 64 * s.nl) :
    Calls Tryz.prog 83 #[.pointer (some ⟨y.g, 0, none⟩), .int .u64 (a : Int)] w (AnsPost w y { s with ld := s.ld + 1 } (.tuple #[.int .u64 ((s.view.getD (a / 8) 0 : Nat) : Int), .int .i64 0])) := by
  have HR := Lib.hid (refused_ok h a h8 ha)
  have hmost := h.most
  have hd := h.differ
  have c1 := h.row.cell 1
  have c4 := h.row.cell 4
  simp only [List.getElem?_toArray, List.getElem?_cons_succ, List.getElem?_cons_zero] at c1 c4
  have f4 := h.row.free 4
  have hld := ok.num.1
  have hvl : a / 8 < s.view.length := by have := ownsRow_len h.vie; omega
  obtain ⟨W0, hW0⟩ : ∃ W0, W0 = w.setCell ⟨y.g, 4, none⟩ (wv (s.ld + 1)) := ⟨_, rfl⟩
  have hm0 : MemAt W0 y { s with ld := s.ld + 1 } := by
    rw [hW0]
    exact mem_marks h rfl rfl rfl rfl (h.row.set 4 _) (fun k _ h1 _ => heap_setCell_other _ _ _ _ h1) (h.marks.same (heap_setCell_other _ _ _ _ (Ne.symm hd.g_mb)))
  have ht0 : Turn w W0 y y := by
    rw [hW0]
    exact ⟨rfl, (But.refl w _).set (p := ⟨y.g, 4, none⟩) (.inl rfl) _, fun _ h => .inl h⟩
  have hv : W0.cell? ⟨y.gv, a / 8, none⟩ = some (.int .u64 ((s.view.getD (a / 8) 0 : Nat) : Int)) := by
    rw [hW0, cell_far hd.g_gv, h.vie.cellAt (a / 8) (by omega), List.getElem?_map, List.getElem?_eq_getElem hvl, getD_at hvl]
    rfl
  have d1 : W0.cell? ⟨y.g, 1, none⟩ = some (.slice (some ⟨y.gv, 0, none⟩) (8 * s.nl) y.cv) := by
    rw [hW0, cell_else (by decide)]
    exact c1
  unfold wv at c4
  rw [show wv (s.ld + 1) = .int .u64 ((s.ld : Int) + 1) from rfl] at hW0
  have HM := Lib.hid hm0
  have HT := Lib.hid ht0
  obtain ⟨N, hN⟩ : ∃ N, N = 8 * s.nl := ⟨_, rfl⟩
  rw [← hN] at d1
  have ebN : (a : Int) / 8 < (N : Int) := by omega
  have haB : a < 1048576 := by omega
  obtain ⟨u, hu⟩ : ∃ u, u = s.view.getD (a / 8) 0 := ⟨_, rfl⟩
  rw [← hu] at hv ⊢
  clear hm0 ht0 c1 hvl ok hN hd h hu h8 ha
  subst hW0
  go_enter Tryz.func83, Tryz.ntmps83
  go_wp2_with fail
  refine HR.out.mono ?_
  rintro e w1 ⟨rfl, rfl⟩
  go_wp2
  go_ret2
  exact ⟨rfl, y, HM.out, HT.out⟩
theorem evict_arg {w : World} {y : Lay} {s : St} (h : MemAt w y s) (a n : Int) (hn : n < 0) : Calls Tryz.prog 59 #[.pointer (some ⟨y.g, 0, none⟩), .int .u64 a, .int .i64 n] w fun e w' => e = .returned (.tuple #[.int .i64 0, .int .i64 2]) ∧ w = w' := by
  have H := Lib.hid (refused_arg h a)
  obtain ⟨g, hg⟩ : ∃ g, g = y.g := ⟨_, rfl⟩
  rw [← hg] at H ⊢
  have d : decide (n < 0) = true := by simp; omega
  have d2 : decide (0 ≤ n) = false := by simp; omega
  clear h hg
  go_enter Tryz.func59, Tryz.ntmps59
  go_wp2_with fail
  refine H.out.mono ?_
  rintro e w1 ⟨rfl, rfl⟩
  go_wp2
  go_ret2
  exact ⟨rfl, rfl⟩
theorem evict_range {w : World} {y : Lay} {s : St} (h : MemAt w y s) (a n : Nat) (ha : a % 8 ≠ 0 ∨ 64 * s.nl ≤ a) : Calls Tryz.prog 59 #[.pointer (some ⟨y.g, 0, none⟩), .int .u64 (a : Int), .int .i64 (n : Int)] w fun e w' => e = .returned (.tuple #[.int .i64 0, .int .i64 3]) ∧ w = w' := by
  have H := Lib.hid (refused_range h a ha)
  obtain ⟨g, hg⟩ : ∃ g, g = y.g := ⟨_, rfl⟩
  rw [← hg] at H ⊢
  have d : decide ((n : Int) < 0) = false := by simp
  clear h hg ha
  go_enter Tryz.func59, Tryz.ntmps59
  go_wp2_with fail
  refine H.out.mono ?_
  rintro e w1 ⟨rfl, rfl⟩
  go_wp2
  go_ret2
  exact ⟨rfl, rfl⟩
theorem fence_arg {w : World} {y : Lay} {s : St} (h : MemAt w y s) (c : Int) (hc : c < 0 ∨ 64 < c) : Calls Tryz.prog 144 #[.pointer (some ⟨y.g, 0, none⟩), .int .i64 c] w fun e w' => e = .returned (.int .i64 2) ∧ w = w' := by
  have HC := Lib.hid (isClient_any c w)
  rw [show decide (0 ≤ c ∧ c ≤ 64) = false from by simp; omega] at HC
  have H := Lib.hid (refused_arg h 0)
  obtain ⟨g, hg⟩ : ∃ g, g = y.g := ⟨_, rfl⟩
  rw [← hg] at H ⊢
  clear h hc hg
  go_enter Tryz.func144, Tryz.ntmps144
  go_wp2_with fail
  refine HC.out.mono ?_
  rintro e w1 ⟨rfl, rfl⟩
  go_wp2_with fail
  refine H.out.mono ?_
  rintro e w1 ⟨rfl, rfl⟩
  go_wp2
  go_ret
  exact ⟨rfl, rfl⟩
theorem stats_yes {w : World} {y : Lay} {s : St} (h : MemAt w y s) : Calls Tryz.prog 115 #[.pointer (some ⟨y.g, 0, none⟩)] w fun e w' => e = .returned (.agg #[wv s.ld, wv s.st, wv s.fl, wv s.fe]) ∧ Below w.heap.size w w' := by
  have H := Lib.hid (none_yes (h.below (alloc_below w (.cells #[.int .u64 0, .int .u64 0, .int .u64 0, .int .u64 0] 120))))
  have hb := alloc_below w (.cells #[.int .u64 0, .int .u64 0, .int .u64 0, .int .u64 0] 120)
  have hr := (h.below hb).row
  have d4 := hr.cell 4
  have d5 := hr.cell 5
  have d6 := hr.cell 6
  have d7 := hr.cell 7
  simp only [List.getElem?_toArray, List.getElem?_cons_succ, List.getElem?_cons_zero] at d4 d5 d6 d7
  unfold wv at d4 d5 d6 d7 ⊢
  clear hr hb h
  go_enter Tryz.func115, Tryz.ntmps115
  go_wp2_with fail
  refine H.out.mono ?_
  rintro e w1 ⟨rfl, rfl⟩
  go_wp2
  refine bodyPost_ret (results_cell_row rfl _ _ w.heap.size 120 #[.int .u64 (s.ld : Int), .int .u64 (s.st : Int), .int .u64 (s.fl : Int), .int .u64 (s.fe : Int)] _ _ rfl (heap_alloc_new _ _) Tryz.underlying120 rfl (by kernel_rfl)) rfl ?_
  exact ⟨rfl, alloc_below _ _⟩
set_option maxHeartbeats 800000 in
theorem evict_ok {w : World} {y : Lay} {s : St} (h : MemAt w y s) (ok : s.Ok) (a n : Nat) (h8 : a % 8 = 0) (ha : a < 64 * s.nl) :
    Calls Tryz.prog 59 #[.pointer (some ⟨y.g, 0, none⟩), .int .u64 (a : Int), .int .i64 (n : Int)] w
      (AnsPost w y (s.last (a / 64) (min n (s.pend.getD (a / 64) []).length)) (.tuple #[.int .i64 ((min n (s.pend.getD (a / 64) []).length : Nat) : Int), .int .i64 0])) := by
  have HR := Lib.hid (refused_ok h a h8 ha)
  have hmost := h.most
  have HL := Lib.hid fun W => lineOf_any a W (by omega)
  obtain ⟨V, l, hV, hl, ht⟩ := ps_get h (j := a / 64) (by omega)
  obtain ⟨A, cap, rfl, hcap⟩ := ht.len
  have hlen : s.pend.getD (a / 64) [] = l := by rw [List.getD_eq_getElem?_getD, hl]; rfl
  obtain ⟨i, hi⟩ : ∃ i, i = a / 64 := ⟨_, rfl⟩
  have HX := Lib.hid (last_ok h ok i (min n l.length) (by omega) (by rw [hi, hlen]; exact Nat.min_le_right _ _))
  rw [hlen]
  rw [← hi] at hV HL ⊢
  have c2 := h.row.cell 2
  simp only [List.getElem?_toArray, List.getElem?_cons_succ, List.getElem?_cons_zero] at c2
  have cpp : w.cell? ⟨y.gp, i, none⟩ = some (.slice A l.length cap) := by rw [h.pen.cellAt i (by omega), hV]
  have hin : i < s.nl := by omega
  have i0 : (0 : Int) ≤ (i : Int) := by omega
  have i1 : (i : Int) < (s.nl : Int) := by omega
  have d : decide ((n : Int) < 0) = false := by simp
  have key : min n l.length = l.length ∧ l.length < n ∨ min n l.length = n ∧ ¬ l.length < n := by omega
  clear h ht hV hl hlen hi ha h8
  rcases key with ⟨e, hc⟩ | ⟨e, hc⟩
  all_goals
    rw [e] at HX ⊢
    clear e
    go_enter Tryz.func59, Tryz.ntmps59
    go_wp2_with fail
    refine HR.out.mono ?_
    rintro e w1 ⟨rfl, rfl⟩
    go_wp2_with fail
    refine (HL.out _).mono ?_
    rintro e w1 ⟨rfl, rfl⟩
    go_wp2_with fail
    refine HX.out.mono ?_
    rintro e w1 ⟨rfl, y', hm', ht', _, _⟩
    go_wp2
    go_ret2
    exact ⟨rfl, y', hm', ht'⟩
end Go.Proofs.YthibbcokpmckfaaGreatDoor
/- The blocks of an arena: their abstract state, and what memory that reads as it must hold; plain facts, without conditions. -/
namespace Go.Proofs.YthibbcokpmckfaaGreatDoor
open Go.RowKit Go.Sort
set_option linter.unusedVariables false

theorem wp_region_low_tail {P : Program} {id : Nat} {Q : Exit → Act → World → Prop} {a : Act} {w : World} {l : List Oper} (n : Nat) (hm : P.follows .mixedOrders = true) (hB : Region.lexTailB .any l.toArray n = true)
    (h : wpQuiet P l.toArray (fun w' => ∃ p : LowBy w, w' = p.W) (fun a' => ∀ w', (∃ p : LowBy w, w' = p.W) → wpList P l.toArray Q (l.drop n) a' w') (l.take n) a) : (Code.region id l.toArray true).wp P Q a w :=
  wp_region_quiet_tail (C := fun w' => ∃ p : LowBy w, w' = p.W) n hm hB ⟨⟨w.drew, (Below.refl _ w).drew⟩, rfl⟩ h

/-- What is known of a slab: its number, its class, its bits, what each block is. -/
structure Hd where
  no : Nat
  cls : Nat
  bits : Nat
  bl : List Nat
def blN (c : Nat) : Nat := if c = 1 then 15 else if c = 2 then 7 else if c = 3 then 5 else 0
theorem blN_le (c : Nat) : blN c ≤ 15 := by unfold blN; split <;> (try split) <;> (try split) <;> omega
theorem blN_C (c : Nat) : blC (c : Int) = (blN c : Int) := by
  unfold blN blC
  by_cases h1 : c = 1
  · subst h1; rfl
  · by_cases h2 : c = 2
    · subst h2; rfl
    · by_cases h3 : c = 3
      · subst h3; rfl
      · rw [if_neg (by omega), if_neg (by omega), if_neg (by omega), if_neg h1, if_neg h2, if_neg h3]; rfl
/-- Where the block j of a slab (its number, its class) begins. -/
def adr (no c j : Nat) : Nat := 1024 * no + 64 + 64 * c * j
theorem adr_blk {no c j : Nat} (h0 : 1 ≤ no) (h1 : no ≤ 64) (hj : j < blN c) : blkA (no : Int) (c : Int) (j : Int) = (adr no c j : Int) := by
  have hb := blN_C c
  rw [blkA_yes ⟨by omega, by omega, by omega, by omega⟩]
  unfold adr
  have hc : c = 1 ∨ c = 2 ∨ c = 3 := by
    unfold blN at hj
    by_cases h1 : c = 1
    · exact .inl h1
    · by_cases h2 : c = 2
      · exact .inr (.inl h2)
      · by_cases h3 : c = 3
        · exact .inr (.inr h3)
        · rw [if_neg h1, if_neg h2, if_neg h3] at hj; omega
  rcases hc with rfl | rfl | rfl
  · show _ + 64 + (j : Int) * 64 = _; omega
  · show _ + 64 + (j : Int) * 128 = _; omega
  · show _ + 64 + (j : Int) * 192 = _; omega
theorem adr_le {no c j : Nat} (h1 : no ≤ 64) (hj : j < blN c) : adr no c j + 64 * c ≤ 1024 * no + 1024 := by
  unfold adr
  unfold blN at hj
  by_cases h1 : c = 1
  · subst h1; rw [if_pos rfl] at hj; omega
  · by_cases h2 : c = 2
    · subst h2; rw [if_neg h1, if_pos rfl] at hj; omega
    · by_cases h3 : c = 3
      · subst h3; rw [if_neg h1, if_neg h2, if_pos rfl] at hj; omega
      · rw [if_neg h1, if_neg h2, if_neg h3] at hj; omega
theorem blN_pos {c j : Nat} (hj : j < blN c) : 1 ≤ c ∧ c ≤ 3 := by
  unfold blN at hj
  by_cases h1 : c = 1
  · omega
  · by_cases h2 : c = 2
    · omega
    · by_cases h3 : c = 3
      · omega
      · rw [if_neg h1, if_neg h2, if_neg h3] at hj; omega

def jv (n : Nat) : Value := .int .i64 (n : Int)
/-- A slice of integers: nil, or a block of its own. -/
def Ints (w : World) (v : Value) (l : List Nat) : Prop := (v = .slice none 0 0 ∧ l = []) ∨ ∃ g, v = .slice (some ⟨g, 0, none⟩) l.length l.length ∧ Row w g 3 (l.map jv).toArray
theorem Ints.keep {w w' : World} {v : Value} {l : List Nat} {fp : Nat → Prop} (h : Ints w v l) (hb : But w w' fp) (hn : ∀ k, v.ownBlock = some k → ¬ fp k) : Ints w' v l := by
  rcases h with h | ⟨g, rfl, hr⟩
  · exact .inl h
  · exact .inr ⟨g, rfl, hb.row hr (hn g rfl)⟩
theorem Ints.row {w : World} {v : Value} {l : List Nat} (h : Ints w v l) {g : Nat} (hg : v.ownBlock = some g) : Row w g 3 (l.map jv).toArray := by
  rcases h with ⟨rfl, _⟩ | ⟨g', rfl, hr⟩
  · cases hg
  · cases hg; exact hr
theorem Ints.pos {w : World} {v : Value} {l : List Nat} (h : Ints w v l) (h0 : 0 < l.length) : ∃ g, v = .slice (some ⟨g, 0, none⟩) l.length l.length ∧ Row w g 3 (l.map jv).toArray := by
  rcases h with ⟨_, rfl⟩ | h
  · cases h0
  · exact h
theorem Ints.shape {w : World} {v : Value} {l : List Nat} (h : Ints w v l) : ∃ a, v = .slice a l.length l.length := by
  rcases h with ⟨rfl, rfl⟩ | ⟨g, rfl, _⟩
  · exact ⟨_, rfl⟩
  · exact ⟨_, rfl⟩

/-- Where it lies: the struct, the headers, the blocks' slices by slab, the sets by class, and their lists. -/
structure SLay where
  gs : Nat
  gh : Nat
  n : Nat
  bv : Nat → Value
  gf : Nat → Nat
  fv : Nat → Value
def fpt (g : Nat) : Value := .pointer (some ⟨g, 0, none⟩)
def SLay.fp (y : SLay) (k : Nat) : Prop := k = y.gs ∨ k = y.gh ∨ (∃ c, c < 4 ∧ ffp (y.gf c) (y.fv c) k) ∨ ∃ i, i < y.n ∧ (y.bv i).ownBlock = some k

/-- The headers' cells. -/
def HCells (bv : Nat → Value) (hs : List Hd) (cs : Array Value) : Prop :=
  cs.size = 4 * hs.length ∧ ∀ i h, hs[i]? = some h → cs[i * 4]? = some (jv h.no) ∧ cs[i * 4 + 1]? = some (jv h.cls) ∧ cs[i * 4 + 2]? = some (wv h.bits) ∧ cs[i * 4 + 3]? = some (bv i)
/-- What must lie in memory; fs: which addresses each class's set has. -/
structure SlabMem (w : World) (y : SLay) (hs : List Hd) (fs : Nat → List Nat) : Prop where
  row : Row w y.gs 79 #[.slice (some ⟨y.gh, 0, none⟩) hs.length hs.length, fpt (y.gf 0), fpt (y.gf 1), fpt (y.gf 2), fpt (y.gf 3)]
  hdr : ∃ cs, Row w y.gh 99 cs ∧ HCells y.bv hs cs
  blk : ∀ i h, hs[i]? = some h → Ints w (y.bv i) h.bl
  bne : ∀ i j, i < hs.length → j < hs.length → i ≠ j → ∀ g, (y.bv i).ownBlock = some g → (y.bv j).ownBlock ≠ some g
  fre : ∀ c, c < 4 → SetAt w (y.gf c) (fs c) (y.fv c)
  gne : ∀ c d, c < 4 → d < 4 → c ≠ d → y.gf c ≠ y.gf d
  vne : ∀ c d, c < 4 → d < 4 → c ≠ d → ∀ g, (y.fv c).ownBlock = some g → (y.fv d).ownBlock ≠ some g
  len : y.n = hs.length
  pos : 0 < hs.length
  most : hs.length ≤ 64
  few : ∀ c, c < 4 → (fs c).length ≤ 100000
  lens : ∀ h, h ∈ hs → h.bl.length ≤ 15 ∧ h.cls ≤ 3
/-- What a call makes of it: the same struct, headers, sets; its blocks or new ones. -/
structure STurn (w w' : World) (y y' : SLay) : Prop where
  gs : y'.gs = y.gs
  gh : y'.gh = y.gh
  gf : y'.gf = y.gf
  but : But w w' y.fp
  fp : ∀ k, y'.fp k → y.fp k ∨ w.heap.size ≤ k
theorem STurn.refl (w : World) (y : SLay) : STurn w w y y := ⟨rfl, rfl, rfl, But.refl w _, fun _ h => .inl h⟩
theorem STurn.trans {w w1 w2 : World} {y y1 y2 : SLay} (h : STurn w w1 y y1) (h2 : STurn w1 w2 y1 y2) : STurn w w2 y y2 :=
  ⟨h2.gs.trans h.gs, h2.gh.trans h.gh, h2.gf.trans h.gf, h.but.trans h2.but h.fp, fun k hk => by
    rcases h2.fp k hk with h3 | h3
    · exact h.fp k h3
    · exact .inr (Nat.le_trans h.but.size h3)⟩
theorem STurn.of_below {w w' : World} (y : SLay) (h : Below w.heap.size w w') : STurn w w' y y := ⟨rfl, rfl, rfl, But.of_below h _, fun _ h => .inl h⟩
/-- A block's type. -/
def Tag (w : World) (k : Nat) (t : TypeId) : Prop := ∃ cs f, w.heap[k]? = some (.cells cs t f)
theorem Row.tag {w : World} {g : Nat} {t : TypeId} {cs : Array Value} (h : Row w g t cs) : Tag w g t := ⟨cs, _, h⟩
theorem Tag.same {w : World} {k : Nat} {t u : TypeId} (h : Tag w k t) (h2 : Tag w k u) : t = u := by
  obtain ⟨cs, f, h⟩ := h
  obtain ⟨cs2, f2, h2⟩ := h2
  rw [h] at h2
  cases h2
  rfl
theorem Adr.tag {w : World} {v : Value} {l : List Nat} (h : Adr w v l) {k : Nat} (hk : v.ownBlock = some k) : Tag w k 24 := by
  rcases h with ⟨rfl, _⟩ | ⟨b, off, cap, cur, rfl, hr, _⟩
  · cases hk
  · cases hk; exact hr.tag
theorem SetAt.tags {w : World} {g : Nat} {v : Value} {s : List Nat} (h : SetAt w g s v) : Tag w g 153 ∧ ∀ k, v.ownBlock = some k → Tag w k 24 := by
  obtain ⟨l, hF, _⟩ := h
  exact ⟨hF.1.tag, fun k hk => hF.2.1.tag hk⟩
section
variable {w w' : World} {y y' : SLay} {hs : List Hd} {fs : Nat → List Nat}
theorem SlabMem.tag (h : SlabMem w y hs fs) {k : Nat} (hk : y.fp k) : Tag w k 79 ∨ Tag w k 99 ∨ Tag w k 153 ∨ Tag w k 24 ∨ Tag w k 3 := by
  rcases hk with rfl | rfl | ⟨c, hc, hk⟩ | ⟨i, hi, hk⟩
  · exact .inl h.row.tag
  · obtain ⟨cs, hr, _⟩ := h.hdr
    exact .inr (.inl hr.tag)
  · rcases hk with rfl | hk
    · exact .inr (.inr (.inl (h.fre c hc).tags.1))
    · exact .inr (.inr (.inr (.inl ((h.fre c hc).tags.2 k hk))))
  · rw [h.len] at hi
    exact .inr (.inr (.inr (.inr ((h.blk i _ (List.getElem?_eq_getElem hi)).row hk).tag)))
theorem SlabMem.lt (h : SlabMem w y hs fs) {k : Nat} (hk : y.fp k) : k < w.heap.size := by
  rcases h.tag hk with ⟨_, _, h⟩ | ⟨_, _, h⟩ | ⟨_, _, h⟩ | ⟨_, _, h⟩ | ⟨_, _, h⟩ <;> exact heap_lt h
theorem SlabMem.keep {p : Nat → Prop} (h : SlabMem w y hs fs) (hb : But w w' p) (hn : ∀ k, y.fp k → ¬ p k) : SlabMem w' y hs fs := by
  obtain ⟨cs, hr, hc⟩ := h.hdr
  exact { h with
    row := hb.row h.row (hn _ (.inl rfl))
    hdr := ⟨cs, hb.row hr (hn _ (.inr (.inl rfl))), hc⟩
    blk := fun i x hx => (h.blk i x hx).keep hb fun k hk => hn k (.inr (.inr (.inr ⟨i, by rw [h.len]; exact (List.getElem?_eq_some_iff.1 hx).1, hk⟩)))
    fre := fun c hc => (h.fre c hc).keep hb fun k hk => hn k (.inr (.inr (.inl ⟨c, hc, hk⟩))) }
theorem SlabMem.below (h : SlabMem w y hs fs) (hb : Below w.heap.size w w') : SlabMem w' y hs fs := h.keep (But.of_below hb (fun _ => False)) (fun _ _ h => h)
theorem SlabMem.gs_gh (h : SlabMem w y hs fs) : y.gs ≠ y.gh := by
  obtain ⟨cs, hr, _⟩ := h.hdr
  intro e
  have := h.row.tag.same (e ▸ hr.tag)
  revert this; decide
theorem SlabMem.field (h : SlabMem w y hs fs) : w.cell? ⟨y.gs, 0, none⟩ = some (.slice (some ⟨y.gh, 0, none⟩) hs.length hs.length) := h.row.cell 0
theorem SlabMem.set4 (h : SlabMem w y hs fs) {c : Nat} (hc : c < 4) : w.cell? ⟨y.gs, 1 + c, none⟩ = some (fpt (y.gf c)) := by
  rw [h.row.cell]
  match c, hc with
  | 0, _ => rfl
  | 1, _ => rfl
  | 2, _ => rfl
  | 3, _ => rfl
theorem SlabMem.head (h : SlabMem w y hs fs) {i : Nat} {x : Hd} (hx : hs[i]? = some x) :
    w.cell? ⟨y.gh, i * 4, none⟩ = some (jv x.no) ∧ w.cell? ⟨y.gh, i * 4 + 1, none⟩ = some (jv x.cls) ∧ w.cell? ⟨y.gh, i * 4 + 2, none⟩ = some (wv x.bits) ∧ w.cell? ⟨y.gh, i * 4 + 3, none⟩ = some (y.bv i) := by
  obtain ⟨cs, hr, hc⟩ := h.hdr
  have := hc.2 i x hx
  refine ⟨?_, ?_, ?_, ?_⟩ <;> rw [hr.cell]
  · exact this.1
  · exact this.2.1
  · exact this.2.2.1
  · exact this.2.2.2
theorem SlabMem.hfree (h : SlabMem w y hs fs) (k : Nat) : w.frozen? ⟨y.gh, k, none⟩ = false := by
  obtain ⟨cs, hr, _⟩ := h.hdr
  exact hr.free k
end
end Go.Proofs.YthibbcokpmckfaaGreatDoor
/- The blocks' small functions: Slabs, none, isClass, isClient, at: what each answers. -/
namespace Go.Proofs.YthibbcokpmckfaaGreatDoor
open Go.RowKit Go.Sort
set_option linter.unusedVariables false
/-- A pointer to no blocks: nil, or zero ones. -/
def NoSlab (w : World) (p : Option Addr) : Prop := p = none ∨ ∃ g, p = some ⟨g, 0, none⟩ ∧ Row w g 79 #[.slice none 0 0, .pointer none, .pointer none, .pointer none, .pointer none]
theorem NoSlab.below {w w' : World} {p : Option Addr} (h : NoSlab w p) (hb : Below w.heap.size w w') : NoSlab w' p := by
  rcases h with h | ⟨g, h, hr⟩
  · exact .inl h
  · exact .inr ⟨g, h, hr.below hb hr.lt⟩
theorem slabs_none {p : Option Addr} {w : World} (h : NoSlab w p) : Calls Tryz.prog 37 #[.pointer p] w fun e w' => e = .returned (.int .i64 0) ∧ w = w' := by
  rcases h with rfl | ⟨g, rfl, hr⟩
  · go_enter Tryz.func37, Tryz.ntmps37
    go_wp2
    go_ret
    exact ⟨rfl, rfl⟩
  · have c0 := hr.cell 0
    simp only [List.getElem?_toArray, List.getElem?_cons_zero] at c0
    clear hr
    go_enter Tryz.func37, Tryz.ntmps37
    go_wp2
    go_ret
    exact ⟨rfl, rfl⟩
theorem slabs_at {w : World} {y : SLay} {hs : List Hd} {fs : Nat → List Nat} (h : SlabMem w y hs fs) : Calls Tryz.prog 37 #[fpt y.gs] w fun e w' => e = .returned (.int .i64 (hs.length : Int)) ∧ w = w' := by
  have c0 := h.field
  have hm := h.most
  obtain ⟨g, hg⟩ : ∃ g, g = y.gs := ⟨_, rfl⟩
  unfold fpt
  rw [← hg] at c0 ⊢
  generalize hs.length = n at *
  clear h hg
  go_enter Tryz.func37, Tryz.ntmps37
  go_wp2
  go_ret
  exact ⟨rfl, rfl⟩
theorem snone_none {p : Option Addr} {w : World} (h : NoSlab w p) : Calls Tryz.prog 51 #[.pointer p] w fun e w' => e = .returned (.bool true) ∧ w = w' := by
  have H := Lib.hid (slabs_none h)
  clear h
  go_enter Tryz.func51, Tryz.ntmps51
  go_wp2_with fail
  refine H.out.mono ?_
  rintro e w1 ⟨rfl, rfl⟩
  go_wp2
  go_ret
  exact ⟨rfl, rfl⟩
theorem snone_at {w : World} {y : SLay} {hs : List Hd} {fs : Nat → List Nat} (h : SlabMem w y hs fs) : Calls Tryz.prog 51 #[fpt y.gs] w fun e w' => e = .returned (.bool false) ∧ w = w' := by
  have H := Lib.hid (slabs_at h)
  have hp := h.pos
  have hz : ((hs.length : Int) == 0) = false := by rw [Bool.eq_false_iff]; intro k; have := beq_iff_eq.1 k; omega
  generalize hs.length = n at *
  clear h hp
  unfold fpt at H ⊢
  go_enter Tryz.func51, Tryz.ntmps51
  go_wp2_with fail
  refine H.out.mono ?_
  rintro e w1 ⟨rfl, rfl⟩
  go_wp2
  go_ret
  exact ⟨rfl, rfl⟩
theorem sClass_at {n : Int} {b : Bool} (hb : inB n 1 3 = b) (w : World) : Calls Tryz.prog 52 #[.int .i64 n] w fun e w' => e = .returned (.bool b) ∧ w = w' := by
  subst hb
  by_cases h0 : 1 ≤ n
  · have d1 : decide (1 ≤ n) = true := by simpa using h0
    by_cases h1 : n ≤ 3
    · rw [inB_yes ⟨h0, h1⟩]
      go_enter Tryz.func52, Tryz.ntmps52
      go_wp2
      go_ret
      exact ⟨rfl, rfl⟩
    · rw [inB_no (by omega)]
      have d2 : decide (n ≤ 3) = false := by simp; omega
      go_enter Tryz.func52, Tryz.ntmps52
      go_wp2
      go_ret
      exact ⟨rfl, rfl⟩
  · rw [inB_no (by omega)]
    have d2 : decide (1 ≤ n) = false := by simp; omega
    go_enter Tryz.func52, Tryz.ntmps52
    go_wp2
    go_ret
    exact ⟨rfl, rfl⟩
theorem sClient_at {n : Int} {b : Bool} (hb : inB n 0 64 = b) (w : World) : Calls Tryz.prog 101 #[.int .i64 n] w fun e w' => e = .returned (.bool b) ∧ w = w' := by
  subst hb
  by_cases h0 : 0 ≤ n
  · by_cases h1 : n ≤ 64
    · rw [inB_yes ⟨h0, h1⟩]
      go_enter Tryz.func101, Tryz.ntmps101
      go_wp2
      go_ret
      exact ⟨rfl, rfl⟩
    · rw [inB_no (by omega)]
      have d2 : decide (n ≤ 64) = false := by simp; omega
      go_enter Tryz.func101, Tryz.ntmps101
      go_wp2
      go_ret
      exact ⟨rfl, rfl⟩
  · rw [inB_no (by omega)]
    have d2 : decide (0 ≤ n) = false := by simp; omega
    go_enter Tryz.func101, Tryz.ntmps101
    go_wp2
    go_ret
    exact ⟨rfl, rfl⟩
/-- Where the block j of the slab begins whose header lies at g, from o on. -/
theorem at_any {w : World} {g o : Nat} {no c : Int} (h0 : w.cell? ⟨g, o, none⟩ = some (.int .i64 no)) (h1 : w.cell? ⟨g, o + 1, none⟩ = some (.int .i64 c)) (R : Rms w) (j : Int) :
    Calls Tryz.prog 77 #[.pointer (some ⟨g, o, none⟩), .int .i64 j] w fun e w' => e = .returned (.int .u64 (blkA no c j)) ∧ Below w.heap.size w w' := by
  have mixed : Tryz.prog.follows .mixedOrders = true := by kernel_rfl
  have HB := Lib.hid fun (p : LowBy w) => Calls.low_of_gr (block_any no c j p.W (by obtain ⟨t, h⟩ := R; exact ⟨t, p.heap h⟩))
  have ca := fun p : LowBy w => p.cell h0
  have cb := fun p : LowBy w => p.cell h1
  clear h0 h1 R
  go_enter Tryz.func77, Tryz.ntmps77
  go_wp2_with fail
  refine wp_region_quiet_low (by assumption) (by kernel_rfl) ?_
  repeat (go_big_quiet_step ((go_at_call 104; with_reducible exact HB.out _)))
  refine wpQuiet_nil ?_
  intro _ hw'
  obtain ⟨p, hw''⟩ := hw'
  subst hw''
  have hp := Lib.hid p.low
  go_wp2
  go_ret
  exact ⟨rfl, hp.out⟩
end Go.Proofs.YthibbcokpmckfaaGreatDoor
/- find: the slab in which a block begins at an address, and which block it is; Is. -/
namespace Go.Proofs.YthibbcokpmckfaaGreatDoor
open Go.RowKit Go.Sort
set_option linter.unusedVariables false
/-- Slabs are numbered as they lie, and have as many blocks as their class says. -/
def HsOk (hs : List Hd) : Prop := ∀ i x, hs[i]? = some x → x.no = i + 1 ∧ x.bl.length = blN x.cls
def Found (hs : List Hd) (a i j : Nat) : Prop := ∃ x, hs[i]? = some x ∧ j < x.bl.length ∧ adr x.no x.cls j = a
theorem found_lt {hs : List Hd} (ok : HsOk hs) (hm : hs.length ≤ 64) {a b i j i' j' : Nat} (h : Found hs a i j) (h' : Found hs b i' j') (hl : i < i' ∨ i = i' ∧ j < j') : a < b := by
  obtain ⟨x, hx, hj, rfl⟩ := h
  obtain ⟨x', hx', hj', rfl⟩ := h'
  have o := ok i x hx
  have o' := ok i' x' hx'
  have hi := (List.getElem?_eq_some_iff.1 hx).1
  rw [o.2] at hj
  rw [o'.2] at hj'
  rcases hl with hl | ⟨rfl, hl⟩
  · have := adr_le (no := x.no) (by omega) hj
    have h1 := blN_pos hj
    have h2 : 1024 * x'.no ≤ adr x'.no x'.cls j' := by unfold adr; omega
    omega
  · have : x = x' := Option.some.inj (hx.symm.trans hx')
    subst this
    have h1 := blN_pos hj
    unfold adr
    have : 64 * x.cls * j < 64 * x.cls * j' := Nat.mul_lt_mul_of_pos_left hl (by omega)
    omega
theorem found_one {hs : List Hd} (ok : HsOk hs) (hm : hs.length ≤ 64) {a i j i' j' : Nat} (h : Found hs a i j) (h' : Found hs a i' j') : i = i' ∧ j = j' := by
  by_cases h1 : i < i' ∨ i = i' ∧ j < j'
  · have := found_lt ok hm h h' h1; omega
  · by_cases h2 : i' < i ∨ i' = i ∧ j' < j
    · have := found_lt ok hm h' h h2; omega
    · omega
theorem found_range {hs : List Hd} (ok : HsOk hs) (hm : hs.length ≤ 64) {a i j : Nat} (h : Found hs a i j) : 1088 ≤ a ∧ a ≤ 66560 ∧ a % 64 = 0 := by
  obtain ⟨x, hx, hj, rfl⟩ := h
  have o := ok i x hx
  have hi := (List.getElem?_eq_some_iff.1 hx).1
  rw [o.2] at hj
  have := adr_le (no := x.no) (by omega) hj
  refine ⟨by unfold adr; omega, by omega, ?_⟩
  unfold adr
  rw [Nat.mul_assoc]
  omega
def FindPost (w : World) (y : SLay) (hs : List Hd) (a : Nat) (e : Ending) (w' : World) : Prop :=
  ((∃ i j, Found hs a i j ∧ e = .returned (.tuple #[.pointer (some ⟨y.gh, i * 4, none⟩), jv j])) ∨ ((∀ i j, ¬ Found hs a i j) ∧ e = .returned (.tuple #[.pointer none, .int .i64 0]))) ∧ Below w.heap.size w w'
def FindO (w : World) (hs : List Hd) (a n : Nat) (v : Value) (wr : World) : Prop := ∃ i : Nat, i ≤ n ∧ v = .int .i64 (i : Int) ∧ Below w.heap.size w wr ∧ ∀ i' j, i' < i → ¬ Found hs a i' j
def FindI (w : World) (hs : List Hd) (a i m : Nat) (v : Value) (wr : World) : Prop := ∃ j : Nat, j ≤ m ∧ v = .int .i64 (j : Int) ∧ Below w.heap.size w wr ∧ ∀ j', j' < j → ¬ Found hs a i j'
theorem find_none {p : Option Addr} {w : World} (h : NoSlab w p) (a : Int) : Calls Tryz.prog 50 #[.pointer p, .int .u64 a] w fun e w' => e = .returned (.tuple #[.pointer none, .int .i64 0]) ∧ w = w' := by
  have H := Lib.hid (slabs_none h)
  clear h
  go_enter Tryz.func50, Tryz.ntmps50
  go_wp2_with fail
  go_step3
  go_wp2_with fail
  go_step3
  go_wp2_with fail
  refine H.out.mono ?_
  rintro e w1 ⟨rfl, rfl⟩
  go_wp2
  go_loopw [12] (fun v wr => v = .int .i64 0 ∧ w = wr) (fun _ _ => 0)
  case atStart => exact ⟨rfl, rfl⟩
  case round =>
    obtain ⟨rfl, rfl⟩ := hrel
    go_wp2
    rw [Exit.noGoto_ret]
    go_ret2
    exact ⟨rfl, rfl⟩
set_option maxRecDepth 100000 in
set_option maxHeartbeats 1600000 in
theorem find_any {w : World} {y : SLay} {hs : List Hd} {fs : Nat → List Nat} (h : SlabMem w y hs fs) (ok : HsOk hs) (R : Rms w) (a : Nat) :
    Calls Tryz.prog 50 #[fpt y.gs, wv a] w (FindPost w y hs a) := by
  have HM := Lib.hid h
  have HR := Lib.hid R
  have HO := Lib.hid ok
  have hmost := h.most
  have HS := Lib.hid (slabs_at h)
  obtain ⟨n, hn⟩ : ∃ n, n = hs.length := ⟨_, rfl⟩
  rw [← hn] at HS hmost
  have HN := Lib.hid hn
  obtain ⟨gs, hgs⟩ : ∃ g, g = y.gs := ⟨_, rfl⟩
  obtain ⟨gh, hgh⟩ : ∃ g, g = y.gh := ⟨_, rfl⟩
  have HP := Lib.hid (show ∀ e w', ((∃ i j, Found hs a i j ∧ e = .returned (.tuple #[.pointer (some ⟨gh, i * 4, none⟩), jv j])) ∨ ((∀ i j, ¬ Found hs a i j) ∧ e = .returned (.tuple #[.pointer none, .int .i64 0]))) ∧ Below w.heap.size w w' → FindPost w y hs a e w' from fun e w' k => by rw [hgh] at k; exact k)
  have HC := Lib.hid (fun (W : World) (hb : Below w.heap.size w W) => (h.below hb).field)
  have HH := Lib.hid (fun (W : World) (hb : Below w.heap.size w W) (i : Nat) (x : Hd) (hx : hs[i]? = some x) => (h.below hb).head hx)
  unfold fpt at HS ⊢
  unfold wv
  rw [← hgs] at HS HC ⊢
  rw [← hgh] at HC HH
  rw [← hn] at HC
  clear h ok R hn hgs hgh
  go_enter Tryz.func50, Tryz.ntmps50
  go_wp2_with fail
  go_step3
  go_wp2_with fail
  go_step3
  go_wp2_with fail
  refine HS.out.mono ?_
  rintro e w1 ⟨rfl, rfl⟩
  go_wp2
  go_loopw [12] (fun v wr => FindO w hs a n v wr) (fun v _ => n - (intOf v).toNat)
  case atStart => exact ⟨0, by omega, rfl, Below.refl _ _, fun _ _ h => by omega⟩
  case round =>
    obtain ⟨i, hi, rfl, hb, hno⟩ := hrel
    rename World => wr
    have HB := Lib.hid hb
    have HNO := Lib.hid hno
    by_cases hlt : i < n
    · have hxe := List.getElem?_eq_getElem (l := hs) (i := i) (by rw [← HN.out]; exact hlt)
      obtain ⟨x, hx⟩ : ∃ x, hs[i]? = some x := ⟨_, hxe⟩
      have c0 := HC.out wr hb
      have c3 := (HH.out wr hb i x hx).2.2.2
      obtain ⟨ad, hsh⟩ := (HM.out.blk i x hx).shape
      rw [hsh] at c3
      have hl := (HM.out.lens x (List.mem_of_getElem? hx)).1
      have HX := Lib.hid hx
      have hno' := (HO.out i x hx).1
      have hbl := (HO.out i x hx).2
      obtain ⟨m, hm⟩ : ∃ m, m = x.bl.length := ⟨_, rfl⟩
      rw [← hm] at c3 hl hbl
      have HMM := Lib.hid hm
      have HNOX := Lib.hid hno'
      have HBL := Lib.hid hbl
      clear hb hno hxe hx hsh hm hno' hbl
      go_wp2
      go_loopw [26] (fun v wr2 => FindI w hs a i m v wr2) (fun v _ => m - (intOf v).toNat)
      case atStart => exact ⟨0, by omega, rfl, HB.out, fun _ h => by omega⟩
      case round =>
        obtain ⟨j, hj, rfl, hb2, hno2⟩ := hrel
        rename World => wr2
        clear c0 c3
        have HB2 := Lib.hid hb2
        have HNO2 := Lib.hid hno2
        by_cases hjt : j < m
        · have hf : Found hs (adr x.no x.cls j) i j := ⟨x, HX.out, by rw [← HMM.out]; exact hjt, rfl⟩
          have hr := found_range HO.out (by rw [← HN.out]; exact hmost) hf
          have HA := Lib.hid (at_any (HH.out wr2 hb2 i x HX.out).1 (HH.out wr2 hb2 i x HX.out).2.1 (HR.out.below hb2) (j : Int))
          rw [adr_blk (by rw [HNOX.out]; omega) (by rw [HNOX.out]; omega) (by rw [← HBL.out]; exact hjt)] at HA
          have HF := Lib.hid hf
          obtain ⟨A, hA⟩ : ∃ A, A = adr x.no x.cls j := ⟨_, rfl⟩
          rw [← hA] at HA HF hr
          clear hb2 hno2 hf hA
          by_cases he : A = a
          · subst he
            go_wp2_with fail
            refine HA.out.mono ?_
            rintro e w3 ⟨rfl, hb3⟩
            have HE := Lib.hid (Below.and HB2.out (hb3.mono (Nat.le_refl _)))
            clear hb3
            go_wp2
            rw [Exit.noGoto_ret]
            go_ret2
            refine HP.out _ _ ⟨.inl ⟨i, j, HF.out, rfl⟩, HE.out⟩
          · have hne : ((A : Int) == (a : Int)) = false := by rw [Bool.eq_false_iff]; intro k; have := beq_iff_eq.1 k; omega
            have hne2 : (A == a) = false := by simpa using he
            by_cases hgt : a < A
            · have hd : decide ((a : Int) < (A : Int)) = true := by simp; omega
              go_wp2_with fail
              refine HA.out.mono ?_
              rintro e w3 ⟨rfl, hb3⟩
              have HE := Lib.hid (Below.and HB2.out (hb3.mono (Nat.le_refl _)))
              have HZ := Lib.hid (show ∀ i' j', ¬ Found hs a i' j' from fun i' j' hf' => by
                by_cases h1 : i' < i
                · exact HNO.out i' j' h1 hf'
                · by_cases h2 : i' = i
                  · subst h2
                    by_cases h3 : j' < j
                    · exact HNO2.out j' h3 hf'
                    · by_cases h4 : j' = j
                      · subst h4
                        obtain ⟨x1, hx1, _, ha1⟩ := hf'
                        obtain ⟨x2, hx2, _, ha2⟩ := HF.out
                        rw [hx1] at hx2
                        cases hx2
                        omega
                      · have := found_lt HO.out (by rw [← HN.out]; exact hmost) HF.out hf' (.inr ⟨rfl, by omega⟩)
                        omega
                  · have := found_lt HO.out (by rw [← HN.out]; exact hmost) HF.out hf' (.inl (by omega))
                    omega)
              clear hb3
              go_wp2
              rw [Exit.noGoto_ret]
              go_ret2
              exact HP.out _ _ ⟨.inr ⟨HZ.out, rfl⟩, HE.out⟩
            · have hd : decide ((a : Int) < (A : Int)) = false := by simp; omega
              go_wp2_with fail
              refine HA.out.mono ?_
              rintro e w3 ⟨rfl, hb3⟩
              have HE := Lib.hid (Below.and HB2.out (hb3.mono (Nat.le_refl _)))
              clear hb3
              go_wp2
              go_roundw
              case rel => exact ⟨j + 1, by omega, by go_num, HE.out, fun j' hj' hf' => by
                by_cases h1 : j' < j
                · exact HNO2.out j' h1 hf'
                · obtain rfl : j' = j := by omega
                  obtain ⟨x1, hx1, _, ha1⟩ := hf'
                  obtain ⟨x2, hx2, _, ha2⟩ := HF.out
                  rw [hx1] at hx2
                  cases hx2
                  omega⟩
              case measure => simp [intOf]; omega
        · have hjm : j = m := by omega
          have HE := Lib.hid (show ∀ i' j', i' < i + 1 → ¬ Found hs a i' j' from fun i' j' h1 hf' => by
            by_cases h2 : i' < i
            · exact HNO.out i' j' h2 hf'
            · obtain rfl : i' = i := by omega
              refine HNO2.out j' ?_ hf'
              obtain ⟨x1, hx1, hj1, _⟩ := hf'
              rw [HX.out] at hx1
              cases hx1
              rw [hjm, HMM.out]
              exact hj1)
          clear hb2 hno2 hjm
          go_wp2
          go_roundw
          case rel => exact ⟨i + 1, by omega, by go_num, HB2.out, HE.out⟩
          case measure => simp [intOf]; omega
    · have hin : i = n := by omega
      have HZ := Lib.hid (show ∀ i' j', ¬ Found hs a i' j' from fun i' j' hf' => by
        refine HNO.out i' j' ?_ hf'
        obtain ⟨x1, hx1, _⟩ := hf'
        have := (List.getElem?_eq_some_iff.1 hx1).1
        rw [hin, HN.out]
        exact this)
      clear hb hno hin
      go_wp2
      rw [Exit.noGoto_ret]
      go_ret2
      exact HP.out _ _ ⟨.inr ⟨HZ.out, rfl⟩, HB.out⟩
end Go.Proofs.YthibbcokpmckfaaGreatDoor
