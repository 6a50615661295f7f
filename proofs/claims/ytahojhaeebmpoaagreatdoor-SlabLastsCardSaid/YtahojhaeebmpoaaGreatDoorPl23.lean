/- Texts of this claim, packed: PCrash, PNo, PLook, POk, PLoad, PCrashE, PLines. -/
import Derived.Test.YtahojhaeebmpoaaGreatDoorPl20
import Derived.Test.YtahojhaeebmpoaaGreatDoorPl21
import Derived.Test.YtahojhaeebmpoaaGreatDoorPl17
import Derived.Test.YtahojhaeebmpoaaGreatDoorPl22
import Derived.BigQuiet
/- Crash: a front of each line's pending stores lasts, all others are lost; for states that a memory can have, and a list of numbers that lies in other memory. -/
namespace Go.Proofs.YtahojhaeebmpoaaGreatDoor
open Go.RowKit Go.Shelf
set_option linter.unusedVariables false
attribute [local go_sem] Oper.semAt_some

theorem lines_any (p : Option Addr) (w : World) : Calls Tryz.prog 58 #[.pointer p] w fun e w' => e = .returned (.func (.func 89) #[] #[.pointer (some ⟨w.heap.size, 0, none⟩)]) ∧ w.alloc (.cells #[.pointer p] 48) = w' := by
  go_enter Tryz.func58, Tryz.ntmps58
  go_wp2
  go_ret
  exact ⟨rfl, rfl⟩
def CrI (W0 : World) (y : Lay) (s : St) (keep : List Int) (k : Nat) (W : World) : Prop :=
  ∃ y', MemAt W y' (s.crashTo keep ((nz s.pend).take k)) ∧ Turn W0 W y y' ∧ y'.gp = y.gp ∧ y'.mb = y.mb ∧ ∀ j : Nat, (∀ (i : Nat) (q : Nat × Nat), (nz s.pend)[i]? = some q → i < k → q.2 < j) → y'.ps[j]? = y.ps[j]?
theorem fp_cells {w : World} {y : Lay} {s : St} (h : MemAt w y s) {k : Nat} (hk : y.fp k) : (∃ cs t, w.heap[k]? = some (.cells cs t (0, 0))) ∨ k = y.mb := by
  rcases hk with rfl | rfl | rfl | rfl | rfl | ⟨j, v, hv, hk⟩
  · exact .inl ⟨_, _, h.row⟩
  · obtain ⟨c, hc⟩ := own_at h.las
    exact .inl ⟨_, _, hc⟩
  · obtain ⟨c, hc⟩ := own_at h.vie
    exact .inl ⟨_, _, hc⟩
  · obtain ⟨c, hc⟩ := own_at h.pen
    exact .inl ⟨_, _, hc⟩
  · exact .inr rfl
  · obtain ⟨c, hc⟩ := ps_row h hv hk
    exact .inl ⟨_, _, hc⟩
theorem cri_stay {W0 : World} {y : Lay} {s : St} {keep : List Int} (hmb : y.mb < W0.heap.size) (k : Nat) (W W' : World) (row : Option Nat) (h : CrI W0 y s keep k W) (hg : W.grownBy W' row)
    (hr : ∀ r, row = some r → W0.heap.size ≤ r ∧ ∃ o : Obj, W.heap[r]? = some o ∧ o.isCells = false) : CrI W0 y s keep k W' := by
  obtain ⟨y', hm, ht, h1, h2, h3⟩ := h
  have hn : ∀ q, y'.fp q → some q ≠ row := by
    intro q hq e
    obtain ⟨h4, o, ho, hc⟩ := hr q e.symm
    rcases fp_cells hm hq with ⟨cs, t, h5⟩ | h5
    · rw [h5] at ho
      cases ho
      cases hc
    · omega
  refine ⟨y', hm.same fun q hq => hg.block q (hm.lt q hq) (hn q hq), ⟨ht.g, ht.but.trans (q := fun q => W0.heap.size ≤ q) ⟨hg.os, hg.tape, hg.output, hg.size, fun q hq hq2 => hg.block q hq (fun e => hq2 (hr q e.symm).1)⟩ (fun q hq => .inr hq), ht.fp⟩, h1, h2, h3⟩
theorem cri_next {W0 W W1 W2 : World} {y y' y1 y2 : Lay} {s : St} {keep : List Int} {k : Nat} {x : Nat × Nat} (hx : (nz s.pend)[k]? = some x)
    (ht : Turn W0 W y y') (hgp : y'.gp = y.gp) (hmb : y'.mb = y.mb) (hps : ∀ j : Nat, (∀ (i : Nat) (q : Nat × Nat), (nz s.pend)[i]? = some q → i < k → q.2 < j) → y'.ps[j]? = y.ps[j]?)
    (t1 : Turn W W1 y' y1) (n1 : y'.Near y1 x.2) (t2 : Turn W1 W2 y1 y2) (n2 : y1.Near y2 x.2) (hm : MemAt W2 y2 ((s.crashTo keep ((nz s.pend).take k)).crash1 keep x)) : CrI W0 y s keep (k + 1) W2 := by
  have hkl := (List.getElem?_eq_some_iff.1 hx).1
  have hxe : (nz s.pend)[k] = x := (List.getElem?_eq_some_iff.1 hx).2
  refine ⟨y2, ?_, (ht.trans t1).trans t2, n2.2.1.trans (n1.2.1.trans hgp), n2.2.2.2.1.trans (n1.2.2.2.1.trans hmb), ?_⟩
  · rw [List.take_succ_eq_append_getElem hkl, crashTo_snoc, hxe]
    exact hm
  · intro j hj
    have hxj : x.2 < j := hj k x hx (by omega)
    rw [n2.2.2.2.2.2.2.2.2 j (by omega), n1.2.2.2.2.2.2.2.2 j (by omega)]
    exact hps j fun i q hq hi => hj i q hq (by omega)
end Go.Proofs.YtahojhaeebmpoaaGreatDoor
/- No memory, nil or zero: what Load, Evict, Fence, Stats, Copy, Same, Lines and Crash make of it; and Lines of a memory with nothing pending. -/
namespace Go.Proofs.YtahojhaeebmpoaaGreatDoor
open Go.RowKit Go.Shelf
set_option linter.unusedVariables false
attribute [local go_sem] Oper.semAt_some

end Go.Proofs.YtahojhaeebmpoaaGreatDoor
/- Pending, Load, Evict, Stats, Fence and Crash where they are refused, and where they are not: what each answers; for states that a memory can have. -/
namespace Go.Proofs.YtahojhaeebmpoaaGreatDoor
open Go.RowKit
set_option linter.unusedVariables false

end Go.Proofs.YtahojhaeebmpoaaGreatDoor
/- A new memory's state, and those behind stores, flushes, fences and crashes, are such as a memory can have. -/
namespace Go.Proofs.YtahojhaeebmpoaaGreatDoor
open Go.RowKit
set_option linter.unusedVariables false
theorem zero_Ok (nl : Nat) : (St.zero nl).Ok := by
  refine ⟨?_, ?_, ?_, ?_, ?_, ?_⟩
  · intro x hx
    rw [List.eq_of_mem_replicate hx]
    decide
  · intro x hx
    rw [List.eq_of_mem_replicate hx]
    decide
  · intro j l hl p hp
    rw [List.eq_of_mem_replicate (List.mem_of_getElem? hl)] at hp
    cases hp
  · intro l hl
    rw [List.eq_of_mem_replicate hl]
    decide
  · intro j c
    exact Nat.zero_le _
  · exact ⟨(by decide : 0 < 9223372036854775808), (by decide : 0 < 9223372036854775808), (by decide : 0 < 9223372036854775808), (by decide : 0 < 9223372036854775808)⟩
theorem store_Ok {s : St} (ok : s.Ok) {a v : Nat} (h8 : a % 8 = 0) (ha : a / 64 < s.pend.length) (hv : v < 18446744073709551616) (hst : s.st + 1 < 9223372036854775808) (hn : (s.pend.getD (a / 64) []).length + 1 ≤ 1000000000) : (s.store a v).Ok := by
  have hgi := getD_at (d := ([] : List (Nat × Nat))) ha
  refine ⟨ok.las, ?_, ?_, ?_, ?_, ⟨ok.num.1, hst, ok.num.2.2⟩⟩
  · intro x hx
    rcases List.mem_or_eq_of_mem_set hx with h | rfl
    · exact ok.vie x h
    · exact hv
  · intro j l hl p hp
    have hl' : (s.pend.set (a / 64) (s.pend.getD (a / 64) [] ++ [(a, v)]))[j]? = some l := hl
    rw [List.getElem?_set] at hl'
    by_cases e : a / 64 = j
    · rw [if_pos e, if_pos ha] at hl'
      cases hl'
      rcases List.mem_append.1 hp with h | h
      · rw [hgi] at h
        rw [← e]
        exact ok.put _ _ (List.getElem?_eq_getElem ha) p h
      · have : p = (a, v) := by simpa using h
        subst this
        exact ⟨h8, e, hv⟩
    · rw [if_neg e] at hl'
      exact ok.put j l hl' p hp
  · intro l hl
    rcases List.mem_or_eq_of_mem_set hl with h | h
    · exact ok.few l h
    · rw [h, List.length_append]
      simpa using hn
  · intro j c
    show s.mm j c ≤ ((s.pend.set (a / 64) (s.pend.getD (a / 64) [] ++ [(a, v)])).getD j []).length
    rw [set_getD ha]
    have := ok.mks j c
    by_cases e : j = a / 64
    · rw [if_pos e, List.length_append, ← e]
      omega
    · rw [if_neg e]
      exact this
theorem flush_Ok {s : St} (ok : s.Ok) {c a : Nat} (hfl : s.fl + 1 < 9223372036854775808) : (s.flush c a).Ok := by
  refine ⟨ok.las, ok.vie, ok.put, ok.few, ?_, ⟨ok.num.1, ok.num.2.1, hfl, ok.num.2.2.2⟩⟩
  intro j q
  show (if (s.pend.getD (a / 64) []).length = 0 then s.mm else upd s.mm (a / 64) fun k => if k = c then (s.pend.getD (a / 64) []).length else s.mm (a / 64) k) j q ≤ (s.pend.getD j []).length
  by_cases h0 : (s.pend.getD (a / 64) []).length = 0
  · rw [if_pos h0]
    exact ok.mks j q
  · rw [if_neg h0]
    unfold upd
    by_cases e : j = a / 64
    · rw [if_pos e]
      by_cases e2 : q = c
      · rw [if_pos e2, e]
        exact Nat.le_refl _
      · rw [if_neg e2, e]
        exact ok.mks _ q
    · rw [if_neg e]
      exact ok.mks j q
theorem fence_Ok {s : St} (ok : s.Ok) {c : Nat} (hfe : s.fe + 1 < 9223372036854775808) : (s.fence c).Ok :=
  fenV_ok (s := { s with fe := s.fe + 1 }) ⟨ok.las, ok.vie, ok.put, ok.few, ok.mks, ⟨ok.num.1, ok.num.2.1, ok.num.2.2.1, hfe⟩⟩ c _
def k1 : St := (St.zero 2).store 0 1
def k2 : St := k1.store 8 2
def k3 : St := k2.flush 0 0
def k4 : St := k3.store 0 3
def k5 : St := k4.fence 0
def k6 : St := k5.store 64 5
def k7 : St := k6.crash [0, 1]
end Go.Proofs.YtahojhaeebmpoaaGreatDoor
/- Load, Evict and Stats of a memory that is there: what each answers; and Fence, Evict where they are refused; for states that a memory can have. -/
namespace Go.Proofs.YtahojhaeebmpoaaGreatDoor
open Go.RowKit
set_option linter.unusedVariables false
def AnsPost (w : World) (y : Lay) (s' : St) (v : Value) (e : Ending) (w' : World) : Prop := e = .returned v ∧ ∃ y', MemAt w' y' s' ∧ Turn w w' y y'
set_option maxHeartbeats 1600000 in
theorem load_okY {w : World} {y : Lay} {s : St} (h : MemAt w y s) (ok : s.Ok) (a : Nat) (h8 : a % 8 = 0) (ha : a < 64 * s.nl) :
    Calls Tryz.prog 78 #[.pointer (some ⟨y.g, 0, none⟩), .int .u64 (a : Int)] w fun e w' => e = .returned (.tuple #[.int .u64 ((s.view.getD (a / 8) 0 : Nat) : Int), .int .i64 0]) ∧ MemAt w' y { s with ld := s.ld + 1 } ∧ Turn w w' y y := by
  have HR := Lib.hid (refused_ok h a h8 ha)
  have hmost := h.most
  have hd := h.differ
  have c1 := h.row.cell 1
  have c4 := h.row.cell 4
  simp only [List.getElem?_toArray, List.getElem?_cons_succ, List.getElem?_cons_zero] at c1 c4
  have f4 := h.row.free 4
  have hld := ok.num.1
  have hvl : a / 8 < s.view.length := by have := ownsRow_len h.vie; omega
  obtain ⟨W0, hW0⟩ : ∃ W0, W0 = w.setCell ⟨y.g, 4, none⟩ (wv (s.ld + 1)) := ⟨_, rfl⟩
  have hm0 : MemAt W0 y { s with ld := s.ld + 1 } := by
    rw [hW0]
    exact mem_marks h rfl rfl rfl rfl (h.row.set 4 _) (fun k _ h1 _ => heap_setCell_other _ _ _ _ h1) (h.marks.same (heap_setCell_other _ _ _ _ (Ne.symm hd.g_mb)))
  have ht0 : Turn w W0 y y := by
    rw [hW0]
    exact ⟨rfl, (But.refl w _).set (p := ⟨y.g, 4, none⟩) (.inl rfl) _, fun _ h => .inl h⟩
  have hv : W0.cell? ⟨y.gv, a / 8, none⟩ = some (.int .u64 ((s.view.getD (a / 8) 0 : Nat) : Int)) := by
    rw [hW0, cell_far hd.g_gv, h.vie.cellAt (a / 8) (by omega), List.getElem?_map, List.getElem?_eq_getElem hvl, getD_at hvl]
    rfl
  have d1 : W0.cell? ⟨y.g, 1, none⟩ = some (.slice (some ⟨y.gv, 0, none⟩) (8 * s.nl) y.cv) := by
    rw [hW0, cell_else (by decide)]
    exact c1
  unfold wv at c4
  rw [show wv (s.ld + 1) = .int .u64 ((s.ld : Int) + 1) from rfl] at hW0
  have HM := Lib.hid hm0
  have HT := Lib.hid ht0
  obtain ⟨N, hN⟩ : ∃ N, N = 8 * s.nl := ⟨_, rfl⟩
  rw [← hN] at d1
  have ebN : (a : Int) / 8 < (N : Int) := by omega
  have haB : a < 1048576 := by omega
  obtain ⟨u, hu⟩ : ∃ u, u = s.view.getD (a / 8) 0 := ⟨_, rfl⟩
  rw [← hu] at hv ⊢
  clear hm0 ht0 c1 hvl ok hN hd h hu h8 ha
  subst hW0
  go_enter Tryz.func78, Tryz.ntmps78
  go_wp2_with fail
  refine HR.out.mono ?_
  rintro e w1 ⟨rfl, rfl⟩
  go_wp2
  go_ret2
  exact ⟨rfl, HM.out, HT.out⟩
theorem load_ok {w : World} {y : Lay} {s : St} (h : MemAt w y s) (ok : s.Ok) (a : Nat) (h8 : a % 8 = 0) (ha : a < 64 * s.nl) :
    Calls Tryz.prog 78 #[.pointer (some ⟨y.g, 0, none⟩), .int .u64 (a : Int)] w (AnsPost w y { s with ld := s.ld + 1 } (.tuple #[.int .u64 ((s.view.getD (a / 8) 0 : Nat) : Int), .int .i64 0])) :=
  (load_okY h ok a h8 ha).mono fun _ _ ⟨e, hm, ht⟩ => ⟨e, y, hm, ht⟩
theorem evict_arg {w : World} {y : Lay} {s : St} (h : MemAt w y s) (a n : Int) (hn : n < 0) : Calls Tryz.prog 56 #[.pointer (some ⟨y.g, 0, none⟩), .int .u64 a, .int .i64 n] w fun e w' => e = .returned (.tuple #[.int .i64 0, .int .i64 2]) ∧ w = w' := by
  have H := Lib.hid (refused_arg h a)
  obtain ⟨g, hg⟩ : ∃ g, g = y.g := ⟨_, rfl⟩
  rw [← hg] at H ⊢
  have d : decide (n < 0) = true := by simp; omega
  have d2 : decide (0 ≤ n) = false := by simp; omega
  clear h hg
  go_enter Tryz.func56, Tryz.ntmps56
  go_wp2_with fail
  refine H.out.mono ?_
  rintro e w1 ⟨rfl, rfl⟩
  go_wp2
  go_ret2
  exact ⟨rfl, rfl⟩
theorem stats_yes {w : World} {y : Lay} {s : St} (h : MemAt w y s) : Calls Tryz.prog 111 #[.pointer (some ⟨y.g, 0, none⟩)] w fun e w' => e = .returned (.agg #[wv s.ld, wv s.st, wv s.fl, wv s.fe]) ∧ Below w.heap.size w w' := by
  have H := Lib.hid (none_yes (h.below (alloc_below w (.cells #[.int .u64 0, .int .u64 0, .int .u64 0, .int .u64 0] 114))))
  have hb := alloc_below w (.cells #[.int .u64 0, .int .u64 0, .int .u64 0, .int .u64 0] 114)
  have hr := (h.below hb).row
  have d4 := hr.cell 4
  have d5 := hr.cell 5
  have d6 := hr.cell 6
  have d7 := hr.cell 7
  simp only [List.getElem?_toArray, List.getElem?_cons_succ, List.getElem?_cons_zero] at d4 d5 d6 d7
  unfold wv at d4 d5 d6 d7 ⊢
  clear hr hb h
  go_enter Tryz.func111, Tryz.ntmps111
  go_wp2_with fail
  refine H.out.mono ?_
  rintro e w1 ⟨rfl, rfl⟩
  go_wp2
  refine bodyPost_ret (results_cell_row rfl _ _ w.heap.size 114 #[.int .u64 (s.ld : Int), .int .u64 (s.st : Int), .int .u64 (s.fl : Int), .int .u64 (s.fe : Int)] _ _ rfl (heap_alloc_new _ _) Tryz.underlying114 rfl (by kernel_rfl)) rfl ?_
  exact ⟨rfl, alloc_below _ _⟩
set_option maxHeartbeats 800000 in
theorem evict_ok {w : World} {y : Lay} {s : St} (h : MemAt w y s) (ok : s.Ok) (a n : Nat) (h8 : a % 8 = 0) (ha : a < 64 * s.nl) :
    Calls Tryz.prog 56 #[.pointer (some ⟨y.g, 0, none⟩), .int .u64 (a : Int), .int .i64 (n : Int)] w
      (AnsPost w y (s.last (a / 64) (min n (s.pend.getD (a / 64) []).length)) (.tuple #[.int .i64 ((min n (s.pend.getD (a / 64) []).length : Nat) : Int), .int .i64 0])) := by
  have HR := Lib.hid (refused_ok h a h8 ha)
  have hmost := h.most
  have HL := Lib.hid fun W => lineOf_any a W (by omega)
  obtain ⟨V, l, hV, hl, ht⟩ := ps_get h (j := a / 64) (by omega)
  obtain ⟨A, cap, rfl, hcap⟩ := ht.len
  have hlen : s.pend.getD (a / 64) [] = l := by rw [List.getD_eq_getElem?_getD, hl]; rfl
  obtain ⟨i, hi⟩ : ∃ i, i = a / 64 := ⟨_, rfl⟩
  have HX := Lib.hid (last_ok h ok i (min n l.length) (by omega) (by rw [hi, hlen]; exact Nat.min_le_right _ _))
  rw [hlen]
  rw [← hi] at hV HL ⊢
  have c2 := h.row.cell 2
  simp only [List.getElem?_toArray, List.getElem?_cons_succ, List.getElem?_cons_zero] at c2
  have cpp : w.cell? ⟨y.gp, i, none⟩ = some (.slice A l.length cap) := by rw [h.pen.cellAt i (by omega), hV]
  have hin : i < s.nl := by omega
  have i0 : (0 : Int) ≤ (i : Int) := by omega
  have i1 : (i : Int) < (s.nl : Int) := by omega
  have d : decide ((n : Int) < 0) = false := by simp
  have key : min n l.length = l.length ∧ l.length < n ∨ min n l.length = n ∧ ¬ l.length < n := by omega
  clear h ht hV hl hlen hi ha h8
  rcases key with ⟨e, hc⟩ | ⟨e, hc⟩
  all_goals
    rw [e] at HX ⊢
    clear e
    go_enter Tryz.func56, Tryz.ntmps56
    go_wp2_with fail
    refine HR.out.mono ?_
    rintro e w1 ⟨rfl, rfl⟩
    go_wp2_with fail
    refine (HL.out _).mono ?_
    rintro e w1 ⟨rfl, rfl⟩
    go_wp2_with fail
    refine HX.out.mono ?_
    rintro e w1 ⟨rfl, y', hm', ht', _, _⟩
    go_wp2
    go_ret2
    exact ⟨rfl, y', hm', ht'⟩
end Go.Proofs.YtahojhaeebmpoaaGreatDoor
/- Crash, of whatever slice says what is kept: as PCrash, but that an empty one may lie anywhere. -/
namespace Go.Proofs.YtahojhaeebmpoaaGreatDoor
open Go.RowKit Go.Shelf
set_option linter.unusedVariables false
attribute [local go_sem] Oper.semAt_some

set_option maxRecDepth 100000 in
set_option maxHeartbeats 3200000 in
theorem crash_okE {w : World} {y : Lay} {s : St} (h : MemAt w y s) (ok : s.Ok) (keep : List Int) (A : Option Addr) (cap : Nat) (hs : Sl w A (keep.map iv)) (hA : ∀ a, A = some a → keep ≠ [] → ¬ y.fp a.block) (hl : keep.length ≤ 9223372036854775807) (hw : ∀ z ∈ keep, (Lit.int .i64 z).wf = true) :
    Calls Tryz.prog 20 #[.pointer (some ⟨y.g, 0, none⟩), .slice A keep.length cap] w fun e w' => e = .returned (.tuple #[]) ∧ ∃ y', MemAt w' y' (s.crash keep) ∧ Turn w w' y y' := by
  refine (callsIn_wide (n := 6)).1 ?_
  refine callsIn_of_wp_marks Tryz.func20 rfl trivial ?_ rfl
  simp only [Tryz.ntmps20, List.size_toArray, List.length_cons, List.length_nil, Nat.reduceAdd, Nat.reduceSub, Array.replicate_succ, Array.replicate_zero, List.push_toArray, List.append_toArray, List.nil_append, List.cons_append]
  gi_wp2_with (refine ⟨trivial, ?_⟩; gi_at_call 58; refine (callsIn_wide.2 (lines_any _ _)).mono ?_; rintro e w' ⟨rfl, rfl⟩)
  obtain ⟨W0, hW0⟩ : ∃ W0, W0 = (((w.alloc (.cells #[.pointer (some ⟨y.g, 0, none⟩)] 48)).alloc (.cells #[.slice A keep.length cap] 47)).alloc (.cells #[.pointer (some ⟨y.g, 0, none⟩)] 48)) := ⟨_, rfl⟩
  rw [← hW0]
  have hb0 : Below w.heap.size w W0 := by
    rw [hW0]
    exact Below.and (Below.and (alloc_below _ _) (alloc_below _ _)) (alloc_below _ _)
  have hsz : W0.heap.size = w.heap.size + 1 + 1 + 1 := by rw [hW0]; simp
  have r1 : Row W0 w.heap.size 48 #[.pointer (some ⟨y.g, 0, none⟩)] := by
    rw [hW0]
    exact ((Row.new _ _ _).alloc _).alloc _
  have r2 : Row W0 (w.heap.size + 1) 47 #[.slice A keep.length cap] := by
    rw [hW0]
    exact (row_at (by simp)).alloc _
  have r3 : Row W0 (w.heap.size + 1 + 1) 48 #[.pointer (some ⟨y.g, 0, none⟩)] := by
    rw [hW0]
    exact row_at (by simp)
  have hm0 := h.below hb0
  have hlt := h.lt
  have hmb := h.marks.lt
  have hs0 := hs.below hb0
  have HB0 := Lib.hid hb0
  have HSZ := Lib.hid hsz
  have HM := Lib.hid hm0
  have HLT := Lib.hid hlt
  have HOK := Lib.hid ok
  have hmost := h.most
  have hplen := h.plen
  clear hW0 h hs
  refine range_all rfl (by omega) (gf := 89) (lb := #[.pointer (some ⟨w.heap.size + 1 + 1, 0, none⟩)]) rfl trivial (enters_of Tryz.func89 (by kernel_rfl) rfl) (nz s.pend) (encs := encN) (fun _ => rfl) (CrI W0 y s keep)
    (cri_stay (by omega)) ⟨y, hm0, Turn.refl _ _, rfl, rfl, fun _ _ => rfl⟩ (iter_tells hm0 (w.heap.size + 1 + 1) _ (r3.cell 0) ?reads)
    (fun x => { tmps := #[.pointer (some ⟨y.g, 0, none⟩), .slice A keep.length cap, .pointer (some ⟨w.heap.size, 0, none⟩), .pointer (some ⟨w.heap.size + 1, 0, none⟩), .int .i64 (x.1 : Int), .int .i64 (x.2 : Int), .pointer (some ⟨y.g, 0, none⟩),
      .func (.func 89) #[] #[.pointer (some ⟨w.heap.size + 1 + 1, 0, none⟩)], .int .i64 (x.1 : Int), .int .i64 (x.2 : Int), undef, undef, undef, undef, undef, undef, undef, undef, undef, undef, undef, undef, undef, undef, undef, undef, undef], defers := [] }) ?assign ?body ?done
  case reads =>
    rintro k W ⟨y', hm, ht, h1, h2, h3⟩ j v hj hq hv
    rw [← h1, hm.pen.cellAt j (by rw [crashTo_nl]; omega), h3 j hq]
    exact hv
  case assign =>
    intro l x W K hK
    dsimp only [encN]
    gi_wp2
    exact hK
  case body =>
    rintro l k x W hx ⟨y', hm, ht, h1, h2, h3⟩
    have hxm := List.mem_of_getElem? hx
    have hxb := nzFrom_bound _ _ _ x hxm
    obtain ⟨hx1, m, hmj, hmne⟩ := nzFrom_at _ _ _ k x hx
    rw [Nat.sub_zero] at hmj
    rw [Nat.zero_add] at hx1
    have hri : (nz s.pend).Pairwise (fun a b => a.2 < b.2) := nzFrom_rise s.pend 0 0
    have hfar : ∀ (i : Nat) (q : Nat × Nat), (nz s.pend)[i]? = some q → i < k → q.2 < x.2 := by
      intro i q hq hi
      have hil := (List.getElem?_eq_some_iff.1 hq).1
      have hkl := (List.getElem?_eq_some_iff.1 hx).1
      have := List.pairwise_iff_getElem.1 hri i k hil hkl hi
      rw [(List.getElem?_eq_some_iff.1 hq).2, (List.getElem?_eq_some_iff.1 hx).2] at this
      exact this
    obtain ⟨sk, hsk⟩ : ∃ sk, sk = s.crashTo keep ((nz s.pend).take k) := ⟨_, rfl⟩
    rw [← hsk] at hm
    have okk : sk.Ok := by
      rw [hsk]
      refine crashTo_Ok HOK.out keep _ fun q hq => ?_
      have := nzFrom_bound _ _ _ q (List.mem_of_mem_take hq)
      omega
    have hnk : sk.nl = s.nl := by rw [hsk, crashTo_nl]
    have hpk : sk.pend.getD x.2 [] = m := by
      rw [hsk, crashTo_far, List.getD_eq_getElem?_getD, hmj]
      · rfl
      · intro q hq
        obtain ⟨i, hi, he⟩ := List.getElem_of_mem hq
        rw [List.length_take] at hi
        rw [List.getElem_take] at he
        have := hfar i q (by rw [List.getElem?_eq_getElem (by omega), he]) (by omega)
        omega
    have hpk2 : sk.pend[x.2]? = some m := by
      have hl : x.2 < sk.pend.length := by rw [hsk, crashTo_pend]; omega
      rw [getD_at hl] at hpk
      rw [List.getElem?_eq_getElem hl, hpk]
    obtain ⟨V, m', hV, hm', htl⟩ := ps_get hm (j := x.2) (by omega)
    rw [hpk2] at hm'
    cases hm'
    obtain ⟨AV, capV, rfl, hcV⟩ := htl.len
    have b1 : W.cell? ⟨w.heap.size, 0, none⟩ = some (.pointer (some ⟨y.g, 0, none⟩)) := ht.but.cell (r1.cell 0) (fun e => by have := HLT.out _ e; dsimp only at this; omega)
    have b2 : W.cell? ⟨w.heap.size + 1, 0, none⟩ = some (.slice A keep.length cap) := ht.but.cell (r2.cell 0) (fun e => by have := HLT.out _ e; dsimp only at this; omega)
    have b3 : W.cell? ⟨y.g, 2, none⟩ = some (.slice (some ⟨y.gp, 0, none⟩) s.nl y'.cp) := by
      have := hm.row.cell 2
      rw [ht.g, h1, hnk] at this
      exact this
    have b4 : W.cell? ⟨y.gp, x.2, none⟩ = some (.slice AV m.length capV) := by rw [← h1, hm.pen.cellAt x.2 (by omega), hV]
    have hsl : Sl W A (keep.map iv) := by
      intro i u hu
      obtain ⟨a, e, hc⟩ := hs0 i u hu
      exact ⟨a, e, ht.but.cell hc (by rw [add_block]; exact hA a e (fun h0 => by rw [h0] at hu; simp at hu))⟩
    have hml : m.length ≤ 1000000000 := okk.few m (List.mem_of_getElem? hpk2)
    have HK := Lib.hid fun W' (hb : Below W.heap.size W W') => kept_any keep A cap x.1 m.length W' (hsl.below hb) hl hw (by omega) (by omega)
    have HLA := Lib.hid fun W' (hb : Below W.heap.size W W') => last_ok (hm.below hb) okk x.2 (keptN keep x.1 m.length) (by omega) (by rw [hpk]; exact keptN_le _ _ _)
    rw [ht.g] at HLA
    have i0 : (0 : Int) ≤ (x.2 : Int) := by omega
    have i1 : (x.2 : Int) < (s.nl : Int) := by omega
    have HX := Lib.hid hx
    have HT := Lib.hid ht
    have HMM := Lib.hid hm
    have H1 := Lib.hid h1
    have H2 := Lib.hid h2
    have H3 := Lib.hid h3
    have HSK := Lib.hid hsk
    have HPK := Lib.hid hpk
    have HOKK := Lib.hid okk
    have HNK := Lib.hid hnk
    have HX2 := Lib.hid hxb
    obtain ⟨xi, xj⟩ := x
    dsimp only at *
    have hsz3 : w.heap.size + 1 + 1 + 1 ≤ W0.heap.size := by omega
    clear hsz hx ht hm h1 h2 h3 hsk hpk hpk2 okk hnk hfar hri hxm hmj htl hV hs0 hsl hx1 hxb hw hA
    gi_wp2_with fail
    refine wpIn_region_tail 13 (by kernel_rfl) (by kernel_rfl) ?nodef ?lets ?_
    case nodef => exact noDefer_all (by kernel_rfl)
    case lets =>
      rintro ⟨a, w, h⟩
      simp [Exit.then, Exit.inBlock] at h
      obtain ⟨h, _⟩ := h
      cases h
    simp only [List.take_succ_cons, List.take_zero, List.drop_succ_cons, List.drop_zero]
    iterate 12 still_step
    still_call ((HK.out W.drew (drew_below W)).mono fun e w' h => ⟨h.1, h.2.symm⟩)
    refine wpStill_nil ?_
    go_wp2_with (go_at_call 62; refine (HLA.out W.drew (drew_below W)).mono ?_; rintro e w3 ⟨rfl, y3, hm3, ht3, hn3, hst3⟩)
    have ht3' : Turn W w3 y' y3 := ⟨ht3.g, ⟨ht3.but.os, ht3.but.tape, ht3.but.output, ht3.but.size, ht3.but.block⟩, ht3.fp⟩
    have hnb : ¬ y'.fp w.heap.size := by
      intro hf
      rcases HT.out.fp _ hf with h | h
      · have := HLT.out _ h
        omega
      · omega
    have b1' : w3.cell? ⟨w.heap.size, 0, none⟩ = some (.pointer (some ⟨y.g, 0, none⟩)) := ht3'.but.cell b1 hnb
    have HLO := Lib.hid (lose_ok hm3 xj (by show xj < sk.nl; rw [HNK.out]; omega))
    rw [ht3'.g, HT.out.g] at HLO
    have HT3 := Lib.hid ht3'
    have HN3 := Lib.hid hn3
    clear hm3 ht3 ht3' hn3 hst3 b1 b2 b3 b4
    gi_wp2_with (refine ⟨trivial, ?_⟩; gi_at_call 64; refine (CallsIn.inRound l (callsIn_wide.2 HLO.out)).mono ?_; rintro e w4 ⟨rfl, y4, hm4, ht4, hn4⟩)
    refine ⟨⟨Nat.le_trans HT3.out.size ht4.size, ?_⟩, ?_⟩
    · intro q o hq ho hc
      have hql := (Array.getElem?_eq_some_iff.1 ho).1
      have hnf : ¬ y'.fp q := by
        intro hf
        rcases fp_cells HMM.out hf with ⟨cs, t, h5⟩ | h5
        · rw [h5] at ho
          cases ho
          cases hc
        · rw [H2.out] at h5
          omega
      exact ((HT3.out.trans ht4).but.block q hql hnf).trans ho
    · refine cri_next HX.out HT.out H1.out H2.out H3.out HT3.out HN3.out ht4 hn4 ?_
      rw [← HSK.out]
      show MemAt w4 y4 ((sk.last xj (keptN keep xi (sk.pend.getD xj []).length)).lose xj)
      rw [HPK.out]
      exact hm4
  case done =>
    rintro D W hD hI hK
    gi_wp2
    refine ⟨by simp, .inl ⟨_, _, rfl, run_takeDeferred hK, ?_⟩⟩
    obtain ⟨y', hm, ht, h1, h2, h3⟩ := cri_stay (by omega) _ _ _ (some D) hI (grownBy_putObj' W D (.deferred none)) (fun r e => by cases e; exact ⟨hD, _, hK, rfl⟩)
    rw [List.take_length] at hm
    exact ⟨_, results_none rfl _ _ _, rfl, y', hm, (Turn.of_below y HB0.out).trans ht⟩
end Go.Proofs.YtahojhaeebmpoaaGreatDoor
/- Lines of a memory that is there: the addresses of the lines with pending stores, rising, in a new list; for states that a memory can have. -/
namespace Go.Proofs.YtahojhaeebmpoaaGreatDoor
open Go.RowKit Go.Shelf
set_option linter.unusedVariables false
attribute [local go_sem] Oper.semAt_some
end Go.Proofs.YtahojhaeebmpoaaGreatDoor
