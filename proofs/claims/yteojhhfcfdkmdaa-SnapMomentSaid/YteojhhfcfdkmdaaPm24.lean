/- Texts of this claim, packed: PCrash, PNo, PLook, POk, PLoad, Lds. -/
import Derived.Test.YteojhhfcfdkmdaaPm21
import Derived.Test.YteojhhfcfdkmdaaPm22
import Derived.Test.YteojhhfcfdkmdaaPm18
import Derived.Test.YteojhhfcfdkmdaaPm23
import Derived.BigQuiet
set_option linter.unusedSimpArgs false
set_option linter.unusedVariables false
/- Crash: a front of each line's pending stores lasts, all others are lost; for states that a memory can have, and a list of numbers that lies in other memory. -/
namespace Go.Proofs.Yteojhhfcfdkmdaa
open Go.RowKit Go.Shelf
set_option linter.unusedVariables false
attribute [local go_sem] Oper.semAt_some

/-- The crash under way: k lines have been gone through. -/
def CrI (W0 : World) (y : Lay) (s : St) (keep : List Int) (k : Nat) (W : World) : Prop :=
  ∃ y', MemAt W y' (s.crashTo keep ((nz s.pend).take k)) ∧ Turn W0 W y y' ∧ y'.gp = y.gp ∧ y'.mb = y.mb ∧ ∀ j : Nat, (∀ (i : Nat) (q : Nat × Nat), (nz s.pend)[i]? = some q → i < k → q.2 < j) → y'.ps[j]? = y.ps[j]?
theorem fp_cells {w : World} {y : Lay} {s : St} (h : MemAt w y s) {k : Nat} (hk : y.fp k) : (∃ cs t, w.heap[k]? = some (.cells cs t (0, 0))) ∨ k = y.mb := by
  rcases hk with rfl | rfl | rfl | rfl | rfl | ⟨j, v, hv, hk⟩
  · exact .inl ⟨_, _, h.row⟩
  · obtain ⟨c, hc⟩ := own_at h.las
    exact .inl ⟨_, _, hc⟩
  · obtain ⟨c, hc⟩ := own_at h.vie
    exact .inl ⟨_, _, hc⟩
  · obtain ⟨c, hc⟩ := own_at h.pen
    exact .inl ⟨_, _, hc⟩
  · exact .inr rfl
  · obtain ⟨c, hc⟩ := ps_row h hv hk
    exact .inl ⟨_, _, hc⟩
theorem cri_stay {W0 : World} {y : Lay} {s : St} {keep : List Int} (hmb : y.mb < W0.heap.size) (k : Nat) (W W' : World) (row : Option Nat) (h : CrI W0 y s keep k W) (hg : W.grownBy W' row)
    (hr : ∀ r, row = some r → W0.heap.size ≤ r ∧ ∃ o : Obj, W.heap[r]? = some o ∧ o.isCells = false) : CrI W0 y s keep k W' := by
  obtain ⟨y', hm, ht, h1, h2, h3⟩ := h
  have hn : ∀ q, y'.fp q → some q ≠ row := by
    intro q hq e
    obtain ⟨h4, o, ho, hc⟩ := hr q e.symm
    rcases fp_cells hm hq with ⟨cs, t, h5⟩ | h5
    · rw [h5] at ho
      cases ho
      cases hc
    · omega
  refine ⟨y', hm.same fun q hq => hg.block q (hm.lt q hq) (hn q hq), ⟨ht.g, ht.but.trans (q := fun q => W0.heap.size ≤ q) ⟨hg.os, hg.tape, hg.output, hg.size, fun q hq hq2 => hg.block q hq (fun e => hq2 (hr q e.symm).1)⟩ (fun q hq => .inr hq), ht.fp⟩, h1, h2, h3⟩
theorem cri_next {W0 W W1 W2 : World} {y y' y1 y2 : Lay} {s : St} {keep : List Int} {k : Nat} {x : Nat × Nat} (hx : (nz s.pend)[k]? = some x)
    (ht : Turn W0 W y y') (hgp : y'.gp = y.gp) (hmb : y'.mb = y.mb) (hps : ∀ j : Nat, (∀ (i : Nat) (q : Nat × Nat), (nz s.pend)[i]? = some q → i < k → q.2 < j) → y'.ps[j]? = y.ps[j]?)
    (t1 : Turn W W1 y' y1) (n1 : y'.Near y1 x.2) (t2 : Turn W1 W2 y1 y2) (n2 : y1.Near y2 x.2) (hm : MemAt W2 y2 ((s.crashTo keep ((nz s.pend).take k)).crash1 keep x)) : CrI W0 y s keep (k + 1) W2 := by
  have hkl := (List.getElem?_eq_some_iff.1 hx).1
  have hxe : (nz s.pend)[k] = x := (List.getElem?_eq_some_iff.1 hx).2
  refine ⟨y2, ?_, (ht.trans t1).trans t2, n2.2.1.trans (n1.2.1.trans hgp), n2.2.2.2.1.trans (n1.2.2.2.1.trans hmb), ?_⟩
  · rw [List.take_succ_eq_append_getElem hkl, crashTo_snoc, hxe]
    exact hm
  · intro j hj
    have hxj : x.2 < j := hj k x hx (by omega)
    rw [n2.2.2.2.2.2.2.2.2 j (by omega), n1.2.2.2.2.2.2.2.2 j (by omega)]
    exact hps j fun i q hq hi => hj i q hq (by omega)
end Go.Proofs.Yteojhhfcfdkmdaa
/- No memory, nil or zero: what Load, Evict, Fence, Stats, Copy, Same, Lines and Crash make of it; and Lines of a memory with nothing pending. -/
namespace Go.Proofs.Yteojhhfcfdkmdaa
open Go.RowKit Go.Shelf
set_option linter.unusedVariables false
attribute [local go_sem] Oper.semAt_some

theorem load_no {p : Option Addr} {w : World} (h : NoMem w p) (a : Int) : Calls Try.prog 30 #[.pointer p, .int .u64 a] w fun e w' => e = .returned (.tuple #[.int .u64 0, .int .i64 1]) ∧ w = w' := by
  have H := Lib.hid (refused_no h true a)
  clear h
  go_enter Try.func30, Try.ntmps30
  go_wp2_with fail
  refine H.out.mono ?_
  rintro e w1 ⟨rfl, rfl⟩
  go_wp2
  go_ret2
  exact ⟨rfl, rfl⟩
theorem fence_no {p : Option Addr} {w : World} (h : NoMem w p) (c : Int) : Calls Try.prog 23 #[.pointer p, .int .i64 c] w fun e w' => e = .returned (.int .i64 1) ∧ w = w' := by
  have HC := Lib.hid (isClient_any c w)
  have H := Lib.hid fun f => refused_no h f 0
  clear h
  go_enter Try.func23, Try.ntmps23
  go_wp2_with fail
  refine HC.out.mono ?_
  rintro e w1 ⟨rfl, rfl⟩
  go_wp2_with fail
  refine (H.out _).mono ?_
  rintro e w1 ⟨rfl, rfl⟩
  go_wp2
  go_ret
  exact ⟨rfl, rfl⟩
theorem grown_stays {W0 W W' : World} {row : Option Nat} (h : Below W0.heap.size W0 W) (hg : W.grownBy W' row) (hr : ∀ r, row = some r → W0.heap.size ≤ r ∧ ∃ o : Obj, W.heap[r]? = some o ∧ o.isCells = false) : Below W0.heap.size W0 W' :=
  h.trans ⟨hg.os, hg.tape, hg.output, hg.size, fun k hk => hg.block k (Nat.lt_of_lt_of_le hk h.size) (fun e => by have := (hr k e.symm).1; omega)⟩
theorem nzFrom_none (n i j : Nat) : nzFrom (List.replicate n ([] : List (Nat × Nat))) i j = [] := by
  induction n generalizing i j with
  | zero => rfl
  | succ n ih => rw [List.replicate_succ]; unfold nzFrom; rw [if_pos rfl]; exact ih _ _
theorem zero_nz (nl : Nat) : nz (St.zero nl).pend = [] := nzFrom_none nl 0 0
end Go.Proofs.Yteojhhfcfdkmdaa
/- Pending, Load, Evict, Stats, Fence and Crash where they are refused, and where they are not: what each answers; for states that a memory can have. -/
namespace Go.Proofs.Yteojhhfcfdkmdaa
open Go.RowKit
set_option linter.unusedVariables false

end Go.Proofs.Yteojhhfcfdkmdaa
/- A new memory's state, and those behind stores, flushes, fences and crashes, are such as a memory can have. -/
namespace Go.Proofs.Yteojhhfcfdkmdaa
open Go.RowKit
set_option linter.unusedVariables false
theorem zero_Ok (nl : Nat) : (St.zero nl).Ok := by
  refine ⟨?_, ?_, ?_, ?_, ?_, ?_⟩
  · intro x hx
    rw [List.eq_of_mem_replicate hx]
    decide
  · intro x hx
    rw [List.eq_of_mem_replicate hx]
    decide
  · intro j l hl p hp
    rw [List.eq_of_mem_replicate (List.mem_of_getElem? hl)] at hp
    cases hp
  · intro l hl
    rw [List.eq_of_mem_replicate hl]
    decide
  · intro j c
    exact Nat.zero_le _
  · exact ⟨(by decide : 0 < 9223372036854775808), (by decide : 0 < 9223372036854775808), (by decide : 0 < 9223372036854775808), (by decide : 0 < 9223372036854775808)⟩
theorem store_Ok {s : St} (ok : s.Ok) {a v : Nat} (h8 : a % 8 = 0) (ha : a / 64 < s.pend.length) (hv : v < 18446744073709551616) (hst : s.st + 1 < 9223372036854775808) (hn : (s.pend.getD (a / 64) []).length + 1 ≤ 1000000000) : (s.store a v).Ok := by
  have hgi := getD_at (d := ([] : List (Nat × Nat))) ha
  refine ⟨ok.las, ?_, ?_, ?_, ?_, ⟨ok.num.1, hst, ok.num.2.2⟩⟩
  · intro x hx
    rcases List.mem_or_eq_of_mem_set hx with h | rfl
    · exact ok.vie x h
    · exact hv
  · intro j l hl p hp
    have hl' : (s.pend.set (a / 64) (s.pend.getD (a / 64) [] ++ [(a, v)]))[j]? = some l := hl
    rw [List.getElem?_set] at hl'
    by_cases e : a / 64 = j
    · rw [if_pos e, if_pos ha] at hl'
      cases hl'
      rcases List.mem_append.1 hp with h | h
      · rw [hgi] at h
        rw [← e]
        exact ok.put _ _ (List.getElem?_eq_getElem ha) p h
      · have : p = (a, v) := by simpa using h
        subst this
        exact ⟨h8, e, hv⟩
    · rw [if_neg e] at hl'
      exact ok.put j l hl' p hp
  · intro l hl
    rcases List.mem_or_eq_of_mem_set hl with h | h
    · exact ok.few l h
    · rw [h, List.length_append]
      simpa using hn
  · intro j c
    show s.mm j c ≤ ((s.pend.set (a / 64) (s.pend.getD (a / 64) [] ++ [(a, v)])).getD j []).length
    rw [set_getD ha]
    have := ok.mks j c
    by_cases e : j = a / 64
    · rw [if_pos e, List.length_append, ← e]
      omega
    · rw [if_neg e]
      exact this
theorem flush_Ok {s : St} (ok : s.Ok) {c a : Nat} (hfl : s.fl + 1 < 9223372036854775808) : (s.flush c a).Ok := by
  refine ⟨ok.las, ok.vie, ok.put, ok.few, ?_, ⟨ok.num.1, ok.num.2.1, hfl, ok.num.2.2.2⟩⟩
  intro j q
  show (if (s.pend.getD (a / 64) []).length = 0 then s.mm else upd s.mm (a / 64) fun k => if k = c then (s.pend.getD (a / 64) []).length else s.mm (a / 64) k) j q ≤ (s.pend.getD j []).length
  by_cases h0 : (s.pend.getD (a / 64) []).length = 0
  · rw [if_pos h0]
    exact ok.mks j q
  · rw [if_neg h0]
    unfold upd
    by_cases e : j = a / 64
    · rw [if_pos e]
      by_cases e2 : q = c
      · rw [if_pos e2, e]
        exact Nat.le_refl _
      · rw [if_neg e2, e]
        exact ok.mks _ q
    · rw [if_neg e]
      exact ok.mks j q
theorem fence_Ok {s : St} (ok : s.Ok) {c : Nat} (hfe : s.fe + 1 < 9223372036854775808) : (s.fence c).Ok :=
  fenV_ok (s := { s with fe := s.fe + 1 }) ⟨ok.las, ok.vie, ok.put, ok.few, ok.mks, ⟨ok.num.1, ok.num.2.1, ok.num.2.2.1, hfe⟩⟩ c _
theorem crash_Ok {s : St} (ok : s.Ok) (keep : List Int) : (s.crash keep).Ok := by
  refine crashTo_Ok ok keep _ fun x hx => ?_
  have := nzFrom_bound _ _ _ x hx
  omega

/-- The document's rows: the states that known goes through. -/
def k1 : St := (St.zero 2).store 0 1
def k2 : St := k1.store 8 2
def k3 : St := k2.flush 0 0
def k4 : St := k3.store 0 3
def k5 : St := k4.fence 0
def k6 : St := k5.store 64 5
def k7 : St := k6.crash [0, 1]
theorem k1_Ok : k1.Ok := store_Ok (zero_Ok 2) (by decide) (by decide) (by decide) (by decide) (by decide)
theorem k2_Ok : k2.Ok := store_Ok k1_Ok (by decide) (by decide) (by decide) (by decide) (by decide)
theorem k3_Ok : k3.Ok := flush_Ok k2_Ok (by decide)
theorem k4_Ok : k4.Ok := store_Ok k3_Ok (by decide) (by decide) (by decide) (by decide) (by decide)
theorem k5_Ok : k5.Ok := fence_Ok k4_Ok (by decide)
theorem k6_Ok : k6.Ok := store_Ok k5_Ok (by decide) (by decide) (by decide) (by decide) (by decide)
theorem k7_Ok : k7.Ok := crash_Ok k6_Ok _
theorem k5_las : k5.lasted = [1, 2, 0, 0, 0, 0, 0, 0, 0, 0, 0, 0, 0, 0, 0, 0] := by decide
theorem k5_vie : k5.view = [3, 2, 0, 0, 0, 0, 0, 0, 0, 0, 0, 0, 0, 0, 0, 0] := by decide
theorem k5_pen : k5.pend = [[(0, 3)], []] := by decide
theorem k7_las : k7.lasted = [1, 2, 0, 0, 0, 0, 0, 0, 5, 0, 0, 0, 0, 0, 0, 0] := by decide
theorem k7_vie : k7.view = [1, 2, 0, 0, 0, 0, 0, 0, 5, 0, 0, 0, 0, 0, 0, 0] := by decide
end Go.Proofs.Yteojhhfcfdkmdaa
/- Load, Evict and Stats of a memory that is there: what each answers; and Fence, Evict where they are refused; for states that a memory can have. -/
namespace Go.Proofs.Yteojhhfcfdkmdaa
open Go.RowKit
set_option linter.unusedVariables false
def AnsPost (w : World) (y : Lay) (s' : St) (v : Value) (e : Ending) (w' : World) : Prop := e = .returned v ∧ ∃ y', MemAt w' y' s' ∧ Turn w w' y y'
theorem load_range {w : World} {y : Lay} {s : St} (h : MemAt w y s) (a : Nat) (ha : a % 8 ≠ 0 ∨ 64 * s.nl ≤ a) : Calls Try.prog 30 #[.pointer (some ⟨y.g, 0, none⟩), .int .u64 (a : Int)] w fun e w' => e = .returned (.tuple #[.int .u64 0, .int .i64 3]) ∧ w = w' := by
  have H := Lib.hid (refused_range h a ha)
  obtain ⟨g, hg⟩ : ∃ g, g = y.g := ⟨_, rfl⟩
  rw [← hg] at H ⊢
  clear h ha hg
  go_enter Try.func30, Try.ntmps30
  go_wp2_with fail
  refine H.out.mono ?_
  rintro e w1 ⟨rfl, rfl⟩
  go_wp2
  go_ret2
  exact ⟨rfl, rfl⟩
set_option maxHeartbeats 1600000 in
theorem load_okY {w : World} {y : Lay} {s : St} (h : MemAt w y s) (ok : s.Ok) (a : Nat) (h8 : a % 8 = 0) (ha : a < 64 * s.nl) :
    Calls Try.prog 30 #[.pointer (some ⟨y.g, 0, none⟩), .int .u64 (a : Int)] w fun e w' => e = .returned (.tuple #[.int .u64 ((s.view.getD (a / 8) 0 : Nat) : Int), .int .i64 0]) ∧ MemAt w' y { s with ld := s.ld + 1 } ∧ Turn w w' y y := by
  have HR := Lib.hid (refused_ok h a h8 ha)
  have hmost := h.most
  have hd := h.differ
  have c1 := h.row.cell 1
  have c4 := h.row.cell 4
  simp only [List.getElem?_toArray, List.getElem?_cons_succ, List.getElem?_cons_zero] at c1 c4
  have f4 := h.row.free 4
  have hld := ok.num.1
  have hvl : a / 8 < s.view.length := by have := ownsRow_len h.vie; omega
  obtain ⟨W0, hW0⟩ : ∃ W0, W0 = w.setCell ⟨y.g, 4, none⟩ (wv (s.ld + 1)) := ⟨_, rfl⟩
  have hm0 : MemAt W0 y { s with ld := s.ld + 1 } := by
    rw [hW0]
    exact mem_marks h rfl rfl rfl rfl (h.row.set 4 _) (fun k _ h1 _ => heap_setCell_other _ _ _ _ h1) (h.marks.same (heap_setCell_other _ _ _ _ (Ne.symm hd.g_mb)))
  have ht0 : Turn w W0 y y := by
    rw [hW0]
    exact ⟨rfl, (But.refl w _).set (p := ⟨y.g, 4, none⟩) (.inl rfl) _, fun _ h => .inl h⟩
  have hv : W0.cell? ⟨y.gv, a / 8, none⟩ = some (.int .u64 ((s.view.getD (a / 8) 0 : Nat) : Int)) := by
    rw [hW0, cell_far hd.g_gv, h.vie.cellAt (a / 8) (by omega), List.getElem?_map, List.getElem?_eq_getElem hvl, getD_at hvl]
    rfl
  have d1 : W0.cell? ⟨y.g, 1, none⟩ = some (.slice (some ⟨y.gv, 0, none⟩) (8 * s.nl) y.cv) := by
    rw [hW0, cell_else (by decide)]
    exact c1
  unfold wv at c4
  rw [show wv (s.ld + 1) = .int .u64 ((s.ld : Int) + 1) from rfl] at hW0
  have HM := Lib.hid hm0
  have HT := Lib.hid ht0
  obtain ⟨N, hN⟩ : ∃ N, N = 8 * s.nl := ⟨_, rfl⟩
  rw [← hN] at d1
  have ebN : (a : Int) / 8 < (N : Int) := by omega
  have haB : a < 1048576 := by omega
  obtain ⟨u, hu⟩ : ∃ u, u = s.view.getD (a / 8) 0 := ⟨_, rfl⟩
  rw [← hu] at hv ⊢
  clear hm0 ht0 c1 hvl ok hN hd h hu h8 ha
  subst hW0
  go_enter Try.func30, Try.ntmps30
  go_wp2_with fail
  refine HR.out.mono ?_
  rintro e w1 ⟨rfl, rfl⟩
  go_wp2
  go_ret2
  exact ⟨rfl, HM.out, HT.out⟩
theorem load_ok {w : World} {y : Lay} {s : St} (h : MemAt w y s) (ok : s.Ok) (a : Nat) (h8 : a % 8 = 0) (ha : a < 64 * s.nl) :
    Calls Try.prog 30 #[.pointer (some ⟨y.g, 0, none⟩), .int .u64 (a : Int)] w (AnsPost w y { s with ld := s.ld + 1 } (.tuple #[.int .u64 ((s.view.getD (a / 8) 0 : Nat) : Int), .int .i64 0])) :=
  (load_okY h ok a h8 ha).mono fun _ _ ⟨e, hm, ht⟩ => ⟨e, y, hm, ht⟩
theorem fence_arg {w : World} {y : Lay} {s : St} (h : MemAt w y s) (c : Int) (hc : c < 0 ∨ 64 < c) : Calls Try.prog 23 #[.pointer (some ⟨y.g, 0, none⟩), .int .i64 c] w fun e w' => e = .returned (.int .i64 2) ∧ w = w' := by
  have HC := Lib.hid (isClient_any c w)
  rw [show decide (0 ≤ c ∧ c ≤ 64) = false from by simp; omega] at HC
  have H := Lib.hid (refused_arg h 0)
  obtain ⟨g, hg⟩ : ∃ g, g = y.g := ⟨_, rfl⟩
  rw [← hg] at H ⊢
  clear h hc hg
  go_enter Try.func23, Try.ntmps23
  go_wp2_with fail
  refine HC.out.mono ?_
  rintro e w1 ⟨rfl, rfl⟩
  go_wp2_with fail
  refine H.out.mono ?_
  rintro e w1 ⟨rfl, rfl⟩
  go_wp2
  go_ret
  exact ⟨rfl, rfl⟩
end Go.Proofs.Yteojhhfcfdkmdaa
/- That a memory's numbers stay small behind stores, flushes, fences; plain facts. -/
namespace Go.Proofs.Yteojhhfcfdkmdaa
open Go.RowKit
set_option linter.unusedVariables false
theorem set_getDL {l : List (List (Nat × Nat))} {i : Nat} (hi : i < l.length) {x : List (Nat × Nat)} (j : Nat) : (l.set i x).getD j [] = if j = i then x else l.getD j [] := by
  rw [List.getD_eq_getElem?_getD, List.getElem?_set]
  by_cases h : i = j
  · subst h
    simp [hi]
  · rw [if_neg h, if_neg (fun e => h e.symm), List.getD_eq_getElem?_getD]
structure Lds (nl n : Nat) (s : St) : Prop where
  nls : s.nl = nl
  ok : s.Ok
  pl : s.pend.length = nl
  few : ∀ j, (s.pend.getD j []).length ≤ n
  vl : s.view.length = 8 * nl
  num : s.ld ≤ n ∧ s.st ≤ n ∧ s.fl ≤ n ∧ s.fe ≤ n
theorem zero_Lds (nl : Nat) : Lds nl 0 (St.zero nl) := by
  refine ⟨rfl, zero_Ok nl, by simp [St.zero], fun j => ?_, by simp [St.zero], Nat.le_refl _, Nat.le_refl _, Nat.le_refl _, Nat.le_refl _⟩
  show ((List.replicate nl ([] : List (Nat × Nat))).getD j []).length ≤ 0
  rw [List.getD_eq_getElem?_getD, List.getElem?_replicate]
  split <;> simp
section
variable {nl n : Nat} {s : St}
theorem Lds.mono (h : Lds nl n s) {m : Nat} (hm : n ≤ m) : Lds nl m s :=
  ⟨h.nls, h.ok, h.pl, fun j => Nat.le_trans (h.few j) hm, h.vl, Nat.le_trans h.num.1 hm, Nat.le_trans h.num.2.1 hm, Nat.le_trans h.num.2.2.1 hm, Nat.le_trans h.num.2.2.2 hm⟩
theorem Lds.store (h : Lds nl n s) (hn : n ≤ 1000000) {a v : Nat} (h8 : a % 8 = 0) (ha : a < 64 * nl) (hv : v < 18446744073709551616) : Lds nl (n + 1) (s.store a v) := by
  have hp : a / 64 < s.pend.length := by rw [h.pl]; omega
  refine ⟨h.nls, store_Ok h.ok h8 hp hv (by have := h.num; omega) (by have := h.few (a / 64); omega), ?_, fun j => ?_, ?_, by have := h.num; show s.ld ≤ _; omega, by have := h.num; show s.st + 1 ≤ _; omega, by have := h.num; show s.fl ≤ _; omega, by have := h.num; show s.fe ≤ _; omega⟩
  · show (s.pend.set _ _).length = nl
    rw [List.length_set]
    exact h.pl
  · show ((s.pend.set (a / 64) (s.pend.getD (a / 64) [] ++ [(a, v)])).getD j []).length ≤ n + 1
    rw [set_getDL hp]
    split
    · rw [List.length_append]
      have := h.few (a / 64)
      simp only [List.length_cons, List.length_nil]
      omega
    · have := h.few j
      omega
  · show (s.view.set _ _).length = _
    rw [List.length_set]
    exact h.vl
theorem Lds.flush (h : Lds nl n s) (hn : n ≤ 1000000) (c a : Nat) : Lds nl (n + 1) (s.flush c a) :=
  ⟨h.nls, flush_Ok h.ok (by have := h.num; omega), h.pl, fun j => Nat.le_succ_of_le (h.few j), h.vl, by have := h.num; show s.ld ≤ _; omega, by have := h.num; show s.st ≤ _; omega, by have := h.num; show s.fl + 1 ≤ _; omega, by have := h.num; show s.fe ≤ _; omega⟩
theorem Lds.fence (h : Lds nl n s) (hn : n ≤ 1000000) (c : Nat) : Lds nl (n + 1) (s.fence c) := by
  refine ⟨h.nls, fence_Ok h.ok (by have := h.num; omega), ?_, fun j => ?_, h.vl, by have := h.num; show s.ld ≤ _; omega, by have := h.num; show s.st ≤ _; omega, by have := h.num; show s.fl ≤ _; omega, by have := h.num; show s.fe + 1 ≤ _; omega⟩
  · show (s.pend.mapIdx _).length = nl
    rw [List.length_mapIdx]
    exact h.pl
  · show ((s.pend.mapIdx fun j l => if true = true then l.drop (s.mm j c) else l).getD j []).length ≤ n + 1
    have := h.few j
    rw [List.getD_eq_getElem?_getD] at this ⊢
    rw [List.getElem?_mapIdx]
    cases e : s.pend[j]? with
    | none => exact Nat.zero_le _
    | some l =>
      rw [e] at this
      simp only [Option.map_some, Option.getD_some, if_true, List.length_drop] at this ⊢
      omega
end
end Go.Proofs.Yteojhhfcfdkmdaa
