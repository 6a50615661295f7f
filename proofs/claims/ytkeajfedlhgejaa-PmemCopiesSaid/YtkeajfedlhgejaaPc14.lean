/- Texts of this claim, packed: PCrash, PNo. -/
import Derived.Test.YtkeajfedlhgejaaPc11
import Derived.Test.YtkeajfedlhgejaaPc12
import Derived.Test.YtkeajfedlhgejaaPc08
import Derived.Test.YtkeajfedlhgejaaPc13
import Derived.BigQuiet
/- Crash: a front of each line's pending stores lasts, all others are lost; for states that a memory can have, and a list of numbers that lies in other memory. -/
namespace Go.Proofs.Ytkeajfedlhgejaa
open Go.RowKit Go.Shelf
set_option linter.unusedVariables false
attribute [local go_sem] Oper.semAt_some

theorem lines_any (p : Option Addr) (w : World) : Calls Try.prog 48 #[.pointer p] w fun e w' => e = .returned (.func (.func 65) #[] #[.pointer (some ⟨w.heap.size, 0, none⟩)]) ∧ w.alloc (.cells #[.pointer p] 29) = w' := by
  go_enter Try.func48, Try.ntmps48
  go_wp2
  go_ret
  exact ⟨rfl, rfl⟩
/-- The crash under way: k lines have been gone through. -/
def CrI (W0 : World) (y : Lay) (s : St) (keep : List Int) (k : Nat) (W : World) : Prop :=
  ∃ y', MemAt W y' (s.crashTo keep ((nz s.pend).take k)) ∧ Turn W0 W y y' ∧ y'.gp = y.gp ∧ y'.mb = y.mb ∧ ∀ j : Nat, (∀ (i : Nat) (q : Nat × Nat), (nz s.pend)[i]? = some q → i < k → q.2 < j) → y'.ps[j]? = y.ps[j]?
theorem fp_cells {w : World} {y : Lay} {s : St} (h : MemAt w y s) {k : Nat} (hk : y.fp k) : (∃ cs t, w.heap[k]? = some (.cells cs t (0, 0))) ∨ k = y.mb := by
  rcases hk with rfl | rfl | rfl | rfl | rfl | ⟨j, v, hv, hk⟩
  · exact .inl ⟨_, _, h.row⟩
  · obtain ⟨c, hc⟩ := own_at h.las
    exact .inl ⟨_, _, hc⟩
  · obtain ⟨c, hc⟩ := own_at h.vie
    exact .inl ⟨_, _, hc⟩
  · obtain ⟨c, hc⟩ := own_at h.pen
    exact .inl ⟨_, _, hc⟩
  · exact .inr rfl
  · obtain ⟨c, hc⟩ := ps_row h hv hk
    exact .inl ⟨_, _, hc⟩
theorem cri_stay {W0 : World} {y : Lay} {s : St} {keep : List Int} (hmb : y.mb < W0.heap.size) (k : Nat) (W W' : World) (row : Option Nat) (h : CrI W0 y s keep k W) (hg : W.grownBy W' row)
    (hr : ∀ r, row = some r → W0.heap.size ≤ r ∧ ∃ o : Obj, W.heap[r]? = some o ∧ o.isCells = false) : CrI W0 y s keep k W' := by
  obtain ⟨y', hm, ht, h1, h2, h3⟩ := h
  have hn : ∀ q, y'.fp q → some q ≠ row := by
    intro q hq e
    obtain ⟨h4, o, ho, hc⟩ := hr q e.symm
    rcases fp_cells hm hq with ⟨cs, t, h5⟩ | h5
    · rw [h5] at ho
      cases ho
      cases hc
    · omega
  refine ⟨y', hm.same fun q hq => hg.block q (hm.lt q hq) (hn q hq), ⟨ht.g, ht.but.trans (q := fun q => W0.heap.size ≤ q) ⟨hg.os, hg.tape, hg.output, hg.size, fun q hq hq2 => hg.block q hq (fun e => hq2 (hr q e.symm).1)⟩ (fun q hq => .inr hq), ht.fp⟩, h1, h2, h3⟩
theorem cri_next {W0 W W1 W2 : World} {y y' y1 y2 : Lay} {s : St} {keep : List Int} {k : Nat} {x : Nat × Nat} (hx : (nz s.pend)[k]? = some x)
    (ht : Turn W0 W y y') (hgp : y'.gp = y.gp) (hmb : y'.mb = y.mb) (hps : ∀ j : Nat, (∀ (i : Nat) (q : Nat × Nat), (nz s.pend)[i]? = some q → i < k → q.2 < j) → y'.ps[j]? = y.ps[j]?)
    (t1 : Turn W W1 y' y1) (n1 : y'.Near y1 x.2) (t2 : Turn W1 W2 y1 y2) (n2 : y1.Near y2 x.2) (hm : MemAt W2 y2 ((s.crashTo keep ((nz s.pend).take k)).crash1 keep x)) : CrI W0 y s keep (k + 1) W2 := by
  have hkl := (List.getElem?_eq_some_iff.1 hx).1
  have hxe : (nz s.pend)[k] = x := (List.getElem?_eq_some_iff.1 hx).2
  refine ⟨y2, ?_, (ht.trans t1).trans t2, n2.2.1.trans (n1.2.1.trans hgp), n2.2.2.2.1.trans (n1.2.2.2.1.trans hmb), ?_⟩
  · rw [List.take_succ_eq_append_getElem hkl, crashTo_snoc, hxe]
    exact hm
  · intro j hj
    have hxj : x.2 < j := hj k x hx (by omega)
    rw [n2.2.2.2.2.2.2.2.2 j (by omega), n1.2.2.2.2.2.2.2.2 j (by omega)]
    exact hps j fun i q hq hi => hj i q hq (by omega)
set_option maxRecDepth 100000 in
set_option maxHeartbeats 3200000 in
theorem crash_ok {w : World} {y : Lay} {s : St} (h : MemAt w y s) (ok : s.Ok) (keep : List Int) (A : Option Addr) (cap : Nat) (hs : Sl w A (keep.map iv)) (hA : ∀ a, A = some a → ¬ y.fp a.block) (hl : keep.length ≤ 9223372036854775807) (hw : ∀ z ∈ keep, (Lit.int .i64 z).wf = true) :
    Calls Try.prog 27 #[.pointer (some ⟨y.g, 0, none⟩), .slice A keep.length cap] w fun e w' => e = .returned (.tuple #[]) ∧ ∃ y', MemAt w' y' (s.crash keep) ∧ Turn w w' y y' := by
  refine (callsIn_wide (n := 6)).1 ?_
  refine callsIn_of_wp_marks Try.func27 rfl trivial ?_ rfl
  simp only [Try.ntmps27, List.size_toArray, List.length_cons, List.length_nil, Nat.reduceAdd, Nat.reduceSub, Array.replicate_succ, Array.replicate_zero, List.push_toArray, List.append_toArray, List.nil_append, List.cons_append]
  gi_wp2_with (refine ⟨trivial, ?_⟩; gi_at_call 48; refine (callsIn_wide.2 (lines_any _ _)).mono ?_; rintro e w' ⟨rfl, rfl⟩)
  obtain ⟨W0, hW0⟩ : ∃ W0, W0 = (((w.alloc (.cells #[.pointer (some ⟨y.g, 0, none⟩)] 29)).alloc (.cells #[.slice A keep.length cap] 36)).alloc (.cells #[.pointer (some ⟨y.g, 0, none⟩)] 29)) := ⟨_, rfl⟩
  rw [← hW0]
  have hb0 : Below w.heap.size w W0 := by
    rw [hW0]
    exact Below.and (Below.and (alloc_below _ _) (alloc_below _ _)) (alloc_below _ _)
  have hsz : W0.heap.size = w.heap.size + 1 + 1 + 1 := by rw [hW0]; simp
  have r1 : Row W0 w.heap.size 29 #[.pointer (some ⟨y.g, 0, none⟩)] := by
    rw [hW0]
    exact ((Row.new _ _ _).alloc _).alloc _
  have r2 : Row W0 (w.heap.size + 1) 36 #[.slice A keep.length cap] := by
    rw [hW0]
    exact (row_at (by simp)).alloc _
  have r3 : Row W0 (w.heap.size + 1 + 1) 29 #[.pointer (some ⟨y.g, 0, none⟩)] := by
    rw [hW0]
    exact row_at (by simp)
  have hm0 := h.below hb0
  have hlt := h.lt
  have hmb := h.marks.lt
  have hs0 := hs.below hb0
  have HB0 := Lib.hid hb0
  have HSZ := Lib.hid hsz
  have HM := Lib.hid hm0
  have HLT := Lib.hid hlt
  have HOK := Lib.hid ok
  have hmost := h.most
  have hplen := h.plen
  clear hW0 h hs
  refine range_all rfl (by omega) (gf := 65) (lb := #[.pointer (some ⟨w.heap.size + 1 + 1, 0, none⟩)]) rfl trivial (enters_of Try.func65 (by kernel_rfl) rfl) (nz s.pend) (encs := encN) (fun _ => rfl) (CrI W0 y s keep)
    (cri_stay (by omega)) ⟨y, hm0, Turn.refl _ _, rfl, rfl, fun _ _ => rfl⟩ (iter_tells hm0 (w.heap.size + 1 + 1) _ (r3.cell 0) ?reads)
    (fun x => { tmps := #[.pointer (some ⟨y.g, 0, none⟩), .slice A keep.length cap, .pointer (some ⟨w.heap.size, 0, none⟩), .pointer (some ⟨w.heap.size + 1, 0, none⟩), .int .i64 (x.1 : Int), .int .i64 (x.2 : Int), .pointer (some ⟨y.g, 0, none⟩),
      .func (.func 65) #[] #[.pointer (some ⟨w.heap.size + 1 + 1, 0, none⟩)], .int .i64 (x.1 : Int), .int .i64 (x.2 : Int), undef, undef, undef, undef, undef, undef, undef, undef, undef, undef, undef, undef, undef, undef, undef, undef, undef], defers := [] }) ?assign ?body ?done
  case reads =>
    rintro k W ⟨y', hm, ht, h1, h2, h3⟩ j v hj hq hv
    rw [← h1, hm.pen.cellAt j (by rw [crashTo_nl]; omega), h3 j hq]
    exact hv
  case assign =>
    intro l x W K hK
    dsimp only [encN]
    gi_wp2
    exact hK
  case body =>
    rintro l k x W hx ⟨y', hm, ht, h1, h2, h3⟩
    have hxm := List.mem_of_getElem? hx
    have hxb := nzFrom_bound _ _ _ x hxm
    obtain ⟨hx1, m, hmj, hmne⟩ := nzFrom_at _ _ _ k x hx
    rw [Nat.sub_zero] at hmj
    rw [Nat.zero_add] at hx1
    have hri : (nz s.pend).Pairwise (fun a b => a.2 < b.2) := nzFrom_rise s.pend 0 0
    have hfar : ∀ (i : Nat) (q : Nat × Nat), (nz s.pend)[i]? = some q → i < k → q.2 < x.2 := by
      intro i q hq hi
      have hil := (List.getElem?_eq_some_iff.1 hq).1
      have hkl := (List.getElem?_eq_some_iff.1 hx).1
      have := List.pairwise_iff_getElem.1 hri i k hil hkl hi
      rw [(List.getElem?_eq_some_iff.1 hq).2, (List.getElem?_eq_some_iff.1 hx).2] at this
      exact this
    obtain ⟨sk, hsk⟩ : ∃ sk, sk = s.crashTo keep ((nz s.pend).take k) := ⟨_, rfl⟩
    rw [← hsk] at hm
    have okk : sk.Ok := by
      rw [hsk]
      refine crashTo_Ok HOK.out keep _ fun q hq => ?_
      have := nzFrom_bound _ _ _ q (List.mem_of_mem_take hq)
      omega
    have hnk : sk.nl = s.nl := by rw [hsk, crashTo_nl]
    have hpk : sk.pend.getD x.2 [] = m := by
      rw [hsk, crashTo_far, List.getD_eq_getElem?_getD, hmj]
      · rfl
      · intro q hq
        obtain ⟨i, hi, he⟩ := List.getElem_of_mem hq
        rw [List.length_take] at hi
        rw [List.getElem_take] at he
        have := hfar i q (by rw [List.getElem?_eq_getElem (by omega), he]) (by omega)
        omega
    have hpk2 : sk.pend[x.2]? = some m := by
      have hl : x.2 < sk.pend.length := by rw [hsk, crashTo_pend]; omega
      rw [getD_at hl] at hpk
      rw [List.getElem?_eq_getElem hl, hpk]
    obtain ⟨V, m', hV, hm', htl⟩ := ps_get hm (j := x.2) (by omega)
    rw [hpk2] at hm'
    cases hm'
    obtain ⟨AV, capV, rfl, hcV⟩ := htl.len
    have b1 : W.cell? ⟨w.heap.size, 0, none⟩ = some (.pointer (some ⟨y.g, 0, none⟩)) := ht.but.cell (r1.cell 0) (fun e => by have := HLT.out _ e; dsimp only at this; omega)
    have b2 : W.cell? ⟨w.heap.size + 1, 0, none⟩ = some (.slice A keep.length cap) := ht.but.cell (r2.cell 0) (fun e => by have := HLT.out _ e; dsimp only at this; omega)
    have b3 : W.cell? ⟨y.g, 2, none⟩ = some (.slice (some ⟨y.gp, 0, none⟩) s.nl y'.cp) := by
      have := hm.row.cell 2
      rw [ht.g, h1, hnk] at this
      exact this
    have b4 : W.cell? ⟨y.gp, x.2, none⟩ = some (.slice AV m.length capV) := by rw [← h1, hm.pen.cellAt x.2 (by omega), hV]
    have hsl : Sl W A (keep.map iv) := by
      intro i u hu
      obtain ⟨a, e, hc⟩ := hs0 i u hu
      exact ⟨a, e, ht.but.cell hc (by rw [add_block]; exact hA a e)⟩
    have hml : m.length ≤ 1000000000 := okk.few m (List.mem_of_getElem? hpk2)
    have HK := Lib.hid fun W' (hb : Below W.heap.size W W') => kept_any keep A cap x.1 m.length W' (hsl.below hb) hl hw (by omega) (by omega)
    have HLA := Lib.hid fun W' (hb : Below W.heap.size W W') => last_ok (hm.below hb) okk x.2 (keptN keep x.1 m.length) (by omega) (by rw [hpk]; exact keptN_le _ _ _)
    rw [ht.g] at HLA
    have i0 : (0 : Int) ≤ (x.2 : Int) := by omega
    have i1 : (x.2 : Int) < (s.nl : Int) := by omega
    have HX := Lib.hid hx
    have HT := Lib.hid ht
    have HMM := Lib.hid hm
    have H1 := Lib.hid h1
    have H2 := Lib.hid h2
    have H3 := Lib.hid h3
    have HSK := Lib.hid hsk
    have HPK := Lib.hid hpk
    have HOKK := Lib.hid okk
    have HNK := Lib.hid hnk
    have HX2 := Lib.hid hxb
    obtain ⟨xi, xj⟩ := x
    dsimp only at *
    have hsz3 : w.heap.size + 1 + 1 + 1 ≤ W0.heap.size := by omega
    clear hsz hx ht hm h1 h2 h3 hsk hpk hpk2 okk hnk hfar hri hxm hmj htl hV hs0 hsl hx1 hxb hw hA
    gi_wp2_with fail
    refine wpIn_region_tail 13 (by kernel_rfl) (by kernel_rfl) ?nodef ?lets ?_
    case nodef => exact noDefer_all (by kernel_rfl)
    case lets =>
      rintro ⟨a, w, h⟩
      simp [Exit.then, Exit.inBlock] at h
      obtain ⟨h, _⟩ := h
      cases h
    simp only [List.take_succ_cons, List.take_zero, List.drop_succ_cons, List.drop_zero]
    iterate 12 still_step
    still_call ((HK.out W.drew (drew_below W)).mono fun e w' h => ⟨h.1, h.2.symm⟩)
    refine wpStill_nil ?_
    go_wp2_with (go_at_call 59; refine (HLA.out W.drew (drew_below W)).mono ?_; rintro e w3 ⟨rfl, y3, hm3, ht3, hn3, hst3⟩)
    have ht3' : Turn W w3 y' y3 := ⟨ht3.g, ⟨ht3.but.os, ht3.but.tape, ht3.but.output, ht3.but.size, ht3.but.block⟩, ht3.fp⟩
    have hnb : ¬ y'.fp w.heap.size := by
      intro hf
      rcases HT.out.fp _ hf with h | h
      · have := HLT.out _ h
        omega
      · omega
    have b1' : w3.cell? ⟨w.heap.size, 0, none⟩ = some (.pointer (some ⟨y.g, 0, none⟩)) := ht3'.but.cell b1 hnb
    have HLO := Lib.hid (lose_ok hm3 xj (by show xj < sk.nl; rw [HNK.out]; omega))
    rw [ht3'.g, HT.out.g] at HLO
    have HT3 := Lib.hid ht3'
    have HN3 := Lib.hid hn3
    clear hm3 ht3 ht3' hn3 hst3 b1 b2 b3 b4
    gi_wp2_with (refine ⟨trivial, ?_⟩; gi_at_call 61; refine (CallsIn.inRound l (callsIn_wide.2 HLO.out)).mono ?_; rintro e w4 ⟨rfl, y4, hm4, ht4, hn4⟩)
    refine ⟨⟨Nat.le_trans HT3.out.size ht4.size, ?_⟩, ?_⟩
    · intro q o hq ho hc
      have hql := (Array.getElem?_eq_some_iff.1 ho).1
      have hnf : ¬ y'.fp q := by
        intro hf
        rcases fp_cells HMM.out hf with ⟨cs, t, h5⟩ | h5
        · rw [h5] at ho
          cases ho
          cases hc
        · rw [H2.out] at h5
          omega
      exact ((HT3.out.trans ht4).but.block q hql hnf).trans ho
    · refine cri_next HX.out HT.out H1.out H2.out H3.out HT3.out HN3.out ht4 hn4 ?_
      rw [← HSK.out]
      show MemAt w4 y4 ((sk.last xj (keptN keep xi (sk.pend.getD xj []).length)).lose xj)
      rw [HPK.out]
      exact hm4
  case done =>
    rintro D W hD hI hK
    gi_wp2
    refine ⟨by simp, .inl ⟨_, _, rfl, run_takeDeferred hK, ?_⟩⟩
    obtain ⟨y', hm, ht, h1, h2, h3⟩ := cri_stay (by omega) _ _ _ (some D) hI (grownBy_putObj' W D (.deferred none)) (fun r e => by cases e; exact ⟨hD, _, hK, rfl⟩)
    rw [List.take_length] at hm
    exact ⟨_, results_none rfl _ _ _, rfl, y', hm, (Turn.of_below y HB0.out).trans ht⟩
end Go.Proofs.Ytkeajfedlhgejaa
/- No memory, nil or zero: what Load, Evict, Fence, Stats, Copy, Same, Lines and Crash make of it; and Lines of a memory with nothing pending. -/
namespace Go.Proofs.Ytkeajfedlhgejaa
open Go.RowKit Go.Shelf
set_option linter.unusedVariables false
attribute [local go_sem] Oper.semAt_some

theorem load_no {p : Option Addr} {w : World} (h : NoMem w p) (a : Int) : Calls Try.prog 37 #[.pointer p, .int .u64 a] w fun e w' => e = .returned (.tuple #[.int .u64 0, .int .i64 1]) ∧ w = w' := by
  have H := Lib.hid (refused_no h true a)
  clear h
  go_enter Try.func37, Try.ntmps37
  go_wp2_with fail
  refine H.out.mono ?_
  rintro e w1 ⟨rfl, rfl⟩
  go_wp2
  go_ret2
  exact ⟨rfl, rfl⟩
theorem evict_no {p : Option Addr} {w : World} (h : NoMem w p) (a n : Int) : Calls Try.prog 41 #[.pointer p, .int .u64 a, .int .i64 n] w fun e w' => e = .returned (.tuple #[.int .i64 0, .int .i64 1]) ∧ w = w' := by
  have H := Lib.hid fun f => refused_no h f a
  clear h
  go_enter Try.func41, Try.ntmps41
  go_wp2_with fail
  refine (H.out _).mono ?_
  rintro e w1 ⟨rfl, rfl⟩
  go_wp2
  go_ret2
  exact ⟨rfl, rfl⟩
theorem fence_no {p : Option Addr} {w : World} (h : NoMem w p) (c : Int) : Calls Try.prog 26 #[.pointer p, .int .i64 c] w fun e w' => e = .returned (.int .i64 1) ∧ w = w' := by
  have HC := Lib.hid (isClient_any c w)
  have H := Lib.hid fun f => refused_no h f 0
  clear h
  go_enter Try.func26, Try.ntmps26
  go_wp2_with fail
  refine HC.out.mono ?_
  rintro e w1 ⟨rfl, rfl⟩
  go_wp2_with fail
  refine (H.out _).mono ?_
  rintro e w1 ⟨rfl, rfl⟩
  go_wp2
  go_ret
  exact ⟨rfl, rfl⟩
theorem copy_no {p : Option Addr} {w : World} (h : NoMem w p) : Calls Try.prog 20 #[.pointer p] w fun e w' => e = .returned (.pointer none) ∧ Below w.heap.size w w' := by
  have H := Lib.hid fun W (hb : Below w.heap.size w W) => none_no (h.below hb)
  clear h
  go_enter Try.func20, Try.ntmps20
  go_wp2_with fail
  refine (H.out _ (alloc_below _ _)).mono ?_
  rintro e w1 ⟨rfl, rfl⟩
  go_wp2
  go_ret
  exact ⟨rfl, alloc_below _ _⟩
theorem same_no {p q : Option Addr} {w : World} (h : NoMem w p) (h2 : NoMem w q) : Calls Try.prog 22 #[.pointer p, .pointer q] w fun e w' => e = .returned (.bool true) ∧ w = w' := by
  have H := Lib.hid (none_no h)
  have H2 := Lib.hid (none_no h2)
  clear h h2
  go_enter Try.func22, Try.ntmps22
  go_wp2_with fail
  refine H.out.mono ?_
  rintro e w1 ⟨rfl, rfl⟩
  go_wp2_with fail
  refine H.out.mono ?_
  rintro e w1 ⟨rfl, rfl⟩
  go_wp2_with fail
  refine H2.out.mono ?_
  rintro e w1 ⟨rfl, rfl⟩
  go_wp2
  go_ret
  exact ⟨rfl, rfl⟩
theorem stats_no {p : Option Addr} {w : World} (h : NoMem w p) : Calls Try.prog 31 #[.pointer p] w fun e w' => e = .returned (.agg #[.int .u64 0, .int .u64 0, .int .u64 0, .int .u64 0]) ∧ Below w.heap.size w w' := by
  have H := Lib.hid fun W (hb : Below w.heap.size w W) => none_no (h.below hb)
  clear h
  go_enter Try.func31, Try.ntmps31
  go_wp2_with fail
  refine (H.out _ (alloc_below _ _)).mono ?_
  rintro e w1 ⟨rfl, rfl⟩
  go_wp2
  refine bodyPost_ret (results_cell_row rfl _ _ w.heap.size 63 #[.int .u64 0, .int .u64 0, .int .u64 0, .int .u64 0] _ _ rfl (heap_alloc_new _ _) Try.underlying63 rfl (by kernel_rfl)) rfl ?_
  exact ⟨rfl, alloc_below _ _⟩
set_option maxRecDepth 100000 in
set_option maxHeartbeats 1600000 in
theorem iter_none {w : World} {p : Option Addr} (h : NoMem w p) (bx : Nat) (I : Nat → World → Prop) (hbx : w.cell? ⟨bx, 0, none⟩ = some (.pointer p)) :
    Tells Fence.wide 5 Try.prog 65 #[.pointer (some ⟨bx, 0, none⟩)] encN [] w I := by
  intro l J W hW hJ hY h0
  have hbox : W.cell? ⟨bx, 0, none⟩ = some (.pointer p) := (hW.cell (p := ⟨bx, 0, none⟩) (block_lt_of_cell hbx)).trans hbx
  have HN := Lib.hid (none_no (h.below hW))
  have H0 := Lib.hid h0
  clear hJ hY h0 hbx h hW
  refine callsIn_of_wp Try.func65 rfl trivial ?_ rfl
  simp only [Try.ntmps65, List.size_toArray, List.length_cons, List.length_nil, Nat.reduceAdd, Nat.reduceSub, Array.replicate_succ, Array.replicate_zero, List.push_toArray, List.append_toArray, List.nil_append, List.cons_append]
  gi_wp2_with (refine ⟨trivial, ?_⟩; gi_at_call 44; refine (callsIn_wide.2 HN.out).mono ?_; rintro e w' ⟨rfl, rfl⟩)
  (try simp only [Exit.inBlock, Exit.then])
  refine bodyPost_ret (results_none rfl _ _ _) rfl ?_
  exact ⟨⟨_, rfl⟩, H0.out⟩
theorem grown_stays {W0 W W' : World} {row : Option Nat} (h : Below W0.heap.size W0 W) (hg : W.grownBy W' row) (hr : ∀ r, row = some r → W0.heap.size ≤ r ∧ ∃ o : Obj, W.heap[r]? = some o ∧ o.isCells = false) : Below W0.heap.size W0 W' :=
  h.trans ⟨hg.os, hg.tape, hg.output, hg.size, fun k hk => hg.block k (Nat.lt_of_lt_of_le hk h.size) (fun e => by have := (hr k e.symm).1; omega)⟩
set_option maxRecDepth 100000 in
set_option maxHeartbeats 1600000 in
theorem crash_no {w : World} {p : Option Addr} (h : NoMem w p) (A : Option Addr) (n cap : Nat) : Calls Try.prog 27 #[.pointer p, .slice A n cap] w fun e w' => e = .returned (.tuple #[]) ∧ Below w.heap.size w w' := by
  refine (callsIn_wide (n := 6)).1 ?_
  refine callsIn_of_wp_marks Try.func27 rfl trivial ?_ rfl
  simp only [Try.ntmps27, List.size_toArray, List.length_cons, List.length_nil, Nat.reduceAdd, Nat.reduceSub, Array.replicate_succ, Array.replicate_zero, List.push_toArray, List.append_toArray, List.nil_append, List.cons_append]
  gi_wp2_with (refine ⟨trivial, ?_⟩; gi_at_call 48; refine (callsIn_wide.2 (lines_any _ _)).mono ?_; rintro e w' ⟨rfl, rfl⟩)
  obtain ⟨W0, hW0⟩ : ∃ W0, W0 = (((w.alloc (.cells #[.pointer p] 29)).alloc (.cells #[.slice A n cap] 36)).alloc (.cells #[.pointer p] 29)) := ⟨_, rfl⟩
  rw [← hW0]
  have hb0 : Below w.heap.size w W0 := by
    rw [hW0]
    exact Below.and (Below.and (alloc_below _ _) (alloc_below _ _)) (alloc_below _ _)
  have r3 : Row W0 (w.heap.size + 1 + 1) 29 #[.pointer p] := by
    rw [hW0]
    exact row_at (by simp)
  have hm0 := h.below hb0
  have HB0 := Lib.hid hb0
  clear hW0 h
  refine range_all rfl (by omega) (gf := 65) (lb := #[.pointer (some ⟨w.heap.size + 1 + 1, 0, none⟩)]) rfl trivial (enters_of Try.func65 (by kernel_rfl) rfl) [] (encs := encN) (fun _ => rfl) (fun _ W => Below W0.heap.size W0 W)
    (fun k W W' row hI hg hr => grown_stays hI hg hr) (Below.refl _ _) (iter_none hm0 (w.heap.size + 1 + 1) _ (r3.cell 0))
    (fun x => { tmps := #[.pointer p, .slice A n cap, .pointer (some ⟨w.heap.size, 0, none⟩), .pointer (some ⟨w.heap.size + 1, 0, none⟩), .int .i64 (x.1 : Int), .int .i64 (x.2 : Int), .pointer p,
      .func (.func 65) #[] #[.pointer (some ⟨w.heap.size + 1 + 1, 0, none⟩)], .int .i64 (x.1 : Int), .int .i64 (x.2 : Int), undef, undef, undef, undef, undef, undef, undef, undef, undef, undef, undef, undef, undef, undef, undef, undef, undef], defers := [] }) ?assign ?body ?done
  case assign =>
    intro l x W K hK
    dsimp only [encN]
    gi_wp2
    exact hK
  case body =>
    rintro l k x W hx
    cases hx
  case done =>
    rintro D W hD hI hK
    gi_wp2
    refine ⟨by simp, .inl ⟨_, _, rfl, run_takeDeferred hK, ?_⟩⟩
    have hb := grown_stays hI (grownBy_putObj' W D (.deferred none)) (fun r e => by cases e; exact ⟨hD, _, hK, rfl⟩)
    exact ⟨_, results_none rfl _ _ _, rfl, Below.and HB0.out hb⟩
set_option maxRecDepth 100000 in
set_option maxHeartbeats 1600000 in
/-- Lines where the iterator tells none. -/
theorem lines_of {w : World} {p : Option Addr}
    (hT : ∀ (W : World) (bx : Nat) (I : Nat → World → Prop), Below w.heap.size w W → W.cell? ⟨bx, 0, none⟩ = some (.pointer p) → (∀ k W', I k W' → Below W.heap.size W W') → Tells Fence.wide 5 Try.prog 65 #[.pointer (some ⟨bx, 0, none⟩)] encN [] W I) :
    Calls Try.prog 33 #[.pointer p] w fun e w' => e = .returned (.slice none 0 0) ∧ Below w.heap.size w w' := by
  refine (callsIn_wide (n := 6)).1 ?_
  refine callsIn_of_wp_marks Try.func33 rfl trivial ?_ rfl
  simp only [Try.ntmps33, List.size_toArray, List.length_cons, List.length_nil, Nat.reduceAdd, Nat.reduceSub, Array.replicate_succ, Array.replicate_zero, List.push_toArray, List.append_toArray, List.nil_append, List.cons_append]
  gi_wp2_with (refine ⟨trivial, ?_⟩; gi_at_call 48; refine (callsIn_wide.2 (lines_any _ _)).mono ?_; rintro e w' ⟨rfl, rfl⟩)
  obtain ⟨W0, hW0⟩ : ∃ W0, W0 = ((w.alloc (.cells #[.slice none 0 0] 74)).alloc (.cells #[.pointer p] 29)) := ⟨_, rfl⟩
  rw [← hW0]
  have hb0 : Below w.heap.size w W0 := by
    rw [hW0]
    exact Below.and (alloc_below _ _) (alloc_below _ _)
  have r1 : Row W0 w.heap.size 74 #[.slice none 0 0] := by
    rw [hW0]
    exact (Row.new _ _ _).alloc _
  have r3 : Row W0 (w.heap.size + 1) 29 #[.pointer p] := by
    rw [hW0]
    exact row_at (by simp)
  have HB0 := Lib.hid hb0
  have HR := Lib.hid r1
  have HT := Lib.hid (hT W0 (w.heap.size + 1) (fun _ W => Below W0.heap.size W0 W) hb0 (r3.cell 0) (fun _ _ h => h))
  clear hW0 hT hb0 r1 r3
  refine range_all rfl (by omega) (gf := 65) (lb := #[.pointer (some ⟨w.heap.size + 1, 0, none⟩)]) rfl trivial (enters_of Try.func65 (by kernel_rfl) rfl) [] (encs := encN) (fun _ => rfl) (fun _ W => Below W0.heap.size W0 W)
    (fun k W W' row hI hg hr => grown_stays hI hg hr) (Below.refl _ _) HT.out
    (fun x => { tmps := #[.pointer p, undef, .slice none 0 0, .pointer (some ⟨w.heap.size, 0, none⟩), undef, .int .i64 (x.2 : Int), .pointer p,
      .func (.func 65) #[] #[.pointer (some ⟨w.heap.size + 1, 0, none⟩)], .int .i64 (x.1 : Int), .int .i64 (x.2 : Int), undef, undef, undef, undef, undef, undef, undef], defers := [] }) ?assign ?body ?done
  case assign =>
    intro l x W K hK
    dsimp only [encN]
    gi_wp2
    exact hK
  case body =>
    rintro l k x W hx
    cases hx
  case done =>
    rintro D W hD hI hK
    have hb := grown_stays hI (grownBy_putObj' W D (.deferred none)) (fun r e => by cases e; exact ⟨hD, _, hK, rfl⟩)
    have hc := (HR.out.below hI HR.out.lt).cell 0
    simp only [List.getElem?_toArray, List.getElem?_cons_succ, List.getElem?_cons_zero] at hc
    gi_wp2
    refine ⟨by simp, .inl ⟨_, _, rfl, run_takeDeferred hK, ?_⟩⟩
    exact ⟨_, results_tmp rfl _ _ _, rfl, Below.and HB0.out hb⟩
theorem lines_no {w : World} {p : Option Addr} (h : NoMem w p) : Calls Try.prog 33 #[.pointer p] w fun e w' => e = .returned (.slice none 0 0) ∧ Below w.heap.size w w' :=
  lines_of fun W bx I hb hc _ => iter_none (h.below hb) bx I hc
theorem lines_zero {w : World} {y : Lay} {s : St} (h : MemAt w y s) (hz : nz s.pend = []) : Calls Try.prog 33 #[.pointer (some ⟨y.g, 0, none⟩)] w fun e w' => e = .returned (.slice none 0 0) ∧ Below w.heap.size w w' :=
  lines_of fun W bx I hb hc hI => by
    have := iter_tells (h.below hb) bx I hc (fun k W' hk j v hj _ hv => by rw [((h.below hb).below (hI k W' hk)).pen.cellAt j (by omega)]; exact hv)
    rwa [hz] at this
theorem nzFrom_none (n i j : Nat) : nzFrom (List.replicate n ([] : List (Nat × Nat))) i j = [] := by
  induction n generalizing i j with
  | zero => rfl
  | succ n ih => rw [List.replicate_succ]; unfold nzFrom; rw [if_pos rfl]; exact ih _ _
theorem zero_nz (nl : Nat) : nz (St.zero nl).pend = [] := nzFrom_none nl 0 0
end Go.Proofs.Ytkeajfedlhgejaa
