/- What goes on from a packed claim: R2Ss. -/
import Derived.Test.YtkeajfedlhgejaaPcRAllC
import Derived.Test.YtkeajfedlhgejaaXt1
import Derived.Deep.QuietTactic
import Derived.Deep.DeepCutAuto
import Derived.Deep.CutBlock
/- Same of two of the document's memories, of as many lines: whether they look so; for at most a thousand stores each. -/
namespace Go.Proofs.Ytkeajfedlhgejaa
open Go Go.RowKit
set_option linter.unusedVariables false
theorem bne_f (a b : Bool) (h : false = (a != b)) : a = b := by cases a <;> cases b <;> simp_all
theorem bne_t (a : Bool) (h : true = (a != a)) : False := by cases a <;> simp_all
theorem FromW.of {w W : World} (h : Below w.heap.size w W) : FromW w W := h
set_option maxRecDepth 100000 in
set_option maxHeartbeats 8000000 in
theorem r2Same_v {w : World} {g g2 : Nat} {s s' : St} {r r' : Rf} {vF vL vF2 vL2 : Value} {ms ms2 : List Value} (h : R2At w g r vF vL ms) (h2 : R2At w g2 r' vF2 vL2 ms2) (hr : RelAt s r) (hr' : RelAt s' r') (hn : r.nl = r'.nl) (hnl : r.nl ≤ 8) (hL : r.L.length ≤ 1000 ∧ r'.L.length ≤ 1000) (hb1 : ((strOf (bytesL (lastW r.F (prs r.L)))).toList != (strOf (bytesL (lastW r'.F (prs r'.L)))).toList) = true) :
    Calls Try.prog 23 #[.pointer (some ⟨g, 0, none⟩), .pointer (some ⟨g2, 0, none⟩)] w fun e w' => e = .returned (.bool false) ∧ Below w.heap.size w w' := by
  obtain ⟨N, hN⟩ : ∃ N, N = 64 * r.nl := ⟨_, rfl⟩
  have hpos : 0 < r.nl := by rw [hr.nl]; exact hr.pos
  have hN0 : 0 < N := by omega
  have hNx : N ≤ 512 := by omega
  have hFl : r.F.length = 8 * r.nl := by rw [hr.nl]; exact hr.fl
  have hFl' : r'.F.length = 8 * r'.nl := by rw [hr'.nl]; exact hr'.fl
  have had : ∀ x ∈ r.L, x.a % 8 = 0 ∧ x.a < 64 * r.nl ∧ x.w < 18446744073709551616 := by rw [hr.nl]; exact hr.ad
  have had' : ∀ x ∈ r'.L, x.a % 8 = 0 ∧ x.a < 64 * r'.nl ∧ x.w < 18446744073709551616 := by rw [hr'.nl]; exact hr'.ad
  have HV1 := Lib.hid (fun (W : World) (hb : Below w.heap.size w W) => by
    have := r2View_any (h.below hb) ⟨hpos, by omega⟩ hFl had
    rw [← hN] at this
    exact this)
  have HV2 := Lib.hid (fun (W : World) (hb : Below w.heap.size w W) => by
    have := r2View_any (h2.below hb) ⟨by omega, by omega⟩ hFl' had'
    rw [← hn, ← hN] at this
    exact this)
  have HI1 := Lib.hid (fun (W : World) (hb : Below w.heap.size w W) => by
    have := r2Image_any (h.below hb) ⟨hpos, by omega⟩ hFl had
    rw [← hN] at this
    exact this)
  have HI2 := Lib.hid (fun (W : World) (hb : Below w.heap.size w W) => by
    have := r2Image_any (h2.below hb) ⟨by omega, by omega⟩ hFl' had'
    rw [← hn, ← hN] at this
    exact this)
  obtain ⟨T1, hT1⟩ : ∃ T, T = strOf (bytesL (lastW r.F (prs r.L))) := ⟨_, rfl⟩
  obtain ⟨T2, hT2⟩ : ∃ T, T = strOf (bytesL (lastW r'.F (prs r'.L))) := ⟨_, rfl⟩
  obtain ⟨T3, hT3⟩ : ∃ T, T = strOf (bytesL (lastW r.F (prs (las r.L)))) := ⟨_, rfl⟩
  obtain ⟨T4, hT4⟩ : ∃ T, T = strOf (bytesL (lastW r'.F (prs (las r'.L)))) := ⟨_, rfl⟩
  have HT1 := Lib.hid hT1
  have HT2 := Lib.hid hT2
  have HT3 := Lib.hid hT3
  have HT4 := Lib.hid hT4
  have LL1 := Lib.hid (show (bytesL (lastW r.F (prs r.L))).length = N by rw [bytesL_len, lastW_length, hFl]; omega)
  have LL2 := Lib.hid (show (bytesL (lastW r'.F (prs r'.L))).length = N by rw [bytesL_len, lastW_length, hFl']; omega)
  have LL3 := Lib.hid (show (bytesL (lastW r.F (prs (las r.L)))).length = N by rw [bytesL_len, lastW_length, hFl]; omega)
  have LL4 := Lib.hid (show (bytesL (lastW r'.F (prs (las r'.L)))).length = N by rw [bytesL_len, lastW_length, hFl']; omega)
  rw [← hT1, ← hT2] at hb1
  have hb1e : ¬ T1.toList = T2.toList := by simpa using hb1
  have mixed : Try.prog.follows .mixedOrders = true := by kernel_rfl
  have EGr2View := Lib.hid (enters_of Try.func28 (by kernel_rfl) rfl)
  have EGr2Image := Lib.hid (enters_of Try.func29 (by kernel_rfl) rfl)
  have EGr2Marked := Lib.hid (enters_of Try.func57 (by kernel_rfl) rfl)
  have HH := Lib.hid h
  have HH2 := Lib.hid h2
  have HNN := Lib.hid hN
  have HNE := Lib.hid hn
  have HAD := Lib.hid had
  have HAD2 := Lib.hid had'
  have HLL := Lib.hid hL
  clear hT1 hT2 hT3 hT4 h h2 hFl hFl' had had' hN hn hL
  go_enter Try.func23, Try.ntmps23
  go_upto_region 1 with (fail)
  refine wp_region_noPanic ?_
  refine wp_region_held_drew (S := FromW w) (by kernel_rfl) (drew_below w) (fun hHeld => ?_)
  have LC : Below w.heap.size w w.drew := drew_below w
  refine wpAnyH_take (i := 0) (oi := ⟨some 10, _, _, _, _, _⟩) (v := .pointer (some ⟨g, 0, none⟩)) rfl (by kernel_rfl) (by kernel_rfl) (by kernel_rfl) (fun _ _ _ h => h) (Or.inl ⟨by kernel_rfl, by intro WW hSw; skip; go_simp⟩) (by assumption) ?_
  (try simp only [Act.put, List.setIfInBounds_toArray, List.set_cons_zero, List.set_cons_succ])
  refine wpAnyH_take (i := 3) (oi := ⟨some 13, _, _, _, _, _⟩) (v := .pointer (some ⟨g2, 0, none⟩)) rfl (by kernel_rfl) (by kernel_rfl) (by kernel_rfl) (fun _ _ _ h => h) (Or.inl ⟨by kernel_rfl, by intro WW hSw; skip; go_simp⟩) (by assumption) ?_
  (try simp only [Act.put, List.setIfInBounds_toArray, List.set_cons_zero, List.set_cons_succ])
  refine wpAnyH_one (i := 1) (oi := ⟨_, _, _, _, _, _⟩) rfl (by kernel_rfl) (fun K hK => ?_)
  refine step_calls (by rfl) 28 EGr2View.out [.tmp 10] _ rfl [.pointer (some ⟨g, 0, none⟩)] rfl (HV1.out _ LC) ?_
  rintro e x1 ⟨⟨v1, rfl, o1⟩, b1⟩
  have hS1 := FromW.next hHeld b1
  refine ⟨_, rfl, hK _ _ hS1 (fun _ => ?_)⟩
  clear hK K
  have LX1 : Below w.heap.size w x1 := belowT LC (belowB b1 LC.size)
  clear LC
  have LC := LX1
  clear hHeld
  refine wpAnyH_strong (S' := FromW x1) (fun W h => FromW.next hS1 h) _ _ _ _ ?_
  have hHeld : FromW x1 x1 := FromW.refl _
  obtain ⟨ga1, ka1, _, hv1, _, _, _, _⟩ := own4_shape o1 hN0
  subst hv1
  have C1 := Lib.hid (fun (WW : World) (h : FromW x1 WW) => (show (convert 22 9 (.slice (some ⟨ga1, 0, none⟩) N ka1)).run Try.prog WW = .ok (.string T1) WW by
    have hc := conv_sl (w := WW) (a := ⟨ga1, 0, none⟩) N ka1 LL1.out (fun i u hu => ⟨_, rfl, (own2_below o1 h).cells (g := ga1) rfl i u hu⟩)
    rwa [← HT1.out] at hc))
  clear b1 LX1 hS1 o1
  (try simp only [Act.put, List.setIfInBounds_toArray, List.set_cons_zero, List.set_cons_succ])
  refine wpAnyH_take (i := 2) (oi := ⟨some 12, _, _, _, _, _⟩) (v := .string T1) rfl (by kernel_rfl) (by kernel_rfl) (by kernel_rfl) (fun _ _ _ h => h) (Or.inl ⟨by kernel_rfl, by intro WW hSw; have hcv := C1.out WW hSw; go_simp⟩) (by assumption) ?_
  (try simp only [Act.put, List.setIfInBounds_toArray, List.set_cons_zero, List.set_cons_succ])
  refine wpAnyH_one (i := 4) (oi := ⟨_, _, _, _, _, _⟩) rfl (by kernel_rfl) (fun K hK => ?_)
  refine step_calls (by rfl) 28 EGr2View.out [.tmp 13] _ rfl [.pointer (some ⟨g2, 0, none⟩)] rfl (HV2.out _ LC) ?_
  rintro e x2 ⟨⟨v2, rfl, o2⟩, b2⟩
  have hS2 := FromW.next hHeld b2
  refine ⟨_, rfl, hK _ _ hS2 (fun _ => ?_)⟩
  clear hK K
  have LX2 : Below w.heap.size w x2 := belowT LC (belowB b2 LC.size)
  clear LC
  have LC := LX2
  clear hHeld
  refine wpAnyH_strong (S' := FromW x2) (fun W h => FromW.next hS2 h) _ _ _ _ ?_
  have hHeld : FromW x2 x2 := FromW.refl _
  obtain ⟨ga2, ka2, _, hv2, _, _, _, _⟩ := own4_shape o2 hN0
  subst hv2
  have C2 := Lib.hid (fun (WW : World) (h : FromW x2 WW) => (show (convert 22 9 (.slice (some ⟨ga2, 0, none⟩) N ka2)).run Try.prog WW = .ok (.string T2) WW by
    have hc := conv_sl (w := WW) (a := ⟨ga2, 0, none⟩) N ka2 LL2.out (fun i u hu => ⟨_, rfl, (own2_below o2 h).cells (g := ga2) rfl i u hu⟩)
    rwa [← HT2.out] at hc))
  clear b2 LX2 hS2 o2
  (try simp only [Act.put, List.setIfInBounds_toArray, List.set_cons_zero, List.set_cons_succ])
  refine wpAnyH_take (i := 5) (oi := ⟨some 15, _, _, _, _, _⟩) (v := .string T2) rfl (by kernel_rfl) (by kernel_rfl) (by kernel_rfl) (fun _ _ _ h => h) (Or.inl ⟨by kernel_rfl, by intro WW hSw; have hcv := C2.out WW hSw; go_simp⟩) (by assumption) ?_
  (try simp only [Act.put, List.setIfInBounds_toArray, List.set_cons_zero, List.set_cons_succ])
  refine wpAnyH_take (i := 6) (oi := ⟨some 16, _, _, _, _, _⟩) (v := .bool true) rfl (by kernel_rfl) (by kernel_rfl) (by kernel_rfl) (fun _ _ _ h => h) (Or.inl ⟨by kernel_rfl, by intro WW hSw; skip; go_simp⟩) (by assumption) ?_
  (try simp only [Act.put, List.setIfInBounds_toArray, List.set_cons_zero, List.set_cons_succ])
  refine wpAnyH_take (i := 7) (oi := ⟨some 17, _, _, _, _, _⟩) (v := .bool true) rfl (by kernel_rfl) (by kernel_rfl) (by kernel_rfl) (fun _ _ _ h => h) (Or.inl ⟨by kernel_rfl, by intro WW hSw; skip; go_simp⟩) (by assumption) ?_
  (try simp only [Act.put, List.setIfInBounds_toArray, List.set_cons_zero, List.set_cons_succ])
  refine wpAnyH_take (i := 8) (oi := ⟨some 18, _, _, _, _, _⟩) (v := undef) rfl (by kernel_rfl) (by kernel_rfl) (by kernel_rfl) (fun _ _ _ h => h) (Or.inr ⟨by kernel_rfl, rfl⟩) (by assumption) ?_
  (try simp only [Act.put, List.setIfInBounds_toArray, List.set_cons_zero, List.set_cons_succ])
  refine wpAnyH_take (i := 9) (oi := ⟨some 19, _, _, _, _, _⟩) (v := undef) rfl (by kernel_rfl) (by kernel_rfl) (by kernel_rfl) (fun _ _ _ h => h) (Or.inr ⟨by kernel_rfl, rfl⟩) (by assumption) ?_
  (try simp only [Act.put, List.setIfInBounds_toArray, List.set_cons_zero, List.set_cons_succ])
  refine wpAnyH_take (i := 10) (oi := ⟨some 20, _, _, _, _, _⟩) (v := undef) rfl (by kernel_rfl) (by kernel_rfl) (by kernel_rfl) (fun _ _ _ h => h) (Or.inr ⟨by kernel_rfl, rfl⟩) (by assumption) ?_
  (try simp only [Act.put, List.setIfInBounds_toArray, List.set_cons_zero, List.set_cons_succ])
  refine wpAnyH_take (i := 11) (oi := ⟨some 21, _, _, _, _, _⟩) (v := undef) rfl (by kernel_rfl) (by kernel_rfl) (by kernel_rfl) (fun _ _ _ h => h) (Or.inr ⟨by kernel_rfl, rfl⟩) (by assumption) ?_
  (try simp only [Act.put, List.setIfInBounds_toArray, List.set_cons_zero, List.set_cons_succ])
  refine wpAnyH_take (i := 12) (oi := ⟨some 22, _, _, _, _, _⟩) (v := undef) rfl (by kernel_rfl) (by kernel_rfl) (by kernel_rfl) (fun _ _ _ h => h) (Or.inr ⟨by kernel_rfl, rfl⟩) (by assumption) ?_
  (try simp only [Act.put, List.setIfInBounds_toArray, List.set_cons_zero, List.set_cons_succ])
  refine wpAnyH_take (i := 13) (oi := ⟨some 23, _, _, _, _, _⟩) (v := undef) rfl (by kernel_rfl) (by kernel_rfl) (by kernel_rfl) (fun _ _ _ h => h) (Or.inr ⟨by kernel_rfl, rfl⟩) (by assumption) ?_
  (try simp only [Act.put, List.setIfInBounds_toArray, List.set_cons_zero, List.set_cons_succ])
  refine wpAnyH_take (i := 14) (oi := ⟨some 24, _, _, _, _, _⟩) (v := undef) rfl (by kernel_rfl) (by kernel_rfl) (by kernel_rfl) (fun _ _ _ h => h) (Or.inr ⟨by kernel_rfl, rfl⟩) (by assumption) ?_
  (try simp only [Act.put, List.setIfInBounds_toArray, List.set_cons_zero, List.set_cons_succ])
  refine wpAnyH_take (i := 15) (oi := ⟨some 25, _, _, _, _, _⟩) (v := .bool true) rfl (by kernel_rfl) (by kernel_rfl) (by kernel_rfl) (fun _ _ _ h => h) (Or.inl ⟨by kernel_rfl, by intro WW hSw; skip; go_simp⟩) (by assumption) ?_
  (try simp only [Act.put, List.setIfInBounds_toArray, List.set_cons_zero, List.set_cons_succ])
  have LF := Lib.hid LC
  clear LC
  refine wpAnyH_done (by kernel_rfl) ?_ _
  unfold NoPanic
  clear hHeld
  go_wp2
  go_ret
  exact ⟨rfl, LF.out⟩
set_option maxRecDepth 100000 in
set_option maxHeartbeats 8000000 in
theorem r2Same_i {w : World} {g g2 : Nat} {s s' : St} {r r' : Rf} {vF vL vF2 vL2 : Value} {ms ms2 : List Value} (h : R2At w g r vF vL ms) (h2 : R2At w g2 r' vF2 vL2 ms2) (hr : RelAt s r) (hr' : RelAt s' r') (hn : r.nl = r'.nl) (hnl : r.nl ≤ 8) (hL : r.L.length ≤ 1000 ∧ r'.L.length ≤ 1000) (hb1 : ((strOf (bytesL (lastW r.F (prs r.L)))).toList != (strOf (bytesL (lastW r'.F (prs r'.L)))).toList) = false) (hb2 : ((strOf (bytesL (lastW r.F (prs (las r.L))))).toList != (strOf (bytesL (lastW r'.F (prs (las r'.L))))).toList) = true) :
    Calls Try.prog 23 #[.pointer (some ⟨g, 0, none⟩), .pointer (some ⟨g2, 0, none⟩)] w fun e w' => e = .returned (.bool false) ∧ Below w.heap.size w w' := by
  obtain ⟨N, hN⟩ : ∃ N, N = 64 * r.nl := ⟨_, rfl⟩
  have hpos : 0 < r.nl := by rw [hr.nl]; exact hr.pos
  have hN0 : 0 < N := by omega
  have hNx : N ≤ 512 := by omega
  have hFl : r.F.length = 8 * r.nl := by rw [hr.nl]; exact hr.fl
  have hFl' : r'.F.length = 8 * r'.nl := by rw [hr'.nl]; exact hr'.fl
  have had : ∀ x ∈ r.L, x.a % 8 = 0 ∧ x.a < 64 * r.nl ∧ x.w < 18446744073709551616 := by rw [hr.nl]; exact hr.ad
  have had' : ∀ x ∈ r'.L, x.a % 8 = 0 ∧ x.a < 64 * r'.nl ∧ x.w < 18446744073709551616 := by rw [hr'.nl]; exact hr'.ad
  have HV1 := Lib.hid (fun (W : World) (hb : Below w.heap.size w W) => by
    have := r2View_any (h.below hb) ⟨hpos, by omega⟩ hFl had
    rw [← hN] at this
    exact this)
  have HV2 := Lib.hid (fun (W : World) (hb : Below w.heap.size w W) => by
    have := r2View_any (h2.below hb) ⟨by omega, by omega⟩ hFl' had'
    rw [← hn, ← hN] at this
    exact this)
  have HI1 := Lib.hid (fun (W : World) (hb : Below w.heap.size w W) => by
    have := r2Image_any (h.below hb) ⟨hpos, by omega⟩ hFl had
    rw [← hN] at this
    exact this)
  have HI2 := Lib.hid (fun (W : World) (hb : Below w.heap.size w W) => by
    have := r2Image_any (h2.below hb) ⟨by omega, by omega⟩ hFl' had'
    rw [← hn, ← hN] at this
    exact this)
  obtain ⟨T1, hT1⟩ : ∃ T, T = strOf (bytesL (lastW r.F (prs r.L))) := ⟨_, rfl⟩
  obtain ⟨T2, hT2⟩ : ∃ T, T = strOf (bytesL (lastW r'.F (prs r'.L))) := ⟨_, rfl⟩
  obtain ⟨T3, hT3⟩ : ∃ T, T = strOf (bytesL (lastW r.F (prs (las r.L)))) := ⟨_, rfl⟩
  obtain ⟨T4, hT4⟩ : ∃ T, T = strOf (bytesL (lastW r'.F (prs (las r'.L)))) := ⟨_, rfl⟩
  have HT1 := Lib.hid hT1
  have HT2 := Lib.hid hT2
  have HT3 := Lib.hid hT3
  have HT4 := Lib.hid hT4
  have LL1 := Lib.hid (show (bytesL (lastW r.F (prs r.L))).length = N by rw [bytesL_len, lastW_length, hFl]; omega)
  have LL2 := Lib.hid (show (bytesL (lastW r'.F (prs r'.L))).length = N by rw [bytesL_len, lastW_length, hFl']; omega)
  have LL3 := Lib.hid (show (bytesL (lastW r.F (prs (las r.L)))).length = N by rw [bytesL_len, lastW_length, hFl]; omega)
  have LL4 := Lib.hid (show (bytesL (lastW r'.F (prs (las r'.L)))).length = N by rw [bytesL_len, lastW_length, hFl']; omega)
  rw [← hT1, ← hT2] at hb1
  rw [← hT3, ← hT4] at hb2
  have hb1e : T1.toList = T2.toList := by simpa using hb1
  have hb2e : ¬ T3.toList = T4.toList := by simpa using hb2
  have mixed : Try.prog.follows .mixedOrders = true := by kernel_rfl
  have EGr2View := Lib.hid (enters_of Try.func28 (by kernel_rfl) rfl)
  have EGr2Image := Lib.hid (enters_of Try.func29 (by kernel_rfl) rfl)
  have EGr2Marked := Lib.hid (enters_of Try.func57 (by kernel_rfl) rfl)
  have HH := Lib.hid h
  have HH2 := Lib.hid h2
  have HNN := Lib.hid hN
  have HNE := Lib.hid hn
  have HAD := Lib.hid had
  have HAD2 := Lib.hid had'
  have HLL := Lib.hid hL
  clear hT1 hT2 hT3 hT4 h h2 hFl hFl' had had' hN hn hL
  go_enter Try.func23, Try.ntmps23
  go_upto_region 1 with (fail)
  refine wp_region_noPanic ?_
  refine wp_region_held_drew (S := FromW w) (by kernel_rfl) (drew_below w) (fun hHeld => ?_)
  have LC : Below w.heap.size w w.drew := drew_below w
  refine wpAnyH_take (i := 0) (oi := ⟨some 10, _, _, _, _, _⟩) (v := .pointer (some ⟨g, 0, none⟩)) rfl (by kernel_rfl) (by kernel_rfl) (by kernel_rfl) (fun _ _ _ h => h) (Or.inl ⟨by kernel_rfl, by intro WW hSw; skip; go_simp⟩) (by assumption) ?_
  (try simp only [Act.put, List.setIfInBounds_toArray, List.set_cons_zero, List.set_cons_succ])
  refine wpAnyH_take (i := 3) (oi := ⟨some 13, _, _, _, _, _⟩) (v := .pointer (some ⟨g2, 0, none⟩)) rfl (by kernel_rfl) (by kernel_rfl) (by kernel_rfl) (fun _ _ _ h => h) (Or.inl ⟨by kernel_rfl, by intro WW hSw; skip; go_simp⟩) (by assumption) ?_
  (try simp only [Act.put, List.setIfInBounds_toArray, List.set_cons_zero, List.set_cons_succ])
  refine wpAnyH_one (i := 1) (oi := ⟨_, _, _, _, _, _⟩) rfl (by kernel_rfl) (fun K hK => ?_)
  refine step_calls (by rfl) 28 EGr2View.out [.tmp 10] _ rfl [.pointer (some ⟨g, 0, none⟩)] rfl (HV1.out _ LC) ?_
  rintro e x1 ⟨⟨v1, rfl, o1⟩, b1⟩
  have hS1 := FromW.next hHeld b1
  refine ⟨_, rfl, hK _ _ hS1 (fun _ => ?_)⟩
  clear hK K
  have LX1 : Below w.heap.size w x1 := belowT LC (belowB b1 LC.size)
  clear LC
  have LC := LX1
  clear hHeld
  refine wpAnyH_strong (S' := FromW x1) (fun W h => FromW.next hS1 h) _ _ _ _ ?_
  have hHeld : FromW x1 x1 := FromW.refl _
  obtain ⟨ga1, ka1, _, hv1, _, _, _, _⟩ := own4_shape o1 hN0
  subst hv1
  have C1 := Lib.hid (fun (WW : World) (h : FromW x1 WW) => (show (convert 22 9 (.slice (some ⟨ga1, 0, none⟩) N ka1)).run Try.prog WW = .ok (.string T1) WW by
    have hc := conv_sl (w := WW) (a := ⟨ga1, 0, none⟩) N ka1 LL1.out (fun i u hu => ⟨_, rfl, (own2_below o1 h).cells (g := ga1) rfl i u hu⟩)
    rwa [← HT1.out] at hc))
  clear b1 LX1 hS1 o1
  (try simp only [Act.put, List.setIfInBounds_toArray, List.set_cons_zero, List.set_cons_succ])
  refine wpAnyH_take (i := 2) (oi := ⟨some 12, _, _, _, _, _⟩) (v := .string T1) rfl (by kernel_rfl) (by kernel_rfl) (by kernel_rfl) (fun _ _ _ h => h) (Or.inl ⟨by kernel_rfl, by intro WW hSw; have hcv := C1.out WW hSw; go_simp⟩) (by assumption) ?_
  (try simp only [Act.put, List.setIfInBounds_toArray, List.set_cons_zero, List.set_cons_succ])
  refine wpAnyH_one (i := 4) (oi := ⟨_, _, _, _, _, _⟩) rfl (by kernel_rfl) (fun K hK => ?_)
  refine step_calls (by rfl) 28 EGr2View.out [.tmp 13] _ rfl [.pointer (some ⟨g2, 0, none⟩)] rfl (HV2.out _ LC) ?_
  rintro e x2 ⟨⟨v2, rfl, o2⟩, b2⟩
  have hS2 := FromW.next hHeld b2
  refine ⟨_, rfl, hK _ _ hS2 (fun _ => ?_)⟩
  clear hK K
  have LX2 : Below w.heap.size w x2 := belowT LC (belowB b2 LC.size)
  clear LC
  have LC := LX2
  clear hHeld
  refine wpAnyH_strong (S' := FromW x2) (fun W h => FromW.next hS2 h) _ _ _ _ ?_
  have hHeld : FromW x2 x2 := FromW.refl _
  obtain ⟨ga2, ka2, _, hv2, _, _, _, _⟩ := own4_shape o2 hN0
  subst hv2
  have C2 := Lib.hid (fun (WW : World) (h : FromW x2 WW) => (show (convert 22 9 (.slice (some ⟨ga2, 0, none⟩) N ka2)).run Try.prog WW = .ok (.string T2) WW by
    have hc := conv_sl (w := WW) (a := ⟨ga2, 0, none⟩) N ka2 LL2.out (fun i u hu => ⟨_, rfl, (own2_below o2 h).cells (g := ga2) rfl i u hu⟩)
    rwa [← HT2.out] at hc))
  clear b2 LX2 hS2 o2
  (try simp only [Act.put, List.setIfInBounds_toArray, List.set_cons_zero, List.set_cons_succ])
  refine wpAnyH_take (i := 5) (oi := ⟨some 15, _, _, _, _, _⟩) (v := .string T2) rfl (by kernel_rfl) (by kernel_rfl) (by kernel_rfl) (fun _ _ _ h => h) (Or.inl ⟨by kernel_rfl, by intro WW hSw; have hcv := C2.out WW hSw; go_simp⟩) (by assumption) ?_
  (try simp only [Act.put, List.setIfInBounds_toArray, List.set_cons_zero, List.set_cons_succ])
  refine wpAnyH_take (i := 6) (oi := ⟨some 16, _, _, _, _, _⟩) (v := .bool false) rfl (by kernel_rfl) (by kernel_rfl) (by kernel_rfl) (fun _ _ _ h => h) (Or.inl ⟨by kernel_rfl, by intro WW hSw; skip; go_simp⟩) (by assumption) ?_
  (try simp only [Act.put, List.setIfInBounds_toArray, List.set_cons_zero, List.set_cons_succ])
  refine wpAnyH_take (i := 7) (oi := ⟨some 17, _, _, _, _, _⟩) (v := .bool false) rfl (by kernel_rfl) (by kernel_rfl) (by kernel_rfl) (fun _ _ _ h => h) (Or.inl ⟨by kernel_rfl, by intro WW hSw; skip; go_simp⟩) (by assumption) ?_
  (try simp only [Act.put, List.setIfInBounds_toArray, List.set_cons_zero, List.set_cons_succ])
  refine wpAnyH_take (i := 8) (oi := ⟨some 18, _, _, _, _, _⟩) (v := .pointer (some ⟨g, 0, none⟩)) rfl (by kernel_rfl) (by kernel_rfl) (by kernel_rfl) (fun _ _ _ h => h) (Or.inl ⟨by kernel_rfl, by intro WW hSw; skip; go_simp⟩) (by assumption) ?_
  (try simp only [Act.put, List.setIfInBounds_toArray, List.set_cons_zero, List.set_cons_succ])
  refine wpAnyH_take (i := 11) (oi := ⟨some 21, _, _, _, _, _⟩) (v := .pointer (some ⟨g2, 0, none⟩)) rfl (by kernel_rfl) (by kernel_rfl) (by kernel_rfl) (fun _ _ _ h => h) (Or.inl ⟨by kernel_rfl, by intro WW hSw; skip; go_simp⟩) (by assumption) ?_
  (try simp only [Act.put, List.setIfInBounds_toArray, List.set_cons_zero, List.set_cons_succ])
  refine wpAnyH_one (i := 9) (oi := ⟨_, _, _, _, _, _⟩) rfl (by kernel_rfl) (fun K hK => ?_)
  refine step_calls (by rfl) 29 EGr2Image.out [.tmp 18] _ rfl [.pointer (some ⟨g, 0, none⟩)] rfl (HI1.out _ LC) ?_
  rintro e x3 ⟨⟨v3, rfl, o3⟩, b3⟩
  have hS3 := FromW.next hHeld b3
  refine ⟨_, rfl, hK _ _ hS3 (fun _ => ?_)⟩
  clear hK K
  have LX3 : Below w.heap.size w x3 := belowT LC (belowB b3 LC.size)
  clear LC
  have LC := LX3
  clear hHeld
  refine wpAnyH_strong (S' := FromW x3) (fun W h => FromW.next hS3 h) _ _ _ _ ?_
  have hHeld : FromW x3 x3 := FromW.refl _
  obtain ⟨ga3, ka3, _, hv3, _, _, _, _⟩ := own4_shape o3 hN0
  subst hv3
  have C3 := Lib.hid (fun (WW : World) (h : FromW x3 WW) => (show (convert 22 9 (.slice (some ⟨ga3, 0, none⟩) N ka3)).run Try.prog WW = .ok (.string T3) WW by
    have hc := conv_sl (w := WW) (a := ⟨ga3, 0, none⟩) N ka3 LL3.out (fun i u hu => ⟨_, rfl, (own2_below o3 h).cells (g := ga3) rfl i u hu⟩)
    rwa [← HT3.out] at hc))
  clear b3 LX3 hS3 o3
  (try simp only [Act.put, List.setIfInBounds_toArray, List.set_cons_zero, List.set_cons_succ])
  refine wpAnyH_take (i := 10) (oi := ⟨some 20, _, _, _, _, _⟩) (v := .string T3) rfl (by kernel_rfl) (by kernel_rfl) (by kernel_rfl) (fun _ _ _ h => h) (Or.inl ⟨by kernel_rfl, by intro WW hSw; have hcv := C3.out WW hSw; go_simp⟩) (by assumption) ?_
  (try simp only [Act.put, List.setIfInBounds_toArray, List.set_cons_zero, List.set_cons_succ])
  refine wpAnyH_one (i := 12) (oi := ⟨_, _, _, _, _, _⟩) rfl (by kernel_rfl) (fun K hK => ?_)
  refine step_calls (by rfl) 29 EGr2Image.out [.tmp 21] _ rfl [.pointer (some ⟨g2, 0, none⟩)] rfl (HI2.out _ LC) ?_
  rintro e x4 ⟨⟨v4, rfl, o4⟩, b4⟩
  have hS4 := FromW.next hHeld b4
  refine ⟨_, rfl, hK _ _ hS4 (fun _ => ?_)⟩
  clear hK K
  have LX4 : Below w.heap.size w x4 := belowT LC (belowB b4 LC.size)
  clear LC
  have LC := LX4
  clear hHeld
  refine wpAnyH_strong (S' := FromW x4) (fun W h => FromW.next hS4 h) _ _ _ _ ?_
  have hHeld : FromW x4 x4 := FromW.refl _
  obtain ⟨ga4, ka4, _, hv4, _, _, _, _⟩ := own4_shape o4 hN0
  subst hv4
  have C4 := Lib.hid (fun (WW : World) (h : FromW x4 WW) => (show (convert 22 9 (.slice (some ⟨ga4, 0, none⟩) N ka4)).run Try.prog WW = .ok (.string T4) WW by
    have hc := conv_sl (w := WW) (a := ⟨ga4, 0, none⟩) N ka4 LL4.out (fun i u hu => ⟨_, rfl, (own2_below o4 h).cells (g := ga4) rfl i u hu⟩)
    rwa [← HT4.out] at hc))
  clear b4 LX4 hS4 o4
  (try simp only [Act.put, List.setIfInBounds_toArray, List.set_cons_zero, List.set_cons_succ])
  refine wpAnyH_take (i := 13) (oi := ⟨some 23, _, _, _, _, _⟩) (v := .string T4) rfl (by kernel_rfl) (by kernel_rfl) (by kernel_rfl) (fun _ _ _ h => h) (Or.inl ⟨by kernel_rfl, by intro WW hSw; have hcv := C4.out WW hSw; go_simp⟩) (by assumption) ?_
  (try simp only [Act.put, List.setIfInBounds_toArray, List.set_cons_zero, List.set_cons_succ])
  refine wpAnyH_take (i := 14) (oi := ⟨some 24, _, _, _, _, _⟩) (v := .bool true) rfl (by kernel_rfl) (by kernel_rfl) (by kernel_rfl) (fun _ _ _ h => h) (Or.inl ⟨by kernel_rfl, by intro WW hSw; skip; go_simp⟩) (by assumption) ?_
  (try simp only [Act.put, List.setIfInBounds_toArray, List.set_cons_zero, List.set_cons_succ])
  refine wpAnyH_take (i := 15) (oi := ⟨some 25, _, _, _, _, _⟩) (v := .bool true) rfl (by kernel_rfl) (by kernel_rfl) (by kernel_rfl) (fun _ _ _ h => h) (Or.inl ⟨by kernel_rfl, by intro WW hSw; skip; go_simp⟩) (by assumption) ?_
  (try simp only [Act.put, List.setIfInBounds_toArray, List.set_cons_zero, List.set_cons_succ])
  have LF := Lib.hid LC
  clear LC
  refine wpAnyH_done (by kernel_rfl) ?_ _
  unfold NoPanic
  clear hHeld
  go_wp2
  go_ret
  exact ⟨rfl, LF.out⟩
set_option maxRecDepth 100000 in
set_option maxHeartbeats 8000000 in
theorem r2Same_l {w : World} {g g2 : Nat} {s s' : St} {r r' : Rf} {vF vL vF2 vL2 : Value} {ms ms2 : List Value} (h : R2At w g r vF vL ms) (h2 : R2At w g2 r' vF2 vL2 ms2) (hr : RelAt s r) (hr' : RelAt s' r') (hn : r.nl = r'.nl) (hnl : r.nl ≤ 8) (hL : r.L.length ≤ 1000 ∧ r'.L.length ≤ 1000) (hb1 : ((strOf (bytesL (lastW r.F (prs r.L)))).toList != (strOf (bytesL (lastW r'.F (prs r'.L)))).toList) = false) (hb2 : ((strOf (bytesL (lastW r.F (prs (las r.L))))).toList != (strOf (bytesL (lastW r'.F (prs (las r'.L))))).toList) = false) (b : Bool) (hb : b = true ↔ ∀ t, t < r.nl → LSm t r r') :
    Calls Try.prog 23 #[.pointer (some ⟨g, 0, none⟩), .pointer (some ⟨g2, 0, none⟩)] w fun e w' => e = .returned (.bool b) ∧ Below w.heap.size w w' := by
  obtain ⟨N, hN⟩ : ∃ N, N = 64 * r.nl := ⟨_, rfl⟩
  have hpos : 0 < r.nl := by rw [hr.nl]; exact hr.pos
  have hN0 : 0 < N := by omega
  have hNx : N ≤ 512 := by omega
  have hFl : r.F.length = 8 * r.nl := by rw [hr.nl]; exact hr.fl
  have hFl' : r'.F.length = 8 * r'.nl := by rw [hr'.nl]; exact hr'.fl
  have had : ∀ x ∈ r.L, x.a % 8 = 0 ∧ x.a < 64 * r.nl ∧ x.w < 18446744073709551616 := by rw [hr.nl]; exact hr.ad
  have had' : ∀ x ∈ r'.L, x.a % 8 = 0 ∧ x.a < 64 * r'.nl ∧ x.w < 18446744073709551616 := by rw [hr'.nl]; exact hr'.ad
  have HV1 := Lib.hid (fun (W : World) (hb : Below w.heap.size w W) => by
    have := r2View_any (h.below hb) ⟨hpos, by omega⟩ hFl had
    rw [← hN] at this
    exact this)
  have HV2 := Lib.hid (fun (W : World) (hb : Below w.heap.size w W) => by
    have := r2View_any (h2.below hb) ⟨by omega, by omega⟩ hFl' had'
    rw [← hn, ← hN] at this
    exact this)
  have HI1 := Lib.hid (fun (W : World) (hb : Below w.heap.size w W) => by
    have := r2Image_any (h.below hb) ⟨hpos, by omega⟩ hFl had
    rw [← hN] at this
    exact this)
  have HI2 := Lib.hid (fun (W : World) (hb : Below w.heap.size w W) => by
    have := r2Image_any (h2.below hb) ⟨by omega, by omega⟩ hFl' had'
    rw [← hn, ← hN] at this
    exact this)
  obtain ⟨T1, hT1⟩ : ∃ T, T = strOf (bytesL (lastW r.F (prs r.L))) := ⟨_, rfl⟩
  obtain ⟨T2, hT2⟩ : ∃ T, T = strOf (bytesL (lastW r'.F (prs r'.L))) := ⟨_, rfl⟩
  obtain ⟨T3, hT3⟩ : ∃ T, T = strOf (bytesL (lastW r.F (prs (las r.L)))) := ⟨_, rfl⟩
  obtain ⟨T4, hT4⟩ : ∃ T, T = strOf (bytesL (lastW r'.F (prs (las r'.L)))) := ⟨_, rfl⟩
  have HT1 := Lib.hid hT1
  have HT2 := Lib.hid hT2
  have HT3 := Lib.hid hT3
  have HT4 := Lib.hid hT4
  have LL1 := Lib.hid (show (bytesL (lastW r.F (prs r.L))).length = N by rw [bytesL_len, lastW_length, hFl]; omega)
  have LL2 := Lib.hid (show (bytesL (lastW r'.F (prs r'.L))).length = N by rw [bytesL_len, lastW_length, hFl']; omega)
  have LL3 := Lib.hid (show (bytesL (lastW r.F (prs (las r.L)))).length = N by rw [bytesL_len, lastW_length, hFl]; omega)
  have LL4 := Lib.hid (show (bytesL (lastW r'.F (prs (las r'.L)))).length = N by rw [bytesL_len, lastW_length, hFl']; omega)
  rw [← hT1, ← hT2] at hb1
  rw [← hT3, ← hT4] at hb2
  have hb1e : T1.toList = T2.toList := by simpa using hb1
  have hb2e : T3.toList = T4.toList := by simpa using hb2
  have mixed : Try.prog.follows .mixedOrders = true := by kernel_rfl
  have EGr2View := Lib.hid (enters_of Try.func28 (by kernel_rfl) rfl)
  have EGr2Image := Lib.hid (enters_of Try.func29 (by kernel_rfl) rfl)
  have EGr2Marked := Lib.hid (enters_of Try.func57 (by kernel_rfl) rfl)
  have HH := Lib.hid h
  have HH2 := Lib.hid h2
  have HNN := Lib.hid hN
  have HNE := Lib.hid hn
  have HAD := Lib.hid had
  have HAD2 := Lib.hid had'
  have HLL := Lib.hid hL
  clear hT1 hT2 hT3 hT4 h h2 hFl hFl' had had' hN hn hL
  go_enter Try.func23, Try.ntmps23
  go_upto_region 1 with (fail)
  refine wp_region_noPanic ?_
  refine wp_region_held_drew (S := FromW w) (by kernel_rfl) (drew_below w) (fun hHeld => ?_)
  have LC : Below w.heap.size w w.drew := drew_below w
  refine wpAnyH_take (i := 0) (oi := ⟨some 10, _, _, _, _, _⟩) (v := .pointer (some ⟨g, 0, none⟩)) rfl (by kernel_rfl) (by kernel_rfl) (by kernel_rfl) (fun _ _ _ h => h) (Or.inl ⟨by kernel_rfl, by intro WW hSw; skip; go_simp⟩) (by assumption) ?_
  (try simp only [Act.put, List.setIfInBounds_toArray, List.set_cons_zero, List.set_cons_succ])
  refine wpAnyH_take (i := 3) (oi := ⟨some 13, _, _, _, _, _⟩) (v := .pointer (some ⟨g2, 0, none⟩)) rfl (by kernel_rfl) (by kernel_rfl) (by kernel_rfl) (fun _ _ _ h => h) (Or.inl ⟨by kernel_rfl, by intro WW hSw; skip; go_simp⟩) (by assumption) ?_
  (try simp only [Act.put, List.setIfInBounds_toArray, List.set_cons_zero, List.set_cons_succ])
  refine wpAnyH_one (i := 1) (oi := ⟨_, _, _, _, _, _⟩) rfl (by kernel_rfl) (fun K hK => ?_)
  refine step_calls (by rfl) 28 EGr2View.out [.tmp 10] _ rfl [.pointer (some ⟨g, 0, none⟩)] rfl (HV1.out _ LC) ?_
  rintro e x1 ⟨⟨v1, rfl, o1⟩, b1⟩
  have hS1 := FromW.next hHeld b1
  refine ⟨_, rfl, hK _ _ hS1 (fun _ => ?_)⟩
  clear hK K
  have LX1 : Below w.heap.size w x1 := belowT LC (belowB b1 LC.size)
  clear LC
  have LC := LX1
  clear hHeld
  refine wpAnyH_strong (S' := FromW x1) (fun W h => FromW.next hS1 h) _ _ _ _ ?_
  have hHeld : FromW x1 x1 := FromW.refl _
  obtain ⟨ga1, ka1, _, hv1, _, _, _, _⟩ := own4_shape o1 hN0
  subst hv1
  have C1 := Lib.hid (fun (WW : World) (h : FromW x1 WW) => (show (convert 22 9 (.slice (some ⟨ga1, 0, none⟩) N ka1)).run Try.prog WW = .ok (.string T1) WW by
    have hc := conv_sl (w := WW) (a := ⟨ga1, 0, none⟩) N ka1 LL1.out (fun i u hu => ⟨_, rfl, (own2_below o1 h).cells (g := ga1) rfl i u hu⟩)
    rwa [← HT1.out] at hc))
  clear b1 LX1 hS1 o1
  (try simp only [Act.put, List.setIfInBounds_toArray, List.set_cons_zero, List.set_cons_succ])
  refine wpAnyH_take (i := 2) (oi := ⟨some 12, _, _, _, _, _⟩) (v := .string T1) rfl (by kernel_rfl) (by kernel_rfl) (by kernel_rfl) (fun _ _ _ h => h) (Or.inl ⟨by kernel_rfl, by intro WW hSw; have hcv := C1.out WW hSw; go_simp⟩) (by assumption) ?_
  (try simp only [Act.put, List.setIfInBounds_toArray, List.set_cons_zero, List.set_cons_succ])
  refine wpAnyH_one (i := 4) (oi := ⟨_, _, _, _, _, _⟩) rfl (by kernel_rfl) (fun K hK => ?_)
  refine step_calls (by rfl) 28 EGr2View.out [.tmp 13] _ rfl [.pointer (some ⟨g2, 0, none⟩)] rfl (HV2.out _ LC) ?_
  rintro e x2 ⟨⟨v2, rfl, o2⟩, b2⟩
  have hS2 := FromW.next hHeld b2
  refine ⟨_, rfl, hK _ _ hS2 (fun _ => ?_)⟩
  clear hK K
  have LX2 : Below w.heap.size w x2 := belowT LC (belowB b2 LC.size)
  clear LC
  have LC := LX2
  clear hHeld
  refine wpAnyH_strong (S' := FromW x2) (fun W h => FromW.next hS2 h) _ _ _ _ ?_
  have hHeld : FromW x2 x2 := FromW.refl _
  obtain ⟨ga2, ka2, _, hv2, _, _, _, _⟩ := own4_shape o2 hN0
  subst hv2
  have C2 := Lib.hid (fun (WW : World) (h : FromW x2 WW) => (show (convert 22 9 (.slice (some ⟨ga2, 0, none⟩) N ka2)).run Try.prog WW = .ok (.string T2) WW by
    have hc := conv_sl (w := WW) (a := ⟨ga2, 0, none⟩) N ka2 LL2.out (fun i u hu => ⟨_, rfl, (own2_below o2 h).cells (g := ga2) rfl i u hu⟩)
    rwa [← HT2.out] at hc))
  clear b2 LX2 hS2 o2
  (try simp only [Act.put, List.setIfInBounds_toArray, List.set_cons_zero, List.set_cons_succ])
  refine wpAnyH_take (i := 5) (oi := ⟨some 15, _, _, _, _, _⟩) (v := .string T2) rfl (by kernel_rfl) (by kernel_rfl) (by kernel_rfl) (fun _ _ _ h => h) (Or.inl ⟨by kernel_rfl, by intro WW hSw; have hcv := C2.out WW hSw; go_simp⟩) (by assumption) ?_
  (try simp only [Act.put, List.setIfInBounds_toArray, List.set_cons_zero, List.set_cons_succ])
  refine wpAnyH_take (i := 6) (oi := ⟨some 16, _, _, _, _, _⟩) (v := .bool false) rfl (by kernel_rfl) (by kernel_rfl) (by kernel_rfl) (fun _ _ _ h => h) (Or.inl ⟨by kernel_rfl, by intro WW hSw; skip; go_simp⟩) (by assumption) ?_
  (try simp only [Act.put, List.setIfInBounds_toArray, List.set_cons_zero, List.set_cons_succ])
  refine wpAnyH_take (i := 7) (oi := ⟨some 17, _, _, _, _, _⟩) (v := .bool false) rfl (by kernel_rfl) (by kernel_rfl) (by kernel_rfl) (fun _ _ _ h => h) (Or.inl ⟨by kernel_rfl, by intro WW hSw; skip; go_simp⟩) (by assumption) ?_
  (try simp only [Act.put, List.setIfInBounds_toArray, List.set_cons_zero, List.set_cons_succ])
  refine wpAnyH_take (i := 8) (oi := ⟨some 18, _, _, _, _, _⟩) (v := .pointer (some ⟨g, 0, none⟩)) rfl (by kernel_rfl) (by kernel_rfl) (by kernel_rfl) (fun _ _ _ h => h) (Or.inl ⟨by kernel_rfl, by intro WW hSw; skip; go_simp⟩) (by assumption) ?_
  (try simp only [Act.put, List.setIfInBounds_toArray, List.set_cons_zero, List.set_cons_succ])
  refine wpAnyH_take (i := 11) (oi := ⟨some 21, _, _, _, _, _⟩) (v := .pointer (some ⟨g2, 0, none⟩)) rfl (by kernel_rfl) (by kernel_rfl) (by kernel_rfl) (fun _ _ _ h => h) (Or.inl ⟨by kernel_rfl, by intro WW hSw; skip; go_simp⟩) (by assumption) ?_
  (try simp only [Act.put, List.setIfInBounds_toArray, List.set_cons_zero, List.set_cons_succ])
  refine wpAnyH_one (i := 9) (oi := ⟨_, _, _, _, _, _⟩) rfl (by kernel_rfl) (fun K hK => ?_)
  refine step_calls (by rfl) 29 EGr2Image.out [.tmp 18] _ rfl [.pointer (some ⟨g, 0, none⟩)] rfl (HI1.out _ LC) ?_
  rintro e x3 ⟨⟨v3, rfl, o3⟩, b3⟩
  have hS3 := FromW.next hHeld b3
  refine ⟨_, rfl, hK _ _ hS3 (fun _ => ?_)⟩
  clear hK K
  have LX3 : Below w.heap.size w x3 := belowT LC (belowB b3 LC.size)
  clear LC
  have LC := LX3
  clear hHeld
  refine wpAnyH_strong (S' := FromW x3) (fun W h => FromW.next hS3 h) _ _ _ _ ?_
  have hHeld : FromW x3 x3 := FromW.refl _
  obtain ⟨ga3, ka3, _, hv3, _, _, _, _⟩ := own4_shape o3 hN0
  subst hv3
  have C3 := Lib.hid (fun (WW : World) (h : FromW x3 WW) => (show (convert 22 9 (.slice (some ⟨ga3, 0, none⟩) N ka3)).run Try.prog WW = .ok (.string T3) WW by
    have hc := conv_sl (w := WW) (a := ⟨ga3, 0, none⟩) N ka3 LL3.out (fun i u hu => ⟨_, rfl, (own2_below o3 h).cells (g := ga3) rfl i u hu⟩)
    rwa [← HT3.out] at hc))
  clear b3 LX3 hS3 o3
  (try simp only [Act.put, List.setIfInBounds_toArray, List.set_cons_zero, List.set_cons_succ])
  refine wpAnyH_take (i := 10) (oi := ⟨some 20, _, _, _, _, _⟩) (v := .string T3) rfl (by kernel_rfl) (by kernel_rfl) (by kernel_rfl) (fun _ _ _ h => h) (Or.inl ⟨by kernel_rfl, by intro WW hSw; have hcv := C3.out WW hSw; go_simp⟩) (by assumption) ?_
  (try simp only [Act.put, List.setIfInBounds_toArray, List.set_cons_zero, List.set_cons_succ])
  refine wpAnyH_one (i := 12) (oi := ⟨_, _, _, _, _, _⟩) rfl (by kernel_rfl) (fun K hK => ?_)
  refine step_calls (by rfl) 29 EGr2Image.out [.tmp 21] _ rfl [.pointer (some ⟨g2, 0, none⟩)] rfl (HI2.out _ LC) ?_
  rintro e x4 ⟨⟨v4, rfl, o4⟩, b4⟩
  have hS4 := FromW.next hHeld b4
  refine ⟨_, rfl, hK _ _ hS4 (fun _ => ?_)⟩
  clear hK K
  have LX4 : Below w.heap.size w x4 := belowT LC (belowB b4 LC.size)
  clear LC
  have LC := LX4
  clear hHeld
  refine wpAnyH_strong (S' := FromW x4) (fun W h => FromW.next hS4 h) _ _ _ _ ?_
  have hHeld : FromW x4 x4 := FromW.refl _
  obtain ⟨ga4, ka4, _, hv4, _, _, _, _⟩ := own4_shape o4 hN0
  subst hv4
  have C4 := Lib.hid (fun (WW : World) (h : FromW x4 WW) => (show (convert 22 9 (.slice (some ⟨ga4, 0, none⟩) N ka4)).run Try.prog WW = .ok (.string T4) WW by
    have hc := conv_sl (w := WW) (a := ⟨ga4, 0, none⟩) N ka4 LL4.out (fun i u hu => ⟨_, rfl, (own2_below o4 h).cells (g := ga4) rfl i u hu⟩)
    rwa [← HT4.out] at hc))
  clear b4 LX4 hS4 o4
  (try simp only [Act.put, List.setIfInBounds_toArray, List.set_cons_zero, List.set_cons_succ])
  refine wpAnyH_take (i := 13) (oi := ⟨some 23, _, _, _, _, _⟩) (v := .string T4) rfl (by kernel_rfl) (by kernel_rfl) (by kernel_rfl) (fun _ _ _ h => h) (Or.inl ⟨by kernel_rfl, by intro WW hSw; have hcv := C4.out WW hSw; go_simp⟩) (by assumption) ?_
  (try simp only [Act.put, List.setIfInBounds_toArray, List.set_cons_zero, List.set_cons_succ])
  refine wpAnyH_take (i := 14) (oi := ⟨some 24, _, _, _, _, _⟩) (v := .bool false) rfl (by kernel_rfl) (by kernel_rfl) (by kernel_rfl) (fun _ _ _ h => h) (Or.inl ⟨by kernel_rfl, by intro WW hSw; skip; go_simp⟩) (by assumption) ?_
  (try simp only [Act.put, List.setIfInBounds_toArray, List.set_cons_zero, List.set_cons_succ])
  refine wpAnyH_take (i := 15) (oi := ⟨some 25, _, _, _, _, _⟩) (v := .bool false) rfl (by kernel_rfl) (by kernel_rfl) (by kernel_rfl) (fun _ _ _ h => h) (Or.inl ⟨by kernel_rfl, by intro WW hSw; skip; go_simp⟩) (by assumption) ?_
  (try simp only [Act.put, List.setIfInBounds_toArray, List.set_cons_zero, List.set_cons_succ])
  have LF := Lib.hid LC
  clear LC
  refine wpAnyH_done (by kernel_rfl) ?_ _
  unfold NoPanic
  clear hHeld
  clear C1 C2 C3 C4
  have HB := Lib.hid hb
  clear hb hb1 hb2 hb1e hb2e
  obtain ⟨nl, hnle⟩ : ∃ nl, nl = r.nl := ⟨_, rfl⟩
  rw [← hnle] at hpos hnl
  have HNLE := Lib.hid hnle
  have HN64 : Hid (N = 64 * nl) := Lib.hid (by rw [hnle]; exact HNN.out)
  clear hnle
  obtain ⟨Af, cf, hvF, _⟩ := own4_sl HH.out.fi
  rw [← HNN.out] at hvF
  subst hvF
  obtain ⟨A1, q1, cap1, hvL, hmx1, hq1⟩ : ∃ A q c, vL = .slice A q c ∧ q ≤ maxLen ∧ r.L.length = q := by obtain ⟨A, c, e, q⟩ := own4_sl HH.out.li; exact ⟨A, _, c, e, q, rfl⟩
  obtain ⟨A2, q2, cap2, hvL2, hmx2, hq2⟩ : ∃ A q c, vL2 = .slice A q c ∧ q ≤ maxLen ∧ r'.L.length = q := by obtain ⟨A, c, e, q⟩ := own4_sl HH2.out.li; exact ⟨A, _, c, e, q, rfl⟩
  subst hvL hvL2
  have HQ1 := Lib.hid hq1
  have HQ2 := Lib.hid hq2
  have hwN : IntKind.u64.wrap (N : Int) = (N : Int) := by rw [IntKind.wrap_u64]; omega
  have HC0 := Lib.hid (fun (W : World) (hb : Below w.heap.size w W) => (show W.cell? ⟨g, 0, none⟩ = some (.slice Af N cf) ∧ W.cell? ⟨g, 1, none⟩ = some (.slice A1 q1 cap1) ∧ W.cell? ⟨g2, 1, none⟩ = some (.slice A2 q2 cap2) by
    have h0 := (HH.out.below hb).row.cell 0
    have h1 := (HH.out.below hb).row.cell 1
    have h2 := (HH2.out.below hb).row.cell 1
    simp only [List.getElem?_toArray, List.getElem?_cons_zero, List.getElem?_cons_succ] at h0 h1 h2
    exact ⟨h0, h1, h2⟩))
  clear hmx1 hmx2 hq1 hq2
  go_wp2
  go_loopg [5] nl (fun k v wr => ∃ (j : Nat), v = .int .u64 ((64 * j : Nat) : Int) ∧ j ≤ nl ∧ nl - j ≤ k ∧ Below w.heap.size w wr ∧ ∀ t, t < j → LSm t r r')
  case atStart => exact ⟨0, rfl, by omega, by omega, LF.out, fun t ht => by omega⟩
  case round =>
    obtain ⟨j, rfl, hjn, hk, hlow, hdone⟩ := hrel
    rename World => wa
    have HLA := Lib.hid hlow
    have HD := Lib.hid hdone
    obtain ⟨c0, _, _⟩ := HC0.out wa hlow
    clear hlow hdone LF
    obtain ⟨f, hf⟩ : ∃ f, f = 64 * j := ⟨_, rfl⟩
    rw [← hf]
    have HF := Lib.hid hf
    by_cases hlt : j < nl
    · have hfn : f < N := by have := HN64.out; omega
      have hfnI : decide ((f : Int) < (N : Int)) = true := by simp; omega
      have hf64 : f / 64 = j := by omega
      have hwf : IntKind.u64.wrap ((f : Int) + 64) = (f : Int) + 64 := by rw [IntKind.wrap_u64]; omega
      have HNX : Hid ((f : Int) + 64 = ((64 * (j + 1) : Nat) : Int)) := Lib.hid (by omega)
      have HO1 := Lib.hid (fun (W : World) (hb : Below w.heap.size w W) => by
        have := r2of_any (HH.out.below hb) f (by omega) (fun x hx => by have := (HAD.out x hx).2.1; have := HNN.out; omega) (by have := HLL.out.1; omega)
        rw [hf64] at this
        exact this)
      have HO2 := Lib.hid (fun (W : World) (hb : Below w.heap.size w W) => by
        have := r2of_any (HH2.out.below hb) f (by omega) (fun x hx => by have := (HAD2.out x hx).2.1; have := HNN.out; have := HNE.out; omega) (by have := HLL.out.2; omega)
        rw [hf64] at this
        exact this)
      obtain ⟨X, hX⟩ : ∃ X, X = ofU j r.L r.L.length := ⟨_, rfl⟩
      obtain ⟨Y, hY⟩ : ∃ Y, Y = ofU j r'.L r'.L.length := ⟨_, rfl⟩
      rw [← hX] at HO1
      rw [← hY] at HO2
      obtain ⟨n6, hn6⟩ : ∃ n, n = X.length := ⟨_, rfl⟩
      obtain ⟨n7, hn7⟩ : ∃ n, n = Y.length := ⟨_, rfl⟩
      rw [← hn6] at HO1
      rw [← hn7] at HO2
      have HX6 : Hid (n6 = (pen j r.L).length) := Lib.hid (by rw [hn6, hX, ofU_cnt])
      have HX7 : Hid (n7 = (pen j r'.L).length) := Lib.hid (by rw [hn7, hY, ofU_cnt])
      have hn6x : n6 ≤ 1000 := by have h1 := HX6.out; have h2 : (pen j r.L).length ≤ r.L.length := List.length_filter_le _ _; have := HLL.out.1; omega
      have hn7x : n7 ≤ 1000 := by have h1 := HX7.out; have h2 : (pen j r'.L).length ≤ r'.L.length := List.length_filter_le _ _; have := HLL.out.2; omega
      have HXE := Lib.hid hX
      have HYE := Lib.hid hY
      clear hf hX hY hn6 hn7 hf64
      go_wp2_with fail
      refine (HO1.out wa HLA.out).mono ?_
      rintro e w6 ⟨⟨v6, rfl, o6⟩, b6⟩
      have HL6 := Lib.hid (belowT HLA.out (belowB b6 HLA.out.size))
      have O6 := Lib.hid o6
      obtain ⟨A6, c6, hv6, _⟩ := own_sl o6
      subst hv6
      clear o6 b6
      go_wp2_with fail
      refine (HO2.out w6 HL6.out).mono ?_
      rintro e w7 ⟨⟨v7, rfl, o7⟩, b7⟩
      have HL7 := Lib.hid (belowT HL6.out (belowB b7 HL6.out.size))
      have O7 := Lib.hid o7
      have O67 := Lib.hid (own2_below O6.out b7)
      obtain ⟨A7, c7, hv7, _⟩ := own_sl o7
      subst hv7
      clear o7 b7 O6 HL6 HO1 HO2
      by_cases hne : n6 = n7
      · have hneI : ((n6 : Int) != (n7 : Int)) = false := by simp; omega
        have HE67 := Lib.hid hne
        clear hne
        go_wp2
        go_loopg [8] n6 (fun k v wr => ∃ (i : Nat), v = .int .i64 (i : Int) ∧ i ≤ n6 ∧ n6 - i ≤ k ∧ Below w7.heap.size w7 wr ∧ ∀ t, t < i → ∀ x y, (pen j r.L)[t]? = some x → (pen j r'.L)[t]? = some y → ES x y)
        case atStart => exact ⟨0, rfl, by omega, by omega, Below.refl _ _, fun t ht => by omega⟩
        case round =>
          obtain ⟨i, rfl, hin, hk2, hlow2, hdone2⟩ := hrel
          rename World => wc
          have HLC := Lib.hid hlow2
          have HD2 := Lib.hid hdone2
          clear hlow2 hdone2
          by_cases hlt2 : i < n6
          · have hltI : decide ((i : Int) < (n6 : Int)) = true := by simp; omega
            have HLWC := Lib.hid (belowT HL7.out (belowB HLC.out HL7.out.size))
            obtain ⟨x, hx⟩ : ∃ x, (pen j r.L)[i]? = some x := ⟨_, List.getElem?_eq_getElem (by rw [← HX6.out]; exact hlt2)⟩
            obtain ⟨y, hy⟩ : ∃ y, (pen j r'.L)[i]? = some y := ⟨_, List.getElem?_eq_getElem (by rw [← HX7.out, ← HE67.out]; exact hlt2)⟩
            obtain ⟨p, hp1, hp2⟩ := ofU_at hx
            obtain ⟨p', hp1', hp2'⟩ := ofU_at hy
            have HXI := Lib.hid hx
            have HYI := Lib.hid hy
            have HPX := Lib.hid hp2
            have HPY := Lib.hid hp2'
            rw [← HXE.out] at hp1
            rw [← HYE.out] at hp1'
            obtain ⟨gx, kx, curx, hvx, _, _, hrx, hcx⟩ := own4_shape O67.out (by omega)
            obtain ⟨gy, ky, cury, hvy, _, _, hry, hcy⟩ := own4_shape O7.out (by have := HE67.out; omega)
            simp only [Value.slice.injEq, true_and] at hvx hvy
            obtain ⟨rfl, rfl⟩ := hvx
            obtain ⟨rfl, rfl⟩ := hvy
            have HCX := Lib.hid (fun (W : World) (hb : Below w7.heap.size w7 W) => (show W.cell? ⟨gx, i, none⟩ = some (.int .i64 (p : Int)) ∧ W.cell? ⟨gy, i, none⟩ = some (.int .i64 (p' : Int)) by
              refine ⟨?_, ?_⟩
              · rw [(hrx.below hb hrx.lt).cell]; exact hcx _ _ (by rw [List.getElem?_map, hp1]; rfl)
              · rw [(hry.below hb hry.lt).cell]; exact hcy _ _ (by rw [List.getElem?_map, hp1']; rfl)))
            obtain ⟨gl, v, hA1, _, x0, x1, _, _, _, _⟩ := (HH.out.below HLWC.out).cellsX HQ1.out hp2
            obtain ⟨gl2, v2, hA2, _, y0, y1, _, _, _, _⟩ := (HH2.out.below HLWC.out).cellsX HQ2.out hp2'
            have hpq : p < q1 := by have := (List.getElem?_eq_some_iff.1 hp2).1; have := HQ1.out; omega
            have hpq' : p' < q2 := by have := (List.getElem?_eq_some_iff.1 hp2').1; have := HQ2.out; omega
            subst hA1 hA2
            have HCELL := Lib.hid (fun (W : World) (hb : Below wc.heap.size wc W) => (show W.cell? ⟨gl, p * 4, none⟩ = some (.int .u64 (x.a : Int)) ∧ W.cell? ⟨gl, p * 4 + 1, none⟩ = some (.int .u64 (x.w : Int)) ∧ W.cell? ⟨gl2, p' * 4, none⟩ = some (.int .u64 (y.a : Int)) ∧ W.cell? ⟨gl2, p' * 4 + 1, none⟩ = some (.int .u64 (y.w : Int)) from
              ⟨(hb.cell (wc.block_lt_of_cell? _ x0)).trans x0, (hb.cell (wc.block_lt_of_cell? _ x1)).trans x1, (hb.cell (wc.block_lt_of_cell? _ y0)).trans y0, (hb.cell (wc.block_lt_of_cell? _ y1)).trans y1⟩))
            have hq1x : q1 ≤ 1000 := by have := HLL.out.1; have := HQ1.out; omega
            have hq2x : q2 ≤ 1000 := by have := HLL.out.2; have := HQ2.out; omega
            have hi7 : i < n7 := by have := HE67.out; omega
            clear hx hy hp1 hp1' hp2 hp2' hrx hcx hry hcy x0 x1 y0 y1 c0
            obtain ⟨z0, z1, z2, z3⟩ := HCELL.out wc.drew (drew_below _)
            obtain ⟨u0, u1⟩ := HCX.out wc.drew (belowT HLC.out (belowB (drew_below _) HLC.out.size))
            obtain ⟨_, u2, u3⟩ := HC0.out wc.drew (belowT HLWC.out (belowB (drew_below _) HLWC.out.size))
            by_cases ha : x.a = y.a
            · have haI : ((x.a : Int) != (y.a : Int)) = false := by simp; omega
              have HAE := Lib.hid ha
              clear ha
              by_cases hw : x.w = y.w
              · have hwI : ((x.w : Int) != (y.w : Int)) = false := by simp; omega
                have HWE := Lib.hid hw
                clear hw
                go_upto_region 12 with (fail)
                refine wp_region_noPanic ?_
                refine wp_region_held_drew (S := (fun WW => WW = wc.drew)) (by kernel_rfl) (rfl) (fun hHeld => ?_)
                refine wpAnyH_take (i := 0) (oi := ⟨some 53, _, _, _, _, _⟩) (v := .pointer (some ⟨g, 0, none⟩)) rfl (by kernel_rfl) (by kernel_rfl) (by kernel_rfl) (fun _ _ _ h => h) (Or.inl ⟨by kernel_rfl, by intro WW hSw; subst hSw; go_simp⟩) (by assumption) ?_
                (try simp only [Act.put, List.setIfInBounds_toArray, List.set_cons_zero, List.set_cons_succ])
                refine wpAnyH_take (i := 1) (oi := ⟨some 54, _, _, _, _, _⟩) (v := .pointer (some ⟨g, 0, none⟩)) rfl (by kernel_rfl) (by kernel_rfl) (by kernel_rfl) (fun _ _ _ h => h) (Or.inl ⟨by kernel_rfl, by intro WW hSw; subst hSw; go_simp⟩) (by assumption) ?_
                (try simp only [Act.put, List.setIfInBounds_toArray, List.set_cons_zero, List.set_cons_succ])
                refine wpAnyH_take (i := 2) (oi := ⟨some 55, _, _, _, _, _⟩) (v := .pointer (some ⟨g, 1, none⟩)) rfl (by kernel_rfl) (by kernel_rfl) (by kernel_rfl) (fun _ _ _ h => h) (Or.inl ⟨by kernel_rfl, by intro WW hSw; subst hSw; go_simp⟩) (by assumption) ?_
                (try simp only [Act.put, List.setIfInBounds_toArray, List.set_cons_zero, List.set_cons_succ])
                refine wpAnyH_take (i := 3) (oi := ⟨some 56, _, _, _, _, _⟩) (v := .slice (some ⟨gl, 0, none⟩) q1 cap1) rfl (by kernel_rfl) (by kernel_rfl) (by kernel_rfl) (fun _ _ _ h => h) (Or.inl ⟨by kernel_rfl, by intro WW hSw; subst hSw; go_simp⟩) (by assumption) ?_
                (try simp only [Act.put, List.setIfInBounds_toArray, List.set_cons_zero, List.set_cons_succ])
                refine wpAnyH_take (i := 4) (oi := ⟨some 57, _, _, _, _, _⟩) (v := .slice (some ⟨gx, 0, none⟩) n6 c6) rfl (by kernel_rfl) (by kernel_rfl) (by kernel_rfl) (fun _ _ _ h => h) (Or.inl ⟨by kernel_rfl, by intro WW hSw; subst hSw; go_simp⟩) (by assumption) ?_
                (try simp only [Act.put, List.setIfInBounds_toArray, List.set_cons_zero, List.set_cons_succ])
                refine wpAnyH_take (i := 5) (oi := ⟨some 58, _, _, _, _, _⟩) (v := .int .i64 (i : Int)) rfl (by kernel_rfl) (by kernel_rfl) (by kernel_rfl) (fun _ _ _ h => h) (Or.inl ⟨by kernel_rfl, by intro WW hSw; subst hSw; go_simp⟩) (by assumption) ?_
                (try simp only [Act.put, List.setIfInBounds_toArray, List.set_cons_zero, List.set_cons_succ])
                refine wpAnyH_take (i := 6) (oi := ⟨some 59, _, _, _, _, _⟩) (v := .pointer (some ⟨gx, i, none⟩)) rfl (by kernel_rfl) (by kernel_rfl) (by kernel_rfl) (fun _ _ _ h => h) (Or.inl ⟨by kernel_rfl, by intro WW hSw; subst hSw; go_simp⟩) (by assumption) ?_
                (try simp only [Act.put, List.setIfInBounds_toArray, List.set_cons_zero, List.set_cons_succ])
                refine wpAnyH_take (i := 7) (oi := ⟨some 60, _, _, _, _, _⟩) (v := .int .i64 (p : Int)) rfl (by kernel_rfl) (by kernel_rfl) (by kernel_rfl) (fun _ _ _ h => h) (Or.inl ⟨by kernel_rfl, by intro WW hSw; subst hSw; go_simp⟩) (by assumption) ?_
                (try simp only [Act.put, List.setIfInBounds_toArray, List.set_cons_zero, List.set_cons_succ])
                refine wpAnyH_take (i := 8) (oi := ⟨some 61, _, _, _, _, _⟩) (v := .pointer (some ⟨gl, p * 4, none⟩)) rfl (by kernel_rfl) (by kernel_rfl) (by kernel_rfl) (fun _ _ _ h => h) (Or.inl ⟨by kernel_rfl, by intro WW hSw; subst hSw; go_simp⟩) (by assumption) ?_
                (try simp only [Act.put, List.setIfInBounds_toArray, List.set_cons_zero, List.set_cons_succ])
                refine wpAnyH_take (i := 9) (oi := ⟨some 62, _, _, _, _, _⟩) (v := .pointer (some ⟨gl, p * 4, none⟩)) rfl (by kernel_rfl) (by kernel_rfl) (by kernel_rfl) (fun _ _ _ h => h) (Or.inl ⟨by kernel_rfl, by intro WW hSw; subst hSw; go_simp⟩) (by assumption) ?_
                (try simp only [Act.put, List.setIfInBounds_toArray, List.set_cons_zero, List.set_cons_succ])
                refine wpAnyH_take (i := 10) (oi := ⟨some 63, _, _, _, _, _⟩) (v := .int .u64 (x.a : Int)) rfl (by kernel_rfl) (by kernel_rfl) (by kernel_rfl) (fun _ _ _ h => h) (Or.inl ⟨by kernel_rfl, by intro WW hSw; subst hSw; go_simp⟩) (by assumption) ?_
                (try simp only [Act.put, List.setIfInBounds_toArray, List.set_cons_zero, List.set_cons_succ])
                refine wpAnyH_take (i := 11) (oi := ⟨some 64, _, _, _, _, _⟩) (v := .pointer (some ⟨g2, 0, none⟩)) rfl (by kernel_rfl) (by kernel_rfl) (by kernel_rfl) (fun _ _ _ h => h) (Or.inl ⟨by kernel_rfl, by intro WW hSw; subst hSw; go_simp⟩) (by assumption) ?_
                (try simp only [Act.put, List.setIfInBounds_toArray, List.set_cons_zero, List.set_cons_succ])
                refine wpAnyH_take (i := 12) (oi := ⟨some 65, _, _, _, _, _⟩) (v := .pointer (some ⟨g2, 0, none⟩)) rfl (by kernel_rfl) (by kernel_rfl) (by kernel_rfl) (fun _ _ _ h => h) (Or.inl ⟨by kernel_rfl, by intro WW hSw; subst hSw; go_simp⟩) (by assumption) ?_
                (try simp only [Act.put, List.setIfInBounds_toArray, List.set_cons_zero, List.set_cons_succ])
                refine wpAnyH_take (i := 13) (oi := ⟨some 66, _, _, _, _, _⟩) (v := .pointer (some ⟨g2, 1, none⟩)) rfl (by kernel_rfl) (by kernel_rfl) (by kernel_rfl) (fun _ _ _ h => h) (Or.inl ⟨by kernel_rfl, by intro WW hSw; subst hSw; go_simp⟩) (by assumption) ?_
                (try simp only [Act.put, List.setIfInBounds_toArray, List.set_cons_zero, List.set_cons_succ])
                refine wpAnyH_take (i := 14) (oi := ⟨some 67, _, _, _, _, _⟩) (v := .slice (some ⟨gl2, 0, none⟩) q2 cap2) rfl (by kernel_rfl) (by kernel_rfl) (by kernel_rfl) (fun _ _ _ h => h) (Or.inl ⟨by kernel_rfl, by intro WW hSw; subst hSw; go_simp⟩) (by assumption) ?_
                (try simp only [Act.put, List.setIfInBounds_toArray, List.set_cons_zero, List.set_cons_succ])
                refine wpAnyH_take (i := 15) (oi := ⟨some 68, _, _, _, _, _⟩) (v := .slice (some ⟨gy, 0, none⟩) n7 c7) rfl (by kernel_rfl) (by kernel_rfl) (by kernel_rfl) (fun _ _ _ h => h) (Or.inl ⟨by kernel_rfl, by intro WW hSw; subst hSw; go_simp⟩) (by assumption) ?_
                (try simp only [Act.put, List.setIfInBounds_toArray, List.set_cons_zero, List.set_cons_succ])
                refine wpAnyH_take (i := 16) (oi := ⟨some 69, _, _, _, _, _⟩) (v := .int .i64 (i : Int)) rfl (by kernel_rfl) (by kernel_rfl) (by kernel_rfl) (fun _ _ _ h => h) (Or.inl ⟨by kernel_rfl, by intro WW hSw; subst hSw; go_simp⟩) (by assumption) ?_
                (try simp only [Act.put, List.setIfInBounds_toArray, List.set_cons_zero, List.set_cons_succ])
                refine wpAnyH_take (i := 17) (oi := ⟨some 70, _, _, _, _, _⟩) (v := .pointer (some ⟨gy, i, none⟩)) rfl (by kernel_rfl) (by kernel_rfl) (by kernel_rfl) (fun _ _ _ h => h) (Or.inl ⟨by kernel_rfl, by intro WW hSw; subst hSw; go_simp⟩) (by assumption) ?_
                (try simp only [Act.put, List.setIfInBounds_toArray, List.set_cons_zero, List.set_cons_succ])
                refine wpAnyH_take (i := 18) (oi := ⟨some 71, _, _, _, _, _⟩) (v := .int .i64 (p' : Int)) rfl (by kernel_rfl) (by kernel_rfl) (by kernel_rfl) (fun _ _ _ h => h) (Or.inl ⟨by kernel_rfl, by intro WW hSw; subst hSw; go_simp⟩) (by assumption) ?_
                (try simp only [Act.put, List.setIfInBounds_toArray, List.set_cons_zero, List.set_cons_succ])
                refine wpAnyH_take (i := 19) (oi := ⟨some 72, _, _, _, _, _⟩) (v := .pointer (some ⟨gl2, p' * 4, none⟩)) rfl (by kernel_rfl) (by kernel_rfl) (by kernel_rfl) (fun _ _ _ h => h) (Or.inl ⟨by kernel_rfl, by intro WW hSw; subst hSw; go_simp⟩) (by assumption) ?_
                (try simp only [Act.put, List.setIfInBounds_toArray, List.set_cons_zero, List.set_cons_succ])
                refine wpAnyH_take (i := 20) (oi := ⟨some 73, _, _, _, _, _⟩) (v := .pointer (some ⟨gl2, p' * 4, none⟩)) rfl (by kernel_rfl) (by kernel_rfl) (by kernel_rfl) (fun _ _ _ h => h) (Or.inl ⟨by kernel_rfl, by intro WW hSw; subst hSw; go_simp⟩) (by assumption) ?_
                (try simp only [Act.put, List.setIfInBounds_toArray, List.set_cons_zero, List.set_cons_succ])
                refine wpAnyH_take (i := 21) (oi := ⟨some 74, _, _, _, _, _⟩) (v := .int .u64 (y.a : Int)) rfl (by kernel_rfl) (by kernel_rfl) (by kernel_rfl) (fun _ _ _ h => h) (Or.inl ⟨by kernel_rfl, by intro WW hSw; subst hSw; go_simp⟩) (by assumption) ?_
                (try simp only [Act.put, List.setIfInBounds_toArray, List.set_cons_zero, List.set_cons_succ])
                refine wpAnyH_take (i := 22) (oi := ⟨some 75, _, _, _, _, _⟩) (v := .bool false) rfl (by kernel_rfl) (by kernel_rfl) (by kernel_rfl) (fun _ _ _ h => h) (Or.inl ⟨by kernel_rfl, by intro WW hSw; skip; go_simp⟩) (by assumption) ?_
                (try simp only [Act.put, List.setIfInBounds_toArray, List.set_cons_zero, List.set_cons_succ])
                refine wpAnyH_take (i := 23) (oi := ⟨some 76, _, _, _, _, _⟩) (v := .bool false) rfl (by kernel_rfl) (by kernel_rfl) (by kernel_rfl) (fun _ _ _ h => h) (Or.inl ⟨by kernel_rfl, by intro WW hSw; skip; go_simp⟩) (by assumption) ?_
                (try simp only [Act.put, List.setIfInBounds_toArray, List.set_cons_zero, List.set_cons_succ])
                refine wpAnyH_take (i := 24) (oi := ⟨some 77, _, _, _, _, _⟩) (v := .pointer (some ⟨g, 0, none⟩)) rfl (by kernel_rfl) (by kernel_rfl) (by kernel_rfl) (fun _ _ _ h => h) (Or.inl ⟨by kernel_rfl, by intro WW hSw; subst hSw; go_simp⟩) (by assumption) ?_
                (try simp only [Act.put, List.setIfInBounds_toArray, List.set_cons_zero, List.set_cons_succ])
                refine wpAnyH_take (i := 25) (oi := ⟨some 78, _, _, _, _, _⟩) (v := .pointer (some ⟨g, 0, none⟩)) rfl (by kernel_rfl) (by kernel_rfl) (by kernel_rfl) (fun _ _ _ h => h) (Or.inl ⟨by kernel_rfl, by intro WW hSw; subst hSw; go_simp⟩) (by assumption) ?_
                (try simp only [Act.put, List.setIfInBounds_toArray, List.set_cons_zero, List.set_cons_succ])
                refine wpAnyH_take (i := 26) (oi := ⟨some 79, _, _, _, _, _⟩) (v := .pointer (some ⟨g, 1, none⟩)) rfl (by kernel_rfl) (by kernel_rfl) (by kernel_rfl) (fun _ _ _ h => h) (Or.inl ⟨by kernel_rfl, by intro WW hSw; subst hSw; go_simp⟩) (by assumption) ?_
                (try simp only [Act.put, List.setIfInBounds_toArray, List.set_cons_zero, List.set_cons_succ])
                refine wpAnyH_take (i := 27) (oi := ⟨some 80, _, _, _, _, _⟩) (v := .slice (some ⟨gl, 0, none⟩) q1 cap1) rfl (by kernel_rfl) (by kernel_rfl) (by kernel_rfl) (fun _ _ _ h => h) (Or.inl ⟨by kernel_rfl, by intro WW hSw; subst hSw; go_simp⟩) (by assumption) ?_
                (try simp only [Act.put, List.setIfInBounds_toArray, List.set_cons_zero, List.set_cons_succ])
                refine wpAnyH_take (i := 28) (oi := ⟨some 81, _, _, _, _, _⟩) (v := .slice (some ⟨gx, 0, none⟩) n6 c6) rfl (by kernel_rfl) (by kernel_rfl) (by kernel_rfl) (fun _ _ _ h => h) (Or.inl ⟨by kernel_rfl, by intro WW hSw; subst hSw; go_simp⟩) (by assumption) ?_
                (try simp only [Act.put, List.setIfInBounds_toArray, List.set_cons_zero, List.set_cons_succ])
                refine wpAnyH_take (i := 29) (oi := ⟨some 82, _, _, _, _, _⟩) (v := .int .i64 (i : Int)) rfl (by kernel_rfl) (by kernel_rfl) (by kernel_rfl) (fun _ _ _ h => h) (Or.inl ⟨by kernel_rfl, by intro WW hSw; subst hSw; go_simp⟩) (by assumption) ?_
                (try simp only [Act.put, List.setIfInBounds_toArray, List.set_cons_zero, List.set_cons_succ])
                refine wpAnyH_take (i := 30) (oi := ⟨some 83, _, _, _, _, _⟩) (v := .pointer (some ⟨gx, i, none⟩)) rfl (by kernel_rfl) (by kernel_rfl) (by kernel_rfl) (fun _ _ _ h => h) (Or.inl ⟨by kernel_rfl, by intro WW hSw; subst hSw; go_simp⟩) (by assumption) ?_
                (try simp only [Act.put, List.setIfInBounds_toArray, List.set_cons_zero, List.set_cons_succ])
                refine wpAnyH_take (i := 31) (oi := ⟨some 84, _, _, _, _, _⟩) (v := .int .i64 (p : Int)) rfl (by kernel_rfl) (by kernel_rfl) (by kernel_rfl) (fun _ _ _ h => h) (Or.inl ⟨by kernel_rfl, by intro WW hSw; subst hSw; go_simp⟩) (by assumption) ?_
                (try simp only [Act.put, List.setIfInBounds_toArray, List.set_cons_zero, List.set_cons_succ])
                refine wpAnyH_take (i := 32) (oi := ⟨some 85, _, _, _, _, _⟩) (v := .pointer (some ⟨gl, p * 4, none⟩)) rfl (by kernel_rfl) (by kernel_rfl) (by kernel_rfl) (fun _ _ _ h => h) (Or.inl ⟨by kernel_rfl, by intro WW hSw; subst hSw; go_simp⟩) (by assumption) ?_
                (try simp only [Act.put, List.setIfInBounds_toArray, List.set_cons_zero, List.set_cons_succ])
                refine wpAnyH_take (i := 33) (oi := ⟨some 86, _, _, _, _, _⟩) (v := .pointer (some ⟨gl, p * 4 + 1, none⟩)) rfl (by kernel_rfl) (by kernel_rfl) (by kernel_rfl) (fun _ _ _ h => h) (Or.inl ⟨by kernel_rfl, by intro WW hSw; subst hSw; go_simp⟩) (by assumption) ?_
                (try simp only [Act.put, List.setIfInBounds_toArray, List.set_cons_zero, List.set_cons_succ])
                refine wpAnyH_take (i := 34) (oi := ⟨some 87, _, _, _, _, _⟩) (v := .int .u64 (x.w : Int)) rfl (by kernel_rfl) (by kernel_rfl) (by kernel_rfl) (fun _ _ _ h => h) (Or.inl ⟨by kernel_rfl, by intro WW hSw; subst hSw; go_simp⟩) (by assumption) ?_
                (try simp only [Act.put, List.setIfInBounds_toArray, List.set_cons_zero, List.set_cons_succ])
                refine wpAnyH_take (i := 35) (oi := ⟨some 88, _, _, _, _, _⟩) (v := .pointer (some ⟨g2, 0, none⟩)) rfl (by kernel_rfl) (by kernel_rfl) (by kernel_rfl) (fun _ _ _ h => h) (Or.inl ⟨by kernel_rfl, by intro WW hSw; subst hSw; go_simp⟩) (by assumption) ?_
                (try simp only [Act.put, List.setIfInBounds_toArray, List.set_cons_zero, List.set_cons_succ])
                refine wpAnyH_take (i := 36) (oi := ⟨some 89, _, _, _, _, _⟩) (v := .pointer (some ⟨g2, 0, none⟩)) rfl (by kernel_rfl) (by kernel_rfl) (by kernel_rfl) (fun _ _ _ h => h) (Or.inl ⟨by kernel_rfl, by intro WW hSw; subst hSw; go_simp⟩) (by assumption) ?_
                (try simp only [Act.put, List.setIfInBounds_toArray, List.set_cons_zero, List.set_cons_succ])
                refine wpAnyH_take (i := 37) (oi := ⟨some 90, _, _, _, _, _⟩) (v := .pointer (some ⟨g2, 1, none⟩)) rfl (by kernel_rfl) (by kernel_rfl) (by kernel_rfl) (fun _ _ _ h => h) (Or.inl ⟨by kernel_rfl, by intro WW hSw; subst hSw; go_simp⟩) (by assumption) ?_
                (try simp only [Act.put, List.setIfInBounds_toArray, List.set_cons_zero, List.set_cons_succ])
                refine wpAnyH_take (i := 38) (oi := ⟨some 91, _, _, _, _, _⟩) (v := .slice (some ⟨gl2, 0, none⟩) q2 cap2) rfl (by kernel_rfl) (by kernel_rfl) (by kernel_rfl) (fun _ _ _ h => h) (Or.inl ⟨by kernel_rfl, by intro WW hSw; subst hSw; go_simp⟩) (by assumption) ?_
                (try simp only [Act.put, List.setIfInBounds_toArray, List.set_cons_zero, List.set_cons_succ])
                refine wpAnyH_take (i := 39) (oi := ⟨some 92, _, _, _, _, _⟩) (v := .slice (some ⟨gy, 0, none⟩) n7 c7) rfl (by kernel_rfl) (by kernel_rfl) (by kernel_rfl) (fun _ _ _ h => h) (Or.inl ⟨by kernel_rfl, by intro WW hSw; subst hSw; go_simp⟩) (by assumption) ?_
                (try simp only [Act.put, List.setIfInBounds_toArray, List.set_cons_zero, List.set_cons_succ])
                refine wpAnyH_take (i := 40) (oi := ⟨some 93, _, _, _, _, _⟩) (v := .int .i64 (i : Int)) rfl (by kernel_rfl) (by kernel_rfl) (by kernel_rfl) (fun _ _ _ h => h) (Or.inl ⟨by kernel_rfl, by intro WW hSw; subst hSw; go_simp⟩) (by assumption) ?_
                (try simp only [Act.put, List.setIfInBounds_toArray, List.set_cons_zero, List.set_cons_succ])
                refine wpAnyH_take (i := 41) (oi := ⟨some 94, _, _, _, _, _⟩) (v := .pointer (some ⟨gy, i, none⟩)) rfl (by kernel_rfl) (by kernel_rfl) (by kernel_rfl) (fun _ _ _ h => h) (Or.inl ⟨by kernel_rfl, by intro WW hSw; subst hSw; go_simp⟩) (by assumption) ?_
                (try simp only [Act.put, List.setIfInBounds_toArray, List.set_cons_zero, List.set_cons_succ])
                refine wpAnyH_take (i := 42) (oi := ⟨some 95, _, _, _, _, _⟩) (v := .int .i64 (p' : Int)) rfl (by kernel_rfl) (by kernel_rfl) (by kernel_rfl) (fun _ _ _ h => h) (Or.inl ⟨by kernel_rfl, by intro WW hSw; subst hSw; go_simp⟩) (by assumption) ?_
                (try simp only [Act.put, List.setIfInBounds_toArray, List.set_cons_zero, List.set_cons_succ])
                refine wpAnyH_take (i := 43) (oi := ⟨some 96, _, _, _, _, _⟩) (v := .pointer (some ⟨gl2, p' * 4, none⟩)) rfl (by kernel_rfl) (by kernel_rfl) (by kernel_rfl) (fun _ _ _ h => h) (Or.inl ⟨by kernel_rfl, by intro WW hSw; subst hSw; go_simp⟩) (by assumption) ?_
                (try simp only [Act.put, List.setIfInBounds_toArray, List.set_cons_zero, List.set_cons_succ])
                refine wpAnyH_take (i := 44) (oi := ⟨some 97, _, _, _, _, _⟩) (v := .pointer (some ⟨gl2, p' * 4 + 1, none⟩)) rfl (by kernel_rfl) (by kernel_rfl) (by kernel_rfl) (fun _ _ _ h => h) (Or.inl ⟨by kernel_rfl, by intro WW hSw; subst hSw; go_simp⟩) (by assumption) ?_
                (try simp only [Act.put, List.setIfInBounds_toArray, List.set_cons_zero, List.set_cons_succ])
                refine wpAnyH_take (i := 45) (oi := ⟨some 98, _, _, _, _, _⟩) (v := .int .u64 (y.w : Int)) rfl (by kernel_rfl) (by kernel_rfl) (by kernel_rfl) (fun _ _ _ h => h) (Or.inl ⟨by kernel_rfl, by intro WW hSw; subst hSw; go_simp⟩) (by assumption) ?_
                (try simp only [Act.put, List.setIfInBounds_toArray, List.set_cons_zero, List.set_cons_succ])
                refine wpAnyH_take (i := 46) (oi := ⟨some 99, _, _, _, _, _⟩) (v := .bool false) rfl (by kernel_rfl) (by kernel_rfl) (by kernel_rfl) (fun _ _ _ h => h) (Or.inl ⟨by kernel_rfl, by intro WW hSw; skip; go_simp⟩) (by assumption) ?_
                (try simp only [Act.put, List.setIfInBounds_toArray, List.set_cons_zero, List.set_cons_succ])
                refine wpAnyH_take (i := 47) (oi := ⟨some 100, _, _, _, _, _⟩) (v := .bool false) rfl (by kernel_rfl) (by kernel_rfl) (by kernel_rfl) (fun _ _ _ h => h) (Or.inl ⟨by kernel_rfl, by intro WW hSw; skip; go_simp⟩) (by assumption) ?_
                (try simp only [Act.put, List.setIfInBounds_toArray, List.set_cons_zero, List.set_cons_succ])
                refine wpAnyH_done (by kernel_rfl) ?_ _
                unfold NoPanic
                clear hHeld
                go_wp2
                go_loopg [9] 65 (fun k v wr => ∃ (c : Nat), v = .int .i64 (c : Int) ∧ c ≤ 65 ∧ 65 - c ≤ k ∧ Below wc.heap.size wc wr ∧ ∀ d, d < c → (d ∈ x.m ↔ d ∈ y.m))
                case atStart => exact ⟨0, rfl, by omega, by omega, drew_below _, fun d hd => by omega⟩
                case round =>
                  obtain ⟨c, rfl, hc65, hk3, hlow3, hdone3⟩ := hrel
                  rename World => wd
                  have HLD := Lib.hid hlow3
                  have HD3 := Lib.hid hdone3
                  clear hlow3 hdone3 z0 z1 z2 z3 u0 u1 u2 u3
                  by_cases hc : c ≤ 64
                  · have hcI : decide ((c : Int) ≤ 64) = true := by simp; omega
                    have HLWD := Lib.hid (belowT HLWC.out (belowB HLD.out HLWC.out.size))
                    have HL7D := Lib.hid (belowT HLC.out (belowB HLD.out HLC.out.size))
                    obtain ⟨d1, hd1⟩ : ∃ d, d = decide (c ∈ x.m) := ⟨_, rfl⟩
                    obtain ⟨d2, hd2⟩ : ∃ d, d = decide (c ∈ y.m) := ⟨_, rfl⟩
                    have HM1 := Lib.hid (r2Marked_at (HH.out.below (belowT HLWD.out (belowB (drew_below wd) HLWD.out.size))) HPX.out c)
                    have HM2 := Lib.hid (r2Marked_at (HH2.out.below (belowT HLWD.out (belowB (drew_below wd) HLWD.out.size))) HPY.out c)
                    rw [← hd1] at HM1
                    rw [← hd2] at HM2
                    have HD1 := Lib.hid hd1
                    have HD2' := Lib.hid hd2
                    clear hd1 hd2
                    obtain ⟨dn, hdn⟩ : ∃ d, d = (d1 != d2) := ⟨_, rfl⟩
                    have HDN := Lib.hid hdn
                    go_upto_region 17 with (fail)
                    refine wp_region_noPanic ?_
                    refine wp_region_held_drew (S := (fun WW => WW.cell? ⟨gx, i, none⟩ = some (.int .i64 (p : Int)) ∧ WW.cell? ⟨gy, i, none⟩ = some (.int .i64 (p' : Int)))) (by kernel_rfl) (HCX.out _ (belowT HL7D.out (belowB (drew_below _) HL7D.out.size))) (fun hHeld => ?_)
                    refine wpAnyH_take (i := 0) (oi := ⟨some 105, _, _, _, _, _⟩) (v := .pointer (some ⟨g, 0, none⟩)) rfl (by kernel_rfl) (by kernel_rfl) (by kernel_rfl) (fun _ _ _ h => h) (Or.inl ⟨by kernel_rfl, by intro WW hSw; obtain ⟨s0, s1⟩ := hSw; go_simp⟩) (by assumption) ?_
                    (try simp only [Act.put, List.setIfInBounds_toArray, List.set_cons_zero, List.set_cons_succ])
                    refine wpAnyH_take (i := 1) (oi := ⟨some 106, _, _, _, _, _⟩) (v := .slice (some ⟨gx, 0, none⟩) n6 c6) rfl (by kernel_rfl) (by kernel_rfl) (by kernel_rfl) (fun _ _ _ h => h) (Or.inl ⟨by kernel_rfl, by intro WW hSw; obtain ⟨s0, s1⟩ := hSw; go_simp⟩) (by assumption) ?_
                    (try simp only [Act.put, List.setIfInBounds_toArray, List.set_cons_zero, List.set_cons_succ])
                    refine wpAnyH_take (i := 2) (oi := ⟨some 107, _, _, _, _, _⟩) (v := .int .i64 (i : Int)) rfl (by kernel_rfl) (by kernel_rfl) (by kernel_rfl) (fun _ _ _ h => h) (Or.inl ⟨by kernel_rfl, by intro WW hSw; obtain ⟨s0, s1⟩ := hSw; go_simp⟩) (by assumption) ?_
                    (try simp only [Act.put, List.setIfInBounds_toArray, List.set_cons_zero, List.set_cons_succ])
                    refine wpAnyH_take (i := 3) (oi := ⟨some 108, _, _, _, _, _⟩) (v := .pointer (some ⟨gx, i, none⟩)) rfl (by kernel_rfl) (by kernel_rfl) (by kernel_rfl) (fun _ _ _ h => h) (Or.inl ⟨by kernel_rfl, by intro WW hSw; obtain ⟨s0, s1⟩ := hSw; go_simp⟩) (by assumption) ?_
                    (try simp only [Act.put, List.setIfInBounds_toArray, List.set_cons_zero, List.set_cons_succ])
                    refine wpAnyH_take (i := 4) (oi := ⟨some 109, _, _, _, _, _⟩) (v := .int .i64 (p : Int)) rfl (by kernel_rfl) (by kernel_rfl) (by kernel_rfl) (fun _ _ _ h => h) (Or.inl ⟨by kernel_rfl, by intro WW hSw; obtain ⟨s0, s1⟩ := hSw; go_simp⟩) (by assumption) ?_
                    (try simp only [Act.put, List.setIfInBounds_toArray, List.set_cons_zero, List.set_cons_succ])
                    refine wpAnyH_take (i := 5) (oi := ⟨some 110, _, _, _, _, _⟩) (v := .int .i64 (c : Int)) rfl (by kernel_rfl) (by kernel_rfl) (by kernel_rfl) (fun _ _ _ h => h) (Or.inl ⟨by kernel_rfl, by intro WW hSw; obtain ⟨s0, s1⟩ := hSw; go_simp⟩) (by assumption) ?_
                    (try simp only [Act.put, List.setIfInBounds_toArray, List.set_cons_zero, List.set_cons_succ])
                    refine wpAnyH_take (i := 7) (oi := ⟨some 112, _, _, _, _, _⟩) (v := .pointer (some ⟨g2, 0, none⟩)) rfl (by kernel_rfl) (by kernel_rfl) (by kernel_rfl) (fun _ _ _ h => h) (Or.inl ⟨by kernel_rfl, by intro WW hSw; obtain ⟨s0, s1⟩ := hSw; go_simp⟩) (by assumption) ?_
                    (try simp only [Act.put, List.setIfInBounds_toArray, List.set_cons_zero, List.set_cons_succ])
                    refine wpAnyH_take (i := 8) (oi := ⟨some 113, _, _, _, _, _⟩) (v := .slice (some ⟨gy, 0, none⟩) n7 c7) rfl (by kernel_rfl) (by kernel_rfl) (by kernel_rfl) (fun _ _ _ h => h) (Or.inl ⟨by kernel_rfl, by intro WW hSw; obtain ⟨s0, s1⟩ := hSw; go_simp⟩) (by assumption) ?_
                    (try simp only [Act.put, List.setIfInBounds_toArray, List.set_cons_zero, List.set_cons_succ])
                    refine wpAnyH_take (i := 9) (oi := ⟨some 114, _, _, _, _, _⟩) (v := .int .i64 (i : Int)) rfl (by kernel_rfl) (by kernel_rfl) (by kernel_rfl) (fun _ _ _ h => h) (Or.inl ⟨by kernel_rfl, by intro WW hSw; obtain ⟨s0, s1⟩ := hSw; go_simp⟩) (by assumption) ?_
                    (try simp only [Act.put, List.setIfInBounds_toArray, List.set_cons_zero, List.set_cons_succ])
                    refine wpAnyH_take (i := 10) (oi := ⟨some 115, _, _, _, _, _⟩) (v := .pointer (some ⟨gy, i, none⟩)) rfl (by kernel_rfl) (by kernel_rfl) (by kernel_rfl) (fun _ _ _ h => h) (Or.inl ⟨by kernel_rfl, by intro WW hSw; obtain ⟨s0, s1⟩ := hSw; go_simp⟩) (by assumption) ?_
                    (try simp only [Act.put, List.setIfInBounds_toArray, List.set_cons_zero, List.set_cons_succ])
                    refine wpAnyH_take (i := 11) (oi := ⟨some 116, _, _, _, _, _⟩) (v := .int .i64 (p' : Int)) rfl (by kernel_rfl) (by kernel_rfl) (by kernel_rfl) (fun _ _ _ h => h) (Or.inl ⟨by kernel_rfl, by intro WW hSw; obtain ⟨s0, s1⟩ := hSw; go_simp⟩) (by assumption) ?_
                    (try simp only [Act.put, List.setIfInBounds_toArray, List.set_cons_zero, List.set_cons_succ])
                    refine wpAnyH_take (i := 12) (oi := ⟨some 117, _, _, _, _, _⟩) (v := .int .i64 (c : Int)) rfl (by kernel_rfl) (by kernel_rfl) (by kernel_rfl) (fun _ _ _ h => h) (Or.inl ⟨by kernel_rfl, by intro WW hSw; obtain ⟨s0, s1⟩ := hSw; go_simp⟩) (by assumption) ?_
                    (try simp only [Act.put, List.setIfInBounds_toArray, List.set_cons_zero, List.set_cons_succ])
                    refine wpAnyH_one (i := 6) (oi := ⟨_, _, _, _, _, _⟩) rfl (by kernel_rfl) (fun K hK => ?_)
                    refine step_calls (by rfl) 57 EGr2Marked.out [.tmp 105, .tmp 109, .tmp 110] _ rfl [.pointer (some ⟨g, 0, none⟩), .int .i64 (p : Int), .int .i64 (c : Int)] rfl HM1.out ?_
                    rintro e xx ⟨rfl, rfl⟩
                    refine ⟨_, rfl, hK _ _ hHeld (fun _ => ?_)⟩
                    clear hK K
                    (try simp only [Act.put, List.setIfInBounds_toArray, List.set_cons_zero, List.set_cons_succ])
                    refine wpAnyH_one (i := 13) (oi := ⟨_, _, _, _, _, _⟩) rfl (by kernel_rfl) (fun K hK => ?_)
                    refine step_calls (by rfl) 57 EGr2Marked.out [.tmp 112, .tmp 116, .tmp 117] _ rfl [.pointer (some ⟨g2, 0, none⟩), .int .i64 (p' : Int), .int .i64 (c : Int)] rfl HM2.out ?_
                    rintro e xx ⟨rfl, rfl⟩
                    refine ⟨_, rfl, hK _ _ hHeld (fun _ => ?_)⟩
                    clear hK K
                    (try simp only [Act.put, List.setIfInBounds_toArray, List.set_cons_zero, List.set_cons_succ])
                    refine wpAnyH_take (i := 14) (oi := ⟨some 119, _, _, _, _, _⟩) (v := .bool dn) rfl (by kernel_rfl) (by kernel_rfl) (by kernel_rfl) (fun _ _ _ h => h) (Or.inl ⟨by kernel_rfl, by intro WW hSw; clear HM1 HM2 HD1 HD2' HDN; subst hdn; cases d1 <;> cases d2 <;> go_simp⟩) (by assumption) ?_
                    (try simp only [Act.put, List.setIfInBounds_toArray, List.set_cons_zero, List.set_cons_succ])
                    refine wpAnyH_done (by kernel_rfl) ?_ _
                    unfold NoPanic
                    clear hHeld
                    clear hdn
                    cases dn
                    case false =>
                      go_wp2
                      go_roundg (65 - (c + 1))
                      case measure => omega
                      case rel => exact ⟨c + 1, by go_num, by omega, by omega, belowT HLD.out (belowB (drew_below _) HLD.out.size), fun d hd => by
                        rcases Nat.lt_or_ge d c with q | q
                        · exact HD3.out d q
                        · have e : d = c := by omega
                          subst e
                          have h1 := HDN.out
                          have h2 := HD1.out
                          have h3 := HD2'.out
                          have h4 : d1 = d2 := bne_f _ _ h1
                          rw [h2, h3] at h4
                          exact decide_eq_decide.1 h4⟩
                    case true =>
                      have HBF : Hid (b = false) := Lib.hid (by
                        cases e : b
                        · rfl
                        · exfalso
                          have hs := (HB.out.1 e) j (by have := HNLE.out; omega)
                          have hes := (hs.2 i x y HXI.out HYI.out).2.2 c hc
                          have h1 := HDN.out
                          have h2 := HD1.out
                          have h3 := HD2'.out
                          have h4 : d1 = d2 := by rw [h2, h3]; exact decide_eq_decide.2 hes
                          rw [h4] at h1
                          exact bne_t _ h1)
                      go_wp2
                      go_ret
                      exact ⟨by rw [HBF.out]; rfl, belowT HLWD.out (belowB (drew_below _) HLWD.out.size)⟩
                  · have hcI : decide ((c : Int) ≤ 64) = false := by simp; omega
                    go_wp2
                    go_roundg (n6 - (i + 1))
                    case measure => omega
                    case rel => exact ⟨i + 1, by go_num, by omega, by omega, belowT HLC.out (belowB HLD.out HLC.out.size), fun t ht x' y' hx' hy' => by
                      rcases Nat.lt_or_ge t i with q | q
                      · exact HD2.out t q x' y' hx' hy'
                      · have e : t = i := by omega
                        subst e
                        have e1 := Option.some.inj (hx'.symm.trans HXI.out)
                        have e2 := Option.some.inj (hy'.symm.trans HYI.out)
                        subst e1 e2
                        exact ⟨HAE.out, HWE.out, fun d hd => HD3.out d (by omega)⟩⟩
              · have hwI : ((x.w : Int) != (y.w : Int)) = true := by simp; omega
                have HWE := Lib.hid hw
                clear hw
                go_upto_region 12 with (fail)
                refine wp_region_noPanic ?_
                refine wp_region_held_drew (S := (fun WW => WW = wc.drew)) (by kernel_rfl) (rfl) (fun hHeld => ?_)
                refine wpAnyH_take (i := 0) (oi := ⟨some 53, _, _, _, _, _⟩) (v := .pointer (some ⟨g, 0, none⟩)) rfl (by kernel_rfl) (by kernel_rfl) (by kernel_rfl) (fun _ _ _ h => h) (Or.inl ⟨by kernel_rfl, by intro WW hSw; subst hSw; go_simp⟩) (by assumption) ?_
                (try simp only [Act.put, List.setIfInBounds_toArray, List.set_cons_zero, List.set_cons_succ])
                refine wpAnyH_take (i := 1) (oi := ⟨some 54, _, _, _, _, _⟩) (v := .pointer (some ⟨g, 0, none⟩)) rfl (by kernel_rfl) (by kernel_rfl) (by kernel_rfl) (fun _ _ _ h => h) (Or.inl ⟨by kernel_rfl, by intro WW hSw; subst hSw; go_simp⟩) (by assumption) ?_
                (try simp only [Act.put, List.setIfInBounds_toArray, List.set_cons_zero, List.set_cons_succ])
                refine wpAnyH_take (i := 2) (oi := ⟨some 55, _, _, _, _, _⟩) (v := .pointer (some ⟨g, 1, none⟩)) rfl (by kernel_rfl) (by kernel_rfl) (by kernel_rfl) (fun _ _ _ h => h) (Or.inl ⟨by kernel_rfl, by intro WW hSw; subst hSw; go_simp⟩) (by assumption) ?_
                (try simp only [Act.put, List.setIfInBounds_toArray, List.set_cons_zero, List.set_cons_succ])
                refine wpAnyH_take (i := 3) (oi := ⟨some 56, _, _, _, _, _⟩) (v := .slice (some ⟨gl, 0, none⟩) q1 cap1) rfl (by kernel_rfl) (by kernel_rfl) (by kernel_rfl) (fun _ _ _ h => h) (Or.inl ⟨by kernel_rfl, by intro WW hSw; subst hSw; go_simp⟩) (by assumption) ?_
                (try simp only [Act.put, List.setIfInBounds_toArray, List.set_cons_zero, List.set_cons_succ])
                refine wpAnyH_take (i := 4) (oi := ⟨some 57, _, _, _, _, _⟩) (v := .slice (some ⟨gx, 0, none⟩) n6 c6) rfl (by kernel_rfl) (by kernel_rfl) (by kernel_rfl) (fun _ _ _ h => h) (Or.inl ⟨by kernel_rfl, by intro WW hSw; subst hSw; go_simp⟩) (by assumption) ?_
                (try simp only [Act.put, List.setIfInBounds_toArray, List.set_cons_zero, List.set_cons_succ])
                refine wpAnyH_take (i := 5) (oi := ⟨some 58, _, _, _, _, _⟩) (v := .int .i64 (i : Int)) rfl (by kernel_rfl) (by kernel_rfl) (by kernel_rfl) (fun _ _ _ h => h) (Or.inl ⟨by kernel_rfl, by intro WW hSw; subst hSw; go_simp⟩) (by assumption) ?_
                (try simp only [Act.put, List.setIfInBounds_toArray, List.set_cons_zero, List.set_cons_succ])
                refine wpAnyH_take (i := 6) (oi := ⟨some 59, _, _, _, _, _⟩) (v := .pointer (some ⟨gx, i, none⟩)) rfl (by kernel_rfl) (by kernel_rfl) (by kernel_rfl) (fun _ _ _ h => h) (Or.inl ⟨by kernel_rfl, by intro WW hSw; subst hSw; go_simp⟩) (by assumption) ?_
                (try simp only [Act.put, List.setIfInBounds_toArray, List.set_cons_zero, List.set_cons_succ])
                refine wpAnyH_take (i := 7) (oi := ⟨some 60, _, _, _, _, _⟩) (v := .int .i64 (p : Int)) rfl (by kernel_rfl) (by kernel_rfl) (by kernel_rfl) (fun _ _ _ h => h) (Or.inl ⟨by kernel_rfl, by intro WW hSw; subst hSw; go_simp⟩) (by assumption) ?_
                (try simp only [Act.put, List.setIfInBounds_toArray, List.set_cons_zero, List.set_cons_succ])
                refine wpAnyH_take (i := 8) (oi := ⟨some 61, _, _, _, _, _⟩) (v := .pointer (some ⟨gl, p * 4, none⟩)) rfl (by kernel_rfl) (by kernel_rfl) (by kernel_rfl) (fun _ _ _ h => h) (Or.inl ⟨by kernel_rfl, by intro WW hSw; subst hSw; go_simp⟩) (by assumption) ?_
                (try simp only [Act.put, List.setIfInBounds_toArray, List.set_cons_zero, List.set_cons_succ])
                refine wpAnyH_take (i := 9) (oi := ⟨some 62, _, _, _, _, _⟩) (v := .pointer (some ⟨gl, p * 4, none⟩)) rfl (by kernel_rfl) (by kernel_rfl) (by kernel_rfl) (fun _ _ _ h => h) (Or.inl ⟨by kernel_rfl, by intro WW hSw; subst hSw; go_simp⟩) (by assumption) ?_
                (try simp only [Act.put, List.setIfInBounds_toArray, List.set_cons_zero, List.set_cons_succ])
                refine wpAnyH_take (i := 10) (oi := ⟨some 63, _, _, _, _, _⟩) (v := .int .u64 (x.a : Int)) rfl (by kernel_rfl) (by kernel_rfl) (by kernel_rfl) (fun _ _ _ h => h) (Or.inl ⟨by kernel_rfl, by intro WW hSw; subst hSw; go_simp⟩) (by assumption) ?_
                (try simp only [Act.put, List.setIfInBounds_toArray, List.set_cons_zero, List.set_cons_succ])
                refine wpAnyH_take (i := 11) (oi := ⟨some 64, _, _, _, _, _⟩) (v := .pointer (some ⟨g2, 0, none⟩)) rfl (by kernel_rfl) (by kernel_rfl) (by kernel_rfl) (fun _ _ _ h => h) (Or.inl ⟨by kernel_rfl, by intro WW hSw; subst hSw; go_simp⟩) (by assumption) ?_
                (try simp only [Act.put, List.setIfInBounds_toArray, List.set_cons_zero, List.set_cons_succ])
                refine wpAnyH_take (i := 12) (oi := ⟨some 65, _, _, _, _, _⟩) (v := .pointer (some ⟨g2, 0, none⟩)) rfl (by kernel_rfl) (by kernel_rfl) (by kernel_rfl) (fun _ _ _ h => h) (Or.inl ⟨by kernel_rfl, by intro WW hSw; subst hSw; go_simp⟩) (by assumption) ?_
                (try simp only [Act.put, List.setIfInBounds_toArray, List.set_cons_zero, List.set_cons_succ])
                refine wpAnyH_take (i := 13) (oi := ⟨some 66, _, _, _, _, _⟩) (v := .pointer (some ⟨g2, 1, none⟩)) rfl (by kernel_rfl) (by kernel_rfl) (by kernel_rfl) (fun _ _ _ h => h) (Or.inl ⟨by kernel_rfl, by intro WW hSw; subst hSw; go_simp⟩) (by assumption) ?_
                (try simp only [Act.put, List.setIfInBounds_toArray, List.set_cons_zero, List.set_cons_succ])
                refine wpAnyH_take (i := 14) (oi := ⟨some 67, _, _, _, _, _⟩) (v := .slice (some ⟨gl2, 0, none⟩) q2 cap2) rfl (by kernel_rfl) (by kernel_rfl) (by kernel_rfl) (fun _ _ _ h => h) (Or.inl ⟨by kernel_rfl, by intro WW hSw; subst hSw; go_simp⟩) (by assumption) ?_
                (try simp only [Act.put, List.setIfInBounds_toArray, List.set_cons_zero, List.set_cons_succ])
                refine wpAnyH_take (i := 15) (oi := ⟨some 68, _, _, _, _, _⟩) (v := .slice (some ⟨gy, 0, none⟩) n7 c7) rfl (by kernel_rfl) (by kernel_rfl) (by kernel_rfl) (fun _ _ _ h => h) (Or.inl ⟨by kernel_rfl, by intro WW hSw; subst hSw; go_simp⟩) (by assumption) ?_
                (try simp only [Act.put, List.setIfInBounds_toArray, List.set_cons_zero, List.set_cons_succ])
                refine wpAnyH_take (i := 16) (oi := ⟨some 69, _, _, _, _, _⟩) (v := .int .i64 (i : Int)) rfl (by kernel_rfl) (by kernel_rfl) (by kernel_rfl) (fun _ _ _ h => h) (Or.inl ⟨by kernel_rfl, by intro WW hSw; subst hSw; go_simp⟩) (by assumption) ?_
                (try simp only [Act.put, List.setIfInBounds_toArray, List.set_cons_zero, List.set_cons_succ])
                refine wpAnyH_take (i := 17) (oi := ⟨some 70, _, _, _, _, _⟩) (v := .pointer (some ⟨gy, i, none⟩)) rfl (by kernel_rfl) (by kernel_rfl) (by kernel_rfl) (fun _ _ _ h => h) (Or.inl ⟨by kernel_rfl, by intro WW hSw; subst hSw; go_simp⟩) (by assumption) ?_
                (try simp only [Act.put, List.setIfInBounds_toArray, List.set_cons_zero, List.set_cons_succ])
                refine wpAnyH_take (i := 18) (oi := ⟨some 71, _, _, _, _, _⟩) (v := .int .i64 (p' : Int)) rfl (by kernel_rfl) (by kernel_rfl) (by kernel_rfl) (fun _ _ _ h => h) (Or.inl ⟨by kernel_rfl, by intro WW hSw; subst hSw; go_simp⟩) (by assumption) ?_
                (try simp only [Act.put, List.setIfInBounds_toArray, List.set_cons_zero, List.set_cons_succ])
                refine wpAnyH_take (i := 19) (oi := ⟨some 72, _, _, _, _, _⟩) (v := .pointer (some ⟨gl2, p' * 4, none⟩)) rfl (by kernel_rfl) (by kernel_rfl) (by kernel_rfl) (fun _ _ _ h => h) (Or.inl ⟨by kernel_rfl, by intro WW hSw; subst hSw; go_simp⟩) (by assumption) ?_
                (try simp only [Act.put, List.setIfInBounds_toArray, List.set_cons_zero, List.set_cons_succ])
                refine wpAnyH_take (i := 20) (oi := ⟨some 73, _, _, _, _, _⟩) (v := .pointer (some ⟨gl2, p' * 4, none⟩)) rfl (by kernel_rfl) (by kernel_rfl) (by kernel_rfl) (fun _ _ _ h => h) (Or.inl ⟨by kernel_rfl, by intro WW hSw; subst hSw; go_simp⟩) (by assumption) ?_
                (try simp only [Act.put, List.setIfInBounds_toArray, List.set_cons_zero, List.set_cons_succ])
                refine wpAnyH_take (i := 21) (oi := ⟨some 74, _, _, _, _, _⟩) (v := .int .u64 (y.a : Int)) rfl (by kernel_rfl) (by kernel_rfl) (by kernel_rfl) (fun _ _ _ h => h) (Or.inl ⟨by kernel_rfl, by intro WW hSw; subst hSw; go_simp⟩) (by assumption) ?_
                (try simp only [Act.put, List.setIfInBounds_toArray, List.set_cons_zero, List.set_cons_succ])
                refine wpAnyH_take (i := 22) (oi := ⟨some 75, _, _, _, _, _⟩) (v := .bool false) rfl (by kernel_rfl) (by kernel_rfl) (by kernel_rfl) (fun _ _ _ h => h) (Or.inl ⟨by kernel_rfl, by intro WW hSw; skip; go_simp⟩) (by assumption) ?_
                (try simp only [Act.put, List.setIfInBounds_toArray, List.set_cons_zero, List.set_cons_succ])
                refine wpAnyH_take (i := 23) (oi := ⟨some 76, _, _, _, _, _⟩) (v := .bool false) rfl (by kernel_rfl) (by kernel_rfl) (by kernel_rfl) (fun _ _ _ h => h) (Or.inl ⟨by kernel_rfl, by intro WW hSw; skip; go_simp⟩) (by assumption) ?_
                (try simp only [Act.put, List.setIfInBounds_toArray, List.set_cons_zero, List.set_cons_succ])
                refine wpAnyH_take (i := 24) (oi := ⟨some 77, _, _, _, _, _⟩) (v := .pointer (some ⟨g, 0, none⟩)) rfl (by kernel_rfl) (by kernel_rfl) (by kernel_rfl) (fun _ _ _ h => h) (Or.inl ⟨by kernel_rfl, by intro WW hSw; subst hSw; go_simp⟩) (by assumption) ?_
                (try simp only [Act.put, List.setIfInBounds_toArray, List.set_cons_zero, List.set_cons_succ])
                refine wpAnyH_take (i := 25) (oi := ⟨some 78, _, _, _, _, _⟩) (v := .pointer (some ⟨g, 0, none⟩)) rfl (by kernel_rfl) (by kernel_rfl) (by kernel_rfl) (fun _ _ _ h => h) (Or.inl ⟨by kernel_rfl, by intro WW hSw; subst hSw; go_simp⟩) (by assumption) ?_
                (try simp only [Act.put, List.setIfInBounds_toArray, List.set_cons_zero, List.set_cons_succ])
                refine wpAnyH_take (i := 26) (oi := ⟨some 79, _, _, _, _, _⟩) (v := .pointer (some ⟨g, 1, none⟩)) rfl (by kernel_rfl) (by kernel_rfl) (by kernel_rfl) (fun _ _ _ h => h) (Or.inl ⟨by kernel_rfl, by intro WW hSw; subst hSw; go_simp⟩) (by assumption) ?_
                (try simp only [Act.put, List.setIfInBounds_toArray, List.set_cons_zero, List.set_cons_succ])
                refine wpAnyH_take (i := 27) (oi := ⟨some 80, _, _, _, _, _⟩) (v := .slice (some ⟨gl, 0, none⟩) q1 cap1) rfl (by kernel_rfl) (by kernel_rfl) (by kernel_rfl) (fun _ _ _ h => h) (Or.inl ⟨by kernel_rfl, by intro WW hSw; subst hSw; go_simp⟩) (by assumption) ?_
                (try simp only [Act.put, List.setIfInBounds_toArray, List.set_cons_zero, List.set_cons_succ])
                refine wpAnyH_take (i := 28) (oi := ⟨some 81, _, _, _, _, _⟩) (v := .slice (some ⟨gx, 0, none⟩) n6 c6) rfl (by kernel_rfl) (by kernel_rfl) (by kernel_rfl) (fun _ _ _ h => h) (Or.inl ⟨by kernel_rfl, by intro WW hSw; subst hSw; go_simp⟩) (by assumption) ?_
                (try simp only [Act.put, List.setIfInBounds_toArray, List.set_cons_zero, List.set_cons_succ])
                refine wpAnyH_take (i := 29) (oi := ⟨some 82, _, _, _, _, _⟩) (v := .int .i64 (i : Int)) rfl (by kernel_rfl) (by kernel_rfl) (by kernel_rfl) (fun _ _ _ h => h) (Or.inl ⟨by kernel_rfl, by intro WW hSw; subst hSw; go_simp⟩) (by assumption) ?_
                (try simp only [Act.put, List.setIfInBounds_toArray, List.set_cons_zero, List.set_cons_succ])
                refine wpAnyH_take (i := 30) (oi := ⟨some 83, _, _, _, _, _⟩) (v := .pointer (some ⟨gx, i, none⟩)) rfl (by kernel_rfl) (by kernel_rfl) (by kernel_rfl) (fun _ _ _ h => h) (Or.inl ⟨by kernel_rfl, by intro WW hSw; subst hSw; go_simp⟩) (by assumption) ?_
                (try simp only [Act.put, List.setIfInBounds_toArray, List.set_cons_zero, List.set_cons_succ])
                refine wpAnyH_take (i := 31) (oi := ⟨some 84, _, _, _, _, _⟩) (v := .int .i64 (p : Int)) rfl (by kernel_rfl) (by kernel_rfl) (by kernel_rfl) (fun _ _ _ h => h) (Or.inl ⟨by kernel_rfl, by intro WW hSw; subst hSw; go_simp⟩) (by assumption) ?_
                (try simp only [Act.put, List.setIfInBounds_toArray, List.set_cons_zero, List.set_cons_succ])
                refine wpAnyH_take (i := 32) (oi := ⟨some 85, _, _, _, _, _⟩) (v := .pointer (some ⟨gl, p * 4, none⟩)) rfl (by kernel_rfl) (by kernel_rfl) (by kernel_rfl) (fun _ _ _ h => h) (Or.inl ⟨by kernel_rfl, by intro WW hSw; subst hSw; go_simp⟩) (by assumption) ?_
                (try simp only [Act.put, List.setIfInBounds_toArray, List.set_cons_zero, List.set_cons_succ])
                refine wpAnyH_take (i := 33) (oi := ⟨some 86, _, _, _, _, _⟩) (v := .pointer (some ⟨gl, p * 4 + 1, none⟩)) rfl (by kernel_rfl) (by kernel_rfl) (by kernel_rfl) (fun _ _ _ h => h) (Or.inl ⟨by kernel_rfl, by intro WW hSw; subst hSw; go_simp⟩) (by assumption) ?_
                (try simp only [Act.put, List.setIfInBounds_toArray, List.set_cons_zero, List.set_cons_succ])
                refine wpAnyH_take (i := 34) (oi := ⟨some 87, _, _, _, _, _⟩) (v := .int .u64 (x.w : Int)) rfl (by kernel_rfl) (by kernel_rfl) (by kernel_rfl) (fun _ _ _ h => h) (Or.inl ⟨by kernel_rfl, by intro WW hSw; subst hSw; go_simp⟩) (by assumption) ?_
                (try simp only [Act.put, List.setIfInBounds_toArray, List.set_cons_zero, List.set_cons_succ])
                refine wpAnyH_take (i := 35) (oi := ⟨some 88, _, _, _, _, _⟩) (v := .pointer (some ⟨g2, 0, none⟩)) rfl (by kernel_rfl) (by kernel_rfl) (by kernel_rfl) (fun _ _ _ h => h) (Or.inl ⟨by kernel_rfl, by intro WW hSw; subst hSw; go_simp⟩) (by assumption) ?_
                (try simp only [Act.put, List.setIfInBounds_toArray, List.set_cons_zero, List.set_cons_succ])
                refine wpAnyH_take (i := 36) (oi := ⟨some 89, _, _, _, _, _⟩) (v := .pointer (some ⟨g2, 0, none⟩)) rfl (by kernel_rfl) (by kernel_rfl) (by kernel_rfl) (fun _ _ _ h => h) (Or.inl ⟨by kernel_rfl, by intro WW hSw; subst hSw; go_simp⟩) (by assumption) ?_
                (try simp only [Act.put, List.setIfInBounds_toArray, List.set_cons_zero, List.set_cons_succ])
                refine wpAnyH_take (i := 37) (oi := ⟨some 90, _, _, _, _, _⟩) (v := .pointer (some ⟨g2, 1, none⟩)) rfl (by kernel_rfl) (by kernel_rfl) (by kernel_rfl) (fun _ _ _ h => h) (Or.inl ⟨by kernel_rfl, by intro WW hSw; subst hSw; go_simp⟩) (by assumption) ?_
                (try simp only [Act.put, List.setIfInBounds_toArray, List.set_cons_zero, List.set_cons_succ])
                refine wpAnyH_take (i := 38) (oi := ⟨some 91, _, _, _, _, _⟩) (v := .slice (some ⟨gl2, 0, none⟩) q2 cap2) rfl (by kernel_rfl) (by kernel_rfl) (by kernel_rfl) (fun _ _ _ h => h) (Or.inl ⟨by kernel_rfl, by intro WW hSw; subst hSw; go_simp⟩) (by assumption) ?_
                (try simp only [Act.put, List.setIfInBounds_toArray, List.set_cons_zero, List.set_cons_succ])
                refine wpAnyH_take (i := 39) (oi := ⟨some 92, _, _, _, _, _⟩) (v := .slice (some ⟨gy, 0, none⟩) n7 c7) rfl (by kernel_rfl) (by kernel_rfl) (by kernel_rfl) (fun _ _ _ h => h) (Or.inl ⟨by kernel_rfl, by intro WW hSw; subst hSw; go_simp⟩) (by assumption) ?_
                (try simp only [Act.put, List.setIfInBounds_toArray, List.set_cons_zero, List.set_cons_succ])
                refine wpAnyH_take (i := 40) (oi := ⟨some 93, _, _, _, _, _⟩) (v := .int .i64 (i : Int)) rfl (by kernel_rfl) (by kernel_rfl) (by kernel_rfl) (fun _ _ _ h => h) (Or.inl ⟨by kernel_rfl, by intro WW hSw; subst hSw; go_simp⟩) (by assumption) ?_
                (try simp only [Act.put, List.setIfInBounds_toArray, List.set_cons_zero, List.set_cons_succ])
                refine wpAnyH_take (i := 41) (oi := ⟨some 94, _, _, _, _, _⟩) (v := .pointer (some ⟨gy, i, none⟩)) rfl (by kernel_rfl) (by kernel_rfl) (by kernel_rfl) (fun _ _ _ h => h) (Or.inl ⟨by kernel_rfl, by intro WW hSw; subst hSw; go_simp⟩) (by assumption) ?_
                (try simp only [Act.put, List.setIfInBounds_toArray, List.set_cons_zero, List.set_cons_succ])
                refine wpAnyH_take (i := 42) (oi := ⟨some 95, _, _, _, _, _⟩) (v := .int .i64 (p' : Int)) rfl (by kernel_rfl) (by kernel_rfl) (by kernel_rfl) (fun _ _ _ h => h) (Or.inl ⟨by kernel_rfl, by intro WW hSw; subst hSw; go_simp⟩) (by assumption) ?_
                (try simp only [Act.put, List.setIfInBounds_toArray, List.set_cons_zero, List.set_cons_succ])
                refine wpAnyH_take (i := 43) (oi := ⟨some 96, _, _, _, _, _⟩) (v := .pointer (some ⟨gl2, p' * 4, none⟩)) rfl (by kernel_rfl) (by kernel_rfl) (by kernel_rfl) (fun _ _ _ h => h) (Or.inl ⟨by kernel_rfl, by intro WW hSw; subst hSw; go_simp⟩) (by assumption) ?_
                (try simp only [Act.put, List.setIfInBounds_toArray, List.set_cons_zero, List.set_cons_succ])
                refine wpAnyH_take (i := 44) (oi := ⟨some 97, _, _, _, _, _⟩) (v := .pointer (some ⟨gl2, p' * 4 + 1, none⟩)) rfl (by kernel_rfl) (by kernel_rfl) (by kernel_rfl) (fun _ _ _ h => h) (Or.inl ⟨by kernel_rfl, by intro WW hSw; subst hSw; go_simp⟩) (by assumption) ?_
                (try simp only [Act.put, List.setIfInBounds_toArray, List.set_cons_zero, List.set_cons_succ])
                refine wpAnyH_take (i := 45) (oi := ⟨some 98, _, _, _, _, _⟩) (v := .int .u64 (y.w : Int)) rfl (by kernel_rfl) (by kernel_rfl) (by kernel_rfl) (fun _ _ _ h => h) (Or.inl ⟨by kernel_rfl, by intro WW hSw; subst hSw; go_simp⟩) (by assumption) ?_
                (try simp only [Act.put, List.setIfInBounds_toArray, List.set_cons_zero, List.set_cons_succ])
                refine wpAnyH_take (i := 46) (oi := ⟨some 99, _, _, _, _, _⟩) (v := .bool true) rfl (by kernel_rfl) (by kernel_rfl) (by kernel_rfl) (fun _ _ _ h => h) (Or.inl ⟨by kernel_rfl, by intro WW hSw; skip; go_simp⟩) (by assumption) ?_
                (try simp only [Act.put, List.setIfInBounds_toArray, List.set_cons_zero, List.set_cons_succ])
                refine wpAnyH_take (i := 47) (oi := ⟨some 100, _, _, _, _, _⟩) (v := .bool true) rfl (by kernel_rfl) (by kernel_rfl) (by kernel_rfl) (fun _ _ _ h => h) (Or.inl ⟨by kernel_rfl, by intro WW hSw; skip; go_simp⟩) (by assumption) ?_
                (try simp only [Act.put, List.setIfInBounds_toArray, List.set_cons_zero, List.set_cons_succ])
                refine wpAnyH_done (by kernel_rfl) ?_ _
                unfold NoPanic
                clear hHeld
                have HBF : Hid (b = false) := Lib.hid (by
                  cases e : b
                  · rfl
                  · exfalso
                    have hs := (HB.out.1 e) j (by have := HNLE.out; omega)
                    exact HWE.out (hs.2 i x y HXI.out HYI.out).2.1)
                go_wp2
                go_ret
                exact ⟨by rw [HBF.out]; rfl, belowT HLWC.out (belowB (drew_below _) HLWC.out.size)⟩
            · have haI : ((x.a : Int) != (y.a : Int)) = true := by simp; omega
              have HAE := Lib.hid ha
              clear ha
              go_upto_region 12 with (fail)
              refine wp_region_noPanic ?_
              refine wp_region_held_drew (S := (fun WW => WW = wc.drew)) (by kernel_rfl) (rfl) (fun hHeld => ?_)
              refine wpAnyH_take (i := 0) (oi := ⟨some 53, _, _, _, _, _⟩) (v := .pointer (some ⟨g, 0, none⟩)) rfl (by kernel_rfl) (by kernel_rfl) (by kernel_rfl) (fun _ _ _ h => h) (Or.inl ⟨by kernel_rfl, by intro WW hSw; subst hSw; go_simp⟩) (by assumption) ?_
              (try simp only [Act.put, List.setIfInBounds_toArray, List.set_cons_zero, List.set_cons_succ])
              refine wpAnyH_take (i := 1) (oi := ⟨some 54, _, _, _, _, _⟩) (v := .pointer (some ⟨g, 0, none⟩)) rfl (by kernel_rfl) (by kernel_rfl) (by kernel_rfl) (fun _ _ _ h => h) (Or.inl ⟨by kernel_rfl, by intro WW hSw; subst hSw; go_simp⟩) (by assumption) ?_
              (try simp only [Act.put, List.setIfInBounds_toArray, List.set_cons_zero, List.set_cons_succ])
              refine wpAnyH_take (i := 2) (oi := ⟨some 55, _, _, _, _, _⟩) (v := .pointer (some ⟨g, 1, none⟩)) rfl (by kernel_rfl) (by kernel_rfl) (by kernel_rfl) (fun _ _ _ h => h) (Or.inl ⟨by kernel_rfl, by intro WW hSw; subst hSw; go_simp⟩) (by assumption) ?_
              (try simp only [Act.put, List.setIfInBounds_toArray, List.set_cons_zero, List.set_cons_succ])
              refine wpAnyH_take (i := 3) (oi := ⟨some 56, _, _, _, _, _⟩) (v := .slice (some ⟨gl, 0, none⟩) q1 cap1) rfl (by kernel_rfl) (by kernel_rfl) (by kernel_rfl) (fun _ _ _ h => h) (Or.inl ⟨by kernel_rfl, by intro WW hSw; subst hSw; go_simp⟩) (by assumption) ?_
              (try simp only [Act.put, List.setIfInBounds_toArray, List.set_cons_zero, List.set_cons_succ])
              refine wpAnyH_take (i := 4) (oi := ⟨some 57, _, _, _, _, _⟩) (v := .slice (some ⟨gx, 0, none⟩) n6 c6) rfl (by kernel_rfl) (by kernel_rfl) (by kernel_rfl) (fun _ _ _ h => h) (Or.inl ⟨by kernel_rfl, by intro WW hSw; subst hSw; go_simp⟩) (by assumption) ?_
              (try simp only [Act.put, List.setIfInBounds_toArray, List.set_cons_zero, List.set_cons_succ])
              refine wpAnyH_take (i := 5) (oi := ⟨some 58, _, _, _, _, _⟩) (v := .int .i64 (i : Int)) rfl (by kernel_rfl) (by kernel_rfl) (by kernel_rfl) (fun _ _ _ h => h) (Or.inl ⟨by kernel_rfl, by intro WW hSw; subst hSw; go_simp⟩) (by assumption) ?_
              (try simp only [Act.put, List.setIfInBounds_toArray, List.set_cons_zero, List.set_cons_succ])
              refine wpAnyH_take (i := 6) (oi := ⟨some 59, _, _, _, _, _⟩) (v := .pointer (some ⟨gx, i, none⟩)) rfl (by kernel_rfl) (by kernel_rfl) (by kernel_rfl) (fun _ _ _ h => h) (Or.inl ⟨by kernel_rfl, by intro WW hSw; subst hSw; go_simp⟩) (by assumption) ?_
              (try simp only [Act.put, List.setIfInBounds_toArray, List.set_cons_zero, List.set_cons_succ])
              refine wpAnyH_take (i := 7) (oi := ⟨some 60, _, _, _, _, _⟩) (v := .int .i64 (p : Int)) rfl (by kernel_rfl) (by kernel_rfl) (by kernel_rfl) (fun _ _ _ h => h) (Or.inl ⟨by kernel_rfl, by intro WW hSw; subst hSw; go_simp⟩) (by assumption) ?_
              (try simp only [Act.put, List.setIfInBounds_toArray, List.set_cons_zero, List.set_cons_succ])
              refine wpAnyH_take (i := 8) (oi := ⟨some 61, _, _, _, _, _⟩) (v := .pointer (some ⟨gl, p * 4, none⟩)) rfl (by kernel_rfl) (by kernel_rfl) (by kernel_rfl) (fun _ _ _ h => h) (Or.inl ⟨by kernel_rfl, by intro WW hSw; subst hSw; go_simp⟩) (by assumption) ?_
              (try simp only [Act.put, List.setIfInBounds_toArray, List.set_cons_zero, List.set_cons_succ])
              refine wpAnyH_take (i := 9) (oi := ⟨some 62, _, _, _, _, _⟩) (v := .pointer (some ⟨gl, p * 4, none⟩)) rfl (by kernel_rfl) (by kernel_rfl) (by kernel_rfl) (fun _ _ _ h => h) (Or.inl ⟨by kernel_rfl, by intro WW hSw; subst hSw; go_simp⟩) (by assumption) ?_
              (try simp only [Act.put, List.setIfInBounds_toArray, List.set_cons_zero, List.set_cons_succ])
              refine wpAnyH_take (i := 10) (oi := ⟨some 63, _, _, _, _, _⟩) (v := .int .u64 (x.a : Int)) rfl (by kernel_rfl) (by kernel_rfl) (by kernel_rfl) (fun _ _ _ h => h) (Or.inl ⟨by kernel_rfl, by intro WW hSw; subst hSw; go_simp⟩) (by assumption) ?_
              (try simp only [Act.put, List.setIfInBounds_toArray, List.set_cons_zero, List.set_cons_succ])
              refine wpAnyH_take (i := 11) (oi := ⟨some 64, _, _, _, _, _⟩) (v := .pointer (some ⟨g2, 0, none⟩)) rfl (by kernel_rfl) (by kernel_rfl) (by kernel_rfl) (fun _ _ _ h => h) (Or.inl ⟨by kernel_rfl, by intro WW hSw; subst hSw; go_simp⟩) (by assumption) ?_
              (try simp only [Act.put, List.setIfInBounds_toArray, List.set_cons_zero, List.set_cons_succ])
              refine wpAnyH_take (i := 12) (oi := ⟨some 65, _, _, _, _, _⟩) (v := .pointer (some ⟨g2, 0, none⟩)) rfl (by kernel_rfl) (by kernel_rfl) (by kernel_rfl) (fun _ _ _ h => h) (Or.inl ⟨by kernel_rfl, by intro WW hSw; subst hSw; go_simp⟩) (by assumption) ?_
              (try simp only [Act.put, List.setIfInBounds_toArray, List.set_cons_zero, List.set_cons_succ])
              refine wpAnyH_take (i := 13) (oi := ⟨some 66, _, _, _, _, _⟩) (v := .pointer (some ⟨g2, 1, none⟩)) rfl (by kernel_rfl) (by kernel_rfl) (by kernel_rfl) (fun _ _ _ h => h) (Or.inl ⟨by kernel_rfl, by intro WW hSw; subst hSw; go_simp⟩) (by assumption) ?_
              (try simp only [Act.put, List.setIfInBounds_toArray, List.set_cons_zero, List.set_cons_succ])
              refine wpAnyH_take (i := 14) (oi := ⟨some 67, _, _, _, _, _⟩) (v := .slice (some ⟨gl2, 0, none⟩) q2 cap2) rfl (by kernel_rfl) (by kernel_rfl) (by kernel_rfl) (fun _ _ _ h => h) (Or.inl ⟨by kernel_rfl, by intro WW hSw; subst hSw; go_simp⟩) (by assumption) ?_
              (try simp only [Act.put, List.setIfInBounds_toArray, List.set_cons_zero, List.set_cons_succ])
              refine wpAnyH_take (i := 15) (oi := ⟨some 68, _, _, _, _, _⟩) (v := .slice (some ⟨gy, 0, none⟩) n7 c7) rfl (by kernel_rfl) (by kernel_rfl) (by kernel_rfl) (fun _ _ _ h => h) (Or.inl ⟨by kernel_rfl, by intro WW hSw; subst hSw; go_simp⟩) (by assumption) ?_
              (try simp only [Act.put, List.setIfInBounds_toArray, List.set_cons_zero, List.set_cons_succ])
              refine wpAnyH_take (i := 16) (oi := ⟨some 69, _, _, _, _, _⟩) (v := .int .i64 (i : Int)) rfl (by kernel_rfl) (by kernel_rfl) (by kernel_rfl) (fun _ _ _ h => h) (Or.inl ⟨by kernel_rfl, by intro WW hSw; subst hSw; go_simp⟩) (by assumption) ?_
              (try simp only [Act.put, List.setIfInBounds_toArray, List.set_cons_zero, List.set_cons_succ])
              refine wpAnyH_take (i := 17) (oi := ⟨some 70, _, _, _, _, _⟩) (v := .pointer (some ⟨gy, i, none⟩)) rfl (by kernel_rfl) (by kernel_rfl) (by kernel_rfl) (fun _ _ _ h => h) (Or.inl ⟨by kernel_rfl, by intro WW hSw; subst hSw; go_simp⟩) (by assumption) ?_
              (try simp only [Act.put, List.setIfInBounds_toArray, List.set_cons_zero, List.set_cons_succ])
              refine wpAnyH_take (i := 18) (oi := ⟨some 71, _, _, _, _, _⟩) (v := .int .i64 (p' : Int)) rfl (by kernel_rfl) (by kernel_rfl) (by kernel_rfl) (fun _ _ _ h => h) (Or.inl ⟨by kernel_rfl, by intro WW hSw; subst hSw; go_simp⟩) (by assumption) ?_
              (try simp only [Act.put, List.setIfInBounds_toArray, List.set_cons_zero, List.set_cons_succ])
              refine wpAnyH_take (i := 19) (oi := ⟨some 72, _, _, _, _, _⟩) (v := .pointer (some ⟨gl2, p' * 4, none⟩)) rfl (by kernel_rfl) (by kernel_rfl) (by kernel_rfl) (fun _ _ _ h => h) (Or.inl ⟨by kernel_rfl, by intro WW hSw; subst hSw; go_simp⟩) (by assumption) ?_
              (try simp only [Act.put, List.setIfInBounds_toArray, List.set_cons_zero, List.set_cons_succ])
              refine wpAnyH_take (i := 20) (oi := ⟨some 73, _, _, _, _, _⟩) (v := .pointer (some ⟨gl2, p' * 4, none⟩)) rfl (by kernel_rfl) (by kernel_rfl) (by kernel_rfl) (fun _ _ _ h => h) (Or.inl ⟨by kernel_rfl, by intro WW hSw; subst hSw; go_simp⟩) (by assumption) ?_
              (try simp only [Act.put, List.setIfInBounds_toArray, List.set_cons_zero, List.set_cons_succ])
              refine wpAnyH_take (i := 21) (oi := ⟨some 74, _, _, _, _, _⟩) (v := .int .u64 (y.a : Int)) rfl (by kernel_rfl) (by kernel_rfl) (by kernel_rfl) (fun _ _ _ h => h) (Or.inl ⟨by kernel_rfl, by intro WW hSw; subst hSw; go_simp⟩) (by assumption) ?_
              (try simp only [Act.put, List.setIfInBounds_toArray, List.set_cons_zero, List.set_cons_succ])
              refine wpAnyH_take (i := 22) (oi := ⟨some 75, _, _, _, _, _⟩) (v := .bool true) rfl (by kernel_rfl) (by kernel_rfl) (by kernel_rfl) (fun _ _ _ h => h) (Or.inl ⟨by kernel_rfl, by intro WW hSw; skip; go_simp⟩) (by assumption) ?_
              (try simp only [Act.put, List.setIfInBounds_toArray, List.set_cons_zero, List.set_cons_succ])
              refine wpAnyH_take (i := 23) (oi := ⟨some 76, _, _, _, _, _⟩) (v := .bool true) rfl (by kernel_rfl) (by kernel_rfl) (by kernel_rfl) (fun _ _ _ h => h) (Or.inl ⟨by kernel_rfl, by intro WW hSw; skip; go_simp⟩) (by assumption) ?_
              (try simp only [Act.put, List.setIfInBounds_toArray, List.set_cons_zero, List.set_cons_succ])
              refine wpAnyH_take (i := 24) (oi := ⟨some 77, _, _, _, _, _⟩) (v := undef) rfl (by kernel_rfl) (by kernel_rfl) (by kernel_rfl) (fun _ _ _ h => h) (Or.inr ⟨by kernel_rfl, rfl⟩) (by assumption) ?_
              (try simp only [Act.put, List.setIfInBounds_toArray, List.set_cons_zero, List.set_cons_succ])
              refine wpAnyH_take (i := 25) (oi := ⟨some 78, _, _, _, _, _⟩) (v := undef) rfl (by kernel_rfl) (by kernel_rfl) (by kernel_rfl) (fun _ _ _ h => h) (Or.inr ⟨by kernel_rfl, rfl⟩) (by assumption) ?_
              (try simp only [Act.put, List.setIfInBounds_toArray, List.set_cons_zero, List.set_cons_succ])
              refine wpAnyH_take (i := 26) (oi := ⟨some 79, _, _, _, _, _⟩) (v := undef) rfl (by kernel_rfl) (by kernel_rfl) (by kernel_rfl) (fun _ _ _ h => h) (Or.inr ⟨by kernel_rfl, rfl⟩) (by assumption) ?_
              (try simp only [Act.put, List.setIfInBounds_toArray, List.set_cons_zero, List.set_cons_succ])
              refine wpAnyH_take (i := 27) (oi := ⟨some 80, _, _, _, _, _⟩) (v := undef) rfl (by kernel_rfl) (by kernel_rfl) (by kernel_rfl) (fun _ _ _ h => h) (Or.inr ⟨by kernel_rfl, rfl⟩) (by assumption) ?_
              (try simp only [Act.put, List.setIfInBounds_toArray, List.set_cons_zero, List.set_cons_succ])
              refine wpAnyH_take (i := 28) (oi := ⟨some 81, _, _, _, _, _⟩) (v := undef) rfl (by kernel_rfl) (by kernel_rfl) (by kernel_rfl) (fun _ _ _ h => h) (Or.inr ⟨by kernel_rfl, rfl⟩) (by assumption) ?_
              (try simp only [Act.put, List.setIfInBounds_toArray, List.set_cons_zero, List.set_cons_succ])
              refine wpAnyH_take (i := 29) (oi := ⟨some 82, _, _, _, _, _⟩) (v := undef) rfl (by kernel_rfl) (by kernel_rfl) (by kernel_rfl) (fun _ _ _ h => h) (Or.inr ⟨by kernel_rfl, rfl⟩) (by assumption) ?_
              (try simp only [Act.put, List.setIfInBounds_toArray, List.set_cons_zero, List.set_cons_succ])
              refine wpAnyH_take (i := 30) (oi := ⟨some 83, _, _, _, _, _⟩) (v := undef) rfl (by kernel_rfl) (by kernel_rfl) (by kernel_rfl) (fun _ _ _ h => h) (Or.inr ⟨by kernel_rfl, rfl⟩) (by assumption) ?_
              (try simp only [Act.put, List.setIfInBounds_toArray, List.set_cons_zero, List.set_cons_succ])
              refine wpAnyH_take (i := 31) (oi := ⟨some 84, _, _, _, _, _⟩) (v := undef) rfl (by kernel_rfl) (by kernel_rfl) (by kernel_rfl) (fun _ _ _ h => h) (Or.inr ⟨by kernel_rfl, rfl⟩) (by assumption) ?_
              (try simp only [Act.put, List.setIfInBounds_toArray, List.set_cons_zero, List.set_cons_succ])
              refine wpAnyH_take (i := 32) (oi := ⟨some 85, _, _, _, _, _⟩) (v := undef) rfl (by kernel_rfl) (by kernel_rfl) (by kernel_rfl) (fun _ _ _ h => h) (Or.inr ⟨by kernel_rfl, rfl⟩) (by assumption) ?_
              (try simp only [Act.put, List.setIfInBounds_toArray, List.set_cons_zero, List.set_cons_succ])
              refine wpAnyH_take (i := 33) (oi := ⟨some 86, _, _, _, _, _⟩) (v := undef) rfl (by kernel_rfl) (by kernel_rfl) (by kernel_rfl) (fun _ _ _ h => h) (Or.inr ⟨by kernel_rfl, rfl⟩) (by assumption) ?_
              (try simp only [Act.put, List.setIfInBounds_toArray, List.set_cons_zero, List.set_cons_succ])
              refine wpAnyH_take (i := 34) (oi := ⟨some 87, _, _, _, _, _⟩) (v := undef) rfl (by kernel_rfl) (by kernel_rfl) (by kernel_rfl) (fun _ _ _ h => h) (Or.inr ⟨by kernel_rfl, rfl⟩) (by assumption) ?_
              (try simp only [Act.put, List.setIfInBounds_toArray, List.set_cons_zero, List.set_cons_succ])
              refine wpAnyH_take (i := 35) (oi := ⟨some 88, _, _, _, _, _⟩) (v := undef) rfl (by kernel_rfl) (by kernel_rfl) (by kernel_rfl) (fun _ _ _ h => h) (Or.inr ⟨by kernel_rfl, rfl⟩) (by assumption) ?_
              (try simp only [Act.put, List.setIfInBounds_toArray, List.set_cons_zero, List.set_cons_succ])
              refine wpAnyH_take (i := 36) (oi := ⟨some 89, _, _, _, _, _⟩) (v := undef) rfl (by kernel_rfl) (by kernel_rfl) (by kernel_rfl) (fun _ _ _ h => h) (Or.inr ⟨by kernel_rfl, rfl⟩) (by assumption) ?_
              (try simp only [Act.put, List.setIfInBounds_toArray, List.set_cons_zero, List.set_cons_succ])
              refine wpAnyH_take (i := 37) (oi := ⟨some 90, _, _, _, _, _⟩) (v := undef) rfl (by kernel_rfl) (by kernel_rfl) (by kernel_rfl) (fun _ _ _ h => h) (Or.inr ⟨by kernel_rfl, rfl⟩) (by assumption) ?_
              (try simp only [Act.put, List.setIfInBounds_toArray, List.set_cons_zero, List.set_cons_succ])
              refine wpAnyH_take (i := 38) (oi := ⟨some 91, _, _, _, _, _⟩) (v := undef) rfl (by kernel_rfl) (by kernel_rfl) (by kernel_rfl) (fun _ _ _ h => h) (Or.inr ⟨by kernel_rfl, rfl⟩) (by assumption) ?_
              (try simp only [Act.put, List.setIfInBounds_toArray, List.set_cons_zero, List.set_cons_succ])
              refine wpAnyH_take (i := 39) (oi := ⟨some 92, _, _, _, _, _⟩) (v := undef) rfl (by kernel_rfl) (by kernel_rfl) (by kernel_rfl) (fun _ _ _ h => h) (Or.inr ⟨by kernel_rfl, rfl⟩) (by assumption) ?_
              (try simp only [Act.put, List.setIfInBounds_toArray, List.set_cons_zero, List.set_cons_succ])
              refine wpAnyH_take (i := 40) (oi := ⟨some 93, _, _, _, _, _⟩) (v := undef) rfl (by kernel_rfl) (by kernel_rfl) (by kernel_rfl) (fun _ _ _ h => h) (Or.inr ⟨by kernel_rfl, rfl⟩) (by assumption) ?_
              (try simp only [Act.put, List.setIfInBounds_toArray, List.set_cons_zero, List.set_cons_succ])
              refine wpAnyH_take (i := 41) (oi := ⟨some 94, _, _, _, _, _⟩) (v := undef) rfl (by kernel_rfl) (by kernel_rfl) (by kernel_rfl) (fun _ _ _ h => h) (Or.inr ⟨by kernel_rfl, rfl⟩) (by assumption) ?_
              (try simp only [Act.put, List.setIfInBounds_toArray, List.set_cons_zero, List.set_cons_succ])
              refine wpAnyH_take (i := 42) (oi := ⟨some 95, _, _, _, _, _⟩) (v := undef) rfl (by kernel_rfl) (by kernel_rfl) (by kernel_rfl) (fun _ _ _ h => h) (Or.inr ⟨by kernel_rfl, rfl⟩) (by assumption) ?_
              (try simp only [Act.put, List.setIfInBounds_toArray, List.set_cons_zero, List.set_cons_succ])
              refine wpAnyH_take (i := 43) (oi := ⟨some 96, _, _, _, _, _⟩) (v := undef) rfl (by kernel_rfl) (by kernel_rfl) (by kernel_rfl) (fun _ _ _ h => h) (Or.inr ⟨by kernel_rfl, rfl⟩) (by assumption) ?_
              (try simp only [Act.put, List.setIfInBounds_toArray, List.set_cons_zero, List.set_cons_succ])
              refine wpAnyH_take (i := 44) (oi := ⟨some 97, _, _, _, _, _⟩) (v := undef) rfl (by kernel_rfl) (by kernel_rfl) (by kernel_rfl) (fun _ _ _ h => h) (Or.inr ⟨by kernel_rfl, rfl⟩) (by assumption) ?_
              (try simp only [Act.put, List.setIfInBounds_toArray, List.set_cons_zero, List.set_cons_succ])
              refine wpAnyH_take (i := 45) (oi := ⟨some 98, _, _, _, _, _⟩) (v := undef) rfl (by kernel_rfl) (by kernel_rfl) (by kernel_rfl) (fun _ _ _ h => h) (Or.inr ⟨by kernel_rfl, rfl⟩) (by assumption) ?_
              (try simp only [Act.put, List.setIfInBounds_toArray, List.set_cons_zero, List.set_cons_succ])
              refine wpAnyH_take (i := 46) (oi := ⟨some 99, _, _, _, _, _⟩) (v := undef) rfl (by kernel_rfl) (by kernel_rfl) (by kernel_rfl) (fun _ _ _ h => h) (Or.inr ⟨by kernel_rfl, rfl⟩) (by assumption) ?_
              (try simp only [Act.put, List.setIfInBounds_toArray, List.set_cons_zero, List.set_cons_succ])
              refine wpAnyH_take (i := 47) (oi := ⟨some 100, _, _, _, _, _⟩) (v := .bool true) rfl (by kernel_rfl) (by kernel_rfl) (by kernel_rfl) (fun _ _ _ h => h) (Or.inl ⟨by kernel_rfl, by intro WW hSw; skip; go_simp⟩) (by assumption) ?_
              (try simp only [Act.put, List.setIfInBounds_toArray, List.set_cons_zero, List.set_cons_succ])
              refine wpAnyH_done (by kernel_rfl) ?_ _
              unfold NoPanic
              clear hHeld
              have HBF : Hid (b = false) := Lib.hid (by
                cases e : b
                · rfl
                · exfalso
                  have hs := (HB.out.1 e) j (by have := HNLE.out; omega)
                  exact HAE.out (hs.2 i x y HXI.out HYI.out).1)
              go_wp2
              go_ret
              exact ⟨by rw [HBF.out]; rfl, belowT HLWC.out (belowB (drew_below _) HLWC.out.size)⟩
          · have hltI : decide ((i : Int) < (n6 : Int)) = false := by simp; omega
            go_wp2
            go_roundg (nl - (j + 1))
            case measure => omega
            case rel => exact ⟨j + 1, by rw [HNX.out], by omega, by omega, belowT HL7.out (belowB HLC.out HL7.out.size), fun t ht => by
              rcases Nat.lt_or_ge t j with q | q
              · exact HD.out t q
              · have e : t = j := by omega
                subst e
                refine ⟨by rw [← HX6.out, ← HX7.out]; exact HE67.out, fun k x y hx hy => HD2.out k ?_ x y hx hy⟩
                have := (List.getElem?_eq_some_iff.1 hx).1
                have := HX6.out
                omega⟩
      · have hneI : ((n6 : Int) != (n7 : Int)) = true := by simp; omega
        have HE67 := Lib.hid hne
        clear hne
        have HBF : Hid (b = false) := Lib.hid (by
          cases e : b
          · rfl
          · exfalso
            have hs := (HB.out.1 e) j (by have := HNLE.out; omega)
            exact HE67.out (by rw [HX6.out, HX7.out]; exact hs.1))
        go_wp2
        go_ret
        exact ⟨by rw [HBF.out]; rfl, HL7.out⟩
    · have hfn : ¬ f < N := by have := HN64.out; have := HF.out; omega
      have hfnI : decide ((f : Int) < (N : Int)) = false := by simp; omega
      have HBT : Hid (b = true) := Lib.hid (HB.out.2 fun t ht => HD.out t (by have := HNLE.out; omega))
      go_wp2
      go_ret
      exact ⟨by rw [HBT.out]; rfl, HLA.out⟩
theorem r2Same_any {w : World} {g g2 : Nat} {s s' : St} {r r' : Rf} {vF vL vF2 vL2 : Value} {ms ms2 : List Value} (h : R2At w g r vF vL ms) (h2 : R2At w g2 r' vF2 vL2 ms2) (hr : RelAt s r) (hr' : RelAt s' r') (hn : r.nl = r'.nl) (hnl : r.nl ≤ 8) (hL : r.L.length ≤ 1000 ∧ r'.L.length ≤ 1000) {b : Bool} (hb : b = true ↔ SameR r r') :
    Calls Try.prog 23 #[.pointer (some ⟨g, 0, none⟩), .pointer (some ⟨g2, 0, none⟩)] w fun e w' => e = .returned (.bool b) ∧ Below w.heap.size w w' := by
  rw [sameR_iff] at hb
  have fit : ∀ (s : St) (r : Rf), RelAt s r → (∀ x ∈ lastW r.F (prs r.L), x < 18446744073709551616) ∧ ∀ x ∈ lastW r.F (prs (las r.L)), x < 18446744073709551616 := fun s r hr => ⟨by rw [← hr.view]; exact hr.ok.vie, by rw [← hr.image]; exact hr.ok.las⟩
  obtain ⟨v1, i1⟩ := fit s r hr
  obtain ⟨v2, i2⟩ := fit s' r' hr'
  have e1 := str_ne v1 v2
  have e2 := str_ne i1 i2
  cases c1 : ((strOf (bytesL (lastW r.F (prs r.L)))).toList != (strOf (bytesL (lastW r'.F (prs r'.L)))).toList)
  · cases c2 : ((strOf (bytesL (lastW r.F (prs (las r.L))))).toList != (strOf (bytesL (lastW r'.F (prs (las r'.L))))).toList)
    · exact r2Same_l h h2 hr hr' hn hnl hL c1 c2 b ⟨fun q => (hb.1 q).2.2, fun q => hb.2 ⟨e1.1 c1, e2.1 c2, q⟩⟩
    · have : b = false := by
        cases b
        · rfl
        · have := e2.2 (hb.1 rfl).2.1
          rw [c2] at this
          cases this
      rw [this]
      exact r2Same_i h h2 hr hr' hn hnl hL c1 c2
  · have : b = false := by
      cases b
      · rfl
      · have := e1.2 (hb.1 rfl).1
        rw [c1] at this
        cases this
    rw [this]
    exact r2Same_v h h2 hr hr' hn hnl hL c1
end Go.Proofs.Ytkeajfedlhgejaa
