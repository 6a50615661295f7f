/- Texts of this claim, packed: R2Sme. -/
import Derived.Test.YtkeajfedlhgejaaPc30
import Derived.Deep.QuietTactic
import Derived.Deep.DeepCutAuto
import Derived.Deep.CutBlock
/- game.same: both memories look alike; for memories of at most eight lines. -/
namespace Go.Proofs.Ytkeajfedlhgejaa
open Go Go.RowKit
set_option linter.unusedVariables false
set_option maxRecDepth 100000 in
set_option maxHeartbeats 8000000 in
theorem gsame_any {w : World} {gg : Nat} {y : Lay} {s : St} {g : Nat} {r : Rf} {vF vL : Value} {ms : List Value} (h : G2 w gg y s g r vF vL ms) (hnl : s.nl ≤ 8) :
    Calls Try.prog 12 #[.pointer (some ⟨gg, 0, none⟩)] w fun e w' => e = .returned (.bool true) ∧ Below w.heap.size w w' := by
  have hpos := h.rel.pos
  obtain ⟨N, hN⟩ : ∃ N, N = 64 * s.nl := ⟨_, rfl⟩
  have hN0 : 0 < N ∧ N ≤ 512 := by omega
  have lv : (bytesL s.view).length = N := by rw [bytesL_length, h.rel.vl]; omega
  have ll : (bytesL s.lasted).length = N := by rw [bytesL_length, h.rel.ll]; omega
  have had : ∀ x ∈ r.L, x.a % 8 = 0 ∧ x.a < 64 * r.nl ∧ x.w < 18446744073709551616 := by rw [h.rel.nl]; exact h.rel.ad
  have hFl : r.F.length = 8 * r.nl := by rw [h.rel.nl]; exact h.rel.fl
  have hrn : r.nl = s.nl := h.rel.nl
  have HG := Lib.hid h
  have HV := Lib.hid (fun (W : World) (hb : Below w.heap.size w W) => by
    have := view_yes (h.m.below hb) h.rel.ok.vie
    unfold BytesPost at this
    rw [lv] at this
    exact this)
  have HI := Lib.hid (fun (W : World) (hb : Below w.heap.size w W) => by
    have := image_yes (h.m.below hb) h.rel.ok.las
    unfold BytesPost at this
    rw [ll] at this
    exact this)
  have HV2 := Lib.hid (fun (W : World) (hb : Below w.heap.size w W) => by
    have := r2View_any (h.d.below hb) (by rw [hrn]; omega) hFl had
    rw [← h.rel.view, hrn, ← hN] at this
    exact this)
  have HI2 := Lib.hid (fun (W : World) (hb : Below w.heap.size w W) => by
    have := r2Image_any (h.d.below hb) (by rw [hrn]; omega) hFl had
    rw [← h.rel.image, hrn, ← hN] at this
    exact this)
  have HZ := Lib.hid (fun (W : World) (hb : Below w.heap.size w W) => by
    have := size_yes (h.m.below hb)
    rw [← hN] at this
    exact this)
  have HST := Lib.hid (fun (W : World) (hb : Below w.heap.size w W) => stats_yes (h.m.below hb))
  have HLN := Lib.hid (fun (W : World) (hb : Below w.heap.size w W) => lines_yes (h.m.below hb))
  have HLN2 := Lib.hid (fun (W : World) (hb : Below w.heap.size w W) => by
    have := r2Lines_any (h.d.below hb) (by rw [hrn]; omega) (fun x hx => by have := (had x hx).2.1; omega)
    rw [lines_rel h.rel] at this
    exact this)
  have LV := Lib.hid lv
  have LL := Lib.hid ll
  obtain ⟨T, hT⟩ : ∃ T, T = strOf (bytesL s.view) := ⟨_, rfl⟩
  obtain ⟨U, hU⟩ : ∃ U, U = strOf (bytesL s.lasted) := ⟨_, rfl⟩
  have HT := Lib.hid hT
  have HU := Lib.hid hU
  have hTT : (T.toList != T.toList) = false := by simp
  have hUU : (U.toList != U.toList) = false := by simp
  obtain ⟨Af, cf, hvF, _⟩ := own4_sl h.d.fi
  rw [hrn, ← hN] at hvF
  have mixed : Try.prog.follows .mixedOrders = true := by kernel_rfl
  have EGV := Lib.hid (enters_of Try.func17 (by kernel_rfl) rfl)
  have EGV2 := Lib.hid (enters_of Try.func28 (by kernel_rfl) rfl)
  have EGI := Lib.hid (enters_of Try.func16 (by kernel_rfl) rfl)
  have EGI2 := Lib.hid (enters_of Try.func29 (by kernel_rfl) rfl)
  have EGZ := Lib.hid (enters_of Try.func30 (by kernel_rfl) rfl)
  have EGS := Lib.hid (enters_of Try.func31 (by kernel_rfl) rfl)
  have EGL := Lib.hid (enters_of Try.func33 (by kernel_rfl) rfl)
  have EGL2 := Lib.hid (enters_of Try.func34 (by kernel_rfl) rfl)
  have EGA := Lib.hid (enters_of Try.func32 (by kernel_rfl) rfl)
  have EGP1 := Lib.hid (enters_of Try.func19 (by kernel_rfl) rfl)
  have EGP2 := Lib.hid (enters_of Try.func35 (by kernel_rfl) rfl)
  have STAY := Lib.hid (fun (W : World) (hb : Below w.heap.size w W) => (show W.cell? ⟨gg, 0, none⟩ = some (.pointer (some ⟨y.g, 0, none⟩)) ∧ W.cell? ⟨gg, 1, none⟩ = some (.pointer (some ⟨g, 0, none⟩)) ∧ W.cell? ⟨g, 0, none⟩ = some (.slice Af N cf) ∧ W.rangeAt g 2 [.int .u64 (s.ld : Int), .int .u64 (s.st : Int), .int .u64 (s.fl : Int), .int .u64 (s.fe : Int)] from by
    have h1 := h.below hb
    refine ⟨?_, ?_, ?_, h1.stats⟩
    · have := h1.row.cell 0; simpa using this
    · have := h1.row.cell 1; simpa using this
    · have := h1.d.row.cell 0; rw [hvF] at this; simpa using this))
  have CV := Lib.hid (fun (W : World) (gv k B : Nat) (ho : W.ownsRow B 5 1 (.slice (some ⟨gv, 0, none⟩) N k) N ((bytesL s.view).map bv)) => by
    have := conv_sl (w := W) (a := ⟨gv, 0, none⟩) N k lv (fun i u hu => ⟨_, rfl, ho.cells (g := gv) rfl i u hu⟩)
    rw [← hT] at this
    exact this)
  have CI := Lib.hid (fun (W : World) (gv k B : Nat) (ho : W.ownsRow B 5 1 (.slice (some ⟨gv, 0, none⟩) N k) N ((bytesL s.lasted).map bv)) => by
    have := conv_sl (w := W) (a := ⟨gv, 0, none⟩) N k ll (fun i u hu => ⟨_, rfl, ho.cells (g := gv) rfl i u hu⟩)
    rw [← hU] at this
    exact this)
  have hNST := neqStats (s.ld : Int) (s.st : Int) (s.fl : Int) (s.fe : Int)
  have HNST := Lib.hid hNST
  obtain ⟨c0, c1, _, _⟩ := STAY.out w (Below.refl _ _)
  clear h hT hU lv ll had hFl hvF hNST
  have HZ2 := Lib.hid (fun (W : World) (hb : Below w.heap.size w W) => (show Calls Try.prog 30 #[.pointer (some ⟨y.g, 0, none⟩)] W (fun e w' => e = .returned (.int .i64 (N : Int)) ∧ Below W.heap.size W w') from (HZ.out W hb).mono (by rintro e w' ⟨rfl, rfl⟩; exact ⟨rfl, Below.refl _ _⟩)))
  have HST2 := Lib.hid (fun (W : World) (hb : Below w.heap.size w W) => (show Calls Try.prog 31 #[.pointer (some ⟨y.g, 0, none⟩)] W (fun e w' => e = .returned (.agg #[.int .u64 (s.ld : Int), .int .u64 (s.st : Int), .int .u64 (s.fl : Int), .int .u64 (s.fe : Int)]) ∧ Below W.heap.size W w') from HST.out W hb))
  have HNZ := Lib.hid (show (nz s.pend).length ≤ 1000000000 by
    have h1 := linesU_len r r.nl
    rw [lines_rel HG.out.rel, List.length_map] at h1
    omega)
  have HNN := Lib.hid hN
  clear hN
  go_enter Try.func12, Try.ntmps12
  go_upto_region 1 with (fail)
  refine wp_region_noPanic ?_
  refine wp_region_held_drew (S := FromW w) (by kernel_rfl) (drew_below w) (fun hHeld => ?_)
  have LC : FromW w w.drew := drew_below w
  have LW := Lib.hid (fun (WW : World) (h : FromW w WW) => h)
  refine wpAnyH_take (i := 0) (oi := ⟨some 4, _, _, _, _, _⟩) (v := .pointer (some ⟨gg, 0, none⟩)) rfl (by kernel_rfl) (by kernel_rfl) (by kernel_rfl) (fun _ _ _ h => h) (Or.inl ⟨by kernel_rfl, by intro WW hSw; (try dsimp only at hSw); have hL := LW.out _ hSw; obtain ⟨s0, s1, s2, s3⟩ := STAY.out WW hL; go_simp⟩) (by assumption) ?_
  (try simp only [Act.put, List.setIfInBounds_toArray, List.set_cons_zero, List.set_cons_succ])
  refine wpAnyH_take (i := 1) (oi := ⟨some 5, _, _, _, _, _⟩) (v := .pointer (some ⟨gg, 0, none⟩)) rfl (by kernel_rfl) (by kernel_rfl) (by kernel_rfl) (fun _ _ _ h => h) (Or.inl ⟨by kernel_rfl, by intro WW hSw; (try dsimp only at hSw); have hL := LW.out _ hSw; obtain ⟨s0, s1, s2, s3⟩ := STAY.out WW hL; go_simp⟩) (by assumption) ?_
  (try simp only [Act.put, List.setIfInBounds_toArray, List.set_cons_zero, List.set_cons_succ])
  refine wpAnyH_take (i := 2) (oi := ⟨some 6, _, _, _, _, _⟩) (v := .pointer (some ⟨gg, 0, none⟩)) rfl (by kernel_rfl) (by kernel_rfl) (by kernel_rfl) (fun _ _ _ h => h) (Or.inl ⟨by kernel_rfl, by intro WW hSw; (try dsimp only at hSw); have hL := LW.out _ hSw; obtain ⟨s0, s1, s2, s3⟩ := STAY.out WW hL; go_simp⟩) (by assumption) ?_
  (try simp only [Act.put, List.setIfInBounds_toArray, List.set_cons_zero, List.set_cons_succ])
  refine wpAnyH_take (i := 3) (oi := ⟨some 7, _, _, _, _, _⟩) (v := .pointer (some ⟨y.g, 0, none⟩)) rfl (by kernel_rfl) (by kernel_rfl) (by kernel_rfl) (fun _ _ _ h => h) (Or.inl ⟨by kernel_rfl, by intro WW hSw; (try dsimp only at hSw); have hL := LW.out _ hSw; obtain ⟨s0, s1, s2, s3⟩ := STAY.out WW hL; go_simp⟩) (by assumption) ?_
  (try simp only [Act.put, List.setIfInBounds_toArray, List.set_cons_zero, List.set_cons_succ])
  refine wpAnyH_take (i := 6) (oi := ⟨some 10, _, _, _, _, _⟩) (v := .pointer (some ⟨gg, 0, none⟩)) rfl (by kernel_rfl) (by kernel_rfl) (by kernel_rfl) (fun _ _ _ h => h) (Or.inl ⟨by kernel_rfl, by intro WW hSw; (try dsimp only at hSw); have hL := LW.out _ hSw; obtain ⟨s0, s1, s2, s3⟩ := STAY.out WW hL; go_simp⟩) (by assumption) ?_
  (try simp only [Act.put, List.setIfInBounds_toArray, List.set_cons_zero, List.set_cons_succ])
  refine wpAnyH_take (i := 7) (oi := ⟨some 11, _, _, _, _, _⟩) (v := .pointer (some ⟨gg, 0, none⟩)) rfl (by kernel_rfl) (by kernel_rfl) (by kernel_rfl) (fun _ _ _ h => h) (Or.inl ⟨by kernel_rfl, by intro WW hSw; (try dsimp only at hSw); have hL := LW.out _ hSw; obtain ⟨s0, s1, s2, s3⟩ := STAY.out WW hL; go_simp⟩) (by assumption) ?_
  (try simp only [Act.put, List.setIfInBounds_toArray, List.set_cons_zero, List.set_cons_succ])
  refine wpAnyH_take (i := 8) (oi := ⟨some 12, _, _, _, _, _⟩) (v := .pointer (some ⟨gg, 1, none⟩)) rfl (by kernel_rfl) (by kernel_rfl) (by kernel_rfl) (fun _ _ _ h => h) (Or.inl ⟨by kernel_rfl, by intro WW hSw; (try dsimp only at hSw); have hL := LW.out _ hSw; obtain ⟨s0, s1, s2, s3⟩ := STAY.out WW hL; go_simp⟩) (by assumption) ?_
  (try simp only [Act.put, List.setIfInBounds_toArray, List.set_cons_zero, List.set_cons_succ])
  refine wpAnyH_take (i := 9) (oi := ⟨some 13, _, _, _, _, _⟩) (v := .pointer (some ⟨g, 0, none⟩)) rfl (by kernel_rfl) (by kernel_rfl) (by kernel_rfl) (fun _ _ _ h => h) (Or.inl ⟨by kernel_rfl, by intro WW hSw; (try dsimp only at hSw); have hL := LW.out _ hSw; obtain ⟨s0, s1, s2, s3⟩ := STAY.out WW hL; go_simp⟩) (by assumption) ?_
  (try simp only [Act.put, List.setIfInBounds_toArray, List.set_cons_zero, List.set_cons_succ])
  refine wpAnyH_one (i := 4) (oi := ⟨some 8, _, _, _, _, _⟩) rfl (by kernel_rfl) (fun K hK => ?_)
  refine step_calls (by rfl) 17 EGV.out [.tmp 7] _ rfl [.pointer (some ⟨y.g, 0, none⟩)] rfl (HV.out _ LC) ?_
  rintro e x1 ⟨⟨va, rfl, oa⟩, b1⟩
  obtain ⟨ga, ka, _, rfl, _, _, _, _⟩ := own4_shape oa hN0.1
  have Wa := Lib.hid (fun (WW : World) (h : FromW x1 WW) => CV.out WW ga ka _ (own2_same oa fun k hk => h.block k (by obtain ⟨cs, hc⟩ := own2_tg oa hk; exact (Array.getElem?_eq_some_iff.1 hc).1)))
  have hS1 := FromW.next hHeld b1
  refine ⟨_, rfl, hK _ _ hS1 (fun _ => ?_)⟩
  clear hK K
  have LX1 : FromW w x1 := FromW.next LC b1
  clear LW LC
  have LC := LX1
  have LW := Lib.hid (fun (WW : World) (h : FromW x1 WW) => FromW.next LX1 h)
  clear hHeld
  refine wpAnyH_strong (S' := FromW x1) (fun W h => FromW.next hS1 h) _ _ _ _ ?_
  have hHeld : FromW x1 x1 := FromW.refl _
  clear b1 LX1 hS1
  (try simp only [Act.put, List.setIfInBounds_toArray, List.set_cons_zero, List.set_cons_succ])
  refine wpAnyH_take (i := 5) (oi := ⟨some 9, _, _, _, _, _⟩) (v := .string T) rfl (by kernel_rfl) (by kernel_rfl) (by kernel_rfl) (fun _ _ _ h => h) (Or.inl ⟨by kernel_rfl, by intro WW hSw; (try dsimp only at hSw); have hL := LW.out _ hSw; obtain ⟨s0, s1, s2, s3⟩ := STAY.out WW hL; have hcv := Wa.out WW (hSw); go_simp⟩) (by assumption) ?_
  (try simp only [Act.put, List.setIfInBounds_toArray, List.set_cons_zero, List.set_cons_succ])
  refine wpAnyH_one (i := 10) (oi := ⟨some 14, _, _, _, _, _⟩) rfl (by kernel_rfl) (fun K hK => ?_)
  refine step_calls (by rfl) 28 EGV2.out [.tmp 13] _ rfl [.pointer (some ⟨g, 0, none⟩)] rfl (HV2.out _ LC) ?_
  rintro e x2 ⟨⟨vb, rfl, ob⟩, b2⟩
  obtain ⟨gb, kb, _, rfl, _, _, _, _⟩ := own4_shape ob hN0.1
  have Wb := Lib.hid (fun (WW : World) (h : FromW x2 WW) => CV.out WW gb kb _ (own2_same ob fun k hk => h.block k (by obtain ⟨cs, hc⟩ := own2_tg ob hk; exact (Array.getElem?_eq_some_iff.1 hc).1)))
  have hS2 := FromW.next hHeld b2
  refine ⟨_, rfl, hK _ _ hS2 (fun _ => ?_)⟩
  clear hK K
  have LX2 : FromW w x2 := FromW.next LC b2
  clear LW LC
  have LC := LX2
  have LW := Lib.hid (fun (WW : World) (h : FromW x2 WW) => FromW.next LX2 h)
  clear hHeld
  refine wpAnyH_strong (S' := FromW x2) (fun W h => FromW.next hS2 h) _ _ _ _ ?_
  have hHeld : FromW x2 x2 := FromW.refl _
  clear b2 LX2 hS2
  (try simp only [Act.put, List.setIfInBounds_toArray, List.set_cons_zero, List.set_cons_succ])
  refine wpAnyH_take (i := 11) (oi := ⟨some 15, _, _, _, _, _⟩) (v := .string T) rfl (by kernel_rfl) (by kernel_rfl) (by kernel_rfl) (fun _ _ _ h => h) (Or.inl ⟨by kernel_rfl, by intro WW hSw; (try dsimp only at hSw); have hL := LW.out _ hSw; obtain ⟨s0, s1, s2, s3⟩ := STAY.out WW hL; have hcv := Wb.out WW (hSw); go_simp⟩) (by assumption) ?_
  (try simp only [Act.put, List.setIfInBounds_toArray, List.set_cons_zero, List.set_cons_succ])
  refine wpAnyH_take (i := 12) (oi := ⟨some 16, _, _, _, _, _⟩) (v := .bool false) rfl (by kernel_rfl) (by kernel_rfl) (by kernel_rfl) (fun _ _ _ h => h) (Or.inl ⟨by kernel_rfl, by intro WW hSw; (try dsimp only at hSw); have hL := LW.out _ hSw; obtain ⟨s0, s1, s2, s3⟩ := STAY.out WW hL; go_simp⟩) (by assumption) ?_
  (try simp only [Act.put, List.setIfInBounds_toArray, List.set_cons_zero, List.set_cons_succ])
  refine wpAnyH_take (i := 13) (oi := ⟨some 17, _, _, _, _, _⟩) (v := .bool false) rfl (by kernel_rfl) (by kernel_rfl) (by kernel_rfl) (fun _ _ _ h => h) (Or.inl ⟨by kernel_rfl, by intro WW hSw; (try dsimp only at hSw); have hL := LW.out _ hSw; obtain ⟨s0, s1, s2, s3⟩ := STAY.out WW hL; go_simp⟩) (by assumption) ?_
  (try simp only [Act.put, List.setIfInBounds_toArray, List.set_cons_zero, List.set_cons_succ])
  refine wpAnyH_take (i := 14) (oi := ⟨some 18, _, _, _, _, _⟩) (v := .pointer (some ⟨gg, 0, none⟩)) rfl (by kernel_rfl) (by kernel_rfl) (by kernel_rfl) (fun _ _ _ h => h) (Or.inl ⟨by kernel_rfl, by intro WW hSw; (try dsimp only at hSw); have hL := LW.out _ hSw; obtain ⟨s0, s1, s2, s3⟩ := STAY.out WW hL; go_simp⟩) (by assumption) ?_
  (try simp only [Act.put, List.setIfInBounds_toArray, List.set_cons_zero, List.set_cons_succ])
  refine wpAnyH_take (i := 15) (oi := ⟨some 19, _, _, _, _, _⟩) (v := .pointer (some ⟨gg, 0, none⟩)) rfl (by kernel_rfl) (by kernel_rfl) (by kernel_rfl) (fun _ _ _ h => h) (Or.inl ⟨by kernel_rfl, by intro WW hSw; (try dsimp only at hSw); have hL := LW.out _ hSw; obtain ⟨s0, s1, s2, s3⟩ := STAY.out WW hL; go_simp⟩) (by assumption) ?_
  (try simp only [Act.put, List.setIfInBounds_toArray, List.set_cons_zero, List.set_cons_succ])
  refine wpAnyH_take (i := 16) (oi := ⟨some 20, _, _, _, _, _⟩) (v := .pointer (some ⟨gg, 0, none⟩)) rfl (by kernel_rfl) (by kernel_rfl) (by kernel_rfl) (fun _ _ _ h => h) (Or.inl ⟨by kernel_rfl, by intro WW hSw; (try dsimp only at hSw); have hL := LW.out _ hSw; obtain ⟨s0, s1, s2, s3⟩ := STAY.out WW hL; go_simp⟩) (by assumption) ?_
  (try simp only [Act.put, List.setIfInBounds_toArray, List.set_cons_zero, List.set_cons_succ])
  refine wpAnyH_take (i := 17) (oi := ⟨some 21, _, _, _, _, _⟩) (v := .pointer (some ⟨y.g, 0, none⟩)) rfl (by kernel_rfl) (by kernel_rfl) (by kernel_rfl) (fun _ _ _ h => h) (Or.inl ⟨by kernel_rfl, by intro WW hSw; (try dsimp only at hSw); have hL := LW.out _ hSw; obtain ⟨s0, s1, s2, s3⟩ := STAY.out WW hL; go_simp⟩) (by assumption) ?_
  (try simp only [Act.put, List.setIfInBounds_toArray, List.set_cons_zero, List.set_cons_succ])
  refine wpAnyH_take (i := 20) (oi := ⟨some 24, _, _, _, _, _⟩) (v := .pointer (some ⟨gg, 0, none⟩)) rfl (by kernel_rfl) (by kernel_rfl) (by kernel_rfl) (fun _ _ _ h => h) (Or.inl ⟨by kernel_rfl, by intro WW hSw; (try dsimp only at hSw); have hL := LW.out _ hSw; obtain ⟨s0, s1, s2, s3⟩ := STAY.out WW hL; go_simp⟩) (by assumption) ?_
  (try simp only [Act.put, List.setIfInBounds_toArray, List.set_cons_zero, List.set_cons_succ])
  refine wpAnyH_take (i := 21) (oi := ⟨some 25, _, _, _, _, _⟩) (v := .pointer (some ⟨gg, 0, none⟩)) rfl (by kernel_rfl) (by kernel_rfl) (by kernel_rfl) (fun _ _ _ h => h) (Or.inl ⟨by kernel_rfl, by intro WW hSw; (try dsimp only at hSw); have hL := LW.out _ hSw; obtain ⟨s0, s1, s2, s3⟩ := STAY.out WW hL; go_simp⟩) (by assumption) ?_
  (try simp only [Act.put, List.setIfInBounds_toArray, List.set_cons_zero, List.set_cons_succ])
  refine wpAnyH_take (i := 22) (oi := ⟨some 26, _, _, _, _, _⟩) (v := .pointer (some ⟨gg, 1, none⟩)) rfl (by kernel_rfl) (by kernel_rfl) (by kernel_rfl) (fun _ _ _ h => h) (Or.inl ⟨by kernel_rfl, by intro WW hSw; (try dsimp only at hSw); have hL := LW.out _ hSw; obtain ⟨s0, s1, s2, s3⟩ := STAY.out WW hL; go_simp⟩) (by assumption) ?_
  (try simp only [Act.put, List.setIfInBounds_toArray, List.set_cons_zero, List.set_cons_succ])
  refine wpAnyH_take (i := 23) (oi := ⟨some 27, _, _, _, _, _⟩) (v := .pointer (some ⟨g, 0, none⟩)) rfl (by kernel_rfl) (by kernel_rfl) (by kernel_rfl) (fun _ _ _ h => h) (Or.inl ⟨by kernel_rfl, by intro WW hSw; (try dsimp only at hSw); have hL := LW.out _ hSw; obtain ⟨s0, s1, s2, s3⟩ := STAY.out WW hL; go_simp⟩) (by assumption) ?_
  (try simp only [Act.put, List.setIfInBounds_toArray, List.set_cons_zero, List.set_cons_succ])
  refine wpAnyH_one (i := 18) (oi := ⟨some 22, _, _, _, _, _⟩) rfl (by kernel_rfl) (fun K hK => ?_)
  refine step_calls (by rfl) 16 EGI.out [.tmp 21] _ rfl [.pointer (some ⟨y.g, 0, none⟩)] rfl (HI.out _ LC) ?_
  rintro e x3 ⟨⟨vc, rfl, oc⟩, b3⟩
  obtain ⟨gc, kc, _, rfl, _, _, _, _⟩ := own4_shape oc hN0.1
  have Wc := Lib.hid (fun (WW : World) (h : FromW x3 WW) => CI.out WW gc kc _ (own2_same oc fun k hk => h.block k (by obtain ⟨cs, hc⟩ := own2_tg oc hk; exact (Array.getElem?_eq_some_iff.1 hc).1)))
  have hS3 := FromW.next hHeld b3
  refine ⟨_, rfl, hK _ _ hS3 (fun _ => ?_)⟩
  clear hK K
  have LX3 : FromW w x3 := FromW.next LC b3
  clear LW LC
  have LC := LX3
  have LW := Lib.hid (fun (WW : World) (h : FromW x3 WW) => FromW.next LX3 h)
  clear hHeld
  refine wpAnyH_strong (S' := FromW x3) (fun W h => FromW.next hS3 h) _ _ _ _ ?_
  have hHeld : FromW x3 x3 := FromW.refl _
  clear b3 LX3 hS3
  (try simp only [Act.put, List.setIfInBounds_toArray, List.set_cons_zero, List.set_cons_succ])
  refine wpAnyH_take (i := 19) (oi := ⟨some 23, _, _, _, _, _⟩) (v := .string U) rfl (by kernel_rfl) (by kernel_rfl) (by kernel_rfl) (fun _ _ _ h => h) (Or.inl ⟨by kernel_rfl, by intro WW hSw; (try dsimp only at hSw); have hL := LW.out _ hSw; obtain ⟨s0, s1, s2, s3⟩ := STAY.out WW hL; have hcv := Wc.out WW (hSw); go_simp⟩) (by assumption) ?_
  (try simp only [Act.put, List.setIfInBounds_toArray, List.set_cons_zero, List.set_cons_succ])
  refine wpAnyH_one (i := 24) (oi := ⟨some 28, _, _, _, _, _⟩) rfl (by kernel_rfl) (fun K hK => ?_)
  refine step_calls (by rfl) 29 EGI2.out [.tmp 27] _ rfl [.pointer (some ⟨g, 0, none⟩)] rfl (HI2.out _ LC) ?_
  rintro e x4 ⟨⟨vd, rfl, od⟩, b4⟩
  obtain ⟨gd, kd, _, rfl, _, _, _, _⟩ := own4_shape od hN0.1
  have Wd := Lib.hid (fun (WW : World) (h : FromW x4 WW) => CI.out WW gd kd _ (own2_same od fun k hk => h.block k (by obtain ⟨cs, hc⟩ := own2_tg od hk; exact (Array.getElem?_eq_some_iff.1 hc).1)))
  have hS4 := FromW.next hHeld b4
  refine ⟨_, rfl, hK _ _ hS4 (fun _ => ?_)⟩
  clear hK K
  have LX4 : FromW w x4 := FromW.next LC b4
  clear LW LC
  have LC := LX4
  have LW := Lib.hid (fun (WW : World) (h : FromW x4 WW) => FromW.next LX4 h)
  clear hHeld
  refine wpAnyH_strong (S' := FromW x4) (fun W h => FromW.next hS4 h) _ _ _ _ ?_
  have hHeld : FromW x4 x4 := FromW.refl _
  clear b4 LX4 hS4
  (try simp only [Act.put, List.setIfInBounds_toArray, List.set_cons_zero, List.set_cons_succ])
  refine wpAnyH_take (i := 25) (oi := ⟨some 29, _, _, _, _, _⟩) (v := .string U) rfl (by kernel_rfl) (by kernel_rfl) (by kernel_rfl) (fun _ _ _ h => h) (Or.inl ⟨by kernel_rfl, by intro WW hSw; (try dsimp only at hSw); have hL := LW.out _ hSw; obtain ⟨s0, s1, s2, s3⟩ := STAY.out WW hL; have hcv := Wd.out WW (hSw); go_simp⟩) (by assumption) ?_
  (try simp only [Act.put, List.setIfInBounds_toArray, List.set_cons_zero, List.set_cons_succ])
  refine wpAnyH_take (i := 26) (oi := ⟨some 30, _, _, _, _, _⟩) (v := .bool false) rfl (by kernel_rfl) (by kernel_rfl) (by kernel_rfl) (fun _ _ _ h => h) (Or.inl ⟨by kernel_rfl, by intro WW hSw; (try dsimp only at hSw); have hL := LW.out _ hSw; obtain ⟨s0, s1, s2, s3⟩ := STAY.out WW hL; go_simp⟩) (by assumption) ?_
  (try simp only [Act.put, List.setIfInBounds_toArray, List.set_cons_zero, List.set_cons_succ])
  refine wpAnyH_take (i := 27) (oi := ⟨some 31, _, _, _, _, _⟩) (v := .bool false) rfl (by kernel_rfl) (by kernel_rfl) (by kernel_rfl) (fun _ _ _ h => h) (Or.inl ⟨by kernel_rfl, by intro WW hSw; (try dsimp only at hSw); have hL := LW.out _ hSw; obtain ⟨s0, s1, s2, s3⟩ := STAY.out WW hL; go_simp⟩) (by assumption) ?_
  (try simp only [Act.put, List.setIfInBounds_toArray, List.set_cons_zero, List.set_cons_succ])
  refine wpAnyH_take (i := 28) (oi := ⟨some 32, _, _, _, _, _⟩) (v := .bool false) rfl (by kernel_rfl) (by kernel_rfl) (by kernel_rfl) (fun _ _ _ h => h) (Or.inl ⟨by kernel_rfl, by intro WW hSw; (try dsimp only at hSw); have hL := LW.out _ hSw; obtain ⟨s0, s1, s2, s3⟩ := STAY.out WW hL; go_simp⟩) (by assumption) ?_
  (try simp only [Act.put, List.setIfInBounds_toArray, List.set_cons_zero, List.set_cons_succ])
  refine wpAnyH_take (i := 29) (oi := ⟨some 33, _, _, _, _, _⟩) (v := .pointer (some ⟨gg, 0, none⟩)) rfl (by kernel_rfl) (by kernel_rfl) (by kernel_rfl) (fun _ _ _ h => h) (Or.inl ⟨by kernel_rfl, by intro WW hSw; (try dsimp only at hSw); have hL := LW.out _ hSw; obtain ⟨s0, s1, s2, s3⟩ := STAY.out WW hL; go_simp⟩) (by assumption) ?_
  (try simp only [Act.put, List.setIfInBounds_toArray, List.set_cons_zero, List.set_cons_succ])
  refine wpAnyH_take (i := 30) (oi := ⟨some 34, _, _, _, _, _⟩) (v := .pointer (some ⟨gg, 0, none⟩)) rfl (by kernel_rfl) (by kernel_rfl) (by kernel_rfl) (fun _ _ _ h => h) (Or.inl ⟨by kernel_rfl, by intro WW hSw; (try dsimp only at hSw); have hL := LW.out _ hSw; obtain ⟨s0, s1, s2, s3⟩ := STAY.out WW hL; go_simp⟩) (by assumption) ?_
  (try simp only [Act.put, List.setIfInBounds_toArray, List.set_cons_zero, List.set_cons_succ])
  refine wpAnyH_take (i := 31) (oi := ⟨some 35, _, _, _, _, _⟩) (v := .pointer (some ⟨gg, 0, none⟩)) rfl (by kernel_rfl) (by kernel_rfl) (by kernel_rfl) (fun _ _ _ h => h) (Or.inl ⟨by kernel_rfl, by intro WW hSw; (try dsimp only at hSw); have hL := LW.out _ hSw; obtain ⟨s0, s1, s2, s3⟩ := STAY.out WW hL; go_simp⟩) (by assumption) ?_
  (try simp only [Act.put, List.setIfInBounds_toArray, List.set_cons_zero, List.set_cons_succ])
  refine wpAnyH_take (i := 32) (oi := ⟨some 36, _, _, _, _, _⟩) (v := .pointer (some ⟨y.g, 0, none⟩)) rfl (by kernel_rfl) (by kernel_rfl) (by kernel_rfl) (fun _ _ _ h => h) (Or.inl ⟨by kernel_rfl, by intro WW hSw; (try dsimp only at hSw); have hL := LW.out _ hSw; obtain ⟨s0, s1, s2, s3⟩ := STAY.out WW hL; go_simp⟩) (by assumption) ?_
  (try simp only [Act.put, List.setIfInBounds_toArray, List.set_cons_zero, List.set_cons_succ])
  refine wpAnyH_take (i := 34) (oi := ⟨some 38, _, _, _, _, _⟩) (v := .pointer (some ⟨gg, 0, none⟩)) rfl (by kernel_rfl) (by kernel_rfl) (by kernel_rfl) (fun _ _ _ h => h) (Or.inl ⟨by kernel_rfl, by intro WW hSw; (try dsimp only at hSw); have hL := LW.out _ hSw; obtain ⟨s0, s1, s2, s3⟩ := STAY.out WW hL; go_simp⟩) (by assumption) ?_
  (try simp only [Act.put, List.setIfInBounds_toArray, List.set_cons_zero, List.set_cons_succ])
  refine wpAnyH_take (i := 35) (oi := ⟨some 39, _, _, _, _, _⟩) (v := .pointer (some ⟨gg, 0, none⟩)) rfl (by kernel_rfl) (by kernel_rfl) (by kernel_rfl) (fun _ _ _ h => h) (Or.inl ⟨by kernel_rfl, by intro WW hSw; (try dsimp only at hSw); have hL := LW.out _ hSw; obtain ⟨s0, s1, s2, s3⟩ := STAY.out WW hL; go_simp⟩) (by assumption) ?_
  (try simp only [Act.put, List.setIfInBounds_toArray, List.set_cons_zero, List.set_cons_succ])
  refine wpAnyH_take (i := 36) (oi := ⟨some 40, _, _, _, _, _⟩) (v := .pointer (some ⟨gg, 1, none⟩)) rfl (by kernel_rfl) (by kernel_rfl) (by kernel_rfl) (fun _ _ _ h => h) (Or.inl ⟨by kernel_rfl, by intro WW hSw; (try dsimp only at hSw); have hL := LW.out _ hSw; obtain ⟨s0, s1, s2, s3⟩ := STAY.out WW hL; go_simp⟩) (by assumption) ?_
  (try simp only [Act.put, List.setIfInBounds_toArray, List.set_cons_zero, List.set_cons_succ])
  refine wpAnyH_take (i := 37) (oi := ⟨some 41, _, _, _, _, _⟩) (v := .pointer (some ⟨g, 0, none⟩)) rfl (by kernel_rfl) (by kernel_rfl) (by kernel_rfl) (fun _ _ _ h => h) (Or.inl ⟨by kernel_rfl, by intro WW hSw; (try dsimp only at hSw); have hL := LW.out _ hSw; obtain ⟨s0, s1, s2, s3⟩ := STAY.out WW hL; go_simp⟩) (by assumption) ?_
  (try simp only [Act.put, List.setIfInBounds_toArray, List.set_cons_zero, List.set_cons_succ])
  refine wpAnyH_take (i := 38) (oi := ⟨some 42, _, _, _, _, _⟩) (v := .pointer (some ⟨g, 0, none⟩)) rfl (by kernel_rfl) (by kernel_rfl) (by kernel_rfl) (fun _ _ _ h => h) (Or.inl ⟨by kernel_rfl, by intro WW hSw; (try dsimp only at hSw); have hL := LW.out _ hSw; obtain ⟨s0, s1, s2, s3⟩ := STAY.out WW hL; go_simp⟩) (by assumption) ?_
  (try simp only [Act.put, List.setIfInBounds_toArray, List.set_cons_zero, List.set_cons_succ])
  refine wpAnyH_take (i := 39) (oi := ⟨some 43, _, _, _, _, _⟩) (v := .pointer (some ⟨g, 0, none⟩)) rfl (by kernel_rfl) (by kernel_rfl) (by kernel_rfl) (fun _ _ _ h => h) (Or.inl ⟨by kernel_rfl, by intro WW hSw; (try dsimp only at hSw); have hL := LW.out _ hSw; obtain ⟨s0, s1, s2, s3⟩ := STAY.out WW hL; go_simp⟩) (by assumption) ?_
  (try simp only [Act.put, List.setIfInBounds_toArray, List.set_cons_zero, List.set_cons_succ])
  refine wpAnyH_take (i := 40) (oi := ⟨some 44, _, _, _, _, _⟩) (v := .slice Af N cf) rfl (by kernel_rfl) (by kernel_rfl) (by kernel_rfl) (fun _ _ _ h => h) (Or.inl ⟨by kernel_rfl, by intro WW hSw; (try dsimp only at hSw); have hL := LW.out _ hSw; obtain ⟨s0, s1, s2, s3⟩ := STAY.out WW hL; go_simp⟩) (by assumption) ?_
  (try simp only [Act.put, List.setIfInBounds_toArray, List.set_cons_zero, List.set_cons_succ])
  refine wpAnyH_take (i := 41) (oi := ⟨some 45, _, _, _, _, _⟩) (v := .int .i64 (N : Int)) rfl (by kernel_rfl) (by kernel_rfl) (by kernel_rfl) (fun _ _ _ h => h) (Or.inl ⟨by kernel_rfl, by intro WW hSw; (try dsimp only at hSw); have hL := LW.out _ hSw; obtain ⟨s0, s1, s2, s3⟩ := STAY.out WW hL; go_simp⟩) (by assumption) ?_
  (try simp only [Act.put, List.setIfInBounds_toArray, List.set_cons_zero, List.set_cons_succ])
  refine wpAnyH_one (i := 33) (oi := ⟨some 37, _, _, _, _, _⟩) rfl (by kernel_rfl) (fun K hK => ?_)
  refine step_calls (by rfl) 30 EGZ.out [.tmp 36] _ rfl [.pointer (some ⟨y.g, 0, none⟩)] rfl (HZ2.out _ LC) ?_
  rintro e x5 ⟨rfl, b5⟩
  have hS5 := FromW.next hHeld b5
  refine ⟨_, rfl, hK _ _ hS5 (fun _ => ?_)⟩
  clear hK K
  have LX5 : FromW w x5 := FromW.next LC b5
  clear LW LC
  have LC := LX5
  have LW := Lib.hid (fun (WW : World) (h : FromW x5 WW) => FromW.next LX5 h)
  clear hHeld
  refine wpAnyH_strong (S' := FromW x5) (fun W h => FromW.next hS5 h) _ _ _ _ ?_
  have hHeld : FromW x5 x5 := FromW.refl _
  clear b5 LX5 hS5
  (try simp only [Act.put, List.setIfInBounds_toArray, List.set_cons_zero, List.set_cons_succ])
  refine wpAnyH_take (i := 42) (oi := ⟨some 46, _, _, _, _, _⟩) (v := .bool false) rfl (by kernel_rfl) (by kernel_rfl) (by kernel_rfl) (fun _ _ _ h => h) (Or.inl ⟨by kernel_rfl, by intro WW hSw; (try dsimp only at hSw); have hL := LW.out _ hSw; obtain ⟨s0, s1, s2, s3⟩ := STAY.out WW hL; go_simp⟩) (by assumption) ?_
  (try simp only [Act.put, List.setIfInBounds_toArray, List.set_cons_zero, List.set_cons_succ])
  refine wpAnyH_take (i := 43) (oi := ⟨some 47, _, _, _, _, _⟩) (v := .bool false) rfl (by kernel_rfl) (by kernel_rfl) (by kernel_rfl) (fun _ _ _ h => h) (Or.inl ⟨by kernel_rfl, by intro WW hSw; (try dsimp only at hSw); have hL := LW.out _ hSw; obtain ⟨s0, s1, s2, s3⟩ := STAY.out WW hL; go_simp⟩) (by assumption) ?_
  (try simp only [Act.put, List.setIfInBounds_toArray, List.set_cons_zero, List.set_cons_succ])
  refine wpAnyH_take (i := 44) (oi := ⟨some 48, _, _, _, _, _⟩) (v := .bool false) rfl (by kernel_rfl) (by kernel_rfl) (by kernel_rfl) (fun _ _ _ h => h) (Or.inl ⟨by kernel_rfl, by intro WW hSw; (try dsimp only at hSw); have hL := LW.out _ hSw; obtain ⟨s0, s1, s2, s3⟩ := STAY.out WW hL; go_simp⟩) (by assumption) ?_
  (try simp only [Act.put, List.setIfInBounds_toArray, List.set_cons_zero, List.set_cons_succ])
  refine wpAnyH_take (i := 45) (oi := ⟨some 49, _, _, _, _, _⟩) (v := .pointer (some ⟨gg, 0, none⟩)) rfl (by kernel_rfl) (by kernel_rfl) (by kernel_rfl) (fun _ _ _ h => h) (Or.inl ⟨by kernel_rfl, by intro WW hSw; (try dsimp only at hSw); have hL := LW.out _ hSw; obtain ⟨s0, s1, s2, s3⟩ := STAY.out WW hL; go_simp⟩) (by assumption) ?_
  (try simp only [Act.put, List.setIfInBounds_toArray, List.set_cons_zero, List.set_cons_succ])
  refine wpAnyH_take (i := 46) (oi := ⟨some 50, _, _, _, _, _⟩) (v := .pointer (some ⟨gg, 0, none⟩)) rfl (by kernel_rfl) (by kernel_rfl) (by kernel_rfl) (fun _ _ _ h => h) (Or.inl ⟨by kernel_rfl, by intro WW hSw; (try dsimp only at hSw); have hL := LW.out _ hSw; obtain ⟨s0, s1, s2, s3⟩ := STAY.out WW hL; go_simp⟩) (by assumption) ?_
  (try simp only [Act.put, List.setIfInBounds_toArray, List.set_cons_zero, List.set_cons_succ])
  refine wpAnyH_take (i := 47) (oi := ⟨some 51, _, _, _, _, _⟩) (v := .pointer (some ⟨gg, 0, none⟩)) rfl (by kernel_rfl) (by kernel_rfl) (by kernel_rfl) (fun _ _ _ h => h) (Or.inl ⟨by kernel_rfl, by intro WW hSw; (try dsimp only at hSw); have hL := LW.out _ hSw; obtain ⟨s0, s1, s2, s3⟩ := STAY.out WW hL; go_simp⟩) (by assumption) ?_
  (try simp only [Act.put, List.setIfInBounds_toArray, List.set_cons_zero, List.set_cons_succ])
  refine wpAnyH_take (i := 48) (oi := ⟨some 52, _, _, _, _, _⟩) (v := .pointer (some ⟨y.g, 0, none⟩)) rfl (by kernel_rfl) (by kernel_rfl) (by kernel_rfl) (fun _ _ _ h => h) (Or.inl ⟨by kernel_rfl, by intro WW hSw; (try dsimp only at hSw); have hL := LW.out _ hSw; obtain ⟨s0, s1, s2, s3⟩ := STAY.out WW hL; go_simp⟩) (by assumption) ?_
  (try simp only [Act.put, List.setIfInBounds_toArray, List.set_cons_zero, List.set_cons_succ])
  refine wpAnyH_take (i := 50) (oi := ⟨some 54, _, _, _, _, _⟩) (v := .pointer (some ⟨gg, 0, none⟩)) rfl (by kernel_rfl) (by kernel_rfl) (by kernel_rfl) (fun _ _ _ h => h) (Or.inl ⟨by kernel_rfl, by intro WW hSw; (try dsimp only at hSw); have hL := LW.out _ hSw; obtain ⟨s0, s1, s2, s3⟩ := STAY.out WW hL; go_simp⟩) (by assumption) ?_
  (try simp only [Act.put, List.setIfInBounds_toArray, List.set_cons_zero, List.set_cons_succ])
  refine wpAnyH_take (i := 51) (oi := ⟨some 55, _, _, _, _, _⟩) (v := .pointer (some ⟨gg, 0, none⟩)) rfl (by kernel_rfl) (by kernel_rfl) (by kernel_rfl) (fun _ _ _ h => h) (Or.inl ⟨by kernel_rfl, by intro WW hSw; (try dsimp only at hSw); have hL := LW.out _ hSw; obtain ⟨s0, s1, s2, s3⟩ := STAY.out WW hL; go_simp⟩) (by assumption) ?_
  (try simp only [Act.put, List.setIfInBounds_toArray, List.set_cons_zero, List.set_cons_succ])
  refine wpAnyH_take (i := 52) (oi := ⟨some 56, _, _, _, _, _⟩) (v := .pointer (some ⟨gg, 1, none⟩)) rfl (by kernel_rfl) (by kernel_rfl) (by kernel_rfl) (fun _ _ _ h => h) (Or.inl ⟨by kernel_rfl, by intro WW hSw; (try dsimp only at hSw); have hL := LW.out _ hSw; obtain ⟨s0, s1, s2, s3⟩ := STAY.out WW hL; go_simp⟩) (by assumption) ?_
  (try simp only [Act.put, List.setIfInBounds_toArray, List.set_cons_zero, List.set_cons_succ])
  refine wpAnyH_take (i := 53) (oi := ⟨some 57, _, _, _, _, _⟩) (v := .pointer (some ⟨g, 0, none⟩)) rfl (by kernel_rfl) (by kernel_rfl) (by kernel_rfl) (fun _ _ _ h => h) (Or.inl ⟨by kernel_rfl, by intro WW hSw; (try dsimp only at hSw); have hL := LW.out _ hSw; obtain ⟨s0, s1, s2, s3⟩ := STAY.out WW hL; go_simp⟩) (by assumption) ?_
  (try simp only [Act.put, List.setIfInBounds_toArray, List.set_cons_zero, List.set_cons_succ])
  refine wpAnyH_take (i := 54) (oi := ⟨some 58, _, _, _, _, _⟩) (v := .pointer (some ⟨g, 0, none⟩)) rfl (by kernel_rfl) (by kernel_rfl) (by kernel_rfl) (fun _ _ _ h => h) (Or.inl ⟨by kernel_rfl, by intro WW hSw; (try dsimp only at hSw); have hL := LW.out _ hSw; obtain ⟨s0, s1, s2, s3⟩ := STAY.out WW hL; go_simp⟩) (by assumption) ?_
  (try simp only [Act.put, List.setIfInBounds_toArray, List.set_cons_zero, List.set_cons_succ])
  refine wpAnyH_take (i := 55) (oi := ⟨some 59, _, _, _, _, _⟩) (v := .pointer (some ⟨g, 2, none⟩)) rfl (by kernel_rfl) (by kernel_rfl) (by kernel_rfl) (fun _ _ _ h => h) (Or.inl ⟨by kernel_rfl, by intro WW hSw; (try dsimp only at hSw); have hL := LW.out _ hSw; obtain ⟨s0, s1, s2, s3⟩ := STAY.out WW hL; go_simp⟩) (by assumption) ?_
  (try simp only [Act.put, List.setIfInBounds_toArray, List.set_cons_zero, List.set_cons_succ])
  refine wpAnyH_take (i := 56) (oi := ⟨some 60, _, _, _, _, _⟩) (v := .agg #[.int .u64 (s.ld : Int), .int .u64 (s.st : Int), .int .u64 (s.fl : Int), .int .u64 (s.fe : Int)]) rfl (by kernel_rfl) (by kernel_rfl) (by kernel_rfl) (fun _ _ _ h => h) (Or.inl ⟨by kernel_rfl, by intro WW hSw; (try dsimp only at hSw); have hL := LW.out _ hSw; obtain ⟨s0, s1, s2, s3⟩ := STAY.out WW hL; have q0 : WW.cell? ⟨g, 2, none⟩ = some (.int .u64 (s.ld : Int)) := s3 0 _ rfl; have q1 : WW.cell? ⟨g, 3, none⟩ = some (.int .u64 (s.st : Int)) := s3 1 _ rfl; have q2 : WW.cell? ⟨g, 4, none⟩ = some (.int .u64 (s.fl : Int)) := s3 2 _ rfl; have q3 : WW.cell? ⟨g, 5, none⟩ = some (.int .u64 (s.fe : Int)) := s3 3 _ rfl; go_simp⟩) (by assumption) ?_
  (try simp only [Act.put, List.setIfInBounds_toArray, List.set_cons_zero, List.set_cons_succ])
  refine wpAnyH_one (i := 49) (oi := ⟨some 53, _, _, _, _, _⟩) rfl (by kernel_rfl) (fun K hK => ?_)
  refine step_calls (by rfl) 31 EGS.out [.tmp 52] _ rfl [.pointer (some ⟨y.g, 0, none⟩)] rfl (HST2.out _ LC) ?_
  rintro e x6 ⟨rfl, b6⟩
  have hS6 := FromW.next hHeld b6
  refine ⟨_, rfl, hK _ _ hS6 (fun _ => ?_)⟩
  clear hK K
  have LX6 : FromW w x6 := FromW.next LC b6
  clear LW LC
  have LC := LX6
  have LW := Lib.hid (fun (WW : World) (h : FromW x6 WW) => FromW.next LX6 h)
  clear hHeld
  refine wpAnyH_strong (S' := FromW x6) (fun W h => FromW.next hS6 h) _ _ _ _ ?_
  have hHeld : FromW x6 x6 := FromW.refl _
  clear b6 LX6 hS6
  (try simp only [Act.put, List.setIfInBounds_toArray, List.set_cons_zero, List.set_cons_succ])
  refine wpAnyH_take (i := 57) (oi := ⟨some 61, _, _, _, _, _⟩) (v := .bool false) rfl (by kernel_rfl) (by kernel_rfl) (by kernel_rfl) (fun _ _ _ h => h) (Or.inl ⟨by kernel_rfl, by intro WW hSw; (try dsimp only at hSw); have hL := LW.out _ hSw; obtain ⟨s0, s1, s2, s3⟩ := STAY.out WW hL; have hq := HNST.out WW; go_simp⟩) (by assumption) ?_
  (try simp only [Act.put, List.setIfInBounds_toArray, List.set_cons_zero, List.set_cons_succ])
  refine wpAnyH_take (i := 58) (oi := ⟨some 62, _, _, _, _, _⟩) (v := .bool false) rfl (by kernel_rfl) (by kernel_rfl) (by kernel_rfl) (fun _ _ _ h => h) (Or.inl ⟨by kernel_rfl, by intro WW hSw; (try dsimp only at hSw); have hL := LW.out _ hSw; obtain ⟨s0, s1, s2, s3⟩ := STAY.out WW hL; go_simp⟩) (by assumption) ?_
  (try simp only [Act.put, List.setIfInBounds_toArray, List.set_cons_zero, List.set_cons_succ])
  refine wpAnyH_take (i := 59) (oi := ⟨some 63, _, _, _, _, _⟩) (v := .bool false) rfl (by kernel_rfl) (by kernel_rfl) (by kernel_rfl) (fun _ _ _ h => h) (Or.inl ⟨by kernel_rfl, by intro WW hSw; (try dsimp only at hSw); have hL := LW.out _ hSw; obtain ⟨s0, s1, s2, s3⟩ := STAY.out WW hL; go_simp⟩) (by assumption) ?_
  (try simp only [Act.put, List.setIfInBounds_toArray, List.set_cons_zero, List.set_cons_succ])
  refine wpAnyH_take (i := 60) (oi := ⟨some 64, _, _, _, _, _⟩) (v := .pointer (some ⟨gg, 0, none⟩)) rfl (by kernel_rfl) (by kernel_rfl) (by kernel_rfl) (fun _ _ _ h => h) (Or.inl ⟨by kernel_rfl, by intro WW hSw; (try dsimp only at hSw); have hL := LW.out _ hSw; obtain ⟨s0, s1, s2, s3⟩ := STAY.out WW hL; go_simp⟩) (by assumption) ?_
  (try simp only [Act.put, List.setIfInBounds_toArray, List.set_cons_zero, List.set_cons_succ])
  refine wpAnyH_take (i := 61) (oi := ⟨some 65, _, _, _, _, _⟩) (v := .pointer (some ⟨gg, 0, none⟩)) rfl (by kernel_rfl) (by kernel_rfl) (by kernel_rfl) (fun _ _ _ h => h) (Or.inl ⟨by kernel_rfl, by intro WW hSw; (try dsimp only at hSw); have hL := LW.out _ hSw; obtain ⟨s0, s1, s2, s3⟩ := STAY.out WW hL; go_simp⟩) (by assumption) ?_
  (try simp only [Act.put, List.setIfInBounds_toArray, List.set_cons_zero, List.set_cons_succ])
  refine wpAnyH_take (i := 62) (oi := ⟨some 66, _, _, _, _, _⟩) (v := .pointer (some ⟨gg, 0, none⟩)) rfl (by kernel_rfl) (by kernel_rfl) (by kernel_rfl) (fun _ _ _ h => h) (Or.inl ⟨by kernel_rfl, by intro WW hSw; (try dsimp only at hSw); have hL := LW.out _ hSw; obtain ⟨s0, s1, s2, s3⟩ := STAY.out WW hL; go_simp⟩) (by assumption) ?_
  (try simp only [Act.put, List.setIfInBounds_toArray, List.set_cons_zero, List.set_cons_succ])
  refine wpAnyH_take (i := 63) (oi := ⟨some 67, _, _, _, _, _⟩) (v := .pointer (some ⟨y.g, 0, none⟩)) rfl (by kernel_rfl) (by kernel_rfl) (by kernel_rfl) (fun _ _ _ h => h) (Or.inl ⟨by kernel_rfl, by intro WW hSw; (try dsimp only at hSw); have hL := LW.out _ hSw; obtain ⟨s0, s1, s2, s3⟩ := STAY.out WW hL; go_simp⟩) (by assumption) ?_
  (try simp only [Act.put, List.setIfInBounds_toArray, List.set_cons_zero, List.set_cons_succ])
  refine wpAnyH_take (i := 65) (oi := ⟨some 69, _, _, _, _, _⟩) (v := .pointer (some ⟨gg, 0, none⟩)) rfl (by kernel_rfl) (by kernel_rfl) (by kernel_rfl) (fun _ _ _ h => h) (Or.inl ⟨by kernel_rfl, by intro WW hSw; (try dsimp only at hSw); have hL := LW.out _ hSw; obtain ⟨s0, s1, s2, s3⟩ := STAY.out WW hL; go_simp⟩) (by assumption) ?_
  (try simp only [Act.put, List.setIfInBounds_toArray, List.set_cons_zero, List.set_cons_succ])
  refine wpAnyH_take (i := 66) (oi := ⟨some 70, _, _, _, _, _⟩) (v := .pointer (some ⟨gg, 0, none⟩)) rfl (by kernel_rfl) (by kernel_rfl) (by kernel_rfl) (fun _ _ _ h => h) (Or.inl ⟨by kernel_rfl, by intro WW hSw; (try dsimp only at hSw); have hL := LW.out _ hSw; obtain ⟨s0, s1, s2, s3⟩ := STAY.out WW hL; go_simp⟩) (by assumption) ?_
  (try simp only [Act.put, List.setIfInBounds_toArray, List.set_cons_zero, List.set_cons_succ])
  refine wpAnyH_take (i := 67) (oi := ⟨some 71, _, _, _, _, _⟩) (v := .pointer (some ⟨gg, 1, none⟩)) rfl (by kernel_rfl) (by kernel_rfl) (by kernel_rfl) (fun _ _ _ h => h) (Or.inl ⟨by kernel_rfl, by intro WW hSw; (try dsimp only at hSw); have hL := LW.out _ hSw; obtain ⟨s0, s1, s2, s3⟩ := STAY.out WW hL; go_simp⟩) (by assumption) ?_
  (try simp only [Act.put, List.setIfInBounds_toArray, List.set_cons_zero, List.set_cons_succ])
  refine wpAnyH_take (i := 68) (oi := ⟨some 72, _, _, _, _, _⟩) (v := .pointer (some ⟨g, 0, none⟩)) rfl (by kernel_rfl) (by kernel_rfl) (by kernel_rfl) (fun _ _ _ h => h) (Or.inl ⟨by kernel_rfl, by intro WW hSw; (try dsimp only at hSw); have hL := LW.out _ hSw; obtain ⟨s0, s1, s2, s3⟩ := STAY.out WW hL; go_simp⟩) (by assumption) ?_
  (try simp only [Act.put, List.setIfInBounds_toArray, List.set_cons_zero, List.set_cons_succ])
  refine wpAnyH_one (i := 64) (oi := ⟨some 68, _, _, _, _, _⟩) rfl (by kernel_rfl) (fun K hK => ?_)
  refine step_calls (by rfl) 33 EGL.out [.tmp 67] _ rfl [.pointer (some ⟨y.g, 0, none⟩)] rfl (HLN.out _ LC) ?_
  rintro e x7 ⟨⟨vl1, rfl, ol1⟩, b7⟩
  have OW1 := Lib.hid (fun (WW : World) (h : FromW x7 WW) => own2_same ol1 fun k hk => h.block k (by obtain ⟨cs, hc⟩ := own2_tg ol1 hk; exact (Array.getElem?_eq_some_iff.1 hc).1))
  have hS7 := FromW.next hHeld b7
  refine ⟨_, rfl, hK _ _ hS7 (fun _ => ?_)⟩
  clear hK K
  have LX7 : FromW w x7 := FromW.next LC b7
  clear LW LC
  have LC := LX7
  have LW := Lib.hid (fun (WW : World) (h : FromW x7 WW) => FromW.next LX7 h)
  clear hHeld
  refine wpAnyH_strong (S' := FromW x7) (fun W h => FromW.next hS7 h) _ _ _ _ ?_
  have hHeld : FromW x7 x7 := FromW.refl _
  clear b7 LX7 hS7
  (try simp only [Act.put, List.setIfInBounds_toArray, List.set_cons_zero, List.set_cons_succ])
  refine wpAnyH_one (i := 69) (oi := ⟨some 73, _, _, _, _, _⟩) rfl (by kernel_rfl) (fun K hK => ?_)
  refine step_calls (by rfl) 34 EGL2.out [.tmp 72] _ rfl [.pointer (some ⟨g, 0, none⟩)] rfl (HLN2.out _ LC) ?_
  rintro e x8 ⟨⟨vl2, rfl, ol2⟩, b8⟩
  have OW2 := Lib.hid (OW1.out x8 b8)
  rw [List.length_map] at ol2
  have OL2 := Lib.hid ol2
  have hS8 := FromW.next hHeld b8
  refine ⟨_, rfl, hK _ _ hS8 (fun _ => ?_)⟩
  clear hK K
  have LX8 : FromW w x8 := FromW.next LC b8
  clear LW LC
  have LC := LX8
  have LW := Lib.hid (fun (WW : World) (h : FromW x8 WW) => FromW.next LX8 h)
  clear hHeld
  refine wpAnyH_strong (S' := FromW x8) (fun W h => FromW.next hS8 h) _ _ _ _ ?_
  have hHeld : FromW x8 x8 := FromW.refl _
  clear b8 LX8 hS8
  (try simp only [Act.put, List.setIfInBounds_toArray, List.set_cons_zero, List.set_cons_succ])
  refine wpAnyH_one (i := 70) (oi := ⟨some 74, _, _, _, _, _⟩) rfl (by kernel_rfl) (fun K hK => ?_)
  refine step_calls (by rfl) 32 EGA.out [.tmp 68, .tmp 73] _ rfl [vl1, vl2] rfl (r2Same_own (xs := adr (nz s.pend)) OW2.out OL2.out HNZ.out) ?_
  rintro e x9 ⟨rfl, b9⟩
  have hS9 := FromW.next hHeld b9
  refine ⟨_, rfl, hK _ _ hS9 (fun _ => ?_)⟩
  clear hK K
  have LX9 : FromW w x9 := FromW.next LC b9
  clear LW LC
  have LC := LX9
  have LW := Lib.hid (fun (WW : World) (h : FromW x9 WW) => FromW.next LX9 h)
  clear hHeld
  refine wpAnyH_strong (S' := FromW x9) (fun W h => FromW.next hS9 h) _ _ _ _ ?_
  have hHeld : FromW x9 x9 := FromW.refl _
  clear b9 LX9 hS9
  (try simp only [Act.put, List.setIfInBounds_toArray, List.set_cons_zero, List.set_cons_succ])
  refine wpAnyH_take (i := 71) (oi := ⟨some 75, _, _, _, _, _⟩) (v := .bool false) rfl (by kernel_rfl) (by kernel_rfl) (by kernel_rfl) (fun _ _ _ h => h) (Or.inl ⟨by kernel_rfl, by intro WW hSw; (try dsimp only at hSw); have hL := LW.out _ hSw; obtain ⟨s0, s1, s2, s3⟩ := STAY.out WW hL; go_simp⟩) (by assumption) ?_
  (try simp only [Act.put, List.setIfInBounds_toArray, List.set_cons_zero, List.set_cons_succ])
  refine wpAnyH_take (i := 72) (oi := ⟨some 76, _, _, _, _, _⟩) (v := .bool false) rfl (by kernel_rfl) (by kernel_rfl) (by kernel_rfl) (fun _ _ _ h => h) (Or.inl ⟨by kernel_rfl, by intro WW hSw; (try dsimp only at hSw); have hL := LW.out _ hSw; obtain ⟨s0, s1, s2, s3⟩ := STAY.out WW hL; go_simp⟩) (by assumption) ?_
  (try simp only [Act.put, List.setIfInBounds_toArray, List.set_cons_zero, List.set_cons_succ])
  refine wpAnyH_done (by kernel_rfl) ?_ _
  unfold NoPanic
  have LF := Lib.hid LC
  clear LW LC hHeld
  go_wp2
  go_loopw [3] (fun v wr => ∃ j : Nat, v = .int .i64 ((64 * j : Nat) : Int) ∧ j ≤ s.nl ∧ FromW w wr) (fun v _ => N - (intOf v).toNat)
  case atStart => exact ⟨0, rfl, by omega, LF.out⟩
  case round =>
    obtain ⟨j, rfl, hj, hlow⟩ := hrel
    rename World => wr
    obtain ⟨c0, c1, cf0, _⟩ := STAY.out wr hlow
    obtain ⟨a, ha⟩ : ∃ a, a = 64 * j := ⟨_, rfl⟩
    rw [← ha]
    by_cases hlt : j < s.nl
    · have haN : a < N := by have := HNN.out; omega
      have haI : (a : Int) < (N : Int) := by omega
      have had : decide ((a : Int) < (N : Int)) = true := by simp; omega
      have ha0 : (0 : Int) ≤ (a : Int) := by omega
      have HA2 : Hid ((a : Int) + 64 = ((64 * (j + 1) : Nat) : Int)) := Lib.hid (by omega)
      have hm64 : a % 8 = 0 ∧ a < 64 * s.nl ∧ a / 64 = j := by omega
      have hwu : IntKind.u64.wrap (a : Int) = (a : Int) := by rw [IntKind.wrap_u64]; omega
      obtain ⟨p, hp⟩ : ∃ p, p = (s.pend.getD j []).length := ⟨_, rfl⟩
      have hpp : ((p : Int) != (p : Int)) = false := by simp
      have HP1 := Lib.hid (fun (W : World) (hb : Below w.heap.size w W) => (show Calls Try.prog 19 #[.pointer (some ⟨y.g, 0, none⟩), .int .u64 (a : Int)] W (fun e w' => e = .returned (.int .i64 (p : Int)) ∧ Below W.heap.size W w') from (pending_ok (HG.out.m.below hb) a hm64.1 hm64.2.1).mono (by rintro e w' ⟨rfl, n, rfl⟩; exact ⟨by rw [hm64.2.2, hp], drewN_below _ _⟩)))
      have HP2 := Lib.hid (fun (W : World) (hb : Below w.heap.size w W) => (show Calls Try.prog 35 #[.pointer (some ⟨g, 0, none⟩), .int .u64 (a : Int)] W (fun e w' => e = .returned (.int .i64 (p : Int)) ∧ Below W.heap.size W w') from (r2Pending_any (HG.out.d.below hb) a (by rw [hrn]; omega) (by omega) (fun x hx => by have := (HG.out.rel.ad x hx).2.1; omega)).mono (by rintro e w' ⟨rfl, rfl⟩; exact ⟨by rw [ha, pcnt_line (by rw [hrn]; exact hlt), hp, HG.out.rel.pcount j hlt], Below.refl _ _⟩)))
      have HLW := Lib.hid hlow
      have hN64 := HNN.out
      have hmea : N - (a + 64) < N - a := by omega
      clear hlow ha hm64 hp hN64
      go_upto_region 6 with (fail)
      refine wp_region_noPanic ?_
      refine wp_region_held_drew (S := FromW wr) (by kernel_rfl) (drew_below wr) (fun hHeld => ?_)
      have LC : FromW w wr.drew := FromW.next HLW.out (drew_below wr)
      have LW := Lib.hid (fun (WW : World) (h : FromW wr WW) => FromW.next HLW.out h)
      refine wpAnyH_take (i := 0) (oi := ⟨some 89, _, _, _, _, _⟩) (v := .pointer (some ⟨gg, 0, none⟩)) rfl (by kernel_rfl) (by kernel_rfl) (by kernel_rfl) (fun _ _ _ h => h) (Or.inl ⟨by kernel_rfl, by intro WW hSw; (try dsimp only at hSw); have hL := LW.out _ hSw; obtain ⟨s0, s1, s2, s3⟩ := STAY.out WW hL; go_simp⟩) (by assumption) ?_
      (try simp only [Act.put, List.setIfInBounds_toArray, List.set_cons_zero, List.set_cons_succ])
      refine wpAnyH_take (i := 1) (oi := ⟨some 90, _, _, _, _, _⟩) (v := .pointer (some ⟨gg, 0, none⟩)) rfl (by kernel_rfl) (by kernel_rfl) (by kernel_rfl) (fun _ _ _ h => h) (Or.inl ⟨by kernel_rfl, by intro WW hSw; (try dsimp only at hSw); have hL := LW.out _ hSw; obtain ⟨s0, s1, s2, s3⟩ := STAY.out WW hL; go_simp⟩) (by assumption) ?_
      (try simp only [Act.put, List.setIfInBounds_toArray, List.set_cons_zero, List.set_cons_succ])
      refine wpAnyH_take (i := 2) (oi := ⟨some 91, _, _, _, _, _⟩) (v := .pointer (some ⟨gg, 0, none⟩)) rfl (by kernel_rfl) (by kernel_rfl) (by kernel_rfl) (fun _ _ _ h => h) (Or.inl ⟨by kernel_rfl, by intro WW hSw; (try dsimp only at hSw); have hL := LW.out _ hSw; obtain ⟨s0, s1, s2, s3⟩ := STAY.out WW hL; go_simp⟩) (by assumption) ?_
      (try simp only [Act.put, List.setIfInBounds_toArray, List.set_cons_zero, List.set_cons_succ])
      refine wpAnyH_take (i := 3) (oi := ⟨some 92, _, _, _, _, _⟩) (v := .pointer (some ⟨y.g, 0, none⟩)) rfl (by kernel_rfl) (by kernel_rfl) (by kernel_rfl) (fun _ _ _ h => h) (Or.inl ⟨by kernel_rfl, by intro WW hSw; (try dsimp only at hSw); have hL := LW.out _ hSw; obtain ⟨s0, s1, s2, s3⟩ := STAY.out WW hL; go_simp⟩) (by assumption) ?_
      (try simp only [Act.put, List.setIfInBounds_toArray, List.set_cons_zero, List.set_cons_succ])
      refine wpAnyH_take (i := 4) (oi := ⟨some 93, _, _, _, _, _⟩) (v := .int .i64 (a : Int)) rfl (by kernel_rfl) (by kernel_rfl) (by kernel_rfl) (fun _ _ _ h => h) (Or.inl ⟨by kernel_rfl, by intro WW hSw; (try dsimp only at hSw); have hL := LW.out _ hSw; obtain ⟨s0, s1, s2, s3⟩ := STAY.out WW hL; go_simp⟩) (by assumption) ?_
      (try simp only [Act.put, List.setIfInBounds_toArray, List.set_cons_zero, List.set_cons_succ])
      refine wpAnyH_take (i := 5) (oi := ⟨some 94, _, _, _, _, _⟩) (v := .int .u64 (a : Int)) rfl (by kernel_rfl) (by kernel_rfl) (by kernel_rfl) (fun _ _ _ h => h) (Or.inl ⟨by kernel_rfl, by intro WW hSw; (try dsimp only at hSw); have hL := LW.out _ hSw; obtain ⟨s0, s1, s2, s3⟩ := STAY.out WW hL; go_simp⟩) (by assumption) ?_
      (try simp only [Act.put, List.setIfInBounds_toArray, List.set_cons_zero, List.set_cons_succ])
      refine wpAnyH_take (i := 7) (oi := ⟨some 96, _, _, _, _, _⟩) (v := .pointer (some ⟨gg, 0, none⟩)) rfl (by kernel_rfl) (by kernel_rfl) (by kernel_rfl) (fun _ _ _ h => h) (Or.inl ⟨by kernel_rfl, by intro WW hSw; (try dsimp only at hSw); have hL := LW.out _ hSw; obtain ⟨s0, s1, s2, s3⟩ := STAY.out WW hL; go_simp⟩) (by assumption) ?_
      (try simp only [Act.put, List.setIfInBounds_toArray, List.set_cons_zero, List.set_cons_succ])
      refine wpAnyH_take (i := 8) (oi := ⟨some 97, _, _, _, _, _⟩) (v := .pointer (some ⟨gg, 0, none⟩)) rfl (by kernel_rfl) (by kernel_rfl) (by kernel_rfl) (fun _ _ _ h => h) (Or.inl ⟨by kernel_rfl, by intro WW hSw; (try dsimp only at hSw); have hL := LW.out _ hSw; obtain ⟨s0, s1, s2, s3⟩ := STAY.out WW hL; go_simp⟩) (by assumption) ?_
      (try simp only [Act.put, List.setIfInBounds_toArray, List.set_cons_zero, List.set_cons_succ])
      refine wpAnyH_take (i := 9) (oi := ⟨some 98, _, _, _, _, _⟩) (v := .pointer (some ⟨gg, 1, none⟩)) rfl (by kernel_rfl) (by kernel_rfl) (by kernel_rfl) (fun _ _ _ h => h) (Or.inl ⟨by kernel_rfl, by intro WW hSw; (try dsimp only at hSw); have hL := LW.out _ hSw; obtain ⟨s0, s1, s2, s3⟩ := STAY.out WW hL; go_simp⟩) (by assumption) ?_
      (try simp only [Act.put, List.setIfInBounds_toArray, List.set_cons_zero, List.set_cons_succ])
      refine wpAnyH_take (i := 10) (oi := ⟨some 99, _, _, _, _, _⟩) (v := .pointer (some ⟨g, 0, none⟩)) rfl (by kernel_rfl) (by kernel_rfl) (by kernel_rfl) (fun _ _ _ h => h) (Or.inl ⟨by kernel_rfl, by intro WW hSw; (try dsimp only at hSw); have hL := LW.out _ hSw; obtain ⟨s0, s1, s2, s3⟩ := STAY.out WW hL; go_simp⟩) (by assumption) ?_
      (try simp only [Act.put, List.setIfInBounds_toArray, List.set_cons_zero, List.set_cons_succ])
      refine wpAnyH_take (i := 11) (oi := ⟨some 100, _, _, _, _, _⟩) (v := .int .i64 (a : Int)) rfl (by kernel_rfl) (by kernel_rfl) (by kernel_rfl) (fun _ _ _ h => h) (Or.inl ⟨by kernel_rfl, by intro WW hSw; (try dsimp only at hSw); have hL := LW.out _ hSw; obtain ⟨s0, s1, s2, s3⟩ := STAY.out WW hL; go_simp⟩) (by assumption) ?_
      (try simp only [Act.put, List.setIfInBounds_toArray, List.set_cons_zero, List.set_cons_succ])
      refine wpAnyH_take (i := 12) (oi := ⟨some 101, _, _, _, _, _⟩) (v := .int .u64 (a : Int)) rfl (by kernel_rfl) (by kernel_rfl) (by kernel_rfl) (fun _ _ _ h => h) (Or.inl ⟨by kernel_rfl, by intro WW hSw; (try dsimp only at hSw); have hL := LW.out _ hSw; obtain ⟨s0, s1, s2, s3⟩ := STAY.out WW hL; go_simp⟩) (by assumption) ?_
      (try simp only [Act.put, List.setIfInBounds_toArray, List.set_cons_zero, List.set_cons_succ])
      refine wpAnyH_one (i := 6) (oi := ⟨some 95, _, _, _, _, _⟩) rfl (by kernel_rfl) (fun K hK => ?_)
      refine step_calls (by rfl) 19 EGP1.out [.tmp 92, .tmp 94] _ rfl [.pointer (some ⟨y.g, 0, none⟩), .int .u64 (a : Int)] rfl (HP1.out _ LC) ?_
      rintro e x10 ⟨rfl, b10⟩
      have hS10 := FromW.next hHeld b10
      refine ⟨_, rfl, hK _ _ hS10 (fun _ => ?_)⟩
      clear hK K
      have LX10 : FromW w x10 := FromW.next LC b10
      clear LW LC
      have LC := LX10
      have LW := Lib.hid (fun (WW : World) (h : FromW x10 WW) => FromW.next LX10 h)
      clear hHeld
      refine wpAnyH_strong (S' := FromW x10) (fun W h => FromW.next hS10 h) _ _ _ _ ?_
      have hHeld : FromW x10 x10 := FromW.refl _
      clear b10 LX10 hS10
      (try simp only [Act.put, List.setIfInBounds_toArray, List.set_cons_zero, List.set_cons_succ])
      refine wpAnyH_one (i := 13) (oi := ⟨some 102, _, _, _, _, _⟩) rfl (by kernel_rfl) (fun K hK => ?_)
      refine step_calls (by rfl) 35 EGP2.out [.tmp 99, .tmp 101] _ rfl [.pointer (some ⟨g, 0, none⟩), .int .u64 (a : Int)] rfl (HP2.out _ LC) ?_
      rintro e x11 ⟨rfl, b11⟩
      have hS11 := FromW.next hHeld b11
      refine ⟨_, rfl, hK _ _ hS11 (fun _ => ?_)⟩
      clear hK K
      have LX11 : FromW w x11 := FromW.next LC b11
      clear LW LC
      have LC := LX11
      have LW := Lib.hid (fun (WW : World) (h : FromW x11 WW) => FromW.next LX11 h)
      clear hHeld
      refine wpAnyH_strong (S' := FromW x11) (fun W h => FromW.next hS11 h) _ _ _ _ ?_
      have hHeld : FromW x11 x11 := FromW.refl _
      clear b11 LX11 hS11
      (try simp only [Act.put, List.setIfInBounds_toArray, List.set_cons_zero, List.set_cons_succ])
      refine wpAnyH_take (i := 14) (oi := ⟨some 103, _, _, _, _, _⟩) (v := .bool false) rfl (by kernel_rfl) (by kernel_rfl) (by kernel_rfl) (fun _ _ _ h => h) (Or.inl ⟨by kernel_rfl, by intro WW hSw; (try dsimp only at hSw); have hL := LW.out _ hSw; obtain ⟨s0, s1, s2, s3⟩ := STAY.out WW hL; go_simp⟩) (by assumption) ?_
      (try simp only [Act.put, List.setIfInBounds_toArray, List.set_cons_zero, List.set_cons_succ])
      refine wpAnyH_done (by kernel_rfl) ?_ _
      unfold NoPanic
      have LF2 := Lib.hid LC
      clear LW LC hHeld
      go_wp2
      exact ⟨⟨j + 1, by rw [HA2.out], by omega, LF2.out⟩, by simp [intOf]; omega⟩
    · have hje : j = s.nl := by omega
      have haN : ¬ a < N := by have := HNN.out; omega
      have had : decide ((a : Int) < (N : Int)) = false := by simp; omega
      have HLW := Lib.hid hlow
      clear hlow
      go_wp2
      go_ret
      exact ⟨rfl, HLW.out⟩
end Go.Proofs.Ytkeajfedlhgejaa
