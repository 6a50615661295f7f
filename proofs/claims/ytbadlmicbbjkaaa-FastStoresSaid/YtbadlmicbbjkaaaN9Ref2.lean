/- The document's Delete and Cut: of any node; conditions: numbers of the width. -/
import Derived.Test.YtbadlmicbbjkaaaN9Ref1
namespace Go.Proofs.Ytbadlmicbbjkaaa
open Go.RowKit
set_option linter.unusedVariables false
set_option linter.unusedSimpArgs false
set_option maxRecDepth 100000 in
set_option maxHeartbeats 8000000 in
theorem r9del_any {base : Int} (hb : 0 ≤ base) (n : Nd) (key : Int) (w : World) : Calls Try.prog 30 #[.int .u64 base, n.V, .int .u64 key] w (PutsOut w (delP base n key)) := by
  obtain ⟨i0, hi, hz0, hz1, hz2⟩ := info_parts infoPut
  have r0 := Row.new w 27 n.cl.toArray
  obtain ⟨Wa, hWa⟩ : ∃ Wa, Wa = w.alloc (.cells n.cl.toArray 27) := ⟨_, rfl⟩
  rw [← hWa] at r0
  have hb0 : Below w.heap.size w Wa := by rw [hWa]; exact alloc_low _ _
  have HB0 := Lib.hid hb0
  have HRR := Lib.hid (fun W' (hb : Below Wa.heap.size Wa W') => (show NdAt W' w.heap.size n from r0.below hb r0.lt))
  have HWa := Lib.hid hWa
  have HWs := Lib.hid (show w.heap.size ≤ Wa.heap.size from hb0.size)
  have hl8 := n.len_le
  have hr0 := Below.refl Wa.heap.size Wa
  have HMy := Lib.hid (fun W' => r9may_any hb n W')
  have EGp := Lib.hid (enters_of Try.func38 (by kernel_rfl) rfl)
  have EGa := Lib.hid (enters_of Try.func64 (by kernel_rfl) rfl)
  have EGg := Lib.hid (enters_of Try.func66 (by kernel_rfl) rfl)
  have EGw := Lib.hid (enters_of Try.func65 (by kernel_rfl) rfl)
  have EGi := Lib.hid (enters_of Try.func18 (by kernel_rfl) rfl)
  have HFd0 := Lib.hid (fun W' => r8Find_any n key W')
  have hP : delP base n key = (if refE base n [] ≠ 0 then ([], refE base n []) else match n.find key with | none => ([], 5) | some p => (wholeL base n ((pA base p, n.ahd p) :: dnL base n p (n.len - 1 - p)), 0)) := rfl
  have hbb := fun h => refE_base (b := base) (n := n) (l := []) h
  have hfl := fun p h => find_lt (n := n) (key := key) (p := p) h
  have hfe : fndL n key n.vp = match n.find key with | some p => (p : Int) | none => -1 := rfl
  rw [hfe] at HFd0
  generalize n.find key = f at HFd0 hP hfl
  generalize hR : delP base n key = R at hP ⊢
  generalize refE base n [] = E at HMy hP hbb
  clear r0 hWa hb0 hR hfe
  obtain hE | hE : E ≠ 0 ∨ E = 0 := by omega
  · have HR := Lib.hid (show R = ([], E) by rw [hP, if_pos hE])
    have hEb : (E != 0) = true := by simpa using hE
    clear hP hbb hfl
    go_enter Try.func30, Try.ntmps30
    go_wp2_with (first
      | (rw [← HWa.out]; (refine wpList_load_mid rfl _ _ rfl w.heap.size 0 rfl n.cl _ (ndR (HRR.out _ (by assumption))) Try.underlying27 rfl ndI ?_))
      | (refine wpList_load_mid rfl _ _ rfl w.heap.size 0 rfl n.cl _ (ndR (HRR.out _ (by assumption))) Try.underlying27 rfl ndI ?_)
      | (go_at_call 60; refine (HMy.out _).mono ?_; rintro e w1 ⟨rfl, h1⟩; have h1 := low_and hr0 h1))
    go_ret2
    rw [HR.out]
    exact ⟨⟨_, rfl, World.ownsRow_nil _ _ _ _⟩, low_and HB0.out h1⟩
  · subst hE
    rw [if_neg (by simp)] at hP
    have hbse := hbb rfl
    clear hbb
    cases f with
    | none =>
      have HFd := Lib.hid (fun W' => (HFd0.out W').mono fun e w' h => (show e = .returned (.int .i64 (-1)) ∧ Below W'.heap.size W' w' from h))
      have HR := Lib.hid (show R = ([], 5) from hP)
      clear HFd0 hP hfl
      go_enter Try.func30, Try.ntmps30
      go_wp2_with (first
      | (rw [← HWa.out]; (refine wpList_load_mid rfl _ _ rfl w.heap.size 0 rfl n.cl _ (ndR (HRR.out _ (by assumption))) Try.underlying27 rfl ndI ?_))
      | (refine wpList_load_mid rfl _ _ rfl w.heap.size 0 rfl n.cl _ (ndR (HRR.out _ (by assumption))) Try.underlying27 rfl ndI ?_)
      | (go_at_call 60; refine (HMy.out _).mono ?_; rintro e w1 ⟨rfl, h1⟩; have h1 := low_and hr0 h1)
      | (go_at_call 62; refine (HFd.out _).mono ?_; rintro e w2 ⟨rfl, h2⟩; have h2 := low_and h1 h2))
      go_ret2
      rw [HR.out]
      exact ⟨⟨_, rfl, World.ownsRow_nil _ _ _ _⟩, low_and HB0.out h2⟩
    | some p =>
      have HFd := Lib.hid (fun W' => (HFd0.out W').mono fun e w' h => (show e = .returned (.int .i64 (p : Int)) ∧ Below W'.heap.size W' w' from h))
      have hpl := hfl p rfl
      have hp0 : ¬ (p : Int) < 0 := by omega
      have HR := Lib.hid (show R = (wholeL base n ((pA base p, n.ahd p) :: dnL base n p (n.len - 1 - p)), 0) from hP)
      have HPt := Lib.hid (fun W => pt_any hbse (i := p) (by omega) W)
      have HAh := Lib.hid (fun W' => r9ahead_any n (p := p) (by omega) W')
      have hdl := dnL_len base n (n.len - 1 - p) p
      have HG := Lib.hid (fun W' => gap_any hbse n hpl W')
      have HLit := Lib.hid (fun W' => (show EntAt (W'.alloc (.cells #[.int .u64 (pA base p), .int .u64 (n.ahd p)] 45)) (.slice (some ⟨W'.heap.size, 0, none⟩) 1 1) [(pA base p, n.ahd p)] from ent_lit W' 45 [(pA base p, n.ahd p)] (by simp)))
      generalize dnL base n p (n.len - 1 - p) = D at HR HG hdl
      generalize n.ahd p = ah at HR HAh HLit
      have HWh := Lib.hid (fun W' v (h : EntAt W' v ((pA base p, ah) :: D)) => whole_any hbse n h (by simp) (by simp; omega))
      clear HFd0 hP hfl
      go_enter Try.func30, Try.ntmps30
      go_wp2_with (first
      | (rw [← HWa.out]; (refine wpList_load_mid rfl _ _ rfl w.heap.size 0 rfl n.cl _ (ndR (HRR.out _ (by assumption))) Try.underlying27 rfl ndI ?_))
      | (refine wpList_load_mid rfl _ _ rfl w.heap.size 0 rfl n.cl _ (ndR (HRR.out _ (by assumption))) Try.underlying27 rfl ndI ?_)
      | (go_at_call 60; refine (HMy.out _).mono ?_; rintro e w1 ⟨rfl, h1⟩; have h1 := low_and hr0 h1)
      | (go_at_call 62; refine (HFd.out _).mono ?_; rintro e w2 ⟨rfl, h2⟩; have h2 := low_and h1 h2))
      refine wp_region_held_drew (S := fun W' => Below Wa.heap.size Wa W') (by kernel_rfl) (low_and h2 (drew_low9 _)) (fun hHeld => ?_)
      refine wpAnyH_take (i := 0) (oi := ⟨some 22, _, _, _, _, _⟩) (v := .int .u64 base) rfl (by kernel_rfl) (by kernel_rfl) (by kernel_rfl) (fun _ _ _ h => h) (Or.inl ⟨by rfl, by intro WW hSw; (try dsimp only at hSw); go_simp⟩) (by assumption) ?_
      (try simp only [Act.put, List.setIfInBounds_toArray, List.set_cons_zero, List.set_cons_succ])
      refine wpAnyH_take (i := 1) (oi := ⟨some 23, _, _, _, _, _⟩) (v := .int .i64 (p : Int)) rfl (by kernel_rfl) (by kernel_rfl) (by kernel_rfl) (fun _ _ _ h => h) (Or.inl ⟨by rfl, by intro WW hSw; (try dsimp only at hSw); go_simp⟩) (by assumption) ?_
      (try simp only [Act.put, List.setIfInBounds_toArray, List.set_cons_zero, List.set_cons_succ])
      refine wpAnyH_take (i := 3) (oi := ⟨some 25, _, _, _, _, _⟩) (v := .agg n.cl.toArray) rfl (by kernel_rfl) (by kernel_rfl) (by kernel_rfl) (fun _ _ _ h => h) (yieldsIf_load_mid (by rfl) _ _ rfl w.heap.size 0 rfl n.cl _ (fun w' hw' => ndR (HRR.out _ hw')) Try.underlying27 rfl ndI) (by assumption) ?_
      (try simp only [Act.put, List.setIfInBounds_toArray, List.set_cons_zero, List.set_cons_succ])
      refine wpAnyH_take (i := 4) (oi := ⟨some 26, _, _, _, _, _⟩) (v := .int .i64 (p : Int)) rfl (by kernel_rfl) (by kernel_rfl) (by kernel_rfl) (fun _ _ _ h => h) (Or.inl ⟨by rfl, by intro WW hSw; (try dsimp only at hSw); go_simp⟩) (by assumption) ?_
      (try simp only [Act.put, List.setIfInBounds_toArray, List.set_cons_zero, List.set_cons_succ])
      refine wpAnyH_one (i := 2) (oi := ⟨some 24, _, _, _, _, _⟩) rfl (by kernel_rfl) (fun K hK => ?_)
      refine step_calls (by rfl) 38 EGp.out [.tmp 22, .tmp 23] _ rfl [.int .u64 base, .int .i64 (p : Int)] rfl (HPt.out _) ?_
      rintro e w3 ⟨rfl, rfl⟩
      refine ⟨_, rfl, hK _ _ (hHeld) (fun hSn => ?_)⟩
      clear hK K
      (try simp only [Act.put, List.setIfInBounds_toArray, List.set_cons_zero, List.set_cons_succ])
      refine wpAnyH_one (i := 5) (oi := ⟨some 27, _, _, _, _, _⟩) rfl (by kernel_rfl) (fun K hK => ?_)
      refine step_calls (by rfl) 64 EGa.out [.tmp 25, .tmp 26] _ rfl [n.V, .int .i64 (p : Int)] rfl (HAh.out _) ?_
      rintro e w3 ⟨rfl, h3⟩
      have g3 := low_and hHeld h3
      refine ⟨_, rfl, hK _ _ (low_and hHeld h3) (fun hSn => ?_)⟩
      clear hK K
      (try simp only [Act.put, List.setIfInBounds_toArray, List.set_cons_zero, List.set_cons_succ])
      refine wpAnyH_take (i := 6) (oi := ⟨some 28, _, _, _, _, _⟩) (v := .agg #[.int .u64 (pA base p), .int .u64 ah]) rfl (by kernel_rfl) (by kernel_rfl) (by kernel_rfl) (fun _ _ _ h => h) (Or.inl ⟨by rfl, by intro WW hSw; (try dsimp only at hSw); go_simp⟩) (by assumption) ?_
      (try simp only [Act.put, List.setIfInBounds_toArray, List.set_cons_zero, List.set_cons_succ])
      refine wpAnyH_one (i := 7) (oi := ⟨some 29, _, _, _, _, _⟩) rfl (by kernel_rfl) (fun K hK => ?_)
      rw [if_pos (by rfl)]
      unfold Oper.wp
      go_simp
      refine hK _ _ (low_and g3 (alloc_low _ _)) (fun hSn => ?_)
      clear hK K
      (try simp only [Act.put, List.setIfInBounds_toArray, List.set_cons_zero, List.set_cons_succ])
      refine wpAnyH_take (i := 8) (oi := ⟨some 10, _, _, _, _, _⟩) (v := .slice (some ⟨w3.heap.size, 0, none⟩) 1 1) rfl (by kernel_rfl) (by kernel_rfl) (by kernel_rfl) (fun _ _ _ h => h) (Or.inl ⟨by rfl, by intro WW hSw; (try dsimp only at hSw); go_simp⟩) (by assumption) ?_
      (try simp only [Act.put, List.setIfInBounds_toArray, List.set_cons_zero, List.set_cons_succ])
      refine wpAnyH_done (by kernel_rfl) ?_ _
      have HL3 : w3.heap.size = w3.heap.size := rfl
      have HO3 : (w3.alloc (.cells #[.int .u64 (pA base p), .int .u64 ah] 45)).ownsRow Wa.heap.size 45 2 (.slice (some ⟨w3.heap.size, 0, none⟩) 1 1) 1 [.int .u64 (pA base p), .int .u64 ah] := ownS_mono (own_made 45 [.int .u64 (pA base p), .int .u64 ah] (by simp) (Nat.le_refl _) (by unfold maxLen; omega)) g3.size
      obtain ⟨w4, hw4⟩ : ∃ w4, w4 = w3.alloc (.cells #[.int .u64 (pA base p), .int .u64 ah] 45) := ⟨_, rfl⟩
      rw [← hw4] at HO3 ⊢
      have g4 : Below Wa.heap.size Wa w4 := by rw [hw4]; exact low_and g3 (alloc_low _ _)
      have HO4 := Lib.hid HO3
      clear HO3 hw4 HL3
      go_wp2
      refine wp_region_held_drew (S := fun W' => Below Wa.heap.size Wa W') (by kernel_rfl) (low_and g4 (drew_low9 _)) (fun hHeld2 => ?_)
      refine wpAnyH_take (i := 0) (oi := ⟨some 30, _, _, _, _, _⟩) (v := .int .u64 base) rfl (by kernel_rfl) (by kernel_rfl) (by kernel_rfl) (fun _ _ _ h => h) (Or.inl ⟨by rfl, by intro WW hSw; (try dsimp only at hSw); go_simp⟩) (by assumption) ?_
      (try simp only [Act.put, List.setIfInBounds_toArray, List.set_cons_zero, List.set_cons_succ])
      refine wpAnyH_take (i := 1) (oi := ⟨some 31, _, _, _, _, _⟩) (v := .agg n.cl.toArray) rfl (by kernel_rfl) (by kernel_rfl) (by kernel_rfl) (fun _ _ _ h => h) (yieldsIf_load_mid (by rfl) _ _ rfl w.heap.size 0 rfl n.cl _ (fun w' hw' => ndR (HRR.out _ hw')) Try.underlying27 rfl ndI) (by assumption) ?_
      (try simp only [Act.put, List.setIfInBounds_toArray, List.set_cons_zero, List.set_cons_succ])
      refine wpAnyH_take (i := 2) (oi := ⟨some 32, _, _, _, _, _⟩) (v := .slice (some ⟨w3.heap.size, 0, none⟩) 1 1) rfl (by kernel_rfl) (by kernel_rfl) (by kernel_rfl) (fun _ _ _ h => h) (Or.inl ⟨by rfl, by intro WW hSw; (try dsimp only at hSw); go_simp⟩) (by assumption) ?_
      (try simp only [Act.put, List.setIfInBounds_toArray, List.set_cons_zero, List.set_cons_succ])
      refine wpAnyH_take (i := 3) (oi := ⟨some 33, _, _, _, _, _⟩) (v := .int .u64 base) rfl (by kernel_rfl) (by kernel_rfl) (by kernel_rfl) (fun _ _ _ h => h) (Or.inl ⟨by rfl, by intro WW hSw; (try dsimp only at hSw); go_simp⟩) (by assumption) ?_
      (try simp only [Act.put, List.setIfInBounds_toArray, List.set_cons_zero, List.set_cons_succ])
      refine wpAnyH_take (i := 4) (oi := ⟨some 34, _, _, _, _, _⟩) (v := .agg n.cl.toArray) rfl (by kernel_rfl) (by kernel_rfl) (by kernel_rfl) (fun _ _ _ h => h) (yieldsIf_load_mid (by rfl) _ _ rfl w.heap.size 0 rfl n.cl _ (fun w' hw' => ndR (HRR.out _ hw')) Try.underlying27 rfl ndI) (by assumption) ?_
      (try simp only [Act.put, List.setIfInBounds_toArray, List.set_cons_zero, List.set_cons_succ])
      refine wpAnyH_take (i := 5) (oi := ⟨some 35, _, _, _, _, _⟩) (v := .int .i64 (p : Int)) rfl (by kernel_rfl) (by kernel_rfl) (by kernel_rfl) (fun _ _ _ h => h) (Or.inl ⟨by rfl, by intro WW hSw; (try dsimp only at hSw); go_simp⟩) (by assumption) ?_
      (try simp only [Act.put, List.setIfInBounds_toArray, List.set_cons_zero, List.set_cons_succ])
      refine wpAnyH_one (i := 6) (oi := ⟨some 36, _, _, _, _, _⟩) rfl (by kernel_rfl) (fun K hK => ?_)
      refine step_calls (by rfl) 66 EGg.out [.tmp 33, .tmp 34, .tmp 35] _ rfl [.int .u64 base, n.V, .int .i64 (p : Int)] rfl (HG.out _) ?_
      rintro e w5 ⟨⟨v5, rfl, ho5⟩, h5⟩
      have g5 := low_and hHeld2 h5
      obtain ⟨b5, c5, rfl, hc5⟩ := own_slice ho5 (by omega)
      have HC5 := Lib.hid hc5
      have HO5 := Lib.hid (ownS_low HO4.out (low_and (drew_low9 _) h5))
      clear ho5 hc5
      refine ⟨_, rfl, hK _ _ (low_and hHeld2 h5) (fun hSn => ?_)⟩
      clear hK K
      (try simp only [Act.put, List.setIfInBounds_toArray, List.set_cons_zero, List.set_cons_succ])
      refine wpAnyH_one (i := 7) (oi := ⟨some 37, _, _, _, _, _⟩) rfl (by kernel_rfl) (fun K hK => ?_)
      refine step_append_lies _ (by rfl) (.tmp 32) (.tmp 36) _ (by rfl) Wa.heap.size 45 i0 (.agg #[.int .u64 0, .int .u64 0]) 2 16 rfl hi hz0 hz1 hz2 rfl (by decide) _ 1 _ (by rfl) HO5.out ⟨b5, 0, none⟩ D.length c5 (flatE D) (by rfl) (by rw [flatE_len]; omega) HC5.out (flatE_ones D) (by omega) (by unfold maxLen; omega) (by omega) g5.size w5.heap.size rfl ?_
      intro b6 c6 w6 hown6 hgrow6 hsm6 hlt6
      have g6 : Below Wa.heap.size Wa w6 := g5.grown hgrow6 g5.size (fun j hj => (ownS_from HO5.out j hj).1)
      have h6 : w6.ownsRow Wa.heap.size 45 2 (.slice (some ⟨b6, 0, none⟩) (1 + D.length) c6) ((pA base p, ah) :: D).length (flatE ((pA base p, ah) :: D)) := by
        rw [List.length_cons, Nat.add_comm D.length 1]
        exact hown6
      have HE6 := Lib.hid (ent_ownG h6)
      clear hown6 hgrow6 hsm6 hlt6 h6
      refine hK _ _ g6 (fun hSn => ?_)
      clear hK K
      (try simp only [Act.put, List.setIfInBounds_toArray, List.set_cons_zero, List.set_cons_succ])
      refine wpAnyH_one (i := 8) (oi := ⟨some 38, _, _, _, _, _⟩) rfl (by kernel_rfl) (fun K hK => ?_)
      refine step_calls (by rfl) 65 EGw.out [.tmp 30, .tmp 31, .tmp 37] _ rfl [.int .u64 base, n.V, .slice (some ⟨b6, 0, none⟩) (1 + D.length) c6] rfl (HWh.out _ _ HE6.out) ?_
      rintro e w7 ⟨⟨v7, rfl, ho7⟩, h7⟩
      have g7 := low_and g6 h7
      have HO7 := Lib.hid (ownS_mono ho7 (show w.heap.size ≤ w6.heap.size from Nat.le_trans HWs.out g6.size))
      clear ho7
      refine ⟨_, rfl, hK _ _ (low_and g6 h7) (fun hSn => ?_)⟩
      clear hK K
      (try simp only [Act.put, List.setIfInBounds_toArray, List.set_cons_zero, List.set_cons_succ])
      refine wpAnyH_take (i := 9) (oi := ⟨some 6, _, _, _, _, _⟩) (v := v7) rfl (by kernel_rfl) (by kernel_rfl) (by kernel_rfl) (fun _ _ _ h => h) (Or.inl ⟨by rfl, by intro WW hSw; (try dsimp only at hSw); go_simp⟩) (by assumption) ?_
      (try simp only [Act.put, List.setIfInBounds_toArray, List.set_cons_zero, List.set_cons_succ])
      refine wpAnyH_take (i := 10) (oi := ⟨some 7, _, _, _, _, _⟩) (v := .int .i64 0) rfl (by kernel_rfl) (by kernel_rfl) (by kernel_rfl) (fun _ _ _ h => h) (Or.inl ⟨by rfl, by intro WW hSw; (try dsimp only at hSw); go_simp⟩) (by assumption) ?_
      (try simp only [Act.put, List.setIfInBounds_toArray, List.set_cons_zero, List.set_cons_succ])
      refine wpAnyH_done (by kernel_rfl) ?_ _
      go_wp2
      go_ret2
      rw [HR.out]
      exact ⟨⟨_, rfl, HO7.out⟩, low_and HB0.out g7⟩
end Go.Proofs.Ytbadlmicbbjkaaa
