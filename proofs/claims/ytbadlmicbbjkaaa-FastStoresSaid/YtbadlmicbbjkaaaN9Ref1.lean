/- The document's Delete, Repair, Swap, Cut, Link: of any node; conditions: numbers of the width. -/
import Derived.Test.YtbadlmicbbjkaaaN9Wh
import Derived.Test.YtbadlmicbbjkaaaN9Same
import Derived.Test.YtbadlmicbbjkaaaN8RefL
import Derived.Test.YtbadlmicbbjkaaaN9Known
namespace Go.Proofs.Ytbadlmicbbjkaaa
open Go.RowKit
set_option linter.unusedVariables false
theorem refE_had (b : Int) (n : Nd) (p : Int) : refE b n [p] = if refE b n [] = 2 ∨ n.had p = true then 2 else refE b n [] := by
  rw [refE_cases, refE_cases]
  generalize (bOk b && n.may 0 false) = c
  by_cases hi : 0 ≤ n.inv <;> cases c <;> cases h : n.had p <;> simp [h, hi]
theorem refE_vals (b : Int) (n : Nd) : refE b n [] = 0 ∨ refE b n [] = 2 ∨ refE b n [] = 7 := by
  rw [refE_cases]
  generalize (bOk b && n.may 0 false) = c
  by_cases hi : 0 ≤ n.inv <;> cases c <;> simp [hi]
theorem own_slice {w : World} {B n s : Nat} {e : TypeId} {v : Value} {xs : List Value} (h : w.ownsRow B e s v n xs) (hn : 0 < n) : ∃ g cap, v = .slice (some ⟨g, 0, none⟩) n cap ∧ ∀ j u, xs[j]? = some u → w.cell? ((⟨g, 0, none⟩ : Addr).add j) = some u := by
  rcases h.2 with ⟨rfl, h0⟩ | ⟨g, cap, cur, rfl, _⟩
  · omega
  · exact ⟨g, cap, rfl, h.cells (g := g) rfl⟩
set_option maxRecDepth 100000 in
set_option maxHeartbeats 8000000 in
theorem r9link_any {base : Int} (hb : 0 ≤ base) (n : Nd) (next : Int) (w : World) : Calls Try.prog 34 #[.int .u64 base, n.V, .int .u64 next] w (PutsOut w (linkP base n next)) := by
  obtain ⟨i0, hi, hz0, hz1, hz2⟩ := info_parts infoPut
  have r0 := Row.new w 27 n.cl.toArray
  obtain ⟨Wa, hWa⟩ : ∃ Wa, Wa = w.alloc (.cells n.cl.toArray 27) := ⟨_, rfl⟩
  rw [← hWa] at r0
  have hb0 : Below w.heap.size w Wa := by rw [hWa]; exact alloc_low _ _
  have HB0 := Lib.hid hb0
  have HRR := Lib.hid (fun W' (hb : Below Wa.heap.size Wa W') => (show NdAt W' w.heap.size n from r0.below hb r0.lt))
  have HWa := Lib.hid hWa
  have HWs := Lib.hid (show w.heap.size ≤ Wa.heap.size from hb0.size)
  have hl8 := n.len_le
  have hr0 := Below.refl Wa.heap.size Wa
  have HMy := Lib.hid (fun W' => r9may_any hb n W')
  have EGp := Lib.hid (enters_of Try.func38 (by kernel_rfl) rfl)
  have EGa := Lib.hid (enters_of Try.func64 (by kernel_rfl) rfl)
  have EGg := Lib.hid (enters_of Try.func66 (by kernel_rfl) rfl)
  have EGw := Lib.hid (enters_of Try.func65 (by kernel_rfl) rfl)
  have EGi := Lib.hid (enters_of Try.func18 (by kernel_rfl) rfl)
  have hP : linkP base n next = (if refE base n [] ≠ 0 then ([], refE base n []) else (wholeL base n [(base + 16, next)], 0)) := rfl
  have hbb := fun h => refE_base (b := base) (n := n) (l := []) h
  generalize hR : linkP base n next = R at hP ⊢
  generalize refE base n [] = E at HMy hP hbb
  clear r0 hWa hb0 hR
  obtain hE | hE : E ≠ 0 ∨ E = 0 := by omega
  · have HR := Lib.hid (show R = ([], E) by rw [hP, if_pos hE])
    have hEb : (E != 0) = true := by simpa using hE
    clear hP hbb
    go_enter Try.func34, Try.ntmps34
    go_wp2_with (first
      | (rw [← HWa.out]; (refine wpList_load_mid rfl _ _ rfl w.heap.size 0 rfl n.cl _ (ndR (HRR.out _ (by assumption))) Try.underlying27 rfl ndI ?_))
      | (refine wpList_load_mid rfl _ _ rfl w.heap.size 0 rfl n.cl _ (ndR (HRR.out _ (by assumption))) Try.underlying27 rfl ndI ?_)
      | (go_at_call 60; refine (HMy.out _).mono ?_; rintro e w1 ⟨rfl, h1⟩; have h1 := low_and hr0 h1))
    go_ret2
    rw [HR.out]
    exact ⟨⟨_, rfl, World.ownsRow_nil _ _ _ _⟩, low_and HB0.out h1⟩
  · subst hE
    rw [if_neg (by simp)] at hP
    have hbse := hbb rfl
    have HR := Lib.hid hP
    have hw16 : IntKind.u64.wrap (base + 16) = base + 16 := by rw [IntKind.wrap_u64]; omega
    have HWh := Lib.hid (fun W' v (h : EntAt W' v [(base + 16, next)]) => whole_any hbse n h (by simp) (by simp))
    have HLit := Lib.hid (fun W' => (show EntAt (W'.alloc (.cells #[.int .u64 (base + 16), .int .u64 next] 45)) (.slice (some ⟨W'.heap.size, 0, none⟩) 1 1) [(base + 16, next)] from ent_lit W' 45 [(base + 16, next)] (by simp)))
    clear hP hbb
    go_enter Try.func34, Try.ntmps34
    go_wp2_with (first
      | (rw [← HWa.out]; (refine wpList_load_mid rfl _ _ rfl w.heap.size 0 rfl n.cl _ (ndR (HRR.out _ (by assumption))) Try.underlying27 rfl ndI ?_))
      | (refine wpList_load_mid rfl _ _ rfl w.heap.size 0 rfl n.cl _ (ndR (HRR.out _ (by assumption))) Try.underlying27 rfl ndI ?_)
      | (go_at_call 60; refine (HMy.out _).mono ?_; rintro e w1 ⟨rfl, h1⟩; have h1 := low_and hr0 h1)
      | (go_at_call 65; refine (HWh.out _ _ (HLit.out w1)).mono ?_; rintro e w5 ⟨⟨v5, rfl, ho5⟩, h5⟩; have h5 := low_and h1 (low_and (alloc_low _ _) h5)))
    go_ret2
    rw [HR.out]
    have hs := (low_and HB0.out h1).size
    exact ⟨⟨_, rfl, ownS_mono ho5 (by simp; omega)⟩, low_and HB0.out h5⟩
set_option maxRecDepth 100000 in
set_option maxHeartbeats 8000000 in
theorem r9rep_any {base : Int} (hb : 0 ≤ base) (n : Nd) (w : World) : Calls Try.prog 31 #[.int .u64 base, n.V] w (PutsOut w (repP base n)) := by
  obtain ⟨i0, hi, hz0, hz1, hz2⟩ := info_parts infoPut
  have r0 := Row.new w 27 n.cl.toArray
  obtain ⟨Wa, hWa⟩ : ∃ Wa, Wa = w.alloc (.cells n.cl.toArray 27) := ⟨_, rfl⟩
  rw [← hWa] at r0
  have hb0 : Below w.heap.size w Wa := by rw [hWa]; exact alloc_low _ _
  have HB0 := Lib.hid hb0
  have HRR := Lib.hid (fun W' (hb : Below Wa.heap.size Wa W') => (show NdAt W' w.heap.size n from r0.below hb r0.lt))
  have HWa := Lib.hid hWa
  have HWs := Lib.hid (show w.heap.size ≤ Wa.heap.size from hb0.size)
  have hl8 := n.len_le
  have hr0 := Below.refl Wa.heap.size Wa
  have HMy := Lib.hid (fun W' => r9may_any hb n W')
  have EGp := Lib.hid (enters_of Try.func38 (by kernel_rfl) rfl)
  have EGa := Lib.hid (enters_of Try.func64 (by kernel_rfl) rfl)
  have EGg := Lib.hid (enters_of Try.func66 (by kernel_rfl) rfl)
  have EGw := Lib.hid (enters_of Try.func65 (by kernel_rfl) rfl)
  have EGi := Lib.hid (enters_of Try.func18 (by kernel_rfl) rfl)
  have HI := Lib.hid (fun W' => r8Inv_any n W')
  have hP : repP base n = (if (bOk base && n.may 0 false) = true then (if n.inv < 0 then ([], 7) else (wholeL base n (dnL base n n.inv.toNat (n.len - 1 - n.inv.toNat)), 0)) else ([], 2)) := rfl
  have hE : refE base n [] = if (bOk base && n.may 0 false) = true then (if 0 ≤ n.inv then 7 else 0) else 2 := by rw [refE_cases]; simp
  have hbo := bOk_iff base
  generalize hR : repP base n = R at hP ⊢
  obtain ⟨c, hc⟩ : ∃ c, c = (bOk base && n.may 0 false) := ⟨_, rfl⟩
  have hbs : c = true → 0 ≤ base ∧ base ≤ 1099511627776 := fun h => by
    rw [h] at hc
    have h2 : bOk base = true := by cases hq : bOk base <;> simp [hq] at hc ⊢
    have := hbo.1 h2
    omega
  rw [← hc] at hP hE
  generalize refE base n [] = E at HMy hE
  clear r0 hWa hb0 hR hbo hc
  cases c with
  | false =>
    have HR := Lib.hid (show R = ([], 2) by rw [hP]; rfl)
    have hE2 : E = 2 := hE
    subst hE2
    clear hP hE hbs
    go_enter Try.func31, Try.ntmps31
    go_wp2_with (first
      | (rw [← HWa.out]; (refine wpList_load_mid rfl _ _ rfl w.heap.size 0 rfl n.cl _ (ndR (HRR.out _ (by assumption))) Try.underlying27 rfl ndI ?_))
      | (refine wpList_load_mid rfl _ _ rfl w.heap.size 0 rfl n.cl _ (ndR (HRR.out _ (by assumption))) Try.underlying27 rfl ndI ?_)
      | (go_at_call 60; refine (HMy.out _).mono ?_; rintro e w1 ⟨rfl, h1⟩; have h1 := low_and hr0 h1))
    go_ret2
    rw [HR.out]
    exact ⟨⟨_, rfl, World.ownsRow_nil _ _ _ _⟩, low_and HB0.out h1⟩
  | true =>
    have hbse := hbs rfl
    rw [if_pos rfl] at hP hE
    clear hbs
    obtain hi2 | hi2 : n.inv < 0 ∨ ¬ n.inv < 0 := by omega
    · have HR := Lib.hid (show R = ([], 7) by rw [hP, if_pos hi2])
      rw [if_neg (by omega)] at hE
      subst hE
      clear hP
      go_enter Try.func31, Try.ntmps31
      go_wp2_with (first
      | (rw [← HWa.out]; (refine wpList_load_mid rfl _ _ rfl w.heap.size 0 rfl n.cl _ (ndR (HRR.out _ (by assumption))) Try.underlying27 rfl ndI ?_))
      | (refine wpList_load_mid rfl _ _ rfl w.heap.size 0 rfl n.cl _ (ndR (HRR.out _ (by assumption))) Try.underlying27 rfl ndI ?_)
      | (go_at_call 60; refine (HMy.out _).mono ?_; rintro e w1 ⟨rfl, h1⟩; have h1 := low_and hr0 h1))
      go_ret2
      rw [HR.out]
      exact ⟨⟨_, rfl, World.ownsRow_nil _ _ _ _⟩, low_and HB0.out h1⟩
    · rw [if_neg hi2] at hP
      rw [if_pos (by omega)] at hE
      subst hE
      obtain ⟨p, hp, hpl⟩ := inv_lt hi2
      rw [hp, Int.toNat_natCast] at hP
      rw [hp] at HI
      clear hi2 hp
      have HR := Lib.hid hP
      have HG := Lib.hid (fun W' => gap_any hbse n hpl W')
      have hdl := dnL_len base n (n.len - 1 - p) p
      generalize dnL base n p (n.len - 1 - p) = D at HR HG hdl
      have HWh := Lib.hid (fun W' v (h : EntAt W' v D) => whole_any hbse n h (by omega) (by omega))
      clear hP
      go_enter Try.func31, Try.ntmps31
      go_wp2_with (first
      | (rw [← HWa.out]; (refine wpList_load_mid rfl _ _ rfl w.heap.size 0 rfl n.cl _ (ndR (HRR.out _ (by assumption))) Try.underlying27 rfl ndI ?_))
      | (refine wpList_load_mid rfl _ _ rfl w.heap.size 0 rfl n.cl _ (ndR (HRR.out _ (by assumption))) Try.underlying27 rfl ndI ?_)
      | (go_at_call 60; refine (HMy.out _).mono ?_; rintro e w1 ⟨rfl, h1⟩; have h1 := low_and hr0 h1))
      refine wp_region_held_drew (S := fun W' => Below Wa.heap.size Wa W') (by kernel_rfl) (low_and h1 (drew_low9 _)) (fun hHeld => ?_)
      refine wpAnyH_take (i := 0) (oi := ⟨some 14, _, _, _, _, _⟩) (v := .int .u64 base) rfl (by kernel_rfl) (by kernel_rfl) (by kernel_rfl) (fun _ _ _ h => h) (Or.inl ⟨by rfl, by intro WW hSw; (try dsimp only at hSw); go_simp⟩) (by assumption) ?_
      (try simp only [Act.put, List.setIfInBounds_toArray, List.set_cons_zero, List.set_cons_succ])
      refine wpAnyH_take (i := 1) (oi := ⟨some 15, _, _, _, _, _⟩) (v := .agg n.cl.toArray) rfl (by kernel_rfl) (by kernel_rfl) (by kernel_rfl) (fun _ _ _ h => h) (yieldsIf_load_mid (by rfl) _ _ rfl w.heap.size 0 rfl n.cl _ (fun w' hw' => ndR (HRR.out _ hw')) Try.underlying27 rfl ndI) (by assumption) ?_
      (try simp only [Act.put, List.setIfInBounds_toArray, List.set_cons_zero, List.set_cons_succ])
      refine wpAnyH_take (i := 2) (oi := ⟨some 16, _, _, _, _, _⟩) (v := .int .u64 base) rfl (by kernel_rfl) (by kernel_rfl) (by kernel_rfl) (fun _ _ _ h => h) (Or.inl ⟨by rfl, by intro WW hSw; (try dsimp only at hSw); go_simp⟩) (by assumption) ?_
      (try simp only [Act.put, List.setIfInBounds_toArray, List.set_cons_zero, List.set_cons_succ])
      refine wpAnyH_take (i := 3) (oi := ⟨some 17, _, _, _, _, _⟩) (v := .agg n.cl.toArray) rfl (by kernel_rfl) (by kernel_rfl) (by kernel_rfl) (fun _ _ _ h => h) (yieldsIf_load_mid (by rfl) _ _ rfl w.heap.size 0 rfl n.cl _ (fun w' hw' => ndR (HRR.out _ hw')) Try.underlying27 rfl ndI) (by assumption) ?_
      (try simp only [Act.put, List.setIfInBounds_toArray, List.set_cons_zero, List.set_cons_succ])
      refine wpAnyH_take (i := 4) (oi := ⟨some 18, _, _, _, _, _⟩) (v := .agg n.cl.toArray) rfl (by kernel_rfl) (by kernel_rfl) (by kernel_rfl) (fun _ _ _ h => h) (yieldsIf_load_mid (by rfl) _ _ rfl w.heap.size 0 rfl n.cl _ (fun w' hw' => ndR (HRR.out _ hw')) Try.underlying27 rfl ndI) (by assumption) ?_
      (try simp only [Act.put, List.setIfInBounds_toArray, List.set_cons_zero, List.set_cons_succ])
      refine wpAnyH_one (i := 5) (oi := ⟨some 19, _, _, _, _, _⟩) rfl (by kernel_rfl) (fun K hK => ?_)
      refine step_calls (by rfl) 18 EGi.out [.tmp 18] _ rfl [n.V] rfl (HI.out _) ?_
      rintro e w2 ⟨rfl, h2⟩
      have g2 := low_and hHeld h2
      refine ⟨_, rfl, hK _ _ (low_and hHeld h2) (fun hSn => ?_)⟩
      clear hK K
      (try simp only [Act.put, List.setIfInBounds_toArray, List.set_cons_zero, List.set_cons_succ])
      refine wpAnyH_one (i := 6) (oi := ⟨some 20, _, _, _, _, _⟩) rfl (by kernel_rfl) (fun K hK => ?_)
      refine step_calls (by rfl) 66 EGg.out [.tmp 16, .tmp 17, .tmp 19] _ rfl [.int .u64 base, n.V, .int .i64 (p : Int)] rfl (HG.out _) ?_
      rintro e w3 ⟨⟨v3, rfl, ho3⟩, h3⟩
      have g3 := low_and g2 h3
      have HE3 := Lib.hid (ent_ownG ho3)
      clear ho3
      refine ⟨_, rfl, hK _ _ (low_and g2 h3) (fun hSn => ?_)⟩
      clear hK K
      (try simp only [Act.put, List.setIfInBounds_toArray, List.set_cons_zero, List.set_cons_succ])
      refine wpAnyH_one (i := 7) (oi := ⟨some 21, _, _, _, _, _⟩) rfl (by kernel_rfl) (fun K hK => ?_)
      refine step_calls (by rfl) 65 EGw.out [.tmp 14, .tmp 15, .tmp 20] _ rfl [.int .u64 base, n.V, v3] rfl (HWh.out _ _ HE3.out) ?_
      rintro e w4 ⟨⟨v4, rfl, ho4⟩, h4⟩
      have g4 := low_and g3 h4
      have HO4 := Lib.hid (ownS_mono ho4 (show w.heap.size ≤ w3.heap.size from Nat.le_trans HWs.out g3.size))
      clear ho4
      refine ⟨_, rfl, hK _ _ (low_and g3 h4) (fun hSn => ?_)⟩
      clear hK K
      (try simp only [Act.put, List.setIfInBounds_toArray, List.set_cons_zero, List.set_cons_succ])
      refine wpAnyH_take (i := 8) (oi := ⟨some 4, _, _, _, _, _⟩) (v := v4) rfl (by kernel_rfl) (by kernel_rfl) (by kernel_rfl) (fun _ _ _ h => h) (Or.inl ⟨by rfl, by intro WW hSw; (try dsimp only at hSw); go_simp⟩) (by assumption) ?_
      (try simp only [Act.put, List.setIfInBounds_toArray, List.set_cons_zero, List.set_cons_succ])
      refine wpAnyH_take (i := 9) (oi := ⟨some 5, _, _, _, _, _⟩) (v := .int .i64 0) rfl (by kernel_rfl) (by kernel_rfl) (by kernel_rfl) (fun _ _ _ h => h) (Or.inl ⟨by rfl, by intro WW hSw; (try dsimp only at hSw); go_simp⟩) (by assumption) ?_
      (try simp only [Act.put, List.setIfInBounds_toArray, List.set_cons_zero, List.set_cons_succ])
      refine wpAnyH_done (by kernel_rfl) ?_ _
      go_wp2
      go_ret2
      rw [HR.out]
      exact ⟨⟨_, rfl, HO4.out⟩, low_and HB0.out g4⟩
set_option maxRecDepth 100000 in
set_option maxHeartbeats 8000000 in
theorem r9swap_any {base : Int} (hb : 0 ≤ base) (n : Nd) (key ptr : Int) (w : World) : Calls Try.prog 32 #[.int .u64 base, n.V, .int .u64 key, .int .u64 ptr] w (PutsOut w (swapP base n key ptr)) := by
  obtain ⟨i0, hi, hz0, hz1, hz2⟩ := info_parts infoPut
  have r0 := Row.new w 27 n.cl.toArray
  obtain ⟨Wa, hWa⟩ : ∃ Wa, Wa = w.alloc (.cells n.cl.toArray 27) := ⟨_, rfl⟩
  rw [← hWa] at r0
  have hb0 : Below w.heap.size w Wa := by rw [hWa]; exact alloc_low _ _
  have HB0 := Lib.hid hb0
  have HRR := Lib.hid (fun W' (hb : Below Wa.heap.size Wa W') => (show NdAt W' w.heap.size n from r0.below hb r0.lt))
  have HWa := Lib.hid hWa
  have HWs := Lib.hid (show w.heap.size ≤ Wa.heap.size from hb0.size)
  have hl8 := n.len_le
  have hr0 := Below.refl Wa.heap.size Wa
  have HMy := Lib.hid (fun W' => r9may_any hb n W')
  have EGp := Lib.hid (enters_of Try.func38 (by kernel_rfl) rfl)
  have EGa := Lib.hid (enters_of Try.func64 (by kernel_rfl) rfl)
  have EGg := Lib.hid (enters_of Try.func66 (by kernel_rfl) rfl)
  have EGw := Lib.hid (enters_of Try.func65 (by kernel_rfl) rfl)
  have EGi := Lib.hid (enters_of Try.func18 (by kernel_rfl) rfl)
  have HHd := Lib.hid (fun W' => r9had_any n ptr W')
  have HFd0 := Lib.hid (fun W' => r8Find_any n key W')
  have hP : swapP base n key ptr = (if refE base n [ptr] ≠ 0 then ([], refE base n [ptr]) else match n.find key with | none => ([], 5) | some p => (wholeL base n [(pA base p, ptr)], 0)) := rfl
  rw [refE_had] at hP
  have hbb := fun h => refE_base (b := base) (n := n) (l := []) h
  have hvv := refE_vals base n
  have hfl := fun p h => find_lt (n := n) (key := key) (p := p) h
  have hfe : fndL n key n.vp = match n.find key with | some p => (p : Int) | none => -1 := rfl
  rw [hfe] at HFd0
  generalize n.find key = f at HFd0 hP hfl
  generalize hR : swapP base n key ptr = R at hP ⊢
  generalize refE base n [] = E at HMy hP hbb hvv
  generalize n.had ptr = hd at HHd hP
  clear r0 hWa hb0 hR hfe
  rcases hvv with rfl | rfl | rfl
  · cases hd with
    | true =>
      have HR := Lib.hid (show R = ([], 2) by rw [hP]; simp)
      clear hP hbb hfl
      go_enter Try.func32, Try.ntmps32
      go_wp2_with (first
      | (rw [← HWa.out]; (refine wpList_load_mid rfl _ _ rfl w.heap.size 0 rfl n.cl _ (ndR (HRR.out _ (by assumption))) Try.underlying27 rfl ndI ?_))
      | (refine wpList_load_mid rfl _ _ rfl w.heap.size 0 rfl n.cl _ (ndR (HRR.out _ (by assumption))) Try.underlying27 rfl ndI ?_)
      | (go_at_call 60; refine (HMy.out _).mono ?_; rintro e w1 ⟨rfl, h1⟩; have h1 := low_and hr0 h1)
      | (refine wpList_load_midg (by rfl) _ _ rfl w.heap.size 0 rfl n.cl _ (ndR (HRR.out _ (by assumption))) Try.underlying27 rfl ndI ?_)
      | (go_at_call 61; refine (HHd.out _).mono ?_; rintro e wh ⟨rfl, hh⟩; have h1 := low_and h1 hh))
      go_ret2
      rw [HR.out]
      exact ⟨⟨_, rfl, World.ownsRow_nil _ _ _ _⟩, low_and HB0.out h1⟩
    | false =>
      rw [if_neg (show ¬ ((0 : Int) = 2 ∨ false = true) by simp), if_neg (by simp)] at hP
      have hbse := hbb rfl
      clear hbb
      cases f with
      | none =>
        have HFd := Lib.hid (fun W' => (HFd0.out W').mono fun e w' h => (show e = .returned (.int .i64 (-1)) ∧ Below W'.heap.size W' w' from h))
        have HR := Lib.hid (show R = ([], 5) from hP)
        clear HFd0 hP hfl
        go_enter Try.func32, Try.ntmps32
        go_wp2_with (first
      | (rw [← HWa.out]; (refine wpList_load_mid rfl _ _ rfl w.heap.size 0 rfl n.cl _ (ndR (HRR.out _ (by assumption))) Try.underlying27 rfl ndI ?_))
      | (refine wpList_load_mid rfl _ _ rfl w.heap.size 0 rfl n.cl _ (ndR (HRR.out _ (by assumption))) Try.underlying27 rfl ndI ?_)
      | (go_at_call 60; refine (HMy.out _).mono ?_; rintro e w1 ⟨rfl, h1⟩; have h1 := low_and hr0 h1)
      | (refine wpList_load_midg (by rfl) _ _ rfl w.heap.size 0 rfl n.cl _ (ndR (HRR.out _ (by assumption))) Try.underlying27 rfl ndI ?_)
      | (go_at_call 61; refine (HHd.out _).mono ?_; rintro e wh ⟨rfl, hh⟩; have h1 := low_and h1 hh)
      | (go_at_call 62; refine (HFd.out _).mono ?_; rintro e w2 ⟨rfl, h2⟩; have h2 := low_and h1 h2))
        go_ret2
        rw [HR.out]
        exact ⟨⟨_, rfl, World.ownsRow_nil _ _ _ _⟩, low_and HB0.out h2⟩
      | some p =>
        have HFd := Lib.hid (fun W' => (HFd0.out W').mono fun e w' h => (show e = .returned (.int .i64 (p : Int)) ∧ Below W'.heap.size W' w' from h))
        have hpl := hfl p rfl
        have hp0 : ¬ (p : Int) < 0 := by omega
        have HR := Lib.hid (show R = (wholeL base n [(pA base p, ptr)], 0) from hP)
        have HPt := Lib.hid (fun W => pt_any hbse (i := p) (by omega) W)
        have HWh := Lib.hid (fun W' v (h : EntAt W' v [(pA base p, ptr)]) => whole_any hbse n h (by simp) (by simp))
        have HLit := Lib.hid (fun W' => (show EntAt (W'.alloc (.cells #[.int .u64 (pA base p), .int .u64 ptr] 45)) (.slice (some ⟨W'.heap.size, 0, none⟩) 1 1) [(pA base p, ptr)] from ent_lit W' 45 [(pA base p, ptr)] (by simp)))
        clear HFd0 hP hfl
        go_enter Try.func32, Try.ntmps32
        go_wp2_with (first
      | (rw [← HWa.out]; (refine wpList_load_mid rfl _ _ rfl w.heap.size 0 rfl n.cl _ (ndR (HRR.out _ (by assumption))) Try.underlying27 rfl ndI ?_))
      | (refine wpList_load_mid rfl _ _ rfl w.heap.size 0 rfl n.cl _ (ndR (HRR.out _ (by assumption))) Try.underlying27 rfl ndI ?_)
      | (go_at_call 60; refine (HMy.out _).mono ?_; rintro e w1 ⟨rfl, h1⟩; have h1 := low_and hr0 h1)
      | (refine wpList_load_midg (by rfl) _ _ rfl w.heap.size 0 rfl n.cl _ (ndR (HRR.out _ (by assumption))) Try.underlying27 rfl ndI ?_)
      | (go_at_call 61; refine (HHd.out _).mono ?_; rintro e wh ⟨rfl, hh⟩; have h1 := low_and h1 hh)
      | (go_at_call 62; refine (HFd.out _).mono ?_; rintro e w2 ⟨rfl, h2⟩; have h2 := low_and h1 h2))
        refine wp_region_held_drew (S := fun W' => Below Wa.heap.size Wa W') (by kernel_rfl) (low_and h2 (drew_low9 _)) (fun hHeld => ?_)
        refine wpAnyH_take (i := 0) (oi := ⟨some 30, _, _, _, _, _⟩) (v := .int .u64 base) rfl (by kernel_rfl) (by kernel_rfl) (by kernel_rfl) (fun _ _ _ h => h) (Or.inl ⟨by rfl, by intro WW hSw; (try dsimp only at hSw); go_simp⟩) (by assumption) ?_
        (try simp only [Act.put, List.setIfInBounds_toArray, List.set_cons_zero, List.set_cons_succ])
        refine wpAnyH_take (i := 1) (oi := ⟨some 31, _, _, _, _, _⟩) (v := .agg n.cl.toArray) rfl (by kernel_rfl) (by kernel_rfl) (by kernel_rfl) (fun _ _ _ h => h) (yieldsIf_load_mid (by rfl) _ _ rfl w.heap.size 0 rfl n.cl _ (fun w' hw' => ndR (HRR.out _ hw')) Try.underlying27 rfl ndI) (by assumption) ?_
        (try simp only [Act.put, List.setIfInBounds_toArray, List.set_cons_zero, List.set_cons_succ])
        refine wpAnyH_take (i := 2) (oi := ⟨some 32, _, _, _, _, _⟩) (v := .int .u64 base) rfl (by kernel_rfl) (by kernel_rfl) (by kernel_rfl) (fun _ _ _ h => h) (Or.inl ⟨by rfl, by intro WW hSw; (try dsimp only at hSw); go_simp⟩) (by assumption) ?_
        (try simp only [Act.put, List.setIfInBounds_toArray, List.set_cons_zero, List.set_cons_succ])
        refine wpAnyH_take (i := 3) (oi := ⟨some 33, _, _, _, _, _⟩) (v := .int .i64 (p : Int)) rfl (by kernel_rfl) (by kernel_rfl) (by kernel_rfl) (fun _ _ _ h => h) (Or.inl ⟨by rfl, by intro WW hSw; (try dsimp only at hSw); go_simp⟩) (by assumption) ?_
        (try simp only [Act.put, List.setIfInBounds_toArray, List.set_cons_zero, List.set_cons_succ])
        refine wpAnyH_take (i := 5) (oi := ⟨some 35, _, _, _, _, _⟩) (v := .int .u64 ptr) rfl (by kernel_rfl) (by kernel_rfl) (by kernel_rfl) (fun _ _ _ h => h) (Or.inl ⟨by rfl, by intro WW hSw; (try dsimp only at hSw); go_simp⟩) (by assumption) ?_
        (try simp only [Act.put, List.setIfInBounds_toArray, List.set_cons_zero, List.set_cons_succ])
        refine wpAnyH_one (i := 4) (oi := ⟨some 34, _, _, _, _, _⟩) rfl (by kernel_rfl) (fun K hK => ?_)
        refine step_calls (by rfl) 38 EGp.out [.tmp 32, .tmp 33] _ rfl [.int .u64 base, .int .i64 (p : Int)] rfl (HPt.out _) ?_
        rintro e w3 ⟨rfl, rfl⟩
        refine ⟨_, rfl, hK _ _ (hHeld) (fun hSn => ?_)⟩
        clear hK K
        (try simp only [Act.put, List.setIfInBounds_toArray, List.set_cons_zero, List.set_cons_succ])
        refine wpAnyH_take (i := 6) (oi := ⟨some 36, _, _, _, _, _⟩) (v := .agg #[.int .u64 (pA base p), .int .u64 ptr]) rfl (by kernel_rfl) (by kernel_rfl) (by kernel_rfl) (fun _ _ _ h => h) (Or.inl ⟨by rfl, by intro WW hSw; (try dsimp only at hSw); go_simp⟩) (by assumption) ?_
        (try simp only [Act.put, List.setIfInBounds_toArray, List.set_cons_zero, List.set_cons_succ])
        refine wpAnyH_one (i := 7) (oi := ⟨some 37, _, _, _, _, _⟩) rfl (by kernel_rfl) (fun K hK => ?_)
        rw [if_pos (by rfl)]
        unfold Oper.wp
        go_simp
        refine hK _ _ (low_and h2 (low_and (alloc_low _ _) (drew_low9 _))) (fun hSn => ?_)
        clear hK K
        (try simp only [Act.put, List.setIfInBounds_toArray, List.set_cons_zero, List.set_cons_succ])
        refine wpAnyH_one (i := 8) (oi := ⟨some 38, _, _, _, _, _⟩) rfl (by kernel_rfl) (fun K hK => ?_)
        refine step_calls (by rfl) 65 EGw.out [.tmp 30, .tmp 31, .tmp 37] _ rfl [.int .u64 base, n.V, .slice (some ⟨w2.heap.size, 0, none⟩) 1 1] rfl (HWh.out _ _ ((HLit.out w2).low (drew_low9 _))) ?_
        rintro e w4 ⟨⟨v4, rfl, ho4⟩, h4⟩
        have g4 := low_and h2 (low_and (low_and (alloc_low _ _) (drew_low9 _)) h4)
        have hs2 := h2.size
        have hsa := HWs.out
        have HO4 := Lib.hid (ownS_mono ho4 (show w.heap.size ≤ _ by simp; omega))
        clear ho4
        refine ⟨_, rfl, hK _ _ (low_and h2 (low_and (low_and (alloc_low _ _) (drew_low9 _)) h4)) (fun hSn => ?_)⟩
        clear hK K
        (try simp only [Act.put, List.setIfInBounds_toArray, List.set_cons_zero, List.set_cons_succ])
        refine wpAnyH_take (i := 9) (oi := ⟨some 8, _, _, _, _, _⟩) (v := v4) rfl (by kernel_rfl) (by kernel_rfl) (by kernel_rfl) (fun _ _ _ h => h) (Or.inl ⟨by rfl, by intro WW hSw; (try dsimp only at hSw); go_simp⟩) (by assumption) ?_
        (try simp only [Act.put, List.setIfInBounds_toArray, List.set_cons_zero, List.set_cons_succ])
        refine wpAnyH_take (i := 10) (oi := ⟨some 9, _, _, _, _, _⟩) (v := .int .i64 0) rfl (by kernel_rfl) (by kernel_rfl) (by kernel_rfl) (fun _ _ _ h => h) (Or.inl ⟨by rfl, by intro WW hSw; (try dsimp only at hSw); go_simp⟩) (by assumption) ?_
        (try simp only [Act.put, List.setIfInBounds_toArray, List.set_cons_zero, List.set_cons_succ])
        refine wpAnyH_done (by kernel_rfl) ?_ _
        go_wp2
        go_ret2
        rw [HR.out]
        exact ⟨⟨_, rfl, HO4.out⟩, low_and HB0.out g4⟩
  · have HR := Lib.hid (show R = ([], 2) by rw [hP]; simp)
    clear hP hbb hfl
    go_enter Try.func32, Try.ntmps32
    go_wp2_with (first
      | (rw [← HWa.out]; (refine wpList_load_mid rfl _ _ rfl w.heap.size 0 rfl n.cl _ (ndR (HRR.out _ (by assumption))) Try.underlying27 rfl ndI ?_))
      | (refine wpList_load_mid rfl _ _ rfl w.heap.size 0 rfl n.cl _ (ndR (HRR.out _ (by assumption))) Try.underlying27 rfl ndI ?_)
      | (go_at_call 60; refine (HMy.out _).mono ?_; rintro e w1 ⟨rfl, h1⟩; have h1 := low_and hr0 h1))
    go_ret2
    rw [HR.out]
    exact ⟨⟨_, rfl, World.ownsRow_nil _ _ _ _⟩, low_and HB0.out h1⟩
  · cases hd with
    | true =>
      have HR := Lib.hid (show R = ([], 2) by rw [hP]; simp)
      clear hP hbb hfl
      go_enter Try.func32, Try.ntmps32
      go_wp2_with (first
      | (rw [← HWa.out]; (refine wpList_load_mid rfl _ _ rfl w.heap.size 0 rfl n.cl _ (ndR (HRR.out _ (by assumption))) Try.underlying27 rfl ndI ?_))
      | (refine wpList_load_mid rfl _ _ rfl w.heap.size 0 rfl n.cl _ (ndR (HRR.out _ (by assumption))) Try.underlying27 rfl ndI ?_)
      | (go_at_call 60; refine (HMy.out _).mono ?_; rintro e w1 ⟨rfl, h1⟩; have h1 := low_and hr0 h1)
      | (refine wpList_load_midg (by rfl) _ _ rfl w.heap.size 0 rfl n.cl _ (ndR (HRR.out _ (by assumption))) Try.underlying27 rfl ndI ?_)
      | (go_at_call 61; refine (HHd.out _).mono ?_; rintro e wh ⟨rfl, hh⟩; have h1 := low_and h1 hh))
      go_ret2
      rw [HR.out]
      exact ⟨⟨_, rfl, World.ownsRow_nil _ _ _ _⟩, low_and HB0.out h1⟩
    | false =>
      have HR := Lib.hid (show R = ([], 7) by rw [hP]; simp)
      clear hP hbb hfl
      go_enter Try.func32, Try.ntmps32
      go_wp2_with (first
      | (rw [← HWa.out]; (refine wpList_load_mid rfl _ _ rfl w.heap.size 0 rfl n.cl _ (ndR (HRR.out _ (by assumption))) Try.underlying27 rfl ndI ?_))
      | (refine wpList_load_mid rfl _ _ rfl w.heap.size 0 rfl n.cl _ (ndR (HRR.out _ (by assumption))) Try.underlying27 rfl ndI ?_)
      | (go_at_call 60; refine (HMy.out _).mono ?_; rintro e w1 ⟨rfl, h1⟩; have h1 := low_and hr0 h1)
      | (refine wpList_load_midg (by rfl) _ _ rfl w.heap.size 0 rfl n.cl _ (ndR (HRR.out _ (by assumption))) Try.underlying27 rfl ndI ?_)
      | (go_at_call 61; refine (HHd.out _).mono ?_; rintro e wh ⟨rfl, hh⟩; have h1 := low_and h1 hh))
      go_ret2
      rw [HR.out]
      exact ⟨⟨_, rfl, World.ownsRow_nil _ _ _ _⟩, low_and HB0.out h1⟩
end Go.Proofs.Ytbadlmicbbjkaaa
