/- NodeWords: the law is true of any node; where the library's table of powers lies as it was laid. -/
import Derived.Test.YthifamaoffkedaaDoorN8Known
import Derived.Test.YthifamaoffkedaaDoorN8WordR
import Derived.Test.YthifamaoffkedaaDoorN8Eq
import Derived.Test.YthifamaoffkedaaDoorQLoad
namespace Go.Proofs.YthifamaoffkedaaDoor
open Go.RowKit
set_option linter.unusedVariables false
theorem store_w24 (w1 : World) (vs : List Value) (hl : vs.length = 24) : ∃ W2, W2 = (w1.alloc (.cells #[.int .u64 0, .int .u64 0, .int .u64 0, .int .u64 0, .int .u64 0, .int .u64 0, .int .u64 0, .int .u64 0, .int .u64 0, .int .u64 0, .int .u64 0, .int .u64 0, .int .u64 0, .int .u64 0, .int .u64 0, .int .u64 0, .int .u64 0, .int .u64 0, .int .u64 0, .int .u64 0, .int .u64 0, .int .u64 0, .int .u64 0, .int .u64 0] 28)).setCells w1.heap.size 0 vs ∧ Row W2 w1.heap.size 28 vs.toArray ∧ Below w1.heap.size w1 W2 :=
  ⟨_, rfl, row_setCells (Row.new w1 28 zeroW.toArray) hl, setCells_low _ (Nat.le_refl _) (alloc_low _ _)⟩
set_option maxRecDepth 100000 in
set_option maxHeartbeats 8000000 in
theorem lawWords (n : Nd) (w : World) (T : Pow w) : Calls Tryd.prog 3 #[n.V] w fun e w' => e = .returned (.bool true) ∧ Below w.heap.size w w' := by
  have r0 := Row.new w 27 n.cl.toArray
  obtain ⟨Wa, hWa⟩ : ∃ Wa, Wa = w.alloc (.cells n.cl.toArray 27) := ⟨_, rfl⟩
  rw [← hWa] at r0
  have HB0 := Lib.hid (show Below w.heap.size w Wa by rw [hWa]; exact alloc_low _ _)
  have HRR := Lib.hid (fun W' (hb : Below Wa.heap.size Wa W') => (show NdAt W' w.heap.size n from r0.below hb r0.lt))
  have HWa := Lib.hid hWa
  have HK := Lib.hid (fun W' (hb : Below Wa.heap.size Wa W') => n8known_any W' (pow_low T (low_and HB0.out hb)))
  have HW := Lib.hid (fun W' => nWords_any n W')
  have HR := Lib.hid (fun W' => r8Words_any n W')
  rw [wi_words] at HW HR
  have HO := Lib.hid (fun W' => nOf_any (wi_len n) (wi_of n).1 W')
  rw [(wi_of n).2] at HO
  have hqw := fun W' => eqW (wi n) (wi_len n) W'
  have hvl : ((wi n).map uw).length = 24 := by rw [List.length_map, wi_len]
  have hv1 : ∀ v ∈ (wi n).map uw, v.oneCell' = true := by
    intro v hv
    obtain ⟨x, _, rfl⟩ := List.mem_map.1 hv
    rfl
  obtain ⟨vs, hV⟩ : ∃ vs, vs = (wi n).map uw := ⟨_, rfl⟩
  rw [← hV] at HW HR HO hqw hvl hv1
  have hr0 := Below.refl Wa.heap.size Wa
  have HL := Lib.hid (fun W' (hb : Below Wa.heap.size Wa W') => (show W'.cell? ⟨w.heap.size, 0, none⟩ = some (.int .i64 n.l) from ndAt_at (HRR.out W' hb) 0))
  clear r0 hWa hV
  by_cases hl : isLv n = true
  · have hb : 0 ≤ n.l ∧ n.l ≤ 15 := by simpa [isLv] using hl
    have hb1 : ¬ n.l < 0 := by omega
    have hb2 : ¬ 15 < n.l := by omega
    have HO := Lib.hid (fun W' => (HO.out W').mono fun e w' h => (show e = .returned (.tuple #[.agg n.cl.toArray, .int .i64 0]) ∧ Below W'.heap.size W' w' by rw [if_pos hl] at h; exact h))
    have hqn := fun W' => eqNd n W'
    unfold Nd.V at hqn
    clear hb hl
    go_enter Tryd.func3, Tryd.ntmps3
    go_wp2_with (first
      | (rw [← HWa.out]; refine wpList_load_mid rfl _ _ rfl w.heap.size 0 rfl n.cl _ (ndR (HRR.out _ (by assumption))) Tryd.underlying27 rfl ndI ?_)
      | (go_at_call 11; refine (HW.out _).mono ?_; rintro e w1 ⟨rfl, h1⟩; have h1 := low_and hr0 h1)
      | (refine wpList_store_row rfl _ _ _ rfl w1.heap.size vs rfl rfl (Row.new w1 28 zeroW.toArray) hvl (by rw [hvl]; exact w24I) hv1 ?_; obtain ⟨W2, hW2, hn2, hb2⟩ := store_w24 w1 vs hvl; rw [← hW2]; have hw2 := low_and h1 hb2; have HV := Lib.hid (fun W' (hb : Below W2.heap.size W2 W') => (show Row W' w1.heap.size 28 vs.toArray from hn2.below hb hn2.lt)); have hr2 := Below.refl W2.heap.size W2; clear hW2 hn2)
      | (go_at_call 12; refine (HO.out _).mono ?_; rintro e w2 ⟨rfl, h2⟩; have hu2 := h2; have h2 := low_and hw2 h2)
      | (refine wpList_load_mid rfl _ _ rfl w2.heap.size 0 rfl n.cl _ (ndR (HM.out _ (by assumption))) Tryd.underlying27 rfl ndI ?_)
      | (refine wpList_load_midg (by rfl) _ _ rfl w2.heap.size 0 rfl n.cl _ (ndR (HM.out _ (by assumption))) Tryd.underlying27 rfl ndI ?_)
      | (refine wpList_load_mid rfl _ _ rfl w1.heap.size 0 rfl vs _ (rowR (HV.out _ (by assumption))) Tryd.underlying28 rfl (by rw [hvl]; exact w24I) ?_)
      | (refine wpList_store_row rfl _ _ _ rfl w2.heap.size n.cl rfl rfl (Row.new w2 27 zeroNd.cl.toArray) rfl ndI (cl_one n) ?_; obtain ⟨W3, hW3, hn3, hb3⟩ := store_gen w2 n; rw [← hW3]; have hw3 := low_and h2 hb3; have hu3 := low_and hu2 hb3; have HM := Lib.hid (fun W' (hb : Below W3.heap.size W3 W') => (show NdAt W' w2.heap.size n from hn3.below hb hn3.lt)); have hr3 := Below.refl W3.heap.size W3; clear hW3 hn3)
      | (refine wpList_load_mid rfl _ _ rfl w.heap.size 0 rfl n.cl _ (ndR (HRR.out _ (by assumption))) Tryd.underlying27 rfl ndI ?_)
      | (refine wpList_load_midg (by rfl) _ _ rfl w.heap.size 0 rfl n.cl _ (ndR (HRR.out _ (by assumption))) Tryd.underlying27 rfl ndI ?_))
    have hRw := Lib.hid (fun (w' : World) (h : ∃ p : LowBy W3, w' = p.W) => (show w'.rangeAt w1.heap.size 0 vs by obtain ⟨p, rfl⟩ := h; exact rowR (HV.out _ (low_and hu3 p.low))))
    have hRn := Lib.hid (fun (w' : World) (h : ∃ p : LowBy W3, w' = p.W) => (show w'.rangeAt w.heap.size 0 n.cl by obtain ⟨p, rfl⟩ := h; exact ndR (HRR.out _ (low_and hw3 p.low))))
    have hC := Lib.hid (fun (p : LowBy W3) => Calls.low_of (HR.out p.W))
    refine wp_region_quiet_low (by kernel_rfl) (by kernel_rfl) ?_
    repeat (first | go_big_quiet_skip | (go_big_quiet_want; first | (refine quiet_load_mid 27 _ rfl w.heap.size 0 rfl n.cl _ hRn.out Tryd.underlying27 rfl ndI ?_; simp only [Act.put, List.setIfInBounds_toArray, List.set_cons_succ, List.set_cons_zero]; go_big_quiet_on) | (refine quiet_load_mid 28 _ rfl w1.heap.size 0 rfl vs _ hRw.out Tryd.underlying28 rfl (by rw [hvl]; exact w24I) ?_; simp only [Act.put, List.setIfInBounds_toArray, List.set_cons_succ, List.set_cons_zero]; go_big_quiet_on) | (go_big_quiet_op; first | go_big_quiet_on | go_big_quiet_call ((go_at_call 13; with_reducible exact hC.out _)))))
    refine wpQuiet_nil ?_
    intro _ hw'
    obtain ⟨p, hw''⟩ := hw'
    subst hw''
    have hm4 := p.low
    have h4 := low_and hw3 hm4
    have c0 := HL.out _ h4
    generalize p.W = w4 at *
    go_wp2_with (first
      | (refine wpList_load_mid rfl _ _ rfl w2.heap.size 0 rfl n.cl _ (ndR (HM.out _ (by assumption))) Tryd.underlying27 rfl ndI ?_)
      | (refine wpList_load_midg (by rfl) _ _ rfl w2.heap.size 0 rfl n.cl _ (ndR (HM.out _ (by assumption))) Tryd.underlying27 rfl ndI ?_)
      | (go_at_call 14; refine (HK.out _ (by assumption)).mono ?_; rintro e w6 ⟨rfl, h6⟩; have h6 := low_and h4 h6)
      | (refine wpList_load_mid rfl _ _ rfl w.heap.size 0 rfl n.cl _ (ndR (HRR.out _ (by assumption))) Tryd.underlying27 rfl ndI ?_)
      | (refine wpList_load_midg (by rfl) _ _ rfl w.heap.size 0 rfl n.cl _ (ndR (HRR.out _ (by assumption))) Tryd.underlying27 rfl ndI ?_))
    go_ret
    exact ⟨rfl, low_and HB0.out h6⟩
  · have hb : n.l < 0 ∨ ¬ n.l < 0 ∧ 15 < n.l := by
      rcases Int.lt_or_le n.l 0 with h | h
      · exact Or.inl h
      · refine Or.inr ⟨by omega, ?_⟩
        rcases Int.lt_or_le 15 n.l with h2 | h2
        · exact h2
        · exact absurd (show isLv n = true by simp [isLv, h, h2]) hl
    have HO := Lib.hid (fun W' => (HO.out W').mono fun e w' h => (show e = .returned (.tuple #[zeroNd.V, .int .i64 11]) ∧ Below W'.heap.size W' w' by rw [if_neg hl] at h; exact h))
    have hqn := fun W' => eqNd zeroNd W'
    unfold Nd.V at hqn HO
    have hqz := fun W' => (show (Op.equalIn 10000 27 (.agg zeroNd.cl.toArray) (.agg #[.int .i64 0, .int .u64 0, .int .u64 0, .int .u64 0, .int .u64 0, .int .u64 0, .int .u64 0, .int .u64 0, .int .u64 0, .int .u64 0, .int .u64 0, .int .u64 0, .int .u64 0, .int .u64 0, .int .u64 0, .int .u64 0, .int .u64 0, .int .u64 0, .int .u64 0, .int .u64 0, .int .u64 0])).run Tryd.prog W' = .ok true W' from eqNd zeroNd W')
    clear hqn
    rcases hb with hb1 | ⟨hb1, hb2⟩
    · go_enter Tryd.func3, Tryd.ntmps3
      go_wp2_with (first
        | (rw [← HWa.out]; refine wpList_load_mid rfl _ _ rfl w.heap.size 0 rfl n.cl _ (ndR (HRR.out _ (by assumption))) Tryd.underlying27 rfl ndI ?_)
        | (go_at_call 11; refine (HW.out _).mono ?_; rintro e w1 ⟨rfl, h1⟩; have h1 := low_and hr0 h1)
        | (refine wpList_store_row rfl _ _ _ rfl w1.heap.size vs rfl rfl (Row.new w1 28 zeroW.toArray) hvl (by rw [hvl]; exact w24I) hv1 ?_; obtain ⟨W2, hW2, hn2, hb2⟩ := store_w24 w1 vs hvl; rw [← hW2]; have hw2 := low_and h1 hb2; have HV := Lib.hid (fun W' (hb : Below W2.heap.size W2 W') => (show Row W' w1.heap.size 28 vs.toArray from hn2.below hb hn2.lt)); have hr2 := Below.refl W2.heap.size W2; clear hW2 hn2)
        | (go_at_call 12; refine (HO.out _).mono ?_; rintro e w2 ⟨rfl, h2⟩; have hu2 := h2; have h2 := low_and hw2 h2)
        | (refine wpList_load_mid rfl _ _ rfl w2.heap.size 0 rfl zeroNd.cl _ (ndR (HM.out _ (by assumption))) Tryd.underlying27 rfl ndI ?_)
        | (refine wpList_load_midg (by rfl) _ _ rfl w2.heap.size 0 rfl zeroNd.cl _ (ndR (HM.out _ (by assumption))) Tryd.underlying27 rfl ndI ?_)
        | (refine wpList_load_mid rfl _ _ rfl w1.heap.size 0 rfl vs _ (rowR (HV.out _ (by assumption))) Tryd.underlying28 rfl (by rw [hvl]; exact w24I) ?_)
        | (refine wpList_store_row rfl _ _ _ rfl w2.heap.size zeroNd.cl rfl rfl (Row.new w2 27 zeroNd.cl.toArray) rfl ndI (cl_one zeroNd) ?_; obtain ⟨W3, hW3, hn3, hb3⟩ := store_gen w2 zeroNd; rw [← hW3]; have hw3 := low_and h2 hb3; have hu3 := low_and hu2 hb3; have HM := Lib.hid (fun W' (hb : Below W3.heap.size W3 W') => (show NdAt W' w2.heap.size zeroNd from hn3.below hb hn3.lt)); have hr3 := Below.refl W3.heap.size W3; clear hW3 hn3)
        | (refine wpList_load_mid rfl _ _ rfl w.heap.size 0 rfl n.cl _ (ndR (HRR.out _ (by assumption))) Tryd.underlying27 rfl ndI ?_)
        | (refine wpList_load_midg (by rfl) _ _ rfl w.heap.size 0 rfl n.cl _ (ndR (HRR.out _ (by assumption))) Tryd.underlying27 rfl ndI ?_))
      have hRw := Lib.hid (fun (w' : World) (h : ∃ p : LowBy W3, w' = p.W) => (show w'.rangeAt w1.heap.size 0 vs by obtain ⟨p, rfl⟩ := h; exact rowR (HV.out _ (low_and hu3 p.low))))
      have hRn := Lib.hid (fun (w' : World) (h : ∃ p : LowBy W3, w' = p.W) => (show w'.rangeAt w.heap.size 0 n.cl by obtain ⟨p, rfl⟩ := h; exact ndR (HRR.out _ (low_and hw3 p.low))))
      have hC := Lib.hid (fun (p : LowBy W3) => Calls.low_of (HR.out p.W))
      refine wp_region_quiet_low (by kernel_rfl) (by kernel_rfl) ?_
      repeat (first | go_big_quiet_skip | (go_big_quiet_want; first | (refine quiet_load_mid 27 _ rfl w.heap.size 0 rfl n.cl _ hRn.out Tryd.underlying27 rfl ndI ?_; simp only [Act.put, List.setIfInBounds_toArray, List.set_cons_succ, List.set_cons_zero]; go_big_quiet_on) | (refine quiet_load_mid 28 _ rfl w1.heap.size 0 rfl vs _ hRw.out Tryd.underlying28 rfl (by rw [hvl]; exact w24I) ?_; simp only [Act.put, List.setIfInBounds_toArray, List.set_cons_succ, List.set_cons_zero]; go_big_quiet_on) | (go_big_quiet_op; first | go_big_quiet_on | go_big_quiet_call ((go_at_call 13; with_reducible exact hC.out _)))))
      refine wpQuiet_nil ?_
      intro _ hw'
      obtain ⟨p, hw''⟩ := hw'
      subst hw''
      have hm4 := p.low
      have h4 := low_and hw3 hm4
      have c0 := HL.out _ h4
      generalize p.W = w4 at *
      go_wp2_with (first
        | (refine wpList_load_mid rfl _ _ rfl w2.heap.size 0 rfl zeroNd.cl _ (ndR (HM.out _ (by assumption))) Tryd.underlying27 rfl ndI ?_)
        | (refine wpList_load_midg (by rfl) _ _ rfl w2.heap.size 0 rfl zeroNd.cl _ (ndR (HM.out _ (by assumption))) Tryd.underlying27 rfl ndI ?_)
        | (go_at_call 14; refine (HK.out _ (by assumption)).mono ?_; rintro e w6 ⟨rfl, h6⟩; have h6 := low_and h4 h6)
        | (refine wpList_load_mid rfl _ _ rfl w.heap.size 0 rfl n.cl _ (ndR (HRR.out _ (by assumption))) Tryd.underlying27 rfl ndI ?_)
        | (refine wpList_load_midg (by rfl) _ _ rfl w.heap.size 0 rfl n.cl _ (ndR (HRR.out _ (by assumption))) Tryd.underlying27 rfl ndI ?_))
      go_ret
      exact ⟨rfl, low_and HB0.out h6⟩
    · go_enter Tryd.func3, Tryd.ntmps3
      go_wp2_with (first
        | (rw [← HWa.out]; refine wpList_load_mid rfl _ _ rfl w.heap.size 0 rfl n.cl _ (ndR (HRR.out _ (by assumption))) Tryd.underlying27 rfl ndI ?_)
        | (go_at_call 11; refine (HW.out _).mono ?_; rintro e w1 ⟨rfl, h1⟩; have h1 := low_and hr0 h1)
        | (refine wpList_store_row rfl _ _ _ rfl w1.heap.size vs rfl rfl (Row.new w1 28 zeroW.toArray) hvl (by rw [hvl]; exact w24I) hv1 ?_; obtain ⟨W2, hW2, hn2, hb2⟩ := store_w24 w1 vs hvl; rw [← hW2]; have hw2 := low_and h1 hb2; have HV := Lib.hid (fun W' (hb : Below W2.heap.size W2 W') => (show Row W' w1.heap.size 28 vs.toArray from hn2.below hb hn2.lt)); have hr2 := Below.refl W2.heap.size W2; clear hW2 hn2)
        | (go_at_call 12; refine (HO.out _).mono ?_; rintro e w2 ⟨rfl, h2⟩; have hu2 := h2; have h2 := low_and hw2 h2)
        | (refine wpList_load_mid rfl _ _ rfl w2.heap.size 0 rfl zeroNd.cl _ (ndR (HM.out _ (by assumption))) Tryd.underlying27 rfl ndI ?_)
        | (refine wpList_load_midg (by rfl) _ _ rfl w2.heap.size 0 rfl zeroNd.cl _ (ndR (HM.out _ (by assumption))) Tryd.underlying27 rfl ndI ?_)
        | (refine wpList_load_mid rfl _ _ rfl w1.heap.size 0 rfl vs _ (rowR (HV.out _ (by assumption))) Tryd.underlying28 rfl (by rw [hvl]; exact w24I) ?_)
        | (refine wpList_store_row rfl _ _ _ rfl w2.heap.size zeroNd.cl rfl rfl (Row.new w2 27 zeroNd.cl.toArray) rfl ndI (cl_one zeroNd) ?_; obtain ⟨W3, hW3, hn3, hb3⟩ := store_gen w2 zeroNd; rw [← hW3]; have hw3 := low_and h2 hb3; have hu3 := low_and hu2 hb3; have HM := Lib.hid (fun W' (hb : Below W3.heap.size W3 W') => (show NdAt W' w2.heap.size zeroNd from hn3.below hb hn3.lt)); have hr3 := Below.refl W3.heap.size W3; clear hW3 hn3)
        | (refine wpList_load_mid rfl _ _ rfl w.heap.size 0 rfl n.cl _ (ndR (HRR.out _ (by assumption))) Tryd.underlying27 rfl ndI ?_)
        | (refine wpList_load_midg (by rfl) _ _ rfl w.heap.size 0 rfl n.cl _ (ndR (HRR.out _ (by assumption))) Tryd.underlying27 rfl ndI ?_))
      have hRw := Lib.hid (fun (w' : World) (h : ∃ p : LowBy W3, w' = p.W) => (show w'.rangeAt w1.heap.size 0 vs by obtain ⟨p, rfl⟩ := h; exact rowR (HV.out _ (low_and hu3 p.low))))
      have hRn := Lib.hid (fun (w' : World) (h : ∃ p : LowBy W3, w' = p.W) => (show w'.rangeAt w.heap.size 0 n.cl by obtain ⟨p, rfl⟩ := h; exact ndR (HRR.out _ (low_and hw3 p.low))))
      have hC := Lib.hid (fun (p : LowBy W3) => Calls.low_of (HR.out p.W))
      refine wp_region_quiet_low (by kernel_rfl) (by kernel_rfl) ?_
      repeat (first | go_big_quiet_skip | (go_big_quiet_want; first | (refine quiet_load_mid 27 _ rfl w.heap.size 0 rfl n.cl _ hRn.out Tryd.underlying27 rfl ndI ?_; simp only [Act.put, List.setIfInBounds_toArray, List.set_cons_succ, List.set_cons_zero]; go_big_quiet_on) | (refine quiet_load_mid 28 _ rfl w1.heap.size 0 rfl vs _ hRw.out Tryd.underlying28 rfl (by rw [hvl]; exact w24I) ?_; simp only [Act.put, List.setIfInBounds_toArray, List.set_cons_succ, List.set_cons_zero]; go_big_quiet_on) | (go_big_quiet_op; first | go_big_quiet_on | go_big_quiet_call ((go_at_call 13; with_reducible exact hC.out _)))))
      refine wpQuiet_nil ?_
      intro _ hw'
      obtain ⟨p, hw''⟩ := hw'
      subst hw''
      have hm4 := p.low
      have h4 := low_and hw3 hm4
      have c0 := HL.out _ h4
      generalize p.W = w4 at *
      go_wp2_with (first
        | (refine wpList_load_mid rfl _ _ rfl w2.heap.size 0 rfl zeroNd.cl _ (ndR (HM.out _ (by assumption))) Tryd.underlying27 rfl ndI ?_)
        | (refine wpList_load_midg (by rfl) _ _ rfl w2.heap.size 0 rfl zeroNd.cl _ (ndR (HM.out _ (by assumption))) Tryd.underlying27 rfl ndI ?_)
        | (go_at_call 14; refine (HK.out _ (by assumption)).mono ?_; rintro e w6 ⟨rfl, h6⟩; have h6 := low_and h4 h6)
        | (refine wpList_load_mid rfl _ _ rfl w.heap.size 0 rfl n.cl _ (ndR (HRR.out _ (by assumption))) Tryd.underlying27 rfl ndI ?_)
        | (refine wpList_load_midg (by rfl) _ _ rfl w.heap.size 0 rfl n.cl _ (ndR (HRR.out _ (by assumption))) Tryd.underlying27 rfl ndI ?_))
      go_ret
      exact ⟨rfl, low_and HB0.out h6⟩
end Go.Proofs.YthifamaoffkedaaDoor
