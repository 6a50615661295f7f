/- The document's May: of any node; without conditions. -/
import Derived.Test.YtbadlmicbbjkaaaN8RefS
import Derived.Test.YtbadlmicbbjkaaaQLoadG
namespace Go.Proofs.Ytbadlmicbbjkaaa
open Go.RowKit
set_option linter.unusedVariables false
theorem may_r (n : Nd) (high : Int) (has : Bool) : n.may high has = ((decide (0 ≤ n.l) && decide (n.l ≤ 15)) && (n.fi != 0) && !(has && decide (high ≤ n.lo)) && (decide (n.len ≤ n.es.length + 1) && riseR n.l n.lo n.fi n.es)) := by
  unfold Nd.may riseR
  by_cases h : 0 ≤ n.l
  · rw [show decide (n.l = 0) = decide (n.l ≤ 0) by congr 1; apply propext; omega]
    cases decide (0 ≤ n.l) <;> cases decide (n.l ≤ 15) <;> cases (n.fi != 0) <;> cases (has && decide (high ≤ n.lo)) <;> cases decide (n.len ≤ n.es.length + 1) <;> simp
  · rw [show decide (0 ≤ n.l) = false by simpa using h]
    simp
set_option maxRecDepth 100000 in
set_option maxHeartbeats 4000000 in
theorem r8May_any (n : Nd) (high : Int) (has : Bool) (w : World) : Calls Try.prog 16 #[n.V, .int .u64 high, .bool has] w fun e w' => e = .returned (.bool (n.may high has)) ∧ Below w.heap.size w w' := by
  have r0 := Row.new w 27 n.cl.toArray
  have c0 : (w.alloc (.cells n.cl.toArray 27)).cell? ⟨w.heap.size, 0, none⟩ = some (.int .i64 n.l) := ndAt_at r0 0
  have c1 : (w.alloc (.cells n.cl.toArray 27)).cell? ⟨w.heap.size, 1, none⟩ = some (.int .u64 n.lo) := ndAt_at r0 1
  have c4 : (w.alloc (.cells n.cl.toArray 27)).cell? ⟨w.heap.size, 4, none⟩ = some (.int .u64 n.fi) := ndAt_at r0 4
  have R0 := Lib.hid r0
  have hes := n.es_len
  have hln := n.len_le
  have hR := may_r n high has
  obtain ⟨R, hRR⟩ : ∃ R, R = n.may high has := ⟨_, rfl⟩
  rw [← hRR] at hR ⊢
  obtain ⟨Wa, hWa⟩ : ∃ Wa, Wa = w.alloc (.cells n.cl.toArray 27) := ⟨_, rfl⟩
  have HWa := Lib.hid hWa
  have HB0 := Lib.hid (show Below w.heap.size w Wa by rw [hWa]; exact alloc_low _ _)
  have HRR := Lib.hid (fun W' (hb : Below Wa.heap.size Wa W') => (show NdAt W' w.heap.size n from by rw [← hWa] at r0; exact r0.below hb r0.lt))
  have hr0 := Below.refl Wa.heap.size Wa
  clear hRR r0 hWa
  have hcases : (n.l < 0 ∨ (¬ n.l < 0 ∧ 15 < n.l)) ∨ (0 ≤ n.l ∧ n.l ≤ 15) := by omega
  rcases hcases with (hl | ⟨hl, hl2⟩) | ⟨hl, hl2⟩
  · have HR := Lib.hid (show R = false by rw [hR, show decide (0 ≤ n.l) = false by simp; omega]; rfl)
    clear hR
    go_enter Try.func16, Try.ntmps16
    go_wp2
    go_ret
    exact ⟨by rw [HR.out]; rfl, by rw [← HWa.out]; exact HB0.out⟩
  · have HR := Lib.hid (show R = false by rw [hR, show decide (n.l ≤ 15) = false by simp; omega, Bool.and_false]; rfl)
    clear hR
    go_enter Try.func16, Try.ntmps16
    go_wp2
    go_ret
    exact ⟨by rw [HR.out]; rfl, by rw [← HWa.out]; exact HB0.out⟩
  · have hl3 : ¬ n.l < 0 := by omega
    have hl4 : ¬ 15 < n.l := by omega
    rw [show decide (0 ≤ n.l) = true by simpa using hl, show decide (n.l ≤ 15) = true by simpa using hl2] at hR
    obtain hf0 | hf0 : n.fi = 0 ∨ n.fi ≠ 0 := by omega
    · have HR := Lib.hid (show R = false by rw [hR, hf0]; rfl)
      rw [hf0] at c4
      clear hR
      go_enter Try.func16, Try.ntmps16
      go_wp2
      go_ret
      exact ⟨by rw [HR.out]; rfl, by rw [← HWa.out]; exact HB0.out⟩
    · have hfb : (n.fi != 0) = true := by simpa using hf0
      have hfb2 : (n.fi == 0) = false := by simpa using hf0
      rw [hfb] at hR
      obtain hhb | hhb : (has && decide (high ≤ n.lo)) = true ∨ (has && decide (high ≤ n.lo)) = false := by cases (has && decide (high ≤ n.lo)) <;> simp
      · have HR := Lib.hid (show R = false by rw [hR, hhb]; rfl)
        simp only [Bool.and_eq_true, decide_eq_true_eq] at hhb
        obtain ⟨rfl, hle⟩ := hhb
        clear hR
        go_enter Try.func16, Try.ntmps16
        go_wp2
        go_ret
        exact ⟨by rw [HR.out]; rfl, by rw [← HWa.out]; exact HB0.out⟩
      · rw [hhb] at hR
        have HV := Lib.hid (fun W' => r8Valid_any n W')
        have HLn := Lib.hid (fun W' => r8Len_any n W')
        have HRi := Lib.hid (fun W' v (h : EntAt W' v n.es) => r8Rise_any h (by omega) n.l n.lo n.fi)
        have hC0 := Lib.hid (fun W' (hb : Below Wa.heap.size Wa W') => (show W'.cell? ⟨w.heap.size, 0, none⟩ = some (.int .i64 n.l) from ndAt_at (HRR.out W' hb) 0))
        have hC1 := Lib.hid (fun W' (hb : Below Wa.heap.size Wa W') => (show W'.cell? ⟨w.heap.size, 1, none⟩ = some (.int .u64 n.lo) from ndAt_at (HRR.out W' hb) 1))
        have hC4 := Lib.hid (fun W' (hb : Below Wa.heap.size Wa W') => (show W'.cell? ⟨w.heap.size, 4, none⟩ = some (.int .u64 n.fi) from ndAt_at (HRR.out W' hb) 4))
        replace hR : R = (decide (n.len ≤ n.es.length + 1) && riseR n.l n.lo n.fi n.es) := by rw [hR]; simp
        obtain ⟨Ln, hLn⟩ : ∃ Ln, Ln = n.len := ⟨_, rfl⟩
        rw [← hLn] at hR HLn hln
        obtain ⟨rb, hrb⟩ : ∃ rb, rb = riseR n.l n.lo n.fi n.es := ⟨_, rfl⟩
        rw [← hrb] at hR HRi
        have HR := Lib.hid hR
        have hcase : has = false ∨ (has = true ∧ ¬ high ≤ n.lo) := by
          cases has with
          | false => exact .inl rfl
          | true => exact .inr ⟨rfl, by simpa using hhb⟩
        clear hR hLn hrb hhb
        obtain hL1 | hL1 : Ln ≤ n.es.length + 1 ∨ ¬ Ln ≤ n.es.length + 1 := by omega
        · have hL2 : (Ln : Int) ≤ (n.es.length : Int) + 1 := by omega
          have HRf := Lib.hid (show R = rb by rw [HR.out]; simp [hL1])
          rcases hcase with rfl | ⟨rfl, hnle⟩
          · go_enter Try.func16, Try.ntmps16
            go_wp2_with (first
              | (rw [← HWa.out]; refine wpList_load_mid rfl _ _ rfl w.heap.size 0 rfl n.cl _ (ndR (HRR.out _ (by first | assumption | exact Below.refl _ _))) Try.underlying27 rfl ndI ?_)
              | (refine wpList_load_mid rfl _ _ rfl w.heap.size 0 rfl n.cl _ (ndR (HRR.out _ (by first | assumption | exact Below.refl _ _))) Try.underlying27 rfl ndI ?_)
              | (refine wpList_load_midg (by rfl) _ _ rfl w.heap.size 0 rfl n.cl _ (ndR (HRR.out _ (by first | assumption | exact Below.refl _ _))) Try.underlying27 rfl ndI ?_)
              | (go_at_call 13; refine (HV.out _).mono ?_; rintro e w1 ⟨⟨v, rfl, ho⟩, hb1⟩; have hEA := ent_own ho; have HEA := Lib.hid hEA; have hb1 := low_and hr0 hb1; obtain ⟨A, cap, rfl, _⟩ := hEA; clear ho)
              | (go_at_call 39; refine (HLn.out _).mono ?_; rintro e w2 ⟨rfl, hb2⟩; have HEA2 := Lib.hid (HEA.out.low hb2); have hb2 := low_and hb1 hb2; have d0 := hC0.out _ hb2; have d1 := hC1.out _ hb2; have d4 := hC4.out _ hb2)
              | (go_at_call 40; refine (HRi.out _ _ HEA2.out).mono ?_; rintro e w3 ⟨rfl, hb3⟩; have hb3 := low_and hb2 hb3))
            go_ret
            exact ⟨by rw [HRf.out]; rfl, low_and HB0.out hb3⟩
          · go_enter Try.func16, Try.ntmps16
            go_wp2_with (first
              | (rw [← HWa.out]; refine wpList_load_mid rfl _ _ rfl w.heap.size 0 rfl n.cl _ (ndR (HRR.out _ (by first | assumption | exact Below.refl _ _))) Try.underlying27 rfl ndI ?_)
              | (refine wpList_load_mid rfl _ _ rfl w.heap.size 0 rfl n.cl _ (ndR (HRR.out _ (by first | assumption | exact Below.refl _ _))) Try.underlying27 rfl ndI ?_)
              | (refine wpList_load_midg (by rfl) _ _ rfl w.heap.size 0 rfl n.cl _ (ndR (HRR.out _ (by first | assumption | exact Below.refl _ _))) Try.underlying27 rfl ndI ?_)
              | (go_at_call 13; refine (HV.out _).mono ?_; rintro e w1 ⟨⟨v, rfl, ho⟩, hb1⟩; have hEA := ent_own ho; have HEA := Lib.hid hEA; have hb1 := low_and hr0 hb1; obtain ⟨A, cap, rfl, _⟩ := hEA; clear ho)
              | (go_at_call 39; refine (HLn.out _).mono ?_; rintro e w2 ⟨rfl, hb2⟩; have HEA2 := Lib.hid (HEA.out.low hb2); have hb2 := low_and hb1 hb2; have d0 := hC0.out _ hb2; have d1 := hC1.out _ hb2; have d4 := hC4.out _ hb2)
              | (go_at_call 40; refine (HRi.out _ _ HEA2.out).mono ?_; rintro e w3 ⟨rfl, hb3⟩; have hb3 := low_and hb2 hb3))
            go_ret
            exact ⟨by rw [HRf.out]; rfl, low_and HB0.out hb3⟩
        · have HRf := Lib.hid (show R = false by rw [HR.out]; simp [hL1])
          have hL2 : ¬ (Ln : Int) ≤ (n.es.length : Int) + 1 := by omega
          rcases hcase with rfl | ⟨rfl, hnle⟩
          · go_enter Try.func16, Try.ntmps16
            go_wp2_with (first
              | (rw [← HWa.out]; refine wpList_load_mid rfl _ _ rfl w.heap.size 0 rfl n.cl _ (ndR (HRR.out _ (by first | assumption | exact Below.refl _ _))) Try.underlying27 rfl ndI ?_)
              | (refine wpList_load_mid rfl _ _ rfl w.heap.size 0 rfl n.cl _ (ndR (HRR.out _ (by first | assumption | exact Below.refl _ _))) Try.underlying27 rfl ndI ?_)
              | (go_at_call 13; refine (HV.out _).mono ?_; rintro e w1 ⟨⟨v, rfl, ho⟩, hb1⟩; have hEA := ent_own ho; have HEA := Lib.hid hEA; have hb1 := low_and hr0 hb1; obtain ⟨A, cap, rfl, _⟩ := hEA; clear ho)
              | (go_at_call 39; refine (HLn.out _).mono ?_; rintro e w2 ⟨rfl, hb2⟩; have hb2 := low_and hb1 hb2))
            go_ret
            exact ⟨by rw [HRf.out]; rfl, low_and HB0.out hb2⟩
          · go_enter Try.func16, Try.ntmps16
            go_wp2_with (first
              | (rw [← HWa.out]; refine wpList_load_mid rfl _ _ rfl w.heap.size 0 rfl n.cl _ (ndR (HRR.out _ (by first | assumption | exact Below.refl _ _))) Try.underlying27 rfl ndI ?_)
              | (refine wpList_load_mid rfl _ _ rfl w.heap.size 0 rfl n.cl _ (ndR (HRR.out _ (by first | assumption | exact Below.refl _ _))) Try.underlying27 rfl ndI ?_)
              | (go_at_call 13; refine (HV.out _).mono ?_; rintro e w1 ⟨⟨v, rfl, ho⟩, hb1⟩; have hEA := ent_own ho; have HEA := Lib.hid hEA; have hb1 := low_and hr0 hb1; obtain ⟨A, cap, rfl, _⟩ := hEA; clear ho)
              | (go_at_call 39; refine (HLn.out _).mono ?_; rintro e w2 ⟨rfl, hb2⟩; have hb2 := low_and hb1 hb2))
            go_ret
            exact ⟨by rw [HRf.out]; rfl, low_and HB0.out hb2⟩
end Go.Proofs.Ytbadlmicbbjkaaa
