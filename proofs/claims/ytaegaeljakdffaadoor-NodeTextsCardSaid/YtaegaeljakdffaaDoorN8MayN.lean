/- May: may a node be, by any bound; of any node; without conditions. -/
import Derived.Test.YtaegaeljakdffaaDoorN8Unl
import Derived.Test.YtaegaeljakdffaaDoorQLoadG
namespace Go.Proofs.YtaegaeljakdffaaDoor
open Go.RowKit
set_option linter.unusedVariables false
/-- May a node be? -/
def Nd.may (n : Nd) (high : Int) (has : Bool) : Bool :=
  (decide (0 ≤ n.l) && decide (n.l ≤ 15)) && (n.fi != 0) && !(has && decide (high ≤ n.lo)) && decide (n.len ≤ n.es.length + 1) && riseB n.lo (decide (n.l = 0)) n.es && unlB n.fi n.es
set_option maxRecDepth 100000 in
set_option maxHeartbeats 4000000 in
theorem nMay_any (n : Nd) (high : Int) (has : Bool) (w : World) : Calls Tryd.prog 26 #[n.V, .int .u64 high, .bool has] w fun e w' => e = .returned (.bool (n.may high has)) ∧ Below w.heap.size w w' := by
  have r0 := Row.new w 27 n.cl.toArray
  have c0 : (w.alloc (.cells n.cl.toArray 27)).cell? ⟨w.heap.size, 0, none⟩ = some (.int .i64 n.l) := ndAt_at r0 0
  have c1 : (w.alloc (.cells n.cl.toArray 27)).cell? ⟨w.heap.size, 1, none⟩ = some (.int .u64 n.lo) := ndAt_at r0 1
  have c4 : (w.alloc (.cells n.cl.toArray 27)).cell? ⟨w.heap.size, 4, none⟩ = some (.int .u64 n.fi) := ndAt_at r0 4
  have HIs := Lib.hid (isLevel_any n.l (w.alloc (.cells n.cl.toArray 27)))
  have R0 := Lib.hid r0
  obtain ⟨R, hR⟩ : ∃ R, R = n.may high has := ⟨_, rfl⟩
  rw [← hR]
  unfold Nd.may at hR
  obtain ⟨lv, hlv⟩ : ∃ lv, lv = (decide (0 ≤ n.l) && decide (n.l ≤ 15)) := ⟨_, rfl⟩
  rw [← hlv] at hR HIs
  have HV := Lib.hid (nValid_any n (w.alloc (.cells n.cl.toArray 27)))
  have hes := n.es_len
  have hln := n.len_le
  have HB0 := Lib.hid (alloc_low w (.cells n.cl.toArray 27))
  clear hlv r0
  cases lv with
  | false =>
    have HR := Lib.hid (show R = false by rw [hR]; rfl)
    clear hR
    go_enter Tryd.func26, Tryd.ntmps26
    go_wp2_with (go_at_call 39; refine HIs.out.mono ?_; rintro e w' ⟨rfl, rfl⟩)
    go_ret
    exact ⟨by rw [HR.out]; rfl, HB0.out⟩
  | true =>
    obtain hf0 | hf0 : n.fi = 0 ∨ n.fi ≠ 0 := by omega
    · have HR := Lib.hid (show R = false by rw [hR, hf0]; rfl)
      rw [hf0] at c4
      clear hR
      go_enter Tryd.func26, Tryd.ntmps26
      go_wp2_with (go_at_call 39; refine HIs.out.mono ?_; rintro e w' ⟨rfl, rfl⟩)
      go_ret
      exact ⟨by rw [HR.out]; rfl, HB0.out⟩
    · have hfb : (n.fi != 0) = true := by simpa using hf0
      have hfb2 : (n.fi == 0) = false := by simpa using hf0
      rw [hfb] at hR
      obtain hhb | hhb : (has && decide (high ≤ n.lo)) = true ∨ (has && decide (high ≤ n.lo)) = false := by cases (has && decide (high ≤ n.lo)) <;> simp
      · have HR := Lib.hid (show R = false by rw [hR, hhb]; rfl)
        simp only [Bool.and_eq_true, decide_eq_true_eq] at hhb
        obtain ⟨rfl, hle⟩ := hhb
        clear hR
        go_enter Tryd.func26, Tryd.ntmps26
        go_wp2_with (go_at_call 39; refine HIs.out.mono ?_; rintro e w' ⟨rfl, rfl⟩)
        go_ret
        exact ⟨by rw [HR.out]; rfl, HB0.out⟩
      · rw [hhb] at hR
        replace hR : R = (decide (n.len ≤ n.es.length + 1) && riseB n.lo (decide (n.l = 0)) n.es && unlB n.fi n.es) := by rw [hR]; simp
        have HR := Lib.hid hR
        obtain ⟨Wa, hWa⟩ : ∃ Wa, Wa = w.alloc (.cells n.cl.toArray 27) := ⟨_, rfl⟩
        have HWa := Lib.hid hWa
        have d1 := c1
        have d4 := c4
        rw [← hWa] at HIs HV R0 HB0 d1 d4
        have HRR := Lib.hid (fun W' (hb : Below Wa.heap.size Wa W') => (show NdAt W' w.heap.size n from R0.out.below hb R0.out.lt))
        have HLn := Lib.hid (fun W' => nlen_any n W')
        have HRi := Lib.hid (fun W' v (h : EntAt W' v n.es) => nRise_any n h (by omega))
        have HUn := Lib.hid (fun W' v (h : EntAt W' v n.es) => nUnlike_any n h (by omega))
        obtain ⟨Ln, hLn⟩ : ∃ Ln, Ln = n.len := ⟨_, rfl⟩
        have HLd := Lib.hid hLn
        rw [← hLn] at hln
        obtain ⟨rb, hrb⟩ : ∃ rb, rb = riseB n.lo (decide (n.l = 0)) n.es := ⟨_, rfl⟩
        obtain ⟨ub, hub⟩ : ∃ ub, ub = unlB n.fi n.es := ⟨_, rfl⟩
        rw [← hrb, ← hub, ← hLn] at hR
        have HR3 := Lib.hid hR
        rw [← hrb] at HRi
        rw [← hub] at HUn
        rw [← hLn] at HLn
        clear hR hLn hrb hub hWa
        have hcase : has = false ∨ (has = true ∧ ¬ high ≤ n.lo) := by
          cases has with
          | false => exact .inl rfl
          | true => exact .inr ⟨rfl, by simpa using hhb⟩
        clear hhb
        obtain hL1 | hL1 : Ln ≤ n.es.length + 1 ∨ ¬ Ln ≤ n.es.length + 1 := by omega
        · have hL2 : (Ln : Int) - (n.es.length : Int) ≤ 1 := by omega
          cases rb with
          | false =>
            have HRf := Lib.hid (show R = false by rw [HR3.out]; simp)
            rcases hcase with rfl | ⟨rfl, hnle⟩
            · go_enter Tryd.func26, Tryd.ntmps26
              go_wp2_with (first
                | (go_at_call 39; rw [← HWa.out]; refine HIs.out.mono ?_; rintro e w' ⟨rfl, rfl⟩)
                | (refine wpList_load_mid rfl _ _ rfl w.heap.size 0 rfl n.cl _ (ndR (HRR.out _ (by first | assumption | exact Below.refl _ _))) Tryd.underlying27 rfl ndI ?_) | (refine wpList_load_midg (by rfl) _ _ rfl w.heap.size 0 rfl n.cl _ (ndR (HRR.out _ (by first | assumption | exact Below.refl _ _))) Tryd.underlying27 rfl ndI ?_)
                | (go_at_call 19; refine HV.out.mono ?_; rintro e w1 ⟨⟨v, rfl, ho⟩, hb1⟩; have hEA := ent_own ho; have HEA := Lib.hid hEA; obtain ⟨A, cap, rfl, _⟩ := hEA; clear ho)
                | (go_at_call 16; refine (HLn.out _).mono ?_; rintro e w2 ⟨rfl, hb2⟩; have HEA2 := Lib.hid (HEA.out.low hb2); have hb2 := low_and hb1 hb2)
                | (go_at_call 40; refine (HRi.out _ _ HEA2.out).mono ?_; rintro e w3 ⟨rfl, hb3⟩; have HEA3 := Lib.hid (HEA2.out.low hb3); have hb3 := low_and hb2 hb3))
              go_ret
              exact ⟨by rw [HRf.out]; rfl, low_and HB0.out hb3⟩
            · go_enter Tryd.func26, Tryd.ntmps26
              go_wp2_with (first
                | (go_at_call 39; rw [← HWa.out]; refine HIs.out.mono ?_; rintro e w' ⟨rfl, rfl⟩)
                | (refine wpList_load_mid rfl _ _ rfl w.heap.size 0 rfl n.cl _ (ndR (HRR.out _ (by first | assumption | exact Below.refl _ _))) Tryd.underlying27 rfl ndI ?_) | (refine wpList_load_midg (by rfl) _ _ rfl w.heap.size 0 rfl n.cl _ (ndR (HRR.out _ (by first | assumption | exact Below.refl _ _))) Tryd.underlying27 rfl ndI ?_)
                | (go_at_call 19; refine HV.out.mono ?_; rintro e w1 ⟨⟨v, rfl, ho⟩, hb1⟩; have hEA := ent_own ho; have HEA := Lib.hid hEA; obtain ⟨A, cap, rfl, _⟩ := hEA; clear ho)
                | (go_at_call 16; refine (HLn.out _).mono ?_; rintro e w2 ⟨rfl, hb2⟩; have HEA2 := Lib.hid (HEA.out.low hb2); have hb2 := low_and hb1 hb2)
                | (go_at_call 40; refine (HRi.out _ _ HEA2.out).mono ?_; rintro e w3 ⟨rfl, hb3⟩; have HEA3 := Lib.hid (HEA2.out.low hb3); have hb3 := low_and hb2 hb3))
              go_ret
              exact ⟨by rw [HRf.out]; rfl, low_and HB0.out hb3⟩
          | true =>
            have HRf := Lib.hid (show R = ub by rw [HR3.out]; simp [hL1])
            rcases hcase with rfl | ⟨rfl, hnle⟩
            · go_enter Tryd.func26, Tryd.ntmps26
              go_wp2_with (first
                | (go_at_call 39; rw [← HWa.out]; refine HIs.out.mono ?_; rintro e w' ⟨rfl, rfl⟩)
                | (refine wpList_load_mid rfl _ _ rfl w.heap.size 0 rfl n.cl _ (ndR (HRR.out _ (by first | assumption | exact Below.refl _ _))) Tryd.underlying27 rfl ndI ?_) | (refine wpList_load_midg (by rfl) _ _ rfl w.heap.size 0 rfl n.cl _ (ndR (HRR.out _ (by first | assumption | exact Below.refl _ _))) Tryd.underlying27 rfl ndI ?_)
                | (go_at_call 19; refine HV.out.mono ?_; rintro e w1 ⟨⟨v, rfl, ho⟩, hb1⟩; have hEA := ent_own ho; have HEA := Lib.hid hEA; obtain ⟨A, cap, rfl, _⟩ := hEA; clear ho)
                | (go_at_call 16; refine (HLn.out _).mono ?_; rintro e w2 ⟨rfl, hb2⟩; have HEA2 := Lib.hid (HEA.out.low hb2); have hb2 := low_and hb1 hb2)
                | (go_at_call 40; refine (HRi.out _ _ HEA2.out).mono ?_; rintro e w3 ⟨rfl, hb3⟩; have HEA3 := Lib.hid (HEA2.out.low hb3); have hb3 := low_and hb2 hb3)
                | (go_at_call 41; refine (HUn.out _ _ HEA3.out).mono ?_; rintro e w4 ⟨rfl, hb4⟩; have hb4 := low_and hb3 hb4))
              go_ret
              exact ⟨by rw [HRf.out]; rfl, low_and HB0.out hb4⟩
            · go_enter Tryd.func26, Tryd.ntmps26
              go_wp2_with (first
                | (go_at_call 39; rw [← HWa.out]; refine HIs.out.mono ?_; rintro e w' ⟨rfl, rfl⟩)
                | (refine wpList_load_mid rfl _ _ rfl w.heap.size 0 rfl n.cl _ (ndR (HRR.out _ (by first | assumption | exact Below.refl _ _))) Tryd.underlying27 rfl ndI ?_) | (refine wpList_load_midg (by rfl) _ _ rfl w.heap.size 0 rfl n.cl _ (ndR (HRR.out _ (by first | assumption | exact Below.refl _ _))) Tryd.underlying27 rfl ndI ?_)
                | (go_at_call 19; refine HV.out.mono ?_; rintro e w1 ⟨⟨v, rfl, ho⟩, hb1⟩; have hEA := ent_own ho; have HEA := Lib.hid hEA; obtain ⟨A, cap, rfl, _⟩ := hEA; clear ho)
                | (go_at_call 16; refine (HLn.out _).mono ?_; rintro e w2 ⟨rfl, hb2⟩; have HEA2 := Lib.hid (HEA.out.low hb2); have hb2 := low_and hb1 hb2)
                | (go_at_call 40; refine (HRi.out _ _ HEA2.out).mono ?_; rintro e w3 ⟨rfl, hb3⟩; have HEA3 := Lib.hid (HEA2.out.low hb3); have hb3 := low_and hb2 hb3)
                | (go_at_call 41; refine (HUn.out _ _ HEA3.out).mono ?_; rintro e w4 ⟨rfl, hb4⟩; have hb4 := low_and hb3 hb4))
              go_ret
              exact ⟨by rw [HRf.out]; rfl, low_and HB0.out hb4⟩
        · have HRf := Lib.hid (show R = false by rw [HR3.out]; simp [hL1])
          rcases hcase with rfl | ⟨rfl, hnle⟩
          · go_enter Tryd.func26, Tryd.ntmps26
            go_wp2_with (first
              | (go_at_call 39; rw [← HWa.out]; refine HIs.out.mono ?_; rintro e w' ⟨rfl, rfl⟩)
              | (refine wpList_load_mid rfl _ _ rfl w.heap.size 0 rfl n.cl _ (ndR (HRR.out _ (by first | assumption | exact Below.refl _ _))) Tryd.underlying27 rfl ndI ?_) | (refine wpList_load_midg (by rfl) _ _ rfl w.heap.size 0 rfl n.cl _ (ndR (HRR.out _ (by first | assumption | exact Below.refl _ _))) Tryd.underlying27 rfl ndI ?_)
              | (go_at_call 19; refine HV.out.mono ?_; rintro e w1 ⟨⟨v, rfl, ho⟩, hb1⟩; have hEA := ent_own ho; have HEA := Lib.hid hEA; obtain ⟨A, cap, rfl, _⟩ := hEA; clear ho)
              | (go_at_call 16; refine (HLn.out _).mono ?_; rintro e w2 ⟨rfl, hb2⟩; have hb2 := low_and hb1 hb2))
            go_ret
            exact ⟨by rw [HRf.out]; rfl, low_and HB0.out (by assumption)⟩
          · go_enter Tryd.func26, Tryd.ntmps26
            go_wp2_with (first
              | (go_at_call 39; rw [← HWa.out]; refine HIs.out.mono ?_; rintro e w' ⟨rfl, rfl⟩)
              | (refine wpList_load_mid rfl _ _ rfl w.heap.size 0 rfl n.cl _ (ndR (HRR.out _ (by first | assumption | exact Below.refl _ _))) Tryd.underlying27 rfl ndI ?_) | (refine wpList_load_midg (by rfl) _ _ rfl w.heap.size 0 rfl n.cl _ (ndR (HRR.out _ (by first | assumption | exact Below.refl _ _))) Tryd.underlying27 rfl ndI ?_)
              | (go_at_call 19; refine HV.out.mono ?_; rintro e w1 ⟨⟨v, rfl, ho⟩, hb1⟩; have hEA := ent_own ho; have HEA := Lib.hid hEA; obtain ⟨A, cap, rfl, _⟩ := hEA; clear ho)
              | (go_at_call 16; refine (HLn.out _).mono ?_; rintro e w2 ⟨rfl, hb2⟩; have hb2 := low_and hb1 hb2))
            go_ret
            exact ⟨by rw [HRf.out]; rfl, low_and HB0.out (by assumption)⟩
end Go.Proofs.YtaegaeljakdffaaDoor
