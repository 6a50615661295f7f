/- Texts of this claim, packed: N8RefM, SnTl, N9Sm, N9Bg, N9Mv, N9Rfl. -/
import Derived.Test.YteojhhfcfdkmdaaPm31
import Derived.Test.YteojhhfcfdkmdaaPm10
import Derived.Test.YteojhhfcfdkmdaaPm11
import Derived.Test.YteojhhfcfdkmdaaPm06
import Derived.WalkMore
set_option linter.unusedSimpArgs false
set_option linter.unusedVariables false
/- The document's May: of any node; without conditions. -/
namespace Go.Proofs.Yteojhhfcfdkmdaa
open Go.RowKit
set_option linter.unusedVariables false
theorem may_r (n : Nd) (high : Int) (has : Bool) : n.may high has = ((decide (0 ≤ n.l) && decide (n.l ≤ 15)) && (n.fi != 0) && !(has && decide (high ≤ n.lo)) && (decide (n.len ≤ n.es.length + 1) && riseR n.l n.lo n.fi n.es)) := by
  unfold Nd.may riseR
  by_cases h : 0 ≤ n.l
  · rw [show decide (n.l = 0) = decide (n.l ≤ 0) by congr 1; apply propext; omega]
    cases decide (0 ≤ n.l) <;> cases decide (n.l ≤ 15) <;> cases (n.fi != 0) <;> cases (has && decide (high ≤ n.lo)) <;> cases decide (n.len ≤ n.es.length + 1) <;> simp
  · rw [show decide (0 ≤ n.l) = false by simpa using h]
    simp
set_option maxRecDepth 100000 in
set_option maxHeartbeats 4000000 in
theorem r8May_any (n : Nd) (high : Int) (has : Bool) (w : World) : Calls Try.prog 18 #[n.V, .int .u64 high, .bool has] w fun e w' => e = .returned (.bool (n.may high has)) ∧ Below w.heap.size w w' := by
  have r0 := Row.new w 27 n.cl.toArray
  have c0 : (w.alloc (.cells n.cl.toArray 27)).cell? ⟨w.heap.size, 0, none⟩ = some (.int .i64 n.l) := ndAt_at r0 0
  have c1 : (w.alloc (.cells n.cl.toArray 27)).cell? ⟨w.heap.size, 1, none⟩ = some (.int .u64 n.lo) := ndAt_at r0 1
  have c4 : (w.alloc (.cells n.cl.toArray 27)).cell? ⟨w.heap.size, 4, none⟩ = some (.int .u64 n.fi) := ndAt_at r0 4
  have R0 := Lib.hid r0
  have hes := n.es_len
  have hln := n.len_le
  have hR := may_r n high has
  obtain ⟨R, hRR⟩ : ∃ R, R = n.may high has := ⟨_, rfl⟩
  rw [← hRR] at hR ⊢
  obtain ⟨Wa, hWa⟩ : ∃ Wa, Wa = w.alloc (.cells n.cl.toArray 27) := ⟨_, rfl⟩
  have HWa := Lib.hid hWa
  have HB0 := Lib.hid (show Below w.heap.size w Wa by rw [hWa]; exact alloc_low _ _)
  have HRR := Lib.hid (fun W' (hb : Below Wa.heap.size Wa W') => (show NdAt W' w.heap.size n from by rw [← hWa] at r0; exact r0.below hb r0.lt))
  have hr0 := Below.refl Wa.heap.size Wa
  clear hRR r0 hWa
  have hcases : (n.l < 0 ∨ (¬ n.l < 0 ∧ 15 < n.l)) ∨ (0 ≤ n.l ∧ n.l ≤ 15) := by omega
  rcases hcases with (hl | ⟨hl, hl2⟩) | ⟨hl, hl2⟩
  · have HR := Lib.hid (show R = false by rw [hR, show decide (0 ≤ n.l) = false by simp; omega]; rfl)
    clear hR
    go_enter Try.func18, Try.ntmps18
    go_wp2
    go_ret
    exact ⟨by rw [HR.out]; rfl, by rw [← HWa.out]; exact HB0.out⟩
  · have HR := Lib.hid (show R = false by rw [hR, show decide (n.l ≤ 15) = false by simp; omega, Bool.and_false]; rfl)
    clear hR
    go_enter Try.func18, Try.ntmps18
    go_wp2
    go_ret
    exact ⟨by rw [HR.out]; rfl, by rw [← HWa.out]; exact HB0.out⟩
  · have hl3 : ¬ n.l < 0 := by omega
    have hl4 : ¬ 15 < n.l := by omega
    rw [show decide (0 ≤ n.l) = true by simpa using hl, show decide (n.l ≤ 15) = true by simpa using hl2] at hR
    obtain hf0 | hf0 : n.fi = 0 ∨ n.fi ≠ 0 := by omega
    · have HR := Lib.hid (show R = false by rw [hR, hf0]; rfl)
      rw [hf0] at c4
      clear hR
      go_enter Try.func18, Try.ntmps18
      go_wp2
      go_ret
      exact ⟨by rw [HR.out]; rfl, by rw [← HWa.out]; exact HB0.out⟩
    · have hfb : (n.fi != 0) = true := by simpa using hf0
      have hfb2 : (n.fi == 0) = false := by simpa using hf0
      rw [hfb] at hR
      obtain hhb | hhb : (has && decide (high ≤ n.lo)) = true ∨ (has && decide (high ≤ n.lo)) = false := by cases (has && decide (high ≤ n.lo)) <;> simp
      · have HR := Lib.hid (show R = false by rw [hR, hhb]; rfl)
        simp only [Bool.and_eq_true, decide_eq_true_eq] at hhb
        obtain ⟨rfl, hle⟩ := hhb
        clear hR
        go_enter Try.func18, Try.ntmps18
        go_wp2
        go_ret
        exact ⟨by rw [HR.out]; rfl, by rw [← HWa.out]; exact HB0.out⟩
      · rw [hhb] at hR
        have HV := Lib.hid (fun W' => r8Valid_any n W')
        have HLn := Lib.hid (fun W' => r8Len_any n W')
        have HRi := Lib.hid (fun W' v (h : EntAt W' v n.es) => r8Rise_any h (by omega) n.l n.lo n.fi)
        have hC0 := Lib.hid (fun W' (hb : Below Wa.heap.size Wa W') => (show W'.cell? ⟨w.heap.size, 0, none⟩ = some (.int .i64 n.l) from ndAt_at (HRR.out W' hb) 0))
        have hC1 := Lib.hid (fun W' (hb : Below Wa.heap.size Wa W') => (show W'.cell? ⟨w.heap.size, 1, none⟩ = some (.int .u64 n.lo) from ndAt_at (HRR.out W' hb) 1))
        have hC4 := Lib.hid (fun W' (hb : Below Wa.heap.size Wa W') => (show W'.cell? ⟨w.heap.size, 4, none⟩ = some (.int .u64 n.fi) from ndAt_at (HRR.out W' hb) 4))
        replace hR : R = (decide (n.len ≤ n.es.length + 1) && riseR n.l n.lo n.fi n.es) := by rw [hR]; simp
        obtain ⟨Ln, hLn⟩ : ∃ Ln, Ln = n.len := ⟨_, rfl⟩
        rw [← hLn] at hR HLn hln
        obtain ⟨rb, hrb⟩ : ∃ rb, rb = riseR n.l n.lo n.fi n.es := ⟨_, rfl⟩
        rw [← hrb] at hR HRi
        have HR := Lib.hid hR
        have hcase : has = false ∨ (has = true ∧ ¬ high ≤ n.lo) := by
          cases has with
          | false => exact .inl rfl
          | true => exact .inr ⟨rfl, by simpa using hhb⟩
        clear hR hLn hrb hhb
        obtain hL1 | hL1 : Ln ≤ n.es.length + 1 ∨ ¬ Ln ≤ n.es.length + 1 := by omega
        · have hL2 : (Ln : Int) ≤ (n.es.length : Int) + 1 := by omega
          have HRf := Lib.hid (show R = rb by rw [HR.out]; simp [hL1])
          rcases hcase with rfl | ⟨rfl, hnle⟩
          · go_enter Try.func18, Try.ntmps18
            go_wp2_with (first
              | (rw [← HWa.out]; refine wpList_load_mid rfl _ _ rfl w.heap.size 0 rfl n.cl _ (ndR (HRR.out _ (by first | assumption | exact Below.refl _ _))) Try.underlying27 rfl ndI ?_)
              | (refine wpList_load_mid rfl _ _ rfl w.heap.size 0 rfl n.cl _ (ndR (HRR.out _ (by first | assumption | exact Below.refl _ _))) Try.underlying27 rfl ndI ?_)
              | (refine wpList_load_midg (by rfl) _ _ rfl w.heap.size 0 rfl n.cl _ (ndR (HRR.out _ (by first | assumption | exact Below.refl _ _))) Try.underlying27 rfl ndI ?_)
              | (go_at_call 17; refine (HV.out _).mono ?_; rintro e w1 ⟨⟨v, rfl, ho⟩, hb1⟩; have hEA := ent_own ho; have HEA := Lib.hid hEA; have hb1 := low_and hr0 hb1; obtain ⟨A, cap, rfl, _⟩ := hEA; clear ho)
              | (go_at_call 16; refine (HLn.out _).mono ?_; rintro e w2 ⟨rfl, hb2⟩; have HEA2 := Lib.hid (HEA.out.low hb2); have hb2 := low_and hb1 hb2; have d0 := hC0.out _ hb2; have d1 := hC1.out _ hb2; have d4 := hC4.out _ hb2)
              | (go_at_call 36; refine (HRi.out _ _ HEA2.out).mono ?_; rintro e w3 ⟨rfl, hb3⟩; have hb3 := low_and hb2 hb3))
            go_ret
            exact ⟨by rw [HRf.out]; rfl, low_and HB0.out hb3⟩
          · go_enter Try.func18, Try.ntmps18
            go_wp2_with (first
              | (rw [← HWa.out]; refine wpList_load_mid rfl _ _ rfl w.heap.size 0 rfl n.cl _ (ndR (HRR.out _ (by first | assumption | exact Below.refl _ _))) Try.underlying27 rfl ndI ?_)
              | (refine wpList_load_mid rfl _ _ rfl w.heap.size 0 rfl n.cl _ (ndR (HRR.out _ (by first | assumption | exact Below.refl _ _))) Try.underlying27 rfl ndI ?_)
              | (refine wpList_load_midg (by rfl) _ _ rfl w.heap.size 0 rfl n.cl _ (ndR (HRR.out _ (by first | assumption | exact Below.refl _ _))) Try.underlying27 rfl ndI ?_)
              | (go_at_call 17; refine (HV.out _).mono ?_; rintro e w1 ⟨⟨v, rfl, ho⟩, hb1⟩; have hEA := ent_own ho; have HEA := Lib.hid hEA; have hb1 := low_and hr0 hb1; obtain ⟨A, cap, rfl, _⟩ := hEA; clear ho)
              | (go_at_call 16; refine (HLn.out _).mono ?_; rintro e w2 ⟨rfl, hb2⟩; have HEA2 := Lib.hid (HEA.out.low hb2); have hb2 := low_and hb1 hb2; have d0 := hC0.out _ hb2; have d1 := hC1.out _ hb2; have d4 := hC4.out _ hb2)
              | (go_at_call 36; refine (HRi.out _ _ HEA2.out).mono ?_; rintro e w3 ⟨rfl, hb3⟩; have hb3 := low_and hb2 hb3))
            go_ret
            exact ⟨by rw [HRf.out]; rfl, low_and HB0.out hb3⟩
        · have HRf := Lib.hid (show R = false by rw [HR.out]; simp [hL1])
          have hL2 : ¬ (Ln : Int) ≤ (n.es.length : Int) + 1 := by omega
          rcases hcase with rfl | ⟨rfl, hnle⟩
          · go_enter Try.func18, Try.ntmps18
            go_wp2_with (first
              | (rw [← HWa.out]; refine wpList_load_mid rfl _ _ rfl w.heap.size 0 rfl n.cl _ (ndR (HRR.out _ (by first | assumption | exact Below.refl _ _))) Try.underlying27 rfl ndI ?_)
              | (refine wpList_load_mid rfl _ _ rfl w.heap.size 0 rfl n.cl _ (ndR (HRR.out _ (by first | assumption | exact Below.refl _ _))) Try.underlying27 rfl ndI ?_)
              | (go_at_call 17; refine (HV.out _).mono ?_; rintro e w1 ⟨⟨v, rfl, ho⟩, hb1⟩; have hEA := ent_own ho; have HEA := Lib.hid hEA; have hb1 := low_and hr0 hb1; obtain ⟨A, cap, rfl, _⟩ := hEA; clear ho)
              | (go_at_call 16; refine (HLn.out _).mono ?_; rintro e w2 ⟨rfl, hb2⟩; have hb2 := low_and hb1 hb2))
            go_ret
            exact ⟨by rw [HRf.out]; rfl, low_and HB0.out hb2⟩
          · go_enter Try.func18, Try.ntmps18
            go_wp2_with (first
              | (rw [← HWa.out]; refine wpList_load_mid rfl _ _ rfl w.heap.size 0 rfl n.cl _ (ndR (HRR.out _ (by first | assumption | exact Below.refl _ _))) Try.underlying27 rfl ndI ?_)
              | (refine wpList_load_mid rfl _ _ rfl w.heap.size 0 rfl n.cl _ (ndR (HRR.out _ (by first | assumption | exact Below.refl _ _))) Try.underlying27 rfl ndI ?_)
              | (go_at_call 17; refine (HV.out _).mono ?_; rintro e w1 ⟨⟨v, rfl, ho⟩, hb1⟩; have hEA := ent_own ho; have HEA := Lib.hid hEA; have hb1 := low_and hr0 hb1; obtain ⟨A, cap, rfl, _⟩ := hEA; clear ho)
              | (go_at_call 16; refine (HLn.out _).mono ?_; rintro e w2 ⟨rfl, hb2⟩; have hb2 := low_and hb1 hb2))
            go_ret
            exact ⟨by rw [HRf.out]; rfl, low_and HB0.out hb2⟩
end Go.Proofs.Yteojhhfcfdkmdaa
/- The law's trim; which nodes the law takes; no conditions. -/
namespace Go.Proofs.Yteojhhfcfdkmdaa
open Go.RowKit
set_option linter.unusedVariables false
attribute [local go_sem] Oper.semAt_some
theorem TrK.len {n m : Nd} {i : Nat} (h : TrK n m i) : m.len = n.len := by
  refine m.len_eq n.len_le (fun j hj => ?_) (fun h8 => ?_)
  · have := n.len_le
    rw [h.2.1 j (by omega)]
    exact n.len_before hj
  · rw [h.2.1 _ h8]
    exact n.len_at h8
theorem TrK.done {n m : Nd} (h : TrK n m 8) : m.tr (m.len + 1) m.len = n.tr n.len n.len := by
  rw [h.len]
  refine Nd.ext_of h.1 (fun i hi => ?_) (fun i hi => ?_)
  · rw [m.tr_key _ _ hi, n.tr_key _ _ hi, h.2.2 i hi]
    by_cases h1 : i < n.len
    · rw [if_pos (by omega), if_neg (by omega), if_pos h1]
    · rw [if_neg h1, if_pos (show n.len ≤ i ∧ i < 8 by omega)]
      split <;> rfl
  · rw [m.tr_ptr _ _ hi, n.tr_ptr _ _ hi, h.2.1 i hi]
set_option maxRecDepth 100000 in
set_option maxHeartbeats 3200000 in
theorem trim11_any (n : Nd) (w : World) : Calls Try.prog 10 #[n.V] w fun e w' => e = .returned (n.tr n.len n.len).V ∧ Below w.heap.size w w' := by
  have hlen8 := n.len_le
  have rx := Row.new w 27 n.cl.toArray
  have ry := Row.new (w.alloc (.cells n.cl.toArray 27)) 27 zeroNd.cl.toArray
  simp only [World.size_alloc] at ry
  obtain ⟨W1, hW1⟩ : ∃ W1, W1 = (w.alloc (.cells n.cl.toArray 27)).alloc (.cells #[.int .i64 0, .int .u64 0, .int .u64 0, .int .u64 0, .int .u64 0, .int .u64 0, .int .u64 0, .int .u64 0, .int .u64 0, .int .u64 0, .int .u64 0, .int .u64 0, .int .u64 0, .int .u64 0, .int .u64 0, .int .u64 0, .int .u64 0, .int .u64 0, .int .u64 0, .int .u64 0, .int .u64 0] 27) := ⟨_, rfl⟩
  have HB1 := Lib.hid (show Below w.heap.size w W1 by rw [hW1]; exact low_and (alloc_low _ _) (alloc_low _ _))
  have R0 := Lib.hid (show NdAt W1 w.heap.size n by rw [hW1]; exact rx.alloc _)
  have R1 := Lib.hid (show NdAt W1 (w.heap.size + 1) zeroNd by rw [hW1]; exact ry)
  have HS1 := Lib.hid (show w.heap.size + 2 ≤ W1.heap.size by rw [hW1]; simp)
  have HW1 := Lib.hid hW1
  have HL1 := Lib.hid (r8Len_any n W1)
  obtain ⟨k0, hk0⟩ : ∃ k0, k0 = n.len := ⟨_, rfl⟩
  rw [← hk0] at hlen8 HL1
  have HK0 := Lib.hid hk0
  clear hW1 rx ry hk0
  go_enter Try.func10, Try.ntmps10
  go_wp2_with (first
    | (rw [← HW1.out]; refine wpList_load_mid rfl _ _ rfl w.heap.size 0 rfl n.cl _ (ndR R0.out) Try.underlying27 rfl ndI ?_)
    | (refine HL1.out.mono ?_; rintro e w2 ⟨rfl, hb2⟩; have HB2 := Lib.hid hb2; clear hb2))
  have hsz2 := HB2.out.size
  have hsz1 := HS1.out
  go_loopw [3] (fun i wr => ∃ (k : Nat) (m : Nd), k0 ≤ k ∧ k ≤ 8 ∧ i = .int .i64 (k : Int) ∧ NdAt wr w.heap.size m ∧ NdAt wr (w.heap.size + 1) zeroNd ∧ TrK n m k ∧ Below w.heap.size w wr ∧ w.heap.size + 2 ≤ wr.heap.size) (fun i _ => 8 - (intOf i).toNat)
  case atStart => exact ⟨k0, n, Nat.le_refl _, hlen8, rfl, R0.out.below HB2.out R0.out.lt, R1.out.below HB2.out R1.out.lt, ⟨rfl, fun _ _ => rfl, fun j _ => by rw [if_neg (by have := HK0.out; omega)]⟩, low_and HB1.out HB2.out, by omega⟩
  case round =>
    rename World => wr
    obtain ⟨k, m, hk0, hk8, rfl, h0, h1, ht, hb, hsz⟩ := hrel
    have H0 := Lib.hid h0
    have H1 := Lib.hid h1
    have HB := Lib.hid hb
    have HT := Lib.hid ht
    by_cases hlt : k < 8
    · have c5 := ndAt_key h0 hlt
      have f5 := h0.free (5 + k)
      have HST := Lib.hid (ht.step hlt (by rw [← HK0.out]; exact hk0))
      clear h0 h1 hb ht
      go_wp2
      refine ⟨⟨k + 1, m.sk k 0, by omega, by omega, by go_num, ?_, H1.out.other (p := ⟨w.heap.size, 5 + k, none⟩) (by dsimp only; omega) _, HST.out, ?_, by simpa using hsz⟩, by simp [intOf]; omega⟩
      · have := H0.out.set (5 + k) (uw 0)
        rw [m.sk_cl hlt] at this
        exact this
      · have := HB.out.setCell (p := ⟨w.heap.size, 5 + k, none⟩) (Nat.le_refl _) (.int .u64 0)
        exact ⟨this.os, this.tape, this.output, this.size, this.block⟩
    · obtain rfl : k = 8 := by omega
      have HTR := Lib.hid (r11Trim_any m wr)
      rw [ht.done] at HTR
      clear h0 h1 hb ht hlt
      go_wp2_with (first
        | (refine wpList_load_mid rfl _ _ rfl w.heap.size 0 rfl m.cl _ (ndR H0.out) Try.underlying27 rfl ndI ?_)
        | (refine HTR.out.mono ?_; rintro e w3 ⟨rfl, hb3⟩; have HB3 := Lib.hid hb3; have H13 := Lib.hid (H1.out.below hb3 H1.out.lt); clear hb3)
        | (refine wpList_store_row rfl _ _ _ rfl (w.heap.size + 1) (n.tr n.len n.len).cl rfl rfl H13.out rfl ndI (cl_one _) ?_))
      refine bodyPost_ret (results_node1 rfl _ _ (w.heap.size + 1) (n.tr n.len n.len) rfl (row_setCells H13.out rfl)) rfl ⟨rfl, setCells_low _ (by omega) (low_and HB.out HB3.out)⟩
/-- The node that the law takes, and whether it does. -/
def Nd.side (n : Nd) : Nd := if n.nx = 0 then n else { n with nx := 1280 }
def rightB (n : Nd) : Bool := n.side.may 0 false && decide (n.side.inv < 0)
theorem Nd.side_eq {n : Nd} (h : n.nx = 0) : n.side = n := by unfold Nd.side; rw [if_pos h]
theorem Nd.side_cl {n : Nd} (h : n.nx ≠ 0) : n.cl.toArray.setIfInBounds 2 (uw 1280) = n.side.cl.toArray := by unfold Nd.side; rw [if_neg h]; rfl
end Go.Proofs.Yteojhhfcfdkmdaa
/- fast's small functions, and the document's: isBase, may, mayHave, ahead; kt, pt, ahead, may; of any node; conditions: numbers of the width. -/
namespace Go.Proofs.Yteojhhfcfdkmdaa
open Go.RowKit
set_option linter.unusedVariables false
/-- May a node stand there? -/
def bOk (b : Int) : Bool := decide (b % 64 = 0) && decide (0 < b) && decide (b ≤ 1099511627776)
theorem bOk_iff (b : Int) : bOk b = true ↔ b % 64 = 0 ∧ 0 < b ∧ b ≤ 1099511627776 := by simp [bOk, and_assoc]
theorem tmod64 {b : Int} (h : 0 ≤ b) : b.tmod 64 = b % 64 := Int.tmod_eq_emod_of_nonneg h
set_option maxRecDepth 100000 in
set_option maxHeartbeats 1600000 in
theorem isBase_any {b : Int} (hb : 0 ≤ b) (w : World) : Calls Try.prog 47 #[.int .u64 b] w fun e w' => e = .returned (.bool (bOk b)) ∧ w = w' := by
  obtain ⟨R, hR⟩ : ∃ R, R = bOk b := ⟨_, rfl⟩
  rw [← hR]
  have HR := Lib.hid hR
  have hm := tmod64 hb
  clear hR
  obtain h1 | h1 : b % 64 = 0 ∨ b % 64 ≠ 0 := by omega
  · have hm1 : b.tmod 64 = 0 := by omega
    clear hm
    obtain h2 | h2 : 0 < b ∨ ¬ 0 < b := by omega
    · obtain h3 | h3 : b ≤ 1099511627776 ∨ ¬ b ≤ 1099511627776 := by omega
      · have HRt := Lib.hid (show R = true by rw [HR.out]; exact (bOk_iff b).2 ⟨h1, h2, h3⟩)
        go_enter Try.func47, Try.ntmps47
        go_wp2
        go_ret
        exact ⟨by rw [HRt.out]; rfl, rfl⟩
      · have HRt := Lib.hid (show R = false by rw [HR.out, Bool.eq_false_iff]; intro h; have := (bOk_iff b).1 h; omega)
        go_enter Try.func47, Try.ntmps47
        go_wp2
        go_ret
        exact ⟨by rw [HRt.out]; rfl, rfl⟩
    · have HRt := Lib.hid (show R = false by rw [HR.out, Bool.eq_false_iff]; intro h; have := (bOk_iff b).1 h; omega)
      go_enter Try.func47, Try.ntmps47
      go_wp2
      go_ret
      exact ⟨by rw [HRt.out]; rfl, rfl⟩
  · have hm1 : (b.tmod 64 == 0) = false := by rw [hm]; simpa using h1
    have HRt := Lib.hid (show R = false by rw [HR.out, Bool.eq_false_iff]; intro h; have := (bOk_iff b).1 h; omega)
    clear hm
    go_enter Try.func47, Try.ntmps47
    go_wp2
    go_ret
    exact ⟨by rw [HRt.out]; rfl, rfl⟩
set_option maxRecDepth 100000 in
set_option maxHeartbeats 1600000 in
theorem fmay_any {b : Int} (hb : 0 ≤ b) (n : Nd) (w : World) : Calls Try.prog 76 #[.int .u64 b, n.V] w fun e w' => e = .returned (.bool (bOk b && n.may 0 false)) ∧ Below w.heap.size w w' := by
  have R0 := Lib.hid (Row.new w 27 n.cl.toArray)
  have HB := Lib.hid (isBase_any hb (w.alloc (.cells n.cl.toArray 27)))
  have HM := Lib.hid (nMay_any n 0 false (w.alloc (.cells n.cl.toArray 27)))
  have HB0 := Lib.hid (alloc_low w (.cells n.cl.toArray 27))
  generalize bOk b = c at HB ⊢
  generalize n.may 0 false = m at HM ⊢
  cases c with
  | false =>
    go_enter Try.func76, Try.ntmps76
    go_wp2_with (go_at_call 47; refine HB.out.mono ?_; rintro e w' ⟨rfl, rfl⟩)
    go_ret
    exact ⟨rfl, HB0.out⟩
  | true =>
    go_enter Try.func76, Try.ntmps76
    go_wp2_with (first
      | (go_at_call 47; refine HB.out.mono ?_; rintro e w' ⟨rfl, rfl⟩)
      | (refine wpList_load_midg (by rfl) _ _ rfl w.heap.size 0 rfl n.cl _ (ndR R0.out) Try.underlying27 rfl ndI ?_)
      | (go_at_call 86; refine HM.out.mono ?_; rintro e w2 ⟨rfl, h2⟩))
    go_ret
    exact ⟨rfl, low_and HB0.out h2⟩
/-- May a key be in a node, by its Low? -/
def Nd.mayHave (n : Nd) (key : Int) : Bool := decide (n.lo < key) || (decide (key = n.lo) && decide (n.l = 0))
set_option maxRecDepth 100000 in
set_option maxHeartbeats 1600000 in
theorem mayHave_any (n : Nd) (key : Int) (w : World) : Calls Try.prog 59 #[n.V, .int .u64 key] w fun e w' => e = .returned (.bool (n.mayHave key)) ∧ Below w.heap.size w w' := by
  have r0 := Row.new w 27 n.cl.toArray
  have c0 : (w.alloc (.cells n.cl.toArray 27)).cell? ⟨w.heap.size, 0, none⟩ = some (.int .i64 n.l) := ndAt_at r0 0
  have c1 : (w.alloc (.cells n.cl.toArray 27)).cell? ⟨w.heap.size, 1, none⟩ = some (.int .u64 n.lo) := ndAt_at r0 1
  have HB0 := Lib.hid (alloc_low w (.cells n.cl.toArray 27))
  obtain ⟨R, hR⟩ : ∃ R, R = n.mayHave key := ⟨_, rfl⟩
  rw [← hR]
  unfold Nd.mayHave at hR
  clear r0
  obtain h1 | h1 : n.lo < key ∨ ¬ n.lo < key := by omega
  · have HR := Lib.hid (show R = true by rw [hR, decide_eq_true h1]; rfl)
    clear hR
    go_enter Try.func59, Try.ntmps59
    go_wp2
    go_ret
    exact ⟨by rw [HR.out]; rfl, HB0.out⟩
  · obtain h2 | h2 : key = n.lo ∨ key ≠ n.lo := by omega
    · have h2b : (key == n.lo) = true := by simpa using h2
      obtain h3 | h3 : n.l = 0 ∨ n.l ≠ 0 := by omega
      · have HR := Lib.hid (show R = true by rw [hR]; simp [h2, h3])
        rw [h3] at c0
        clear hR h2
        go_enter Try.func59, Try.ntmps59
        go_wp2
        go_ret
        exact ⟨by rw [HR.out]; rfl, HB0.out⟩
      · have HR := Lib.hid (show R = false by rw [hR]; simp [h3]; omega)
        have h3b : (n.l == 0) = false := by simpa using h3
        clear hR h2
        go_enter Try.func59, Try.ntmps59
        go_wp2
        go_ret
        exact ⟨by rw [HR.out]; rfl, HB0.out⟩
    · have h2b : (key == n.lo) = false := by simpa using h2
      have HR := Lib.hid (show R = false by rw [hR]; simp [h2]; omega)
      clear hR
      go_enter Try.func59, Try.ntmps59
      go_wp2
      go_ret
      exact ⟨by rw [HR.out]; rfl, HB0.out⟩
set_option maxRecDepth 100000 in
set_option maxHeartbeats 1600000 in
theorem fahead_any (n : Nd) {p : Nat} (hp : p ≤ 8) (w : World) : Calls Try.prog 67 #[n.V, .int .i64 (p : Int)] w fun e w' => e = .returned (.int .u64 (n.ahd p)) ∧ Below w.heap.size w w' := by
  have r0 := Row.new w 27 n.cl.toArray
  have c4 : (w.alloc (.cells n.cl.toArray 27)).cell? ⟨w.heap.size, 4, none⟩ = some (.int .u64 n.fi) := ndAt_at r0 4
  have HB0 := Lib.hid (alloc_low w (.cells n.cl.toArray 27))
  obtain rfl | ⟨j, rfl⟩ : p = 0 ∨ ∃ j, p = j + 1 := by cases p; exact .inl rfl; exact .inr ⟨_, rfl⟩
  · rw [n.ahd_zero]
    clear r0
    go_enter Try.func67, Try.ntmps67
    go_wp2
    go_ret
    exact ⟨rfl, HB0.out⟩
  · have cj := ndAt_ptr r0 (i := j) (by omega)
    rw [n.ahd_succ]
    obtain ⟨y, hy⟩ : ∃ y, y = n.ptr j := ⟨_, rfl⟩
    rw [← hy] at cj ⊢
    have hj1 : ((j + 1 : Nat) : Int) - 1 = (j : Int) := by omega
    have hj8 : (j : Int) < 8 := by omega
    clear r0 hy
    go_enter Try.func67, Try.ntmps67
    go_wp2
    go_ret
    exact ⟨rfl, HB0.out⟩
end Go.Proofs.Yteojhhfcfdkmdaa
/- fast's begin and end of a change; of any node; conditions: a base that may be. -/
namespace Go.Proofs.Yteojhhfcfdkmdaa
open Go.RowKit
set_option linter.unusedVariables false
theorem run_build_ch (base : Int) (n : Nd) (W : World) : (Instr.build 139 #[(0, .int .u64 base), (1, .agg n.cl.toArray)]).run Try.prog W = .ok (.agg (chC base n (.slice none 0 0)).toArray) W := by
  kernel_rfl
/-- A change is built of its base and its node. -/
theorem wpList_build_ch {ops : Array Oper} {rest : List Oper} {op : Oper} {a : Act} {w : World} {Q : Exit → Act → World → Prop} (hgd : op.guard = none) (x y : Operand) (ho : op.op = .build 139 #[(0, x), (1, y)])
    (base : Int) (n : Nd) (hx : a.eval x = .int .u64 base) (hy : a.eval y = .agg n.cl.toArray) (h : wpList Try.prog ops Q rest (a.put op.dst (.agg (chC base n (.slice none 0 0)).toArray)) w) : wpList Try.prog ops Q (op :: rest) a w :=
  wpList_plain hgd fun _ hK => by
    unfold Oper.wp execOp
    simp only [ho]
    simp only [List.map_toArray, List.map_cons, List.map_nil, hx, hy, run_build_ch, Sem.run_bind, Sem.run_pure, Result.andThen_ok]
    exact hK _ _ h
set_option maxRecDepth 100000 in
set_option maxHeartbeats 4000000 in
theorem begin_any {base : Int} (hb : 0 ≤ base ∧ base ≤ 1099511627776) (n : Nd) (w : World) : Calls Try.prog 61 #[.int .u64 base, n.V] w fun e w' => ∃ b, e = .returned (.pointer (some ⟨b, 0, none⟩)) ∧ ChAt w' w.heap.size b base n [(base + 24, IntKind.u64.wrap (n.ct + 1))] ∧ Below w.heap.size w w' := by
  have r0 := Row.new w 27 n.cl.toArray
  have HR0 := Lib.hid r0
  obtain ⟨W2, hW2⟩ : ∃ W2, W2 = (w.alloc (.cells n.cl.toArray 27)).alloc (.cells (chC base n (.slice none 0 0)).toArray 139) := ⟨_, rfl⟩
  have c3 : W2.cell? ⟨w.heap.size, 3, none⟩ = some (.int .u64 n.ct) := by rw [hW2]; exact ndAt_at (r0.alloc _) 3
  have hch : ChAt W2 w.heap.size (w.heap.size + 1) base n [] := by
    rw [hW2]
    refine ⟨by omega, .slice none 0 0, ?_, World.ownsRow_nil _ _ _ _, fun e => by cases e⟩
    have := Row.new (w.alloc (.cells n.cl.toArray 27)) 139 (chC base n (.slice none 0 0)).toArray
    simpa only [World.size_alloc] using this
  have HBW := Lib.hid (show Below w.heap.size w W2 by rw [hW2]; exact low_and (alloc_low _ _) (alloc_low _ _))
  have HS := Lib.hid (cstore_any hch (by simp) hb (at_ := 24) (by omega) (IntKind.u64.wrap (n.ct + 1)))
  have HW2 := Lib.hid hW2
  clear r0 hW2 hch
  go_enter Try.func61, Try.ntmps61
  go_wp2_with (first
    | (refine wpList_load_mid rfl _ _ rfl w.heap.size 0 rfl n.cl _ (ndR HR0.out) Try.underlying27 rfl ndI ?_)
    | (refine wpList_build_ch rfl _ _ rfl base n rfl rfl ?_)
    | (rw [← HW2.out])
    | (go_at_call 70; refine HS.out.mono ?_; rintro e w3 ⟨rfl, h3, hb3⟩))
  go_ret
  exact ⟨_, rfl, h3, HBW.out.trans hb3⟩
set_option maxRecDepth 100000 in
set_option maxHeartbeats 4000000 in
theorem cend_any {w : World} {B b : Nat} {base : Int} {n : Nd} {l : List (Int × Int)} (h : ChAt w B b base n l) (hl : l.length ≤ 1000) (hb : 0 ≤ base ∧ base ≤ 1099511627776) :
    Calls Try.prog 66 #[.pointer (some ⟨b, 0, none⟩)] w fun e w' => (∃ v, e = .returned v ∧ w'.ownsRow B 64 2 v (l.length + 1) (flatE (l ++ [(base + 24, IntKind.u64.wrap (n.ct + 2))]))) ∧ Below B w w' := by
  have hn := h.node 3 (.int .u64 n.ct) rfl
  have HS := Lib.hid (cstore_any h hl hb (at_ := 24) (by omega) (IntKind.u64.wrap (n.ct + 2)))
  clear h
  go_enter Try.func66, Try.ntmps66
  go_wp2_with (first
    | (go_at_call 70; refine HS.out.mono ?_; rintro e w3 ⟨rfl, ⟨hB3, v3, hr3, ho3, hn3⟩, hb3⟩; have c22 := (hr3.cell 22).trans List.getElem?_toArray; rw [chC_st] at c22))
  go_ret
  rw [List.length_append] at ho3
  exact ⟨⟨v3, rfl, ho3⟩, hb3⟩
end Go.Proofs.Yteojhhfcfdkmdaa
/- fast's takeOut and makeRoom: of any node; conditions: a base that may be, places of its. -/
namespace Go.Proofs.Yteojhhfcfdkmdaa
open Go.RowKit
set_option linter.unusedVariables false
/-- The stores that close a gap: so many entries behind it. -/
def dnL (base : Int) (n : Nd) : Nat → Nat → List (Int × Int)
  | i, 0 => [(pA base i, 0)]
  | i, c + 1 => (kA base i, n.key (i + 1)) :: (pA base i, n.ptr (i + 1)) :: dnL base n (i + 1) c
theorem dnL_len (base : Int) (n : Nd) : ∀ c i, (dnL base n i c).length = 2 * c + 1
  | 0, i => rfl
  | c + 1, i => by rw [dnL, List.length_cons, List.length_cons, dnL_len base n c]; omega
theorem ChAt.key {w : World} {B b : Nat} {base : Int} {n : Nd} {l : List (Int × Int)} (h : ChAt w B b base n l) {i : Nat} (hi : i < 8) : w.cell? ⟨b, 6 + i, none⟩ = some (.int .u64 (n.key i)) := by
  have := h.node (5 + i) _ (n.at_key hi)
  rw [show 1 + (5 + i) = 6 + i by omega] at this
  exact this
theorem ChAt.ptr {w : World} {B b : Nat} {base : Int} {n : Nd} {l : List (Int × Int)} (h : ChAt w B b base n l) {i : Nat} (hi : i < 8) : w.cell? ⟨b, 14 + i, none⟩ = some (.int .u64 (n.ptr i)) := by
  have := h.node (13 + i) _ (n.at_ptr hi)
  rw [show 1 + (13 + i) = 14 + i by omega] at this
  exact this
theorem app2 {l : List (Int × Int)} {a b : Int × Int} : l ++ [a] ++ [b] = l ++ [a, b] := by simp
set_option maxRecDepth 100000 in
set_option maxHeartbeats 4000000 in
theorem takeOut_any {w : World} {B b : Nat} {base : Int} {n : Nd} {l : List (Int × Int)} (h : ChAt w B b base n l) (hl : l.length ≤ 100) (hb : 0 ≤ base ∧ base ≤ 1099511627776) {p : Nat} (hp : p < n.len) :
    Calls Try.prog 68 #[.pointer (some ⟨b, 0, none⟩), .int .i64 (p : Int)] w fun e w' => e = .returned (.tuple #[]) ∧ ChAt w' B b base n (l ++ dnL base n p (n.len - 1 - p)) ∧ Below B w w' := by
  have hln := n.len_le
  have HL := Lib.hid (nlen_any n w)
  have HN := Lib.hid h.node
  have HCH := Lib.hid h
  obtain ⟨q, hq⟩ : ∃ q, n.len = q + 1 := ⟨n.len - 1, by omega⟩
  have HQ := Lib.hid hq
  rw [hq] at HL
  have hq1 : ((q + 1 : Nat) : Int) - 1 = (q : Int) := by omega
  have hpq : p ≤ q := by omega
  have hq8 : q < 8 := by omega
  have hlt := h.lt
  obtain ⟨hBb, _⟩ := h
  have HBw := Lib.hid (show B ≤ w.heap.size by omega)
  clear hq hp hln
  go_enter Try.func68, Try.ntmps68
  go_wp2_with (first
    | (refine wpList_load_mid rfl _ _ rfl b 1 rfl n.cl _ HN.out Try.underlying27 rfl ndI ?_)
    | (go_at_call 60; refine HL.out.mono ?_; rintro e w1 ⟨rfl, h1⟩; have HC1 := Lib.hid (HCH.out.low h1)))
  go_loopw [5] (fun i wr => ∃ k : Nat, p ≤ k ∧ k ≤ q ∧ i = .int .i64 (k : Int) ∧ ∃ m : List (Int × Int), ChAt wr B b base n m ∧ m ++ dnL base n k (q - k) = l ++ dnL base n p (q - p) ∧ m.length ≤ 100 + 2 * k ∧ Below B w wr) (fun i _ => q - (intOf i).toNat)
  case atStart => exact ⟨p, Nat.le_refl _, hpq, rfl, l, HC1.out, rfl, by omega, h1.mono HBw.out⟩
  case round =>
    rename World => wr
    obtain ⟨k, hpk, hkq, rfl, m, hc, hm, hml, hbl⟩ := hrel
    have HC := Lib.hid hc
    have HM := Lib.hid hm
    have HBl := Lib.hid hbl
    clear hc hm hbl
    by_cases hlt : k < q
    · have ck := HC.out.key (i := k + 1) (by omega)
      have hk8 : (k : Int) + 1 < 8 := by omega
      have HS1 := Lib.hid (ckey_any HC.out (by omega) hb (p := k) (by omega) (n.key (k + 1)))
      have HS2 := Lib.hid (fun W (h : ChAt W B b base n (m ++ [(kA base k, n.key (k + 1))])) => cptr_any h (by rw [List.length_append, List.length_singleton]; omega) hb (p := k) (by omega) (n.ptr (k + 1)))
      have HST := Lib.hid (show dnL base n k (q - k) = [(kA base k, n.key (k + 1)), (pA base k, n.ptr (k + 1))] ++ dnL base n (k + 1) (q - (k + 1)) by rw [show q - k = (q - (k + 1)) + 1 by omega]; rfl)
      obtain ⟨y, hy⟩ : ∃ y, y = n.key (k + 1) := ⟨_, rfl⟩
      obtain ⟨z, hz⟩ : ∃ z, z = n.ptr (k + 1) := ⟨_, rfl⟩
      have HPt := Lib.hid (fun W (h : ChAt W B b base n (m ++ [(kA base k, y)])) => (show W.cell? ⟨b, 14 + (k + 1), none⟩ = some (.int .u64 z) by rw [hz]; exact h.ptr (by omega)))
      rw [← hy] at ck HS1 HS2 HST
      rw [← hz] at HS2 HST
      clear hy hz
      go_wp2_with (first
        | (go_at_call 64; refine HS1.out.mono ?_; rintro e w2 ⟨rfl, h2, hb2⟩; have cp := HPt.out _ h2)
        | (go_at_call 65; refine (HS2.out _ h2).mono ?_; rintro e w3 ⟨rfl, h3, hb3⟩))
      refine ⟨⟨k + 1, by omega, by omega, by go_num, _, h3, ?_, by rw [List.length_append, List.length_append]; simp; omega, HBl.out.trans (hb2.trans hb3)⟩, by simp [intOf]; omega⟩
      rw [← HM.out, HST.out, app2, List.append_assoc]
    · obtain rfl : k = q := by omega
      have HS2 := Lib.hid (cptr_any HC.out (by omega) hb (p := k) (by omega) 0)
      have HE := Lib.hid (show m ++ [(pA base k, 0)] = l ++ dnL base n p (k - p) by rw [← HM.out, Nat.sub_self]; rfl)
      go_wp2_with (first
        | (go_at_call 65; refine HS2.out.mono ?_; rintro e w3 ⟨rfl, h3, hb3⟩))
      go_end0
      rw [HQ.out, Nat.add_sub_cancel, ← HE.out]
      exact ⟨rfl, h3, HBl.out.trans hb3⟩
/-- The stores that make room: so many entries from a place on go one place further, the last one first. -/
def upN (base : Int) (n : Nd) (p : Nat) : Nat → List (Int × Int)
  | 0 => []
  | c + 1 => (pA base (p + c + 1), n.ptr (p + c)) :: (kA base (p + c + 1), n.key (p + c)) :: upN base n p c
theorem upN_len (base : Int) (n : Nd) (p : Nat) : ∀ c, (upN base n p c).length = 2 * c
  | 0 => rfl
  | c + 1 => by rw [upN, List.length_cons, List.length_cons, upN_len base n p c]; omega
/-- All of makeRoom's. -/
def mkRoom (base : Int) (n : Nd) (p : Nat) : List (Int × Int) := (if n.len < 7 then [(pA base (n.len + 1), 0)] else []) ++ (upN base n p (n.len - p) ++ [(pA base p, n.ahd p)])
set_option maxRecDepth 100000 in
set_option maxHeartbeats 4000000 in
theorem makeRoom_any {w : World} {B b : Nat} {base : Int} {n : Nd} {l : List (Int × Int)} (h : ChAt w B b base n l) (hl : l.length ≤ 100) (hb : 0 ≤ base ∧ base ≤ 1099511627776) {p : Nat} (hp : p ≤ n.len) (h7 : n.len ≤ 7) :
    Calls Try.prog 63 #[.pointer (some ⟨b, 0, none⟩), .int .i64 (p : Int)] w fun e w' => e = .returned (.tuple #[]) ∧ ChAt w' B b base n (l ++ mkRoom base n p) ∧ Below B w w' := by
  have HL := Lib.hid (nlen_any n w)
  have HN := Lib.hid h.node
  have HCH := Lib.hid h
  have HMK := Lib.hid (show mkRoom base n p = (if n.len < 7 then [(pA base (n.len + 1), 0)] else []) ++ (upN base n p (n.len - p) ++ [(pA base p, n.ahd p)]) from rfl)
  obtain ⟨q, hq⟩ : ∃ q, q = n.len := ⟨_, rfl⟩
  rw [← hq] at HL hp h7 HMK
  have hlt := h.lt
  obtain ⟨hBb, _⟩ := h
  have HBw := Lib.hid (show B ≤ w.heap.size by omega)
  clear hq
  go_enter Try.func63, Try.ntmps63
  go_wp2_with fail
  go_step3
  go_wp2_with (first
    | (refine wpList_load_mid rfl _ _ rfl b 1 rfl n.cl _ HN.out Try.underlying27 rfl ndI ?_)
    | (go_at_call 60; refine HL.out.mono ?_; rintro e w1 ⟨rfl, h1⟩; have HC1 := Lib.hid (HCH.out.low h1)))
  go_step3
  go_wp2
  go_loopw [5] (fun i wr => ∃ k : Nat, p ≤ k ∧ k ≤ q + 1 ∧ i = .int .i64 (k : Int) ∧ ∃ m : List (Int × Int), ChAt wr B b base n m ∧ m ++ (if k = q + 1 then mkRoom base n p else upN base n p (k - p) ++ [(pA base p, n.ahd p)]) = l ++ mkRoom base n p ∧ m.length + 2 * k ≤ 200 ∧ Below B w wr) (fun i _ => (intOf i).toNat)
  case atStart => exact ⟨q + 1, by omega, Nat.le_refl _, by go_num, l, HC1.out, by rw [if_pos rfl], by omega, h1.mono HBw.out⟩
  case round =>
    rename World => wr
    obtain ⟨k, hpk, hkq, rfl, m, hc, hm, hml, hbl⟩ := hrel
    have HC := Lib.hid hc
    have HM := Lib.hid hm
    have HBl := Lib.hid hbl
    clear hc hm hbl
    obtain hk1 | hk1 : k = q + 1 ∨ k ≤ q := by omega
    · subst hk1
      obtain h7b | h7b : q < 7 ∨ q = 7 := by omega
      · have hk8 : (((q + 1 : Nat) : Int) == 8) = false := by simp; omega
        have hkq2 : (q : Int) < ((q + 1 : Nat) : Int) := by omega
        have hk1 : ((q + 1 : Nat) : Int) - 1 = (q : Int) := by omega
        have HS := Lib.hid (cptr_any HC.out (by omega) hb (p := q + 1) (by omega) 0)
        have HX := Lib.hid (show (m ++ [(pA base (q + 1), 0)]) ++ (if q = q + 1 then mkRoom base n p else upN base n p (q - p) ++ [(pA base p, n.ahd p)]) = l ++ mkRoom base n p by
          rw [if_neg (by omega), ← HM.out, if_pos rfl, HMK.out, if_pos h7b]
          simp)
        go_wp2_with (first
          | (go_at_call 65; refine HS.out.mono ?_; rintro e w3 ⟨rfl, h3, hb3⟩))
        exact ⟨⟨q, by omega, by omega, by go_num, _, h3, HX.out, by rw [List.length_append, List.length_singleton]; omega, HBl.out.trans hb3⟩, by simp [intOf]⟩
      · subst h7b
        have HX := Lib.hid (show m ++ (if 7 = 7 + 1 then mkRoom base n p else upN base n p (7 - p) ++ [(pA base p, n.ahd p)]) = l ++ mkRoom base n p by
          rw [if_neg (by omega), ← HM.out, if_pos rfl, HMK.out, if_neg (by omega)]
          simp)
        go_wp2
        exact ⟨⟨7, by omega, by omega, by rfl, _, HC.out, HX.out, by omega, HBl.out⟩, by simp [intOf]⟩
    · have hk8 : ((k : Int) == 8) = false := by simp; omega
      have hkq2 : ¬ (q : Int) < (k : Int) := by omega
      have HMk := Lib.hid (show m ++ (upN base n p (k - p) ++ [(pA base p, n.ahd p)]) = l ++ mkRoom base n p by rw [← HM.out, if_neg (by omega)])
      obtain hpk2 | hpk2 : k = p ∨ p < k := by omega
      · subst hpk2
        have HA := Lib.hid (fun W' => fahead_any n (p := k) (by omega) W')
        have HNd := Lib.hid HC.out.node
        obtain ⟨y, hy⟩ : ∃ y, y = n.ahd k := ⟨_, rfl⟩
        have HE := Lib.hid (show m ++ [(pA base k, y)] = l ++ mkRoom base n k by rw [← HMk.out, Nat.sub_self, hy]; rfl)
        rw [← hy] at HA
        have HS := Lib.hid (fun W (h : ChAt W B b base n m) => cptr_any h (by omega) hb (p := k) (by omega) y)
        clear hy
        go_wp2_with (first
          | (refine wpList_load_mid rfl _ _ rfl b 1 rfl n.cl _ HNd.out Try.underlying27 rfl ndI ?_)
          | (go_at_call 67; refine (HA.out _).mono ?_; rintro e w2 ⟨rfl, h2⟩; have HC2 := Lib.hid (HC.out.low h2); have HB2 := Lib.hid (HBl.out.trans (h2.mono (Nat.le_trans HBw.out HBl.out.size))))
          | (go_at_call 65; refine (HS.out _ HC2.out).mono ?_; rintro e w3 ⟨rfl, h3, hb3⟩))
        rw [Exit.noGoto_normal]
        go_end0
        rw [← HE.out]
        exact ⟨rfl, h3, HB2.out.trans hb3⟩
      · have hpk3 : (p : Int) < (k : Int) := by omega
        obtain ⟨j, rfl⟩ : ∃ j, k = j + 1 := ⟨k - 1, by omega⟩
        have hj1 : ((j + 1 : Nat) : Int) - 1 = (j : Int) := by omega
        have hj8 : (j : Int) < 8 := by omega
        have cp := HC.out.ptr (i := j) (by omega)
        have HS1 := Lib.hid (cptr_any HC.out (by omega) hb (p := j + 1) (by omega) (n.ptr j))
        have HS2 := Lib.hid (fun W (h : ChAt W B b base n (m ++ [(pA base (j + 1), n.ptr j)])) => ckey_any h (by rw [List.length_append, List.length_singleton]; omega) hb (p := j + 1) (by omega) (n.key j))
        have HST := Lib.hid (show upN base n p (j + 1 - p) = [(pA base (j + 1), n.ptr j), (kA base (j + 1), n.key j)] ++ upN base n p (j - p) by
          obtain ⟨c, rfl⟩ : ∃ c, j = p + c := ⟨j - p, by omega⟩
          rw [show p + c + 1 - p = c + 1 by omega, show p + c - p = c by omega]
          rfl)
        obtain ⟨y, hy⟩ : ∃ y, y = n.key j := ⟨_, rfl⟩
        obtain ⟨z, hz⟩ : ∃ z, z = n.ptr j := ⟨_, rfl⟩
        have HKy := Lib.hid (fun W (h : ChAt W B b base n (m ++ [(pA base (j + 1), z)])) => (show W.cell? ⟨b, 6 + j, none⟩ = some (.int .u64 y) by rw [hy]; exact h.key (by omega)))
        rw [← hy] at HS2 HST
        rw [← hz] at cp HS1 HS2 HST
        clear hy hz
        go_wp2_with (first
          | (go_at_call 65; refine HS1.out.mono ?_; rintro e w2 ⟨rfl, h2, hb2⟩; have cky := HKy.out _ h2)
          | (go_at_call 64; refine (HS2.out _ h2).mono ?_; rintro e w3 ⟨rfl, h3, hb3⟩))
        refine ⟨⟨j, by omega, by omega, by go_num, _, h3, ?_, by rw [List.length_append, List.length_append]; simp; omega, HBl.out.trans (hb2.trans hb3)⟩, by simp [intOf]⟩
        rw [if_neg (by omega), ← HMk.out, HST.out, app2]
        simp
end Go.Proofs.Yteojhhfcfdkmdaa
/- fast's areNew and refusal, the document's had and may: of any node; conditions: numbers of the width. -/
namespace Go.Proofs.Yteojhhfcfdkmdaa
open Go.RowKit
set_option linter.unusedVariables false
/-- Has a node a pointer? -/
def Nd.had (n : Nd) (p : Int) : Bool := (p == 0) || (p == n.fi) || (List.range n.len).any (fun i => n.ptr i == p)
/-- Why a node is not changed. -/
def refE (b : Int) (n : Nd) (l : List Int) : Int := if (bOk b && n.may 0 false && l.all (fun p => !n.had p)) = true then (if 0 ≤ n.inv then 7 else 0) else 2
theorem had_yes {n : Nd} {p : Int} {k : Nat} (hk : k < n.len) (h : n.ptr k = p) : n.had p = true := by
  unfold Nd.had
  rw [Bool.or_eq_true]
  right
  rw [List.any_eq_true]
  exact ⟨k, List.mem_range.2 hk, by simpa using h⟩
theorem had_no {n : Nd} {p : Int} (h0 : p ≠ 0) (h1 : p ≠ n.fi) (h : ∀ i, i < n.len → n.ptr i ≠ p) : n.had p = false := by
  unfold Nd.had
  rw [Bool.eq_false_iff]
  simp only [ne_eq, Bool.or_eq_true, beq_iff_eq, h0, h1, false_or, List.any_eq_true, List.mem_range, not_exists, not_and]
  exact h
theorem had_end {n : Nd} {p : Int} (h : ∀ i, i < n.len → n.ptr i ≠ p) : n.had p = ((p == 0) || (p == n.fi)) := by
  unfold Nd.had
  rw [show (List.range n.len).any (fun i => n.ptr i == p) = false by rw [Bool.eq_false_iff]; simpa using h, Bool.or_false]
/-- A slice of addresses that reads as a list, in worlds to come. -/
theorem AdsAt.low {w w' : World} {v : Value} {l : List Int} (h : AdsAt w v l) (hb : Below w.heap.size w w') : AdsAt w' v l := by
  obtain ⟨A, cap, rfl, h⟩ := h
  refine ⟨A, cap, rfl, fun h0 => ?_⟩
  obtain ⟨g, o, rfl, hc⟩ := h h0
  exact ⟨g, o, rfl, fun i x hx => (hb.cell (p := ⟨g, o + i, none⟩) (w.block_lt_of_cell? _ (hc i x hx))).trans (hc i x hx)⟩
theorem run_ptrs (g : Nat) {L : Nat} (hL : L ≤ 8) (W : World) : (Instr.sliceAt 25 (.pointer (some ⟨g, 13, none⟩)) none (some (.int .i64 (L : Int))) none).run Try.prog W = .ok (.slice (some ⟨g, 13, none⟩) L 8) W := by
  have hal : Try.prog.arrayLen 25 = 8 := by simp [Program.arrayLen, Try.underlying25]
  have hel : Try.prog.elem 25 = 23 := by simp [Program.elem, Try.underlying25]
  have hz := Try.sizeOf23
  rw [run_sliceAt_array_h W 25 ⟨g, 13, none⟩ (by simp [Program.arrayLen, Program.elem, Try.underlying25]) .i64 (L : Int) (by omega) (by rw [hal]; omega)]
  rw [hal, hel]
  go_simp
set_option maxRecDepth 100000 in
set_option maxHeartbeats 4000000 in
theorem areNew_any (n : Nd) {w : World} {v : Value} {l : List Int} (h : AdsAt w v l) (hl : l.length ≤ 1000) : Calls Try.prog 77 #[n.V, v] w fun e w' => e = .returned (.bool (l.all fun p => !n.had p)) ∧ Below w.heap.size w w' := by
  obtain ⟨A, cap, rfl, hA0⟩ := h
  have r0 := Row.new w 27 n.cl.toArray
  obtain ⟨Wa, hWa⟩ : ∃ Wa, Wa = w.alloc (.cells n.cl.toArray 27) := ⟨_, rfl⟩
  rw [← hWa] at r0
  have hb0 : Below w.heap.size w Wa := by rw [hWa]; exact alloc_low _ _
  have HB0 := Lib.hid hb0
  have HRR := Lib.hid (fun W' (hb : Below Wa.heap.size Wa W') => (show NdAt W' w.heap.size n from r0.below hb r0.lt))
  have HC4 := Lib.hid (fun W' (hb : Below Wa.heap.size Wa W') => (show W'.cell? ⟨w.heap.size, 4, none⟩ = some (.int .u64 n.fi) from ndAt_at (HRR.out W' hb) 4))
  have HWa := Lib.hid hWa
  have HL := Lib.hid (fun W' => nlen_any n W')
  have hln := n.len_le
  obtain ⟨m, hm⟩ : ∃ m, m = l.length := ⟨_, rfl⟩
  have HA := Lib.hid (fun (h0 : 0 < m) => (show ∃ g o, A = some ⟨g, o, none⟩ ∧ ∀ k, k < m → ∀ W', Below Wa.heap.size Wa W' → W'.cell? ⟨g, o + k, none⟩ = some (.int .u64 (l.getD k 0)) by
    obtain ⟨g, o, rfl, hc⟩ := hA0 (by omega)
    refine ⟨g, o, rfl, fun k hk W' hb => ?_⟩
    have hx := hc k (l.getD k 0) (by rw [List.getD_eq_getElem?_getD, List.getElem?_eq_getElem (by omega)]; rfl)
    have hbb := low_and hb0 hb
    exact (hbb.cell (p := ⟨g, o + k, none⟩) (w.block_lt_of_cell? _ hx)).trans hx))
  have HAll := Lib.hid (show (∀ k, k < m → n.had (l.getD k 0) = false) → (l.all fun p => !n.had p) = true by
    intro h
    rw [List.all_eq_true]
    intro x hx
    obtain ⟨k, hk, rfl⟩ := List.getElem_of_mem hx
    have := h k (by omega)
    rw [List.getD_eq_getElem?_getD, List.getElem?_eq_getElem hk] at this
    simpa using this)
  have HAny := Lib.hid (show ∀ k, k < m → n.had (l.getD k 0) = true → (l.all fun p => !n.had p) = false by
    intro k hk h
    rw [Bool.eq_false_iff]
    intro hh
    rw [List.all_eq_true] at hh
    have := hh (l.getD k 0) (by rw [List.getD_eq_getElem?_getD, List.getElem?_eq_getElem (by omega)]; exact List.getElem_mem _)
    rw [h] at this
    cases this)
  obtain ⟨F, hF⟩ : ∃ F, F = (l.all fun p => !n.had p) := ⟨_, rfl⟩
  rw [← hF] at HAll HAny
  rw [← hF, ← hm]
  rw [← hm] at hl
  clear r0 hWa hF hm hA0 hb0
  go_enter Try.func77, Try.ntmps77
  go_wp2_with fail
  rw [← HWa.out]
  go_loopw [11] (fun i wr => ∃ k : Nat, k ≤ m ∧ i = .int .i64 (k : Int) ∧ (∀ j, j < k → n.had (l.getD j 0) = false) ∧ Below Wa.heap.size Wa wr) (fun i _ => m - (intOf i).toNat)
  case atStart => exact ⟨0, by omega, rfl, fun p hp => by omega, Below.refl _ _⟩
  case round =>
    rename World => wr
    obtain ⟨k, hk, rfl, hne, hb⟩ := hrel
    have HNE := Lib.hid hne
    clear hne
    by_cases hlt : k < m
    · obtain ⟨g, o, rfl, hcl⟩ := HA.out (by omega)
      have ca := hcl k hlt wr hb
      have c4 := HC4.out wr hb
      have hki : (k : Int) < (m : Int) := by omega
      have HAk := Lib.hid (HAny.out k hlt)
      have HNk := Lib.hid (fun h0 h1 h => had_no (n := n) (p := l.getD k 0) h0 h1 h)
      have HYk := Lib.hid (fun j hj h => had_yes (n := n) (p := l.getD k 0) (k := j) hj h)
      have HZk := Lib.hid (show l.getD k 0 = 0 → n.had (l.getD k 0) = true from fun h => by rw [h]; rfl)
      have HWk := Lib.hid (show l.getD k 0 = n.fi → n.had (l.getD k 0) = true from fun h => by unfold Nd.had; rw [h]; simp)
      obtain ⟨p, hp⟩ : ∃ p, p = l.getD k 0 := ⟨_, rfl⟩
      rw [← hp] at ca HAk HNk HYk HZk HWk
      have HP := Lib.hid hp
      clear hp hcl
      obtain h0 | h0 : p = 0 ∨ p ≠ 0 := by omega
      · have HFf := Lib.hid (HAk.out (HZk.out h0))
        rw [h0] at ca
        clear h0
        go_wp2
        go_ret
        exact ⟨by rw [HFf.out]; rfl, low_and HB0.out hb⟩
      · have h0b : (p == 0) = false := by simpa using h0
        obtain h1 | h1 : p = n.fi ∨ p ≠ n.fi := by omega
        · have HFf := Lib.hid (HAk.out (HWk.out h1))
          have h1b : (p == n.fi) = true := by simpa using h1
          clear h1
          go_wp2
          go_ret
          exact ⟨by rw [HFf.out]; rfl, low_and HB0.out hb⟩
        · have h1b : (p == n.fi) = false := by simpa using h1
          have HNk2 := Lib.hid (HNk.out h0 h1)
          have hsl := fun W => run_ptrs w.heap.size hln W
          clear h1
          go_wp2_with (first
            | (refine wpList_load_mid rfl _ _ rfl w.heap.size 0 rfl n.cl _ (ndR (HRR.out _ (by assumption))) Try.underlying27 rfl ndI ?_)
            | (go_at_call 60; refine (HL.out _).mono ?_; rintro e w2 ⟨rfl, hb2⟩; have hb2 := low_and hb hb2))
          go_loopw [28] (fun i wr => ∃ j : Nat, j ≤ n.len ∧ i = .int .i64 (j : Int) ∧ (∀ q, q < j → n.ptr q ≠ p) ∧ Below Wa.heap.size Wa wr) (fun i _ => n.len - (intOf i).toNat)
          case atStart => exact ⟨0, by omega, rfl, fun p hp => by omega, hb2⟩
          case round =>
            rename World => wq
            obtain ⟨j, hj, rfl, hnj, hbq⟩ := hrel
            have HNJ := Lib.hid hnj
            clear hnj
            by_cases hjl : j < n.len
            · have hj8 : (j : Int) < (n.len : Int) := by omega
              have cj := ndAt_ptr (HRR.out _ hbq) (i := j) (by omega)
              have HYj := Lib.hid (HYk.out j hjl)
              obtain ⟨y, hy⟩ : ∃ y, y = n.ptr j := ⟨_, rfl⟩
              rw [← hy] at cj HYj
              have HYe := Lib.hid hy
              clear hy
              obtain hyp | hyp : p = y ∨ p ≠ y := by omega
              · have HFf := Lib.hid (HAk.out (HYj.out hyp.symm))
                have hyb : (p == y) = true := by simpa using hyp
                clear hyp
                go_wp2
                go_ret
                exact ⟨by rw [HFf.out]; rfl, low_and HB0.out hbq⟩
              · have hyb : (p == y) = false := by simpa using hyp
                go_wp2
                refine ⟨⟨j + 1, by omega, by go_num, fun q hq => ?_, hbq⟩, by simp [intOf]; omega⟩
                rcases Nat.lt_or_eq_of_le (Nat.le_of_lt_succ hq) with h | rfl
                · exact HNJ.out q h
                · rw [← HYe.out]; exact fun e => hyp e.symm
            · obtain rfl : j = n.len := by omega
              have HNo := Lib.hid (HNk2.out HNJ.out)
              go_wp2
              refine ⟨⟨k + 1, by omega, by go_num, fun q hq => ?_, hbq⟩, by simp [intOf]; omega⟩
              rcases Nat.lt_or_eq_of_le (Nat.le_of_lt_succ hq) with h | rfl
              · exact HNE.out q h
              · rw [← HP.out]; exact HNo.out
    · obtain rfl : k = m := by omega
      have HFf := Lib.hid (HAll.out HNE.out)
      go_wp2
      go_ret
      exact ⟨by rw [HFf.out]; rfl, low_and HB0.out hb⟩
theorem refE_cases (b : Int) (n : Nd) (l : List Int) : refE b n l = if (bOk b && n.may 0 false) = true then (if (l.all fun p => !n.had p) = true then (if 0 ≤ n.inv then 7 else 0) else 2) else 2 := by
  unfold refE
  cases (bOk b && n.may 0 false) <;> cases (l.all fun p => !n.had p) <;> simp
set_option maxRecDepth 100000 in
set_option maxHeartbeats 4000000 in
theorem refusal_any {b : Int} (hb : 0 ≤ b) (n : Nd) {w : World} {v : Value} {l : List Int} (h : AdsAt w v l) (hl : l.length ≤ 1000) : Calls Try.prog 57 #[.int .u64 b, n.V, v] w fun e w' => e = .returned (.int .i64 (refE b n l)) ∧ Below w.heap.size w w' := by
  have r0 := Row.new w 27 n.cl.toArray
  obtain ⟨Wa, hWa⟩ : ∃ Wa, Wa = w.alloc (.cells n.cl.toArray 27) := ⟨_, rfl⟩
  rw [← hWa] at r0
  have hb0 : Below w.heap.size w Wa := by rw [hWa]; exact alloc_low _ _
  have HB0 := Lib.hid hb0
  have HRR := Lib.hid (fun W' (hb : Below Wa.heap.size Wa W') => (show NdAt W' w.heap.size n from r0.below hb r0.lt))
  have HWa := Lib.hid hWa
  have HM := Lib.hid (fun W' => fmay_any hb n W')
  have HN := Lib.hid (fun W' (hb : Below Wa.heap.size Wa W') => areNew_any n (h.low (low_and hb0 hb)) hl)
  have HI := Lib.hid (fun W' => nInv_any n W')
  have HE := refE_cases b n l
  obtain ⟨A, cap, rfl, _⟩ := h
  generalize refE b n l = E at HE ⊢
  generalize (bOk b && n.may 0 false) = c at HM HE
  generalize (l.all fun p => !n.had p) = d at HN HE
  generalize l.length = m at HN hl ⊢
  have hi0 : 0 ≤ n.inv ∨ ¬ 0 ≤ n.inv := by omega
  generalize n.inv = iv at HI HE hi0
  have hr0 := Below.refl Wa.heap.size Wa
  clear r0 hWa hb0
  cases c with
  | false =>
    have HE2 := Lib.hid (show E = 2 from HE)
    clear HE
    go_enter Try.func57, Try.ntmps57
    go_wp2_with (first
      | (rw [← HWa.out]; refine wpList_load_mid rfl _ _ rfl w.heap.size 0 rfl n.cl _ (ndR (HRR.out _ (by assumption))) Try.underlying27 rfl ndI ?_)
      | (go_at_call 76; refine (HM.out _).mono ?_; rintro e w1 ⟨rfl, h1⟩; have h1 := low_and hr0 h1))
    go_ret
    exact ⟨by rw [HE2.out]; rfl, low_and HB0.out h1⟩
  | true =>
    cases d with
    | false =>
      have HE2 := Lib.hid (show E = 2 from HE)
      clear HE
      go_enter Try.func57, Try.ntmps57
      go_wp2_with (first
        | (rw [← HWa.out]; refine wpList_load_mid rfl _ _ rfl w.heap.size 0 rfl n.cl _ (ndR (HRR.out _ (by assumption))) Try.underlying27 rfl ndI ?_)
        | (refine wpList_load_midg (by rfl) _ _ rfl w.heap.size 0 rfl n.cl _ (ndR (HRR.out _ (by assumption))) Try.underlying27 rfl ndI ?_)
        | (go_at_call 76; refine (HM.out _).mono ?_; rintro e w1 ⟨rfl, h1⟩; have h1 := low_and hr0 h1)
        | (go_at_call 77; refine (HN.out _ h1).mono ?_; rintro e w2 ⟨rfl, h2⟩; have h2 := low_and h1 h2))
      go_ret
      exact ⟨by rw [HE2.out]; rfl, low_and HB0.out h2⟩
    | true =>
      rcases hi0 with hi | hi
      · have HE2 := Lib.hid (show E = 7 by rw [HE, if_pos rfl, if_pos rfl, if_pos hi])
        clear HE
        go_enter Try.func57, Try.ntmps57
        go_wp2_with (first
          | (rw [← HWa.out]; refine wpList_load_mid rfl _ _ rfl w.heap.size 0 rfl n.cl _ (ndR (HRR.out _ (by assumption))) Try.underlying27 rfl ndI ?_)
          | (refine wpList_load_mid rfl _ _ rfl w.heap.size 0 rfl n.cl _ (ndR (HRR.out _ (by assumption))) Try.underlying27 rfl ndI ?_)
          | (refine wpList_load_midg (by rfl) _ _ rfl w.heap.size 0 rfl n.cl _ (ndR (HRR.out _ (by assumption))) Try.underlying27 rfl ndI ?_)
          | (go_at_call 76; refine (HM.out _).mono ?_; rintro e w1 ⟨rfl, h1⟩; have h1 := low_and hr0 h1)
          | (go_at_call 77; refine (HN.out _ h1).mono ?_; rintro e w2 ⟨rfl, h2⟩; have h2 := low_and h1 h2)
          | (go_at_call 78; refine (HI.out _).mono ?_; rintro e w3 ⟨rfl, h3⟩; have h3 := low_and h2 h3))
        go_ret
        exact ⟨by rw [HE2.out]; rfl, low_and HB0.out h3⟩
      · have HE2 := Lib.hid (show E = 0 by rw [HE, if_pos rfl, if_pos rfl, if_neg hi])
        clear HE
        go_enter Try.func57, Try.ntmps57
        go_wp2_with (first
          | (rw [← HWa.out]; refine wpList_load_mid rfl _ _ rfl w.heap.size 0 rfl n.cl _ (ndR (HRR.out _ (by assumption))) Try.underlying27 rfl ndI ?_)
          | (refine wpList_load_mid rfl _ _ rfl w.heap.size 0 rfl n.cl _ (ndR (HRR.out _ (by assumption))) Try.underlying27 rfl ndI ?_)
          | (refine wpList_load_midg (by rfl) _ _ rfl w.heap.size 0 rfl n.cl _ (ndR (HRR.out _ (by assumption))) Try.underlying27 rfl ndI ?_)
          | (go_at_call 76; refine (HM.out _).mono ?_; rintro e w1 ⟨rfl, h1⟩; have h1 := low_and hr0 h1)
          | (go_at_call 77; refine (HN.out _ h1).mono ?_; rintro e w2 ⟨rfl, h2⟩; have h2 := low_and h1 h2)
          | (go_at_call 78; refine (HI.out _).mono ?_; rintro e w3 ⟨rfl, h3⟩; have h3 := low_and h2 h3))
        go_ret
        exact ⟨by rw [HE2.out]; rfl, low_and HB0.out h3⟩
end Go.Proofs.Yteojhhfcfdkmdaa
