/- Texts of this claim, packed: SnA, SnAE, SnD, SnDw, SnDE. -/
import Derived.Test.YtaabdmlmemmnaaaPk42
import Derived.Test.YtaabdmlmemmnaaaPk44
import Derived.Test.YtaabdmlmemmnaaaPk29
import Derived.Test.YtaabdmlmemmnaaaPk24
/- The law SnapAlone; conditions: the numbers are such as Go's types hold. -/
namespace Go.Proofs.Ytaabdmlmemmnaaa
open Go.RowKit
set_option linter.unusedVariables false
attribute [local go_sem] Oper.semAt_some
theorem side_fits {n : Nd} (h : n.Fits) : n.side.Fits := by
  unfold Nd.side
  split
  · exact h
  · exact ⟨h.l0, h.l1, h.lo, ⟨by show (0 : Int) ≤ 1280; omega, by show (1280 : Int) < _; omega⟩, h.ct, h.fi, h.key, h.ptr⟩
theorem fits_words {n : Nd} (h : n.Fits) : ∀ i, i < 24 → 0 ≤ wAt (wi n) i ∧ wAt (wi n) i < 18446744073709551616 := by
  intro i hi
  by_cases hl : isLv n = true
  · have hx : ofR (wi n) = (n, 0) := by rw [(wi_of n).2, if_pos hl]
    have hw : wi n = [5495893775785918464 + n.l, n.lo, n.nx, n.ct, n.fi, 0, 0, 0, n.key 0, n.ptr 0, n.key 1, n.ptr 1, n.key 2, n.ptr 2, n.key 3, n.ptr 3, n.key 4, n.ptr 4, n.key 5, n.ptr 5, n.key 6, n.ptr 6, n.key 7, n.ptr 7] := by
      unfold wi
      rw [if_pos hl]
      rfl
    have hl2 : 0 ≤ n.l ∧ n.l ≤ 15 := by
      unfold isLv at hl
      simpa using hl
    have hk := h.key
    have hp := h.ptr
    rw [hw]
    have e0 : (0 : Int) ≤ 0 ∧ (0 : Int) < 18446744073709551616 := by omega
    match i, hi with
    | 0, _ => exact (show (0 : Int) ≤ 5495893775785918464 + n.l ∧ 5495893775785918464 + n.l < 18446744073709551616 by omega)
    | 1, _ => exact h.lo
    | 2, _ => exact h.nx
    | 3, _ => exact h.ct
    | 4, _ => exact h.fi
    | 5, _ => exact e0
    | 6, _ => exact e0
    | 7, _ => exact e0
    | 8, _ => exact hk 0 (by omega)
    | 9, _ => exact hp 0 (by omega)
    | 10, _ => exact hk 1 (by omega)
    | 11, _ => exact hp 1 (by omega)
    | 12, _ => exact hk 2 (by omega)
    | 13, _ => exact hp 2 (by omega)
    | 14, _ => exact hk 3 (by omega)
    | 15, _ => exact hp 3 (by omega)
    | 16, _ => exact hk 4 (by omega)
    | 17, _ => exact hp 4 (by omega)
    | 18, _ => exact hk 5 (by omega)
    | 19, _ => exact hp 5 (by omega)
    | 20, _ => exact hk 6 (by omega)
    | 21, _ => exact hp 6 (by omega)
    | 22, _ => exact hk 7 (by omega)
    | 23, _ => exact hp 7 (by omega)
    | i + 24, h => exact absurd h (by omega)
  · have : wi n = List.replicate 24 0 := by
      unfold wi
      rw [if_neg hl]
      rfl
    rw [this]
    unfold wAt
    rw [getD_zeros]
    omega
theorem side_nx (n : Nd) : n.side.nx = 0 ∨ n.side.nx = 1280 := by
  unfold Nd.side
  split
  · rename_i h
    exact .inl h
  · exact .inr rfl
theorem right_lv {n : Nd} (h : rightB n = true) : isLv n.side = true := by
  unfold rightB at h
  rw [Bool.and_eq_true, may_r] at h
  simp only [Bool.and_eq_true] at h
  unfold isLv
  simp only [Bool.and_eq_true]
  exact h.1.1.1.1
set_option maxRecDepth 100000 in
set_option maxHeartbeats 3200000 in
theorem snapAlone_any (n : Nd) (hf : n.Fits) (low : Int) (hl : 0 ≤ low ∧ low < 18446744073709551616) (w : World) : Calls Try.prog 3 #[n.V, .int .u64 low] w fun e w' => e = .returned (.bool true) ∧ Below w.heap.size w w' := by
  have mixed : Try.prog.follows .mixedOrders = true := by kernel_rfl
  have hws := fits_words (side_fits hf)
  have HLD := Lib.hid fun W => laid11_any n.side low hws hl W
  have HLds := Lib.hid (laidM_Lds hws hl)
  have HRT := Lib.hid fun W => right11_any n W
  have HSN := Lib.hid (fun (h : rightB n = true) => laid_snap hws hl (right_lv h) (side_nx n))
  have rx := Row.new w 27 n.cl.toArray
  obtain ⟨Wa, hWa⟩ : ∃ Wa, Wa = w.alloc (.cells n.cl.toArray 27) := ⟨_, rfl⟩
  rw [← hWa] at rx
  have HBa := Lib.hid (show Below w.heap.size w Wa by rw [hWa]; exact alloc_low _ _)
  have Rx := Lib.hid rx
  have HWa := Lib.hid hWa
  obtain ⟨M, hM⟩ : ∃ M, M = n.side := ⟨_, rfl⟩
  rw [← hM] at HLD HLds HRT HSN
  obtain ⟨s, hs⟩ : ∃ s, s = laidM M low := ⟨_, rfl⟩
  rw [← hs] at HLD HLds HSN
  obtain ⟨rb, hrb⟩ : ∃ rb, rb = rightB n := ⟨_, rfl⟩
  rw [← hrb] at HRT HSN
  clear hM hs hrb hf hws hl rx hWa
  cases rb with
  | false =>
    clear HSN
    go_enter Try.func3, Try.ntmps3
    go_wp2_with (first
      | ((with_reducible refine show_loadN ?_); first
          | (rw [← HWa.out]; refine wpList_load_mid rfl _ _ rfl w.heap.size 0 rfl n.cl _ (ndR Rx.out) Try.underlying27 rfl ndI ?_)
          | (refine wpList_load_mid rfl _ _ rfl w.heap.size 0 rfl M.cl _ (ndR R2.out) Try.underlying27 rfl ndI ?_))
      | (go_at_call 7; refine (HRT.out _).mono ?_; rintro e w1 ⟨rfl, hb1⟩; have HB1 := Lib.hid hb1; have R1 := Lib.hid (Rx.out.below hb1 Rx.out.lt); clear hb1)
      | ((with_reducible refine show_storeN ?_); refine wpList_store_row rfl _ _ _ rfl w.heap.size M.cl rfl rfl R1.out rfl ndI (cl_one _) ?_; have r2 := row_setCells (vs := M.cl) R1.out rfl; have hb2 := setCells_low M.cl (Nat.le_refl _) (low_and HBa.out HB1.out); obtain ⟨W2, hW2⟩ : ∃ W2, W2 = w1.setCells w.heap.size 0 M.cl := ⟨_, rfl⟩; rw [← hW2] at r2 hb2 ⊢; have R2 := Lib.hid (show NdAt W2 w.heap.size M from r2); have HB2 := Lib.hid hb2; clear r2 hb2 hW2)
      | (go_at_call 8; refine (HLD.out _).mono ?_; rintro e w3 ⟨y, rfl, hm, hf, hb3⟩; have HM := Lib.hid hm; have HF := Lib.hid hf; have HB3 := Lib.hid hb3; clear hm hf hb3)
      | (go_at_call 9; refine (known11_any _).mono ?_; rintro e w4 ⟨rfl, hb4⟩; have HB4 := Lib.hid hb4; clear hb4))
    go_ret
    exact ⟨rfl, low_and (low_and HB2.out HB3.out) HB4.out⟩
  | true =>
    obtain ⟨T, S', t1, t2, hG, hd, hk, hn, hlo⟩ := HSN.out rfl
    obtain ⟨X, hX⟩ : ∃ X, X = M.tr (M.len + 1) M.len := ⟨_, rfl⟩
    obtain ⟨Z, hZ⟩ : ∃ Z, Z = M.tr M.len M.len := ⟨_, rfl⟩
    have HXx := Lib.hid (show X.nx = M.nx by rw [hX]; rfl)
    have HTX := Lib.hid fun W => trim11_any X W
    have HTM := Lib.hid fun W => trim11_any M W
    rw [show X.tr X.len X.len = Z by rw [hX, hZ]; exact tr_tr M] at HTX
    rw [← hZ] at HTM
    rw [← hX] at hn
    have HG := Lib.hid hG
    have HD := Lib.hid hd
    have HK := Lib.hid hk
    have HNn := Lib.hid hn
    have HLO := Lib.hid hlo
    clear hG hd hk hn hX hZ hlo HSN
    go_enter Try.func3, Try.ntmps3
    go_wp2_with (first
      | ((with_reducible refine show_loadN ?_); first
          | (rw [← HWa.out]; refine wpList_load_mid rfl _ _ rfl w.heap.size 0 rfl n.cl _ (ndR Rx.out) Try.underlying27 rfl ndI ?_)
          | (refine wpList_load_mid rfl _ _ rfl w.heap.size 0 rfl M.cl _ (ndR R2.out) Try.underlying27 rfl ndI ?_))
      | (go_at_call 7; refine (HRT.out _).mono ?_; rintro e w1 ⟨rfl, hb1⟩; have HB1 := Lib.hid hb1; have R1 := Lib.hid (Rx.out.below hb1 Rx.out.lt); clear hb1)
      | ((with_reducible refine show_storeN ?_); refine wpList_store_row rfl _ _ _ rfl w.heap.size M.cl rfl rfl R1.out rfl ndI (cl_one _) ?_; have r2 := row_setCells (vs := M.cl) R1.out rfl; have hb2 := setCells_low M.cl (Nat.le_refl _) (low_and HBa.out HB1.out); obtain ⟨W2, hW2⟩ : ∃ W2, W2 = w1.setCells w.heap.size 0 M.cl := ⟨_, rfl⟩; rw [← hW2] at r2 hb2 ⊢; have R2 := Lib.hid (show NdAt W2 w.heap.size M from r2); have HB2 := Lib.hid hb2; clear r2 hb2 hW2)
      | (go_at_call 8; refine (HLD.out _).mono ?_; rintro e w3 ⟨y, rfl, hm, hf, hb3⟩; have HM := Lib.hid hm; have HF := Lib.hid hf; have HB3 := Lib.hid hb3; clear hm hf hb3)
      | (go_at_call 10; refine (snNew_any _ 1088 _).mono ?_; rintro e w4 ⟨rfl, hw4⟩; have HS4 := Lib.hid (show SnAt w4 w4 y w3.heap.size s s 55 (SS.new 1088) from by rw [← hw4]; exact SnAt.new HM.out (by rw [HLds.out.nls]; exact HLds.out)); have HB4 := Lib.hid (show Below w3.heap.size w3 w4 from by rw [← hw4]; exact alloc_below _ _); obtain ⟨g4, hg4⟩ : ∃ g4, g4 = w3.heap.size := ⟨_, rfl⟩; rw [← hg4] at HS4 ⊢; have HG4 := Lib.hid hg4; clear hw4 hg4))
    have HFP := Lib.hid (show ∀ k, y.fp k → w.heap.size < k from fun k hk => by have := HF.out k hk; have := R2.out.lt; omega)
    have HBW := Lib.hid (show w.heap.size < w3.heap.size from Nat.lt_of_lt_of_le R2.out.lt HB3.out.size)
    go_loopw [8] (fun i wr => ∃ (t : Nat) (s' : St), t < T ∧ i = .int .i64 (t : Int) ∧ SnAt w4 wr y g4 s s' (55 + t) (SS.it (ldV s) (ldK s) t (SS.new 1088))) (fun i _ => 64 - (intOf i).toNat)
    case atStart => exact ⟨0, s, by omega, rfl, HS4.out⟩
    case round =>
      rename World => wr
      obtain ⟨t, s', ht, rfl, hsn⟩ := hrel
      have hgood := it_good (V := ldV s) (K := ldK s) (ldV_in HLds.out.ok) (new_SGood (a := 1088) (by decide)) t (fun u hu => HG.out.on u (by omega))
      have hlt : t < 64 := by omega
      have HST1 := Lib.hid (hsn.stats wr (Below.refl _ _))
      have HSK := Lib.hid (fun W (hb : Below wr.heap.size wr W) => hsn.stepK (by omega) hgood hb)
      obtain ⟨q1, q2, q3, q4, q5⟩ := ldS_num s' (SS.it (ldV s) (ldK s) t (SS.new 1088)).ask
      have hnum := hsn.lds.num
      obtain ⟨s2, hs2⟩ : ∃ s2, s2 = ldS s' (SS.it (ldV s) (ldK s) t (SS.new 1088)).ask := ⟨_, rfl⟩
      rw [← hs2] at HSK q1 q2 q3 q4 q5
      obtain ⟨L0, hL0⟩ : ∃ L0, L0 = s'.ld := ⟨_, rfl⟩
      obtain ⟨S0, hS0⟩ : ∃ S0, S0 = s'.st := ⟨_, rfl⟩
      obtain ⟨F0, hF0⟩ : ∃ F0, F0 = s'.fl := ⟨_, rfl⟩
      obtain ⟨E0, hE0⟩ : ∃ E0, E0 = s'.fe := ⟨_, rfl⟩
      obtain ⟨L1, hL1⟩ : ∃ L1, L1 = s2.ld := ⟨_, rfl⟩
      rw [← hL0, ← hS0, ← hF0, ← hE0] at HST1 hnum
      rw [← hL0, ← hL1] at q4 q5
      rw [← hS0] at q1
      rw [← hF0] at q2
      rw [← hE0] at q3
      have HST2 := Lib.hid (fun w' (h : SnAt w4 w' y g4 s s2 (55 + t + 1) ((SS.it (ldV s) (ldK s) t (SS.new 1088)).go (ldV s) (ldK s))) => by
        have := h.stats w' (Below.refl _ _)
        rw [← hL1, q1, q2, q3] at this
        exact this)
      unfold wv at HST1 HST2
      obtain ⟨Y1, hY1⟩ : ∃ Y1 : Int, Y1 = (L1 : Int) - (L0 : Int) := ⟨_, rfl⟩
      obtain ⟨Y2, hY2⟩ : ∃ Y2 : Int, Y2 = (S0 : Int) + (F0 : Int) := ⟨_, rfl⟩
      obtain ⟨Y3, hY3⟩ : ∃ Y3 : Int, Y3 = Y2 + (E0 : Int) := ⟨_, rfl⟩
      have f1 : IntKind.u64.wrap ((L1 : Int) - (L0 : Int)) = Y1 := by rw [IntKind.wrap_u64]; omega
      have f2 : IntKind.u64.wrap ((S0 : Int) + (F0 : Int)) = Y2 := by rw [IntKind.wrap_u64]; omega
      have f3 : IntKind.u64.wrap (Y2 + (E0 : Int)) = Y3 := by rw [IntKind.wrap_u64]; omega
      have f4 : decide (1 < Y1) = false := by rw [decide_eq_false_iff_not]; omega
      have HWR := Lib.hid (show Below w4.heap.size w4 wr → True from fun _ => trivial)
      clear hs2 hL0 hS0 hF0 hE0 hL1 hY1 hY2 hY3 q1 q2 q3 q4 q5 hnum HWR hgood
      by_cases hT : t + 1 < T
      · have hd := HG.out.on (t + 1) hT
        have hk : ((SS.it (ldV s) (ldK s) t (SS.new 1088)).go (ldV s) (ldK s)).k = 0 := next_k hd
        have hd' : ((SS.it (ldV s) (ldK s) t (SS.new 1088)).go (ldV s) (ldK s)).d = false := hd
        rw [hd', hk] at HSK
        clear hsn hd hd' hk
        go_wp2_with fail
        refine HST1.out.mono ?_
        rintro e w5 ⟨rfl, hb5⟩
        obtain ⟨Wa5, hWa5⟩ : ∃ Wa5, Wa5 = w5.alloc (.cells #[.int .u64 (L0 : Int), .int .u64 (S0 : Int), .int .u64 (F0 : Int), .int .u64 (E0 : Int)] 36) := ⟨_, rfl⟩
        have HBa5 := Lib.hid (show Below wr.heap.size wr Wa5 by rw [hWa5]; exact low_and hb5 (alloc_low _ _))
        have HRa5 := Lib.hid (show Row Wa5 w5.heap.size 36 #[.int .u64 (L0 : Int), .int .u64 (S0 : Int), .int .u64 (F0 : Int), .int .u64 (E0 : Int)] by rw [hWa5]; exact Row.new _ _ _)
        have HSKa := Lib.hid (HSK.out Wa5 HBa5.out)
        have HW5 := Lib.hid hWa5
        have HS5 := Lib.hid hb5.size
        clear hb5 hWa5 HST1 HSK
        go_wp2_with fail
        rw [← HW5.out]
        refine HSKa.out.mono ?_
        rintro e w6 ⟨rfl, h6, hk6⟩
        have HRa6 := Lib.hid (show Row w6 w5.heap.size 36 #[.int .u64 (L0 : Int), .int .u64 (S0 : Int), .int .u64 (F0 : Int), .int .u64 (E0 : Int)] from (hk6 _ HS5.out HRa5.out.lt).trans HRa5.out)
        have HST3 := Lib.hid (HST2.out w6 h6)
        have H6 := Lib.hid h6
        clear h6 hk6 HSKa HST2 HW5
        go_wp2_with fail
        refine HST3.out.mono ?_
        rintro e w7 ⟨rfl, hb7⟩
        obtain ⟨Wb7, hWb7⟩ : ∃ Wb7, Wb7 = w7.alloc (.cells #[.int .u64 (L1 : Int), .int .u64 (S0 : Int), .int .u64 (F0 : Int), .int .u64 (E0 : Int)] 36) := ⟨_, rfl⟩
        have hbb : Below w6.heap.size w6 Wb7 := by rw [hWb7]; exact low_and hb7 (alloc_low _ _)
        have hra := HRa6.out.below hb7 HRa6.out.lt
        have a0 := fun o => (hra.alloc o).cell 0
        have a1 := fun o => (hra.alloc o).cell 1
        have a2 := fun o => (hra.alloc o).cell 2
        have a3 := fun o => (hra.alloc o).cell 3
        simp only [List.getElem?_toArray, List.getElem?_cons_succ, List.getElem?_cons_zero] at a0 a1 a2 a3
        have H7 := Lib.hid (H6.out.below hbb)
        have HW7 := Lib.hid hWb7
        clear hra hbb hb7 hWb7 HST3 HRa6 HRa5 H6
        go_wp2_with fail
        rw [← HW7.out]
        exact ⟨⟨t + 1, s2, hT, by go_num, H7.out⟩, by simp [intOf]; omega⟩
      · have hS : (SS.it (ldV s) (ldK s) t (SS.new 1088)).go (ldV s) (ldK s) = S' := by
          have := HG.out.it
          rw [show T = t + 1 by omega] at this
          exact this
        rw [hS] at HSK HST2
        rw [HD.out, HK.out] at HSK
        clear hsn hS
        go_wp2_with fail
        refine HST1.out.mono ?_
        rintro e w5 ⟨rfl, hb5⟩
        obtain ⟨Wa5, hWa5⟩ : ∃ Wa5, Wa5 = w5.alloc (.cells #[.int .u64 (L0 : Int), .int .u64 (S0 : Int), .int .u64 (F0 : Int), .int .u64 (E0 : Int)] 36) := ⟨_, rfl⟩
        have HBa5 := Lib.hid (show Below wr.heap.size wr Wa5 by rw [hWa5]; exact low_and hb5 (alloc_low _ _))
        have HRa5 := Lib.hid (show Row Wa5 w5.heap.size 36 #[.int .u64 (L0 : Int), .int .u64 (S0 : Int), .int .u64 (F0 : Int), .int .u64 (E0 : Int)] by rw [hWa5]; exact Row.new _ _ _)
        have HSKa := Lib.hid (HSK.out Wa5 HBa5.out)
        have HW5 := Lib.hid hWa5
        have HS5 := Lib.hid hb5.size
        clear hb5 hWa5 HST1 HSK
        go_wp2_with fail
        rw [← HW5.out]
        refine HSKa.out.mono ?_
        rintro e w6 ⟨rfl, h6, hk6⟩
        have HRa6 := Lib.hid (show Row w6 w5.heap.size 36 #[.int .u64 (L0 : Int), .int .u64 (S0 : Int), .int .u64 (F0 : Int), .int .u64 (E0 : Int)] from (hk6 _ HS5.out HRa5.out.lt).trans HRa5.out)
        have HST3 := Lib.hid (HST2.out w6 h6)
        have H6 := Lib.hid h6
        clear h6 hk6 HSKa HST2 HW5
        go_wp2_with fail
        refine HST3.out.mono ?_
        rintro e w7 ⟨rfl, hb7⟩
        obtain ⟨Wb7, hWb7⟩ : ∃ Wb7, Wb7 = w7.alloc (.cells #[.int .u64 (L1 : Int), .int .u64 (S0 : Int), .int .u64 (F0 : Int), .int .u64 (E0 : Int)] 36) := ⟨_, rfl⟩
        have hbb : Below w6.heap.size w6 Wb7 := by rw [hWb7]; exact low_and hb7 (alloc_low _ _)
        have hra := HRa6.out.below hb7 HRa6.out.lt
        have a0 := fun o => (hra.alloc o).cell 0
        have a1 := fun o => (hra.alloc o).cell 1
        have a2 := fun o => (hra.alloc o).cell 2
        have a3 := fun o => (hra.alloc o).cell 3
        simp only [List.getElem?_toArray, List.getElem?_cons_succ, List.getElem?_cons_zero] at a0 a1 a2 a3
        have H7 := Lib.hid (H6.out.below hbb)
        have HW7 := Lib.hid hWb7
        clear hra hbb hb7 hWb7 HST3 HRa6 HRa5 H6
        go_wp2_with fail
        rw [← HW7.out]
        have h0 : 0 < s.nl := by rw [HLds.out.nls]; decide
        have HN7 := Lib.hid (show NdAt Wb7 w.heap.size M from (H7.out.keep (k := w.heap.size) (Nat.lt_of_lt_of_le HBW.out HB4.out.size) (fun hf => by have := HFP.out _ hf; omega) (by have := HBW.out; have := HG4.out; omega)).trans ((R2.out.below HB3.out R2.out.lt).below HB4.out HBW.out))
        have HB7 := Lib.hid (show Below w.heap.size w Wb7 from (low_and (low_and HB2.out HB3.out) HB4.out).trans (H7.out.low (Nat.le_of_lt (Nat.lt_of_lt_of_le HBW.out HB4.out.size)) (fun k hk => Nat.le_of_lt (HFP.out k hk)) (by have := HBW.out; have := HG4.out; omega)))
        have HNO := Lib.hid (H7.out.nodeD h0 HD.out HK.out HNn.out)
        by_cases hx0 : M.nx = 0
        · have hx1 : (M.nx != 0) = false := by simpa using hx0
          have HHI := Lib.hid (H7.out.high0 h0 HD.out HK.out HNn.out (.inr (HXx.out.trans hx0)))
          go_wp2_with (first
            | (go_at_call 13; refine (HNO.out _ (Below.refl _ _)).mono ?_; rintro e w8 ⟨rfl, hb8⟩; have HB8 := Lib.hid hb8; clear hb8)
            | ((with_reducible refine show_storeN ?_); refine wpList_store_row rfl _ _ _ rfl w8.heap.size X.cl rfl rfl (Row.new w8 27 zeroNd.cl.toArray) rfl ndI (cl_one _) ?_; obtain ⟨W9, hW9, hn9, hb9⟩ := store_gen11 w8 X; rw [← hW9]; have HB9 := Lib.hid (low_and HB8.out hb9); have HN9 := Lib.hid hn9; clear hW9 hn9 hb9)
            | (go_at_call 14; refine (HHI.out _ HB9.out).mono ?_; rintro e w10 ⟨rfl, hb10⟩; have HB10 := Lib.hid (low_and HB9.out hb10); have HNX := Lib.hid (HN9.out.below hb10 HN9.out.lt); clear hb10))
          have HRX := Lib.hid (fun (w' : World) (h : ∃ q : LowBy w10, w' = q.W) => (show w'.rangeAt w8.heap.size 0 X.cl by
            obtain ⟨q, rfl⟩ := h
            exact ndR (HNX.out.below q.low HNX.out.lt)))
          have HNM := Lib.hid (HN7.out.below HB10.out HN7.out.lt)
          have HRM := Lib.hid (fun (w' : World) (h : ∃ q : LowBy w10, w' = q.W) => (show w'.rangeAt w.heap.size 0 M.cl by
            obtain ⟨q, rfl⟩ := h
            exact ndR (HNM.out.below q.low HNM.out.lt)))
          have HCX := Lib.hid (fun q : LowBy w10 => Calls.low_of (HTX.out q.W))
          have HCM := Lib.hid (fun q : LowBy w10 => Calls.low_of (HTM.out q.W))
          have HCK := Lib.hid (fun q : LowBy w10 => Calls.low_of (known11_any q.W))
          have HBF := Lib.hid (fun q : LowBy w10 => low_and (low_and HB7.out HB10.out) q.low)
          have c2 := fun q : LowBy w10 => q.cell (show w10.cell? ⟨w.heap.size, 2, none⟩ = some (.int .u64 M.nx) from ndAt_at HNM.out 2)
          have HQ := fun W => eqNd Z W
          obtain ⟨x, hx⟩ : ∃ x, x = M.nx := ⟨_, rfl⟩
          rw [← hx] at c2 hx1
          clear hx HNM HNX hx0
          refine wp_region_quiet_low (by assumption) (by kernel_rfl) ?_
          repeat (first | go_big_quiet_skip | (go_big_quiet_want; first | (refine quiet_load_mid 27 _ rfl w8.heap.size 0 rfl X.cl _ HRX.out Try.underlying27 rfl ndI ?_; simp only [Act.put, List.setIfInBounds_toArray, List.set_cons_succ, List.set_cons_zero]; go_big_quiet_on) | (refine quiet_load_mid 27 _ rfl w.heap.size 0 rfl M.cl _ HRM.out Try.underlying27 rfl ndI ?_; simp only [Act.put, List.setIfInBounds_toArray, List.set_cons_succ, List.set_cons_zero]; go_big_quiet_on) | (go_big_quiet_op; first | go_big_quiet_on | go_big_quiet_call ((first | (go_at_call 15; first | (with_reducible exact HCX.out _) | (with_reducible exact HCM.out _)) | (go_at_call 9; with_reducible exact HCK.out _))))))
          refine wpQuiet_nil ?_
          intro _ hw'
          obtain ⟨q, hw''⟩ := hw'
          subst hw''
          have HFq := Lib.hid (HBF.out q)
          clear c2 HRX HRM HCX HCM HCK HBF
          go_wp2
          go_ret
          exact ⟨rfl, HFq.out⟩
        · have hx1 : (M.nx != 0) = true := by simpa using hx0
          have HHI := Lib.hid (H7.out.high1 h0 HD.out HK.out HNn.out (by rw [HXx.out]; exact hx0) (HLO.out hx0))
          go_wp2_with (first
            | (go_at_call 13; refine (HNO.out _ (Below.refl _ _)).mono ?_; rintro e w8 ⟨rfl, hb8⟩; have HB8 := Lib.hid hb8; clear hb8)
            | ((with_reducible refine show_storeN ?_); refine wpList_store_row rfl _ _ _ rfl w8.heap.size X.cl rfl rfl (Row.new w8 27 zeroNd.cl.toArray) rfl ndI (cl_one _) ?_; obtain ⟨W9, hW9, hn9, hb9⟩ := store_gen11 w8 X; rw [← hW9]; have HB9 := Lib.hid (low_and HB8.out hb9); have HN9 := Lib.hid hn9; clear hW9 hn9 hb9)
            | (go_at_call 14; refine (HHI.out _ HB9.out).mono ?_; rintro e w10 ⟨rfl, hb10⟩; have HB10 := Lib.hid (low_and HB9.out hb10); have HNX := Lib.hid (HN9.out.below hb10 HN9.out.lt); clear hb10))
          have HRX := Lib.hid (fun (w' : World) (h : ∃ q : LowBy w10, w' = q.W) => (show w'.rangeAt w8.heap.size 0 X.cl by
            obtain ⟨q, rfl⟩ := h
            exact ndR (HNX.out.below q.low HNX.out.lt)))
          have HNM := Lib.hid (HN7.out.below HB10.out HN7.out.lt)
          have HRM := Lib.hid (fun (w' : World) (h : ∃ q : LowBy w10, w' = q.W) => (show w'.rangeAt w.heap.size 0 M.cl by
            obtain ⟨q, rfl⟩ := h
            exact ndR (HNM.out.below q.low HNM.out.lt)))
          have HCX := Lib.hid (fun q : LowBy w10 => Calls.low_of (HTX.out q.W))
          have HCM := Lib.hid (fun q : LowBy w10 => Calls.low_of (HTM.out q.W))
          have HCK := Lib.hid (fun q : LowBy w10 => Calls.low_of (known11_any q.W))
          have HBF := Lib.hid (fun q : LowBy w10 => low_and (low_and HB7.out HB10.out) q.low)
          have c2 := fun q : LowBy w10 => q.cell (show w10.cell? ⟨w.heap.size, 2, none⟩ = some (.int .u64 M.nx) from ndAt_at HNM.out 2)
          have HQ := fun W => eqNd Z W
          obtain ⟨x, hx⟩ : ∃ x, x = M.nx := ⟨_, rfl⟩
          rw [← hx] at c2 hx1
          clear hx HNM HNX hx0
          refine wp_region_quiet_low (by assumption) (by kernel_rfl) ?_
          repeat (first | go_big_quiet_skip | (go_big_quiet_want; first | (refine quiet_load_mid 27 _ rfl w8.heap.size 0 rfl X.cl _ HRX.out Try.underlying27 rfl ndI ?_; simp only [Act.put, List.setIfInBounds_toArray, List.set_cons_succ, List.set_cons_zero]; go_big_quiet_on) | (refine quiet_load_mid 27 _ rfl w.heap.size 0 rfl M.cl _ HRM.out Try.underlying27 rfl ndI ?_; simp only [Act.put, List.setIfInBounds_toArray, List.set_cons_succ, List.set_cons_zero]; go_big_quiet_on) | (go_big_quiet_op; first | go_big_quiet_on | go_big_quiet_call ((first | (go_at_call 15; first | (with_reducible exact HCX.out _) | (with_reducible exact HCM.out _)) | (go_at_call 9; with_reducible exact HCK.out _))))))
          refine wpQuiet_nil ?_
          intro _ hw'
          obtain ⟨q, hw''⟩ := hw'
          subst hw''
          have HFq := Lib.hid (HBF.out q)
          clear c2 HRX HRM HCX HCM HCK HBF
          go_wp2
          go_ret
          exact ⟨rfl, HFq.out⟩
end Go.Proofs.Ytaabdmlmemmnaaa
/- SnapAlone for any argument, number by number; conditions: the numbers are such as Go's types hold. -/
namespace Go.Proofs.Ytaabdmlmemmnaaa
open Go.RowKit
set_option linter.unusedVariables false
theorem alone_all (a0_0 a0_1 a0_2 a0_3 a0_4 a0_5 a0_6 a0_7 a0_8 a0_9 a0_10 a0_11 a0_12 a0_13 a0_14 a0_15 a0_16 a0_17 a0_18 a0_19 a0_20 a1 : Int) (W : World) (w0_0 : (Lit.int .i64 a0_0).wf = true) (w0_1 : (Lit.int .u64 a0_1).wf = true) (w0_2 : (Lit.int .u64 a0_2).wf = true) (w0_3 : (Lit.int .u64 a0_3).wf = true) (w0_4 : (Lit.int .u64 a0_4).wf = true) (w0_5 : (Lit.int .u64 a0_5).wf = true) (w0_6 : (Lit.int .u64 a0_6).wf = true) (w0_7 : (Lit.int .u64 a0_7).wf = true) (w0_8 : (Lit.int .u64 a0_8).wf = true) (w0_9 : (Lit.int .u64 a0_9).wf = true) (w0_10 : (Lit.int .u64 a0_10).wf = true) (w0_11 : (Lit.int .u64 a0_11).wf = true) (w0_12 : (Lit.int .u64 a0_12).wf = true) (w0_13 : (Lit.int .u64 a0_13).wf = true) (w0_14 : (Lit.int .u64 a0_14).wf = true) (w0_15 : (Lit.int .u64 a0_15).wf = true) (w0_16 : (Lit.int .u64 a0_16).wf = true) (w0_17 : (Lit.int .u64 a0_17).wf = true) (w0_18 : (Lit.int .u64 a0_18).wf = true) (w0_19 : (Lit.int .u64 a0_19).wf = true) (w0_20 : (Lit.int .u64 a0_20).wf = true) (w1 : (Lit.int .u64 a1).wf = true) : Calls Try.prog 3 #[.agg #[.int .i64 a0_0, .int .u64 a0_1, .int .u64 a0_2, .int .u64 a0_3, .int .u64 a0_4, .int .u64 a0_5, .int .u64 a0_6, .int .u64 a0_7, .int .u64 a0_8, .int .u64 a0_9, .int .u64 a0_10, .int .u64 a0_11, .int .u64 a0_12, .int .u64 a0_13, .int .u64 a0_14, .int .u64 a0_15, .int .u64 a0_16, .int .u64 a0_17, .int .u64 a0_18, .int .u64 a0_19, .int .u64 a0_20], .int .u64 a1] W fun e w' => e = .returned (.bool true) ∧ Below W.heap.size W w' :=
  snapAlone_any (Nd.mk a0_0 a0_1 a0_2 a0_3 a0_4 a0_5 a0_6 a0_7 a0_8 a0_9 a0_10 a0_11 a0_12 a0_13 a0_14 a0_15 a0_16 a0_17 a0_18 a0_19 a0_20) (node_wf w0_0 w0_1 w0_2 w0_3 w0_4 w0_5 w0_6 w0_7 w0_8 w0_9 w0_10 w0_11 w0_12 w0_13 w0_14 w0_15 w0_16 w0_17 w0_18 w0_19 w0_20) a1 (u64_wf' w1) W
end Go.Proofs.Ytaabdmlmemmnaaa
/- What a snapshot of any words comes to, where nobody stores; plain facts. -/
namespace Go.Proofs.Ytaabdmlmemmnaaa
open Go.RowKit Go.Shelf
set_option linter.unusedVariables false
attribute [local go_sem] Oper.semAt_some
/-- The words at an address, as the law reads them. -/
def rdX (s : St) (a i : Nat) : Int := ldV s ((a + 8 * i) % 18446744073709551616)
theorem reads_snap {s : St} (hn : s.nl = 16) {a : Nat} (ha : a < 18446744073709551616) :
    ∃ T S', 1 ≤ T ∧ T ≤ 60 ∧ Goes (ldV s) (ldK s) (SS.new a) T S' ∧ S'.d = true ∧
      (((S'.k = 3 ∨ S'.k = 11) ∧ S'.n = zeroNd) ∨ (S'.k = 0 ∧ ∃ Y, ofR ((List.range 24).map (rdX s a)) = (Y, 0) ∧ S'.n = Y.tr (Y.len + 1) Y.len)) := by
  obtain ⟨T, S', t1, t2, hG, hd, hr⟩ := sn_alone (V := ldV s) (K := ldK s) (ldK_is _) a
  refine ⟨T, S', t1, t2, hG, hd, ?_⟩
  rcases hr with ⟨e1, e2, _⟩ | ⟨e1, e2, _, h0⟩
  · exact .inl ⟨.inl e1, e2⟩
  · have hw : ∀ i, i < 24 → wordAt a i = (a + 8 * i) % 18446744073709551616 := by
      intro i hi
      have h3 : wordAt a 3 % 8 = 0 ∧ wordAt a 3 < 1024 := by
        unfold ldK at h0
        rw [hn] at h0
        by_cases h : wordAt a 3 % 8 = 0 ∧ wordAt a 3 < 64 * 16
        · exact h
        · rw [if_neg h] at h0
          cases h0
      unfold wordAt at h3 ⊢
      by_cases hc : a + 8 * 3 < 18446744073709551616
      · rw [if_pos hc] at h3
        rw [if_pos (by omega), Nat.mod_eq_of_lt (by omega)]
      · rw [if_neg hc] at h3
        omega
    have hR := ofR_full (x := (List.range 24).map (rdX s a)) (W := fun i => ldV s (wordAt a i)) (fun i hi => by
      rw [wAt_map _ hi]
      unfold rdX
      rw [← hw i hi])
    rw [hR] at e1 e2
    dsimp only at e1 e2
    obtain ⟨Y, k, hY⟩ : ∃ Y k, ofR ((List.range 24).map (rdX s a)) = (Y, k) := ⟨_, _, rfl⟩
    rw [hY] at e1 e2 ⊢
    dsimp only at e1 e2
    have hk : (k = 0) ∨ (k = 11 ∧ Y = zeroNd) := by
      unfold ofR at hY
      split at hY
      · exact .inl (Prod.mk.inj hY).2.symm
      · exact .inr ⟨(Prod.mk.inj hY).2.symm, (Prod.mk.inj hY).1.symm⟩
    rcases hk with rfl | ⟨rfl, rfl⟩
    · exact .inr ⟨e1, Y, rfl, e2⟩
    · rw [zeroNd_tr] at e2
      exact .inl ⟨.inr e1, e2⟩
/-- The stores of the law. -/
def rdS (l : List (Nat × Nat)) (k : Nat) : St := stF (St.zero 16) ((win 1024 l).take k)
theorem rdS_Lds {l : List (Nat × Nat)} (hl : l.length ≤ 40) (hx : ∀ p ∈ l, p.1 < 18446744073709551616 ∧ p.2 < 18446744073709551616) (k : Nat) : Lds 16 40 (rdS l k) := by
  have := stF_Lds ((win 1024 l).take k) (zero_Lds 16) (by rw [List.length_take, win_length]; omega) (fun p hp => by
    obtain ⟨q, hq, rfl⟩ := List.mem_map.1 (List.mem_of_mem_take hp)
    have := hx q hq
    dsimp only
    omega)
  refine this.mono ?_
  rw [List.length_take, win_length]
  omega
theorem rdS_succ {l : List (Nat × Nat)} {k : Nat} (hk : k < l.length) : rdS l (k + 1) = (rdS l k).store (l[k].1 % 1024 / 8 * 8) l[k].2 := by
  unfold rdS
  have hk' : k < (win 1024 l).length := by rw [win_length]; exact hk
  rw [List.take_succ_eq_append_getElem hk', stF_snoc]
  simp only [win, List.getElem_map]
end Go.Proofs.Ytaabdmlmemmnaaa
/- The law SnapReads; conditions: numbers such as Go's types hold. -/
namespace Go.Proofs.Ytaabdmlmemmnaaa
open Go.RowKit Go.Shelf
set_option linter.unusedVariables false
attribute [local go_sem] Oper.semAt_some
theorem puts_reads {W : World} {A : Option Addr} {len cap : Nat} {l : List (Int × Int)} (h : PutsIn W A len cap l) : Reads W (.slice A len cap) (natPuts l) := by
  obtain ⟨h1, h2, h3, h4, h5⟩ := h
  refine ⟨A, cap, by rw [natPuts_length, h1], by rw [natPuts_length, h1]; exact h2, h3, fun k hk => ?_⟩
  rw [natPuts_length, h1] at hk
  rcases h4 with ⟨_, h6, _⟩ | ⟨a, ha, hc⟩
  · omega
  · obtain ⟨e0, e1⟩ := hc k hk
    have hg : l.getD k (0, 0) = l[k]'(by omega) := by rw [List.getD_eq_getElem?_getD, List.getElem?_eq_getElem (by omega)]; rfl
    have hq := h5 _ (List.getElem_mem (show k < l.length by omega))
    rw [hg] at e0 e1
    refine ⟨a, ha, ?_, ?_⟩
    · rw [e0]
      simp only [natPuts, List.getElem_map]
      congr 2
      omega
    · rw [e1]
      simp only [natPuts, List.getElem_map]
      congr 2
      omega

theorem show_loadW {P : Program} {ops : Array Oper} {rest : List Oper} {Q : Exit → Act → World → Prop} {d : Option Nat} {t2 : TypeId} {x : Operand} {ps : String} {af : Array Edge} {g : Option (Nat × Bool)} {a : Act} {w : World} (h : wpList P ops Q (⟨d, .load 67 x, t2, ps, af, g⟩ :: rest) a w) : wpList P ops Q (⟨d, .load 67 x, t2, ps, af, g⟩ :: rest) a w := h
/-- The words that the law has read. -/
def rdCells (s : St) (a k : Nat) : List Value := (List.range 24).map fun i => if i < k then .int .u64 (rdX s a i) else .int .u64 0
theorem rdCells_len (s : St) (a k : Nat) : (rdCells s a k).length = 24 := by simp [rdCells]
theorem rdCells_at (s : St) (a k : Nat) {i : Nat} (hi : i < 24) : (rdCells s a k)[i]? = some (if i < k then .int .u64 (rdX s a i) else .int .u64 0) := by
  unfold rdCells
  rw [List.getElem?_map, List.getElem?_range hi]
  rfl
theorem rdCells_set (s : St) (a : Nat) {k : Nat} (hk : k < 24) : (rdCells s a k).toArray.setIfInBounds k (.int .u64 (rdX s a k)) = (rdCells s a (k + 1)).toArray := by
  apply Array.ext_getElem?
  intro i
  by_cases hi : i < 24
  · rw [show (rdCells s a (k + 1)).toArray[i]? = (rdCells s a (k + 1))[i]? from List.getElem?_toArray, rdCells_at _ _ _ hi]
    by_cases e : i = k
    · subst e
      rw [Array.getElem?_setIfInBounds_self, if_pos (by rw [List.size_toArray, rdCells_len]; exact hi), if_pos (by omega)]
    · rw [Array.getElem?_setIfInBounds_ne (by omega), List.getElem?_toArray, rdCells_at _ _ _ hi]
      by_cases h : i < k
      · rw [if_pos h, if_pos (by omega)]
      · rw [if_neg h, if_neg (by omega)]
  · rw [Array.getElem?_eq_none (by rw [Array.size_setIfInBounds, List.size_toArray, rdCells_len]; omega), Array.getElem?_eq_none (by rw [List.size_toArray, rdCells_len]; omega)]
theorem rdCells_full (s : St) (a : Nat) : rdCells s a 24 = ((List.range 24).map (rdX s a)).map uw := by
  unfold rdCells
  rw [List.map_map]
  exact List.map_congr_left fun i hi => by rw [if_pos (List.mem_range.1 hi)]; rfl
/-- Where the law's last loop stands. -/
structure L3 (w wq : World) (gy : Nat) (s : St) (a k b11 b15 : Nat) (X : Nd) : Prop where
  ex : ∃ y s', MemAt wq y s' ∧ y.g = gy ∧ s'.nl = s.nl ∧ s'.view = s.view ∧ Lds 16 (200 + k) s' ∧ ¬ y.fp b15 ∧ ¬ y.fp b11 ∧ ∀ k, y.fp k → w.heap.size ≤ k
  row : Row wq b15 67 (rdCells s a k).toArray
  nd : NdAt wq b11 X
  ne : b11 ≠ b15
  low : Below w.heap.size w wq
  b0 : w.heap.size ≤ b15
theorem L3.load {w wq : World} {gy : Nat} {s : St} {a k b11 b15 : Nat} {X : Nd} (h : L3 w wq gy s a k b11 b15 X) (hk : k ≤ 24) (A : Nat) :
    Calls Try.prog 24 #[.pointer (some ⟨gy, 0, none⟩), .int .u64 (A : Int)] wq fun e w' => e = .returned (.tuple #[.int .u64 (ldV s A), .int .i64 (ldK s A)]) ∧
      ((∃ y s', MemAt w' y s' ∧ y.g = gy ∧ s'.nl = s.nl ∧ s'.view = s.view ∧ Lds 16 (200 + (k + 1)) s' ∧ ¬ y.fp b15 ∧ ¬ y.fp b11 ∧ ∀ k, y.fp k → w.heap.size ≤ k) ∧ Row w' b15 67 (rdCells s a k).toArray ∧ NdAt w' b11 X ∧ Below w.heap.size w w') := by
  obtain ⟨⟨y, s', hm, hg, hnl, hvw, hL, n15, n11, hfp⟩, hrow, hnd, hne, hlow, hb0⟩ := h
  have hv : ldV s' A = ldV s A ∧ ldK s' A = ldK s A := by
    unfold ldV ldK
    rw [hnl, hvw]
    exact ⟨rfl, rfl⟩
  have hsz := hlow.size
  rw [← hg]
  refine (load_any hm hL.ok A).mono ?_
  rintro e w' ⟨rfl, y3, hm3, ht3⟩
  rw [hv.1, hv.2]
  refine ⟨rfl, ⟨y3, ldS s' A, hm3, ht3.g, ?_, ?_, hL.load (by omega) A, ?_, ?_, ?_⟩, ht3.but.row hrow n15, ht3.but.row hnd n11, hlow.trans (ht3.but.below hsz hfp)⟩
  · unfold ldS
    split <;> exact hnl
  · unfold ldS
    split <;> exact hvw
  · intro hf
    rcases ht3.fp _ hf with h | h
    · exact n15 h
    · have := hrow.lt
      omega
  · intro hf
    rcases ht3.fp _ hf with h | h
    · exact n11 h
    · have := hnd.lt
      omega
  · intro j hf
    rcases ht3.fp _ hf with h | h
    · exact hfp j h
    · omega
theorem L3.set {w w' : World} {gy : Nat} {s : St} {a k b11 b15 : Nat} {X : Nd} (hk : k < 24) (h : (∃ y s', MemAt w' y s' ∧ y.g = gy ∧ s'.nl = s.nl ∧ s'.view = s.view ∧ Lds 16 (200 + (k + 1)) s' ∧ ¬ y.fp b15 ∧ ¬ y.fp b11 ∧ ∀ k, y.fp k → w.heap.size ≤ k) ∧ Row w' b15 67 (rdCells s a k).toArray ∧ NdAt w' b11 X ∧ Below w.heap.size w w')
    (hne : b11 ≠ b15) (hb0 : w.heap.size ≤ b15) : L3 w (w'.setCell ⟨b15, k, none⟩ (.int .u64 (rdX s a k))) gy s a (k + 1) b11 b15 X := by
  obtain ⟨⟨y, s', hm, hg, hnl, hvw, hL, n15, n11, hfp⟩, hrow, hnd, hlow⟩ := h
  have hr := hrow.set k (.int .u64 (rdX s a k))
  rw [rdCells_set _ _ hk] at hr
  exact ⟨⟨y, s', hm.rset n15 k _, hg, hnl, hvw, hL, n15, n11, hfp⟩, hr, hnd.other (p := ⟨b15, k, none⟩) hne _, hne, hlow.setCell (p := ⟨b15, k, none⟩) hb0 _, hb0⟩
set_option maxRecDepth 100000 in
set_option maxHeartbeats 3200000 in
theorem snapReads_any {V : Value} {l : List (Nat × Nat)} {w : World} (hV : Reads w V l) (hmx : l.length ≤ 9223372036854775807) (hx : ∀ p ∈ l, p.1 < 18446744073709551616 ∧ p.2 < 18446744073709551616) {a : Nat} (ha : a < 18446744073709551616) :
    Calls Try.prog 5 #[V, .int .u64 (a : Int)] w fun e w' => e = .returned (.bool true) ∧ Below w.heap.size w w' := by
  have mixed : Try.prog.follows .mixedOrders = true := by kernel_rfl
  have HN := Lib.hid (show Calls Try.prog 22 #[.int .i64 1024] w (NewPost 16 w) from new_yes 16 w (by decide) (by decide))
  obtain ⟨A, cap, rfl, hc1, hc2, hc3⟩ := hV
  have HC := Lib.hid hc3
  have HX := Lib.hid hx
  obtain ⟨n, hn⟩ : ∃ n, n = l.length := ⟨_, rfl⟩
  have HNl := Lib.hid hn
  rw [← hn] at hc1 hmx ⊢
  clear hc3 hx hn
  by_cases h40 : 40 < n
  · have hd4 : decide (40 < (n : Int)) = true := by rw [decide_eq_true_eq]; omega
    go_enter Try.func5, Try.ntmps5
    go_wp2_with (first
      | (go_at_call 22; refine HN.out.mono ?_; rintro e w1 ⟨y, rfl, hm, hf, hb1⟩; have HB1 := Lib.hid hb1; clear hm hf hb1)
      | (go_at_call 9; refine (known11_any _).mono ?_; rintro e w2 ⟨rfl, hb2⟩; have HB2 := Lib.hid hb2; clear hb2))
    go_ret
    exact ⟨rfl, low_and HB1.out HB2.out⟩
  · have hd4 : decide (40 < (n : Int)) = false := by rw [decide_eq_false_iff_not]; omega
    have h40' : n ≤ 40 := by omega
    clear h40
    go_enter Try.func5, Try.ntmps5
    go_wp2_with (go_at_call 22; refine HN.out.mono ?_; rintro e w1 ⟨y, rfl, hm, hf, hb1⟩; have HM := Lib.hid hm; have HF := Lib.hid hf; have HB1 := Lib.hid hb1; clear hm hf hb1)
    go_loopw [7] (fun i wr => ∃ (k : Nat) (y' : Lay), k ≤ n ∧ i = .int .i64 (k : Int) ∧ MemAt wr y' (rdS l k) ∧ Turn w1 wr y y') (fun i _ => n - (intOf i).toNat)
    case atStart => exact ⟨0, y, Nat.zero_le _, rfl, HM.out, Turn.refl _ _⟩
    case round =>
      rename World => wr
      obtain ⟨k, y', hk, rfl, hm, ht⟩ := hrel
      have hL := rdS_Lds (l := l) (by rw [← HNl.out]; exact h40') HX.out k
      by_cases hlt : k < n
      · obtain ⟨ad, rfl, hq0', hq1'⟩ := HC.out k (by rw [← HNl.out]; exact hlt)
        rw [← add_add ad (k * 2) 1, show (ad.add (k * 2)).add 1 = ⟨(ad.add (k * 2)).block, (ad.add (k * 2)).off + 1, none⟩ from rfl] at hq1'
        have hbl : (ad.add (k * 2)).block < w.heap.size := block_lt_of_cell hq0'
        have hst : wr.heap[(ad.add (k * 2)).block]? = w.heap[(ad.add (k * 2)).block]? := (ht.but.block _ (Nat.lt_of_lt_of_le hbl HB1.out.size) (fun hf => by have := HF.out _ hf; omega)).trans (HB1.out.block _ hbl)
        have hq0 := (World.cell?_of_block (a := ad.add (k * 2)) hst).trans hq0'
        have hq1 := (World.cell?_of_block (a := ⟨(ad.add (k * 2)).block, (ad.add (k * 2)).off + 1, none⟩) hst).trans hq1'
        obtain ⟨b, hb⟩ : ∃ b, b = (l[k]'(by rw [← HNl.out]; exact hlt)).1 := ⟨_, rfl⟩
        obtain ⟨v, hv⟩ : ∃ v, v = (l[k]'(by rw [← HNl.out]; exact hlt)).2 := ⟨_, rfl⟩
        rw [← hb] at hq0
        rw [← hv] at hq1
        have hbv := HX.out _ (List.getElem_mem (show k < l.length by rw [← HNl.out]; exact hlt))
        rw [← hb, ← hv] at hbv
        obtain ⟨B, hB⟩ : ∃ B, B = b % 1024 / 8 * 8 := ⟨_, rfl⟩
        have HST := Lib.hid (show ∀ W, Below wr.heap.size wr W → Calls Try.prog 23 #[.pointer (some ⟨y.g, 0, none⟩), .int .u64 (B : Int), .int .u64 (v : Int)] W (StPost W y' (rdS l (k + 1)) 0) from fun W hbw => by
          rw [rdS_succ (by rw [← HNl.out]; exact hlt), ← ht.g, ← hb, ← hv, ← hB]
          exact store_ok (hm.below hbw) B v (by omega) (by rw [hL.nls]; omega) hbv.2 (by have := hL.num; omega) (fun l hl => hL.ok.few l hl))
        have HT := Lib.hid ht
        obtain ⟨q, hq⟩ : ∃ q, q = b % 1024 := ⟨_, rfl⟩
        have hq2 : q < 1024 := by omega
        have htm : (b : Int).tmod 1024 = (q : Int) := by rw [Int.tmod_eq_emod_of_nonneg (by omega), hq]; omega
        have hem : (b : Int) % 1024 = (q : Int) := by omega
        have htd : (q : Int).tdiv 8 = (q : Int) / 8 := Int.tdiv_eq_ediv_of_nonneg (by omega)
        have hw1 : IntKind.u64.wrap ((q : Int) / 8) = (q : Int) / 8 := by rw [IntKind.wrap_u64]; omega
        have hw2 : IntKind.u64.wrap ((q : Int) / 8 * 8) = (B : Int) := by rw [IntKind.wrap_u64]; omega
        have hw3 : (q : Int) / 8 * 8 = (B : Int) := by omega
        have hklt : decide ((k : Int) < (n : Int)) = true := by rw [decide_eq_true_eq]; omega
        have ca := fun q : LowBy wr => q.cell hq0
        have cb := fun q : LowBy wr => q.cell hq1
        clear hq0 hq1 hq0' hq1' hst hbl hb hv hbv hB hm ht hL hq
        go_wp2_with fail
        refine wp_region_low_tail 14 (by assumption) (by kernel_rfl) ?_
        simp only [List.take_succ_cons, List.take_zero, List.drop_succ_cons, List.drop_zero]
        repeat (go_big_quiet_step (fail))
        refine wpQuiet_nil ?_
        intro _ hw'
        obtain ⟨q, hw''⟩ := hw'
        subst hw''
        have HQ := Lib.hid (HST.out q.W q.low)
        have HTq := Lib.hid (HT.out.trans (Turn.of_below y' q.low))
        clear ca cb HST
        go_wp2_with (refine HQ.out.mono ?_; rintro e w5 ⟨rfl, y5, hm5, ht5⟩; have HM5 := Lib.hid hm5; have HT5 := Lib.hid (HTq.out.trans ht5); clear hm5 ht5)
        exact ⟨⟨k + 1, y5, by omega, by go_num, HM5.out, HT5.out⟩, by simp [intOf]; omega⟩
      · have hkn : k = n := by omega
        rw [hkn] at hm hL
        obtain ⟨s, hs⟩ : ∃ s, s = rdS l n := ⟨_, rfl⟩
        rw [← hs] at hm hL
        obtain ⟨T, S', t1, t2, hG, hd, hres⟩ := reads_snap hL.nls ha
        have HM := Lib.hid hm
        have HL := Lib.hid hL
        have HG := Lib.hid hG
        have HFP := Lib.hid (show ∀ j, y'.fp j → w.heap.size ≤ j from fun j hj => (ht.fp j hj).elim (HF.out j) (fun h => Nat.le_trans HB1.out.size h))
        have HBr := Lib.hid (show Below w.heap.size w wr from HB1.out.trans (ht.but.below HB1.out.size (fun j hj => HF.out j hj)))
        have hgy := ht.g
        obtain ⟨gy, hgy'⟩ : ∃ gy, gy = y.g := ⟨_, rfl⟩
        rw [← hgy'] at hgy ⊢
        have HGY := Lib.hid hgy
        clear hm hL hG ht hgy hs HC HX HNl hc1 hc2 hgy' HN
        have hlt' : ¬ k < n := hlt
        go_wp2_with (go_at_call 10; refine (snNew_any _ a _).mono ?_; rintro e w2 ⟨rfl, hw2⟩; have HS2 := Lib.hid (show SnAt w2 w2 y' wr.heap.size s s 40 (SS.new a) from by rw [← hw2, ← HGY.out]; exact SnAt.new HM.out (by rw [HL.out.nls]; exact HL.out)); have HB2 := Lib.hid (show Below w.heap.size w w2 from by rw [← hw2]; exact low_and HBr.out (alloc_below _ _)); have HBW := Lib.hid (show w.heap.size < w2.heap.size from by rw [← hw2]; have := HBr.out.size; simp; omega); obtain ⟨g2, hg2⟩ : ∃ g2, g2 = wr.heap.size := ⟨_, rfl⟩; rw [← hg2] at HS2 ⊢; have HGW := Lib.hid (show w.heap.size ≤ g2 by rw [hg2]; exact HBr.out.size); clear hw2 hg2)
        go_loopw [6, 9, 10] (fun e d i wq => ∃ (t : Nat) (s' : St), t ≤ T ∧ i = .int .i64 (t : Int) ∧ SnAt w2 wq y' g2 s s' (40 + t) (SS.it (ldV s) (ldK s) t (SS.new a)) ∧ ((t < T ∧ d = .bool false ∧ e = .int .i64 0) ∨ (t = T ∧ d = .bool true ∧ e = .int .i64 S'.k))) (fun _ _ i _ => 64 - (intOf i).toNat)
        case atStart => exact ⟨0, s, by omega, rfl, HS2.out, .inl ⟨by omega, rfl, rfl⟩⟩
        case round =>
          rename World => wr2
          obtain ⟨t, s', ht, rfl, hsn, hst⟩ := hrel
          have hlt : t < 64 := by omega
          rcases hst with ⟨htT, rfl, rfl⟩ | ⟨htT, rfl, rfl⟩
          · have hgood := it_good (V := ldV s) (K := ldK s) (ldV_in HL.out.ok) (new_SGood ha) t (fun u hu => HG.out.on u (by omega))
            have hstep := hsn.step (by omega) hgood
            have hor : (t + 1 < T ∧ ((SS.it (ldV s) (ldK s) t (SS.new a)).go (ldV s) (ldK s)).d = false ∧ ((SS.it (ldV s) (ldK s) t (SS.new a)).go (ldV s) (ldK s)).k = 0) ∨ (t + 1 = T ∧ ((SS.it (ldV s) (ldK s) t (SS.new a)).go (ldV s) (ldK s)).d = true ∧ ((SS.it (ldV s) (ldK s) t (SS.new a)).go (ldV s) (ldK s)).k = S'.k) := by
              by_cases hT : t + 1 < T
              · have hd := HG.out.on (t + 1) hT
                exact .inl ⟨hT, hd, next_k hd⟩
              · have hS : (SS.it (ldV s) (ldK s) t (SS.new a)).go (ldV s) (ldK s) = S' := by
                  have := HG.out.it
                  rw [show T = t + 1 by omega] at this
                  exact this
                exact .inr ⟨by omega, by rw [hS]; exact hd, by rw [hS]⟩
            have HST := Lib.hid hstep
            have HOR := Lib.hid hor
            clear hstep hor hgood hsn hd hres
            go_wp2_with (go_at_call 12; refine HST.out.mono ?_; rintro e w3 ⟨rfl, h3⟩; have H3 := Lib.hid h3; clear h3)
            refine ⟨⟨t + 1, _, by omega, by go_num, H3.out, ?_⟩, by simp [intOf]; omega⟩
            rcases HOR.out with ⟨a1, a2, a3⟩ | ⟨a1, a2, a3⟩
            · exact .inl ⟨a1, by rw [a2], by rw [a3]⟩
            · exact .inr ⟨a1, by rw [a2], by rw [a3]⟩
          · have hdn : SnAt w2 wr2 y' g2 s s' (40 + t) S' := by
              have := HG.out.it
              rw [← htT] at this
              rw [← this]
              exact hsn
            have h0 : 0 < s.nl := by rw [HL.out.nls]; decide
            have HTT := Lib.hid htT
            clear hsn htT
            rcases hres with ⟨hk3 | hk11, hzn⟩ | ⟨hk0, Y, hY, hX⟩
            · rw [hk3]
              have hqz := fun W => (show (binOp .eql 27 (.agg zeroNd.cl.toArray) (.agg #[.int .i64 0, .int .u64 0, .int .u64 0, .int .u64 0, .int .u64 0, .int .u64 0, .int .u64 0, .int .u64 0, .int .u64 0, .int .u64 0, .int .u64 0, .int .u64 0, .int .u64 0, .int .u64 0, .int .u64 0, .int .u64 0, .int .u64 0, .int .u64 0, .int .u64 0, .int .u64 0, .int .u64 0])).run Try.prog W = .ok (.bool true) W from eq_node zeroNd W)
              have HNO := Lib.hid (hdn.nodeD h0 hd hk3 hzn)
              have HHI := Lib.hid (hdn.high0 h0 hd hk3 hzn (.inl (by decide)))
              have HLw := Lib.hid (show Below w.heap.size w wr2 from HB2.out.trans (hdn.low (Nat.le_of_lt HBW.out) (fun k hk => HFP.out k hk) HGW.out))
              clear hdn hd hzn
              go_wp2_with (first
                | (go_at_call 13; refine (HNO.out _ (Below.refl _ _)).mono ?_; rintro e w5 ⟨rfl, hb5⟩; have HB5 := Lib.hid hb5; clear hb5)
                | ((with_reducible refine show_storeN ?_); refine wpList_store_row rfl _ _ _ rfl w5.heap.size zeroNd.cl rfl rfl (Row.new w5 27 zeroNd.cl.toArray) rfl ndI (cl_one _) ?_; obtain ⟨W6, hW6, hn6, hb6⟩ := store_gen11 w5 zeroNd; rw [← hW6]; have HB6 := Lib.hid (low_and HB5.out hb6); have HN6 := Lib.hid hn6; clear hW6 hn6 hb6)
                | (go_at_call 14; refine (HHI.out _ HB6.out).mono ?_; rintro e w7 ⟨rfl, hb7⟩; have HB7 := Lib.hid (low_and HB6.out hb7); have HN7 := Lib.hid (HN6.out.below hb7 HN6.out.lt); clear hb7)
                | ((with_reducible refine show_loadN ?_); refine wpList_load_mid rfl _ _ rfl w5.heap.size 0 rfl zeroNd.cl _ (ndR HN7.out) Try.underlying27 rfl ndI ?_)
                | (go_at_call 9; refine (known11_any _).mono ?_; rintro e w8 ⟨rfl, hb8⟩; have HB8 := Lib.hid (low_and HB7.out hb8); clear hb8))
              go_ret
              exact ⟨rfl, low_and HLw.out HB8.out⟩
            · rw [hk11]
              have hqz := fun W => (show (binOp .eql 27 (.agg zeroNd.cl.toArray) (.agg #[.int .i64 0, .int .u64 0, .int .u64 0, .int .u64 0, .int .u64 0, .int .u64 0, .int .u64 0, .int .u64 0, .int .u64 0, .int .u64 0, .int .u64 0, .int .u64 0, .int .u64 0, .int .u64 0, .int .u64 0, .int .u64 0, .int .u64 0, .int .u64 0, .int .u64 0, .int .u64 0, .int .u64 0])).run Try.prog W = .ok (.bool true) W from eq_node zeroNd W)
              have HNO := Lib.hid (hdn.nodeD h0 hd hk11 hzn)
              have HHI := Lib.hid (hdn.high0 h0 hd hk11 hzn (.inl (by decide)))
              have HLw := Lib.hid (show Below w.heap.size w wr2 from HB2.out.trans (hdn.low (Nat.le_of_lt HBW.out) (fun k hk => HFP.out k hk) HGW.out))
              clear hdn hd hzn
              go_wp2_with (first
                | (go_at_call 13; refine (HNO.out _ (Below.refl _ _)).mono ?_; rintro e w5 ⟨rfl, hb5⟩; have HB5 := Lib.hid hb5; clear hb5)
                | ((with_reducible refine show_storeN ?_); refine wpList_store_row rfl _ _ _ rfl w5.heap.size zeroNd.cl rfl rfl (Row.new w5 27 zeroNd.cl.toArray) rfl ndI (cl_one _) ?_; obtain ⟨W6, hW6, hn6, hb6⟩ := store_gen11 w5 zeroNd; rw [← hW6]; have HB6 := Lib.hid (low_and HB5.out hb6); have HN6 := Lib.hid hn6; clear hW6 hn6 hb6)
                | (go_at_call 14; refine (HHI.out _ HB6.out).mono ?_; rintro e w7 ⟨rfl, hb7⟩; have HB7 := Lib.hid (low_and HB6.out hb7); have HN7 := Lib.hid (HN6.out.below hb7 HN6.out.lt); clear hb7)
                | ((with_reducible refine show_loadN ?_); refine wpList_load_mid rfl _ _ rfl w5.heap.size 0 rfl zeroNd.cl _ (ndR HN7.out) Try.underlying27 rfl ndI ?_)
                | (go_at_call 9; refine (known11_any _).mono ?_; rintro e w8 ⟨rfl, hb8⟩; have HB8 := Lib.hid (low_and HB7.out hb8); clear hb8))
              go_ret
              exact ⟨rfl, low_and HLw.out HB8.out⟩
            · rw [hk0]
              obtain ⟨X, hXX⟩ : ∃ X, X = Y.tr (Y.len + 1) Y.len := ⟨_, rfl⟩
              obtain ⟨Z, hZ⟩ : ∃ Z, Z = Y.tr Y.len Y.len := ⟨_, rfl⟩
              have HTX := Lib.hid fun W => trim11_any X W
              have HTY := Lib.hid fun W => trim11_any Y W
              rw [show X.tr X.len X.len = Z by rw [hXX, hZ]; exact tr_tr Y] at HTX
              rw [← hZ] at HTY
              have HQ := fun W => eqNd Z W
              rw [← hXX] at hX
              have HNO := Lib.hid (hdn.nodeD h0 hd hk0 hX)
              have HLw := Lib.hid (show Below w.heap.size w wr2 from HB2.out.trans (hdn.low (Nat.le_of_lt HBW.out) (fun k hk => HFP.out k hk) HGW.out))
              obtain ⟨y2, hm2, hg2', hf2⟩ := hdn.now
              have HM2 := Lib.hid hm2
              have HF2 := Lib.hid (show ∀ j, y2.fp j → w.heap.size ≤ j from fun j hj => (hf2 j hj).elim (HFP.out j) (fun h => Nat.le_trans (Nat.le_of_lt HBW.out) h))
              have HG2 := Lib.hid (show y2.g = gy from hg2'.trans HGY.out)
              have HLd := Lib.hid (show s'.nl = s.nl ∧ s'.view = s.view ∧ Lds 16 200 s' from ⟨hdn.nls, hdn.vw, by have := hdn.lds; rw [HL.out.nls] at this; exact this.mono (by omega)⟩)
              have HXO := Lib.hid (show ∀ W, Calls Try.prog 25 #[.agg (((List.range 24).map (rdX s a)).map uw).toArray] W fun e w' => e = .returned (.tuple #[Y.V, .int .i64 0]) ∧ Below W.heap.size W w' from fun W => by
                have := r8Of_any (x := (List.range 24).map (rdX s a)) (by simp) (by rw [wAt_map _ (by omega)]; exact ldV_in HL.out.ok _) W
                rw [hY] at this
                exact this)
              clear hdn hd hX hXX hZ hm2 hg2' hf2 hY
              go_wp2_with (first
                | (go_at_call 13; refine (HNO.out _ (Below.refl _ _)).mono ?_; rintro e w5 ⟨rfl, hb5⟩; have HB5 := Lib.hid hb5; clear hb5)
                | ((with_reducible refine show_storeN ?_); refine wpList_store_row rfl _ _ _ rfl w5.heap.size X.cl rfl rfl (Row.new w5 27 zeroNd.cl.toArray) rfl ndI (cl_one _) ?_; obtain ⟨W6, hW6, hn6, hb6⟩ := store_gen11 w5 X; rw [← hW6]; have HB6 := Lib.hid (low_and HB5.out hb6); have HN6 := Lib.hid hn6; clear hW6 hn6 hb6))
              have HL30 := Lib.hid (show L3 w (W6.alloc (.cells zeroW.toArray 67)) gy s a 0 w5.heap.size W6.heap.size X from
                ⟨⟨y2, s', (HM2.out.below HB6.out).below (alloc_below _ _), HG2.out, HLd.out.1, HLd.out.2.1, HLd.out.2.2, fun hf => by have := HM2.out.lt _ hf; have := HB6.out.size; omega, fun hf => by have := HM2.out.lt _ hf; have := HB5.out.size; omega, HF2.out⟩, Row.new _ _ _, HN6.out.alloc _, Nat.ne_of_lt HN6.out.lt, low_and (low_and HLw.out HB6.out) (alloc_low _ _), Nat.le_trans HLw.out.size HB6.out.size⟩)
              obtain ⟨b11, hb11⟩ : ∃ b, b = w5.heap.size := ⟨_, rfl⟩
              rw [← hb11] at HL30 ⊢
              clear hb11 HNO HLd HM2 HF2 HG2
              go_loopw [16] (fun i wq => ∃ k : Nat, k ≤ 24 ∧ i = .int .i64 (k : Int) ∧ L3 w wq gy s a k b11 W6.heap.size X) (fun i _ => 24 - (intOf i).toNat)
              case atStart => exact ⟨0, by omega, rfl, HL30.out⟩
              case round =>
                rename World => wq
                obtain ⟨j, hj, rfl, h3⟩ := hrel
                by_cases hlt : j < 24
                · obtain ⟨A, hA⟩ : ∃ A, A = (a + 8 * j) % 18446744073709551616 := ⟨_, rfl⟩
                  have e1 : IntKind.i64.wrap (8 * (j : Int)) = 8 * (j : Int) := IntWalk.i64_in _ (by omega)
                  have e2 : IntKind.u64.wrap (8 * (j : Int)) = 8 * (j : Int) := by rw [IntKind.wrap_u64]; omega
                  have e3 : IntKind.u64.wrap ((a : Int) + 8 * (j : Int)) = (A : Int) := by rw [IntKind.wrap_u64]; omega
                  have HLO := Lib.hid (h3.load hj A)
                  have HNE := Lib.hid h3.ne
                  have HB0 := Lib.hid h3.b0
                  have HSE := Lib.hid (fun w' (h : _) => L3.set (w' := w') (b11 := b11) (X := X) (gy := gy) (s := s) (a := a) (w := w) (b15 := W6.heap.size) hlt h HNE.out HB0.out)
                  have hxv : ldV s A = rdX s a j := by unfold rdX; rw [hA]
                  rw [hxv] at HLO
                  obtain ⟨x, hx⟩ : ∃ x, x = rdX s a j := ⟨_, rfl⟩
                  rw [← hx] at HLO HSE
                  have HCE := Lib.hid (show (rdCells s a j).toArray[j]? = some (.int .u64 0) from List.getElem?_toArray.trans ((rdCells_at s a j hlt).trans (by rw [if_neg (by omega)])))
                  clear h3 hxv hx hA
                  go_wp2_with (go_at_call 24; refine HLO.out.mono ?_; rintro e w8 ⟨rfl, h8⟩; have c8 := (h8.2.1.cell j).trans HCE.out; have f8 := h8.2.1.free j; have H8 := Lib.hid (HSE.out w8 h8); clear h8)
                  exact ⟨⟨j + 1, by omega, by go_num, H8.out⟩, by simp [intOf]; omega⟩
                · have hj24 : j = 24 := by omega
                  rw [hj24] at h3
                  have HRW := Lib.hid (show wq.rangeAt W6.heap.size 0 (((List.range 24).map (rdX s a)).map uw) from fun i v hv => by
                    rw [← rdCells_full] at hv
                    rw [h3.row.cell, Nat.zero_add]
                    exact List.getElem?_toArray.trans hv)
                  have HNX := Lib.hid h3.nd
                  have HLq := Lib.hid h3.low
                  have hvl : (((List.range 24).map (rdX s a)).map uw).length = 24 := by simp
                  clear h3 hj24
                  go_wp2_with (first
                    | ((with_reducible refine show_loadW ?_); refine wpList_load_mid rfl _ _ rfl W6.heap.size 0 rfl (((List.range 24).map (rdX s a)).map uw) _ HRW.out Try.underlying67 rfl (by rw [hvl]; exact w24I) ?_)
                    | (go_at_call 25; refine (HXO.out _).mono ?_; rintro e w9 ⟨rfl, hb9⟩; have HB9 := Lib.hid hb9; clear hb9)
                    | ((with_reducible refine show_storeN ?_); refine wpList_store_row rfl _ _ _ rfl w9.heap.size Y.cl rfl rfl (Row.new w9 27 zeroNd.cl.toArray) rfl ndI (cl_one _) ?_; obtain ⟨W10, hW10, hn10, hb10⟩ := store_gen11 w9 Y; rw [← hW10]; have HB10 := Lib.hid (low_and HB9.out hb10); have HN10 := Lib.hid hn10; clear hW10 hn10 hb10))
                  have HN1 := Lib.hid (HNX.out.below HB10.out HNX.out.lt)
                  have HRX := Lib.hid (fun (w' : World) (h : ∃ q : LowBy W10, w' = q.W) => (show w'.rangeAt b11 0 X.cl by
                    obtain ⟨q, rfl⟩ := h
                    exact ndR (HN1.out.below q.low HN1.out.lt)))
                  have HRY := Lib.hid (fun (w' : World) (h : ∃ q : LowBy W10, w' = q.W) => (show w'.rangeAt w9.heap.size 0 Y.cl by
                    obtain ⟨q, rfl⟩ := h
                    exact ndR (HN10.out.below q.low HN10.out.lt)))
                  have HCX := Lib.hid (fun q : LowBy W10 => Calls.low_of (HTX.out q.W))
                  have HCY := Lib.hid (fun q : LowBy W10 => Calls.low_of (HTY.out q.W))
                  have HCK := Lib.hid (fun q : LowBy W10 => Calls.low_of (known11_any q.W))
                  have HBF := Lib.hid (fun q : LowBy W10 => low_and (low_and HLq.out HB10.out) q.low)
                  refine wp_region_quiet_low (by assumption) (by kernel_rfl) ?_
                  repeat (first | go_big_quiet_skip | (go_big_quiet_want; first | (refine quiet_load_mid 27 _ rfl b11 0 rfl X.cl _ HRX.out Try.underlying27 rfl ndI ?_; simp only [Act.put, List.setIfInBounds_toArray, List.set_cons_succ, List.set_cons_zero]; go_big_quiet_on) | (refine quiet_load_mid 27 _ rfl w9.heap.size 0 rfl Y.cl _ HRY.out Try.underlying27 rfl ndI ?_; simp only [Act.put, List.setIfInBounds_toArray, List.set_cons_succ, List.set_cons_zero]; go_big_quiet_on) | (go_big_quiet_op; first | go_big_quiet_on | go_big_quiet_call ((first | (go_at_call 15; first | (with_reducible exact HCX.out _) | (with_reducible exact HCY.out _)) | (go_at_call 9; with_reducible exact HCK.out _))))))
                  refine wpQuiet_nil ?_
                  intro _ hw'
                  obtain ⟨q, hw''⟩ := hw'
                  subst hw''
                  have HFq := Lib.hid (HBF.out q)
                  clear HRX HRY HCX HCY HCK HBF
                  go_wp2
                  go_ret
                  exact ⟨rfl, HFq.out⟩
end Go.Proofs.Ytaabdmlmemmnaaa
/- SnapReads for any argument; conditions: the numbers are such as Go's types hold. -/
namespace Go.Proofs.Ytaabdmlmemmnaaa
open Go.RowKit
set_option linter.unusedVariables false
theorem cap_len {len cap : Nat} (h : len ≤ cap) (h2 : cap ≤ maxLen) : len ≤ 9223372036854775807 := by
  unfold maxLen at h2
  omega
theorem reads_all (A : Option Addr) (len cap : Nat) (l : List (Int × Int)) (a1 : Int) (w : World) (hl : PutsIn w A len cap l) (w1 : (Lit.int .u64 a1).wf = true) : Calls Try.prog 5 #[.slice A len cap, .int .u64 a1] w fun e w' => e = .returned (.bool true) ∧ Below w.heap.size w w' := by
  obtain ⟨a, rfl⟩ : ∃ a : Nat, a1 = (a : Int) := ⟨a1.toNat, by have := u64_wf' w1; omega⟩
  exact snapReads_any (puts_reads hl) (by rw [natPuts_length, hl.1]; exact cap_len hl.2.1 hl.2.2.1) (natPuts_fit hl) (by have := u64_wf' w1; omega)
end Go.Proofs.Ytaabdmlmemmnaaa
