/- The document's Make: the node of entries, or that they make none; without conditions but on how many. -/
import Derived.Test.YthcopnnpedhboaaDoorN8MkP
import Derived.Test.YthcopnnpedhboaaDoorN8RefS
import Derived.Deep.CutBlock
import Derived.Deep.DeepCutAuto
namespace Go.Proofs.YthcopnnpedhboaaDoor
open Go.RowKit
set_option linter.unusedVariables false
set_option maxRecDepth 100000 in
set_option maxHeartbeats 4000000 in
theorem r8Make_t (base level low next first : Int) {w : World} {v : Value} {l : List (Int × Int)} (h : EntAt w v l) (hl : l.length ≤ 1000) (hlv : (level == 0) = true) :
    Calls Tryd.prog 6 #[.int .u64 base, .int .i64 level, .int .u64 low, .int .u64 next, .int .u64 first, v] w fun e w' =>
      e = .returned (.tuple #[(makeR base level low next first l).1.V, .int .i64 (makeR base level low next first l).2]) ∧ Below w.heap.size w w' := by
  obtain ⟨F, hF⟩ : ∃ F, F = fstF base level first := ⟨_, rfl⟩
  have hRs := fun (W : World) (hb : Below w.heap.size w W) => r8Rise_any (h.low hb) hl level low F
  obtain ⟨A, cap, rfl, hA⟩ := h
  obtain ⟨m, hm⟩ : ∃ m, m = l.length := ⟨_, rfl⟩
  rw [← hm] at hl hRs ⊢
  have HA := Lib.hid (fun (h0 : 0 < m) => (show ∃ g o, A = some ⟨g, o, none⟩ ∧ ∀ k, k < m → w.cell? ⟨g, o + k * 2, none⟩ = some (.int .u64 (l.getD k (0, 0)).1) ∧ w.cell? ⟨g, o + k * 2 + 1, none⟩ = some (.int .u64 (l.getD k (0, 0)).2) by
    obtain ⟨g, o, rfl, hc⟩ := hA (by omega)
    exact ⟨g, o, rfl, fun k hk => hc k _ (getD_ent (by omega))⟩))
  have HRS := Lib.hid hRs
  obtain ⟨R, hR⟩ : ∃ R, R = makeR base level low next first l := ⟨_, rfl⟩
  rw [← hR]
  have HR := Lib.hid hR
  have HF := Lib.hid hF
  have HM := Lib.hid hm
  have hmm : m ≤ 9223372036854775807 := by omega
  clear hA hRs hR hm
  go_enter Tryd.func6, Tryd.ntmps6
  go_upto_if 22 with (fail)
  go_cut [4] (fun f wx => f = .int .u64 F ∧ wx = w.alloc (.cells zeroNd.cl.toArray 29))
  case first =>
    have hlv' : level = 0 := by simpa using hlv
    by_cases h1 : first = 0
    · have hfb : F = base := by rw [hF]; unfold fstF; rw [if_pos ⟨hlv', h1⟩]
      subst h1
      clear hF
      subst hfb
      go_wp2_with fail
      go_meet
      case rel => exact ⟨rfl, rfl⟩
    · have hfb : F = first := by rw [hF]; unfold fstF; rw [if_neg (fun h => h1 h.2)]
      have d1 : (first == 0) = false := by simpa using h1
      clear hF
      subst hfb
      go_wp2_with fail
      go_meet
      case rel => exact ⟨rfl, rfl⟩
  case rest =>
    obtain ⟨rfl, hw⟩ := hcut
    subst hw
    clear hF
    have rz := Row.new w 29 zeroNd.cl.toArray
    have RZ := Lib.hid rz
    clear rz
    by_cases c1 : level < 0
    · have HRN := Lib.hid (HR.out.trans (make_no (.inl c1)))
      have d1 : decide (level < 0) = true := by simpa using c1
      clear c1
      go_wp2_with (refine wpList_store_row rfl _ _ _ rfl w.heap.size zeroNd.cl rfl rfl RZ.out rfl ndI (cl_one zeroNd) ?_)
      refine bodyPost_ret (results_node_tmp rfl _ _ w.heap.size zeroNd rfl (row_setCells RZ.out rfl)) rfl ⟨by rw [HRN.out]; rfl, setCells_low _ (Nat.le_refl _) (alloc_low _ _)⟩
    · have d1 : decide (level < 0) = false := by simpa using c1
      by_cases c2 : 15 < level
      · have HRN := Lib.hid (HR.out.trans (make_no (.inr (.inl c2))))
        have d2 : decide (15 < level) = true := by simpa using c2
        clear c1 c2
        go_wp2_with (refine wpList_store_row rfl _ _ _ rfl w.heap.size zeroNd.cl rfl rfl RZ.out rfl ndI (cl_one zeroNd) ?_)
        refine bodyPost_ret (results_node_tmp rfl _ _ w.heap.size zeroNd rfl (row_setCells RZ.out rfl)) rfl ⟨by rw [HRN.out]; rfl, setCells_low _ (Nat.le_refl _) (alloc_low _ _)⟩
      · have d2 : decide (15 < level) = false := by simpa using c2
        by_cases c3 : F = 0
        · have HRN := Lib.hid (HR.out.trans (make_no (.inr (.inr (.inl (by rw [← HF.out]; exact c3))))))
          have d3 : (F == 0) = true := by simpa using c3
          clear c1 c2 c3
          go_wp2_with (refine wpList_store_row rfl _ _ _ rfl w.heap.size zeroNd.cl rfl rfl RZ.out rfl ndI (cl_one zeroNd) ?_)
          refine bodyPost_ret (results_node_tmp rfl _ _ w.heap.size zeroNd rfl (row_setCells RZ.out rfl)) rfl ⟨by rw [HRN.out]; rfl, setCells_low _ (Nat.le_refl _) (alloc_low _ _)⟩
        · have d3 : (F == 0) = false := by simpa using c3
          by_cases c4 : 8 < m
          · have HRN := Lib.hid (HR.out.trans (make_no (.inr (.inr (.inr (.inl (by rw [← HM.out]; exact c4)))))))
            have d4 : decide (8 < m) = true := by simpa using c4
            have d5 : decide ((8 : Int) < (m : Int)) = true := by simp; omega
            clear c1 c2 c3 c4
            go_wp2_with (refine wpList_store_row rfl _ _ _ rfl w.heap.size zeroNd.cl rfl rfl RZ.out rfl ndI (cl_one zeroNd) ?_)
            refine bodyPost_ret (results_node_tmp rfl _ _ w.heap.size zeroNd rfl (row_setCells RZ.out rfl)) rfl ⟨by rw [HRN.out]; rfl, setCells_low _ (Nat.le_refl _) (alloc_low _ _)⟩
          · have d4 : decide (8 < m) = false := by simpa using c4
            have d5 : decide ((8 : Int) < (m : Int)) = false := by simp; omega
            have HR1 := Lib.hid (HRS.out _ (alloc_low w (.cells zeroNd.cl.toArray 29)))
            cases c5 : riseR level low F l with
            | false =>
              rw [c5] at HR1
              have HRN := Lib.hid (HR.out.trans (make_no (.inr (.inr (.inr (.inr (.inl (by rw [← HF.out]; exact c5))))))))
              clear c1 c2 c3 c4 c5
              go_wp2_with fail
              refine HR1.out.mono ?_
              rintro e w5 ⟨rfl, hb5⟩
              have HB5 := Lib.hid hb5
              clear hb5 HR1
              go_wp2_with (refine wpList_store_row rfl _ _ _ rfl w.heap.size zeroNd.cl rfl rfl (RZ.out.below HB5.out RZ.out.lt) rfl ndI (cl_one zeroNd) ?_)
              refine bodyPost_ret (results_node_tmp rfl _ _ w.heap.size zeroNd rfl (row_setCells (RZ.out.below HB5.out RZ.out.lt) rfl)) rfl ⟨by rw [HRN.out]; rfl, setCells_low _ (Nat.le_refl _) (low_and (alloc_low _ _) HB5.out)⟩
            | true =>
              rw [c5] at HR1
              have HC5 := Lib.hid c5
              have HC1 := Lib.hid c1
              have HC2 := Lib.hid c2
              have HC3 := Lib.hid c3
              have HC4 := Lib.hid c4
              clear c1 c2 c3 c4 c5
              go_wp2_with fail
              refine HR1.out.mono ?_
              rintro e w5 ⟨rfl, hb5⟩
              have RZ5 := Lib.hid (RZ.out.below hb5 RZ.out.lt)
              have HB5 := Lib.hid (low_and (alloc_low w _) hb5)
              have rz1 := Row.new w5 29 zeroNd.cl.toArray
              have RZ1 := Lib.hid rz1
              obtain ⟨W6, hW6⟩ : ∃ W6, W6 = (w5.alloc (.cells #[.int .i64 0, .int .u64 0, .int .u64 0, .int .u64 0, .int .u64 0, .int .u64 0, .int .u64 0, .int .u64 0, .int .u64 0, .int .u64 0, .int .u64 0, .int .u64 0, .int .u64 0, .int .u64 0, .int .u64 0, .int .u64 0, .int .u64 0, .int .u64 0, .int .u64 0, .int .u64 0, .int .u64 0] 29)).setCells w5.heap.size 0 (rawNd level low next F).cl := ⟨_, rfl⟩
              have hq1 : NdAt W6 w5.heap.size (rawNd level low next F) := by rw [hW6]; exact row_setCells rz1 rfl
              have HQ0 := Lib.hid (show NdAt W6 w.heap.size zeroNd from by
                rw [hW6]
                have hlt := RZ5.out.lt
                exact (World.heap_setCells_other _ _ _ _ (by simp; omega) (by omega)).trans (RZ5.out.alloc (.cells zeroNd.cl.toArray 29)))
              have HQ2 := Lib.hid (show Below w.heap.size w W6 from by rw [hW6]; exact setCells_low _ HB5.out.size (low_and HB5.out (alloc_low _ _)))
              have HW6 := Lib.hid hW6
              have HGL := Lib.hid (show w.heap.size < w5.heap.size from RZ5.out.lt)
              have hn1 : baseNd base level low next first = rawNd level low next F := by rw [HF.out]; rfl
              obtain ⟨n1, hn1d⟩ : ∃ n1, n1 = rawNd level low next F := ⟨_, rfl⟩
              have HN1 := Lib.hid (hn1.trans hn1d.symm)
              have HQ1 := Lib.hid hq1
              rw [← hn1d] at HQ1
              have HND := Lib.hid hn1d
              have hm8 : m ≤ 8 := by have := HC4.out; omega
              have ha0 : ahdE F l 0 = F := rfl
              have HA0 := Lib.hid ha0
              clear hb5 hq1 hn1 hn1d HR1 ha0 hW6 rz1
              go_wp2_with (refine wpList_store_row rfl _ _ _ rfl w5.heap.size (rawNd level low next F).cl rfl rfl RZ1.out rfl ndI (cl_one _) ?_)
              rw [← HW6.out]
              go_loopw [15, 16] (fun a i wr => ∃ k : Nat, k ≤ m ∧ i = .int .i64 (k : Int) ∧ a = .int .u64 (ahdE F l k) ∧ NdAt wr w5.heap.size (mkN n1 l k) ∧ NdAt wr w.heap.size zeroNd ∧ Below w.heap.size w wr ∧ GoodE F l k) (fun _ i _ => m - (intOf i).toNat)
              case atStart => exact ⟨0, Nat.zero_le _, rfl, by rw [HA0.out], HQ1.out, HQ0.out, HQ2.out, fun i hi => by omega⟩
              case round =>
                rename World => wr
                obtain ⟨k, hk, rfl, rfl, h1, h0, hb, hgd⟩ := hrel
                have H1 := Lib.hid h1
                have H0 := Lib.hid h0
                have HB := Lib.hid hb
                have HGD := Lib.hid hgd
                clear HQ0 HQ1 HQ2 RZ RZ5 HB5 HW6 RZ1
                by_cases hlt : k < m
                · obtain ⟨gg, o, hAe, hc⟩ := HA.out (by omega)
                  obtain ⟨p1, p2⟩ := hc k hlt
                  obtain ⟨e, he⟩ : ∃ e, e = l.getD k (0, 0) := ⟨_, rfl⟩
                  have HST := Lib.hid (show mkN n1 l (k + 1) = (mkN n1 l k).put k (l.getD k (0, 0)) from rfl)
                  have HSA := Lib.hid (ahdE_succ F l k)
                  have HSG := Lib.hid (show (l.getD k (0, 0)).2 ≠ 0 → (l.getD k (0, 0)).2 ≠ ahdE F l k → GoodE F l (k + 1) from fun q1 q2 i hi => by
                    by_cases e : i = k
                    · subst e; exact ⟨q1, q2⟩
                    · exact hgd i (by omega))
                  have HSB := Lib.hid (show (l.getD k (0, 0)).2 = 0 ∨ (l.getD k (0, 0)).2 = ahdE F l k → R = (zeroNd, 2) from fun q => HR.out.trans (make_no (.inr (.inr (.inr (.inr (.inr (by
                    rw [← HF.out, ← HM.out]
                    intro hg
                    rcases q with q | q
                    · exact (hg k hlt).1 q
                    · exact (hg k hlt).2 q))))))))
                  rw [← he] at p1 p2 HST HSA HSG HSB
                  obtain ⟨ek, ep⟩ := e
                  dsimp only at p1 p2 HSA HSG HSB
                  have dd1 := (hb.cell (p := ⟨gg, o + k * 2, none⟩) (w.block_lt_of_cell? _ p1)).trans p1
                  have dd2 := (hb.cell (p := ⟨gg, o + k * 2 + 1, none⟩) (w.block_lt_of_cell? _ p2)).trans p2
                  obtain ⟨ah, hah⟩ : ∃ ah, ah = ahdE F l k := ⟨_, rfl⟩
                  rw [← hah] at HSG HSB ⊢
                  have hk8 : (k : Int) < 8 := by omega
                  have hkb : k < 8 := by omega
                  subst hAe
                  by_cases e0 : ep = 0
                  · have HRN := Lib.hid (HSB.out (.inl e0))
                    subst e0
                    clear hc p1 p2 he h1 h0 hb hgd hah HSB HSG HST
                    go_wp2_with (refine wpList_store_row rfl _ _ _ rfl w.heap.size zeroNd.cl rfl rfl H0.out rfl ndI (cl_one zeroNd) ?_)
                    refine bodyPost_ret (results_node_tmp rfl _ _ w.heap.size zeroNd rfl (row_setCells H0.out rfl)) rfl ⟨by rw [HRN.out]; rfl, setCells_low _ (Nat.le_refl _) HB.out⟩
                  · have x0 : (ep == 0) = false := by simpa using e0
                    by_cases e1 : ep = ah
                    · have HRN := Lib.hid (HSB.out (.inr e1))
                      have x1 : (ep == ah) = true := by simpa using e1
                      subst e1
                      clear hc p1 p2 he h1 h0 hb hgd hah HSB HSG HST e0
                      go_wp2_with (refine wpList_store_row rfl _ _ _ rfl w.heap.size zeroNd.cl rfl rfl H0.out rfl ndI (cl_one zeroNd) ?_)
                      refine bodyPost_ret (results_node_tmp rfl _ _ w.heap.size zeroNd rfl (row_setCells H0.out rfl)) rfl ⟨by rw [HRN.out]; rfl, setCells_low _ (Nat.le_refl _) HB.out⟩
                    · have x1 : (ep == ah) = false := by simpa using e1
                      have HGN := Lib.hid (HSG.out e0 e1)
                      have ck := ndAt_key h1 hkb
                      have cp := ndAt_ptr h1 hkb
                      have fk := h1.free (5 + k)
                      have fp := h1.free (13 + k)
                      have hgne : gg ≠ w5.heap.size := by
                        have := w.block_lt_of_cell? _ p1
                        have := HGL.out
                        have h3 : (⟨gg, o + k * 2, none⟩ : Addr).block = gg := rfl
                        omega
                      have y1 := hgne
                      have y2 : w5.heap.size ≠ gg := fun e => hgne e.symm
                      clear hc p1 p2 he h1 h0 hb hgd hah HSB HSG e0 e1
                      go_wp2_with fail
                      refine ⟨⟨k + 1, by omega, by go_num, by rw [HSA.out], ?_, ?_, ?_, HGN.out⟩, by simp [intOf]; omega⟩
                      · rw [HST.out]
                        have := (H1.out.set (5 + k) (uw ek)).set (13 + k) (uw ep)
                        rw [put_cl _ hkb (ek, ep)] at this
                        exact this
                      · exact (H0.out.other (p := ⟨w5.heap.size, 5 + k, none⟩) (by have := HGL.out; dsimp only; omega) _).other (p := ⟨w5.heap.size, 13 + k, none⟩) (by have := HGL.out; dsimp only; omega) _
                      · exact (HB.out.setCell (p := ⟨w5.heap.size, 5 + k, none⟩) (by have := HGL.out; dsimp only; omega) (.int .u64 ek)).setCell (p := ⟨w5.heap.size, 13 + k, none⟩) (by have := HGL.out; dsimp only; omega) (.int .u64 ep)
                · obtain rfl : k = m := by omega
                  obtain ⟨N, hN⟩ : ∃ N, N = mkN n1 l k := ⟨_, rfl⟩
                  rw [← hN] at H1
                  have HRN := Lib.hid (show R = (N, 0) from by
                    have hgg := HGD.out
                    have h8 : l.length ≤ 8 := by rw [← HM.out]; exact hm8
                    rw [HF.out, HM.out] at hgg
                    have hc1 := HC1.out
                    have hc2 := HC2.out
                    rw [HR.out, make_yes h8 (by omega) (by omega) (by rw [← HF.out]; exact HC3.out) (by rw [← HF.out]; exact HC5.out) hgg, hN, ← HN1.out, HM.out]
                    rfl)
                  clear hN h1 h0 hb hgd hlt
                  go_wp2_with (first
                    | (refine wpList_load_mid rfl _ _ rfl w5.heap.size 0 rfl N.cl _ (ndR H1.out) Tryd.underlying29 rfl ndI ?_)
                    | (refine wpList_store_row rfl _ _ _ rfl w.heap.size N.cl rfl rfl H0.out rfl ndI (cl_one _) ?_))
                  refine bodyPost_ret (results_node_tmp rfl _ _ w.heap.size N rfl (row_setCells H0.out rfl)) rfl ⟨by rw [HRN.out]; rfl, setCells_low _ (Nat.le_refl _) HB.out⟩

set_option maxRecDepth 100000 in
set_option maxHeartbeats 4000000 in
theorem r8Make_f (base level low next first : Int) {w : World} {v : Value} {l : List (Int × Int)} (h : EntAt w v l) (hl : l.length ≤ 1000) (hlv : (level == 0) = false) :
    Calls Tryd.prog 6 #[.int .u64 base, .int .i64 level, .int .u64 low, .int .u64 next, .int .u64 first, v] w fun e w' =>
      e = .returned (.tuple #[(makeR base level low next first l).1.V, .int .i64 (makeR base level low next first l).2]) ∧ Below w.heap.size w w' := by
  obtain ⟨F, hF⟩ : ∃ F, F = fstF base level first := ⟨_, rfl⟩
  have hRs := fun (W : World) (hb : Below w.heap.size w W) => r8Rise_any (h.low hb) hl level low F
  obtain ⟨A, cap, rfl, hA⟩ := h
  obtain ⟨m, hm⟩ : ∃ m, m = l.length := ⟨_, rfl⟩
  rw [← hm] at hl hRs ⊢
  have HA := Lib.hid (fun (h0 : 0 < m) => (show ∃ g o, A = some ⟨g, o, none⟩ ∧ ∀ k, k < m → w.cell? ⟨g, o + k * 2, none⟩ = some (.int .u64 (l.getD k (0, 0)).1) ∧ w.cell? ⟨g, o + k * 2 + 1, none⟩ = some (.int .u64 (l.getD k (0, 0)).2) by
    obtain ⟨g, o, rfl, hc⟩ := hA (by omega)
    exact ⟨g, o, rfl, fun k hk => hc k _ (getD_ent (by omega))⟩))
  have HRS := Lib.hid hRs
  obtain ⟨R, hR⟩ : ∃ R, R = makeR base level low next first l := ⟨_, rfl⟩
  rw [← hR]
  have HR := Lib.hid hR
  have HF := Lib.hid hF
  have HM := Lib.hid hm
  have hmm : m ≤ 9223372036854775807 := by omega
  clear hA hRs hR hm
  go_enter Tryd.func6, Tryd.ntmps6
  go_upto_if 22 with (fail)
  go_cut [4] (fun f wx => f = .int .u64 F ∧ wx = w.alloc (.cells zeroNd.cl.toArray 29))
  case first =>
    have hlv' : level ≠ 0 := by simpa using hlv
    have hfb : F = first := by rw [hF]; unfold fstF; rw [if_neg (fun h => hlv' h.1)]
    clear hF
    subst hfb
    go_wp2_with fail
    go_meet
    case rel => exact ⟨rfl, rfl⟩
  case rest =>
    obtain ⟨rfl, hw⟩ := hcut
    subst hw
    clear hF
    have rz := Row.new w 29 zeroNd.cl.toArray
    have RZ := Lib.hid rz
    clear rz
    by_cases c1 : level < 0
    · have HRN := Lib.hid (HR.out.trans (make_no (.inl c1)))
      have d1 : decide (level < 0) = true := by simpa using c1
      clear c1
      go_wp2_with (refine wpList_store_row rfl _ _ _ rfl w.heap.size zeroNd.cl rfl rfl RZ.out rfl ndI (cl_one zeroNd) ?_)
      refine bodyPost_ret (results_node_tmp rfl _ _ w.heap.size zeroNd rfl (row_setCells RZ.out rfl)) rfl ⟨by rw [HRN.out]; rfl, setCells_low _ (Nat.le_refl _) (alloc_low _ _)⟩
    · have d1 : decide (level < 0) = false := by simpa using c1
      by_cases c2 : 15 < level
      · have HRN := Lib.hid (HR.out.trans (make_no (.inr (.inl c2))))
        have d2 : decide (15 < level) = true := by simpa using c2
        clear c1 c2
        go_wp2_with (refine wpList_store_row rfl _ _ _ rfl w.heap.size zeroNd.cl rfl rfl RZ.out rfl ndI (cl_one zeroNd) ?_)
        refine bodyPost_ret (results_node_tmp rfl _ _ w.heap.size zeroNd rfl (row_setCells RZ.out rfl)) rfl ⟨by rw [HRN.out]; rfl, setCells_low _ (Nat.le_refl _) (alloc_low _ _)⟩
      · have d2 : decide (15 < level) = false := by simpa using c2
        by_cases c3 : F = 0
        · have HRN := Lib.hid (HR.out.trans (make_no (.inr (.inr (.inl (by rw [← HF.out]; exact c3))))))
          have d3 : (F == 0) = true := by simpa using c3
          clear c1 c2 c3
          go_wp2_with (refine wpList_store_row rfl _ _ _ rfl w.heap.size zeroNd.cl rfl rfl RZ.out rfl ndI (cl_one zeroNd) ?_)
          refine bodyPost_ret (results_node_tmp rfl _ _ w.heap.size zeroNd rfl (row_setCells RZ.out rfl)) rfl ⟨by rw [HRN.out]; rfl, setCells_low _ (Nat.le_refl _) (alloc_low _ _)⟩
        · have d3 : (F == 0) = false := by simpa using c3
          by_cases c4 : 8 < m
          · have HRN := Lib.hid (HR.out.trans (make_no (.inr (.inr (.inr (.inl (by rw [← HM.out]; exact c4)))))))
            have d4 : decide (8 < m) = true := by simpa using c4
            have d5 : decide ((8 : Int) < (m : Int)) = true := by simp; omega
            clear c1 c2 c3 c4
            go_wp2_with (refine wpList_store_row rfl _ _ _ rfl w.heap.size zeroNd.cl rfl rfl RZ.out rfl ndI (cl_one zeroNd) ?_)
            refine bodyPost_ret (results_node_tmp rfl _ _ w.heap.size zeroNd rfl (row_setCells RZ.out rfl)) rfl ⟨by rw [HRN.out]; rfl, setCells_low _ (Nat.le_refl _) (alloc_low _ _)⟩
          · have d4 : decide (8 < m) = false := by simpa using c4
            have d5 : decide ((8 : Int) < (m : Int)) = false := by simp; omega
            have HR1 := Lib.hid (HRS.out _ (alloc_low w (.cells zeroNd.cl.toArray 29)))
            cases c5 : riseR level low F l with
            | false =>
              rw [c5] at HR1
              have HRN := Lib.hid (HR.out.trans (make_no (.inr (.inr (.inr (.inr (.inl (by rw [← HF.out]; exact c5))))))))
              clear c1 c2 c3 c4 c5
              go_wp2_with fail
              refine HR1.out.mono ?_
              rintro e w5 ⟨rfl, hb5⟩
              have HB5 := Lib.hid hb5
              clear hb5 HR1
              go_wp2_with (refine wpList_store_row rfl _ _ _ rfl w.heap.size zeroNd.cl rfl rfl (RZ.out.below HB5.out RZ.out.lt) rfl ndI (cl_one zeroNd) ?_)
              refine bodyPost_ret (results_node_tmp rfl _ _ w.heap.size zeroNd rfl (row_setCells (RZ.out.below HB5.out RZ.out.lt) rfl)) rfl ⟨by rw [HRN.out]; rfl, setCells_low _ (Nat.le_refl _) (low_and (alloc_low _ _) HB5.out)⟩
            | true =>
              rw [c5] at HR1
              have HC5 := Lib.hid c5
              have HC1 := Lib.hid c1
              have HC2 := Lib.hid c2
              have HC3 := Lib.hid c3
              have HC4 := Lib.hid c4
              clear c1 c2 c3 c4 c5
              go_wp2_with fail
              refine HR1.out.mono ?_
              rintro e w5 ⟨rfl, hb5⟩
              have RZ5 := Lib.hid (RZ.out.below hb5 RZ.out.lt)
              have HB5 := Lib.hid (low_and (alloc_low w _) hb5)
              have rz1 := Row.new w5 29 zeroNd.cl.toArray
              have RZ1 := Lib.hid rz1
              obtain ⟨W6, hW6⟩ : ∃ W6, W6 = (w5.alloc (.cells #[.int .i64 0, .int .u64 0, .int .u64 0, .int .u64 0, .int .u64 0, .int .u64 0, .int .u64 0, .int .u64 0, .int .u64 0, .int .u64 0, .int .u64 0, .int .u64 0, .int .u64 0, .int .u64 0, .int .u64 0, .int .u64 0, .int .u64 0, .int .u64 0, .int .u64 0, .int .u64 0, .int .u64 0] 29)).setCells w5.heap.size 0 (rawNd level low next F).cl := ⟨_, rfl⟩
              have hq1 : NdAt W6 w5.heap.size (rawNd level low next F) := by rw [hW6]; exact row_setCells rz1 rfl
              have HQ0 := Lib.hid (show NdAt W6 w.heap.size zeroNd from by
                rw [hW6]
                have hlt := RZ5.out.lt
                exact (World.heap_setCells_other _ _ _ _ (by simp; omega) (by omega)).trans (RZ5.out.alloc (.cells zeroNd.cl.toArray 29)))
              have HQ2 := Lib.hid (show Below w.heap.size w W6 from by rw [hW6]; exact setCells_low _ HB5.out.size (low_and HB5.out (alloc_low _ _)))
              have HW6 := Lib.hid hW6
              have HGL := Lib.hid (show w.heap.size < w5.heap.size from RZ5.out.lt)
              have hn1 : baseNd base level low next first = rawNd level low next F := by rw [HF.out]; rfl
              obtain ⟨n1, hn1d⟩ : ∃ n1, n1 = rawNd level low next F := ⟨_, rfl⟩
              have HN1 := Lib.hid (hn1.trans hn1d.symm)
              have HQ1 := Lib.hid hq1
              rw [← hn1d] at HQ1
              have HND := Lib.hid hn1d
              have hm8 : m ≤ 8 := by have := HC4.out; omega
              have ha0 : ahdE F l 0 = F := rfl
              have HA0 := Lib.hid ha0
              clear hb5 hq1 hn1 hn1d HR1 ha0 hW6 rz1
              go_wp2_with (refine wpList_store_row rfl _ _ _ rfl w5.heap.size (rawNd level low next F).cl rfl rfl RZ1.out rfl ndI (cl_one _) ?_)
              rw [← HW6.out]
              go_loopw [15, 16] (fun a i wr => ∃ k : Nat, k ≤ m ∧ i = .int .i64 (k : Int) ∧ a = .int .u64 (ahdE F l k) ∧ NdAt wr w5.heap.size (mkN n1 l k) ∧ NdAt wr w.heap.size zeroNd ∧ Below w.heap.size w wr ∧ GoodE F l k) (fun _ i _ => m - (intOf i).toNat)
              case atStart => exact ⟨0, Nat.zero_le _, rfl, by rw [HA0.out], HQ1.out, HQ0.out, HQ2.out, fun i hi => by omega⟩
              case round =>
                rename World => wr
                obtain ⟨k, hk, rfl, rfl, h1, h0, hb, hgd⟩ := hrel
                have H1 := Lib.hid h1
                have H0 := Lib.hid h0
                have HB := Lib.hid hb
                have HGD := Lib.hid hgd
                clear HQ0 HQ1 HQ2 RZ RZ5 HB5 HW6 RZ1
                by_cases hlt : k < m
                · obtain ⟨gg, o, hAe, hc⟩ := HA.out (by omega)
                  obtain ⟨p1, p2⟩ := hc k hlt
                  obtain ⟨e, he⟩ : ∃ e, e = l.getD k (0, 0) := ⟨_, rfl⟩
                  have HST := Lib.hid (show mkN n1 l (k + 1) = (mkN n1 l k).put k (l.getD k (0, 0)) from rfl)
                  have HSA := Lib.hid (ahdE_succ F l k)
                  have HSG := Lib.hid (show (l.getD k (0, 0)).2 ≠ 0 → (l.getD k (0, 0)).2 ≠ ahdE F l k → GoodE F l (k + 1) from fun q1 q2 i hi => by
                    by_cases e : i = k
                    · subst e; exact ⟨q1, q2⟩
                    · exact hgd i (by omega))
                  have HSB := Lib.hid (show (l.getD k (0, 0)).2 = 0 ∨ (l.getD k (0, 0)).2 = ahdE F l k → R = (zeroNd, 2) from fun q => HR.out.trans (make_no (.inr (.inr (.inr (.inr (.inr (by
                    rw [← HF.out, ← HM.out]
                    intro hg
                    rcases q with q | q
                    · exact (hg k hlt).1 q
                    · exact (hg k hlt).2 q))))))))
                  rw [← he] at p1 p2 HST HSA HSG HSB
                  obtain ⟨ek, ep⟩ := e
                  dsimp only at p1 p2 HSA HSG HSB
                  have dd1 := (hb.cell (p := ⟨gg, o + k * 2, none⟩) (w.block_lt_of_cell? _ p1)).trans p1
                  have dd2 := (hb.cell (p := ⟨gg, o + k * 2 + 1, none⟩) (w.block_lt_of_cell? _ p2)).trans p2
                  obtain ⟨ah, hah⟩ : ∃ ah, ah = ahdE F l k := ⟨_, rfl⟩
                  rw [← hah] at HSG HSB ⊢
                  have hk8 : (k : Int) < 8 := by omega
                  have hkb : k < 8 := by omega
                  subst hAe
                  by_cases e0 : ep = 0
                  · have HRN := Lib.hid (HSB.out (.inl e0))
                    subst e0
                    clear hc p1 p2 he h1 h0 hb hgd hah HSB HSG HST
                    go_wp2_with (refine wpList_store_row rfl _ _ _ rfl w.heap.size zeroNd.cl rfl rfl H0.out rfl ndI (cl_one zeroNd) ?_)
                    refine bodyPost_ret (results_node_tmp rfl _ _ w.heap.size zeroNd rfl (row_setCells H0.out rfl)) rfl ⟨by rw [HRN.out]; rfl, setCells_low _ (Nat.le_refl _) HB.out⟩
                  · have x0 : (ep == 0) = false := by simpa using e0
                    by_cases e1 : ep = ah
                    · have HRN := Lib.hid (HSB.out (.inr e1))
                      have x1 : (ep == ah) = true := by simpa using e1
                      subst e1
                      clear hc p1 p2 he h1 h0 hb hgd hah HSB HSG HST e0
                      go_wp2_with (refine wpList_store_row rfl _ _ _ rfl w.heap.size zeroNd.cl rfl rfl H0.out rfl ndI (cl_one zeroNd) ?_)
                      refine bodyPost_ret (results_node_tmp rfl _ _ w.heap.size zeroNd rfl (row_setCells H0.out rfl)) rfl ⟨by rw [HRN.out]; rfl, setCells_low _ (Nat.le_refl _) HB.out⟩
                    · have x1 : (ep == ah) = false := by simpa using e1
                      have HGN := Lib.hid (HSG.out e0 e1)
                      have ck := ndAt_key h1 hkb
                      have cp := ndAt_ptr h1 hkb
                      have fk := h1.free (5 + k)
                      have fp := h1.free (13 + k)
                      have hgne : gg ≠ w5.heap.size := by
                        have := w.block_lt_of_cell? _ p1
                        have := HGL.out
                        have h3 : (⟨gg, o + k * 2, none⟩ : Addr).block = gg := rfl
                        omega
                      have y1 := hgne
                      have y2 : w5.heap.size ≠ gg := fun e => hgne e.symm
                      clear hc p1 p2 he h1 h0 hb hgd hah HSB HSG e0 e1
                      go_wp2_with fail
                      refine ⟨⟨k + 1, by omega, by go_num, by rw [HSA.out], ?_, ?_, ?_, HGN.out⟩, by simp [intOf]; omega⟩
                      · rw [HST.out]
                        have := (H1.out.set (5 + k) (uw ek)).set (13 + k) (uw ep)
                        rw [put_cl _ hkb (ek, ep)] at this
                        exact this
                      · exact (H0.out.other (p := ⟨w5.heap.size, 5 + k, none⟩) (by have := HGL.out; dsimp only; omega) _).other (p := ⟨w5.heap.size, 13 + k, none⟩) (by have := HGL.out; dsimp only; omega) _
                      · exact (HB.out.setCell (p := ⟨w5.heap.size, 5 + k, none⟩) (by have := HGL.out; dsimp only; omega) (.int .u64 ek)).setCell (p := ⟨w5.heap.size, 13 + k, none⟩) (by have := HGL.out; dsimp only; omega) (.int .u64 ep)
                · obtain rfl : k = m := by omega
                  obtain ⟨N, hN⟩ : ∃ N, N = mkN n1 l k := ⟨_, rfl⟩
                  rw [← hN] at H1
                  have HRN := Lib.hid (show R = (N, 0) from by
                    have hgg := HGD.out
                    have h8 : l.length ≤ 8 := by rw [← HM.out]; exact hm8
                    rw [HF.out, HM.out] at hgg
                    have hc1 := HC1.out
                    have hc2 := HC2.out
                    rw [HR.out, make_yes h8 (by omega) (by omega) (by rw [← HF.out]; exact HC3.out) (by rw [← HF.out]; exact HC5.out) hgg, hN, ← HN1.out, HM.out]
                    rfl)
                  clear hN h1 h0 hb hgd hlt
                  go_wp2_with (first
                    | (refine wpList_load_mid rfl _ _ rfl w5.heap.size 0 rfl N.cl _ (ndR H1.out) Tryd.underlying29 rfl ndI ?_)
                    | (refine wpList_store_row rfl _ _ _ rfl w.heap.size N.cl rfl rfl H0.out rfl ndI (cl_one _) ?_))
                  refine bodyPost_ret (results_node_tmp rfl _ _ w.heap.size N rfl (row_setCells H0.out rfl)) rfl ⟨by rw [HRN.out]; rfl, setCells_low _ (Nat.le_refl _) HB.out⟩

theorem r8Make_any (base level low next first : Int) {w : World} {v : Value} {l : List (Int × Int)} (h : EntAt w v l) (hl : l.length ≤ 1000) :
    Calls Tryd.prog 6 #[.int .u64 base, .int .i64 level, .int .u64 low, .int .u64 next, .int .u64 first, v] w fun e w' =>
      e = .returned (.tuple #[(makeR base level low next first l).1.V, .int .i64 (makeR base level low next first l).2]) ∧ Below w.heap.size w w' := by
  cases hlv : (level == 0) with
  | true => exact r8Make_t base level low next first h hl hlv
  | false => exact r8Make_f base level low next first h hl hlv
end Go.Proofs.YthcopnnpedhboaaDoor
