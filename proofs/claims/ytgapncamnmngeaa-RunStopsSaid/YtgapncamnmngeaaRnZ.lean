/- RunStops, of stores, and of what is out of its bounds. -/
import Derived.Test.YtgapncamnmngeaaRnZ0
namespace Go.Proofs.Ytgapncamnmngeaa
open Go.RowKit Go.Shelf
set_option linter.unusedVariables false
set_option maxRecDepth 100000 in
set_option maxHeartbeats 3200000 in
theorem runStops_yes {w : World} {V0 : Value} {l0 : List (Nat × Nat)} (hA : Reads w V0 l0) {n a : Nat} {wh : Int} (h0 : 0 < n) (h1 : n ≤ 16) (h60 : l0.length ≤ 60) (hx : ∀ p ∈ l0, p.1 < 18446744073709551616 ∧ p.2 < 18446744073709551616) (hne : l0 ≠ []) (ha : a < 18446744073709551616) (hbad : a % 8 ≠ 0 ∨ 64 * n ≤ a)
    {b4 b5 : Bool} (e4 : decide ((a : Int) < 64 * (n : Int)) = b4) (e5 : (((a : Int) % 8) == 0) = b5) (hb45 : b4 = false ∨ (b4 = true ∧ b5 = false)) :
    Calls Try.prog 6 #[.int .i64 (n : Int), V0, .int .i64 wh, .int .u64 (a : Int)] w fun e w' => e = .returned (.bool true) ∧ Below w.heap.size w w' := by
  have HM := Lib.hid (mem10_yes h0 h1 w)
  have hA' := hA
  obtain ⟨A0, cap0, rfl, hlc0, hcm0, _⟩ := hA'
  have HA := Lib.hid hA
  obtain ⟨N, hN⟩ : ∃ N, N = l0.length := ⟨_, rfl⟩
  have HN := Lib.hid hN
  rw [← hN] at hlc0 h60 ⊢
  have HX := Lib.hid hx
  have hN0 : 0 < N := by rw [hN]; exact List.length_pos_iff.2 hne
  obtain ⟨L1, hL1⟩ : ∃ L1, L1 = win (64 * n) l0 := ⟨_, rfl⟩
  have HLN := Lib.hid (show L1.length = N by rw [hL1, win_length]; exact hN.symm)
  have HP1 := Lib.hid (show ∀ p ∈ L1, p.1 % 8 = 0 ∧ p.1 < 64 * n ∧ p.2 < 18446744073709551616 from by rw [hL1]; exact win_lines rfl h0 hx)
  have HL1 := Lib.hid hL1
  obtain ⟨W0, hW0⟩ : ∃ W0, W0 = (IntKind.u64.wrap wh) := ⟨_, rfl⟩
  have hW1 : 0 ≤ W0 ∧ W0 < 18446744073709551616 := by rw [hW0, IntKind.wrap_u64]; omega
  obtain ⟨k, hk⟩ : ∃ k : Nat, (k : Int) = W0 % (N : Int) := ⟨(W0 % (N : Int)).toNat, by have := Int.emod_nonneg W0 (show (N : Int) ≠ 0 by omega); omega⟩
  have hkN : k < N := by have := Int.emod_lt_of_pos W0 (show (0 : Int) < (N : Int) by omega); omega
  have t1 : IntKind.u64.wrap wh = W0 := hW0.symm
  have t2 : IntKind.u64.wrap (N : Int) = (N : Int) := by rw [IntKind.wrap_u64]; omega
  have t3 : W0.tmod (N : Int) = (k : Int) := by rw [Int.tmod_eq_emod_of_nonneg hW1.1]; exact hk.symm
  have t4 : IntKind.i64.wrap (k : Int) = (k : Int) := by rw [IntKind.wrap_i64]; omega
  have t5 : ((N : Int) == 0) = false := by rw [beq_eq_false_iff_ne]; omega
  have t6 : ¬ N = 0 := by omega
  have d1 : decide (60 < (N : Int)) = false := by rw [decide_eq_false_iff_not]; omega
  have t7 : IntKind.u64.wrap (64 * (n : Int)) = 64 * (n : Int) := by rw [IntKind.wrap_u64]; omega
  have q3 : IntKind.i64.wrap (64 * (n : Int)) = 64 * (n : Int) := by rw [IntKind.wrap_i64]; omega
  clear hA hN hx hL1 hne hW0 hk hW1
  rcases hb45 with rfl | ⟨rfl, rfl⟩
  all_goals
    go_enter Try.func6, Try.ntmps6
    go_wp2_with fail
    refine HM.out.mono ?_
    rintro e w1 ⟨y, rfl, hm1, hfp, hb1⟩
    have HW := Lib.hid (within_any (HA.out.below hb1) (size := 64 * n) (by omega) (by omega) (by have := HN.out; omega) HX.out)
    rw [← HN.out, ← HL1.out, show ((64 * n : Nat) : Int) = 64 * (n : Int) from by omega] at HW
    have HM1 := Lib.hid hm1
    have HFP := Lib.hid hfp
    have HB1 := Lib.hid hb1
    clear hm1 hfp hb1
    go_wp2_with fail
    refine HW.out.mono ?_
    rintro e w2 ⟨⟨v, rfl, ho, _⟩, hb2⟩
    obtain ⟨gv, cv, rfl⟩ : ∃ gv cv, v = .slice (some ⟨gv, 0, none⟩) N cv := by
      rcases ho.2 with ⟨_, h⟩ | ⟨g', cap', cur', h, _⟩
      · omega
      · exact ⟨g', cap', h⟩
    have hlen := HLN.out
    have hgv : w1.heap.size ≤ gv ∧ gv < w2.heap.size := ownZ_from ho gv rfl
    have u0 : w2.cell? ⟨gv, k * 2, none⟩ = some (.int .u64 (L1[k].1 : Int)) := by
      obtain ⟨g', off', cap', he, e0, _⟩ := (own_ahead (l := L1) (by rw [hlen]; exact ho)).1.at_ (k := k) (by omega)
      injection he with he _ _
      cases he
      rw [Nat.zero_add] at e0
      exact e0
    have f0 := ho.frozenAt (k * 2)
    have hst := ho.stored (k * 2) (wv a)
    rw [flat_set L1 k a (by omega)] at hst
    obtain ⟨L2, hL2⟩ : ∃ L2, L2 = L1.set k (a, (L1[k]'(by omega)).2) := ⟨_, rfl⟩
    rw [← hL2] at hst
    have HL2N := Lib.hid (show L2.length = N by rw [hL2, List.length_set]; exact hlen)
    have HL2K := Lib.hid (show L2[k]? = some (a, (L1[k]'(by omega)).2) from by rw [hL2, List.getElem?_set, if_pos rfl, if_pos (by omega)])
    have HL2G := Lib.hid (show ∀ j (hj : j < L2.length), j < k → L2[j].1 % 8 = 0 ∧ L2[j].1 < 64 * n ∧ L2[j].2 < 18446744073709551616 from fun j hj hjk => by
      have : L2[j] = L1[j]'(by have := HL2N.out; omega) := by
        simp only [hL2, List.getElem_set]
        rw [if_neg (by omega)]
      rw [this]
      exact HP1.out _ (List.getElem_mem _))
    have HL2F := Lib.hid (show ∀ p ∈ L2, p.1 < 18446744073709551616 from fun p hp => by
      rw [hL2] at hp
      rcases List.mem_or_eq_of_mem_set hp with h | rfl
      · have := (HP1.out p h).2.1
        omega
      · exact ha)
    obtain ⟨W2, hW2⟩ : ∃ W2, W2 = w2.setCell ⟨gv, k * 2, none⟩ (.int .u64 (a : Int)) := ⟨_, rfl⟩
    have hbW : Below w1.heap.size w1 W2 := by rw [hW2]; exact hb2.setCell (p := ⟨gv, k * 2, none⟩) hgv.1 _
    have hsW : W2.heap.size = w2.heap.size := by rw [hW2]; exact size_set _ _ _
    have HAV := Lib.hid (show Ahead W2 (.slice (some ⟨gv, 0, none⟩) N cv) L2 from by
      rw [hW2]
      exact (own_ahead (by rw [HL2N.out]; exact hst.1)).1)
    have HBW := Lib.hid hbW
    have HR := Lib.hid (rnew_any (some ⟨y.g, 0, none⟩) 0 HAV.out (fun h => by have := HL2N.out; rw [h] at this; simp at this; omega) (by have := HL2N.out; omega))
    clear ho hst hL2 hb2 hbW HW
    go_wp2_with fail
    rw [← hW2]
    refine HR.out.mono ?_
    rintro e w4 ⟨⟨rg, V4, rfl, hr4, hrg, hV4⟩, hb4⟩
    have hlt1 : ∀ q, y.fp q → q < w1.heap.size := HM1.out.lt
    have hmW := HM1.out.below HBW.out
    have hsz1 := HB1.out.size
    have WS0 := Lib.hid (show WS w w4 n L2 (.slice (some ⟨gv, 0, none⟩) N cv) y.g rg k 0 (St.zero n) (RS.new 0 L2) y V4 0 from
      { cost := by rw [cost_new]; omega, fit := new_Fit (by decide) (by decide) h0 HL2F.out, ne := by
          have hne2 : L2 ≠ [] := fun h => by have := HL2N.out; rw [h] at this; simp at this; omega
          show (if L2 = [] then Ph.en else Ph.st) ≠ .en
          rw [if_neg hne2]
          exact fun h => by cases h
        mlk := Nat.zero_le _, mem := hmW.below hb4, ok := zero_Ok n, sm := zero_Small n, on := RunOn.new hmW hr4 hrg hV4, inv := ⟨Nat.zero_le _, rfl, rfl⟩, nl := rfl, yg := rfl, low := HB1.out.trans ((Below.and HBW.out hb4).mono HB1.out.size), fp := HFP.out, rgn := by have := HBW.out.size; omega, ah := HAV.out.below hb4, sep := fun b hb hne => by
          have hb' : gv = b := by injection hb
          exact ⟨fun hf => by have := hlt1 b hf; omega, by omega⟩ })
    obtain ⟨gy, hgy⟩ : ∃ gy, gy = y.g := ⟨_, rfl⟩
    rw [← hgy] at WS0
    clear hr4 hrg hV4 hb4 hlt1 hmW hsW HR HAV hW2 u0 f0 hgv
    go_wp2_with fail
    rw [← hgy]
    clear hgy
    go_loopw [12] (fun iv wr => ∃ i s r y' V m, iv = .int .i64 ((i : Nat) : Int) ∧ WS w wr n L2 (.slice (some ⟨gv, 0, none⟩) N cv) gy rg k i s r y' V m) (fun iv _ => 3 * N + 1 - (intOf iv).toNat)
    case atStart => exact ⟨0, _, _, _, _, _, rfl, WS0.out⟩
    case round =>
      obtain ⟨i, s, r, yr, V, m, rfl, hws⟩ := hrel
      rename World => wq
      have hk2 : k < L2.length := by rw [HL2N.out]; exact hkN
      have hcost := hws.cost
      have hik : i ≤ 3 * N := by rw [HL2N.out] at hcost; omega
      have hi1 : decide ((i : Int) ≤ 3 * (N : Int)) = true := by rw [decide_eq_true_eq]; omega
      by_cases hc : r.ph = .st ∧ m = k
      · obtain ⟨hph, rfl⟩ := hc
        obtain ⟨q, hq⟩ : ∃ q, r.left = (a, (L1[m]'(by omega)).2) :: q := by
          refine ⟨L2.drop (m + 1), ?_⟩
          rw [hws.inv.left, List.drop_eq_getElem_cons hk2]
          congr 1
          have := HL2K.out
          rw [List.getElem?_eq_getElem hk2] at this
          exact Option.some.inj this
        have HST := Lib.hid (rstep_bad hws.mem hws.on (by rw [hws.nl]; exact hws.fit) hph hq (by rw [hws.nl]; exact hbad))
        have HWS := Lib.hid hws
        obtain ⟨AV, cV, rfl, _, _⟩ := hws.on.run.ah.len
        have hll : r.left.length = N - m := by rw [hws.inv.left, List.length_drop, HL2N.out]
        rw [hll] at HWS HST
        clear hws hq hph hcost
        go_wp2_with fail
        refine HST.out.mono ?_
        rintro e w6 ⟨rfl, y6, hm6, hg6, hrow6, T6⟩
        have HSD := Lib.hid (rstep_done hrow6)
        have HR6 := Lib.hid hrow6
        have HM6 := Lib.hid hm6
        have hg6' : y6.g = gy := hg6.trans HWS.out.yg
        have HAH6 := Lib.hid (HWS.out.ah.keep T6 HWS.out.sep)
        have HLOW := Lib.hid (((Fresh.mk HWS.out.low HWS.out.fp HWS.out.rgn).step T6).low)
        clear HST hm6 hg6 hrow6 T6
        go_wp2_with fail
        refine HSD.out.mono ?_
        rintro e w7 ⟨rfl, hb7⟩
        have hw2 : IntKind.i64.wrap ((N : Int) - (m : Int)) = ((N - m : Nat) : Int) := by rw [IntKind.wrap_i64]; omega
        have HLF := Lib.hid fun W (hb : Below w7.heap.size w7 W) => left_any ((HR6.out.below hb7 HR6.out.lt).below hb (HR6.out.below hb7 HR6.out.lt).lt) (n := N - m) (A := AV) (cap := cV) rfl
        have HVW := Lib.hid fun W (hb : Below w7.heap.size w7 W) => view_yes ((HM6.out.below hb7).below hb) HWS.out.ok.vie
        have HIM := Lib.hid fun W (hb : Below w7.heap.size w7 W) => img_upto ((HAH6.out.below hb7).below hb) (nl := n) (many := m) h1 (Nat.le_of_lt hk2) (by omega) HL2G.out
        obtain ⟨B, hB⟩ : ∃ B, B = bytesL (vw n (L2.take m)) := ⟨_, rfl⟩
        have hBl : B.length = 64 * n := by rw [hB, bytesL_length, vw_length]; omega
        rw [hg6', HWS.out.inv.view, ← hB] at HVW
        rw [← hB, show ((64 * n : Nat) : Int) = 64 * (n : Int) from by omega] at HIM
        obtain ⟨SS, hSS⟩ : ∃ SS, SS = strOf B := ⟨_, rfl⟩
        have HSS := Lib.hid hSS
        have hstr : (SS.toList == SS.toList) = true := by simp
        have HLOW7 := Lib.hid (show Below w.heap.size w w7 from Below.and HLOW.out hb7)
        clear hb7 hB hSS HSD
        go_wp2_with fail
        refine wp_region_any (by kernel_rfl) ?_
        change wpAny _ _ _ _ _ _ _ (World.drew _)
        refine wpAny_take (i := 0) (oi := ⟨some 82, _, _, _, _, _⟩) (v := .bool true) rfl (by kernel_rfl) (by kernel_rfl) (by kernel_rfl) (fun _ _ _ h => h) (Or.inl ⟨by kernel_rfl, by intro w; go_simp⟩) ?_
        simp only [Act.put, List.setIfInBounds_toArray, List.set_cons_zero, List.set_cons_succ]
        refine wpAny_take (i := 1) (oi := ⟨some 83, _, _, _, _, _⟩) (v := .bool true) rfl (by kernel_rfl) (by kernel_rfl) (by kernel_rfl) (fun _ _ _ h => h) (Or.inl ⟨by kernel_rfl, by intro w; go_simp⟩) ?_
        simp only [Act.put, List.setIfInBounds_toArray, List.set_cons_zero, List.set_cons_succ]
        refine wpAny_take (i := 2) (oi := ⟨some 84, _, _, _, _, _⟩) (v := .int .i64 3) rfl (by kernel_rfl) (by kernel_rfl) (by kernel_rfl) (fun _ _ _ h => h) (Or.inl ⟨by kernel_rfl, by intro w; go_simp⟩) ?_
        simp only [Act.put, List.setIfInBounds_toArray, List.set_cons_zero, List.set_cons_succ]
        refine wpAny_take (i := 3) (oi := ⟨some 85, _, _, _, _, _⟩) (v := .bool true) rfl (by kernel_rfl) (by kernel_rfl) (by kernel_rfl) (fun _ _ _ h => h) (Or.inl ⟨by kernel_rfl, by intro w; go_simp⟩) ?_
        simp only [Act.put, List.setIfInBounds_toArray, List.set_cons_zero, List.set_cons_succ]
        refine wpAny_take (i := 4) (oi := ⟨some 86, _, _, _, _, _⟩) (v := .bool true) rfl (by kernel_rfl) (by kernel_rfl) (by kernel_rfl) (fun _ _ _ h => h) (Or.inl ⟨by kernel_rfl, by intro w; go_simp⟩) ?_
        simp only [Act.put, List.setIfInBounds_toArray, List.set_cons_zero, List.set_cons_succ]
        refine wpAny_take (i := 5) (oi := ⟨some 87, _, _, _, _, _⟩) (v := .bool true) rfl (by kernel_rfl) (by kernel_rfl) (by kernel_rfl) (fun _ _ _ h => h) (Or.inl ⟨by kernel_rfl, by intro w; go_simp⟩) ?_
        simp only [Act.put, List.setIfInBounds_toArray, List.set_cons_zero, List.set_cons_succ]
        refine wpAny_take (i := 6) (oi := ⟨some 88, _, _, _, _, _⟩) (v := .bool true) rfl (by kernel_rfl) (by kernel_rfl) (by kernel_rfl) (fun _ _ _ h => h) (Or.inl ⟨by kernel_rfl, by intro w; go_simp⟩) ?_
        simp only [Act.put, List.setIfInBounds_toArray, List.set_cons_zero, List.set_cons_succ]
        refine wpAny_take (i := 7) (oi := ⟨some 89, _, _, _, _, _⟩) (v := .bool true) rfl (by kernel_rfl) (by kernel_rfl) (by kernel_rfl) (fun _ _ _ h => h) (Or.inl ⟨by kernel_rfl, by intro w; go_simp⟩) ?_
        simp only [Act.put, List.setIfInBounds_toArray, List.set_cons_zero, List.set_cons_succ]
        refine wpAny_take (i := 8) (oi := ⟨some 90, _, _, _, _, _⟩) (v := .bool true) rfl (by kernel_rfl) (by kernel_rfl) (by kernel_rfl) (fun _ _ _ h => h) (Or.inl ⟨by kernel_rfl, by intro w; go_simp⟩) ?_
        simp only [Act.put, List.setIfInBounds_toArray, List.set_cons_zero, List.set_cons_succ]
        refine wpAny_take (i := 9) (oi := ⟨some 91, _, _, _, _, _⟩) (v := .int .i64 3) rfl (by kernel_rfl) (by kernel_rfl) (by kernel_rfl) (fun _ _ _ h => h) (Or.inl ⟨by kernel_rfl, by intro w; go_simp⟩) ?_
        simp only [Act.put, List.setIfInBounds_toArray, List.set_cons_zero, List.set_cons_succ]
        refine wpAny_take (i := 10) (oi := ⟨some 92, _, _, _, _, _⟩) (v := .int .i64 3) rfl (by kernel_rfl) (by kernel_rfl) (by kernel_rfl) (fun _ _ _ h => h) (Or.inl ⟨by kernel_rfl, by intro w; go_simp⟩) ?_
        simp only [Act.put, List.setIfInBounds_toArray, List.set_cons_zero, List.set_cons_succ]
        refine wpAny_take (i := 11) (oi := ⟨some 93, _, _, _, _, _⟩) (v := .bool true) rfl (by kernel_rfl) (by kernel_rfl) (by kernel_rfl) (fun _ _ _ h => h) (Or.inl ⟨by kernel_rfl, by intro w; go_simp⟩) ?_
        simp only [Act.put, List.setIfInBounds_toArray, List.set_cons_zero, List.set_cons_succ]
        refine wpAny_take (i := 12) (oi := ⟨some 94, _, _, _, _, _⟩) (v := .bool true) rfl (by kernel_rfl) (by kernel_rfl) (by kernel_rfl) (fun _ _ _ h => h) (Or.inl ⟨by kernel_rfl, by intro w; go_simp⟩) ?_
        simp only [Act.put, List.setIfInBounds_toArray, List.set_cons_zero, List.set_cons_succ]
        refine wpAny_take (i := 13) (oi := ⟨some 95, _, _, _, _, _⟩) (v := .bool true) rfl (by kernel_rfl) (by kernel_rfl) (by kernel_rfl) (fun _ _ _ h => h) (Or.inl ⟨by kernel_rfl, by intro w; go_simp⟩) ?_
        simp only [Act.put, List.setIfInBounds_toArray, List.set_cons_zero, List.set_cons_succ]
        refine wpAny_take (i := 14) (oi := ⟨some 96, _, _, _, _, _⟩) (v := .pointer (some ⟨rg, 0, none⟩)) rfl (by kernel_rfl) (by kernel_rfl) (by kernel_rfl) (fun _ _ _ h => h) (Or.inl ⟨by kernel_rfl, by intro w; go_simp⟩) ?_
        simp only [Act.put, List.setIfInBounds_toArray, List.set_cons_zero, List.set_cons_succ]
        refine wpAny_take (i := 16) (oi := ⟨some 98, _, _, _, _, _⟩) (v := .slice (some ⟨gv, 0, none⟩) N cv) rfl (by kernel_rfl) (by kernel_rfl) (by kernel_rfl) (fun _ _ _ h => h) (Or.inl ⟨by kernel_rfl, by intro w; go_simp⟩) ?_
        simp only [Act.put, List.setIfInBounds_toArray, List.set_cons_zero, List.set_cons_succ]
        refine wpAny_take (i := 17) (oi := ⟨some 99, _, _, _, _, _⟩) (v := .int .i64 (N : Int)) rfl (by kernel_rfl) (by kernel_rfl) (by kernel_rfl) (fun _ _ _ h => h) (Or.inl ⟨by kernel_rfl, by intro w; go_simp⟩) ?_
        simp only [Act.put, List.setIfInBounds_toArray, List.set_cons_zero, List.set_cons_succ]
        refine wpAny_take (i := 18) (oi := ⟨some 100, _, _, _, _, _⟩) (v := .int .i64 (m : Int)) rfl (by kernel_rfl) (by kernel_rfl) (by kernel_rfl) (fun _ _ _ h => h) (Or.inl ⟨by kernel_rfl, by intro w; go_simp⟩) ?_
        simp only [Act.put, List.setIfInBounds_toArray, List.set_cons_zero, List.set_cons_succ]
        refine wpAny_take (i := 19) (oi := ⟨some 101, _, _, _, _, _⟩) (v := .int .i64 ((N - m : Nat) : Int)) rfl (by kernel_rfl) (by kernel_rfl) (by kernel_rfl) (fun _ _ _ h => h) (Or.inl ⟨by kernel_rfl, by intro w; go_simp⟩) ?_
        simp only [Act.put, List.setIfInBounds_toArray, List.set_cons_zero, List.set_cons_succ]
        refine wpAny_ready (rs := [15]) (by kernel_rfl) (by simp) ?_
        refine AllReady.cons rfl (fun K hK => ?_) AllReady.nil
        go_simp
        refine (HLF.out _ (drew_below w7)).mono ?_
        rintro e w' ⟨rfl, rfl⟩
        refine hK _ _ ?_
        clear hK K
        refine wpAny_take (i := 20) (oi := ⟨some 102, _, _, _, _, _⟩) (v := .bool true) rfl (by kernel_rfl) (by kernel_rfl) (by kernel_rfl) (fun _ _ _ h => h) (Or.inl ⟨by kernel_rfl, by intro w; go_simp⟩) ?_
        simp only [Act.put, List.setIfInBounds_toArray, List.set_cons_zero, List.set_cons_succ]
        refine wpAny_take (i := 21) (oi := ⟨some 103, _, _, _, _, _⟩) (v := .bool true) rfl (by kernel_rfl) (by kernel_rfl) (by kernel_rfl) (fun _ _ _ h => h) (Or.inl ⟨by kernel_rfl, by intro w; go_simp⟩) ?_
        simp only [Act.put, List.setIfInBounds_toArray, List.set_cons_zero, List.set_cons_succ]
        refine wpAny_take (i := 22) (oi := ⟨some 104, _, _, _, _, _⟩) (v := .bool true) rfl (by kernel_rfl) (by kernel_rfl) (by kernel_rfl) (fun _ _ _ h => h) (Or.inl ⟨by kernel_rfl, by intro w; go_simp⟩) ?_
        simp only [Act.put, List.setIfInBounds_toArray, List.set_cons_zero, List.set_cons_succ]
        refine wpAny_take (i := 23) (oi := ⟨some 105, _, _, _, _, _⟩) (v := .pointer (some ⟨gy, 0, none⟩)) rfl (by kernel_rfl) (by kernel_rfl) (by kernel_rfl) (fun _ _ _ h => h) (Or.inl ⟨by kernel_rfl, by intro w; go_simp⟩) ?_
        simp only [Act.put, List.setIfInBounds_toArray, List.set_cons_zero, List.set_cons_succ]
        refine wpAny_take (i := 26) (oi := ⟨some 108, _, _, _, _, _⟩) (v := .int .i64 (n : Int)) rfl (by kernel_rfl) (by kernel_rfl) (by kernel_rfl) (fun _ _ _ h => h) (Or.inl ⟨by kernel_rfl, by intro w; go_simp⟩) ?_
        simp only [Act.put, List.setIfInBounds_toArray, List.set_cons_zero, List.set_cons_succ]
        refine wpAny_take (i := 27) (oi := ⟨some 109, _, _, _, _, _⟩) (v := .int .i64 (64 * (n : Int))) rfl (by kernel_rfl) (by kernel_rfl) (by kernel_rfl) (fun _ _ _ h => h) (Or.inl ⟨by kernel_rfl, by intro w; go_simp⟩) ?_
        simp only [Act.put, List.setIfInBounds_toArray, List.set_cons_zero, List.set_cons_succ]
        refine wpAny_take (i := 28) (oi := ⟨some 110, _, _, _, _, _⟩) (v := .slice (some ⟨gv, 0, none⟩) N cv) rfl (by kernel_rfl) (by kernel_rfl) (by kernel_rfl) (fun _ _ _ h => h) (Or.inl ⟨by kernel_rfl, by intro w; go_simp⟩) ?_
        simp only [Act.put, List.setIfInBounds_toArray, List.set_cons_zero, List.set_cons_succ]
        refine wpAny_take (i := 29) (oi := ⟨some 111, _, _, _, _, _⟩) (v := .int .i64 (m : Int)) rfl (by kernel_rfl) (by kernel_rfl) (by kernel_rfl) (fun _ _ _ h => h) (Or.inl ⟨by kernel_rfl, by intro w; go_simp⟩) ?_
        simp only [Act.put, List.setIfInBounds_toArray, List.set_cons_zero, List.set_cons_succ]
        refine wpAny_ready (rs := [24]) (by kernel_rfl) (by simp) ?_
        refine AllReady.cons rfl (fun K hK => ?_) AllReady.nil
        go_simp
        refine (HVW.out _ (drew_below w7)).mono ?_
        rintro e w8 ⟨⟨v8, rfl, ho8⟩, hb8⟩
        obtain ⟨g8, c8, rfl, hsl8⟩ := rbytes_out ho8 hBl (by omega)
        have hcv8 := conv_sl (64 * n) c8 hBl hsl8
        have HCV8 := Lib.hid fun W (hb : Below w8.heap.size w8 W) => conv_sl (64 * n) c8 hBl (hsl8.below hb)
        rw [← HSS.out] at hcv8 HCV8
        have HB8 := Lib.hid (show Below w7.heap.size w7 w8 from Below.and (drew_below w7) hb8)
        clear ho8 hsl8 hb8
        refine hK _ _ ?_
        clear hK K
        refine wpAny_ready (rs := [25, 30]) (by kernel_rfl) (by simp) ?_
        refine AllReady.cons rfl (fun K hK => ?_) (AllReady.cons rfl (fun K hK => ?_) AllReady.nil)
        · skip
          go_simp
          refine hK _ _ ?_
          clear hK K
          refine wpAny_ready (rs := [30]) (by kernel_rfl) (by simp) ?_
          refine AllReady.cons rfl (fun K hK => ?_) AllReady.nil
          go_simp
          refine (HIM.out _ HB8.out).mono ?_
          rintro e w9 ⟨⟨v9, rfl, ho9⟩, hb9⟩
          obtain ⟨g9, c9, rfl, hsl9⟩ := rbytes_out ho9 hBl (by omega)
          have hcv9 := conv_sl (64 * n) c9 hBl hsl9
          rw [← HSS.out] at hcv9
          have hcv89 := HCV8.out w9 hb9
          have HB9 := Lib.hid (Below.and HB8.out hb9)
          clear ho9 hsl9 hb9
          refine hK _ _ ?_
          clear hK K
          refine wpAny_ready (rs := [31]) (by kernel_rfl) (by simp) ?_
          refine AllReady.cons rfl (fun K hK => ?_) AllReady.nil
          go_simp
          refine hK _ _ ?_
          clear hK K
          refine wpAny_take (i := 32) (oi := ⟨some 114, _, _, _, _, _⟩) (v := .bool true) rfl (by kernel_rfl) (by kernel_rfl) (by kernel_rfl) (fun _ _ _ h => h) (Or.inl ⟨by kernel_rfl, by intro w; go_simp⟩) ?_
          simp only [Act.put, List.setIfInBounds_toArray, List.set_cons_zero, List.set_cons_succ]
          refine wpAny_take (i := 33) (oi := ⟨some 115, _, _, _, _, _⟩) (v := .bool true) rfl (by kernel_rfl) (by kernel_rfl) (by kernel_rfl) (fun _ _ _ h => h) (Or.inl ⟨by kernel_rfl, by intro w; go_simp⟩) ?_
          simp only [Act.put, List.setIfInBounds_toArray, List.set_cons_zero, List.set_cons_succ]
          refine wpAny_take (i := 34) (oi := ⟨some 116, _, _, _, _, _⟩) (v := .bool true) rfl (by kernel_rfl) (by kernel_rfl) (by kernel_rfl) (fun _ _ _ h => h) (Or.inl ⟨by kernel_rfl, by intro w; go_simp⟩) ?_
          simp only [Act.put, List.setIfInBounds_toArray, List.set_cons_zero, List.set_cons_succ]
          refine wpAny_ready (rs := [35]) (by kernel_rfl) (by simp) ?_
          refine AllReady.cons rfl (fun K hK => ?_) AllReady.nil
          go_simp
          refine (k10_any _).mono ?_
          rintro e w10 ⟨rfl, hb10⟩
          have HF := Lib.hid (Below.and (Below.and HLOW7.out HB9.out) hb10)
          clear hb10
          refine hK _ _ ?_
          clear hK K
          refine wpAny_take (i := 36) (oi := ⟨some 118, _, _, _, _, _⟩) (v := .bool true) rfl (by kernel_rfl) (by kernel_rfl) (by kernel_rfl) (fun _ _ _ h => h) (Or.inl ⟨by kernel_rfl, by intro w; go_simp⟩) ?_
          simp only [Act.put, List.setIfInBounds_toArray, List.set_cons_zero, List.set_cons_succ]
          refine wpAny_take (i := 37) (oi := ⟨some 8, _, _, _, _, _⟩) (v := .bool true) rfl (by kernel_rfl) (by kernel_rfl) (by kernel_rfl) (fun _ _ _ h => h) (Or.inl ⟨by kernel_rfl, by intro w; go_simp⟩) ?_
          simp only [Act.put, List.setIfInBounds_toArray, List.set_cons_zero, List.set_cons_succ]
          refine wpAny_done (by kernel_rfl) ?_ _
          go_wp2
          go_ret
          exact ⟨rfl, HF.out⟩
        · skip
          go_simp
          refine (HIM.out _ HB8.out).mono ?_
          rintro e w9 ⟨⟨v9, rfl, ho9⟩, hb9⟩
          obtain ⟨g9, c9, rfl, hsl9⟩ := rbytes_out ho9 hBl (by omega)
          have hcv9 := conv_sl (64 * n) c9 hBl hsl9
          rw [← HSS.out] at hcv9
          have hcv89 := HCV8.out w9 hb9
          have HB9 := Lib.hid (Below.and HB8.out hb9)
          clear ho9 hsl9 hb9
          refine hK _ _ ?_
          clear hK K
          refine wpAny_ready (rs := [25, 31]) (by kernel_rfl) (by simp) ?_
          refine AllReady.cons rfl (fun K hK => ?_) (AllReady.cons rfl (fun K hK => ?_) AllReady.nil)
          · skip
            go_simp
            refine hK _ _ ?_
            clear hK K
            refine wpAny_ready (rs := [31]) (by kernel_rfl) (by simp) ?_
            refine AllReady.cons rfl (fun K hK => ?_) AllReady.nil
            go_simp
            refine hK _ _ ?_
            clear hK K
            refine wpAny_take (i := 32) (oi := ⟨some 114, _, _, _, _, _⟩) (v := .bool true) rfl (by kernel_rfl) (by kernel_rfl) (by kernel_rfl) (fun _ _ _ h => h) (Or.inl ⟨by kernel_rfl, by intro w; go_simp⟩) ?_
            simp only [Act.put, List.setIfInBounds_toArray, List.set_cons_zero, List.set_cons_succ]
            refine wpAny_take (i := 33) (oi := ⟨some 115, _, _, _, _, _⟩) (v := .bool true) rfl (by kernel_rfl) (by kernel_rfl) (by kernel_rfl) (fun _ _ _ h => h) (Or.inl ⟨by kernel_rfl, by intro w; go_simp⟩) ?_
            simp only [Act.put, List.setIfInBounds_toArray, List.set_cons_zero, List.set_cons_succ]
            refine wpAny_take (i := 34) (oi := ⟨some 116, _, _, _, _, _⟩) (v := .bool true) rfl (by kernel_rfl) (by kernel_rfl) (by kernel_rfl) (fun _ _ _ h => h) (Or.inl ⟨by kernel_rfl, by intro w; go_simp⟩) ?_
            simp only [Act.put, List.setIfInBounds_toArray, List.set_cons_zero, List.set_cons_succ]
            refine wpAny_ready (rs := [35]) (by kernel_rfl) (by simp) ?_
            refine AllReady.cons rfl (fun K hK => ?_) AllReady.nil
            go_simp
            refine (k10_any _).mono ?_
            rintro e w10 ⟨rfl, hb10⟩
            have HF := Lib.hid (Below.and (Below.and HLOW7.out HB9.out) hb10)
            clear hb10
            refine hK _ _ ?_
            clear hK K
            refine wpAny_take (i := 36) (oi := ⟨some 118, _, _, _, _, _⟩) (v := .bool true) rfl (by kernel_rfl) (by kernel_rfl) (by kernel_rfl) (fun _ _ _ h => h) (Or.inl ⟨by kernel_rfl, by intro w; go_simp⟩) ?_
            simp only [Act.put, List.setIfInBounds_toArray, List.set_cons_zero, List.set_cons_succ]
            refine wpAny_take (i := 37) (oi := ⟨some 8, _, _, _, _, _⟩) (v := .bool true) rfl (by kernel_rfl) (by kernel_rfl) (by kernel_rfl) (fun _ _ _ h => h) (Or.inl ⟨by kernel_rfl, by intro w; go_simp⟩) ?_
            simp only [Act.put, List.setIfInBounds_toArray, List.set_cons_zero, List.set_cons_succ]
            refine wpAny_done (by kernel_rfl) ?_ _
            go_wp2
            go_ret
            exact ⟨rfl, HF.out⟩
          · skip
            go_simp
            refine hK _ _ ?_
            clear hK K
            refine wpAny_ready (rs := [25]) (by kernel_rfl) (by simp) ?_
            refine AllReady.cons rfl (fun K hK => ?_) AllReady.nil
            go_simp
            refine hK _ _ ?_
            clear hK K
            refine wpAny_take (i := 32) (oi := ⟨some 114, _, _, _, _, _⟩) (v := .bool true) rfl (by kernel_rfl) (by kernel_rfl) (by kernel_rfl) (fun _ _ _ h => h) (Or.inl ⟨by kernel_rfl, by intro w; go_simp⟩) ?_
            simp only [Act.put, List.setIfInBounds_toArray, List.set_cons_zero, List.set_cons_succ]
            refine wpAny_take (i := 33) (oi := ⟨some 115, _, _, _, _, _⟩) (v := .bool true) rfl (by kernel_rfl) (by kernel_rfl) (by kernel_rfl) (fun _ _ _ h => h) (Or.inl ⟨by kernel_rfl, by intro w; go_simp⟩) ?_
            simp only [Act.put, List.setIfInBounds_toArray, List.set_cons_zero, List.set_cons_succ]
            refine wpAny_take (i := 34) (oi := ⟨some 116, _, _, _, _, _⟩) (v := .bool true) rfl (by kernel_rfl) (by kernel_rfl) (by kernel_rfl) (fun _ _ _ h => h) (Or.inl ⟨by kernel_rfl, by intro w; go_simp⟩) ?_
            simp only [Act.put, List.setIfInBounds_toArray, List.set_cons_zero, List.set_cons_succ]
            refine wpAny_ready (rs := [35]) (by kernel_rfl) (by simp) ?_
            refine AllReady.cons rfl (fun K hK => ?_) AllReady.nil
            go_simp
            refine (k10_any _).mono ?_
            rintro e w10 ⟨rfl, hb10⟩
            have HF := Lib.hid (Below.and (Below.and HLOW7.out HB9.out) hb10)
            clear hb10
            refine hK _ _ ?_
            clear hK K
            refine wpAny_take (i := 36) (oi := ⟨some 118, _, _, _, _, _⟩) (v := .bool true) rfl (by kernel_rfl) (by kernel_rfl) (by kernel_rfl) (fun _ _ _ h => h) (Or.inl ⟨by kernel_rfl, by intro w; go_simp⟩) ?_
            simp only [Act.put, List.setIfInBounds_toArray, List.set_cons_zero, List.set_cons_succ]
            refine wpAny_take (i := 37) (oi := ⟨some 8, _, _, _, _, _⟩) (v := .bool true) rfl (by kernel_rfl) (by kernel_rfl) (by kernel_rfl) (fun _ _ _ h => h) (Or.inl ⟨by kernel_rfl, by intro w; go_simp⟩) ?_
            simp only [Act.put, List.setIfInBounds_toArray, List.set_cons_zero, List.set_cons_succ]
            refine wpAny_done (by kernel_rfl) ?_ _
            go_wp2
            go_ret
            exact ⟨rfl, HF.out⟩
      · have HST := Lib.hid (rstep_fit hws.mem hws.ok hws.sm (by omega) hws.on (by rw [hws.nl]; exact hws.fit) (by rw [hws.nl]; exact (hws.head hk2 HL2G.out hc).1))
        rw [(hws.head hk2 HL2G.out hc).2] at HST
        have HWN := Lib.hid fun w' hp => hws.step (w' := w') (by omega) hk2 HL2G.out hc hp
        clear hws hcost
        go_wp2_with fail
        refine HST.out.mono ?_
        rintro e w6 ⟨rfl, hpost⟩
        obtain ⟨y6, V6, m6, hw6⟩ := HWN.out w6 hpost
        have HW6 := Lib.hid hw6
        clear hpost HST HWN hw6
        go_wp2
        exact ⟨⟨i + 1, r.mem s, r.next, y6, V6, m6, by go_num, HW6.out⟩, by simp only [intOf]; omega⟩
end Go.Proofs.Ytgapncamnmngeaa
