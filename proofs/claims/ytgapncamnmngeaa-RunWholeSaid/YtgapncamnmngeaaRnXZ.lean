/- RunWhole, of no stores; of what is out of its bounds. -/
import Derived.Test.YtgapncamnmngeaaRnX
namespace Go.Proofs.Ytgapncamnmngeaa
open Go.RowKit Go.Shelf
set_option linter.unusedVariables false
set_option maxRecDepth 100000 in
set_option maxHeartbeats 800000 in
theorem runWhole_zero {w : World} {V0 : Value} {l0 : List (Nat × Nat)} (hA : Reads w V0 l0) {n : Nat} {c : Int} (h0 : 0 < n) (h1 : n ≤ 16) (c0 : 0 ≤ c) (c1 : c ≤ 64) (h60 : l0.length ≤ 60) (hx : ∀ p ∈ l0, p.1 < 18446744073709551616 ∧ p.2 < 18446744073709551616) (hne : l0 = []) :
    Calls Try.prog 3 #[.int .i64 (n : Int), V0, .int .i64 c] w fun e w' => e = .returned (.bool true) ∧ Below w.heap.size w w' := by
  have HM := Lib.hid (mem10_yes h0 h1 w)
  obtain ⟨i0, hi, hz0, hz1, hz2⟩ := info_parts info32
  have hA' := hA
  obtain ⟨A0, cap0, rfl, hlc0, hcm0, _⟩ := hA'
  have HA := Lib.hid hA
  obtain ⟨N, hN⟩ : ∃ N, N = l0.length := ⟨_, rfl⟩
  have HN := Lib.hid hN
  rw [← hN] at hlc0 h60 ⊢
  have HX := Lib.hid hx
  have HN0 := Lib.hid (show N = 0 by rw [hN, hne]; rfl)
  have HNE := Lib.hid hne
  obtain ⟨L1, hL1⟩ : ∃ L1, L1 = win (64 * n) l0 := ⟨_, rfl⟩
  have HLN := Lib.hid (show L1.length = N by rw [hL1, win_length]; exact hN.symm)
  have HP1 := Lib.hid (show ∀ p ∈ L1, p.1 % 8 = 0 ∧ p.1 < 64 * n ∧ p.2 < 18446744073709551616 from by rw [hL1]; exact win_lines rfl h0 hx)
  have HL1 := Lib.hid hL1
  clear hA hN hx hL1 hne
  go_enter Try.func3, Try.ntmps3
  have d1 : decide (60 < (N : Int)) = false := by rw [decide_eq_false_iff_not]; omega
  have d2 : decide (c < 0) = false := by rw [decide_eq_false_iff_not]; omega
  have d3 : decide (64 < c) = false := by rw [decide_eq_false_iff_not]; omega
  go_wp2_with fail
  refine HM.out.mono ?_
  rintro e w1 ⟨y, rfl, hm1, hfp, hb1⟩
  have q3 : IntKind.i64.wrap (64 * (n : Int)) = 64 * (n : Int) := by rw [IntKind.wrap_i64]; omega
  have HW := Lib.hid (within_any (HA.out.below hb1) (size := 64 * n) (by omega) (by omega) (by have := HN.out; omega) HX.out)
  rw [← HN.out, ← HL1.out, show ((64 * n : Nat) : Int) = 64 * (n : Int) from by omega] at HW
  have HM1 := Lib.hid hm1
  have HFP := Lib.hid hfp
  have HB1 := Lib.hid hb1
  clear hm1 hfp hb1 HM
  go_wp2_with fail
  refine HW.out.mono ?_
  rintro e w2 ⟨⟨v, rfl, ho, hnil⟩, hb2⟩
  have hv0 := hnil HNE.out
  subst hv0
  have hl10' : L1 = [] := by
    have := HLN.out
    rw [HN0.out] at this
    exact List.eq_nil_of_length_eq_zero this
  have HAV := Lib.hid (show Ahead w2 (.slice none 0 0) L1 by rw [hl10']; exact Ahead.nil _)
  have HL10 := Lib.hid hl10'
  clear hl10'
  clear ho
  have HB2 := Lib.hid hb2
  clear hb2 hnil HW
  go_wp2_with (at_builtin; refine wpList_append_own_none rfl _ _ 22 rfl w2.heap.size 32 i0 2 Try.underlying22 hi _ 0 [] rfl (World.ownsRow_nil _ _ _ _) rfl ?_)
  have HR := Lib.hid (rnew_any (some ⟨y.g, 0, none⟩) c HAV.out (fun _ => rfl) (by have := HLN.out; omega))
  go_wp2_with fail
  refine HR.out.mono ?_
  rintro e w4 ⟨⟨rg, V4, rfl, hr4, hrg, hV4⟩, hb4⟩
  have H4 := Lib.hid (And.intro hr4 (And.intro hrg (And.intro hV4 hb4)))
  clear hr4 hrg hV4 hb4 HR
  go_wp2_with fail
  go_loopw [10] (fun i wr => i = .int .i64 0 ∧ w4 = wr) (fun i _ => 0)
  case atStart => exact ⟨rfl, rfl⟩
  case round =>
    obtain ⟨rfl, rfl⟩ := hrel
    skip
    · skip
      obtain ⟨hr4, hrg, hV4, hb4⟩ := H4.out
      have hs12 := HB2.out.size
      have hs34 := hb4.size
      have hlt1 : ∀ q, y.fp q → q < w1.heap.size := HM1.out.lt
      have hm3 := HM1.out.below HB2.out
      have WH0 := Lib.hid (show WH w w4 n L1 (.slice none 0 0) y.g rg c 0 (St.zero n) (RS.new c L1) y V4 0 0 0 0 from
        { mem := hm3.below hb4, ok := zero_Ok n, sm := zero_Small n, on := RunOn.new hm3 hr4 hrg hV4, inv := zero_inv _ n L1 c (fun p hp => ⟨trivial, by have := (HP1.out p hp).2.1; omega⟩), st := rfl, nl := rfl, yg := rfl, low := HB1.out.trans ((Below.and HB2.out hb4).mono HB1.out.size), fp := HFP.out, rgn := by have := HB1.out.size; omega, ah := HAV.out.below hb4, sep := fun b hb hne => by cases hb })
      clear hr4 hrg hV4 hb4 hm3 hlt1
      have HG0 := Lib.hid (show (0 + (RS.new c L1).cost ≤ 3 * L1.length) ∧ (RS.new c L1).Good n from ⟨by rw [cost_new]; omega, new_Good c0 c1 h0 HP1.out⟩)
      obtain ⟨gy, hgy⟩ : ∃ gy, gy = y.g := ⟨_, rfl⟩
      rw [← hgy] at WH0
      have HGY := Lib.hid hgy
      go_wp2_with fail
      rw [← hgy]
      clear hgy
      go_loopw [11] (fun iv wr => iv = .int .i64 0 ∧ w4 = wr) (fun iv _ => 0)
      case atStart => exact ⟨rfl, rfl⟩
      case round =>
        obtain ⟨rfl, rfl⟩ := hrel
        have hwh := WH0.out
        have hgood := HG0.out.2
        obtain ⟨r, hr⟩ : ∃ r, r = RS.new c L1 := ⟨_, rfl⟩
        have hrn : r.next.done = true := by rw [hr, HL10.out]; rfl
        rw [← hr] at hwh hgood
        obtain ⟨s, hs⟩ : ∃ s, s = St.zero n := ⟨_, rfl⟩
        rw [← hs] at hwh
        have hdn := hrn
        clear hr hs
        have HONE := Lib.hid (one_any hwh.mem hwh.ok hwh.sm (by omega) hwh.on (by rw [hwh.nl]; exact hgood))
        rw [hwh.yg] at HONE
        have HSTEP := Lib.hid fun w' hp => hwh.step (w' := w') (by omega) hgood hp
        have HGOOD := Lib.hid hgood
        rw [hrn] at HONE
        clear hgood hwh
        go_wp2_with fail
        refine HONE.out.mono ?_
        rintro e w6 ⟨rfl, hpost⟩
        obtain ⟨y6, V6, t6, m6, L6, b6, hw6⟩ := HSTEP.out w6 hpost
        clear hpost HONE HSTEP
        obtain ⟨A6, cap6, rfl, _, _⟩ := hw6.on.run.ah.len
        have hm60 : m6 = 0 := by have := hw6.inv.hm; rw [HL10.out, List.length_nil] at this; omega
        subst hm60
        have hll : r.next.left.length = 0 := by rw [hw6.inv.left, HL10.out]; rfl
        have HLF := Lib.hid (left_any hw6.on.run.cells (n := 0) (A := A6) (cap := cap6) (by rw [hll]; rfl))
        have HST6 := Lib.hid (stats_yes hw6.mem)
        rw [hw6.yg, hw6.st] at HST6
        unfold wv at HST6
        have HW6 := Lib.hid hw6
        clear hw6 hll
        have fs1 := fun (w : World) => fieldS1 w ((r.mem s).ld : Int) 0 ((r.mem s).fl : Int) ((r.mem s).fe : Int)
        go_wp2_with fail
        refine HLF.out.mono ?_
        rintro e w' ⟨rfl, rfl⟩
        go_wp2_with fail
        refine HST6.out.mono ?_
        rintro e w7 ⟨rfl, hb7⟩
        have HB7 := Lib.hid hb7
        clear HLF HST6 hb7
        skip
        · skip
          have HDN := Lib.hid hdn
          have hon7 := HW6.out.on.below HB7.out
          have HSD := Lib.hid (show Calls Try.prog 16 #[.pointer (some ⟨rg, 0, none⟩)] w7 fun e w' => e = .returned (.tuple #[.bool true, .int .i64 0]) ∧ Below w7.heap.size w7 w' from by
            have hc := hon7.run.cells
            rw [hdn, show r.next.code = 0 from by
              have := HGOOD.out.cd
              obtain ⟨c9, l9, li9, ph9, d9, k9⟩ := r
              cases ph9 with
              | st => cases l9 <;> exact this
              | fl => exact this
              | fe => exact this
              | en => exact this] at hc
            exact rstep_done hc)
          clear hdn hon7
          have HFI := Lib.hid (HW6.out.final HDN.out)
          have HIM := Lib.hid fun W (hb : Below w7.heap.size w7 W) => img_any (((HW6.out.ah.below HB7.out).below hb)) (nl := n) (many := 0) h1 (Nat.zero_le _) (by omega) HP1.out
          rw [show L1.take 0 = L1 from by rw [HL10.out]; rfl, show ((64 * n : Nat) : Int) = 64 * (n : Int) from by omega] at HIM
          go_wp2_with fail
          refine HSD.out.mono ?_
          rintro e w8 ⟨rfl, hb8⟩
          go_wp2_with fail
          refine (HIM.out _ hb8).mono ?_
          rintro e w9 ⟨⟨v9, rfl, ho9⟩, hb9⟩
          obtain ⟨B, hB⟩ : ∃ B, B = bytesL (vw n L1) := ⟨_, rfl⟩
          have hBl : B.length = 64 * n := by rw [hB, bytesL_length, vw_length]; omega
          rw [← hB] at ho9
          obtain ⟨g9, c9, rfl, hsl9⟩ := rbytes_out ho9 hBl (by omega)
          have hcv9 := conv_sl (64 * n) c9 hBl hsl9
          obtain ⟨SS, hSS⟩ : ∃ SS, SS = strOf B := ⟨_, rfl⟩
          rw [← hSS] at hcv9
          have hstr : (SS.toList == SS.toList) = true := by simp
          have hb79 := Below.and hb8 hb9
          have HB79 := Lib.hid hb79
          obtain ⟨fv, fl, fz, fm⟩ := HFI.out
          have hm7 := fun W (hb : Below w7.heap.size w7 W) => (HW6.out.mem.below HB7.out).below hb
          have HLF := Lib.hid (left_any (HW6.out.on.below (Below.and HB7.out hb79)).run.cells (n := 0) (A := A6) (cap := cap6) (by
            rw [show r.next.left.length = 0 from by rw [HW6.out.inv.left, List.length_drop, fm]; omega]
            rfl))
          have HIMG := Lib.hid fun W (hb : Below w7.heap.size w7 W) => image_yes (hm7 W hb) HW6.out.ok.las
          have HVW := Lib.hid fun W (hb : Below w7.heap.size w7 W) => view_yes (hm7 W hb) HW6.out.ok.vie
          have HLN9 := Lib.hid fun W (hb : Below w7.heap.size w7 W) => lines_zero (hm7 W hb) fz
          rw [HW6.out.yg] at HIMG HVW HLN9
          rw [fl, ← hB] at HIMG
          rw [fv, ← hB] at HVW
          have HBB := Lib.hid hB
          have HSS := Lib.hid hSS
          clear hb8 hb9 ho9 hsl9 hb79 hm7 hB hSS fv fl fz fm HIM HSD
          go_wp2_with fail
          refine HLF.out.mono ?_
          rintro e w' ⟨rfl, rfl⟩
          go_wp2_with fail
          refine (HIMG.out _ HB79.out).mono ?_
          rintro e w10 ⟨⟨v10, rfl, ho10⟩, hb10⟩
          obtain ⟨g10, c10, rfl, hsl10⟩ := rbytes_out ho10 hBl (by omega)
          have hcv10 := conv_sl (64 * n) c10 hBl hsl10
          rw [← HSS.out] at hcv10
          have HB710 := Lib.hid (Below.and HB79.out hb10)
          clear ho10 hsl10 hb10 HLF HIMG
          go_wp2_with fail
          refine (HVW.out _ HB710.out).mono ?_
          rintro e w11 ⟨⟨v11, rfl, ho11⟩, hb11⟩
          obtain ⟨g11, c11, rfl, hsl11⟩ := rbytes_out ho11 hBl (by omega)
          have hcv11 := conv_sl (64 * n) c11 hBl hsl11
          rw [← HSS.out] at hcv11
          have HB711 := Lib.hid (Below.and HB710.out hb11)
          clear ho11 hsl11 hb11 HVW
          go_wp2_with fail
          refine (HLN9.out _ HB711.out).mono ?_
          rintro e w12 ⟨rfl, hb12⟩
          have HB712 := Lib.hid (Below.and HB711.out hb12)
          clear hb12 HLN9
          go_wp2_with fail
          refine (k10_any _).mono ?_
          rintro e w13 ⟨rfl, hb13⟩
          have HF := Lib.hid (show Below w.heap.size w w13 from Below.and (Below.and (Below.and HW6.out.low HB7.out) HB712.out) hb13)
          clear hb13
          go_wp2
          go_ret
          exact ⟨rfl, HF.out⟩
end Go.Proofs.Ytgapncamnmngeaa
