/- RunLasts: at any moment of a run, whatever is evicted and kept, a beginning of its stores has lasted; for any input in its bounds. -/
import Derived.Test.YtgapncamnmngeaaRnR
import Derived.Test.YtgapncamnmngeaaRnQ
import Derived.Test.YtgapncamnmngeaaRnB
import Derived.Test.YtgapncamnmngeaaRnU
import Derived.Test.YtgapncamnmngeaaPCopy
import Derived.Test.YtgapncamnmngeaaPCrashE
namespace Go.Proofs.Ytgapncamnmngeaa
open Go.RowKit Go.Shelf
set_option linter.unusedVariables false

theorem gd_ext {a b : List Nat} (hl : a.length = b.length) (h : ∀ k, a.getD k 0 = b.getD k 0) : a = b := List.ext_getElem? fun k => gd_opt hl (h k)
theorem fieldT1 (w : World) (a b c d : Int) : (Instr.field 38 (.agg #[.int .u64 a, .int .u64 b, .int .u64 c, .int .u64 d]) 1).run Try.prog w = .ok (.int .u64 b) w := by kernel_rfl
/-- A list of evictions as an argument. -/
def EarlyIn (W : World) (A : Option Addr) (len cap : Nat) (E : List (Int × Int)) : Prop :=
  E.length = len ∧ len ≤ cap ∧ cap ≤ maxLen ∧ ∀ i (hi : i < E.length), ∃ a, A = some a ∧ W.cell? (a.add (i * 2)) = some (.int .i64 E[i].1) ∧ W.cell? (a.add (i * 2 + 1)) = some (.int .i64 E[i].2) ∧ E[i].2 ≤ 9223372036854775807
theorem EarlyIn.below {W W' : World} {A : Option Addr} {len cap : Nat} {E : List (Int × Int)} (h : EarlyIn W A len cap E) (hb : Below W.heap.size W W') : EarlyIn W' A len cap E :=
  ⟨h.1, h.2.1, h.2.2.1, fun i hi => by
    obtain ⟨a, ha, e0, e1, e2⟩ := h.2.2.2 i hi
    exact ⟨a, ha, (hb.cell (block_lt_of_cell e0)).trans e0, (hb.cell (block_lt_of_cell e1)).trans e1, e2⟩⟩
set_option maxRecDepth 100000 in
set_option maxHeartbeats 3200000 in
theorem runLasts_yes {w : World} {V0 : Value} {l0 : List (Nat × Nat)} (hA : Reads w V0 l0) {n : Nat} {stop : Int} {AE AK : Option Addr} {lenE capE capK : Nat} {E : List (Int × Int)} {keep : List Int} (h0 : 0 < n) (h1 : n ≤ 16) (h60 : l0.length ≤ 60) (hx : ∀ p ∈ l0, p.1 < 18446744073709551616 ∧ p.2 < 18446744073709551616)
    (hE : EarlyIn w AE lenE capE E) (hE9 : lenE ≤ 9223372036854775807) (hk : Sl w AK (keep.map iv)) (hk20 : keep.length ≤ 20) (hkw : ∀ z ∈ keep, (Lit.int .i64 z).wf = true) (hkA : ∀ a, AK = some a → keep ≠ [] → a.block < w.heap.size) :
    Calls Try.prog 4 #[.int .i64 (n : Int), V0, .int .i64 stop, .slice AE lenE capE, .slice AK keep.length capK] w fun e w' => e = .returned (.bool true) ∧ Below w.heap.size w w' := by
  have HM := Lib.hid (mem10_yes h0 h1 w)
  have hA' := hA
  obtain ⟨A0, cap0, rfl, hlc0, hcm0, hrd⟩ := hA'
  have HA := Lib.hid hA
  obtain ⟨N, hN⟩ : ∃ N, N = l0.length := ⟨_, rfl⟩
  have HN := Lib.hid hN
  obtain ⟨KN, hKN⟩ : ∃ KN, KN = keep.length := ⟨_, rfl⟩
  have HKN := Lib.hid hKN
  have HKS := Lib.hid hk
  have HKW := Lib.hid hkw
  have HKA := Lib.hid hkA
  have HE := Lib.hid hE
  rw [← hN] at hlc0 h60 ⊢
  rw [← hKN] at hk20 ⊢
  have HX := Lib.hid hx
  obtain ⟨L1, hL1⟩ : ∃ L1, L1 = win (64 * n) l0 := ⟨_, rfl⟩
  have HLN := Lib.hid (show L1.length = N by rw [hL1, win_length]; exact hN.symm)
  have HP1 := Lib.hid (show ∀ p ∈ L1, p.1 % 8 = 0 ∧ p.1 < 64 * n ∧ p.2 < 18446744073709551616 from by rw [hL1]; exact win_lines rfl h0 hx)
  have HL1 := Lib.hid hL1
  obtain ⟨U, hU⟩ : ∃ U, U = IntKind.u64.wrap stop := ⟨_, rfl⟩
  have hU1 : 0 ≤ U ∧ U < 18446744073709551616 := by rw [hU, IntKind.wrap_u64]; omega
  obtain ⟨T, hT⟩ : ∃ T : Nat, (T : Int) = U % (3 * (N : Int) + 2) := ⟨(U % (3 * (N : Int) + 2)).toNat, by have := Int.emod_nonneg U (show 3 * (N : Int) + 2 ≠ 0 by omega); omega⟩
  have hTN : T < 3 * N + 2 := by have := Int.emod_lt_of_pos U (show (0 : Int) < 3 * (N : Int) + 2 by omega); omega
  have t1 : IntKind.u64.wrap stop = U := hU.symm
  have t2 : IntKind.i64.wrap (3 * (N : Int)) = 3 * (N : Int) := by rw [IntKind.wrap_i64]; omega
  have t3 : IntKind.i64.wrap (3 * (N : Int) + 2) = 3 * (N : Int) + 2 := by rw [IntKind.wrap_i64]; omega
  have t4 : IntKind.u64.wrap (3 * (N : Int) + 2) = 3 * (N : Int) + 2 := by rw [IntKind.wrap_u64]; omega
  have t5 : U.tmod (3 * (N : Int) + 2) = (T : Int) := by rw [Int.tmod_eq_emod_of_nonneg hU1.1]; exact hT.symm
  have t6 : IntKind.i64.wrap (T : Int) = (T : Int) := by rw [IntKind.wrap_i64]; omega
  have t7 : ¬ (3 * (N : Int) + 2 = 0) := by omega
  have t8 : ((3 * (N : Int) + 2) == 0) = false := by rw [beq_eq_false_iff_ne]; omega
  have d1 : decide (60 < (N : Int)) = false := by rw [decide_eq_false_iff_not]; omega
  have d2 : decide (20 < (KN : Int)) = false := by rw [decide_eq_false_iff_not]; omega
  have q3 : IntKind.i64.wrap (64 * (n : Int)) = 64 * (n : Int) := by rw [IntKind.wrap_i64]; omega
  clear hA hN hx hL1 hU hT hU1 hrd hk hkw hkA hE hKN
  go_enter Try.func4, Try.ntmps4
  go_wp2_with fail
  refine HM.out.mono ?_
  rintro e w1 ⟨y, rfl, hm1, hfp, hb1⟩
  have HW := Lib.hid (within_any (HA.out.below hb1) (size := 64 * n) (by omega) (by omega) (by have := HN.out; omega) HX.out)
  rw [← HN.out, ← HL1.out, show ((64 * n : Nat) : Int) = 64 * (n : Int) from by omega] at HW
  have HM1 := Lib.hid hm1
  have HFP := Lib.hid hfp
  have HB1 := Lib.hid hb1
  clear hm1 hfp hb1 HM
  go_wp2_with fail
  refine HW.out.mono ?_
  rintro e w2 ⟨⟨v, rfl, ho, hnil⟩, hb2⟩
  have hoa := own_ahead (l := L1) (w := w2) (v := v) (by rw [HLN.out]; exact ho)
  obtain ⟨Av, cv, rfl, _, _⟩ : ∃ Av cv, v = .slice Av N cv ∧ N ≤ cv ∧ cv ≤ maxLen := by
    have := hoa.1.len
    rw [HLN.out] at this
    exact this
  have HAV := Lib.hid hoa
  have HV0 := Lib.hid (show L1 = [] → Value.slice Av N cv = .slice none 0 0 from fun h => hnil (by
    have := HLN.out
    rw [h] at this
    exact List.eq_nil_of_length_eq_zero (by rw [← HN.out, ← this]; rfl)))
  have HB2 := Lib.hid hb2
  have HR := Lib.hid (rnew_any (some ⟨y.g, 0, none⟩) 3 HAV.out.1 (fun h => HV0.out h) (by have := HLN.out; omega))
  clear ho hoa hb2 HW hnil
  go_wp2_with fail
  refine HR.out.mono ?_
  rintro e w4 ⟨⟨rg, V4, rfl, hr4, hrg, hV4⟩, hb4⟩
  have hlt1 : ∀ q, y.fp q → q < w1.heap.size := HM1.out.lt
  have hm2 := HM1.out.below HB2.out
  have hs1 := HB1.out.size
  have hs2 := HB2.out.size
  have hg0 : (RS.new 3 L1).Good n := new_Good (by decide) (by decide) h0 HP1.out
  have WL0 := Lib.hid (show WL w w4 n L1 (.slice Av N cv) y.g rg 0 (St.zero n) (RS.new 3 L1) y V4 0 0 0 0 from
    { mem := hm2.below hb4, ok := zero_Ok n, sm := zero_Small n, on := RunOn.new hm2 hr4 hrg hV4, inv := zero_inv _ n L1 3 (fun p hp => ⟨trivial, by have := (HP1.out p hp).2.1; omega⟩), st := rfl, nl := rfl, yg := rfl, low := HB1.out.trans ((Below.and HB2.out hb4).mono HB1.out.size), fp := HFP.out, rgn := by omega, ah := HAV.out.1.below hb4, sep := fun b hb hne => by
        have := HAV.out.2.1 b hb
        exact ⟨fun hf => by have := hlt1 b hf; omega, by omega⟩ })
  have HG0 := Lib.hid hg0
  obtain ⟨gy, hgy⟩ : ∃ gy, gy = y.g := ⟨_, rfl⟩
  rw [← hgy] at WL0
  clear hr4 hrg hV4 hb4 hlt1 hm2 hg0 HR hs1 hs2
  go_wp2_with fail
  rw [← hgy]
  clear hgy
  go_loopw [13, 14] (fun ov iv wr => ∃ (i : Nat) (s : St) (r : RS) (y' : Lay) (V : Value) (t m L b : Nat), iv = .int .i64 ((i : Nat) : Int) ∧ ov = .bool r.done ∧ i ≤ T ∧ (r.done = false → r.Good n) ∧ WL w wr n L1 (.slice Av N cv) gy rg i s r y' V t m L b) (fun _ iv _ => T - (intOf iv).toNat)
  case atStart => exact ⟨0, _, _, _, _, _, _, _, _, rfl, rfl, Nat.zero_le _, fun _ => HG0.out, WL0.out⟩
  case round =>
    obtain ⟨i, s, r, yr, V, t, m, L, b, rfl, rfl, hiT, hgd, hwl⟩ := hrel
    rename World => wr
    by_cases hc : i < T ∧ r.done = false
    · obtain ⟨hiT2, hdn⟩ := hc
      have hgood := hgd hdn
      have i1 : decide ((i : Int) < (T : Int)) = true := by rw [decide_eq_true_eq]; omega
      rw [hdn]
      have HWL := Lib.hid hwl
      have HGD := Lib.hid hgood
      clear hwl hgood hgd hdn
      by_cases hle : lenE = 0
      · have j1 : decide (0 < (lenE : Int)) = false := by rw [decide_eq_false_iff_not]; omega
        have j1' : decide (0 < lenE) = false := by rw [decide_eq_false_iff_not]; omega
        have j1'' : ¬ 0 < lenE := by omega
        clear hle
        have hwl2 := HWL.out
        have hSP := rstep_any hwl2.mem hwl2.ok hwl2.sm (by omega) hwl2.on (by rw [hwl2.nl]; exact HGD.out)
        have HSP := Lib.hid hSP
        have HNX := Lib.hid fun w' hp => hwl2.step (w' := w') (by omega) HGD.out hp
        clear hSP hwl2
        go_wp2_with fail
        refine HSP.out.mono ?_
        rintro e w6 ⟨rfl, hpost⟩
        obtain ⟨y6, V6, t6, m6, L6, b6, hw6⟩ := HNX.out w6 hpost
        have HF6 := Lib.hid (show ∃ (i' : Nat) (s : St) (r' : RS) (y' : Lay) (V : Value) (t m L b : Nat), i' = i + 1 ∧ r'.done = r.next.done ∧ (r'.done = false → r'.Good n) ∧ WL w w6 n L1 (.slice Av N cv) gy rg i' s r' y' V t m L b from ⟨i + 1, _, r.next, y6, V6, t6, m6, L6, b6, rfl, rfl, fun h => next_Good HGD.out h, hw6⟩)
        clear hpost HSP HNX hw6
        go_wp2
        obtain ⟨i', s', r', y', V', t', m', L', b', rfl, hd', hg', hw'⟩ := HF6.out
        exact ⟨⟨i + 1, s', r', y', V', t', m', L', b', by go_num, by rw [hd'], by omega, hg', hw'⟩, by simp only [intOf]; omega⟩
      · have j1 : decide (0 < (lenE : Int)) = true := by rw [decide_eq_true_eq]; omega
        obtain ⟨q, hq⟩ : ∃ q, q = i % lenE := ⟨_, rfl⟩
        have hql : q < lenE := by rw [hq]; exact Nat.mod_lt _ (by omega)
        have j2 : (i : Int).tmod (lenE : Int) = (q : Int) := by rw [Int.tmod_eq_emod_of_nonneg (by omega), hq]; omega
        have j3 : ((lenE : Int) == 0) = false := by rw [beq_eq_false_iff_ne]; omega
        have hEr := HE.out.below HWL.out.low
        obtain ⟨ad, rfl, s0, s1, e2⟩ := hEr.2.2.2 q (by rw [hEr.1]; exact hql)
        obtain ⟨a1, ha1, e0⟩ : ∃ a1, a1 = (E[q]'(by rw [hEr.1]; exact hql)).1 ∧ wr.cell? (ad.add (q * 2)) = some (.int .i64 a1) := ⟨_, rfl, s0⟩
        obtain ⟨a2, ha2, e1⟩ : ∃ a2, a2 = (E[q]'(by rw [hEr.1]; exact hql)).2 ∧ wr.cell? (ad.add (q * 2 + 1)) = some (.int .i64 a2) := ⟨_, rfl, s1⟩
        rw [← ha2] at e2
        have e3 := e1
        rw [← add_add ad (q * 2) 1] at e3
        have e4 : wr.cell? ⟨(ad.add (q * 2)).block, (ad.add (q * 2)).off + 1, none⟩ = some (.int .i64 a2) := e3
        have HEV := Lib.hid (evict_any HWL.out.mem HWL.out.ok (A := a1) (K := a2) e2)
        rw [HWL.out.yg] at HEV
        clear s0 s1 ha1 ha2 hq e2 e1 e3 hle
        go_wp2_with fail
        refine HEV.out.mono ?_
        rintro e w5 ⟨rfl, s5, y5, hm5, hevd, hT5⟩
        obtain ⟨t5', hwl2⟩ := HWL.out.evict hm5 hevd hT5
        clear hm5 hevd hT5 HEV e0 e4
        have hSP := rstep_any hwl2.mem hwl2.ok hwl2.sm (by omega) hwl2.on (by rw [hwl2.nl]; exact HGD.out)
        have HSP := Lib.hid hSP
        have HNX := Lib.hid fun w' hp => hwl2.step (w' := w') (by omega) HGD.out hp
        clear hSP hwl2
        go_wp2_with fail
        refine HSP.out.mono ?_
        rintro e w6 ⟨rfl, hpost⟩
        obtain ⟨y6, V6, t6, m6, L6, b6, hw6⟩ := HNX.out w6 hpost
        have HF6 := Lib.hid (show ∃ (i' : Nat) (s : St) (r' : RS) (y' : Lay) (V : Value) (t m L b : Nat), i' = i + 1 ∧ r'.done = r.next.done ∧ (r'.done = false → r'.Good n) ∧ WL w w6 n L1 (.slice Av N cv) gy rg i' s r' y' V t m L b from ⟨i + 1, _, r.next, y6, V6, t6, m6, L6, b6, rfl, rfl, fun h => next_Good HGD.out h, hw6⟩)
        clear hpost HSP HNX hw6
        go_wp2
        obtain ⟨i', s', r', y', V', t', m', L', b', rfl, hd', hg', hw'⟩ := HF6.out
        exact ⟨⟨i + 1, s', r', y', V', t', m', L', b', by go_num, by rw [hd'], by omega, hg', hw'⟩, by simp only [intOf]; omega⟩
    · have HWL := Lib.hid hwl
      have hmm : m ≤ N := by have := hwl.inv.hm; rw [HLN.out] at this; exact this
      have h3 : (i < T ∧ r.done = true) ∨ (¬ i < T ∧ r.done = true) ∨ (¬ i < T ∧ r.done = false) := by
        by_cases a1 : i < T
        · refine .inl ⟨a1, ?_⟩
          cases hd : r.done
          · exact absurd ⟨a1, hd⟩ hc
          · rfl
        · cases hd : r.done
          · exact .inr (.inr ⟨a1, rfl⟩)
          · exact .inr (.inl ⟨a1, rfl⟩)
      have hm9 : IntKind.i64.wrap (m : Int) = (m : Int) := by rw [IntKind.wrap_i64]; omega
      have HST := Lib.hid (stats_yes hwl.mem)
      rw [hwl.yg, hwl.st] at HST
      unfold wv at HST
      have fs1 := fun (w : World) => fieldT1 w (s.ld : Int) (m : Int) (s.fl : Int) (s.fe : Int)
      have HCP := Lib.hid fun W (hb : Below wr.heap.size wr W) => copy_yes (hwl.mem.below hb) hwl.ok
      rw [hwl.yg] at HCP
      clear hwl hgd hc hiT
      rcases h3 with ⟨i0, hdn⟩ | ⟨i0, hdn⟩ | ⟨i0, hdn⟩
      all_goals
        have i1 : decide ((i : Int) < (T : Int)) = decide (i < T) := by
          by_cases q : i < T
          · rw [decide_eq_true q, decide_eq_true_eq]; omega
          · rw [decide_eq_false q, decide_eq_false_iff_not]; omega
        simp only [i0, decide_true, decide_false] at i1
        have HDN := Lib.hid hdn
        rw [hdn]
        clear hdn
        go_wp2_with fail
        refine HST.out.mono ?_
        rintro e w5 ⟨rfl, hb5⟩
        go_wp2_with fail
        refine (HCP.out _ hb5).mono ?_
        rintro e w6 ⟨yc, rfl, hmc, hfpc, hb6⟩
        have HB6 := Lib.hid (Below.and hb5 hb6)
        have HCR := Lib.hid (crash_okE hmc HWL.out.ok keep AK capK (HKS.out.below (Below.and HWL.out.low (Below.and hb5 hb6))) (fun a ha hke hf => by have h1 := hfpc _ hf; have h2 := HKA.out a ha hke; have h3 := HWL.out.low.size; have h4 := hb5.size; omega) (by rw [← HKN.out]; omega) HKW.out)
        rw [← HKN.out] at HCR
        have HFC := Lib.hid (show ∀ k, yc.fp k → wr.heap.size ≤ k from fun k hk => by have := hfpc k hk; have := hb5.size; omega)
        clear hb5 hb6 hmc hfpc
        go_wp2_with fail
        refine HCR.out.mono ?_
        rintro e w7 ⟨rfl, y7, hm7, hT7⟩
        have hb17 : Below wr.heap.size wr w7 := HB6.out.trans (hT7.but.below HB6.out.size (fun k hk => HFC.out k hk))
        have HM7 := Lib.hid hm7
        have hg7 := hT7.g
        have HFR := Lib.hid (from_any (HWL.out.ah.below hb17) (by have := HLN.out; omega) (fun p hp => by have := (HP1.out p hp).2.1; omega) m)
        have HB7 := Lib.hid hb17
        clear hm7 hT7 hb17 HCR HFC HB6
        go_wp2_with fail
        refine HFR.out.mono ?_
        rintro e w8 ⟨⟨fr, rfl, hfr⟩, hb8⟩
        obtain ⟨t', ht1, ht2, hcl, hcr⟩ := inv_crash HWL.out.inv HWL.out.ok keep
        have hfrb := from_le hfr (Nat.le_trans HWL.out.inv.hb HWL.out.inv.ht) HWL.out.inv.cur
        have hfrt : fr ≤ t' := Nat.le_trans hfrb (Nat.le_trans HWL.out.inv.hb ht2)
        have HOV := Lib.hid (show r.done = true → N ≤ t' from fun h => by
          obtain ⟨q1, q2⟩ := HWL.out.inv.dn h
          rw [HLN.out] at q1
          omega)
        have HVW := Lib.hid (show (s.crash keep).lasted = vw n (L1.take t') from gd_ext (by rw [hcl, vw_length]) fun k => hcr k trivial)
        have HB8 := Lib.hid (Below.and HB7.out hb8)
        have HM8 := Lib.hid (HM7.out.below hb8)
        clear hcl hcr hfr hb8 HFR HM7
        go_wp2_with fail
        go_loopw [20] (fun jv wz => ∃ j : Nat, jv = .int .i64 (j : Int) ∧ j ≤ t' ∧ Below wr.heap.size wr wz ∧ MemAt wz y7 (s.crash keep)) (fun jv _ => m + 1 - (intOf jv).toNat)
        case atStart =>
          first
            | exact ⟨fr, rfl, hfrt, HB8.out, HM8.out⟩
            | exact ⟨N, rfl, HOV.out HDN.out, HB8.out, HM8.out⟩
        case round =>
          obtain ⟨j, rfl, hjt, hbz, hmz⟩ := hrel
          rename World => wz
          have hjm : decide ((j : Int) ≤ (m : Int)) = true := by rw [decide_eq_true_eq]; omega
          have HIMG := Lib.hid fun W (hb : Below wz.heap.size wz W) => image_yes (hmz.below hb) (crash_Ok HWL.out.ok keep).las
          rw [hg7, HVW.out] at HIMG
          have HIM := Lib.hid fun W (hb : Below wz.heap.size wz W) => img_upto ((HWL.out.ah.below hbz).below hb) (nl := n) (many := j) h1 (by have := HLN.out; omega) (by omega) (fun k hk _ => HP1.out _ (List.getElem_mem hk))
          obtain ⟨B1, hB1⟩ : ∃ B1, B1 = bytesL (vw n (L1.take t')) := ⟨_, rfl⟩
          obtain ⟨B2, hB2⟩ : ∃ B2, B2 = bytesL (vw n (L1.take j)) := ⟨_, rfl⟩
          have hBl1 : B1.length = 64 * n := by rw [hB1, bytesL_length, vw_length]; omega
          have hBl2 : B2.length = 64 * n := by rw [hB2, bytesL_length, vw_length]; omega
          rw [← hB1] at HIMG
          rw [← hB2, show ((64 * n : Nat) : Int) = 64 * (n : Int) from by omega] at HIM
          obtain ⟨S1, hS1⟩ : ∃ S1, S1 = strOf B1 := ⟨_, rfl⟩
          obtain ⟨S2, hS2⟩ : ∃ S2, S2 = strOf B2 := ⟨_, rfl⟩
          have HS1 := Lib.hid hS1
          have HS2 := Lib.hid hS2
          obtain ⟨bb, hbb⟩ : ∃ bb, bb = (S1.toList == S2.toList) := ⟨_, rfl⟩
          have hstr := hbb.symm
          have HNE := Lib.hid (show bb = false → j < t' from fun h => by
            rcases Nat.lt_or_ge j t' with h1 | h1
            · exact h1
            · have : j = t' := by omega
              rw [hbb, hS1, hS2, hB1, hB2, this] at h
              simp at h)
          have HBZ := Lib.hid hbz
          have HMZ := Lib.hid hmz
          clear hB1 hB2 hS1 hS2 hbb hbz hmz
          go_wp2_with fail
          refine wp_region_any (by kernel_rfl) ?_
          change wpAny _ _ _ _ _ _ _ (World.drew _)
          refine wpAny_take (i := 0) (oi := ⟨some 103, _, _, _, _, _⟩) (v := .pointer (some ⟨yc.g, 0, none⟩)) rfl (by kernel_rfl) (by kernel_rfl) (by kernel_rfl) (fun _ _ _ h => h) (Or.inl ⟨by kernel_rfl, by intro w; go_simp⟩) ?_
          simp only [Act.put, List.setIfInBounds_toArray, List.set_cons_zero, List.set_cons_succ]
          refine wpAny_take (i := 3) (oi := ⟨some 106, _, _, _, _, _⟩) (v := .int .i64 (n : Int)) rfl (by kernel_rfl) (by kernel_rfl) (by kernel_rfl) (fun _ _ _ h => h) (Or.inl ⟨by kernel_rfl, by intro w; go_simp⟩) ?_
          simp only [Act.put, List.setIfInBounds_toArray, List.set_cons_zero, List.set_cons_succ]
          refine wpAny_take (i := 4) (oi := ⟨some 107, _, _, _, _, _⟩) (v := .int .i64 (64 * (n : Int))) rfl (by kernel_rfl) (by kernel_rfl) (by kernel_rfl) (fun _ _ _ h => h) (Or.inl ⟨by kernel_rfl, by intro w; go_simp⟩) ?_
          simp only [Act.put, List.setIfInBounds_toArray, List.set_cons_zero, List.set_cons_succ]
          refine wpAny_take (i := 5) (oi := ⟨some 108, _, _, _, _, _⟩) (v := .slice Av N cv) rfl (by kernel_rfl) (by kernel_rfl) (by kernel_rfl) (fun _ _ _ h => h) (Or.inl ⟨by kernel_rfl, by intro w; go_simp⟩) ?_
          simp only [Act.put, List.setIfInBounds_toArray, List.set_cons_zero, List.set_cons_succ]
          refine wpAny_take (i := 6) (oi := ⟨some 109, _, _, _, _, _⟩) (v := .int .i64 (j : Int)) rfl (by kernel_rfl) (by kernel_rfl) (by kernel_rfl) (fun _ _ _ h => h) (Or.inl ⟨by kernel_rfl, by intro w; go_simp⟩) ?_
          simp only [Act.put, List.setIfInBounds_toArray, List.set_cons_zero, List.set_cons_succ]
          refine wpAny_ready (rs := [1]) (by kernel_rfl) (by simp) ?_
          refine AllReady.cons rfl (fun K hK => ?_) AllReady.nil
          go_simp
          refine (HIMG.out _ (drew_below wz)).mono ?_
          rintro e wa ⟨⟨va, rfl, hoa⟩, hba⟩
          obtain ⟨ga, ca, rfl, hsla⟩ := rbytes_out hoa hBl1 (by omega)
          have hcva := conv_sl (64 * n) ca hBl1 hsla
          have HCVA := Lib.hid fun W (hb : Below wa.heap.size wa W) => conv_sl (64 * n) ca hBl1 (hsla.below hb)
          rw [← HS1.out] at hcva HCVA
          have HBA := Lib.hid (show Below wz.heap.size wz wa from Below.and (drew_below wz) hba)
          clear hoa hsla hba
          refine hK _ _ ?_
          clear hK K
          refine wpAny_ready (rs := [2, 7]) (by kernel_rfl) (by simp) ?_
          refine AllReady.cons rfl (fun K hK => ?_) (AllReady.cons rfl (fun K hK => ?_) AllReady.nil)
          · skip
            go_simp
            refine hK _ _ ?_
            clear hK K
            refine wpAny_ready (rs := [7]) (by kernel_rfl) (by simp) ?_
            refine AllReady.cons rfl (fun K hK => ?_) AllReady.nil
            go_simp
            refine (HIM.out _ HBA.out).mono ?_
            rintro e wb ⟨⟨vb, rfl, hob⟩, hbb⟩
            obtain ⟨gb, cb, rfl, hslb⟩ := rbytes_out hob hBl2 (by omega)
            have hcvb := conv_sl (64 * n) cb hBl2 hslb
            rw [← HS2.out] at hcvb
            have hcvab := HCVA.out wb hbb
            have HBB := Lib.hid (Below.and HBA.out hbb)
            clear hob hslb hbb
            refine hK _ _ ?_
            clear hK K
            refine wpAny_ready (rs := [8]) (by kernel_rfl) (by simp) ?_
            refine AllReady.cons rfl (fun K hK => ?_) AllReady.nil
            go_simp
            refine hK _ _ ?_
            clear hK K
            refine wpAny_take (i := 9) (oi := ⟨some 112, _, _, _, _, _⟩) (v := .bool bb) rfl (by kernel_rfl) (by kernel_rfl) (by kernel_rfl) (fun _ _ _ h => h) (Or.inl ⟨by kernel_rfl, by intro w; go_simp⟩) ?_
            simp only [Act.put, List.setIfInBounds_toArray, List.set_cons_zero, List.set_cons_succ]
            refine wpAny_done (by kernel_rfl) ?_ _
            cases bb with
            | true =>
              go_wp2_with fail
              refine (k10_any _).mono ?_
              rintro e wk ⟨rfl, hbk⟩
              have HF := Lib.hid (show Below w.heap.size w wk from Below.and (Below.and (Below.and HWL.out.low HBZ.out) HBB.out) hbk)
              clear hbk
              go_wp2
              go_ret
              exact ⟨rfl, HF.out⟩
            | false =>
              have HJ := Lib.hid (HNE.out rfl)
              have HB2' := Lib.hid (Below.and HBZ.out HBB.out)
              have HM2' := Lib.hid (HMZ.out.below HBB.out)
              clear hstr
              go_wp2
              exact ⟨⟨j + 1, by go_num, HJ.out, HB2'.out, HM2'.out⟩, by simp only [intOf]; omega⟩
          · skip
            go_simp
            refine (HIM.out _ HBA.out).mono ?_
            rintro e wb ⟨⟨vb, rfl, hob⟩, hbb⟩
            obtain ⟨gb, cb, rfl, hslb⟩ := rbytes_out hob hBl2 (by omega)
            have hcvb := conv_sl (64 * n) cb hBl2 hslb
            rw [← HS2.out] at hcvb
            have hcvab := HCVA.out wb hbb
            have HBB := Lib.hid (Below.and HBA.out hbb)
            clear hob hslb hbb
            refine hK _ _ ?_
            clear hK K
            refine wpAny_ready (rs := [2, 8]) (by kernel_rfl) (by simp) ?_
            refine AllReady.cons rfl (fun K hK => ?_) (AllReady.cons rfl (fun K hK => ?_) AllReady.nil)
            · skip
              go_simp
              refine hK _ _ ?_
              clear hK K
              refine wpAny_ready (rs := [8]) (by kernel_rfl) (by simp) ?_
              refine AllReady.cons rfl (fun K hK => ?_) AllReady.nil
              go_simp
              refine hK _ _ ?_
              clear hK K
              refine wpAny_take (i := 9) (oi := ⟨some 112, _, _, _, _, _⟩) (v := .bool bb) rfl (by kernel_rfl) (by kernel_rfl) (by kernel_rfl) (fun _ _ _ h => h) (Or.inl ⟨by kernel_rfl, by intro w; go_simp⟩) ?_
              simp only [Act.put, List.setIfInBounds_toArray, List.set_cons_zero, List.set_cons_succ]
              refine wpAny_done (by kernel_rfl) ?_ _
              cases bb with
              | true =>
                go_wp2_with fail
                refine (k10_any _).mono ?_
                rintro e wk ⟨rfl, hbk⟩
                have HF := Lib.hid (show Below w.heap.size w wk from Below.and (Below.and (Below.and HWL.out.low HBZ.out) HBB.out) hbk)
                clear hbk
                go_wp2
                go_ret
                exact ⟨rfl, HF.out⟩
              | false =>
                have HJ := Lib.hid (HNE.out rfl)
                have HB2' := Lib.hid (Below.and HBZ.out HBB.out)
                have HM2' := Lib.hid (HMZ.out.below HBB.out)
                clear hstr
                go_wp2
                exact ⟨⟨j + 1, by go_num, HJ.out, HB2'.out, HM2'.out⟩, by simp only [intOf]; omega⟩
            · skip
              go_simp
              refine hK _ _ ?_
              clear hK K
              refine wpAny_ready (rs := [2]) (by kernel_rfl) (by simp) ?_
              refine AllReady.cons rfl (fun K hK => ?_) AllReady.nil
              go_simp
              refine hK _ _ ?_
              clear hK K
              refine wpAny_take (i := 9) (oi := ⟨some 112, _, _, _, _, _⟩) (v := .bool bb) rfl (by kernel_rfl) (by kernel_rfl) (by kernel_rfl) (fun _ _ _ h => h) (Or.inl ⟨by kernel_rfl, by intro w; go_simp⟩) ?_
              simp only [Act.put, List.setIfInBounds_toArray, List.set_cons_zero, List.set_cons_succ]
              refine wpAny_done (by kernel_rfl) ?_ _
              cases bb with
              | true =>
                go_wp2_with fail
                refine (k10_any _).mono ?_
                rintro e wk ⟨rfl, hbk⟩
                have HF := Lib.hid (show Below w.heap.size w wk from Below.and (Below.and (Below.and HWL.out.low HBZ.out) HBB.out) hbk)
                clear hbk
                go_wp2
                go_ret
                exact ⟨rfl, HF.out⟩
              | false =>
                have HJ := Lib.hid (HNE.out rfl)
                have HB2' := Lib.hid (Below.and HBZ.out HBB.out)
                have HM2' := Lib.hid (HMZ.out.below HBB.out)
                clear hstr
                go_wp2
                exact ⟨⟨j + 1, by go_num, HJ.out, HB2'.out, HM2'.out⟩, by simp only [intOf]; omega⟩
section
open Go.ChangeShapes Go.WideShapes
set_option maxRecDepth 100000 in
theorem open_early {H : Type} {enc : TypeId × Value → H} {W : World} {held : Bool} {spare : Nat → Bool} {fuel : Nat} {a : Option Addr} {len cap : Nat} {x : DataW H × List MemPlace} (h : DataW.trod enc Try.prog W 0 spare held fuel 48 (Value.slice a len cap).cells.toList = some x) :
    ∃ l : List (Int × Int), EarlyIn W a len cap l := by
  rcases Go.Deep.open_slice_pairs Try.underlying48 Try.underlying53 (by kernel_rfl) rfl rfl (by kernel_rfl) (by kernel_rfl) h with ⟨hcs, _⟩ | ⟨b, n, c, m, k, V0, V1, D0, D1, P0, P1, hcs, _, hl, hm, hmm, _, hall⟩
  · simp [Value.cells] at hcs
    obtain ⟨rfl, rfl, rfl⟩ := hcs
    exact ⟨[], rfl, Nat.zero_le _, Nat.zero_le _, fun i hi => by cases hi⟩
  · simp [Value.cells] at hcs
    obtain ⟨rfl, rfl, rfl⟩ := hcs
    have hnm : len ≤ m := by rw [hmm]; split <;> omega
    have hw : ∀ i, i < len → ∃ q : Int × Int, W.cell? (b.add (i * 2)) = some (.int .i64 q.1) ∧ W.cell? (b.add (i * 2 + 1)) = some (.int .i64 q.2) ∧ q.2 ≤ 9223372036854775807 := fun i hi => by
      obtain ⟨c0, c1, t0, t1⟩ := hall i (by omega)
      obtain ⟨n0, e0, _, f0⟩ := DataW.trod_int (by kernel_rfl) t0
      obtain ⟨n1, e1, _, f1⟩ := DataW.trod_int (by kernel_rfl) t1
      have b1 := i64_wf' f1
      simp only [List.cons.injEq, and_true] at e0 e1
      exact ⟨(n0, n1), by rw [c0, e0], by rw [c1, e1], b1.2⟩
    obtain ⟨q, hq⟩ := Go.Deep.choose_lt hw
    refine ⟨(List.range len).map q, by simp, hl, hm, fun i hi => ?_⟩
    have hi' : i < len := by simpa using hi
    have hg : ((List.range len).map q)[i] = q i := by simp
    obtain ⟨e0, e1, e2⟩ := hq i hi'
    exact ⟨b, rfl, by rw [hg]; exact e0, by rw [hg]; exact e1, by rw [hg]; exact e2⟩
set_option maxRecDepth 100000 in
set_option maxHeartbeats 1600000 in
theorem runLasts_nomem (w : World) {z st : Int} {A AE AK : Option Addr} {N cap lenE capE lenK capK : Nat} (h : z < 1 ∨ 16 < z) :
    Calls Try.prog 4 #[.int .i64 z, .slice A N cap, .int .i64 st, .slice AE lenE capE, .slice AK lenK capK] w fun e w' => e = .returned (.bool true) ∧ Below w.heap.size w w' := by
  have HM := Lib.hid (mem10_no h w)
  clear h
  go_enter Try.func4, Try.ntmps4
  go_wp2_with fail
  refine HM.out.mono ?_
  rintro e w1 ⟨rfl, rfl⟩
  go_wp2_with fail
  refine (k10_any _).mono ?_
  rintro e w2 ⟨rfl, hb2⟩
  have HF := Lib.hid hb2
  clear hb2
  go_wp2
  go_ret
  exact ⟨rfl, HF.out⟩
set_option maxRecDepth 100000 in
set_option maxHeartbeats 1600000 in
theorem runLasts_out (w : World) {n : Nat} {st : Int} {A AE AK : Option Addr} {N cap lenE capE lenK capK : Nat} (h0 : 0 < n) (h1 : n ≤ 16) {b1 b2 : Bool} (e1 : decide (60 < (N : Int)) = b1) (e2 : decide (20 < (lenK : Int)) = b2) (hb : b1 = true ∨ (b1 = false ∧ b2 = true)) :
    Calls Try.prog 4 #[.int .i64 (n : Int), .slice A N cap, .int .i64 st, .slice AE lenE capE, .slice AK lenK capK] w fun e w' => e = .returned (.bool true) ∧ Below w.heap.size w w' := by
  have HM := Lib.hid (mem10_yes h0 h1 w)
  rcases hb with rfl | ⟨rfl, rfl⟩
  all_goals
    go_enter Try.func4, Try.ntmps4
    go_wp2_with fail
    refine HM.out.mono ?_
    rintro e w1 ⟨y, rfl, _, _, hb1⟩
    have HB1 := Lib.hid hb1
    clear hb1
    go_wp2_with fail
    refine (k10_any _).mono ?_
    rintro e w2 ⟨rfl, hb2⟩
    have HF := Lib.hid (Below.and HB1.out hb2)
    clear hb2
    go_wp2
    go_ret
    exact ⟨rfl, HF.out⟩
theorem runLasts_any (z : Int) (A : Option Addr) (len cap : Nat) (l : List (Int × Int)) (st : Int) (AE : Option Addr) (lenE capE : Nat) (E : List (Int × Int)) (AK : Option Addr) (lenK capK : Nat) (zs : List Int) (w : World)
    (hz : (Lit.int .i64 z).wf = true) (hl : PutsIn w A len cap l) (hs : (Lit.int .i64 st).wf = true) (hE : EarlyIn w AE lenE capE E) (hK : InRow .i64 w AK lenK capK zs) :
    Calls Try.prog 4 #[.int .i64 z, .slice A len cap, .int .i64 st, .slice AE lenE capE, .slice AK lenK capK] w fun e w' => e = .returned (.bool true) ∧ Below w.heap.size w w' := by
  by_cases h : z < 1 ∨ 16 < z
  · exact runLasts_nomem w h
  · obtain ⟨n, rfl⟩ : ∃ n : Nat, z = (n : Int) := ⟨z.toNat, by omega⟩
    by_cases b1 : 60 < len
    · exact runLasts_out w (by omega) (by omega) rfl rfl (.inl (by rw [decide_eq_true_eq]; omega))
    · by_cases b2 : 20 < lenK
      · exact runLasts_out w (by omega) (by omega) rfl rfl (.inr ⟨by rw [decide_eq_false_iff_not]; omega, by rw [decide_eq_true_eq]; omega⟩)
      · have hR := puts_reads hl
        have hlen : (natPuts l).length ≤ 60 := by rw [natPuts_length, hl.1]; omega
        obtain ⟨keep, hkl, hks, hkw, hka⟩ : ∃ keep : List Int, keep.length = lenK ∧ Sl w AK (keep.map iv) ∧ (∀ z ∈ keep, (Lit.int .i64 z).wf = true) ∧ ∀ a, AK = some a → keep ≠ [] → a.block < w.heap.size := by
          rcases hK with ⟨rfl, rfl, rfl, rfl⟩ | ⟨x, rfl, h1, h2, h3, h4, h5⟩
          · exact ⟨[], rfl, (fun i u hu => by simp at hu), (fun z hz => by cases hz), fun a ha => by cases ha⟩
          · have hcell : ∀ i, i < (zs.take lenK).length → w.cell? (x.add i) = some (iv ((zs.take lenK).getD i 0)) := fun i hi => by
              rw [List.length_take] at hi
              have := h4 i (by omega)
              rw [this]
              unfold iv
              congr 2
              rw [List.getD_eq_getElem?_getD, List.getD_eq_getElem?_getD, List.getElem?_take_of_lt (by omega)]
            refine ⟨zs.take lenK, by rw [List.length_take]; omega, fun i u hu => ?_, fun z hz => h5 z (List.mem_of_mem_take hz), fun a ha hne => ?_⟩
            · rw [List.getElem?_map] at hu
              cases e : (zs.take lenK)[i]? with
              | none => rw [e] at hu; cases hu
              | some q =>
                rw [e] at hu
                cases hu
                have hi := (List.getElem?_eq_some_iff.1 e).1
                refine ⟨x, rfl, ?_⟩
                rw [hcell i hi, List.getD_eq_getElem?_getD, e]
                rfl
            · cases ha
              have := hcell 0 (List.length_pos_iff.2 hne)
              have hb := block_lt_of_cell this
              rw [add_block] at hb
              exact hb
        subst hkl
        exact runLasts_yes hR (by omega) (by omega) hlen (natPuts_fit hl) hE (by have := hE.2.2.1; unfold maxLen at this; have := hE.2.1; omega) hks (by omega) hkw hka
end
end Go.Proofs.Ytgapncamnmngeaa
