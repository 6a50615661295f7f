/- Texts of this claim, packed: VLT, VBk, VLB, VLR. -/
import Derived.Test.YtnjecjcnkmgjmaaDoorPk30
import Derived.Test.YtnjecjcnkmgjmaaDoorPk26
/- ValueTorn is walked: whatever front of a value's stores came through, it is read as the value that the image has, or refused; where geo.rooms holds what its initialiser lays. -/
namespace Go.Proofs.YtnjecjcnkmgjmaaDoor
open Go.RowKit Go.Sort Go.Shelf
set_option linter.unusedVariables false
theorem info312 : (Tryd.prog.info? 3).map (fun i => (i.zero, i.size, i.bytes)) = some (some (.int .i64 0), 1, 8) := by kernel_rfl
theorem iv_ones (l : List Int) : ∀ u ∈ l.map iv, u.oneCell' = true := by
  intro u hu
  simp only [List.mem_map] at hu
  obtain ⟨n, _, rfl⟩ := hu
  rfl
/-- A slice of integers that came in, as a list. -/
theorem inRow_ints {w : World} {a : Option Addr} {len cap : Nat} {zs : List Int} (h : InRow .i64 w a len cap zs) :
    ∃ l : List Int, l.length = len ∧ (∀ z ∈ l, (Lit.int .i64 z).wf = true) ∧ Sl w a (l.map iv) ∧ len ≤ cap ∧ cap ≤ maxLen ∧ (a = none → len = 0 ∧ cap = 0) := by
  rcases h with ⟨rfl, rfl, rfl, rfl⟩ | ⟨x, rfl, hl, hm, hz, hc, hw⟩
  · exact ⟨[], rfl, (by simp), (by intro i u hu; simp at hu), Nat.le_refl _, Nat.zero_le _, fun _ => ⟨rfl, rfl⟩⟩
  · refine ⟨zs.take len, by simp; omega, fun z hz => hw z (List.mem_of_mem_take hz), ?_, hl, hm, fun e => by cases e⟩
    intro i u hu
    rw [List.getElem?_map, List.getElem?_take] at hu
    split at hu
    · have hi : i < zs.length := by omega
      rw [List.getElem?_eq_getElem hi] at hu
      simp only [Option.map_some, Option.some.injEq] at hu
      subst hu
      refine ⟨x, rfl, ?_⟩
      rw [hc i hi, List.getD_eq_getElem?_getD, List.getElem?_eq_getElem hi, Option.getD_some]
      rfl
    · simp at hu
theorem cls_12 {n : Nat} (h : n ≤ 120) : clsN (n : Int) = 1 ∨ clsN (n : Int) = 2 := by
  unfold clsN
  by_cases h1 : (0 : Int) ≤ n ∧ (n : Int) ≤ 56
  · rw [if_pos h1]; exact .inl rfl
  · rw [if_neg h1, if_pos (by omega)]; exact .inr rfl
theorem blk_12 {c : Int} (h : c = 1 ∨ c = 2) : blkA 1 c 0 = 1088 := by
  rcases h with rfl | rfl <;> decide
theorem putsK_12 {b : Nat} {s : ByteArray} (h : s.size ≤ 120) {sl j : Int} (h1 : 1 ≤ sl ∧ sl ≤ 64 ∧ 0 ≤ j ∧ j < blC (clsN s.size)) (e : blkA sl (clsN s.size) j = b) : putsK b s = 0 := by
  unfold putsK
  rw [if_neg (Decidable.not_not.2 h), want_found h1 e, if_neg (by omega)]
theorem lasted_cut (l : List Nat) (h : Wrds l) : cutTo (bytesL l) l.length = l := by
  have := cut_spr l h
  unfold cutN at this
  rw [bytesL_spr]
  rwa [spr_length, show (8 * l.length + 7) / 8 = l.length from by omega] at this
theorem packN_wrds (s : ByteArray) (h : s.size < 18446744073709551616) : Wrds (packN s) := by
  intro z hz
  unfold packN at hz
  rcases List.mem_cons.1 hz with rfl | hz
  · exact h
  · exact cutN_wrds _ (strN_byts s) z hz
theorem packN_fit (s : ByteArray) (h : s.size < 18446744073709551616) (k : Nat) : (packN s).getD k 0 < 18446744073709551616 := by
  by_cases hk : k < (packN s).length
  · rw [getD_at hk]; exact packN_wrds s h _ (List.getElem_mem _)
  · rw [List.getD_eq_getElem?_getD, List.getElem?_eq_none (by omega)]; decide
set_option maxRecDepth 100000 in
set_option maxHeartbeats 1600000 in
theorem valueTorn_long (s : ByteArray) (A : Option Addr) (n cap : Nat) (w : World) (R : Rms w) (hs : s.size ≤ maxLen) (hn : n ≤ cap) (hc : cap ≤ maxLen) (h : 120 < s.size ∨ 20 < n) :
    Calls Tryd.prog 6 #[.string s, .slice A n cap] w fun e w' => e = .returned (.bool true) ∧ Below w.heap.size w w' := by
  have HK := Lib.hid (known12_any w R)
  unfold maxLen at hs hc
  clear R
  by_cases h1 : 120 < s.size
  · have d : decide ((120 : Int) < (s.size : Int)) = true := by simp; omega
    have d2 : decide (120 < s.size) = true := by simp; omega
    clear h
    go_enter Tryd.func6, Tryd.ntmps6
    go_wp2_with fail
    refine HK.out.mono ?_
    rintro e w1 ⟨rfl, hb⟩
    have HB := Lib.hid hb
    clear hb
    go_wp2
    go_ret
    exact ⟨rfl, HB.out⟩
  · have d : decide ((120 : Int) < (s.size : Int)) = false := by simp; omega
    have d2 : decide (120 < s.size) = false := by simp; omega
    have e : decide ((20 : Int) < (n : Int)) = true := by simp; omega
    have e2 : decide (20 < n) = true := by simp; omega
    clear h h1
    go_enter Tryd.func6, Tryd.ntmps6
    go_wp2_with fail
    refine HK.out.mono ?_
    rintro e w1 ⟨rfl, hb⟩
    have HB := Lib.hid hb
    clear hb
    go_wp2
    go_ret
    exact ⟨rfl, HB.out⟩
/-- A crash of such a memory. -/
theorem torn_crash {w wr w5 : World} {g0 g2 b k n : Nat} {L : List (Nat × Nat)} {ws : List Nat} {y : Lay} {s : St} (h : TvI w wr g0 g2 L b ws k y s) (hb : Below wr.heap.size wr w5) {V : Value} {keep : List Int} (hn : keep.length = n) (h20 : n ≤ 20)
    (hown : w5.ownsRow wr.heap.size 3 1 V n (keep.map iv)) (hw : ∀ z ∈ keep, (Lit.int .i64 z).wf = true) :
    Calls Tryd.prog 29 #[.pointer (some ⟨g0, 0, none⟩), V] w5 fun e w' => e = .returned (.tuple #[]) ∧ ∃ y' s', MemAt w' y' s' ∧ s'.Ok ∧ s'.view = s'.lasted ∧ s'.view.length = 384 ∧ s'.did ≤ k ∧ s'.nl = 48 ∧ y'.g = g0 ∧ Below w.heap.size w w' ∧ ∀ q, y'.fp q → w.heap.size ≤ q := by
  obtain ⟨A, cap, rfl, _, _, hsl, _⟩ := own_sl hown
  have h5 := h.below hb
  have hpl := h5.mem.plen
  have hvl := h5.vlen
  have hll := ownsRow_len h5.mem.las
  have hnl := h5.nl
  have hc := crash_okE h5.mem h5.ok keep A cap hsl (fun a hA hne => by
    subst hA
    have := (hown.lt a.block rfl).1
    intro hq
    have := h.mem.lt _ hq
    omega) (by omega) hw
  rw [h.g, hn] at hc
  refine hc.mono ?_
  rintro e w' ⟨rfl, y', hm', ht⟩
  obtain ⟨v1, v2, v3, v4⟩ := crash_view h5.ok h5.j hpl (by rw [hvl, hnl]) hll keep
  refine ⟨rfl, y', s.crash keep, hm', crash_Ok h5.ok keep, v1, by rw [v2, hnl], ?_, v4.trans hnl, ht.g.trans h.g, Below.trans h5.low (ht.but.below h5.low.size fun q hq => (h.fp q hq).2), fun q hq => ?_⟩
  · rw [v3]
    unfold St.did
    have := h.st
    have := h.oth
    omega
  · rcases ht.fp q hq with h1 | h1
    · exact (h.fp q h1).2
    · have := h5.low.size; omega
set_option maxRecDepth 100000 in
set_option maxHeartbeats 3200000 in
theorem valueTorn_ok (s : ByteArray) (keep : List Int) (A : Option Addr) (n cap : Nat) (w : World) (R : Rms w) (hs : s.size ≤ 120) (hn : keep.length = n) (h20 : n ≤ 20) (hnc : n ≤ cap) (hcm : cap ≤ maxLen) (hsl : Sl w A (keep.map iv)) (hw : ∀ z ∈ keep, (Lit.int .i64 z).wf = true) (hA : A = none → n = 0 ∧ cap = 0) :
    Calls Tryd.prog 6 #[.string s, .slice A n cap] w fun e w' => e = .returned (.bool true) ∧ Below w.heap.size w w' := by
  have mixed : Tryd.prog.follows .mixedOrders = true := by kernel_rfl
  have hsm : s.size ≤ maxLen := by unfold maxLen; omega
  have hc12 := cls_12 hs
  have hbl : 0 < blC (clsN s.size) := by rcases hc12 with h | h <;> rw [h] <;> decide
  have hpk : putsK 1088 s = 0 := putsK_12 hs (sl := 1) (j := 0) ⟨by omega, by omega, by omega, hbl⟩ (by rw [blk_12 hc12]; rfl)
  obtain ⟨i0, hi, hz0, hz1, hz2⟩ := info_parts info312
  have H1 := Lib.hid (new_yes 48 w (by omega) (by omega))
  have H2 := Lib.hid fun (W : World) => refClass_any (s.size : Int) W
  have H3 := Lib.hid fun (W : World) => refBlock_any 1 (clsN s.size) 0 W
  rw [blk_12 hc12] at H3
  have H4 := Lib.hid fun (W : World) (R : Rms W) => vPuts_any 1088 s W R hsm (by omega)
  rw [hpk] at H4
  have HK := Lib.hid fun (W : World) (R : Rms W) => known12_any W R
  have HFIT := Lib.hid fun k => packN_fit s (by omega) k
  have hpl : (putsV 1088 s).length = 1 + (s.size + 7) / 8 := putsTo_length _ _ _
  have HGET := Lib.hid fun (i : Nat) (hi : i < 1 + (s.size + 7) / 8) => putsTo_get (b := 1088) (ws := packN s) hi
  obtain ⟨c, hc⟩ : ∃ c, c = clsN (s.size : Int) := ⟨_, rfl⟩
  rw [← hc] at H2 H3
  obtain ⟨m, hm⟩ : ∃ m, m = 1 + (s.size + 7) / 8 := ⟨_, rfl⟩
  rw [← hm] at hpl HGET
  obtain ⟨L, hL⟩ : ∃ L, L = putsV 1088 s := ⟨_, rfl⟩
  rw [← hL] at hpl
  have hm0 : 0 < m := by omega
  have hm16 : m ≤ 16 := by omega
  have HM := Lib.hid hm
  have HL := Lib.hid hL
  have HPL := Lib.hid hpl
  have HR := Lib.hid R
  have HSL := Lib.hid hsl
  have HW := Lib.hid hw
  have HA := Lib.hid hA
  have HN := Lib.hid hn
  have d : decide ((120 : Int) < (s.size : Int)) = false := by simp; omega
  have d2 : decide (120 < s.size) = false := by simp; omega
  have e0 : decide ((20 : Int) < (n : Int)) = false := by simp; omega
  have e2 : decide (20 < n) = false := by simp; omega
  clear hc hc12 hbl hpk hm hL hpl R hsl hw hA hn
  go_enter Tryd.func6, Tryd.ntmps6
  go_wp2_with fail
  refine H1.out.mono ?_
  rintro e w1 ⟨y, rfl, hm1, hfp, hb1⟩
  have HM1 := Lib.hid hm1
  have HFP := Lib.hid hfp
  have HB1 := Lib.hid hb1
  have R1 := Lib.hid (HR.out.below hb1)
  clear hm1 hfp hb1 H1
  go_wp2_with fail
  refine (H2.out _).mono ?_
  rintro e w2 ⟨rfl, rfl⟩
  go_wp2_with fail
  refine (H3.out _).mono ?_
  rintro e w3 ⟨rfl, rfl⟩
  go_wp2_with fail
  refine (H4.out _ R1.out).mono ?_
  rintro e w4 ⟨V, rfl, _, ho, hb4⟩
  have ho := ho rfl
  rw [← HM.out, ← HL.out] at ho
  obtain ⟨g2, cap2, rfl, hc2, hcm2, hcl2⟩ := put_cells ho HPL.out hm0
  have hg2 : w1.heap.size ≤ g2 := (ho.lt g2 rfl).1
  have HT0 := Lib.hid (show TvI w w4 y.g g2 L 1088 (packN s) 0 y (St.zero 48) from
    ⟨HM1.out.below hb4, zero_Ok 48, zero_J 48, rfl, Nat.le_refl _, ⟨rfl, rfl, rfl⟩, fun l hl => by
        have : l ∈ List.replicate 48 ([] : List (Nat × Nat)) := hl
        rw [List.eq_of_mem_replicate this]; exact Nat.le_refl _, fun i hi => by omega, rfl, Below.and HB1.out hb4, fun q hq => ⟨by have := HM1.out.lt q hq; omega, HFP.out q hq⟩, fun i hi => hcl2 i (by rw [HPL.out] at hi; exact hi)⟩)
  have R4 := Lib.hid (R1.out.below hb4)
  obtain ⟨g0, hg0⟩ : ∃ g0, g0 = y.g := ⟨_, rfl⟩
  rw [← hg0] at HT0 ⊢
  clear hb4 ho hcl2 hg2 H4 hg0
  go_wp2
  go_loopw [9] (fun i wr => ∃ k : Nat, k ≤ m ∧ i = .int .i64 (k : Int) ∧ ∃ y s', TvI w wr g0 g2 L 1088 (packN s) k y s') (fun i _ => m - (intOf i).toNat)
  case atStart => exact ⟨0, by omega, rfl, _, _, HT0.out⟩
  case round =>
    rename World => wr
    obtain ⟨k, hk, rfl, y1, s1, htv⟩ := hrel
    by_cases hlt : k < m
    · obtain ⟨a1, a2⟩ := htv.cells k (by rw [HPL.out]; exact hlt)
      have hge : L.getD k (0, 0) = (1088 + 8 * k, (packN s).getD k 0) := by
        rw [HL.out]
        unfold putsV
        rw [← HM.out, List.getD_eq_getElem?_getD, HGET.out k hlt]; rfl
      rw [hge] at a1 a2
      dsimp only at a1 a2
      have HST := Lib.hid fun (q : LowBy wr) => (htv.below q.low).store (by decide) (by omega) (by omega) (HFIT.out k) (by rw [HPL.out]; exact hm0)
      obtain ⟨x, hx⟩ : ∃ x, x = (packN s).getD k 0 := ⟨_, rfl⟩
      obtain ⟨ad, had⟩ : ∃ ad, ad = 1088 + 8 * k := ⟨_, rfl⟩
      rw [← hx] at HST a2
      rw [← had] at HST a1
      have ca := fun p : LowBy wr => p.cell a1
      have cb := fun p : LowBy wr => p.cell a2
      clear htv hge hx had a1 a2
      go_wp2_with fail
      refine wp_region_low_tail 11 (by assumption) (by kernel_rfl) ?_
      simp only [List.take_succ_cons, List.take_zero, List.drop_succ_cons, List.drop_zero]
      repeat (go_big_quiet_step (fail))
      refine wpQuiet_nil ?_
      intro _ hw'
      obtain ⟨q, hw''⟩ := hw'
      subst hw''
      have HST2 := Lib.hid (HST.out q)
      clear ca cb HST
      go_wp2_with fail
      refine HST2.out.mono ?_
      rintro e w5 ⟨rfl, y5, s5, htv5⟩
      have HTV5 := Lib.hid htv5
      clear htv5 HST2
      go_wp2
      go_roundw
      case rel => exact ⟨k + 1, by omega, by go_num, y5, s5, HTV5.out⟩
      case measure => simp [intOf]; omega
    · obtain rfl : k = m := by omega
      have HTV := Lib.hid htv
      clear htv hlt
      cases A with
      | none =>
        obtain ⟨rfl, rfl⟩ := HA.out rfl
        have hk0 : keep = [] := List.eq_nil_of_length_eq_zero HN.out
        subst hk0
        have HCR := Lib.hid (torn_crash (n := 0) (V := .slice none 0 0) (keep := []) HTV.out (Below.refl _ _) rfl (by omega) (World.ownsRow_nil _ _ _ _) (fun z hz => by cases hz))
        clear HTV HA HN HW HSL
        go_wp2_with fail
        refine HCR.out.mono ?_
        rintro e w7 ⟨rfl, y7, s7, hm7, ok7, hvl7, hlen7, hdid7, hnl7, hg7, hb7, hfp7⟩
        have HNW := Lib.hid (vNew_any (w := w7) (some ⟨g0, 0, none⟩) 1088)
        have HM7 := Lib.hid hm7
        have HOK7 := Lib.hid ok7
        have HV7 := Lib.hid hvl7
        have HLN7 := Lib.hid hlen7
        have HD7 := Lib.hid hdid7
        have HNL7 := Lib.hid hnl7
        have HG7 := Lib.hid hg7
        have HB7 := Lib.hid hb7
        have HFP7 := Lib.hid hfp7
        clear hm7 ok7 hvl7 hlen7 hdid7 hnl7 hg7 hb7 hfp7 HCR
        go_wp2_with fail
        refine HNW.out.mono ?_
        rintro e w8 ⟨rfl, hr8, hb8⟩
        have sep8 : Sep y7 w7.heap.size := fun q hq => HM7.out.lt q hq
        have hr8' : RdAt w8 w7.heap.size w7.heap.size 1088 (some ⟨y7.g, 0, none⟩) 37 [] ⟨#[]⟩ false 0 (.slice none 0 0) := by rw [HG7.out]; exact hr8
        have hwh := whole12_any (HM7.out.below hb8) HOK7.out hr8' sep8 (by rw [HLN7.out, HNL7.out]) (by decide) (by have := HD7.out; omega)
        rw [HG7.out] at hwh
        have HWH := Lib.hid hwh
        have HB8 := Lib.hid hb8
        have HRB := Lib.hid hr8.gB
        clear hr8 hr8' sep8 hwh hb8 HNW
        go_wp2_with fail
        refine HWH.out.mono ?_
        rintro e w9 ⟨i, rfl, hi1, hi16, _, f9, V9, l9, ws9, hr9, hm9, hl9, hb9⟩
        have hlow9 : Below w.heap.size w w9 := Below.trans (Below.and HB7.out HB8.out) (hb9.below (by have := HB7.out.size; have := HB8.out.size; omega) (fun q hq => by
          rcases hq with hq | hq
          · exact HFP7.out q hq
          · have := HB7.out.size; omega))
        have HVD := Lib.hid (vValue_done hr9)
        have hmg : ∀ (W : World) (hb : Below w9.heap.size w9 W), Calls Tryd.prog 20 #[.pointer (some ⟨g0, 0, none⟩)] W (BytesPost W (bytesL s7.lasted)) := fun W hb => by
          have := image_yes (hm9.below hb) HOK7.out.las
          rw [HG7.out] at this
          exact this
        have HIM := Lib.hid hmg
        have HL9 := Lib.hid hlow9
        have d1 : decide ((1 : Int) ≤ (i : Int)) = true := by simp; omega
        have d3 : decide ((i : Int) ≤ 17) = true := by simp; omega
        have d4 : decide (1 ≤ i) = true := by simp; omega
        have d5 : decide (i ≤ 17) = true := by simp; omega
        obtain ⟨S, hS⟩ : ∃ S, S = stS s7.view 1088 := ⟨_, rfl⟩
        obtain ⟨K, hK⟩ : ∃ K, K = stK s7.view 1088 := ⟨_, rfl⟩
        rw [← hS, ← hK] at HVD
        have HS9 := Lib.hid hS
        have HK9 := Lib.hid hK
        clear hr9 hm9 hb9 hmg hlow9 HWH hS hK
        go_wp2_with fail
        refine HVD.out.mono ?_
        rintro e w10 ⟨rfl, hb10⟩
        have HB10 := Lib.hid hb10
        have HI10 := Lib.hid (HIM.out _ hb10)
        clear hb10 HVD HIM
        go_wp2_with fail
        refine HI10.out.mono ?_
        rintro e w11 ⟨⟨VI, rfl, hown⟩, hb11⟩
        have hbl : (bytesL s7.lasted).length = 3072 := by rw [bytesL_spr, spr_length, ← HV7.out, HLN7.out]
        obtain ⟨AI, capI, rfl, _, _, hslI, _⟩ := own_sl hown
        have hst := stands_any (bytesL s7.lasted) AI 3072 capI 384 1088 w11 hbl (by omega) (by omega) (by omega) (by rw [bytesL_spr]; exact spr_byts _) hslI
        have hcut : cutTo (bytesL s7.lasted) 384 = s7.view := by
          have := lasted_cut s7.lasted HOK7.out.las
          rw [← HV7.out, HLN7.out] at this
          rw [← HV7.out]
          exact this
        rw [hcut, ← HS9.out, ← HK9.out] at hst
        have HSTD := Lib.hid hst
        have HBL := Lib.hid hbl
        have HB11 := Lib.hid hb11
        rw [hbl]
        clear hown hst hcut hslI hb11 hbl HI10
        go_wp2_with fail
        refine HSTD.out.mono ?_
        rintro e w12 ⟨rfl, hb12⟩
        have HB12 := Lib.hid (Below.and HB10.out (Below.and HB11.out hb12))
        have HKN := Lib.hid (HK.out w12 (HR.out.below (Below.and HL9.out HB12.out)))
        clear hb12 HSTD
        go_wp2_with fail
        refine HKN.out.mono ?_
        rintro e w13 ⟨rfl, hb13⟩
        have HB13 := Lib.hid hb13
        clear hb13
        go_wp2
        go_ret
        exact ⟨rfl, Below.and HL9.out (Below.and HB12.out HB13.out)⟩
      | some a =>
        have hsl1 : Sl wr (some a) (keep.map iv) := HSL.out.below HTV.out.low
        have hcells := sl_cells hsl1
        have hkl : (keep.map iv).length = n * 1 := by rw [List.length_map, HN.out]; omega
        have h63 : 0 + n ≤ maxLen := by unfold maxLen; omega
        have hby : (0 + n) * 8 ≤ 140737488355328 := by omega
        have HCRA := Lib.hid fun (w5 : World) (V : Value) (hb : Below wr.heap.size wr w5) (ho : w5.ownsRow wr.heap.size 3 1 V n (keep.map iv)) => torn_crash HTV.out hb HN.out h20 ho HW.out
        clear HTV HA HSL hsl1
        go_wp2_with (at_builtin; refine wpList_append_own _ rfl (.const (.slice none 0 0)) (.tmp 67) 57 rfl wr.heap.size 3 i0 (.int .i64 0) 1 8 Tryd.underlying57 hi hz0 hz1 hz2 rfl (by decide) _ 0 [] rfl (World.ownsRow_nil _ _ _ _) a n cap (keep.map iv) rfl hkl hcells (iv_ones keep) h63 hby (Nat.le_refl _) ?_; intro v6 w6 hown6 hgrow6 hnil6; simp only [Nat.zero_add, List.nil_append] at hown6; have hb6 : Below wr.heap.size wr w6 := (Below.refl _ _).grown hgrow6 (Nat.le_refl _) (by intro q hq; cases hq); have HCR := Lib.hid (HCRA.out w6 v6 hb6 hown6); clear hown6 hgrow6 hnil6 HCRA hcells)
        refine HCR.out.mono ?_
        rintro e w7 ⟨rfl, y7, s7, hm7, ok7, hvl7, hlen7, hdid7, hnl7, hg7, hb7, hfp7⟩
        have HNW := Lib.hid (vNew_any (w := w7) (some ⟨g0, 0, none⟩) 1088)
        have HM7 := Lib.hid hm7
        have HOK7 := Lib.hid ok7
        have HV7 := Lib.hid hvl7
        have HLN7 := Lib.hid hlen7
        have HD7 := Lib.hid hdid7
        have HNL7 := Lib.hid hnl7
        have HG7 := Lib.hid hg7
        have HB7 := Lib.hid hb7
        have HFP7 := Lib.hid hfp7
        clear hm7 ok7 hvl7 hlen7 hdid7 hnl7 hg7 hb7 hfp7 HCR
        go_wp2_with fail
        refine HNW.out.mono ?_
        rintro e w8 ⟨rfl, hr8, hb8⟩
        have sep8 : Sep y7 w7.heap.size := fun q hq => HM7.out.lt q hq
        have hr8' : RdAt w8 w7.heap.size w7.heap.size 1088 (some ⟨y7.g, 0, none⟩) 37 [] ⟨#[]⟩ false 0 (.slice none 0 0) := by rw [HG7.out]; exact hr8
        have hwh := whole12_any (HM7.out.below hb8) HOK7.out hr8' sep8 (by rw [HLN7.out, HNL7.out]) (by decide) (by have := HD7.out; omega)
        rw [HG7.out] at hwh
        have HWH := Lib.hid hwh
        have HB8 := Lib.hid hb8
        have HRB := Lib.hid hr8.gB
        clear hr8 hr8' sep8 hwh hb8 HNW
        go_wp2_with fail
        refine HWH.out.mono ?_
        rintro e w9 ⟨i, rfl, hi1, hi16, _, f9, V9, l9, ws9, hr9, hm9, hl9, hb9⟩
        have hlow9 : Below w.heap.size w w9 := Below.trans (Below.and HB7.out HB8.out) (hb9.below (by have := HB7.out.size; have := HB8.out.size; omega) (fun q hq => by
          rcases hq with hq | hq
          · exact HFP7.out q hq
          · have := HB7.out.size; omega))
        have HVD := Lib.hid (vValue_done hr9)
        have hmg : ∀ (W : World) (hb : Below w9.heap.size w9 W), Calls Tryd.prog 20 #[.pointer (some ⟨g0, 0, none⟩)] W (BytesPost W (bytesL s7.lasted)) := fun W hb => by
          have := image_yes (hm9.below hb) HOK7.out.las
          rw [HG7.out] at this
          exact this
        have HIM := Lib.hid hmg
        have HL9 := Lib.hid hlow9
        have d1 : decide ((1 : Int) ≤ (i : Int)) = true := by simp; omega
        have d3 : decide ((i : Int) ≤ 17) = true := by simp; omega
        have d4 : decide (1 ≤ i) = true := by simp; omega
        have d5 : decide (i ≤ 17) = true := by simp; omega
        obtain ⟨S, hS⟩ : ∃ S, S = stS s7.view 1088 := ⟨_, rfl⟩
        obtain ⟨K, hK⟩ : ∃ K, K = stK s7.view 1088 := ⟨_, rfl⟩
        rw [← hS, ← hK] at HVD
        have HS9 := Lib.hid hS
        have HK9 := Lib.hid hK
        clear hr9 hm9 hb9 hmg hlow9 HWH hS hK
        go_wp2_with fail
        refine HVD.out.mono ?_
        rintro e w10 ⟨rfl, hb10⟩
        have HB10 := Lib.hid hb10
        have HI10 := Lib.hid (HIM.out _ hb10)
        clear hb10 HVD HIM
        go_wp2_with fail
        refine HI10.out.mono ?_
        rintro e w11 ⟨⟨VI, rfl, hown⟩, hb11⟩
        have hbl : (bytesL s7.lasted).length = 3072 := by rw [bytesL_spr, spr_length, ← HV7.out, HLN7.out]
        obtain ⟨AI, capI, rfl, _, _, hslI, _⟩ := own_sl hown
        have hst := stands_any (bytesL s7.lasted) AI 3072 capI 384 1088 w11 hbl (by omega) (by omega) (by omega) (by rw [bytesL_spr]; exact spr_byts _) hslI
        have hcut : cutTo (bytesL s7.lasted) 384 = s7.view := by
          have := lasted_cut s7.lasted HOK7.out.las
          rw [← HV7.out, HLN7.out] at this
          rw [← HV7.out]
          exact this
        rw [hcut, ← HS9.out, ← HK9.out] at hst
        have HSTD := Lib.hid hst
        have HBL := Lib.hid hbl
        have HB11 := Lib.hid hb11
        rw [hbl]
        clear hown hst hcut hslI hb11 hbl HI10
        go_wp2_with fail
        refine HSTD.out.mono ?_
        rintro e w12 ⟨rfl, hb12⟩
        have HB12 := Lib.hid (Below.and HB10.out (Below.and HB11.out hb12))
        have HKN := Lib.hid (HK.out w12 (HR.out.below (Below.and HL9.out HB12.out)))
        clear hb12 HSTD
        go_wp2_with fail
        refine HKN.out.mono ?_
        rintro e w13 ⟨rfl, hb13⟩
        have HB13 := Lib.hid hb13
        clear hb13
        go_wp2
        go_ret
        exact ⟨rfl, Below.and HL9.out (Below.and HB12.out HB13.out)⟩
theorem valueTorn_all (s : ByteArray) (A : Option Addr) (n cap : Nat) (zs : List Int) (w : World) (hs : s.size ≤ maxLen) (h : InRow .i64 w A n cap zs) (R : Rms w) :
    Calls Tryd.prog 6 #[.string s, .slice A n cap] w fun e w' => e = .returned (.bool true) ∧ Below w.heap.size w w' := by
  obtain ⟨l, h1, h2, h3, h4, h5, h6⟩ := inRow_ints h
  by_cases hc : 120 < s.size ∨ 20 < n
  · exact valueTorn_long s A n cap w R hs h4 h5 hc
  · exact valueTorn_ok s l A n cap w R (by omega) h1 (by omega) h4 h5 h3 h2 h6
end Go.Proofs.YtnjecjcnkmgjmaaDoor
/- A value whose words stand in a memory from b on is read, and parsed, as itself; plain facts, without conditions but on numbers. -/
namespace Go.Proofs.YtnjecjcnkmgjmaaDoor
open Go.RowKit Go.Sort Go.Shelf
set_option linter.unusedVariables false
theorem drop_take_eq {vl ws : List Nat} {q m : Nat} (hm : ws.length = m) (hq : q + m ≤ vl.length) (h : ∀ i, i < m → vl.getD (q + i) 0 = ws.getD i 0) : (vl.drop q).take m = ws := by
  apply List.ext_getElem
  · rw [List.length_take, List.length_drop]; omega
  · intro i h1 h2
    have h3 := h i (by omega)
    rw [getD_at (by omega), getD_at h2] at h3
    rw [List.getElem_take, List.getElem_drop]
    exact h3
theorem pack_tail (s : ByteArray) : (packN s).tail = cutN (strN s) := rfl
theorem back_words {vl : List Nat} {b m : Nat} {s : ByteArray} (hs : s.size ≤ 120) (hm : m = 1 + (s.size + 7) / 8) (hv : vl.length = 384) (h8 : b % 8 = 0) (hb : b + 8 * m ≤ 3072) (h : ∀ i, i < m → vl.getD (b / 8 + i) 0 = (packN s).getD i 0) :
    vl.getD (b / 8) 0 = s.size ∧ cnt s.size = m ∧ (vl.drop (b / 8 + 1)).take (m - 1) = cutN (strN s) := by
  have hpl := packN_length s
  refine ⟨?_, by rw [cnt_yes hs, hm], ?_⟩
  · have := h 0 (by omega)
    rw [Nat.add_zero] at this
    rw [this]; rfl
  · have ht : (cutN (strN s)).length = m - 1 := by
      rw [← pack_tail, List.length_tail, hpl]; omega
    refine drop_take_eq ht (by omega) fun i hi => ?_
    have := h (i + 1) (by omega)
    rw [show b / 8 + 1 + i = b / 8 + (i + 1) from by omega, this, ← pack_tail]
    unfold packN
    simp
theorem rd_pack (s : ByteArray) : rdK s.size (cutN (strN s)) = 0 ∧ rdS s.size (cutN (strN s)) = s := by
  have hz : joinN ((spr (cutN (strN s))).drop s.size) = 0 := by
    have := spr_cut_drop (strN s) (strN_byts s)
    rwa [strN_length] at this
  unfold rdK rdS
  rw [if_pos hz, if_pos hz]
  exact ⟨rfl, text_pack s⟩
theorem back_st {vl : List Nat} {b m : Nat} {s : ByteArray} (hs : s.size ≤ 120) (hm : m = 1 + (s.size + 7) / 8) (hv : vl.length = 384) (h8 : b % 8 = 0) (hb : b + 8 * m ≤ 3072) (h : ∀ i, i < m → vl.getD (b / 8 + i) 0 = (packN s).getD i 0) :
    stK vl b = 0 ∧ stS vl b = s := by
  obtain ⟨h1, h2, h3⟩ := back_words hs hm hv h8 hb h
  unfold stK stS
  have n1 : ¬ (b % 8 ≠ 0 ∨ 8 * vl.length ≤ b) := by omega
  have n2 : ¬ ¬ s.size ≤ 120 := Decidable.not_not.2 hs
  have n3 : ¬ 8 * vl.length < b + 8 * m := by omega
  rw [h1, if_neg n1, if_neg n1, if_neg n2, if_neg n2, h2, if_neg n3, if_neg n3, h3]
  exact rd_pack s
theorem back_pa {vl : List Nat} {b m N : Nat} {s : ByteArray} {c : Int} (hs : s.size ≤ 120) (hc : clsN s.size = c) (hc12 : c = 1 ∨ c = 2) (hm : m = 1 + (s.size + 7) / 8) (hmN : m ≤ N) (hv : vl.length = 384) (h8 : b % 8 = 0) (hb : b + 8 * N ≤ 3072) (h : ∀ i, i < m → vl.getD (b / 8 + i) 0 = (packN s).getD i 0) :
    paK c ((vl.drop (b / 8)).take N) = 0 ∧ paS c ((vl.drop (b / 8)).take N) = s := by
  obtain ⟨h1, h2, h3⟩ := back_words hs hm hv h8 (by omega) h
  have hq : b / 8 < vl.length := by omega
  obtain ⟨j, hj⟩ : ∃ j, N = j + 1 := ⟨N - 1, by omega⟩
  have e : (vl.drop (b / 8)).take N = s.size :: (vl.drop (b / 8 + 1)).take j := by
    rw [List.drop_eq_getElem_cons hq, hj]
    rw [getD_at hq] at h1
    rw [h1]; rfl
  rw [e]
  have h4 : ((vl.drop (b / 8 + 1)).take j).take (m - 1) = cutN (strN s) := by
    rw [List.take_take, Nat.min_eq_left (by omega)]; exact h3
  have hl : (s.size :: (vl.drop (b / 8 + 1)).take j).length = N := by
    rw [List.length_cons, List.length_take, List.length_drop]; omega
  unfold paK paS
  have n1 : ¬ (¬ (c = 1 ∨ c = 2) ∨ s.size :: (vl.drop (b / 8 + 1)).take j = []) := by
    rintro (h | h)
    · exact h hc12
    · cases h
  have n2 : ¬ (¬ (s.size :: (vl.drop (b / 8 + 1)).take j).headD 0 ≤ 120 ∨ clsN ((s.size :: (vl.drop (b / 8 + 1)).take j).headD 0) ≠ c) := by
    rintro (h | h)
    · exact h hs
    · exact h hc
  have n3 : ¬ (s.size :: (vl.drop (b / 8 + 1)).take j).length < cnt ((s.size :: (vl.drop (b / 8 + 1)).take j).headD 0) := by
    show ¬ (s.size :: (vl.drop (b / 8 + 1)).take j).length < cnt s.size
    rw [hl, h2]; omega
  rw [if_neg n1, if_neg n2, if_neg n3, if_neg n1, if_neg n2, if_neg n3]
  show rdK s.size (((vl.drop (b / 8 + 1)).take j).take (cnt s.size - 1)) = 0 ∧ rdS s.size (((vl.drop (b / 8 + 1)).take j).take (cnt s.size - 1)) = s
  rw [h2, h4]
  exact rd_pack s
/-- A slice of n bytes, made. -/
theorem mkZ (n : Nat) (w : World) (h : n ≤ 1000000) : (Instr.makeSlice 37 (.int .i64 (n : Int)) (.int .i64 (n : Int))).run Tryd.prog w = .ok (.slice (some ⟨w.heap.size, 0, none⟩) n n) (w.alloc (.cells (part n (fun i => decide (i < 0)) (fun _ => bv 0) (bv 0)) 5)) := by
  obtain ⟨i0, hi, hz0, hz1, hz2⟩ := info_parts info5
  have h1 := run_make (P := Tryd.prog) w 37 5 i0 _ Tryd.underlying37 hi hz0 .i64 .i64 ((n : Nat) : Int) ((n : Nat) : Int) (by omega) (by omega) (by rw [hz2]; omega) (by omega)
  rw [h1, hz1]
  have e : madeCells (Value.int .u8 0).cells ((n : Int).toNat * 1) = part n (fun i => decide (i < 0)) (fun _ => bv 0) (bv 0) := by
    rw [show (Value.int IntKind.u8 0).cells = #[.int .u8 0] from rfl, madeCells_one, part_none _ _ _ (fun i => by simp)]
    simp [bv]
  rw [e]
  simp
theorem part_any (n : Nat) (f : Nat → Value) (g : Nat → Value) (z : Value) : part n (fun i => decide (i < 0)) f z = part n (fun i => decide (i < 0)) g z := by
  rw [part_none _ _ _ (fun i => by simp), part_none _ _ _ (fun i => by simp)]
theorem part_full (n x : Nat) (z : Value) : part n (fun i => decide (i < n)) (fun _ => bv x) z = ((List.replicate n x).map bv).toArray := by
  rw [part_all _ _ (fun i hi => by simp; exact hi), List.map_replicate]
  apply Array.ext
  · simp
  · intro i h1 h2; simp
end Go.Proofs.YtnjecjcnkmgjmaaDoor
/- ValueBack is walked: a value that is laid into its block, over whatever stands there, is read again, and parsed; where geo.rooms holds what its initialiser lays. -/
namespace Go.Proofs.YtnjecjcnkmgjmaaDoor
open Go.RowKit Go.Sort Go.Shelf
set_option linter.unusedVariables false
theorem wrap_ex (a : Int) : ∃ u : Nat, IntKind.u64.wrap a = (u : Int) ∧ u < 18446744073709551616 := by
  rw [IntKind.wrap_u64]
  exact ⟨(a % 18446744073709551616).toNat, by omega, by omega⟩
set_option maxRecDepth 100000 in
set_option maxHeartbeats 1600000 in
theorem valueBack_long (s : ByteArray) (sl j f : Int) (w : World) (R : Rms w) (hs : s.size ≤ maxLen) (h : 120 < s.size) :
    Calls Tryd.prog 5 #[.string s, .int .i64 sl, .int .i64 j, .int .u8 f] w fun e w' => e = .returned (.bool true) ∧ Below w.heap.size w w' := by
  have HK := Lib.hid (known12_any w R)
  unfold maxLen at hs
  have d : decide ((120 : Int) < (s.size : Int)) = true := by simp; omega
  have d2 : decide (120 < s.size) = true := by simp; omega
  clear R h
  go_enter Tryd.func5, Tryd.ntmps5
  go_wp2_with fail
  refine HK.out.mono ?_
  rintro e w1 ⟨rfl, hb⟩
  have HB := Lib.hid hb
  clear hb
  go_wp2
  go_ret
  exact ⟨rfl, HB.out⟩
set_option maxRecDepth 100000 in
set_option maxHeartbeats 6400000 in
theorem valueBack_ok (s : ByteArray) (sl j : Int) (fill : Nat) (w : World) (R : Rms w) (hs : s.size ≤ 120) (hf : fill < 256) :
    Calls Tryd.prog 5 #[.string s, .int .i64 sl, .int .i64 j, .int .u8 (fill : Int)] w fun e w' => e = .returned (.bool true) ∧ Below w.heap.size w w' := by
  have mixed : Tryd.prog.follows .mixedOrders = true := by kernel_rfl
  have hsm : s.size ≤ maxLen := by unfold maxLen; omega
  have hc12 := cls_12 hs
  obtain ⟨u, hu, hu64⟩ := wrap_ex sl
  obtain ⟨v, hv, hv64⟩ := wrap_ex j
  have H1 := Lib.hid (refClass_any (s.size : Int) w)
  have H2 := Lib.hid (refBlocks_any (clsN s.size) w)
  have H4 := Lib.hid fun (b : Nat) (W : World) (R : Rms W) => vPuts_any b s W R hsm
  have HPK := Lib.hid fun (b : Nat) (sl j : Int) h1 e => putsK_12 (b := b) (s := s) hs (sl := sl) (j := j) h1 e
  have HBY := Lib.hid fun (W : World) => refBytes_any (clsN s.size) W
  have hcl := Lib.hid (show s.size ≤ 56 ∧ clsN (s.size : Int) = 1 ∨ clsN (s.size : Int) = 2 by
    by_cases h : s.size ≤ 56
    · exact .inl ⟨h, by unfold clsN; rw [if_pos (by omega)]⟩
    · exact .inr (by unfold clsN; rw [if_neg (by omega), if_pos (by omega)]))
  have HPA := Lib.hid fun (vl : List Nat) (b m N : Nat) (hc12 : clsN (s.size : Int) = 1 ∨ clsN (s.size : Int) = 2) h1 h2 h3 h4 h5 h6 => back_pa (vl := vl) (b := b) (m := m) (N := N) (s := s) hs rfl hc12 h1 h2 h3 h4 h5 h6
  have HST := Lib.hid fun (vl : List Nat) (b m : Nat) h1 h2 h3 h4 h5 => back_st (vl := vl) (b := b) (m := m) (s := s) hs h1 h2 h3 h4 h5
  obtain ⟨c, hc⟩ : ∃ c, c = clsN (s.size : Int) := ⟨_, rfl⟩
  rw [← hc] at H1 H2 hc12 HPK HBY hcl HPA
  have hby : (∃ N : Nat, byC c = 8 * (N : Int) ∧ 8 ≤ N ∧ N ≤ 16 ∧ 1 + (s.size + 7) / 8 ≤ N) := by
    rcases hcl.out with ⟨h1, h2⟩ | h2
    · exact ⟨8, by rw [h2]; rfl, by omega, by omega, by omega⟩
    · exact ⟨16, by rw [h2]; rfl, by omega, by omega, by omega⟩
  obtain ⟨N, hN, hN8, hN16, hmN⟩ := hby
  have hbl : 1 ≤ blC c ∧ blC c ≤ 15 := by rcases hc12 with h | h <;> rw [h] <;> decide
  obtain ⟨n, hn⟩ : ∃ n : Nat, blC c = (n : Int) := ⟨(blC c).toNat, by omega⟩
  rw [hn] at H2
  have hn1 : 1 ≤ n := by omega
  have hn15 : n ≤ 15 := by omega
  have hblk : 1 ≤ 1 + (u : Int) % 2 ∧ 1 + (u : Int) % 2 ≤ 64 ∧ 0 ≤ (v : Int) % (n : Int) ∧ (v : Int) % (n : Int) < blC c := by
    rw [hn]
    have h1 : (v : Int) % (n : Int) < (n : Int) := Int.emod_lt_of_pos _ (by omega)
    have h2 : 0 ≤ (v : Int) % (n : Int) := Int.emod_nonneg _ (by omega)
    omega
  have hvn0 : 0 ≤ (v : Int) % (n : Int) := hblk.2.2.1
  have hvn1 : (v : Int) % (n : Int) ≤ 15 := by have := hblk.2.2.2; omega
  have hlie := blkA_lies hblk
  have hyes := blkA_yes hblk
  obtain ⟨b, hb⟩ : ∃ b : Nat, blkA (1 + (u : Int) % 2) c ((v : Int) % (n : Int)) = (b : Int) := ⟨(blkA (1 + (u : Int) % 2) c ((v : Int) % (n : Int))).toNat, by omega⟩
  have HRB := Lib.hid (refBlock_any (1 + (u : Int) % 2) c ((v : Int) % (n : Int)) w)
  rw [hb] at HRB hlie
  have hbb : 1088 ≤ b ∧ b + 8 * N ≤ 3072 ∧ b % 8 = 0 := by rw [hN] at hlie; omega
  obtain ⟨hb0, hb1, hb8⟩ := hbb
  have hpk := HPK.out b _ _ hblk hb
  have H4b := Lib.hid fun (W : World) (R : Rms W) => H4.out b W R (by omega)
  rw [hpk] at H4b
  have HK := Lib.hid fun (W : World) (R : Rms W) => known12_any W R
  have HFIT := Lib.hid fun k => packN_fit s (by omega) k
  have hpl : (putsV b s).length = 1 + (s.size + 7) / 8 := putsTo_length _ _ _
  have HGET := Lib.hid fun (i : Nat) (hi : i < 1 + (s.size + 7) / 8) => putsTo_get (b := b) (ws := packN s) hi
  have HW12 := Lib.hid fun (W : World) => r12Words_any (s.size : Int) W
  rw [vw_cnt, cnt_yes hs] at HW12
  obtain ⟨m, hm⟩ : ∃ m, m = 1 + (s.size + 7) / 8 := ⟨_, rfl⟩
  rw [← hm] at hpl HGET HW12 hmN
  obtain ⟨L, hL⟩ : ∃ L, L = putsV b s := ⟨_, rfl⟩
  rw [← hL] at hpl
  have hm0 : 0 < m := by omega
  have hm16 : m ≤ 16 := by omega
  have HM := Lib.hid hm
  have HL := Lib.hid hL
  have HPL := Lib.hid hpl
  have HR := Lib.hid R
  have HC12 := Lib.hid hc12
  have HB8 := Lib.hid hb8
  have mk := fun W : World => mkZ 3072 W (by omega)
  obtain ⟨Z, hZ⟩ : ∃ Z, Z = 3072 := ⟨_, rfl⟩
  have mk0 : ∀ W : World, (Instr.makeSlice 37 (.int .i64 3072) (.int .i64 3072)).run Tryd.prog W = .ok (.slice (some ⟨W.heap.size, 0, none⟩) Z Z) (W.alloc (.cells (part Z (fun i => decide (i < 0)) (fun _ => bv 0) (bv 0)) 5)) := by rw [hZ]; exact mk
  rw [part_any Z (fun _ => bv 0) (fun _ => bv fill) (bv 0)] at mk0
  obtain ⟨CZ, hCZ⟩ : ∃ CZ, CZ = part Z (fun i => decide (i < 0)) (fun _ => bv fill) (bv 0) := ⟨_, rfl⟩
  rw [← hCZ] at mk0
  have HZ := Lib.hid hZ
  have hZ3 : Z ≤ 3072 := by omega
  have HCZ := Lib.hid hCZ
  have d : decide ((120 : Int) < (s.size : Int)) = false := by simp; omega
  have d2 : decide (120 < s.size) = false := by simp; omega
  have hb1' : (b : Int) ≤ 3072 := by omega
  obtain ⟨Q, hQ⟩ : ∃ Q, Q = 8 * N := ⟨_, rfl⟩
  rw [hN, show (8 : Int) * (N : Int) = (Q : Int) from by omega] at HBY
  have hQN : (Q : Int) / 8 = (N : Int) := by omega
  have HQN := Lib.hid hQN
  have hbQ : b + Q ≤ 3072 := by omega
  have hmQ : 8 * m ≤ Q := by omega
  clear hc hn hbl hc12 hcl hlie hyes hblk hb hb8 hpk H4 HPK hm hL hpl R hZ hCZ mk hN hQ hQN
  go_enter Tryd.func5, Tryd.ntmps5
  go_wp2_with fail
  refine H1.out.mono ?_
  rintro e w1 ⟨rfl, rfl⟩
  go_wp2_with fail
  refine H2.out.mono ?_
  rintro e w2 ⟨rfl, rfl⟩
  go_wp2_with fail
  refine HRB.out.mono ?_
  rintro e w3 ⟨rfl, rfl⟩
  clear H1 H2 HRB hu hv
  go_wp2_with fail
  obtain ⟨W1, hW1⟩ : ∃ W1, W1 = w.alloc (.cells CZ 5) := ⟨_, rfl⟩
  obtain ⟨g, hg⟩ : ∃ g, g = w.heap.size := ⟨_, rfl⟩
  rw [← hW1, ← hg]
  have HR1 := Lib.hid (show Row W1 g 5 (part Z (fun i => decide (i < 0)) (fun _ => bv fill) (bv 0)) by rw [hW1, ← HCZ.out]; exact rowAt hg)
  have HB1 := Lib.hid (show Below w.heap.size w W1 by rw [hW1]; exact alloc_below _ _)
  have HG := Lib.hid hg
  clear hW1 hg mk0
  go_loopw [12] (fun i wr => ∃ k : Nat, k ≤ Z ∧ i = .int .i64 (k : Int) ∧ Row wr g 5 (part Z (fun i => decide (i < k)) (fun _ => bv fill) (bv 0)) ∧ Below w.heap.size w wr) (fun i _ => Z - (intOf i).toNat)
  case atStart => exact ⟨0, by omega, rfl, HR1.out, HB1.out⟩
  case round =>
    rename World => wr
    obtain ⟨k, hk, rfl, hrow, hlow⟩ := hrel
    by_cases hlt : k < Z
    · have hcell := hrow.cell k
      have hfr := hrow.free k
      rw [part_get hlt] at hcell
      simp only [Nat.lt_irrefl, decide_false, Bool.false_eq_true, if_false] at hcell
      have hns := hrow.set k (bv fill)
      rw [part_next] at hns
      have HNS := Lib.hid hns
      have HLW := Lib.hid (hlow.setCell (p := ⟨g, k, none⟩) (by rw [HG.out]; exact Nat.le_refl _) (bv fill))
      unfold bv at hcell HNS HLW
      clear hns hrow hlow
      go_wp2
      go_roundw
      case rel => exact ⟨k + 1, by omega, by go_num, HNS.out, HLW.out⟩
      case measure => simp [intOf]; omega
    · obtain rfl : k = Z := by omega
      rw [part_full] at hrow
      have hof := pOf_yes (w := wr) (A := some ⟨g, 0, none⟩) (cap := k) (nl := 48) (l := List.replicate k fill) (by rw [List.length_replicate, HZ.out]) (row_sl hrow) (fun x hx => by rw [List.eq_of_mem_replicate hx]; exact hf) (by omega) (by omega)
      rw [show 64 * 48 = k from HZ.out.symm] at hof
      have HOF := Lib.hid hof
      have HLW := Lib.hid hlow
      clear hof hrow hlow hlt HR1 HB1
      go_wp2_with fail
      refine HOF.out.mono ?_
      rintro e w1 ⟨y, rfl, hm1, hfp, hb1⟩
      have HM1 := Lib.hid hm1
      have HFP := Lib.hid hfp
      have HB1 := Lib.hid (Below.and HLW.out hb1)
      have HWR := Lib.hid HLW.out.size
      have R1 := Lib.hid (HR.out.below HB1.out)
      clear hm1 hfp hb1 HOF
      go_wp2_with fail
      refine (H4b.out _ R1.out).mono ?_
      rintro e w4 ⟨V, rfl, _, ho, hb4⟩
      have ho := ho rfl
      rw [← HM.out, ← HL.out] at ho
      obtain ⟨g2, cap2, rfl, hc2, hcm2, hcl2⟩ := put_cells ho HPL.out hm0
      have hg2 : w1.heap.size ≤ g2 := (ho.lt g2 rfl).1
      have HT0 := Lib.hid (show TvI w w4 y.g g2 L b (packN s) 0 y (St.ofBytes 48 (List.replicate k fill)) from
        ⟨HM1.out.below hb4, ofBytes_Ok (fun x hx => by rw [List.eq_of_mem_replicate hx]; exact hf), ofBytes_J 48 _, rfl, Nat.le_refl _, ⟨rfl, rfl, rfl⟩, fun l hl => by
            have : l ∈ List.replicate 48 ([] : List (Nat × Nat)) := hl
            rw [List.eq_of_mem_replicate this]; exact Nat.le_refl _, fun i hi => by omega, rfl, Below.and HB1.out hb4, fun q hq => ⟨by have := HM1.out.lt q hq; omega, Nat.le_trans HWR.out (HFP.out q hq)⟩, fun i hi => hcl2 i (by rw [HPL.out] at hi; exact hi)⟩)
      have R4 := Lib.hid (R1.out.below hb4)
      obtain ⟨g0, hg0⟩ : ∃ g0, g0 = y.g := ⟨_, rfl⟩
      rw [← hg0] at HT0 ⊢
      clear hb4 ho hcl2 hg2 H4b hg0
      go_wp2
      go_loopw [17] (fun i wr => ∃ k : Nat, k ≤ m ∧ i = .int .i64 (k : Int) ∧ ∃ y s', TvI w wr g0 g2 L b (packN s) k y s') (fun i _ => m - (intOf i).toNat)
      case atStart => exact ⟨0, by omega, rfl, _, _, HT0.out⟩
      case round =>
        clear HT0
        rename World => wr2
        obtain ⟨k, hk, rfl, y1, s1, htv⟩ := hrel
        by_cases hlt : k < m
        · obtain ⟨a1, a2⟩ := htv.cells k (by rw [HPL.out]; exact hlt)
          have hge : L.getD k (0, 0) = (b + 8 * k, (packN s).getD k 0) := by
            rw [HL.out]
            unfold putsV
            rw [← HM.out, List.getD_eq_getElem?_getD, HGET.out k hlt]; rfl
          rw [hge] at a1 a2
          dsimp only at a1 a2
          have HST9 := Lib.hid fun (q : LowBy wr2) => (htv.below q.low).store HB8.out (by omega) (by omega) (HFIT.out k) (by rw [HPL.out]; exact hm0)
          obtain ⟨x, hx⟩ : ∃ x, x = (packN s).getD k 0 := ⟨_, rfl⟩
          obtain ⟨ad, had⟩ : ∃ ad, ad = b + 8 * k := ⟨_, rfl⟩
          have HAD := Lib.hid (show (L.getD k (0, 0)).1 = ad by rw [hge, had])
          have hadb : (b : Int) ≤ (ad : Int) ∧ (ad : Int) < (b : Int) + (Q : Int) := by omega
          have g1 : decide ((ad : Int) < (b : Int)) = false := by simp; omega
          have g2' : decide ((b : Int) + (Q : Int) ≤ (ad : Int)) = false := by simp; omega
          have g3 : decide (ad < b) = false := by simp; omega
          have hbq : (b : Int) + (Q : Int) ≤ 3072 := by omega
          rw [← hx] at HST9 a2
          rw [← had] at HST9 a1
          have ca := fun p : LowBy wr2 => p.cell a1
          have cb := fun p : LowBy wr2 => p.cell a2
          have HBYc := Lib.hid HBY.out
          clear htv hge hx had a1 a2
          go_wp2_with fail
          refine wp_region_quiet_mid (C := fun w' => ∃ p : LowBy wr2, w' = p.W) 11 (firstM 11 35) (by assumption) (by kernel_rfl) ⟨⟨wr2.drew, (Below.refl _ wr2).drew⟩, rfl⟩ ?_
          simp only [List.take_succ_cons, List.take_zero]
          repeat (go_big_quiet_step (fail))
          refine wpQuiet_nil ?_
          intro _ hw'
          obtain ⟨q, hw''⟩ := hw'
          subst hw''
          have HST2 := Lib.hid (HST9.out q)
          clear ca cb HST9
          change wpAny _ _ _ _ 24 _ _ _
          refine wpAny_ready (rs := [11]) (by kernel_rfl) (by simp) ?_
          refine AllReady.cons rfl (fun K hK => ?_) AllReady.nil
          go_simp
          refine HST2.out.mono ?_
          rintro e w5 ⟨rfl, y5, s5, htv5⟩
          refine hK _ _ ?_
          clear hK K
          obtain ⟨a1, _⟩ := htv5.cells k (by rw [HPL.out]; exact hlt)
          have hge : (L.getD k (0, 0)).1 = ad := HAD.out
          rw [hge] at a1
          have HTV5 := Lib.hid htv5
          clear htv5 HST2 hge
          have wq : IntKind.u64.wrap (Q : Int) = (Q : Int) := by rw [IntKind.wrap_u64]; omega
          have wbq : IntKind.u64.wrap ((b : Int) + (Q : Int)) = (b : Int) + (Q : Int) := by rw [IntKind.wrap_u64]; omega
          refine wpAny_take (i := 12) (oi := ⟨some 98, _, _, _, _, _⟩) (v := .bool false) rfl (by kernel_rfl) (by kernel_rfl) (by kernel_rfl) (fun _ _ _ h => h) (Or.inl ⟨by kernel_rfl, by intro w; go_simp⟩) ?_
          simp only [Act.put, List.setIfInBounds_toArray, List.set_cons_zero, List.set_cons_succ]
          refine wpAny_take (i := 13) (oi := ⟨some 99, _, _, _, _, _⟩) (v := .bool false) rfl (by kernel_rfl) (by kernel_rfl) (by kernel_rfl) (fun _ _ _ h => h) (Or.inl ⟨by kernel_rfl, by intro w; go_simp⟩) ?_
          simp only [Act.put, List.setIfInBounds_toArray, List.set_cons_zero, List.set_cons_succ]
          refine wpAny_take (i := 14) (oi := ⟨some 100, _, _, _, _, _⟩) (v := .slice (some ⟨g2, 0, none⟩) m cap2) rfl (by kernel_rfl) (by kernel_rfl) (by kernel_rfl) (fun _ _ _ h => h) (Or.inl ⟨by kernel_rfl, by intro w; go_simp⟩) ?_
          simp only [Act.put, List.setIfInBounds_toArray, List.set_cons_zero, List.set_cons_succ]
          refine wpAny_take (i := 15) (oi := ⟨some 101, _, _, _, _, _⟩) (v := .int .i64 (k : Int)) rfl (by kernel_rfl) (by kernel_rfl) (by kernel_rfl) (fun _ _ _ h => h) (Or.inl ⟨by kernel_rfl, by intro w; go_simp⟩) ?_
          simp only [Act.put, List.setIfInBounds_toArray, List.set_cons_zero, List.set_cons_succ]
          refine wpAny_take (i := 16) (oi := ⟨some 102, _, _, _, _, _⟩) (v := .pointer (some ⟨g2, k * 2, none⟩)) rfl (by kernel_rfl) (by kernel_rfl) (by kernel_rfl) (fun _ _ _ h => h) (Or.inl ⟨by kernel_rfl, by intro w; go_simp⟩) ?_
          simp only [Act.put, List.setIfInBounds_toArray, List.set_cons_zero, List.set_cons_succ]
          refine wpAny_take (i := 17) (oi := ⟨some 103, _, _, _, _, _⟩) (v := .pointer (some ⟨g2, k * 2, none⟩)) rfl (by kernel_rfl) (by kernel_rfl) (by kernel_rfl) (fun _ _ _ h => h) (Or.inl ⟨by kernel_rfl, by intro w; go_simp⟩) ?_
          simp only [Act.put, List.setIfInBounds_toArray, List.set_cons_zero, List.set_cons_succ]
          refine wpAny_take (i := 19) (oi := ⟨some 105, _, _, _, _, _⟩) (v := .int .u64 (b : Int)) rfl (by kernel_rfl) (by kernel_rfl) (by kernel_rfl) (fun _ _ _ h => h) (Or.inl ⟨by kernel_rfl, by intro w; go_simp⟩) ?_
          simp only [Act.put, List.setIfInBounds_toArray, List.set_cons_zero, List.set_cons_succ]
          refine wpAny_ready (rs := [18]) (by kernel_rfl) (by simp) ?_
          refine AllReady.cons rfl (fun K hK => ?_) AllReady.nil
          go_simp
          refine hK _ _ ?_
          clear hK K
          refine wpAny_take (i := 20) (oi := ⟨some 106, _, _, _, _, _⟩) (v := .bool false) rfl (by kernel_rfl) (by kernel_rfl) (by kernel_rfl) (fun _ _ _ h => h) (Or.inl ⟨by kernel_rfl, by intro w; go_simp⟩) ?_
          simp only [Act.put, List.setIfInBounds_toArray, List.set_cons_zero, List.set_cons_succ]
          refine wpAny_take (i := 21) (oi := ⟨some 107, _, _, _, _, _⟩) (v := .bool false) rfl (by kernel_rfl) (by kernel_rfl) (by kernel_rfl) (fun _ _ _ h => h) (Or.inl ⟨by kernel_rfl, by intro w; go_simp⟩) ?_
          simp only [Act.put, List.setIfInBounds_toArray, List.set_cons_zero, List.set_cons_succ]
          refine wpAny_take (i := 22) (oi := ⟨some 108, _, _, _, _, _⟩) (v := .bool false) rfl (by kernel_rfl) (by kernel_rfl) (by kernel_rfl) (fun _ _ _ h => h) (Or.inl ⟨by kernel_rfl, by intro w; go_simp⟩) ?_
          simp only [Act.put, List.setIfInBounds_toArray, List.set_cons_zero, List.set_cons_succ]
          refine wpAny_take (i := 23) (oi := ⟨some 109, _, _, _, _, _⟩) (v := .slice (some ⟨g2, 0, none⟩) m cap2) rfl (by kernel_rfl) (by kernel_rfl) (by kernel_rfl) (fun _ _ _ h => h) (Or.inl ⟨by kernel_rfl, by intro w; go_simp⟩) ?_
          simp only [Act.put, List.setIfInBounds_toArray, List.set_cons_zero, List.set_cons_succ]
          refine wpAny_take (i := 24) (oi := ⟨some 110, _, _, _, _, _⟩) (v := .int .i64 (k : Int)) rfl (by kernel_rfl) (by kernel_rfl) (by kernel_rfl) (fun _ _ _ h => h) (Or.inl ⟨by kernel_rfl, by intro w; go_simp⟩) ?_
          simp only [Act.put, List.setIfInBounds_toArray, List.set_cons_zero, List.set_cons_succ]
          refine wpAny_take (i := 25) (oi := ⟨some 111, _, _, _, _, _⟩) (v := .pointer (some ⟨g2, k * 2, none⟩)) rfl (by kernel_rfl) (by kernel_rfl) (by kernel_rfl) (fun _ _ _ h => h) (Or.inl ⟨by kernel_rfl, by intro w; go_simp⟩) ?_
          simp only [Act.put, List.setIfInBounds_toArray, List.set_cons_zero, List.set_cons_succ]
          refine wpAny_take (i := 26) (oi := ⟨some 112, _, _, _, _, _⟩) (v := .pointer (some ⟨g2, k * 2, none⟩)) rfl (by kernel_rfl) (by kernel_rfl) (by kernel_rfl) (fun _ _ _ h => h) (Or.inl ⟨by kernel_rfl, by intro w; go_simp⟩) ?_
          simp only [Act.put, List.setIfInBounds_toArray, List.set_cons_zero, List.set_cons_succ]
          refine wpAny_take (i := 28) (oi := ⟨some 114, _, _, _, _, _⟩) (v := .int .u64 (b : Int)) rfl (by kernel_rfl) (by kernel_rfl) (by kernel_rfl) (fun _ _ _ h => h) (Or.inl ⟨by kernel_rfl, by intro w; go_simp⟩) ?_
          simp only [Act.put, List.setIfInBounds_toArray, List.set_cons_zero, List.set_cons_succ]
          refine wpAny_take (i := 29) (oi := ⟨some 115, _, _, _, _, _⟩) (v := .int .i64 c) rfl (by kernel_rfl) (by kernel_rfl) (by kernel_rfl) (fun _ _ _ h => h) (Or.inl ⟨by kernel_rfl, by intro w; go_simp⟩) ?_
          simp only [Act.put, List.setIfInBounds_toArray, List.set_cons_zero, List.set_cons_succ]
          refine wpAny_ready (rs := [27, 30]) (by kernel_rfl) (by simp) ?_
          refine AllReady.cons rfl (fun K hK => ?_) (AllReady.cons rfl (fun K hK => ?_) AllReady.nil)
          · skip
            go_simp
            refine hK _ _ ?_
            clear hK K
            refine wpAny_ready (rs := [30]) (by kernel_rfl) (by simp) ?_
            refine AllReady.cons rfl (fun K hK => ?_) AllReady.nil
            go_simp
            refine (HBYc.out _).mono ?_
            rintro e wc ⟨rfl, rfl⟩
            refine hK _ _ ?_
            clear hK K
            refine wpAny_take (i := 31) (oi := ⟨some 117, _, _, _, _, _⟩) (v := .int .u64 (Q : Int)) rfl (by kernel_rfl) (by kernel_rfl) (by kernel_rfl) (fun _ _ _ h => h) (Or.inl ⟨by kernel_rfl, by intro w; go_simp⟩) ?_
            simp only [Act.put, List.setIfInBounds_toArray, List.set_cons_zero, List.set_cons_succ]
            refine wpAny_take (i := 32) (oi := ⟨some 118, _, _, _, _, _⟩) (v := .int .u64 ((b : Int) + (Q : Int))) rfl (by kernel_rfl) (by kernel_rfl) (by kernel_rfl) (fun _ _ _ h => h) (Or.inl ⟨by kernel_rfl, by intro w; go_simp⟩) ?_
            simp only [Act.put, List.setIfInBounds_toArray, List.set_cons_zero, List.set_cons_succ]
            refine wpAny_take (i := 33) (oi := ⟨some 119, _, _, _, _, _⟩) (v := .bool false) rfl (by kernel_rfl) (by kernel_rfl) (by kernel_rfl) (fun _ _ _ h => h) (Or.inl ⟨by kernel_rfl, by intro w; go_simp⟩) ?_
            simp only [Act.put, List.setIfInBounds_toArray, List.set_cons_zero, List.set_cons_succ]
            refine wpAny_take (i := 34) (oi := ⟨some 120, _, _, _, _, _⟩) (v := .bool false) rfl (by kernel_rfl) (by kernel_rfl) (by kernel_rfl) (fun _ _ _ h => h) (Or.inl ⟨by kernel_rfl, by intro w; go_simp⟩) ?_
            simp only [Act.put, List.setIfInBounds_toArray, List.set_cons_zero, List.set_cons_succ]
            refine wpAny_done (by kernel_rfl) ?_ _
            go_wp2
            go_roundw
            case rel => exact ⟨k + 1, by omega, by go_num, y5, s5, HTV5.out⟩
            case measure => simp [intOf]; omega
          · skip
            go_simp
            refine (HBYc.out _).mono ?_
            rintro e wc ⟨rfl, rfl⟩
            refine hK _ _ ?_
            clear hK K
            refine wpAny_take (i := 31) (oi := ⟨some 117, _, _, _, _, _⟩) (v := .int .u64 (Q : Int)) rfl (by kernel_rfl) (by kernel_rfl) (by kernel_rfl) (fun _ _ _ h => h) (Or.inl ⟨by kernel_rfl, by intro w; go_simp⟩) ?_
            simp only [Act.put, List.setIfInBounds_toArray, List.set_cons_zero, List.set_cons_succ]
            refine wpAny_take (i := 32) (oi := ⟨some 118, _, _, _, _, _⟩) (v := .int .u64 ((b : Int) + (Q : Int))) rfl (by kernel_rfl) (by kernel_rfl) (by kernel_rfl) (fun _ _ _ h => h) (Or.inl ⟨by kernel_rfl, by intro w; go_simp⟩) ?_
            simp only [Act.put, List.setIfInBounds_toArray, List.set_cons_zero, List.set_cons_succ]
            refine wpAny_ready (rs := [27]) (by kernel_rfl) (by simp) ?_
            refine AllReady.cons rfl (fun K hK => ?_) AllReady.nil
            go_simp
            refine hK _ _ ?_
            clear hK K
            refine wpAny_take (i := 33) (oi := ⟨some 119, _, _, _, _, _⟩) (v := .bool false) rfl (by kernel_rfl) (by kernel_rfl) (by kernel_rfl) (fun _ _ _ h => h) (Or.inl ⟨by kernel_rfl, by intro w; go_simp⟩) ?_
            simp only [Act.put, List.setIfInBounds_toArray, List.set_cons_zero, List.set_cons_succ]
            refine wpAny_take (i := 34) (oi := ⟨some 120, _, _, _, _, _⟩) (v := .bool false) rfl (by kernel_rfl) (by kernel_rfl) (by kernel_rfl) (fun _ _ _ h => h) (Or.inl ⟨by kernel_rfl, by intro w; go_simp⟩) ?_
            simp only [Act.put, List.setIfInBounds_toArray, List.set_cons_zero, List.set_cons_succ]
            refine wpAny_done (by kernel_rfl) ?_ _
            go_wp2
            go_roundw
            case rel => exact ⟨k + 1, by omega, by go_num, y5, s5, HTV5.out⟩
            case measure => simp [intOf]; omega
        · obtain rfl : k = m := by omega
          have HTV := Lib.hid htv
          have hvl := htv.vlen
          have hst := HST.out s1.view b k HM.out hvl HB8.out (by omega) htv.view
          have hpa := HPA.out s1.view b k N HC12.out HM.out hmN hvl HB8.out (by omega) htv.view
          have hbw := (back_words (vl := s1.view) (b := b) (m := k) hs HM.out hvl HB8.out (by omega) htv.view)
          have HSTT := Lib.hid hst
          have HPAA := Lib.hid hpa
          have HBW := Lib.hid hbw
          have HVL := Lib.hid hvl
          have HNW := Lib.hid (vNew_any (w := wr2) (some ⟨g0, 0, none⟩) b)
          clear htv hlt hst hpa hbw hvl HST HPA
          go_wp2_with fail
          refine HNW.out.mono ?_
          rintro e w8 ⟨rfl, hr8, hb8⟩
          have sep8 : Sep y1 wr2.heap.size := fun q hq => HTV.out.mem.lt q hq
          have hr8' : RdAt w8 wr2.heap.size wr2.heap.size b (some ⟨y1.g, 0, none⟩) 37 [] ⟨#[]⟩ false 0 (.slice none 0 0) := by rw [HTV.out.g]; exact hr8
          have hwh := whole12_any (HTV.out.mem.below hb8) HTV.out.ok hr8' sep8 (by rw [HVL.out, HTV.out.nl]) (by omega) (by have := HTV.out.st; have := HTV.out.oth; unfold St.did; omega)
          rw [HTV.out.g] at hwh
          have HWH := Lib.hid hwh
          have HB8' := Lib.hid hb8
          clear hr8 hr8' sep8 hwh hb8 HNW
          go_wp2_with fail
          refine HWH.out.mono ?_
          rintro e w9 ⟨i, rfl, hi1, hi16, hik, f9, V9, l9, ws9, hr9, hm9, hl9, hb9⟩
          have him : i = k := by
            have := (hik HSTT.out.1).1
            rw [this, HBW.out.1]
            exact HBW.out.2.1
          have hlow9 : Below w.heap.size w w9 := Below.trans (Below.and HTV.out.low HB8'.out) (hb9.below (by have := HTV.out.low.size; have := HB8'.out.size; omega) (fun q hq => by
            rcases hq with hq | hq
            · exact (HTV.out.fp q hq).2
            · have := HTV.out.low.size; omega))
          have hvd := vValue_done hr9
          rw [HSTT.out.1, HSTT.out.2] at hvd
          have HVD := Lib.hid hvd
          have hmg : ∀ (W : World) (hb : Below w9.heap.size w9 W), Calls Tryd.prog 25 #[.pointer (some ⟨g0, 0, none⟩)] W (BytesPost W (bytesL s1.view)) := fun W hb => by
            have := view_yes (hm9.below hb) HTV.out.ok.vie
            rw [HTV.out.g] at this
            exact this
          have HVW := Lib.hid hmg
          have HL9 := Lib.hid hlow9
          subst him
          have d1 : decide ((i : Int) < 1) = false := by simp; omega
          have d3 : decide ((i : Int) + 1 < (i : Int)) = false := by simp; omega
          have d4 : decide (i < 1) = false := by simp; omega
          clear hr9 hm9 hb9 hmg hlow9 HWH hik hvd
          go_wp2_with fail
          refine HVD.out.mono ?_
          rintro e w10 ⟨rfl, hb10⟩
          have HB10 := Lib.hid hb10
          have HI10 := Lib.hid (HVW.out _ hb10)
          clear hb10 HVD HVW
          go_wp2_with fail
          refine HI10.out.mono ?_
          rintro e w11 ⟨⟨VI, rfl, hown⟩, hb11⟩
          have hbl : (bytesL s1.view).length = 3072 := by rw [bytesL_spr, spr_length, HVL.out]
          obtain ⟨gI, capI, rfl, _, _, hslI⟩ := own_some hown (by rw [hbl]; omega)
          rw [hbl]
          have hcut : cutTo (bytesL s1.view) 384 = s1.view := by
            have := lasted_cut s1.view HTV.out.ok.vie
            rwa [HVL.out] at this
          have HTK := Lib.hid fun (k : Nat) (hk : k < N) (W : World) (hb : Below w11.heap.size w11 W) => (show Calls Tryd.prog 26 #[.slice (some ⟨gI, 0, none⟩) 3072 capI, .int .i64 ((b + 8 * k : Nat) : Int)] W fun e w' => e = .returned (.int .u64 ((s1.view.getD (b / 8 + k) 0 : Nat) : Int)) ∧ W = w' by
            have h1 := take_any (bytesL s1.view) ⟨gI, 0, none⟩ 3072 capI (b + 8 * k) W hbl (by omega) (by omega) (by rw [bytesL_spr]; exact spr_byts _) (hslI.below hb)
            rw [wordAt_take _ _ _ HB8.out, ← cutTo_get (n := 384) (by omega), hcut] at h1
            exact h1)
          have HSN := Lib.hid fun (k : Nat) (hk : k < N) => take_snoc12 s1.view (b / 8) k (by rw [HVL.out]; omega)
          have HWD := Lib.hid (show Wrds ((s1.view.drop (b / 8)).take N) from fun z hz => HTV.out.ok.vie z (List.mem_of_mem_drop (List.mem_of_mem_take hz)))
          have HLN := Lib.hid (show ((s1.view.drop (b / 8)).take N).length = N by rw [List.length_take, List.length_drop, HVL.out]; omega)
          have HB11 := Lib.hid (Below.and HB10.out hb11)
          have R11 := Lib.hid (HR.out.below (Below.and HL9.out (Below.and HB10.out hb11)))
          obtain ⟨i0, hi, hz0, hz1, hz2⟩ := info_parts info22
          obtain ⟨vl, hvl⟩ : ∃ vl, vl = s1.view := ⟨_, rfl⟩
          rw [← hvl] at HTK HSN HWD HLN HPAA
          clear hown hcut hslI hb11 hbl HI10 HTV HSTT HBW HVL hvl
          go_wp2_with fail
          refine (HW12.out _).mono ?_
          rintro e w12 ⟨rfl, rfl⟩
          have hqn := HQN.out
          go_wp2_with fail
          go_loopw [23, 24] (fun v i wr => ∃ k : Nat, k ≤ N ∧ i = .int .i64 (k : Int) ∧ wr.ownsRow w11.heap.size 22 1 v k (((vl.drop (b / 8)).take k).map wv) ∧ Below w11.heap.size w11 wr) (fun _ i _ => N - (intOf i).toNat)
          case atStart => exact ⟨0, by omega, rfl, World.ownsRow_nil _ _ _ _, Below.refl _ _⟩
          case round =>
            rename World => wr
            obtain ⟨k, hk, rfl, hown, hb2⟩ := hrel
            by_cases hlt : k < N
            · have HTk := Lib.hid (HTK.out k hlt wr hb2)
              have hsn := HSN.out k hlt
              obtain ⟨z, hz⟩ : ∃ z, z = vl.getD (b / 8 + k) 0 := ⟨_, rfl⟩
              rw [← hz] at HTk hsn
              have HS2 := Lib.hid hsn
              obtain ⟨p, hp⟩ : ∃ p, p = b + 8 * k := ⟨_, rfl⟩
              rw [← hp] at HTk
              have hpe : (b : Int) + 8 * (k : Int) = (p : Int) := by omega
              have hown2 := hown.alloc (.cells #[wv z] 22)
              have h63 : k + 1 ≤ maxLen := by unfold maxLen; omega
              have hby : (k + 1) * 8 ≤ 140737488355328 := by omega
              have hbs : w11.heap.size ≤ (wr.alloc (.cells #[wv z] 22)).heap.size := by have := hb2.size; simp; omega
              have HB2 := Lib.hid hb2
              clear hsn hz hp hown hb2
              go_wp2_with fail
              refine (HBY.out _).mono ?_
              rintro e w13 ⟨rfl, rfl⟩
              go_wp2_with fail
              refine HTk.out.mono ?_
              rintro e w14 ⟨rfl, rfl⟩
              go_wp2_with (at_builtin; refine wpList_append_own _ rfl (.tmp 165) (.tmp 173) 53 rfl w11.heap.size 22 i0 (.int .u64 0) 1 8 Tryd.underlying53 hi hz0 hz1 hz2 rfl (by decide) _ k _ rfl hown2 ⟨wr.heap.size, 0, none⟩ 1 1 [wv z] rfl rfl (cell_one_new _ _ _) (wv_ones [z]) h63 hby hbs ?_; intro v4 w4 hown4 hgrow hnil)
              have hb4 : Below w11.heap.size w11 w4 := (HB2.out.alloc HB2.out.size _).grown hgrow hbs (own_from hown2)
              have hfl : ((vl.drop (b / 8)).take k).map wv ++ [wv z] = ((vl.drop (b / 8)).take (k + 1)).map wv := by rw [← HS2.out, List.map_append]; rfl
              rw [hfl] at hown4
              clear hgrow hown2 hfl hnil
              go_roundw
              case rel => exact ⟨k + 1, by omega, by go_num, hown4, hb4⟩
              case measure => simp [intOf]; omega
            · obtain rfl : k = N := by omega
              obtain ⟨gw, cp, rfl, hcp, hcm, hsl⟩ := own_some hown (by omega)
              have hvp := vParse_any c ((vl.drop (b / 8)).take k) (some ⟨gw, 0, none⟩) k cp wr (R11.out.below hb2) HLN.out (by omega) hcp hcm HWD.out hsl
              rw [HPAA.out.1, HPAA.out.2] at hvp
              have HVP := Lib.hid hvp
              have HB2 := Lib.hid hb2
              clear hown hb2 hsl hvp hlt
              go_wp2_with fail
              refine (HBY.out _).mono ?_
              rintro e w13 ⟨rfl, rfl⟩
              go_wp2_with fail
              refine HVP.out.mono ?_
              rintro e w15 ⟨rfl, hb15⟩
              have HB15 := Lib.hid hb15
              have HKN := Lib.hid (HK.out w15 (R11.out.below (Below.and HB2.out hb15)))
              clear hb15 HVP
              go_wp2_with fail
              refine HKN.out.mono ?_
              rintro e w16 ⟨rfl, hb16⟩
              have HB16 := Lib.hid hb16
              clear hb16
              go_wp2
              go_ret
              exact ⟨rfl, Below.and HL9.out (Below.and HB11.out (Below.and HB2.out (Below.and HB15.out HB16.out)))⟩
theorem valueBack_all (s : ByteArray) (sl j f : Int) (w : World) (hs : s.size ≤ maxLen) (_ : (Lit.int .i64 sl).wf = true) (_ : (Lit.int .i64 j).wf = true) (hf : (Lit.int .u8 f).wf = true) (R : Rms w) :
    Calls Tryd.prog 5 #[.string s, .int .i64 sl, .int .i64 j, .int .u8 f] w fun e w' => e = .returned (.bool true) ∧ Below w.heap.size w w' := by
  by_cases h : 120 < s.size
  · exact valueBack_long s sl j f w R hs h
  · obtain ⟨h0, h1⟩ := wf_byte f hf
    obtain ⟨n, rfl⟩ : ∃ n : Nat, f = (n : Int) := ⟨f.toNat, by omega⟩
    exact valueBack_ok s sl j n w R (by omega) (by omega)
end Go.Proofs.YtnjecjcnkmgjmaaDoor
/- ValueReads is walked: what is read at any base of any memory is what stands there, or refused; where geo.rooms holds what its initialiser lays. -/
namespace Go.Proofs.YtnjecjcnkmgjmaaDoor
open Go.RowKit Go.Sort Go.Shelf
set_option linter.unusedVariables false
theorem pOf_no (A : Option Addr) (n cap : Nat) (w : World) (hn : n ≤ 140737488355328) (h : mayB (n : Int) = false) : Calls Tryd.prog 15 #[.slice A n cap] w fun e w' => e = .returned (.tuple #[.pointer none, .int .i64 2]) ∧ w = w' := by
  have H := Lib.hid (new_no (n : Int) w h)
  clear h
  go_enter Tryd.func15, Tryd.ntmps15
  go_wp2_with fail
  refine H.out.mono ?_
  rintro e w1 ⟨rfl, rfl⟩
  go_wp2
  go_ret2
  exact ⟨rfl, rfl⟩
theorem rdS_size {n : Nat} {t : List Nat} (hn : n ≤ 120) (ht : t.length + 1 = cnt n) (h : rdK n t = 0) : (rdS n t).size = n := by
  unfold rdK at h
  unfold rdS
  by_cases hz : joinN ((spr t).drop n) = 0
  · rw [if_pos hz]
    unfold textOf
    rw [strOf_size, List.length_take, spr_length]
    rw [cnt_yes hn] at ht
    omega
  · rw [if_neg hz] at h
    cases h
theorem stS_size {vl : List Nat} {b : Nat} (h : stK vl b = 0) : (stS vl b).size = vl.getD (b / 8) 0 := by
  unfold stK at h
  unfold stS
  by_cases h1 : b % 8 ≠ 0 ∨ 8 * vl.length ≤ b
  · rw [if_pos h1] at h; cases h
  · rw [if_neg h1] at h ⊢
    by_cases h2 : ¬ vl.getD (b / 8) 0 ≤ 120
    · rw [if_pos h2] at h; cases h
    · rw [if_neg h2] at h ⊢
      by_cases h3 : 8 * vl.length < b + 8 * cnt (vl.getD (b / 8) 0)
      · rw [if_pos h3] at h; cases h
      · rw [if_neg h3] at h ⊢
        have h2 := Decidable.not_not.1 h2
        refine rdS_size h2 ?_ h
        have := cnt_yes h2
        rw [List.length_take, List.length_drop]; omega
theorem vw_range (n : Int) : 0 ≤ vw n ∧ vw n ≤ 16 := by
  unfold vw
  split <;> omega
theorem own_none0 {w : World} {B n c : Nat} {e : TypeId} {xs : List Value} (h : w.ownsRow B e 1 (.slice none n c) n xs) : n = 0 := by
  rcases h.2 with ⟨h0, h1⟩ | ⟨g, cap, cur, h0, _⟩
  · exact h1
  · cases h0
theorem may_line {n : Nat} (h : mayB (n : Int) = true) : ∃ nl, n = 64 * nl ∧ 0 < nl ∧ nl ≤ 16384 := by
  unfold mayB at h
  have h := of_decide_eq_true h
  exact ⟨n / 64, by omega, by omega, by omega⟩
set_option maxRecDepth 100000 in
set_option maxHeartbeats 3200000 in
theorem valueReads_none (b : Nat) (w : World) (R : Rms w) :
    Calls Tryd.prog 4 #[.slice none 0 0, .int .u64 (b : Int)] w fun e w' => e = .returned (.bool true) ∧ Below w.heap.size w w' := by
  have HO := Lib.hid (pOf_no none 0 0 w (by omega) (by decide))
  have HK := Lib.hid (known12_any w R)
  clear R
  go_enter Tryd.func4, Tryd.ntmps4
  go_wp2_with fail
  refine HO.out.mono ?_
  rintro e w1 ⟨rfl, rfl⟩
  go_wp2_with fail
  refine HK.out.mono ?_
  rintro e w2 ⟨rfl, hb⟩
  have HB := Lib.hid hb
  clear hb
  go_wp2
  go_ret
  exact ⟨rfl, HB.out⟩
set_option maxRecDepth 100000 in
set_option maxHeartbeats 3200000 in
theorem valueReads_no (l : List Nat) (x : Addr) (n cap b : Nat) (w : World) (R : Rms w) (hn : l.length = n) (hnc : n ≤ cap) (hcm : cap ≤ 140737488351232) (hby : Byts l) (hs : Sl w (some x) (l.map bv)) (hm : mayB (n : Int) = false) :
    Calls Tryd.prog 4 #[.slice (some x) n cap, .int .u64 (b : Int)] w fun e w' => e = .returned (.bool true) ∧ Below w.heap.size w w' := by
  obtain ⟨i0, hi, hz0, hz1, hz2⟩ := info_parts info5
  have HO := Lib.hid fun (A : Option Addr) (c : Nat) (W : World) => pOf_no A n c W (by omega) hm
  have HK := Lib.hid fun (W : World) (R : Rms W) => known12_any W R
  have HR := Lib.hid R
  have hcells := sl_cells hs
  have hkl : (l.map bv).length = n * 1 := by rw [List.length_map, hn]; omega
  have h63 : 0 + n ≤ maxLen := by unfold maxLen; omega
  have hbyt : (0 + n) * 1 ≤ 140737488355328 := by omega
  have cs : decide ((512 : Int) < (n : Int)) = decide (512 < n) := decide_eq_decide.2 (by omega)
  obtain ⟨bb, hbb⟩ : ∃ bb, bb = decide (512 < n) := ⟨_, rfl⟩
  rw [← hbb] at cs
  have cs2 := hbb.symm
  have HCS := Lib.hid cs
  have HCS2 := Lib.hid cs2
  clear R hs hm hn hbb cs cs2
  cases bb with
  | true =>
    have cs := HCS.out
    have cs2 := HCS2.out
    go_enter Tryd.func4, Tryd.ntmps4
    go_wp2_with (at_builtin; refine wpList_append_own _ rfl (.const (.slice none 0 0)) (.tmp 16) 37 rfl w.heap.size 5 i0 (.int .u8 0) 1 1 Tryd.underlying37 hi hz0 hz1 hz2 rfl (by decide) _ 0 [] rfl (World.ownsRow_nil _ _ _ _) x n cap (l.map bv) rfl hkl hcells (bv_ones l) h63 hbyt (Nat.le_refl _) ?_; intro v6 w6 hown6 hgrow6 hnil6; simp only [Nat.zero_add, List.nil_append] at hown6; have hb6 : Below w.heap.size w w6 := (Below.refl _ _).grown hgrow6 (Nat.le_refl _) (by intro q hq; cases hq); obtain ⟨A6, cap6, rfl, _, _, _, _⟩ := own_sl hown6; have HB6 := Lib.hid hb6; clear hown6 hgrow6 hnil6 hb6)
    refine (HO.out _ _ _).mono ?_
    rintro e w1 ⟨rfl, rfl⟩
    go_wp2_with fail
    refine (HK.out _ (HR.out.below HB6.out)).mono ?_
    rintro e w2 ⟨rfl, hb⟩
    have HB := Lib.hid hb
    clear hb
    go_wp2
    go_ret
    exact ⟨rfl, Below.and HB6.out HB.out⟩
  | false =>
    have cs := HCS.out
    have cs2 := HCS2.out
    go_enter Tryd.func4, Tryd.ntmps4
    go_wp2_with (at_builtin; refine wpList_append_own _ rfl (.const (.slice none 0 0)) (.tmp 16) 37 rfl w.heap.size 5 i0 (.int .u8 0) 1 1 Tryd.underlying37 hi hz0 hz1 hz2 rfl (by decide) _ 0 [] rfl (World.ownsRow_nil _ _ _ _) x n cap (l.map bv) rfl hkl hcells (bv_ones l) h63 hbyt (Nat.le_refl _) ?_; intro v6 w6 hown6 hgrow6 hnil6; simp only [Nat.zero_add, List.nil_append] at hown6; have hb6 : Below w.heap.size w w6 := (Below.refl _ _).grown hgrow6 (Nat.le_refl _) (by intro q hq; cases hq); obtain ⟨A6, cap6, rfl, _, _, _, _⟩ := own_sl hown6; have HB6 := Lib.hid hb6; clear hown6 hgrow6 hnil6 hb6)
    refine (HO.out _ _ _).mono ?_
    rintro e w1 ⟨rfl, rfl⟩
    go_wp2_with fail
    refine (HK.out _ (HR.out.below HB6.out)).mono ?_
    rintro e w2 ⟨rfl, hb⟩
    have HB := Lib.hid hb
    clear hb
    go_wp2
    go_ret
    exact ⟨rfl, Below.and HB6.out HB.out⟩
set_option maxRecDepth 100000 in
set_option maxHeartbeats 6400000 in
theorem valueReads_yes (l : List Nat) (x : Addr) (n cap b : Nat) (w : World) (R : Rms w) (hn : l.length = n) (hnc : n ≤ cap) (hcm : cap ≤ 140737488351232) (hby : Byts l) (hs : Sl w (some x) (l.map bv)) (hm : mayB (n : Int) = true) (hb64 : b < 18446744073709551616) :
    Calls Tryd.prog 4 #[.slice (some x) n cap, .int .u64 (b : Int)] w fun e w' => e = .returned (.bool true) ∧ Below w.heap.size w w' := by
  obtain ⟨nl, hnl, hnl0, hnl1⟩ := may_line hm
  obtain ⟨i0, hi, hz0, hz1, hz2⟩ := info_parts info5
  have HO := Lib.hid fun (A : Option Addr) (c : Nat) (W : World) (hA : Sl W A (l.map bv)) => (show Calls Tryd.prog 15 #[.slice A n c] W (MadeMem W (St.ofBytes nl l)) by
    have := pOf_yes (w := W) (A := A) (cap := c) (nl := nl) (l := l) (by rw [hn, hnl]) hA hby hnl0 hnl1
    rwa [← hnl] at this)
  have HK := Lib.hid fun (W : World) (R : Rms W) => known12_any W R
  have HR := Lib.hid R
  have hcells := sl_cells hs
  have hkl : (l.map bv).length = n * 1 := by rw [List.length_map, hn]; omega
  have h63 : 0 + n ≤ maxLen := by unfold maxLen; omega
  have hbyt : (0 + n) * 1 ≤ 140737488355328 := by omega
  have hn0 : 0 < n := by omega
  have HSL := Lib.hid hs
  have HLL := Lib.hid hn
  have HNL := Lib.hid hnl
  have HBY := Lib.hid hby
  have arm0 := hcells
  by_cases h512 : 512 < n
  · have cs : decide ((512 : Int) < (n : Int)) = true := by simp; omega
    have cs2 : decide (512 < n) = true := by simp; omega
    clear R hs hm hn hnl hby
    go_enter Tryd.func4, Tryd.ntmps4
    go_wp2_with (at_builtin; refine wpList_append_own _ rfl (.const (.slice none 0 0)) (.tmp 16) 37 rfl w.heap.size 5 i0 (.int .u8 0) 1 1 Tryd.underlying37 hi hz0 hz1 hz2 rfl (by decide) _ 0 [] rfl (World.ownsRow_nil _ _ _ _) x n cap (l.map bv) rfl hkl hcells (bv_ones l) h63 hbyt (Nat.le_refl _) ?_; intro v6 w6 hown6 hgrow6 hnil6; simp only [Nat.zero_add, List.nil_append] at hown6; have hb6 : Below w.heap.size w w6 := (Below.refl _ _).grown hgrow6 (Nat.le_refl _) (by intro q hq; cases hq); obtain ⟨A6, cap6, rfl, _, _, hsl6, _⟩ := own_sl hown6; have HOX := Lib.hid (HO.out A6 cap6 w6 hsl6); have HB6 := Lib.hid hb6; clear hown6 hgrow6 hnil6 hb6 hsl6)
    refine HOX.out.mono ?_
    rintro e w1 ⟨y, rfl, _, _, hb1⟩
    have HB1 := Lib.hid (Below.and HB6.out hb1)
    clear hb1 HOX
    go_wp2_with fail
    refine (HK.out _ (HR.out.below HB1.out)).mono ?_
    rintro e w2 ⟨rfl, hb⟩
    have HB := Lib.hid hb
    clear hb
    go_wp2
    go_ret
    exact ⟨rfl, Below.and HB1.out HB.out⟩
  have cs : decide ((512 : Int) < (n : Int)) = false := by simp; omega
  have cs2 : decide (512 < n) = false := by simp; omega
  have hvl : (St.ofBytes nl l).view = cutTo l (8 * nl) := wordsK_cut (by rw [hn, hnl])
  have hll : (St.ofBytes nl l).lasted = cutTo l (8 * nl) := wordsK_cut (by rw [hn, hnl])
  have HSTD := Lib.hid fun (W : World) (hb : Below w.heap.size w W) => stands_any l (some x) n cap (8 * nl) b W hn (by omega) (by omega) hb64 hby (hs.below hb)
  have HOK := Lib.hid (ofBytes_Ok (nl := nl) hby)
  have HBB := Lib.hid (show bytesL (St.ofBytes nl l).lasted = l by rw [hll]; exact bytes_cut hby (by omega))
  have HBLN := Lib.hid (show (bytesL (St.ofBytes nl l).lasted).length = n by rw [HBB.out, hn])
  have HVLN := Lib.hid (show (St.ofBytes nl l).view.length = 8 * (St.ofBytes nl l).nl by rw [hvl, cutTo_length]; rfl)
  have HCV0 := Lib.hid fun (W : World) (hb : Below w.heap.size w W) => conv_any (w := W) n cap hn (hs.below hb) (fun h => by cases h)
  have HSZ := Lib.hid (fun h => stS_size (vl := (St.ofBytes nl l).view) (b := b) h)
  rw [← hvl] at HSTD
  have HDD := Lib.hid (show (St.ofBytes nl l).did + 64 < 9223372036854775808 by show 0 + 0 + 0 + 0 + 64 < _; omega)
  have HNLn := Lib.hid (show (St.ofBytes nl l).nl = nl from rfl)
  obtain ⟨s0, hs0⟩ : ∃ s0, s0 = St.ofBytes nl l := ⟨_, rfl⟩
  rw [← hs0] at HO HOK HBB HBLN HVLN HSTD HSZ HDD HNLn
  obtain ⟨S, hS⟩ : ∃ S, S = strOf l := ⟨_, rfl⟩
  have HSS := Lib.hid hS
  have hz : ((64 * nl : Nat) : Int) ≠ 0 := by omega
  have HZ := Lib.hid hz
  clear R hs hm hn hnl hby hvl hll hs0 hS hz
  go_enter Tryd.func4, Tryd.ntmps4
  go_wp2_with (at_builtin; refine wpList_append_own _ rfl (.const (.slice none 0 0)) (.tmp 16) 37 rfl w.heap.size 5 i0 (.int .u8 0) 1 1 Tryd.underlying37 hi hz0 hz1 hz2 rfl (by decide) _ 0 [] rfl (World.ownsRow_nil _ _ _ _) x n cap (l.map bv) rfl hkl hcells (bv_ones l) h63 hbyt (Nat.le_refl _) ?_; intro v6 w6 hown6 hgrow6 hnil6; simp only [Nat.zero_add, List.nil_append] at hown6; have hb6 : Below w.heap.size w w6 := (Below.refl _ _).grown hgrow6 (Nat.le_refl _) (by intro q hq; cases hq); obtain ⟨A6, cap6, rfl, _, _, hsl6, _⟩ := own_sl hown6; have HOX := Lib.hid (HO.out A6 cap6 w6 hsl6); have HB6 := Lib.hid hb6; clear hown6 hgrow6 hnil6 hb6 hsl6)
  refine HOX.out.mono ?_
  rintro e w1 ⟨y, rfl, hm1, hfp, hb1⟩
  have HM1 := Lib.hid hm1
  have HFP := Lib.hid hfp
  have HB1 := Lib.hid (Below.and HB6.out hb1)
  have HS6 := Lib.hid HB6.out.size
  obtain ⟨g0, hg0⟩ : ∃ g0, g0 = y.g := ⟨_, rfl⟩
  rw [← hg0]
  have HG0 := Lib.hid hg0
  have HNW := Lib.hid (vNew_any (w := w1) (some ⟨g0, 0, none⟩) b)
  clear hm1 hfp hb1 HOX hg0 hcells arm0
  go_wp2_with fail
  refine HNW.out.mono ?_
  rintro e w2 ⟨rfl, hr2, hb2⟩
  have hsz := size_yes (HM1.out.below hb2)
  rw [← HG0.out, HNLn.out] at hsz
  have HVN := Lib.hid (vValue_not hr2 HZ.out hsz)
  have sep2 : Sep y w1.heap.size := fun q hq => HM1.out.lt q hq
  have hr2' : RdAt w2 w1.heap.size w1.heap.size b (some ⟨y.g, 0, none⟩) 37 [] ⟨#[]⟩ false 0 (.slice none 0 0) := by rw [← HG0.out]; exact hr2
  have hwh := whole12_any (HM1.out.below hb2) HOK.out hr2' sep2 HVLN.out hb64 HDD.out
  rw [← HG0.out] at hwh
  have HWH := Lib.hid hwh
  have HB2 := Lib.hid hb2
  clear hr2 hr2' sep2 hwh hb2 HNW hsz
  go_wp2_with fail
  refine HVN.out.mono ?_
  rintro e w3 ⟨rfl, rfl⟩
  go_wp2_with fail
  refine HWH.out.mono ?_
  rintro e w9 ⟨i, rfl, hi1, hi16, hik, f9, V9, l9, ws9, hr9, hm9, hl9, hb9⟩
  have hlow9 : Below w.heap.size w w9 := Below.trans (Below.and HB1.out HB2.out) (hb9.below (by have := HB1.out.size; have := HB2.out.size; omega) (fun q hq => by
    rcases hq with hq | hq
    · exact Nat.le_trans HS6.out (HFP.out q hq)
    · have := HB1.out.size; omega))
  have HVD := Lib.hid (vValue_done hr9)
  have hmg : ∀ (W : World) (hb : Below w9.heap.size w9 W), Calls Tryd.prog 20 #[.pointer (some ⟨g0, 0, none⟩)] W (BytesPost W (bytesL s0.lasted)) := fun W hb => by
    have := image_yes (hm9.below hb) HOK.out.las
    rw [← HG0.out] at this
    exact this
  have HIM := Lib.hid hmg
  have HL9 := Lib.hid hlow9
  have hfit : stK s0.view b = 0 → (i : Int) ≤ vw ((stS s0.view b).size : Int) + 1 := fun h => by
    have h1 := hik h
    rw [HSZ.out h, vw_cnt, h1.1]; omega
  obtain ⟨T, hT⟩ : ∃ T, T = stS s0.view b := ⟨_, rfl⟩
  obtain ⟨K, hK⟩ : ∃ K, K = stK s0.view b := ⟨_, rfl⟩
  rw [← hT, ← hK] at HVD HSTD hfit
  have HFT := Lib.hid hfit
  have HTT := Lib.hid hT
  have HKKK := Lib.hid hK
  have d1 : decide ((i : Int) < 1) = false := by simp; omega
  have d4 : decide (i < 1) = false := by simp; omega
  clear hr9 hm9 hb9 hmg hlow9 HWH hik hfit hT hK HVN
  go_wp2_with fail
  refine HVD.out.mono ?_
  rintro e w10 ⟨rfl, hb10⟩
  have HB10 := Lib.hid hb10
  clear hb10 HVD
  go_wp2_with fail
  refine (HSTD.out w10 (Below.and HL9.out HB10.out)).mono ?_
  rintro e w11 ⟨rfl, hb11⟩
  have kk : (K != K) = false := by simp
  have HB11 := Lib.hid (Below.and HB10.out hb11)
  clear hb11 HSTD HB10
  go_wp2_with fail
  have HL10 := Lib.hid (show Below w.heap.size w w11.drew from Below.and (Below.and HL9.out HB11.out) (drew_below _))
  have HIMc := Lib.hid (HIM.out w11.drew (Below.and HB11.out (drew_below _)))
  have R10 := Lib.hid (HR.out.below HL10.out)
  have HCV := Lib.hid fun (W : World) (hb : Below w11.drew.heap.size w11.drew W) => HCV0.out W (Below.and HL10.out hb)
  have c0 := HCV.out w11.drew (Below.refl _ _)
  rw [← HSS.out] at c0
  have HKN := HK
  have HW12 := Lib.hid fun (W : World) => r12Words_any (T.size : Int) W
  obtain ⟨tw, htw⟩ : ∃ tw, tw = vw (T.size : Int) := ⟨_, rfl⟩
  have htw0 : 0 ≤ tw ∧ tw ≤ 16 := by rw [htw]; exact vw_range _
  obtain ⟨htw1, htw2⟩ := htw0
  rw [← htw] at HW12 HFT
  have wtw : IntKind.i64.wrap (tw + 1) = tw + 1 := by rw [IntKind.wrap_i64]; omega
  obtain ⟨kb, hkb⟩ : ∃ kb, (K != 0) = kb := ⟨_, rfl⟩
  have HKB := Lib.hid (show (kb = false ∧ ((i : Int) ≤ tw + 1 ∧ True)) ∨ (kb = true ∧ True) by
    by_cases h : K = 0
    · exact .inl ⟨by rw [← hkb, h]; rfl, HFT.out h, trivial⟩
    · exact .inr ⟨by rw [← hkb]; simp [bne, h], trivial⟩)
  clear HIM HCV0 HFT HTT HKKK htw HOK HSZ HDD HVLN HM1 HFP
  refine wp_region_any (by kernel_rfl) ?_
  change wpAny _ _ _ _ _ _ _ (World.drew _)
  refine wpAny_take (i := 0) (oi := ⟨some 84, _, _, _, _, _⟩) (v := .pointer (some ⟨g0, 0, none⟩)) rfl (by kernel_rfl) (by kernel_rfl) (by kernel_rfl) (fun _ _ _ h => h) (Or.inl ⟨by kernel_rfl, by intro w; go_simp⟩) ?_
  simp only [Act.put, List.setIfInBounds_toArray, List.set_cons_zero, List.set_cons_succ]
  refine wpAny_take (i := 3) (oi := ⟨some 87, _, _, _, _, _⟩) (v := .slice (some x) n cap) rfl (by kernel_rfl) (by kernel_rfl) (by kernel_rfl) (fun _ _ _ h => h) (Or.inl ⟨by kernel_rfl, by intro w; go_simp⟩) ?_
  simp only [Act.put, List.setIfInBounds_toArray, List.set_cons_zero, List.set_cons_succ]
  refine wpAny_ready (rs := [1, 4]) (by kernel_rfl) (by simp) ?_
  refine AllReady.cons rfl (fun K hK => ?_) (AllReady.cons rfl (fun K hK => ?_) AllReady.nil)
  · skip
    go_simp
    refine HIMc.out.mono ?_
    rintro e wi ⟨⟨VI, rfl, hown⟩, hbi⟩
    obtain ⟨AI, capI, rfl, hci1, hci2, hslI, hlI⟩ := own_sl hown
    have hbl := HBLN.out
    rw [hbl] at hown hci1 hlI ⊢
    have c1 := conv_any n capI (HLL.out) (by rw [← HBB.out]; exact hslI) (fun h => by subst h; have := own_none0 hown; omega)
    have c2 := HCV.out wi hbi
    rw [← HSS.out] at c1 c2
    have HBI := Lib.hid hbi
    clear hown hslI hbi hbl hlI
    refine hK _ _ ?_
    clear hK K
    refine wpAny_ready (rs := [2, 4]) (by kernel_rfl) (by simp) ?_
    refine AllReady.cons rfl (fun K hK => ?_) (AllReady.cons rfl (fun K hK => ?_) AllReady.nil)
    · skip
      go_simp
      refine hK _ _ ?_
      clear hK K
      refine wpAny_ready (rs := [4]) (by kernel_rfl) (by simp) ?_
      refine AllReady.cons rfl (fun K hK => ?_) AllReady.nil
      go_simp
      refine hK _ _ ?_
      clear hK K
      refine wpAny_take (i := 5) (oi := ⟨some 89, _, _, _, _, _⟩) (v := .bool true) rfl (by kernel_rfl) (by kernel_rfl) (by kernel_rfl) (fun _ _ _ h => h) (Or.inl ⟨by kernel_rfl, by intro w; go_simp⟩) ?_
      simp only [Act.put, List.setIfInBounds_toArray, List.set_cons_zero, List.set_cons_succ]
      refine wpAny_take (i := 6) (oi := ⟨some 90, _, _, _, _, _⟩) (v := .bool true) rfl (by kernel_rfl) (by kernel_rfl) (by kernel_rfl) (fun _ _ _ h => h) (Or.inl ⟨by kernel_rfl, by intro w; go_simp⟩) ?_
      simp only [Act.put, List.setIfInBounds_toArray, List.set_cons_zero, List.set_cons_succ]
      refine wpAny_take (i := 7) (oi := ⟨some 91, _, _, _, _, _⟩) (v := .int .i64 K) rfl (by kernel_rfl) (by kernel_rfl) (by kernel_rfl) (fun _ _ _ h => h) (Or.inl ⟨by kernel_rfl, by intro w; go_simp⟩) ?_
      simp only [Act.put, List.setIfInBounds_toArray, List.set_cons_zero, List.set_cons_succ]
      refine wpAny_take (i := 8) (oi := ⟨some 92, _, _, _, _, _⟩) (v := .bool kb) rfl (by kernel_rfl) (by kernel_rfl) (by kernel_rfl) (fun _ _ _ h => h) (Or.inl ⟨by kernel_rfl, by intro w; go_simp⟩) ?_
      simp only [Act.put, List.setIfInBounds_toArray, List.set_cons_zero, List.set_cons_succ]
      refine wpAny_take (i := 9) (oi := ⟨some 93, _, _, _, _, _⟩) (v := .bool kb) rfl (by kernel_rfl) (by kernel_rfl) (by kernel_rfl) (fun _ _ _ h => h) (Or.inl ⟨by kernel_rfl, by intro w; go_simp⟩) ?_
      simp only [Act.put, List.setIfInBounds_toArray, List.set_cons_zero, List.set_cons_succ]
      rcases HKB.out with ⟨rfl, hi9⟩ | ⟨rfl, hi9⟩
      · skip
        refine wpAny_take (i := 10) (oi := ⟨some 94, _, _, _, _, _⟩) (v := .int .i64 (i : Int)) rfl (by kernel_rfl) (by kernel_rfl) (by kernel_rfl) (fun _ _ _ h => h) (Or.inl ⟨by kernel_rfl, by intro w; go_simp⟩) ?_
        simp only [Act.put, List.setIfInBounds_toArray, List.set_cons_zero, List.set_cons_succ]
        refine wpAny_take (i := 11) (oi := ⟨some 95, _, _, _, _, _⟩) (v := .string T) rfl (by kernel_rfl) (by kernel_rfl) (by kernel_rfl) (fun _ _ _ h => h) (Or.inl ⟨by kernel_rfl, by intro w; go_simp⟩) ?_
        simp only [Act.put, List.setIfInBounds_toArray, List.set_cons_zero, List.set_cons_succ]
        refine wpAny_take (i := 12) (oi := ⟨some 96, _, _, _, _, _⟩) (v := .int .i64 (T.size : Int)) rfl (by kernel_rfl) (by kernel_rfl) (by kernel_rfl) (fun _ _ _ h => h) (Or.inl ⟨by kernel_rfl, by intro w; go_simp⟩) ?_
        simp only [Act.put, List.setIfInBounds_toArray, List.set_cons_zero, List.set_cons_succ]
        refine wpAny_ready (rs := [13]) (by kernel_rfl) (by simp) ?_
        refine AllReady.cons rfl (fun K hK => ?_) AllReady.nil
        go_simp
        refine (HW12.out _).mono ?_
        rintro e wc ⟨rfl, rfl⟩
        refine hK _ _ ?_
        clear hK K
        obtain ⟨q1, q2⟩ := hi9
        refine wpAny_take (i := 14) (oi := ⟨some 98, _, _, _, _, _⟩) (v := .int .i64 (tw + 1)) rfl (by kernel_rfl) (by kernel_rfl) (by kernel_rfl) (fun _ _ _ h => h) (Or.inl ⟨by kernel_rfl, by intro w; go_simp⟩) ?_
        simp only [Act.put, List.setIfInBounds_toArray, List.set_cons_zero, List.set_cons_succ]
        refine wpAny_take (i := 15) (oi := ⟨some 99, _, _, _, _, _⟩) (v := .bool true) rfl (by kernel_rfl) (by kernel_rfl) (by kernel_rfl) (fun _ _ _ h => h) (Or.inl ⟨by kernel_rfl, by intro w; go_simp⟩) ?_
        simp only [Act.put, List.setIfInBounds_toArray, List.set_cons_zero, List.set_cons_succ]
        refine wpAny_take (i := 16) (oi := ⟨some 100, _, _, _, _, _⟩) (v := .bool true) rfl (by kernel_rfl) (by kernel_rfl) (by kernel_rfl) (fun _ _ _ h => h) (Or.inl ⟨by kernel_rfl, by intro w; go_simp⟩) ?_
        simp only [Act.put, List.setIfInBounds_toArray, List.set_cons_zero, List.set_cons_succ]
        refine wpAny_take (i := 17) (oi := ⟨some 101, _, _, _, _, _⟩) (v := .bool true) rfl (by kernel_rfl) (by kernel_rfl) (by kernel_rfl) (fun _ _ _ h => h) (Or.inl ⟨by kernel_rfl, by intro w; go_simp⟩) ?_
        simp only [Act.put, List.setIfInBounds_toArray, List.set_cons_zero, List.set_cons_succ]
        refine wpAny_take (i := 18) (oi := ⟨some 102, _, _, _, _, _⟩) (v := .bool true) rfl (by kernel_rfl) (by kernel_rfl) (by kernel_rfl) (fun _ _ _ h => h) (Or.inl ⟨by kernel_rfl, by intro w; go_simp⟩) ?_
        simp only [Act.put, List.setIfInBounds_toArray, List.set_cons_zero, List.set_cons_succ]
        refine wpAny_ready (rs := [19]) (by kernel_rfl) (by simp) ?_
        refine AllReady.cons rfl (fun K hK => ?_) AllReady.nil
        go_simp
        refine (HKN.out _ (R10.out.below HBI.out)).mono ?_
        rintro e wk ⟨rfl, hbk⟩
        have HBK := Lib.hid hbk
        refine hK _ _ ?_
        clear hK K hbk
        refine wpAny_take (i := 20) (oi := ⟨some 104, _, _, _, _, _⟩) (v := .bool true) rfl (by kernel_rfl) (by kernel_rfl) (by kernel_rfl) (fun _ _ _ h => h) (Or.inl ⟨by kernel_rfl, by intro w; go_simp⟩) ?_
        simp only [Act.put, List.setIfInBounds_toArray, List.set_cons_zero, List.set_cons_succ]
        refine wpAny_take (i := 21) (oi := ⟨some 4, _, _, _, _, _⟩) (v := .bool true) rfl (by kernel_rfl) (by kernel_rfl) (by kernel_rfl) (fun _ _ _ h => h) (Or.inl ⟨by kernel_rfl, by intro w; go_simp⟩) ?_
        simp only [Act.put, List.setIfInBounds_toArray, List.set_cons_zero, List.set_cons_succ]
        refine wpAny_done (by kernel_rfl) ?_ _
        go_wp2
        go_ret
        exact ⟨rfl, Below.and HL10.out (Below.and HBI.out HBK.out)⟩
      · skip
        refine wpAny_take (i := 10) (oi := ⟨some 94, _, _, _, _, _⟩) (v := undef) rfl (by kernel_rfl) (by kernel_rfl) (by kernel_rfl) (fun _ _ _ h => h) (Or.inr ⟨by rfl, rfl⟩) ?_
        simp only [Act.put, List.setIfInBounds_toArray, List.set_cons_zero, List.set_cons_succ]
        refine wpAny_take (i := 11) (oi := ⟨some 95, _, _, _, _, _⟩) (v := undef) rfl (by kernel_rfl) (by kernel_rfl) (by kernel_rfl) (fun _ _ _ h => h) (Or.inr ⟨by rfl, rfl⟩) ?_
        simp only [Act.put, List.setIfInBounds_toArray, List.set_cons_zero, List.set_cons_succ]
        refine wpAny_take (i := 12) (oi := ⟨some 96, _, _, _, _, _⟩) (v := undef) rfl (by kernel_rfl) (by kernel_rfl) (by kernel_rfl) (fun _ _ _ h => h) (Or.inr ⟨by rfl, rfl⟩) ?_
        simp only [Act.put, List.setIfInBounds_toArray, List.set_cons_zero, List.set_cons_succ]
        refine wpAny_take (i := 13) (oi := ⟨some 97, _, _, _, _, _⟩) (v := undef) rfl (by kernel_rfl) (by kernel_rfl) (by kernel_rfl) (fun _ _ _ h => h) (Or.inr ⟨by rfl, rfl⟩) ?_
        simp only [Act.put, List.setIfInBounds_toArray, List.set_cons_zero, List.set_cons_succ]
        refine wpAny_take (i := 14) (oi := ⟨some 98, _, _, _, _, _⟩) (v := undef) rfl (by kernel_rfl) (by kernel_rfl) (by kernel_rfl) (fun _ _ _ h => h) (Or.inr ⟨by rfl, rfl⟩) ?_
        simp only [Act.put, List.setIfInBounds_toArray, List.set_cons_zero, List.set_cons_succ]
        refine wpAny_take (i := 15) (oi := ⟨some 99, _, _, _, _, _⟩) (v := undef) rfl (by kernel_rfl) (by kernel_rfl) (by kernel_rfl) (fun _ _ _ h => h) (Or.inr ⟨by rfl, rfl⟩) ?_
        simp only [Act.put, List.setIfInBounds_toArray, List.set_cons_zero, List.set_cons_succ]
        refine wpAny_take (i := 16) (oi := ⟨some 100, _, _, _, _, _⟩) (v := .bool true) rfl (by kernel_rfl) (by kernel_rfl) (by kernel_rfl) (fun _ _ _ h => h) (Or.inl ⟨by kernel_rfl, by intro w; go_simp⟩) ?_
        simp only [Act.put, List.setIfInBounds_toArray, List.set_cons_zero, List.set_cons_succ]
        refine wpAny_take (i := 17) (oi := ⟨some 101, _, _, _, _, _⟩) (v := .bool true) rfl (by kernel_rfl) (by kernel_rfl) (by kernel_rfl) (fun _ _ _ h => h) (Or.inl ⟨by kernel_rfl, by intro w; go_simp⟩) ?_
        simp only [Act.put, List.setIfInBounds_toArray, List.set_cons_zero, List.set_cons_succ]
        refine wpAny_take (i := 18) (oi := ⟨some 102, _, _, _, _, _⟩) (v := .bool true) rfl (by kernel_rfl) (by kernel_rfl) (by kernel_rfl) (fun _ _ _ h => h) (Or.inl ⟨by kernel_rfl, by intro w; go_simp⟩) ?_
        simp only [Act.put, List.setIfInBounds_toArray, List.set_cons_zero, List.set_cons_succ]
        refine wpAny_ready (rs := [19]) (by kernel_rfl) (by simp) ?_
        refine AllReady.cons rfl (fun K hK => ?_) AllReady.nil
        go_simp
        refine (HKN.out _ (R10.out.below HBI.out)).mono ?_
        rintro e wk ⟨rfl, hbk⟩
        have HBK := Lib.hid hbk
        refine hK _ _ ?_
        clear hK K hbk
        refine wpAny_take (i := 20) (oi := ⟨some 104, _, _, _, _, _⟩) (v := .bool true) rfl (by kernel_rfl) (by kernel_rfl) (by kernel_rfl) (fun _ _ _ h => h) (Or.inl ⟨by kernel_rfl, by intro w; go_simp⟩) ?_
        simp only [Act.put, List.setIfInBounds_toArray, List.set_cons_zero, List.set_cons_succ]
        refine wpAny_take (i := 21) (oi := ⟨some 4, _, _, _, _, _⟩) (v := .bool true) rfl (by kernel_rfl) (by kernel_rfl) (by kernel_rfl) (fun _ _ _ h => h) (Or.inl ⟨by kernel_rfl, by intro w; go_simp⟩) ?_
        simp only [Act.put, List.setIfInBounds_toArray, List.set_cons_zero, List.set_cons_succ]
        refine wpAny_done (by kernel_rfl) ?_ _
        go_wp2
        go_ret
        exact ⟨rfl, Below.and HL10.out (Below.and HBI.out HBK.out)⟩
    · skip
      go_simp
      refine hK _ _ ?_
      clear hK K
      refine wpAny_ready (rs := [2]) (by kernel_rfl) (by simp) ?_
      refine AllReady.cons rfl (fun K hK => ?_) AllReady.nil
      go_simp
      refine hK _ _ ?_
      clear hK K
      refine wpAny_take (i := 5) (oi := ⟨some 89, _, _, _, _, _⟩) (v := .bool true) rfl (by kernel_rfl) (by kernel_rfl) (by kernel_rfl) (fun _ _ _ h => h) (Or.inl ⟨by kernel_rfl, by intro w; go_simp⟩) ?_
      simp only [Act.put, List.setIfInBounds_toArray, List.set_cons_zero, List.set_cons_succ]
      refine wpAny_take (i := 6) (oi := ⟨some 90, _, _, _, _, _⟩) (v := .bool true) rfl (by kernel_rfl) (by kernel_rfl) (by kernel_rfl) (fun _ _ _ h => h) (Or.inl ⟨by kernel_rfl, by intro w; go_simp⟩) ?_
      simp only [Act.put, List.setIfInBounds_toArray, List.set_cons_zero, List.set_cons_succ]
      refine wpAny_take (i := 7) (oi := ⟨some 91, _, _, _, _, _⟩) (v := .int .i64 K) rfl (by kernel_rfl) (by kernel_rfl) (by kernel_rfl) (fun _ _ _ h => h) (Or.inl ⟨by kernel_rfl, by intro w; go_simp⟩) ?_
      simp only [Act.put, List.setIfInBounds_toArray, List.set_cons_zero, List.set_cons_succ]
      refine wpAny_take (i := 8) (oi := ⟨some 92, _, _, _, _, _⟩) (v := .bool kb) rfl (by kernel_rfl) (by kernel_rfl) (by kernel_rfl) (fun _ _ _ h => h) (Or.inl ⟨by kernel_rfl, by intro w; go_simp⟩) ?_
      simp only [Act.put, List.setIfInBounds_toArray, List.set_cons_zero, List.set_cons_succ]
      refine wpAny_take (i := 9) (oi := ⟨some 93, _, _, _, _, _⟩) (v := .bool kb) rfl (by kernel_rfl) (by kernel_rfl) (by kernel_rfl) (fun _ _ _ h => h) (Or.inl ⟨by kernel_rfl, by intro w; go_simp⟩) ?_
      simp only [Act.put, List.setIfInBounds_toArray, List.set_cons_zero, List.set_cons_succ]
      rcases HKB.out with ⟨rfl, hi9⟩ | ⟨rfl, hi9⟩
      · skip
        refine wpAny_take (i := 10) (oi := ⟨some 94, _, _, _, _, _⟩) (v := .int .i64 (i : Int)) rfl (by kernel_rfl) (by kernel_rfl) (by kernel_rfl) (fun _ _ _ h => h) (Or.inl ⟨by kernel_rfl, by intro w; go_simp⟩) ?_
        simp only [Act.put, List.setIfInBounds_toArray, List.set_cons_zero, List.set_cons_succ]
        refine wpAny_take (i := 11) (oi := ⟨some 95, _, _, _, _, _⟩) (v := .string T) rfl (by kernel_rfl) (by kernel_rfl) (by kernel_rfl) (fun _ _ _ h => h) (Or.inl ⟨by kernel_rfl, by intro w; go_simp⟩) ?_
        simp only [Act.put, List.setIfInBounds_toArray, List.set_cons_zero, List.set_cons_succ]
        refine wpAny_take (i := 12) (oi := ⟨some 96, _, _, _, _, _⟩) (v := .int .i64 (T.size : Int)) rfl (by kernel_rfl) (by kernel_rfl) (by kernel_rfl) (fun _ _ _ h => h) (Or.inl ⟨by kernel_rfl, by intro w; go_simp⟩) ?_
        simp only [Act.put, List.setIfInBounds_toArray, List.set_cons_zero, List.set_cons_succ]
        refine wpAny_ready (rs := [13]) (by kernel_rfl) (by simp) ?_
        refine AllReady.cons rfl (fun K hK => ?_) AllReady.nil
        go_simp
        refine (HW12.out _).mono ?_
        rintro e wc ⟨rfl, rfl⟩
        refine hK _ _ ?_
        clear hK K
        obtain ⟨q1, q2⟩ := hi9
        refine wpAny_take (i := 14) (oi := ⟨some 98, _, _, _, _, _⟩) (v := .int .i64 (tw + 1)) rfl (by kernel_rfl) (by kernel_rfl) (by kernel_rfl) (fun _ _ _ h => h) (Or.inl ⟨by kernel_rfl, by intro w; go_simp⟩) ?_
        simp only [Act.put, List.setIfInBounds_toArray, List.set_cons_zero, List.set_cons_succ]
        refine wpAny_take (i := 15) (oi := ⟨some 99, _, _, _, _, _⟩) (v := .bool true) rfl (by kernel_rfl) (by kernel_rfl) (by kernel_rfl) (fun _ _ _ h => h) (Or.inl ⟨by kernel_rfl, by intro w; go_simp⟩) ?_
        simp only [Act.put, List.setIfInBounds_toArray, List.set_cons_zero, List.set_cons_succ]
        refine wpAny_take (i := 16) (oi := ⟨some 100, _, _, _, _, _⟩) (v := .bool true) rfl (by kernel_rfl) (by kernel_rfl) (by kernel_rfl) (fun _ _ _ h => h) (Or.inl ⟨by kernel_rfl, by intro w; go_simp⟩) ?_
        simp only [Act.put, List.setIfInBounds_toArray, List.set_cons_zero, List.set_cons_succ]
        refine wpAny_take (i := 17) (oi := ⟨some 101, _, _, _, _, _⟩) (v := .bool true) rfl (by kernel_rfl) (by kernel_rfl) (by kernel_rfl) (fun _ _ _ h => h) (Or.inl ⟨by kernel_rfl, by intro w; go_simp⟩) ?_
        simp only [Act.put, List.setIfInBounds_toArray, List.set_cons_zero, List.set_cons_succ]
        refine wpAny_take (i := 18) (oi := ⟨some 102, _, _, _, _, _⟩) (v := .bool true) rfl (by kernel_rfl) (by kernel_rfl) (by kernel_rfl) (fun _ _ _ h => h) (Or.inl ⟨by kernel_rfl, by intro w; go_simp⟩) ?_
        simp only [Act.put, List.setIfInBounds_toArray, List.set_cons_zero, List.set_cons_succ]
        refine wpAny_ready (rs := [19]) (by kernel_rfl) (by simp) ?_
        refine AllReady.cons rfl (fun K hK => ?_) AllReady.nil
        go_simp
        refine (HKN.out _ (R10.out.below HBI.out)).mono ?_
        rintro e wk ⟨rfl, hbk⟩
        have HBK := Lib.hid hbk
        refine hK _ _ ?_
        clear hK K hbk
        refine wpAny_take (i := 20) (oi := ⟨some 104, _, _, _, _, _⟩) (v := .bool true) rfl (by kernel_rfl) (by kernel_rfl) (by kernel_rfl) (fun _ _ _ h => h) (Or.inl ⟨by kernel_rfl, by intro w; go_simp⟩) ?_
        simp only [Act.put, List.setIfInBounds_toArray, List.set_cons_zero, List.set_cons_succ]
        refine wpAny_take (i := 21) (oi := ⟨some 4, _, _, _, _, _⟩) (v := .bool true) rfl (by kernel_rfl) (by kernel_rfl) (by kernel_rfl) (fun _ _ _ h => h) (Or.inl ⟨by kernel_rfl, by intro w; go_simp⟩) ?_
        simp only [Act.put, List.setIfInBounds_toArray, List.set_cons_zero, List.set_cons_succ]
        refine wpAny_done (by kernel_rfl) ?_ _
        go_wp2
        go_ret
        exact ⟨rfl, Below.and HL10.out (Below.and HBI.out HBK.out)⟩
      · skip
        refine wpAny_take (i := 10) (oi := ⟨some 94, _, _, _, _, _⟩) (v := undef) rfl (by kernel_rfl) (by kernel_rfl) (by kernel_rfl) (fun _ _ _ h => h) (Or.inr ⟨by rfl, rfl⟩) ?_
        simp only [Act.put, List.setIfInBounds_toArray, List.set_cons_zero, List.set_cons_succ]
        refine wpAny_take (i := 11) (oi := ⟨some 95, _, _, _, _, _⟩) (v := undef) rfl (by kernel_rfl) (by kernel_rfl) (by kernel_rfl) (fun _ _ _ h => h) (Or.inr ⟨by rfl, rfl⟩) ?_
        simp only [Act.put, List.setIfInBounds_toArray, List.set_cons_zero, List.set_cons_succ]
        refine wpAny_take (i := 12) (oi := ⟨some 96, _, _, _, _, _⟩) (v := undef) rfl (by kernel_rfl) (by kernel_rfl) (by kernel_rfl) (fun _ _ _ h => h) (Or.inr ⟨by rfl, rfl⟩) ?_
        simp only [Act.put, List.setIfInBounds_toArray, List.set_cons_zero, List.set_cons_succ]
        refine wpAny_take (i := 13) (oi := ⟨some 97, _, _, _, _, _⟩) (v := undef) rfl (by kernel_rfl) (by kernel_rfl) (by kernel_rfl) (fun _ _ _ h => h) (Or.inr ⟨by rfl, rfl⟩) ?_
        simp only [Act.put, List.setIfInBounds_toArray, List.set_cons_zero, List.set_cons_succ]
        refine wpAny_take (i := 14) (oi := ⟨some 98, _, _, _, _, _⟩) (v := undef) rfl (by kernel_rfl) (by kernel_rfl) (by kernel_rfl) (fun _ _ _ h => h) (Or.inr ⟨by rfl, rfl⟩) ?_
        simp only [Act.put, List.setIfInBounds_toArray, List.set_cons_zero, List.set_cons_succ]
        refine wpAny_take (i := 15) (oi := ⟨some 99, _, _, _, _, _⟩) (v := undef) rfl (by kernel_rfl) (by kernel_rfl) (by kernel_rfl) (fun _ _ _ h => h) (Or.inr ⟨by rfl, rfl⟩) ?_
        simp only [Act.put, List.setIfInBounds_toArray, List.set_cons_zero, List.set_cons_succ]
        refine wpAny_take (i := 16) (oi := ⟨some 100, _, _, _, _, _⟩) (v := .bool true) rfl (by kernel_rfl) (by kernel_rfl) (by kernel_rfl) (fun _ _ _ h => h) (Or.inl ⟨by kernel_rfl, by intro w; go_simp⟩) ?_
        simp only [Act.put, List.setIfInBounds_toArray, List.set_cons_zero, List.set_cons_succ]
        refine wpAny_take (i := 17) (oi := ⟨some 101, _, _, _, _, _⟩) (v := .bool true) rfl (by kernel_rfl) (by kernel_rfl) (by kernel_rfl) (fun _ _ _ h => h) (Or.inl ⟨by kernel_rfl, by intro w; go_simp⟩) ?_
        simp only [Act.put, List.setIfInBounds_toArray, List.set_cons_zero, List.set_cons_succ]
        refine wpAny_take (i := 18) (oi := ⟨some 102, _, _, _, _, _⟩) (v := .bool true) rfl (by kernel_rfl) (by kernel_rfl) (by kernel_rfl) (fun _ _ _ h => h) (Or.inl ⟨by kernel_rfl, by intro w; go_simp⟩) ?_
        simp only [Act.put, List.setIfInBounds_toArray, List.set_cons_zero, List.set_cons_succ]
        refine wpAny_ready (rs := [19]) (by kernel_rfl) (by simp) ?_
        refine AllReady.cons rfl (fun K hK => ?_) AllReady.nil
        go_simp
        refine (HKN.out _ (R10.out.below HBI.out)).mono ?_
        rintro e wk ⟨rfl, hbk⟩
        have HBK := Lib.hid hbk
        refine hK _ _ ?_
        clear hK K hbk
        refine wpAny_take (i := 20) (oi := ⟨some 104, _, _, _, _, _⟩) (v := .bool true) rfl (by kernel_rfl) (by kernel_rfl) (by kernel_rfl) (fun _ _ _ h => h) (Or.inl ⟨by kernel_rfl, by intro w; go_simp⟩) ?_
        simp only [Act.put, List.setIfInBounds_toArray, List.set_cons_zero, List.set_cons_succ]
        refine wpAny_take (i := 21) (oi := ⟨some 4, _, _, _, _, _⟩) (v := .bool true) rfl (by kernel_rfl) (by kernel_rfl) (by kernel_rfl) (fun _ _ _ h => h) (Or.inl ⟨by kernel_rfl, by intro w; go_simp⟩) ?_
        simp only [Act.put, List.setIfInBounds_toArray, List.set_cons_zero, List.set_cons_succ]
        refine wpAny_done (by kernel_rfl) ?_ _
        go_wp2
        go_ret
        exact ⟨rfl, Below.and HL10.out (Below.and HBI.out HBK.out)⟩
  · skip
    go_simp
    refine hK _ _ ?_
    clear hK K
    refine wpAny_ready (rs := [1]) (by kernel_rfl) (by simp) ?_
    refine AllReady.cons rfl (fun K hK => ?_) AllReady.nil
    go_simp
    refine HIMc.out.mono ?_
    rintro e wi ⟨⟨VI, rfl, hown⟩, hbi⟩
    obtain ⟨AI, capI, rfl, hci1, hci2, hslI, hlI⟩ := own_sl hown
    have hbl := HBLN.out
    rw [hbl] at hown hci1 hlI ⊢
    have c1 := conv_any n capI (HLL.out) (by rw [← HBB.out]; exact hslI) (fun h => by subst h; have := own_none0 hown; omega)
    have c2 := HCV.out wi hbi
    rw [← HSS.out] at c1 c2
    have HBI := Lib.hid hbi
    clear hown hslI hbi hbl hlI
    refine hK _ _ ?_
    clear hK K
    refine wpAny_ready (rs := [2]) (by kernel_rfl) (by simp) ?_
    refine AllReady.cons rfl (fun K hK => ?_) AllReady.nil
    go_simp
    refine hK _ _ ?_
    clear hK K
    refine wpAny_take (i := 5) (oi := ⟨some 89, _, _, _, _, _⟩) (v := .bool true) rfl (by kernel_rfl) (by kernel_rfl) (by kernel_rfl) (fun _ _ _ h => h) (Or.inl ⟨by kernel_rfl, by intro w; go_simp⟩) ?_
    simp only [Act.put, List.setIfInBounds_toArray, List.set_cons_zero, List.set_cons_succ]
    refine wpAny_take (i := 6) (oi := ⟨some 90, _, _, _, _, _⟩) (v := .bool true) rfl (by kernel_rfl) (by kernel_rfl) (by kernel_rfl) (fun _ _ _ h => h) (Or.inl ⟨by kernel_rfl, by intro w; go_simp⟩) ?_
    simp only [Act.put, List.setIfInBounds_toArray, List.set_cons_zero, List.set_cons_succ]
    refine wpAny_take (i := 7) (oi := ⟨some 91, _, _, _, _, _⟩) (v := .int .i64 K) rfl (by kernel_rfl) (by kernel_rfl) (by kernel_rfl) (fun _ _ _ h => h) (Or.inl ⟨by kernel_rfl, by intro w; go_simp⟩) ?_
    simp only [Act.put, List.setIfInBounds_toArray, List.set_cons_zero, List.set_cons_succ]
    refine wpAny_take (i := 8) (oi := ⟨some 92, _, _, _, _, _⟩) (v := .bool kb) rfl (by kernel_rfl) (by kernel_rfl) (by kernel_rfl) (fun _ _ _ h => h) (Or.inl ⟨by kernel_rfl, by intro w; go_simp⟩) ?_
    simp only [Act.put, List.setIfInBounds_toArray, List.set_cons_zero, List.set_cons_succ]
    refine wpAny_take (i := 9) (oi := ⟨some 93, _, _, _, _, _⟩) (v := .bool kb) rfl (by kernel_rfl) (by kernel_rfl) (by kernel_rfl) (fun _ _ _ h => h) (Or.inl ⟨by kernel_rfl, by intro w; go_simp⟩) ?_
    simp only [Act.put, List.setIfInBounds_toArray, List.set_cons_zero, List.set_cons_succ]
    rcases HKB.out with ⟨rfl, hi9⟩ | ⟨rfl, hi9⟩
    · skip
      refine wpAny_take (i := 10) (oi := ⟨some 94, _, _, _, _, _⟩) (v := .int .i64 (i : Int)) rfl (by kernel_rfl) (by kernel_rfl) (by kernel_rfl) (fun _ _ _ h => h) (Or.inl ⟨by kernel_rfl, by intro w; go_simp⟩) ?_
      simp only [Act.put, List.setIfInBounds_toArray, List.set_cons_zero, List.set_cons_succ]
      refine wpAny_take (i := 11) (oi := ⟨some 95, _, _, _, _, _⟩) (v := .string T) rfl (by kernel_rfl) (by kernel_rfl) (by kernel_rfl) (fun _ _ _ h => h) (Or.inl ⟨by kernel_rfl, by intro w; go_simp⟩) ?_
      simp only [Act.put, List.setIfInBounds_toArray, List.set_cons_zero, List.set_cons_succ]
      refine wpAny_take (i := 12) (oi := ⟨some 96, _, _, _, _, _⟩) (v := .int .i64 (T.size : Int)) rfl (by kernel_rfl) (by kernel_rfl) (by kernel_rfl) (fun _ _ _ h => h) (Or.inl ⟨by kernel_rfl, by intro w; go_simp⟩) ?_
      simp only [Act.put, List.setIfInBounds_toArray, List.set_cons_zero, List.set_cons_succ]
      refine wpAny_ready (rs := [13]) (by kernel_rfl) (by simp) ?_
      refine AllReady.cons rfl (fun K hK => ?_) AllReady.nil
      go_simp
      refine (HW12.out _).mono ?_
      rintro e wc ⟨rfl, rfl⟩
      refine hK _ _ ?_
      clear hK K
      obtain ⟨q1, q2⟩ := hi9
      refine wpAny_take (i := 14) (oi := ⟨some 98, _, _, _, _, _⟩) (v := .int .i64 (tw + 1)) rfl (by kernel_rfl) (by kernel_rfl) (by kernel_rfl) (fun _ _ _ h => h) (Or.inl ⟨by kernel_rfl, by intro w; go_simp⟩) ?_
      simp only [Act.put, List.setIfInBounds_toArray, List.set_cons_zero, List.set_cons_succ]
      refine wpAny_take (i := 15) (oi := ⟨some 99, _, _, _, _, _⟩) (v := .bool true) rfl (by kernel_rfl) (by kernel_rfl) (by kernel_rfl) (fun _ _ _ h => h) (Or.inl ⟨by kernel_rfl, by intro w; go_simp⟩) ?_
      simp only [Act.put, List.setIfInBounds_toArray, List.set_cons_zero, List.set_cons_succ]
      refine wpAny_take (i := 16) (oi := ⟨some 100, _, _, _, _, _⟩) (v := .bool true) rfl (by kernel_rfl) (by kernel_rfl) (by kernel_rfl) (fun _ _ _ h => h) (Or.inl ⟨by kernel_rfl, by intro w; go_simp⟩) ?_
      simp only [Act.put, List.setIfInBounds_toArray, List.set_cons_zero, List.set_cons_succ]
      refine wpAny_take (i := 17) (oi := ⟨some 101, _, _, _, _, _⟩) (v := .bool true) rfl (by kernel_rfl) (by kernel_rfl) (by kernel_rfl) (fun _ _ _ h => h) (Or.inl ⟨by kernel_rfl, by intro w; go_simp⟩) ?_
      simp only [Act.put, List.setIfInBounds_toArray, List.set_cons_zero, List.set_cons_succ]
      refine wpAny_take (i := 18) (oi := ⟨some 102, _, _, _, _, _⟩) (v := .bool true) rfl (by kernel_rfl) (by kernel_rfl) (by kernel_rfl) (fun _ _ _ h => h) (Or.inl ⟨by kernel_rfl, by intro w; go_simp⟩) ?_
      simp only [Act.put, List.setIfInBounds_toArray, List.set_cons_zero, List.set_cons_succ]
      refine wpAny_ready (rs := [19]) (by kernel_rfl) (by simp) ?_
      refine AllReady.cons rfl (fun K hK => ?_) AllReady.nil
      go_simp
      refine (HKN.out _ (R10.out.below HBI.out)).mono ?_
      rintro e wk ⟨rfl, hbk⟩
      have HBK := Lib.hid hbk
      refine hK _ _ ?_
      clear hK K hbk
      refine wpAny_take (i := 20) (oi := ⟨some 104, _, _, _, _, _⟩) (v := .bool true) rfl (by kernel_rfl) (by kernel_rfl) (by kernel_rfl) (fun _ _ _ h => h) (Or.inl ⟨by kernel_rfl, by intro w; go_simp⟩) ?_
      simp only [Act.put, List.setIfInBounds_toArray, List.set_cons_zero, List.set_cons_succ]
      refine wpAny_take (i := 21) (oi := ⟨some 4, _, _, _, _, _⟩) (v := .bool true) rfl (by kernel_rfl) (by kernel_rfl) (by kernel_rfl) (fun _ _ _ h => h) (Or.inl ⟨by kernel_rfl, by intro w; go_simp⟩) ?_
      simp only [Act.put, List.setIfInBounds_toArray, List.set_cons_zero, List.set_cons_succ]
      refine wpAny_done (by kernel_rfl) ?_ _
      go_wp2
      go_ret
      exact ⟨rfl, Below.and HL10.out (Below.and HBI.out HBK.out)⟩
    · skip
      refine wpAny_take (i := 10) (oi := ⟨some 94, _, _, _, _, _⟩) (v := undef) rfl (by kernel_rfl) (by kernel_rfl) (by kernel_rfl) (fun _ _ _ h => h) (Or.inr ⟨by rfl, rfl⟩) ?_
      simp only [Act.put, List.setIfInBounds_toArray, List.set_cons_zero, List.set_cons_succ]
      refine wpAny_take (i := 11) (oi := ⟨some 95, _, _, _, _, _⟩) (v := undef) rfl (by kernel_rfl) (by kernel_rfl) (by kernel_rfl) (fun _ _ _ h => h) (Or.inr ⟨by rfl, rfl⟩) ?_
      simp only [Act.put, List.setIfInBounds_toArray, List.set_cons_zero, List.set_cons_succ]
      refine wpAny_take (i := 12) (oi := ⟨some 96, _, _, _, _, _⟩) (v := undef) rfl (by kernel_rfl) (by kernel_rfl) (by kernel_rfl) (fun _ _ _ h => h) (Or.inr ⟨by rfl, rfl⟩) ?_
      simp only [Act.put, List.setIfInBounds_toArray, List.set_cons_zero, List.set_cons_succ]
      refine wpAny_take (i := 13) (oi := ⟨some 97, _, _, _, _, _⟩) (v := undef) rfl (by kernel_rfl) (by kernel_rfl) (by kernel_rfl) (fun _ _ _ h => h) (Or.inr ⟨by rfl, rfl⟩) ?_
      simp only [Act.put, List.setIfInBounds_toArray, List.set_cons_zero, List.set_cons_succ]
      refine wpAny_take (i := 14) (oi := ⟨some 98, _, _, _, _, _⟩) (v := undef) rfl (by kernel_rfl) (by kernel_rfl) (by kernel_rfl) (fun _ _ _ h => h) (Or.inr ⟨by rfl, rfl⟩) ?_
      simp only [Act.put, List.setIfInBounds_toArray, List.set_cons_zero, List.set_cons_succ]
      refine wpAny_take (i := 15) (oi := ⟨some 99, _, _, _, _, _⟩) (v := undef) rfl (by kernel_rfl) (by kernel_rfl) (by kernel_rfl) (fun _ _ _ h => h) (Or.inr ⟨by rfl, rfl⟩) ?_
      simp only [Act.put, List.setIfInBounds_toArray, List.set_cons_zero, List.set_cons_succ]
      refine wpAny_take (i := 16) (oi := ⟨some 100, _, _, _, _, _⟩) (v := .bool true) rfl (by kernel_rfl) (by kernel_rfl) (by kernel_rfl) (fun _ _ _ h => h) (Or.inl ⟨by kernel_rfl, by intro w; go_simp⟩) ?_
      simp only [Act.put, List.setIfInBounds_toArray, List.set_cons_zero, List.set_cons_succ]
      refine wpAny_take (i := 17) (oi := ⟨some 101, _, _, _, _, _⟩) (v := .bool true) rfl (by kernel_rfl) (by kernel_rfl) (by kernel_rfl) (fun _ _ _ h => h) (Or.inl ⟨by kernel_rfl, by intro w; go_simp⟩) ?_
      simp only [Act.put, List.setIfInBounds_toArray, List.set_cons_zero, List.set_cons_succ]
      refine wpAny_take (i := 18) (oi := ⟨some 102, _, _, _, _, _⟩) (v := .bool true) rfl (by kernel_rfl) (by kernel_rfl) (by kernel_rfl) (fun _ _ _ h => h) (Or.inl ⟨by kernel_rfl, by intro w; go_simp⟩) ?_
      simp only [Act.put, List.setIfInBounds_toArray, List.set_cons_zero, List.set_cons_succ]
      refine wpAny_ready (rs := [19]) (by kernel_rfl) (by simp) ?_
      refine AllReady.cons rfl (fun K hK => ?_) AllReady.nil
      go_simp
      refine (HKN.out _ (R10.out.below HBI.out)).mono ?_
      rintro e wk ⟨rfl, hbk⟩
      have HBK := Lib.hid hbk
      refine hK _ _ ?_
      clear hK K hbk
      refine wpAny_take (i := 20) (oi := ⟨some 104, _, _, _, _, _⟩) (v := .bool true) rfl (by kernel_rfl) (by kernel_rfl) (by kernel_rfl) (fun _ _ _ h => h) (Or.inl ⟨by kernel_rfl, by intro w; go_simp⟩) ?_
      simp only [Act.put, List.setIfInBounds_toArray, List.set_cons_zero, List.set_cons_succ]
      refine wpAny_take (i := 21) (oi := ⟨some 4, _, _, _, _, _⟩) (v := .bool true) rfl (by kernel_rfl) (by kernel_rfl) (by kernel_rfl) (fun _ _ _ h => h) (Or.inl ⟨by kernel_rfl, by intro w; go_simp⟩) ?_
      simp only [Act.put, List.setIfInBounds_toArray, List.set_cons_zero, List.set_cons_succ]
      refine wpAny_done (by kernel_rfl) ?_ _
      go_wp2
      go_ret
      exact ⟨rfl, Below.and HL10.out (Below.and HBI.out HBK.out)⟩
theorem valueReads_all (A : Option Addr) (n cap : Nat) (zs : List Int) (b : Int) (w : World) (h : InRow .u8 w A n cap zs) (hcm : cap ≤ 140737488351232) (hb : (Lit.int .u64 b).wf = true) (R : Rms w) :
    Calls Tryd.prog 4 #[.slice A n cap, .int .u64 b] w fun e w' => e = .returned (.bool true) ∧ Below w.heap.size w w' := by
  obtain ⟨b, rfl, hb'⟩ := wf_nat hb
  obtain ⟨l, h1, h2, h3, h4, h5⟩ := h.read (b := 256) wf_byte
  cases A with
  | none =>
    obtain ⟨rfl, rfl⟩ := h5 rfl
    exact valueReads_none b w R
  | some x =>
    cases hm : mayB (n : Int) with
    | false => exact valueReads_no l x n cap b w R h1 h4 hcm h2 h3 hm
    | true => exact valueReads_yes l x n cap b w R h1 h4 hcm h2 h3 hm hb'
end Go.Proofs.YtnjecjcnkmgjmaaDoor
