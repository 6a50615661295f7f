/- Texts of this claim, packed: SiX, SiXE. -/
import Derived.Test.YtedefebdfcgjeaaGreatDoorPq45
import Derived.Test.YtedefebdfcgjeaaGreatDoorPq39
import Derived.Test.YtedefebdfcgjeaaGreatDoorPq46
import Derived.Test.YtedefebdfcgjeaaGreatDoorPq02
import Derived.Test.YtedefebdfcgjeaaGreatDoorPq06
/- SitePublishes, walked: blocks that are reserved and published by way of a site last. -/
namespace Go.Proofs.YtedefebdfcgjeaaGreatDoor
open Go.RowKit Go.Sort
set_option linter.unusedVariables false
theorem und1338 : Tryz.prog.underlying 38 = some (.slice 40) := by kernel_rfl
theorem wrap3 (z : Int) : ∃ q : Nat, (IntKind.u64.wrap z).tmod 3 = (q : Int) ∧ q ≤ 2 := by
  have h0 : 0 ≤ IntKind.u64.wrap z := by show 0 ≤ z % 18446744073709551616; omega
  have h1 := Int.tmod_eq_emod_of_nonneg (b := 3) h0
  exact ⟨((IntKind.u64.wrap z) % 3).toNat, by rw [h1]; omega, by omega⟩
/-- Behind so many rounds. -/
def PubLp (w : World) (gx gm gs N i : Nat) (V : Value) (W : World) : Prop :=
  ∃ ym s y hs fs got, PSt w W ym s y hs fs gx gm gs N got V ∧ PubI hs s got ∧ s.tot ≤ 4 * i ∧ got.length ≤ i
set_option maxRecDepth 100000 in
set_option maxHeartbeats 4000000 in
theorem sitePub_yes {w : World} {A : Option Addr} {cap N cl : Nat} {l : List Int} (hl : l.length ≤ 20) (hb : ∀ x ∈ l, (Lit.int .i64 x).wf = true) (hA : Sl w A (l.map (Value.int .i64))) (h1 : 1 ≤ N) (h4 : N ≤ 4) (hcl : cl ≤ 64) (R : Rms w) :
    Calls Tryz.prog 3 #[.int .i64 (N : Int), .slice A l.length cap, .int .i64 (cl : Int)] w fun e w' => e = .returned (.bool true) ∧ Below w.heap.size w w' := by
  have mixed : Tryz.prog.follows .mixedOrders = true := by kernel_rfl
  have HK := Lib.hid fun W => known13_any W
  have HN := Lib.hid (show Calls Tryz.prog 6 #[.int .i64 (1024 + 1024 * (N : Int))] w (NewPost (16 * (N + 1)) w) from by
    have := new_yes (16 * (N + 1)) w (by omega) (by omega)
    rwa [show ((64 * (16 * (N + 1)) : Nat) : Int) = 1024 + 1024 * (N : Int) by omega] at this)
  have HR := Lib.hid R
  have HL := Lib.hid hA
  have HB := Lib.hid hb
  have HL20 := Lib.hid hl
  have d1 : decide ((N : Int) < 1) = false := by simp; omega
  have d2 : decide ((4 : Int) < (N : Int)) = false := by simp; omega
  have d3 : decide (20 < l.length) = false := by simp; omega
  have d4 : decide ((20 : Int) < (l.length : Int)) = false := by simp; omega
  have d5 : decide ((cl : Int) < 0) = false := by simp
  have d6 : decide ((64 : Int) < (cl : Int)) = false := by simp; omega
  have n4 : (N : Int) ≤ 4 := by omega
  have H1 := Lib.hid h1
  have H4 := Lib.hid h4
  have HCL := Lib.hid hcl
  obtain ⟨M, hM⟩ : ∃ M : Nat, M = 1024 * (N + 1) := ⟨_, rfl⟩
  have HMM := Lib.hid hM
  have hrl : 0 < w.heap.size := by obtain ⟨t, ht⟩ := R; exact heap_lt ht
  have HRL := Lib.hid hrl
  have EGr := Lib.hid (enters_of Tryz.func12 (by kernel_rfl) rfl)
  clear hA hb hl R h1 h4 hcl hM hrl
  go_enter Tryz.func3, Tryz.ntmps3
  go_wp2_with fail
  refine HN.out.mono ?_
  rintro e w1 ⟨ym, rfl, hm1, hfp1, hb1⟩
  have HM1 := Lib.hid hm1
  have HF1 := Lib.hid hfp1
  have HB1 := Lib.hid hb1
  have HIM := Lib.hid (img_p hm1 (zero_Ok _) (n := M) (by rw [bytesL_length, HMM.out]; show 8 * (List.replicate (8 * (16 * (N + 1))) 0).length = _; rw [List.length_replicate]; omega) (by rw [HMM.out]; omega))
  obtain ⟨gm, hgm⟩ : ∃ g, g = ym.g := ⟨_, rfl⟩
  rw [← hgm] at HIM ⊢
  have HGM := Lib.hid hgm
  clear hm1 hfp1 hb1 HN hgm
  go_wp2_with fail
  refine HIM.out.mono ?_
  rintro e w2 ⟨g2, c2, rfl, hs2, hb2⟩
  have HB2 := Lib.hid (HB1.out.trans (hb2.mono HB1.out.size))
  have HM2 := Lib.hid (HM1.out.below hb2)
  have HOF := Lib.hid (slabZ_any (HR.out.below HB2.out) (m := M) (n := N) (ca := c2) HMM.out H1.out (by have := H4.out; omega) (by
    have e : bytesL (St.zero (16 * (N + 1))).lasted = List.replicate M 0 := by
      show bytesL (List.replicate (8 * (16 * (N + 1))) 0) = _
      rw [bytesL_nought, HMM.out]
      congr 1
      omega
    rw [e] at hs2
    exact hs2))
  clear hs2 hb2 HIM HM1
  go_wp2_with fail
  refine HOF.out.mono ?_
  rintro e w3 ⟨y, hs, fs, rfl, hsm, hlen, hnew, hho, hfo, hfy, hb3⟩
  have hb3' := HB2.out.trans (hb3.mono HB2.out.size)
  have hm3 := HM2.out.below hb3
  have hz := size_is hm3
  have hq := slabs_is hsm hlen
  have HNW := Lib.hid (siNew_ok (N := 3) (n := N) (p := some ⟨ym.g, 0, none⟩) (q := some ⟨y.gs, 0, none⟩) (by
    have e1 : sizeN (N : Int) = ((64 * (St.zero (16 * (N + 1))).nl : Nat) : Int) := by
      unfold sizeN
      rw [if_pos (by have := H1.out; omega)]
      show _ = ((64 * (16 * (N + 1)) : Nat) : Int)
      omega
    rw [e1]; exact hz) hq (by unfold sizeN; rw [if_pos (by have := H1.out; omega)]; omega) (by have := H1.out; omega) (by decide) (by decide))
  have HNI := Lib.hid (pubI_new hnew (nl := 16 * (N + 1)))
  have HSM := Lib.hid hsm
  have HM3 := Lib.hid hm3
  have HLN := Lib.hid hlen
  have HHO := Lib.hid hho
  have HFO := Lib.hid hfo
  have HB3 := Lib.hid hb3'
  have HR3 := Lib.hid (HR.out.below hb3')
  have HFY := Lib.hid (show ∀ k, y.fp k → w.heap.size ≤ k from fun k hk => Nat.le_trans HB2.out.size (hfy k hk))
  rw [← HGM.out] at HNW
  obtain ⟨gs, hgs⟩ : ∃ g, g = y.gs := ⟨_, rfl⟩
  have HGS := Lib.hid hgs
  unfold fpt
  rw [← hgs] at HNW ⊢
  clear hsm hlen hnew hho hfo hfy hb3 hb3' hm3 hz hq hgs HOF HM2 HB2
  go_wp2_with fail
  refine HNW.out.mono ?_
  rintro e w4 ⟨gx, g, b, rfl, hsite, hkat, hx4, hg4, hb4, hbw4⟩
  have hP : PSt w w4 ym (St.zero (16 * (N + 1))) y hs fs gx gm gs N [] (.slice none 0 0) := by
    have hl4 := HB3.out.trans (hbw4.mono HB3.out.size)
    exact ⟨⟨HM3.out.below hbw4, zero_Ok _, HSM.out.below hbw4, HHO.out, HFO.out, ⟨HR3.out.below hbw4, fun h => by have := HFY.out _ h; have := HRL.out; omega⟩, fun h => by have := HF1.out _ h; have := HRL.out; omega, by show 64 * (16 * (N + 1)) = _; rw [HLN.out]; omega⟩, HGM.out.symm, HGS.out.symm, ⟨_, hsite⟩, HLN.out, .inl ⟨rfl, rfl⟩, (fun k hk => by cases hk), HF1.out, HFY.out, hl4, HRL.out⟩
  have HP := Lib.hid hP
  have HSI := Lib.hid hsite
  clear hsite hkat hx4 hg4 hb4 hbw4 hP HNW HB3 HR3 HM3 HSM HHO HFO HFY HF1 HLN HB1
  go_wp2_with fail
  refine (siMem_yes HSI.out).mono ?_
  rintro e w' ⟨rfl, rfl⟩
  go_wp2_with fail
  refine (siSlab_yes HSI.out).mono ?_
  rintro e w' ⟨rfl, rfl⟩
  clear HSI
  go_wp2_with fail
  go_loopw [13, 14] (fun V i wr => ∃ k : Nat, i = .int .i64 (k : Int) ∧ k ≤ l.length ∧ PubLp w gx gm gs N k V wr) (fun _ i _ => l.length - (intOf i).toNat)
  case atStart => exact ⟨0, rfl, Nat.zero_le _, ym, _, y, hs, fs, [], HP.out, HNI.out, Nat.le_refl _, Nat.le_refl _⟩
  case round =>
    obtain ⟨k, rfl, hk, ym2, s2, y2, hs2, fs2, got, hP2, hI2, ht2, hgl2⟩ := hrel
    rename World => wr
    have HP2 := Lib.hid hP2
    have HI2 := Lib.hid hI2
    have HT2 := Lib.hid ht2
    have HG2 := Lib.hid hgl2
    clear hP2 hI2 ht2 hgl2
    by_cases hlt : k < l.length
    · have e4 : (k : Int) < (l.length : Int) := by omega
      have e6 : (k : Int) + 1 ≤ 9223372036854775807 := by have := HL20.out; omega
      obtain ⟨a, rfl, hcell⟩ := HL.out.at_ (i := k) (by rw [List.length_map]; exact hlt)
      rw [List.getElem_map] at hcell
      have hcr : wr.cell? (a.add k) = some (.int .i64 l[k]) := (HP2.out.low.cell (w.block_lt_of_cell? _ hcell)).trans hcell
      obtain ⟨z, hz⟩ : ∃ z, z = l[k] := ⟨_, rfl⟩
      rw [← hz] at hcr
      obtain ⟨q, hq, hq2⟩ := wrap3 z
      have ca := fun p : LowBy wr => p.cell hcr
      have hsl : Calls Tryz.prog 11 #[.pointer (some ⟨gx, 0, none⟩)] wr fun e w' => e = .returned (.pointer (some ⟨gs, 0, none⟩)) ∧ wr = w' := by
        obtain ⟨t, hsi⟩ := HP2.out.site
        exact siSlab_yes hsi
      have HLOC := Lib.hid fun p : LowBy wr => Calls.low_of_same (w := wr) (p := p) (by
        obtain ⟨t, hsi⟩ := (HP2.out.below p.low).site
        exact siSlab_yes hsi)
      have HRV := Lib.hid fun p : LowBy wr => (show Calls Tryz.prog 12 #[.pointer (some ⟨gs, 0, none⟩), .int .i64 (1 + (q : Int))] p.W (MayP w ym2 s2 hs2 gx gm gs N (q + 1) got u13) from by
        have := rsv_p (HP2.out.below p.low) HI2.out (c := q + 1) (by omega) (by omega)
        rwa [show ((q + 1 : Nat) : Int) = 1 + (q : Int) by omega] at this)
      clear hcell hcr hz hsl
      go_wp2_with fail
      refine wp_region_quiet_mid (C := fun w' => ∃ p : LowBy wr, w' = p.W) 10 (firstM 10 16) (by assumption) (by kernel_rfl) ⟨⟨wr.drew, (Below.refl _ wr).drew⟩, rfl⟩ ?_
      simp only [List.take_succ_cons, List.take_zero]
      repeat (go_big_quiet_step ((go_at_call 11; exact HLOC.out _)))
      refine wpQuiet_nil ?_
      intro _ hw'
      obtain ⟨p, hw''⟩ := hw'
      subst hw''
      have HRp := Lib.hid (HRV.out p)
      clear ca HRV HLOC
      generalize p.W = w5 at *
      change wpAny _ _ _ _ 6 _ _ _
      refine wpAny_ready (rs := [10]) (by kernel_rfl) (by simp) ?_
      refine AllReady.cons rfl (fun K hK => ?_) AllReady.nil
      refine step_calls (by rfl) 12 EGr.out [.tmp 100, .tmp 108] _ rfl [.pointer (some ⟨gs, 0, none⟩), .int .i64 (1 + (q : Int))] rfl HRp.out ?_
      intro e w6 hmay
      obtain ⟨Ad, E, rfl, hcase⟩ := hmay.split
      have HC := Lib.hid hcase
      refine ⟨_, rfl, hK _ _ ?_⟩
      clear hK K hmay hcase HRp
      (try simp only [Act.put, List.setIfInBounds_toArray, List.set_cons_zero, List.set_cons_succ])
      refine wpAny_take (i := 11) (oi := ⟨some 98, _, _, _, _, _⟩) (v := .tuple #[.int .u64 (Ad : Int), .int .i64 E]) rfl (by kernel_rfl) (by kernel_rfl) (by kernel_rfl) (fun _ _ _ h => h) (Or.inl ⟨by kernel_rfl, by intro w; go_simp⟩) ?_
      simp only [Act.put, List.setIfInBounds_toArray, List.set_cons_zero, List.set_cons_succ]
      refine wpAny_take (i := 12) (oi := ⟨some 110, _, _, _, _, _⟩) (v := .int .u64 (Ad : Int)) rfl (by kernel_rfl) (by kernel_rfl) (by kernel_rfl) (fun _ _ _ h => h) (Or.inl ⟨by kernel_rfl, by intro w; go_simp⟩) ?_
      simp only [Act.put, List.setIfInBounds_toArray, List.set_cons_zero, List.set_cons_succ]
      refine wpAny_take (i := 13) (oi := ⟨some 111, _, _, _, _, _⟩) (v := .int .i64 E) rfl (by kernel_rfl) (by kernel_rfl) (by kernel_rfl) (fun _ _ _ h => h) (Or.inl ⟨by kernel_rfl, by intro w; go_simp⟩) ?_
      simp only [Act.put, List.setIfInBounds_toArray, List.set_cons_zero, List.set_cons_succ]
      refine wpAny_take (i := 14) (oi := ⟨some 15, _, _, _, _, _⟩) (v := .int .u64 (Ad : Int)) rfl (by kernel_rfl) (by kernel_rfl) (by kernel_rfl) (fun _ _ _ h => h) (Or.inl ⟨by kernel_rfl, by intro w; go_simp⟩) ?_
      simp only [Act.put, List.setIfInBounds_toArray, List.set_cons_zero, List.set_cons_succ]
      refine wpAny_take (i := 15) (oi := ⟨some 16, _, _, _, _, _⟩) (v := .int .i64 E) rfl (by kernel_rfl) (by kernel_rfl) (by kernel_rfl) (fun _ _ _ h => h) (Or.inl ⟨by kernel_rfl, by intro w; go_simp⟩) ?_
      simp only [Act.put, List.setIfInBounds_toArray, List.set_cons_zero, List.set_cons_succ]
      refine wpAny_done (by kernel_rfl) ?_ _
      rcases HC.out with ⟨rfl, i, j, x, hs1, y', fs', rfl, hcl, hx, hc, hb, hP6⟩ | ⟨rfl, y', fs', hP6⟩
      · have HW1 := Lib.hid hcl
        have HW2 := Lib.hid hx
        have HW3 := Lib.hid hc
        have HW4 := Lib.hid hb
        have HP6 := Lib.hid hP6
        have hil := (List.getElem?_eq_some_iff.1 hx).1
        have HPB := Lib.hid (pub_p (cl := cl) hP6 (x := { x with bl := x.bl.set j 1 }) (i := i) (j := j) (List.getElem?_set_self hil) (by show (x.bl.set j 1)[j]? = some 1; rw [List.getElem?_set_self (List.getElem?_eq_some_iff.1 hb).1]) HCL.out)
        have HSL := Lib.hid (show Calls Tryz.prog 11 #[.pointer (some ⟨gx, 0, none⟩)] w6 fun e w' => e = .returned (.pointer (some ⟨gs, 0, none⟩)) ∧ w6 = w' from by
          obtain ⟨t, hsi⟩ := hP6.site
          exact siSlab_yes hsi)
        have HSM := Lib.hid (show Calls Tryz.prog 10 #[.pointer (some ⟨gx, 0, none⟩)] w6 fun e w' => e = .returned (.pointer (some ⟨gm, 0, none⟩)) ∧ w6 = w' from by
          obtain ⟨t, hsi⟩ := hP6.site
          exact siMem_yes hsi)
        unfold wv at HPB
        change Hid (Calls Tryz.prog 13 #[.pointer (some ⟨gs, 0, none⟩), .pointer (some ⟨gm, 0, none⟩), .int .i64 (cl : Int), .int .u64 ((adr x.no x.cls j : Nat) : Int)] w6 (BegP w ym2 s2 y' ((hs1.set i { x with bl := x.bl.set j 1 }).set i { ({ x with bl := x.bl.set j 1 } : Hd) with bl := (x.bl.set j 1).set j 4 }) fs' gx gm gs N cl i j got u13)) at HPB
        obtain ⟨Ad, hAd⟩ : ∃ a, a = adr x.no x.cls j := ⟨_, rfl⟩
        have HAD := Lib.hid hAd
        rw [← hAd] at HPB ⊢
        clear hcl hx hc hb hP6 hil HC hAd
        go_wp2_with fail
        refine HSL.out.mono ?_
        rintro e w' ⟨rfl, rfl⟩
        go_wp2_with fail
        refine HSM.out.mono ?_
        rintro e w' ⟨rfl, rfl⟩
        go_wp2_with fail
        refine HPB.out.mono ?_
        rintro e w7 ⟨gt, rfl, hT, hP7, g1, g2, g3⟩
        have HWH := Lib.hid (whl_p hP7 HI2.out (by omega) (by omega) HW1.out HW2.out HW3.out HW4.out hT g1 g2 g3 HCL.out (by have := HT2.out; have := HL20.out; omega))
        unfold fpt at HWH ⊢
        rw [← HAD.out] at HWH
        clear hT hP7 g1 g2 g3 HPB HSL HSM HP6 HW1 HW2 HW3 HW4
        go_wp2_with fail
        refine HWH.out.mono ?_
        rintro e w8 ⟨rfl, ym8, s8, y8, hs8, fs8, hP8, hI8, ht8⟩
        have HP8 := Lib.hid hP8
        have HI8 := Lib.hid hI8
        have HT8 := Lib.hid ht8
        clear hP8 hI8 ht8 HWH HI2
        clear hq hq2
        have hal := (HP8.out.ad)
        have HAL := Lib.hid hal
        clear hal
        go_wp2_with (at_builtin; refine wpList_append_adr und1338 (hgd := ?g1) (s := .tmp 147) (x := .tmp 149) (ho := ?g2) (v := u13) (l := got) (p := Ad) (hs := ?g3) (ht := ?g4) (hn := ?g5) (ad := ⟨w8.heap.size, 0, none⟩) (c := 1) (hx := ?g6) (hnews := ?g7) ?g8)
        case g1 => rfl
        case g2 => rfl
        case g3 => rfl
        case g4 => exact HAL.out.below (alloc_below _ _)
        case g5 => have := HG2.out; have := HL20.out; omega
        case g6 => rfl
        case g7 => simp [wv]
        intro h9 off9 cap9 w9 hadr hgr hblk
        have HE := Lib.hid (show PubLp w gx gm gs N (k + 1) (.slice (some ⟨h9, off9, none⟩) (got.length + 1) cap9) w9 from ⟨ym8, s8, y8, hs8, fs8, got ++ [Ad], (HP8.out.below (alloc_below _ _)).push hadr hgr (by rcases hblk with h | h; exact .inl h; exact .inr (by simpa using h)), HI8.out, by have := HT8.out; have := HT2.out; omega, by rw [List.length_append]; have := HG2.out; simp; omega⟩)
        clear hadr hgr hblk HP8 HI8 HT8 HAL
        go_wp2
        go_roundw
        case rel => exact ⟨k + 1, by go_num, by omega, HE.out⟩
        case measure => simp [intOf]; omega
      · have HE := Lib.hid (show PubLp w gx gm gs N (k + 1) u13 w6 from ⟨ym2, s2, y', hs2, fs', got, hP6, HI2.out, by have := HT2.out; omega, by have := HG2.out; omega⟩)
        clear hP6 HC
        go_wp2
        go_roundw
        case rel => exact ⟨k + 1, by go_num, by omega, HE.out⟩
        case measure => simp [intOf]; omega
    · have e4 : ¬ (k : Int) < (l.length : Int) := by omega
      have e5 : decide (k < l.length) = false := by simpa using hlt
      have e6 : decide ((k : Int) < (l.length : Int)) = false := by simpa using e4
      obtain ⟨ad, cp, hu13⟩ := HP2.out.ad.shape
      subst hu13
      have hsz : 64 * s2.nl = 1024 * (N + 1) := by have := HP2.out.game.size; rw [HP2.out.len] at this; exact this
      have hll : s2.lasted.length = 8 * s2.nl := by rw [HI2.out.q.lv]; exact HI2.out.q.vl
      have hIM := img_p HP2.out.game.pm HP2.out.game.ok (n := 1024 * (N + 1)) (by rw [bytesL_length, hll]; omega) (by omega)
      rw [HP2.out.eg, ← HMM.out] at hIM
      have HIM := Lib.hid hIM
      have hgl : got.length ≤ 20 := by have := HG2.out; have := HL20.out; omega
      obtain ⟨n, hn⟩ : ∃ n, n = got.length := ⟨_, rfl⟩
      have HNL := Lib.hid hn
      rw [← hn] at HP2 ⊢
      have hn20 : n ≤ 20 := by omega
      have HN20 := Lib.hid hn20
      clear hsz hll hIM hgl hn e4 hlt hn20 hk
      go_wp2_with fail
      refine HIM.out.mono ?_
      rintro e w5 ⟨g5, c5, rfl, hs5, hb5⟩
      have hag := again_p (W2 := w5) (c := c5) HP2.out HI2.out (HP2.out.game.rs.1.below hb5) H1.out (by have := H4.out; omega) hs5
      rw [← HMM.out] at hag
      have HAG := Lib.hid hag
      have HP5 := Lib.hid (HP2.out.below hb5)
      clear hs5 hb5 hag HIM HP2
      go_wp2_with fail
      refine HAG.out.mono ?_
      rintro e w6 ⟨y9, fs9, rfl, hm9, hb9⟩
      have HP6 := Lib.hid (HP5.out.below hb9)
      have HM9 := Lib.hid hm9
      obtain ⟨g9, hg9⟩ : ∃ g, g = y9.gs := ⟨_, rfl⟩
      have HG9 := Lib.hid hg9
      unfold fpt
      rw [← hg9]
      clear hm9 hb9 hg9 HAG HP5
      go_wp2_with fail
      go_loopw [24] (fun i W => ∃ j : Nat, i = .int .i64 (j : Int) ∧ j ≤ n ∧ PSt w W ym2 s2 y2 hs2 fs2 gx gm gs N got (.slice ad n cp) ∧ SlabMem W y9 hs2 fs9) (fun i _ => n - (intOf i).toNat)
      case atStart => exact ⟨0, rfl, Nat.zero_le _, HP6.out, HM9.out⟩
      case round =>
        obtain ⟨j, rfl, hj, hPj, hMj⟩ := hrel
        rename World => wj
        have HPj := Lib.hid hPj
        have HMj := Lib.hid hMj
        clear hPj hMj
        by_cases hjn : j < n
        · have q1 : (j : Int) < (n : Int) := by omega
          have q2 : (j : Int) + 1 ≤ 9223372036854775807 := by have := HN20.out; omega
          obtain ⟨hh, off, cp2, hv, -, -⟩ := HPj.out.ad.pos (by rw [← HNL.out]; omega)
          injection hv with hv1 hv2 hv3
          subst hv1
          clear hv2 hv3
          have hcell := HPj.out.ad.cell (i := j) (by rw [← HNL.out]; exact hjn)
          obtain ⟨a, ha⟩ : ∃ a, a = gd got j := ⟨_, rfl⟩
          rw [← ha] at hcell
          unfold wv at hcell
          have hmem : a ∈ got := by
            rw [ha]
            unfold gd
            rw [List.getD_eq_getElem?_getD, List.getElem?_eq_getElem (by rw [← HNL.out]; exact hjn)]
            exact List.getElem_mem _
          have hl64 : hs2.length ≤ 64 := by rw [HPj.out.len]; have := H4.out; omega
          have hi1 := is_any HMj.out HPj.out.game.ho HPj.out.game.rs.1 a
          unfold fpt wv at hi1
          rw [← HG9.out] at hi1
          have HI1 := Lib.hid (hi1.mono (R' := fun e w' => e = .returned (.int .i64 2) ∧ Below wj.heap.size wj w') (by
            rintro e w' ⟨⟨v, hv, rfl⟩, hb⟩
            rw [is_pub HI2.out HPj.out.game.ho hl64 hmem hv]
            exact ⟨rfl, hb⟩))
          have HI3 := Lib.hid fun (W : World) (hb : Below wj.heap.size wj W) => (show Calls Tryz.prog 16 #[.pointer (some ⟨gs, 0, none⟩), .int .u64 (a : Int)] W fun e w' => e = .returned (.int .i64 2) ∧ Below W.heap.size W w' from by
            have hi3 := is_any (HPj.out.below hb).game.mem HPj.out.game.ho (HPj.out.below hb).game.rs.1 a
            unfold fpt wv at hi3
            rw [HPj.out.es] at hi3
            refine hi3.mono ?_
            rintro e w' ⟨⟨v, hv, rfl⟩, hb⟩
            rw [is_pub HI2.out HPj.out.game.ho hl64 hmem hv]
            exact ⟨rfl, hb⟩)
          have hpa := pub_slab HI2.out HPj.out.game.ho hl64 hmem
          have HS := Lib.hid (refSlab_any (a : Int))
          obtain ⟨Z, hZ⟩ : ∃ Z, Z = slabA (a : Int) := ⟨_, rfl⟩
          have hz0 : (Z == 0) = false := by
            rw [hZ, Bool.eq_false_iff]
            intro e
            have := beq_iff_eq.1 e
            unfold slabA at this
            rw [if_pos (by omega)] at this
            omega
          rw [← hZ] at HS
          have HCE := Lib.hid hcell
          have HQ2 := Lib.hid q2
          clear hi1 hpa hmem hl64 ha hZ q2 d1 d2 d3 d4 d5 d6 n4 e5 e6
          go_wp2_with fail
          refine HI1.out.mono ?_
          rintro e w7 ⟨rfl, hb7⟩
          have HB7 := Lib.hid hb7
          have hc7 : w7.cell? ⟨hh, off + j, none⟩ = some (.int .u64 (a : Int)) := (hb7.cell (wj.block_lt_of_cell? _ hcell)).trans hcell
          have HI4 := Lib.hid (HI3.out w7 hb7)
          clear hb7 HI1 HI3
          go_wp2_with fail
          refine HI4.out.mono ?_
          rintro e w8 ⟨rfl, hb8⟩
          have HB8 := Lib.hid (Below.and HB7.out hb8)
          have hc8 : w8.cell? ⟨hh, off + j, none⟩ = some (.int .u64 (a : Int)) := (hb8.cell (w7.block_lt_of_cell? _ hc7)).trans hc7
          clear hb8 HI4
          go_wp2_with fail
          refine (HS.out _).mono ?_
          rintro e w' ⟨rfl, rfl⟩
          clear hc7 hc8 hcell
          have HP9 := Lib.hid (HPj.out.below HB8.out)
          have HM8 := Lib.hid (HMj.out.below HB8.out)
          have q2 := HQ2.out
          go_wp2
          go_roundw
          case rel => exact ⟨j + 1, by go_num, by omega, HP9.out, HM8.out⟩
          case measure => simp [intOf]; omega
        · have q1 : decide ((j : Int) < (n : Int)) = false := by simp; omega
          have q2 : decide (j < n) = false := by simpa using hjn
          have hu := used_any HMj.out HPj.out.game.ho HPj.out.game.rs.1
          unfold fpt at hu
          rw [← HG9.out] at hu
          have HU := Lib.hid (hu.mono (R' := fun e w' => (∃ A2 c2, e = .returned (.slice A2 n c2)) ∧ Below wj.heap.size wj w') (by
            rintro e w' ⟨v, rfl, ho, hb⟩
            obtain ⟨A2, c2, rfl, _⟩ := own_sl ho
            exact ⟨⟨A2, c2, by rw [HI2.out.used, HNL.out]⟩, hb⟩))
          have HLI := Lib.hid fun (W : World) (hb : Below wj.heap.size wj W) => (show Calls Tryz.prog 19 #[.pointer (some ⟨gm, 0, none⟩)] W fun e w' => e = .returned (.slice none 0 0) ∧ Below W.heap.size W w' from by
            have := lines_zero (HPj.out.below hb).game.pm (nzFrom_nil _ _ _ HI2.out.q.pe)
            rwa [HPj.out.eg] at this)
          have HLO := Lib.hid HPj.out.low
          have n0 : n ≤ 9223372036854775807 := by have := HN20.out; omega
          clear hu
          go_wp2_with fail
          refine HU.out.mono ?_
          rintro e w7 ⟨⟨A2, c2, rfl⟩, hb7⟩
          have HB7 := Lib.hid hb7
          have HLI2 := Lib.hid (HLI.out _ hb7)
          clear hb7 HLI HU
          go_wp2_with fail
          refine HLI2.out.mono ?_
          rintro e w8 ⟨rfl, hb8⟩
          have HB8 := Lib.hid (Below.and HB7.out hb8)
          clear hb8 HLI2
          go_wp2_with fail
          refine (HK.out _).mono ?_
          rintro e w9 ⟨rfl, hb9⟩
          have HB9 := Lib.hid (HLO.out.trans ((Below.and HB8.out hb9).mono HLO.out.size))
          clear hb9
          go_wp2
          go_ret
          exact ⟨rfl, HB9.out⟩
end Go.Proofs.YtedefebdfcgjeaaGreatDoor
/- SitePublishes, all its cases. -/
namespace Go.Proofs.YtedefebdfcgjeaaGreatDoor
open Go.RowKit Go.Sort
set_option linter.unusedVariables false
theorem inRow_ints13 {w : World} {a : Option Addr} {len cap : Nat} {zs : List Int} (h : InRow .i64 w a len cap zs) :
    ∃ l : List Int, l.length = len ∧ (∀ x ∈ l, (Lit.int .i64 x).wf = true) ∧ Sl w a (l.map (Value.int .i64)) := by
  rcases h with ⟨rfl, rfl, rfl, rfl⟩ | ⟨x, rfl, hl, hm, hz, hc, hw⟩
  · exact ⟨[], rfl, (by simp), (by intro i u hu; simp at hu)⟩
  · refine ⟨zs.take len, by simp; omega, fun z hz => hw z (List.mem_of_mem_take hz), fun i u hu => ?_⟩
    rw [List.getElem?_map] at hu
    by_cases hi : i < (zs.take len).length
    · rw [List.getElem?_eq_getElem hi] at hu
      simp only [Option.map_some, Option.some.injEq] at hu
      have h2 : i < zs.length := by rw [List.length_take] at hi; omega
      refine ⟨x, rfl, ?_⟩
      rw [hc i h2, ← hu, List.getElem_take, List.getD_eq_getElem?_getD, List.getElem?_eq_getElem h2]
      rfl
    · rw [List.getElem?_eq_none (by omega)] at hu
      cases hu
set_option maxRecDepth 100000 in
set_option maxHeartbeats 2000000 in
theorem sitePub_no (z c : Int) (A : Option Addr) (n cap : Nat) (w : World) (hn : n ≤ maxLen) (h : z < 1 ∨ 4 < z ∨ 20 < n ∨ c < 0 ∨ 64 < c) :
    Calls Tryz.prog 3 #[.int .i64 z, .slice A n cap, .int .i64 c] w fun e w' => e = .returned (.bool true) ∧ Below w.heap.size w w' := by
  have HK := Lib.hid fun W => known13_any W
  unfold maxLen at hn
  by_cases h1 : z < 1
  · have d1 : decide (z < 1) = true := by simpa using h1
    clear h h1
    go_enter Tryz.func3, Tryz.ntmps3
    go_wp2_with fail
    refine (HK.out _).mono ?_
    rintro e w1 ⟨rfl, hb⟩
    have HB := Lib.hid hb
    clear hb
    go_wp2
    go_ret
    exact ⟨rfl, HB.out⟩
  · have d1 : decide (z < 1) = false := by simpa using h1
    by_cases h2 : 4 < z
    · have d2 : decide (4 < z) = true := by simpa using h2
      clear h h1 h2
      go_enter Tryz.func3, Tryz.ntmps3
      go_wp2_with fail
      refine (HK.out _).mono ?_
      rintro e w1 ⟨rfl, hb⟩
      have HB := Lib.hid hb
      clear hb
      go_wp2
      go_ret
      exact ⟨rfl, HB.out⟩
    · have d2 : decide (4 < z) = false := by simpa using h2
      by_cases h3 : 20 < n
      · have d3 : decide (20 < n) = true := by simpa using h3
        have d4 : decide ((20 : Int) < (n : Int)) = true := by simp; omega
        clear h h1 h2 h3
        go_enter Tryz.func3, Tryz.ntmps3
        go_wp2_with fail
        refine (HK.out _).mono ?_
        rintro e w1 ⟨rfl, hb⟩
        have HB := Lib.hid hb
        clear hb
        go_wp2
        go_ret
        exact ⟨rfl, HB.out⟩
      · have d3 : decide (20 < n) = false := by simpa using h3
        have d4 : decide ((20 : Int) < (n : Int)) = false := by simp; omega
        by_cases h4 : c < 0
        · have d5 : decide (c < 0) = true := by simpa using h4
          clear h h1 h2 h3 h4
          go_enter Tryz.func3, Tryz.ntmps3
          go_wp2_with fail
          refine (HK.out _).mono ?_
          rintro e w1 ⟨rfl, hb⟩
          have HB := Lib.hid hb
          clear hb
          go_wp2
          go_ret
          exact ⟨rfl, HB.out⟩
        · have h5 : 64 < c := by omega
          have d5 : decide (c < 0) = false := by simpa using h4
          have d6 : decide (64 < c) = true := by simpa using h5
          clear h h1 h2 h3 h4 h5
          go_enter Tryz.func3, Tryz.ntmps3
          go_wp2_with fail
          refine (HK.out _).mono ?_
          rintro e w1 ⟨rfl, hb⟩
          have HB := Lib.hid hb
          clear hb
          go_wp2
          go_ret
          exact ⟨rfl, HB.out⟩
theorem sitePub_all (z : Int) (A : Option Addr) (n cap : Nat) (zs : List Int) (c : Int) (w : World) (wz : (Lit.int .i64 z).wf = true) (h : InRow .i64 w A n cap zs) (wc : (Lit.int .i64 c).wf = true) (R : Rms w) :
    Calls Tryz.prog 3 #[.int .i64 z, .slice A n cap, .int .i64 c] w fun e w' => e = .returned (.bool true) ∧ Below w.heap.size w w' := by
  have hn : n ≤ maxLen := by
    rcases h with ⟨_, rfl, _, _⟩ | ⟨x, _, hl, hm, _⟩
    · exact Nat.zero_le _
    · omega
  by_cases hc : z < 1 ∨ 4 < z ∨ 20 < n ∨ c < 0 ∨ 64 < c
  · exact sitePub_no z c A n cap w hn hc
  · obtain ⟨l, hl, hb, hs⟩ := inRow_ints13 h
    obtain ⟨N, rfl⟩ : ∃ N : Nat, z = (N : Int) := ⟨z.toNat, by omega⟩
    obtain ⟨cl, rfl⟩ : ∃ cl : Nat, c = (cl : Int) := ⟨c.toNat, by omega⟩
    subst hl
    exact sitePub_yes (by omega) hb hs (by omega) (by omega) (by omega) R
end Go.Proofs.YtedefebdfcgjeaaGreatDoor
