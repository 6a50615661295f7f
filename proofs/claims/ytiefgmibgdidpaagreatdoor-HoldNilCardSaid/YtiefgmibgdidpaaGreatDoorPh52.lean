/- Texts of this claim, packed: ArC4, HoL, HoN. -/
import Derived.Test.YtiefgmibgdidpaaGreatDoorPh51
import Derived.Test.YtiefgmibgdidpaaGreatDoorPh29
import Derived.Test.YtiefgmibgdidpaaGreatDoorPh44
import Derived.Test.YtiefgmibgdidpaaGreatDoorPh27
import Derived.Test.YtiefgmibgdidpaaGreatDoorPh24
/- The chapter's arena as a memory: its words, a snapshot of its leaf; what a caller has of an arena's one leaf; plain facts, no conditions. -/
namespace Go.Proofs.YtiefgmibgdidpaaGreatDoor
open Go.RowKit
set_option linter.unusedVariables false
/-- The chapter's memory. -/
def C14S : St := St.ofBytes (3072 / 64) ((List.range 3072).map C14F)
theorem c14_byt : BytF C14F := by
  have h := (b1_ok (n := 2) (by decide))
  have h2 := (bK_ok h [5, 9] 2).1
  have h3 := (Ar.newNode_ok h2).1.byt
  have e : bK (b1 2) [5, 9] 2 = C14A := c14A
  rw [e] at h3
  exact ((layK_byt h3 2112 C14N 24).put 16 2112)
theorem c14_view {j : Nat} (h : j < 384) : C14S.view.getD j 0 = wrdF C14F (8 * j) := by
  show (wordsK _ 3072 384).getD j 0 = _
  rw [List.getD_eq_getElem?_getD, wordsK_get h, pw_range C14F (by omega)]
  rfl
theorem c14_V {A : Nat} (h : A % 8 = 0) (h2 : A < 3072) : ldV C14S A = (wrdF C14F A : Int) ∧ ldK C14S A = 0 := by
  have hc : A % 8 = 0 ∧ A < 64 * C14S.nl := ⟨h, h2⟩
  unfold ldV ldK
  rw [if_pos hc, if_pos hc, c14_view (by omega), show 8 * (A / 8) = A by omega]
  exact ⟨rfl, rfl⟩
theorem c14Ok : okHeads ((List.range 3072).map C14F) 2 := by
  intro q hq
  have hl : ((List.range 3072).map C14F).length = 3072 := by simp
  unfold hcW hbW
  rw [hl, pw_range C14F (by omega), pw_range C14F (by omega)]
  obtain ⟨h1, h2, h3, h4⟩ := c14H
  rcases (by omega : q = 0 ∨ q = 1) with rfl | rfl
  · rw [show 8 * (128 * (0 + 1)) = 1024 from rfl, show 8 * (128 * (0 + 1) + 1) = 1032 from rfl, h1, h2]
    decide +kernel
  · rw [show 8 * (128 * (1 + 1)) = 2048 from rfl, show 8 * (128 * (1 + 1) + 1) = 2056 from rfl, h3, h4]
    decide +kernel
theorem c14_Lds : Lds C14S.nl 0 C14S := by
  refine ⟨rfl, ofBytes_Ok fun x hx => ?_, by show (List.replicate (3072 / 64) ([] : List (Nat × Nat))).length = 3072 / 64; exact List.length_replicate, fun j => ?_, by show (wordsK _ _ _).length = _; rw [wordsK_len]; rfl, Nat.le_refl _, Nat.le_refl _, Nat.le_refl _, Nat.le_refl _⟩
  · obtain ⟨j, _, rfl⟩ := List.mem_map.1 hx
    exact c14_byt j
  · show ((List.replicate 48 ([] : List (Nat × Nat))).getD j []).length ≤ 0
    rw [List.getD_eq_getElem?_getD, List.getElem?_replicate]
    split <;> simp
/-- What a snapshot of the chapter's leaf comes to. -/
theorem c14Snap : ∃ T S', 1 ≤ T ∧ T ≤ 60 ∧ Goes (ldV C14S) (ldK C14S) (SS.new 2112) T S' ∧ S'.d = true ∧ S'.k = 0 ∧ S'.n = C14N := by
  have hw : ∀ i, i < 24 → ldV C14S (snWordAt 2112 i) = wAt (wi C14N) i ∧ ldK C14S (snWordAt 2112 i) = 0 := fun i hi => by
    have e : snWordAt 2112 i = 2112 + 8 * i := by unfold snWordAt; rw [if_pos (by omega)]
    rw [e, ← c14Wrd i hi]
    exact c14_V (by omega) (by omega)
  have hw2 : wAt (wi C14N) 2 = 0 := rfl
  obtain ⟨T, S', t1, t2, hG, hd, hr⟩ := sn_alone (V := ldV C14S) (K := ldK C14S) (ldK_is _) 2112
  refine ⟨T, S', t1, t2, hG, hd, ?_⟩
  rcases hr with ⟨_, _, hb⟩ | ⟨e1, e2, e3, _⟩
  · exfalso
    rcases hb with ⟨k, hk, e⟩ | ⟨e, _⟩
    · rw [(hw k hk).2] at e
      cases e
    · rw [(hw 2 (by omega)).1, hw2] at e
      exact e rfl
  · have hR := ofR_full (x := wi C14N) (W := fun i => ldV C14S (snWordAt 2112 i)) (fun i hi => (hw i hi).1)
    have hv : isLv C14N = true := by decide
    rw [(wi_of C14N).2, if_pos hv] at hR
    rw [hR] at e1 e2
    exact ⟨e1, e2⟩
/-- What a caller has of an arena's one leaf. -/
structure AL (w : World) (g gl gr cl cr : Nat) (T : Int) (n : Nd) : Prop where
  lv : w.cell? ⟨g, 7, none⟩ = some (.slice (some ⟨gl, 0, none⟩) 1 cl)
  rw_ : w.cell? ⟨gl, 0, none⟩ = some (.slice (some ⟨gr, 0, none⟩) 1 cr)
  at_ : ∀ j u, (atV T n)[j]? = some u → w.cell? ⟨gr, j, none⟩ = some u
theorem AL.but {w w' : World} {g gl gr cl cr : Nat} {T : Int} {n : Nd} {fp : Nat → Prop} (h : AL w g gl gr cl cr T n) (hb : But w w' fp) (h1 : ¬ fp g) (h2 : ¬ fp gl) (h3 : ¬ fp gr) : AL w' g gl gr cl cr T n :=
  ⟨hb.cell h.lv h1, hb.cell h.rw_ h2, fun j u hu => hb.cell (h.at_ j u hu) h3⟩
theorem AL.low {w w' : World} {g gl gr cl cr : Nat} {T : Int} {n : Nd} (h : AL w g gl gr cl cr T n) (hb : Below w.heap.size w w') : AL w' g gl gr cl cr T n :=
  h.but (But.of_below hb fun _ => False) (fun e => e) (fun e => e) (fun e => e)
theorem AL.rng {w : World} {g gl gr cl cr : Nat} {T : Int} {n : Nd} (h : AL w g gl gr cl cr T n) : w.rangeAt gr 1 n.cl := fun j v hv => h.at_ (1 + j) v (by rw [Nat.add_comm]; exact hv)
end Go.Proofs.YtiefgmibgdidpaaGreatDoor
/- The chapter's row of a hold: a hold of the chapter's leaf, whole, released; conditions: geo.rooms is as laid. -/
namespace Go.Proofs.YtiefgmibgdidpaaGreatDoor
open Go.RowKit
set_option linter.unusedVariables false
theorem c14_inv : C14N.inv < 0 := by decide +kernel
theorem c14_act : ¬ (C14N.act 0 false).length < C14N.len := by decide +kernel
set_option maxRecDepth 100000 in
set_option maxHeartbeats 6400000 in
theorem known16_any {w : World} (R : Rms w) : Calls Tryz.prog 12 #[] w fun e w' => e = .returned (.bool true) ∧ Below w.heap.size w w' := by
  have mixed : Tryz.prog.follows .mixedOrders = true := by kernel_rfl
  obtain ⟨T, S', t1, t2, hG, hd, hk, hn⟩ := c14Snap
  have HSN := Lib.hid (And.intro hG (And.intro hd (And.intro hk hn)))
  have HT := Lib.hid (And.intro t1 t2)
  have HR := Lib.hid R
  obtain ⟨W1, hW1⟩ : ∃ W1, W1 = w.alloc (.cells #[.int .u64 5, .int .u64 9] 27) := ⟨_, rfl⟩
  have hb1 : Below w.heap.size w W1 := by rw [hW1]; exact alloc_below _ _
  have hr1 : Row W1 w.heap.size 27 #[.int .u64 5, .int .u64 9] := by rw [hW1]; exact Row.new _ _ _
  have HB1 := Lib.hid hb1
  have HLAY := Lib.hid (show Calls Tryz.prog 7 #[.agg #[.int .i64 2, .slice (some ⟨w.heap.size, 0, none⟩) 2 2, .int .i64 4, .int .i64 0]] W1 (BuildP W1 2 [5, 9]) from
    lay_few (n := 2) (per := 4) (lag := 0) (m := 2) (ks := [5, 9]) (cap := 2) rfl (fun k hk => by
      rcases (by omega : k = 0 ∨ k = 1) with rfl | rfl
      · exact hr1.cell 0
      · exact hr1.cell 1) (fun k => by
      rcases k with _ | _ | k
      · decide
      · decide
      · show (0 : Nat) < _; decide) (fun a b h1 h2 => by
      obtain rfl : a = 0 := by omega
      obtain rfl : b = 1 := by omega
      decide) (by decide) (by decide) (by decide) (by decide) (by decide) (by decide) (by decide) c14Room (by rw [c14T]; decide) (by rw [c14N]; exact c14Wok))
  have HW1 := Lib.hid hW1
  clear hG hd hk hn R hW1 hb1 hr1 t1 t2
  go_enter Tryz.func12, Tryz.ntmps12
  go_wp2_with fail
  rw [← HW1.out]
  refine HLAY.out.mono ?_
  rintro e w2 ⟨g, gb, rfl, hg, hgb, hb2, gl, cl, gr, cr, hA, hl, hc, hgl, hgr⟩
  have HAL := Lib.hid (show AL w2 g gl gr cl cr 2112 C14N from ⟨hA.row.cell 7, hl, fun j u hu => hc j u (by rw [c14T, c14N]; exact hu)⟩)
  have hNz : (bZ 2 [5, 9]).N = 3072 := by unfold Ar.N; rw [c14Zn]
  have hrow0 := hA.row.cell 0
  have hbyt := hA.byt
  rw [hNz] at hrow0 hbyt
  rw [c14Zf] at hbyt
  have c0 : w2.cell? ⟨g, 0, none⟩ = some (.slice (some ⟨gb, 0, none⟩) 3072 3072) := hrow0
  have HON := Lib.hid (show Calls Tryz.prog 8 #[.slice (some ⟨gb, 0, none⟩) 3072 3072, .int .i64 2] w2 (OnKP w2 2 3072 C14F) from
    onK_yes (N := 3072) (n := 2) (c := 2) rfl (HR.out.below (Below.and HB1.out hb2)) hbyt c14_byt (by decide) (by decide) (by decide) (by decide) c14Ok)
  have HB2 := Lib.hid (Below.and HB1.out hb2)
  clear hA hl hc hgl hgr hg hgb hb2 hNz hrow0 hbyt HR HLAY HW1
  go_wp2_with fail
  refine HON.out.mono ?_
  rintro e w3 ⟨gx, ym, q, t, b, rfl, hsite, hka, ht, hbk, hnt, hnb, hm, hf, hgx, hnx, hb3⟩
  have HNT := Lib.hid (And.intro hnt hnb)
  clear hnt hnb
  have HAL3 := Lib.hid (HAL.out.low hb3)
  have c37 : w3.cell? ⟨g, 7, none⟩ = some (.slice (some ⟨gl, 0, none⟩) 1 cl) := HAL3.out.lv
  have c30 : w3.cell? ⟨gl, 0, none⟩ = some (.slice (some ⟨gr, 0, none⟩) 1 cr) := HAL3.out.rw_
  obtain ⟨kn, hkn⟩ : ∃ kn, kn = C14N := ⟨_, rfl⟩
  have HKN := Lib.hid hkn
  rw [← hkn] at HAL3
  have HVR := Lib.hid (show w3.rangeAt gr 0 (atV 2112 kn) from fun j v hv => by rw [Nat.zero_add]; exact HAL3.out.at_ j v hv)
  have HS3 := Lib.hid hsite
  have HK3 := Lib.hid hka
  have HM3 := Lib.hid (show MemAt w3 ym C14S from hm)
  have HGE := Lib.hid (And.intro hf (And.intro hgx (And.intro hnx (And.intro ht hbk))))
  have HB3 := Lib.hid hb3
  clear hsite hka hm hf hgx hnx ht hbk hb3 HON c0 hkn HAL
  obtain ⟨VS, hVS⟩ : ∃ VS, VS = atV 2112 kn := ⟨_, rfl⟩
  have HVS := Lib.hid hVS
  have HV22 := Lib.hid (show VS.length = 22 by rw [hVS]; rfl)
  have HV1 := Lib.hid (show ∀ v ∈ VS, v.oneCell' = true by rw [hVS]; exact atV_one _ _)
  rw [← hVS] at HVR
  clear hVS
  go_upto_region 8 with (first
    | ((with_reducible refine show_loadA ?_); refine wpList_load_mid rfl _ _ rfl gr 0 rfl VS _ HVR.out Tryz.underlying55 rfl (by rw [HV22.out]; exact atI) ?_)
    | ((with_reducible refine show_storeA ?_); refine wpList_store_row rfl _ _ _ rfl w3.heap.size VS rfl rfl (Row.new w3 55 zeroAt.toArray) (by rw [HV22.out]; rfl) (by rw [HV22.out]; exact atI) HV1.out ?_))
  obtain ⟨W4, hW4⟩ : ∃ W4, W4 = (w3.alloc (.cells #[.int .u64 0, .int .i64 0, .int .u64 0, .int .u64 0, .int .u64 0, .int .u64 0, .int .u64 0, .int .u64 0, .int .u64 0, .int .u64 0, .int .u64 0, .int .u64 0, .int .u64 0, .int .u64 0, .int .u64 0, .int .u64 0, .int .u64 0, .int .u64 0, .int .u64 0, .int .u64 0, .int .u64 0, .int .u64 0] 55)).setCells w3.heap.size 0 VS := ⟨_, rfl⟩
  rw [← hW4]
  have hr4 : Row W4 w3.heap.size 55 VS.toArray := by rw [hW4]; exact row_setCells (Row.new w3 55 zeroAt.toArray) (by rw [HV22.out]; rfl)
  have hb4 : Below w3.heap.size w3 W4 := by rw [hW4]; exact setCells_low _ (Nat.le_refl _) (alloc_low _ _)
  obtain ⟨ga, hga⟩ : ∃ ga, ga = w3.heap.size := ⟨_, rfl⟩
  rw [← hga] at hr4 ⊢
  rw [HVS.out] at hr4
  have ca : W4.cell? ⟨ga, 0, none⟩ = some (.int .u64 2112) := hr4.cell 0
  have HNEW := Lib.hid (hoNew_any (some ⟨gx, 0, none⟩) 1 2112 7 W4)
  have HR4 := Lib.hid hr4
  have HB4 := Lib.hid hb4
  have HGA := Lib.hid hga
  clear hW4 hr4 hb4 hga c37 c30 HVR HV22 HV1 HVS HAL3
  go_wp2_with fail
  refine HNEW.out.mono ?_
  rintro e w5 ⟨gh, rfl, hh, hgh, hb5⟩
  have hb35 : Below w3.heap.size w3 w5 := Below.and HB4.out hb5
  have hm5 := HM3.out.below hb35
  have hs5 : SiteAt w5 gx (some ⟨ym.g, 0, none⟩) q (some ⟨t, 0, none⟩) := Row.below HS3.out hb35 HS3.out.lt
  have hk5 := HK3.out.below hb35
  have K5 := siteK (lk := lk0 2) hm5 (by decide) hs5 hk5
  have HAT := Lib.hid (hoAt_no (w := w5) (p := some ⟨gh, 0, none⟩) (k := 7) (by decide) fun W hb => hoRefusal_not (hh.below hb) rfl (hoWrong_in (hh.below hb) (siteK (lk := lk0 2) (hm5.below hb) (by decide) (Row.below hs5 hb hs5.lt) (hk5.below hb)) (by show (0 : Int) ≤ 1; decide) (by show (2112 : Int) ≠ 0; decide) (by show (1 : Int) < 2; decide)))
  have HB5 := Lib.hid hb5
  have HB35 := Lib.hid hb35
  have HH5 := Lib.hid hh
  have HGH := Lib.hid hgh
  clear hh hgh hb5 hb35 hm5 hs5 hk5 K5 HNEW ca
  go_wp2_with fail
  refine HAT.out.mono ?_
  rintro e w6 ⟨rfl, hb6⟩
  have HB6 := Lib.hid hb6
  clear hb6 HAT
  obtain ⟨zn, hzn⟩ : ∃ zn, zn = zeroNd := ⟨_, rfl⟩
  rw [← hzn]
  clear hzn
  go_upto_region 10 with (first
    | ((with_reducible refine show_storeN ?_); refine wpList_store_row rfl _ _ _ rfl w6.heap.size zn.cl rfl rfl (Row.new w6 35 zeroNd.cl.toArray) rfl ndI (cl_one _) ?_))
  obtain ⟨W7, hW7, hn7, hb7⟩ := store_ndH w6 zn
  rw [← hW7]
  have hb57 := Below.and HB6.out hb7
  have hb37 := Below.and HB35.out hb57
  have hh7 := HH5.out.below hb57
  have hsz3 := HB4.out.size
  have hlt := HM3.out.lt
  have hx3 := HS3.out.lt
  have hk3 := HK3.out.row.lt
  have hk3b := HK3.out.mp.lt
  have hgh2 := HGH.out
  have hf3 := HGE.out.1
  have hsx := (show gx ≠ t ∧ gx ≠ b from ⟨fun e => by
    have h1 : Tag w3 gx 115 := Row.tag HS3.out
    have h2 := Row.tag HK3.out.row
    rw [e] at h1
    exact absurd (h1.same h2) (by decide), fun e => by
    obtain ⟨es, c, hb⟩ := HK3.out.mp.map
    have h1 := HS3.out
    rw [e] at h1
    have h2 : w3.heap[b]? = _ := h1
    rw [hb] at h2
    cases h2⟩)
  have O : HOk W7 ym gh gx t b 0 2 1 2112 T q 7 C14S C14N S' := ⟨HM3.out.below hb37, c14_Lds, hh7, HK3.out.below hb37, Row.below HS3.out hb37 hx3, by decide, fun hf => by have := hlt _ hf; omega, HNT.out.1, HNT.out.2, HGE.out.2.2.1, fun e => by omega, fun e => by omega, fun e => by omega, hsx.1, hsx.2, by decide, by decide, by decide, fun A => ldV_in c14_Lds.ok A, HSN.out.1, HSN.out.2.1, HSN.out.2.2.1, HSN.out.2.2.2, rfl, c14_inv, c14_act, HT.out.1, by have := HT.out; omega⟩
  have HO := Lib.hid O
  have HB37 := Lib.hid hb37
  have HAP := Lib.hid (show w.heap.size ≤ gh ∧ w.heap.size ≤ t ∧ w.heap.size ≤ b ∧ (∀ k, ym.fp k → w.heap.size ≤ k) ∧ ga ≠ gh ∧ ga ≠ t ∧ ga ≠ b ∧ ¬ ym.fp ga ∧ ga < W7.heap.size ∧ w.heap.size ≤ w3.heap.size from by
    have h2 := HB2.out.size
    have h3 := HB3.out.size
    have h4 := HR4.out.lt
    have h5 := HB5.out.size
    have h6 := hb57.size
    have h7 := HGA.out
    have h8 := HGE.out
    refine ⟨by omega, by omega, by omega, fun k hk => by have := hf3 k hk; omega, by omega, by omega, by omega, fun hf => by have := hlt _ hf; omega, by omega, by omega⟩)
  have HRA := Lib.hid (show Row W7 ga 55 (atV 2112 kn).toArray from (HR4.out.below HB5.out HR4.out.lt).below hb57 (by have := HB5.out.size; have := HR4.out.lt; omega))
  clear O hsx hf3 hgh2 hk3b hk3 hx3 hlt hsz3 hh7 hb37 hb57 hb7 hn7 hW7 HB6 HH5 HB35 HB5 HB4 HR4 HGH HSN HGE HNT HM3 HK3 HS3 HGA
  go_wp2_with fail
  go_loopw [8] (fun i wr => ∃ k : Nat, k ≤ T ∧ i = .int .i64 (k : Int) ∧ HKI W7 ym gh gx t b 0 2 1 2112 T 7 C14S k wr) (fun i _ => T + 1 - (intOf i).toNat)
  case atStart => exact ⟨0, Nat.zero_le _, rfl, .inl ⟨rfl, Below.refl _ _⟩⟩
  case round =>
    rename World => wr
    obtain ⟨k, hk, rfl, hI⟩ := hrel
    have HST := Lib.hid (hk_step HO.out hk hI)
    have h400 : (k : Int) < 400 := by have := HT.out; omega
    clear hI
    by_cases hlt : k < T
    · have HS2 := Lib.hid (HST.out.mono (R' := fun e w' => e = .returned (.tuple #[.bool false, .int .i64 0]) ∧ HKI W7 ym gh gx t b 0 2 1 2112 T 7 C14S (k + 1) w') (by
        rintro e w' ⟨rfl, h1, _⟩
        exact ⟨by rw [decide_eq_false (by omega)], h1 hlt⟩))
      clear HST
      go_wp2_with fail
      refine HS2.out.mono ?_
      rintro e w8 ⟨rfl, h8⟩
      have H8 := Lib.hid h8
      clear h8 HS2
      go_wp2
      exact ⟨⟨k + 1, by omega, by go_num, H8.out⟩, by simp [intOf]; omega⟩
    · obtain rfl : k = T := by omega
      have HS2 := Lib.hid (HST.out.mono (R' := fun e w' => e = .returned (.tuple #[.bool true, .int .i64 0]) ∧ HKE W7 ym gh gx t b 2 1 2112 7 C14S C14N w') (by
        rintro e w' ⟨rfl, _, h1⟩
        exact ⟨by rw [decide_eq_true rfl], h1 rfl⟩))
      clear HST hlt hk
      go_wp2_with fail
      refine HS2.out.mono ?_
      rintro e w8 ⟨rfl, gs, y, s, h8, hk8, hb8, hm8, hyg, hyf, hnl⟩
      have hsx8 : ¬ (ym.fp gx ∨ gx = gh ∨ gx = t ∨ gx = b) := fun e => by
        rcases e with e | e | e | e
        · exact HO.out.nx e
        · exact HO.out.hx e
        · exact HO.out.xt e
        · exact HO.out.xb e
      obtain ⟨a1, a2, a3, a4, a5, a6, a7, a8, a9, a10⟩ := HAP.out
      have hs8 : SiteAt w8 gx (some ⟨ym.g, 0, none⟩) q (some ⟨t, 0, none⟩) := hb8.row HO.out.site hsx8
      have hra8 : Row w8 ga 55 (atV 2112 kn).toArray := hb8.row HRA.out fun e => by
        rcases e with e | e | e | e
        · exact a8 e
        · exact a5 e
        · exact a6 e
        · exact a7 e
      have hl8 : Below w.heap.size w w8 := by
        have h1 : Below w.heap.size w W7 := Below.and (Below.and HB2.out HB3.out) HB37.out
        exact h1.trans (hb8.below h1.size fun k hk => by
          rcases hk with h | h | h | h
          · exact a4 k h
          · omega
          · omega
          · omega)
      have HATE := Lib.hid (show Calls Tryz.prog 5 #[.pointer (some ⟨gh, 0, none⟩)] w8 fun e w' => e = .returned (.tuple #[.int .u64 2112, kn.V, .int .i64 0]) ∧ Below w8.heap.size w8 w' from by
        rw [HKN.out]
        exact hoAt_yes h8 fun W hb => (hoRefusal_done (h8.below hb) rfl rfl).mono fun e w' ⟨he, hw⟩ => ⟨he, by rw [← hw]; exact Below.refl _ _⟩)
      have H8 := Lib.hid h8
      have HK8 := Lib.hid hk8
      have HS8 := Lib.hid hs8
      have HA8 := Lib.hid hra8
      have HL8 := Lib.hid hl8
      have HGT := Lib.hid (show gh ≠ t ∧ gh ≠ b ∧ gx ≠ gh ∧ gx ≠ t ∧ gx ≠ b ∧ ga ≠ gh ∧ ga ≠ t ∧ ga ≠ b ∧ w.heap.size ≤ gh ∧ w.heap.size ≤ t ∧ w.heap.size ≤ b from ⟨HO.out.ht, HO.out.hb, HO.out.hx, HO.out.xt, HO.out.xb, a5, a6, a7, a1, a2, a3⟩)
      clear h8 hk8 hb8 hm8 hyg hyf hnl hsx8 hs8 hra8 hl8 a1 a2 a3 a4 a5 a6 a7 a8 a9 a10 HS2 HO HRA HAP HB37 h400 HT HB2 HB3
      go_wp2_with fail
      refine HATE.out.mono ?_
      rintro e w9 ⟨rfl, hb9⟩
      have HB9 := Lib.hid hb9
      clear hb9 HATE
      go_upto_region 16 with (first
        | ((with_reducible refine show_storeN ?_); refine wpList_store_row rfl _ _ _ rfl w9.heap.size kn.cl rfl rfl (Row.new w9 35 zeroNd.cl.toArray) rfl ndI (cl_one _) ?_))
      obtain ⟨W10, hW10, hn10, hb10⟩ := store_ndH w9 kn
      rw [← hW10]
      obtain ⟨gn, hgn⟩ : ∃ gn, gn = w9.heap.size := ⟨_, rfl⟩
      rw [← hgn] at hn10 ⊢
      have hb810 := Below.and HB9.out hb10
      have HGN := Lib.hid (show gn ≠ gh ∧ gn ≠ t ∧ gn ≠ b from by
        have h1 := H8.out.lt
        have h2 := HK8.out.row.lt
        have h3 := HK8.out.mp.lt
        have h4 := HB9.out.size
        omega)
      have HC1 := Lib.hid fun p : LowBy W10 => Calls.low_of_same (w := W10) (p := p) (siLocks_yes (Row.below (Row.below HS8.out hb810 HS8.out.lt) p.low (by have := HS8.out.lt; have := hb810.size; omega)))
      have HC2 := Lib.hid fun p : LowBy W10 => Calls.low_of_same (w := W10) (p := p) (show Calls Tryz.prog 26 #[.pointer (some ⟨t, 0, none⟩), .int .u64 2112] p.W fun e w' => e = .returned (.tuple #[.int .i64 1, .bool true]) ∧ p.W = w' from holder_any ((HK8.out.below hb810).below p.low) (id := 2112) (by decide))
      have cax := fun p : LowBy W10 => p.cell (show W10.cell? ⟨ga, 0, none⟩ = some (.int .u64 2112) from (HA8.out.below hb810 HA8.out.lt).cell 0)
      have HN10 := Lib.hid hn10
      have HB10 := Lib.hid hb810
      clear hW10 hn10 hb10 hgn hb810
      refine wp_region_quiet_low (by assumption) (by kernel_rfl) ?_
      repeat (go_big_quiet_step (first | (go_at_call 25; with_reducible exact HC1.out _) | (go_at_call 26; with_reducible exact HC2.out _)))
      refine wpQuiet_nil ?_
      intro _ hw'
      obtain ⟨p, hw''⟩ := hw'
      subst hw''
      have hb11 := Below.and HB10.out p.low
      have HB11 := Lib.hid hb11
      have HN11 := Lib.hid (HN10.out.below p.low HN10.out.lt)
      clear HC1 HC2 cax
      generalize p.W = w11 at *
      have h11 := H8.out.below hb11
      have hk11 := HK8.out.below hb11
      have hs11 : SiteAt w11 gx (some ⟨ym.g, 0, none⟩) q (some ⟨t, 0, none⟩) := Row.below HS8.out hb11 HS8.out.lt
      have HREL := Lib.hid (show Calls Tryz.prog 11 #[.pointer (some ⟨gh, 0, none⟩)] w11 fun e w' => e = .returned (.bool true) ∧ (HoAt w' gh { hfE gx 1 7 2112 gh gs C14N with lk := false } ∧ KAt w' t b (relS (lkH 2 1 2112) 1 2112) ∧ But w11 w' (fun k => k = gh ∨ k = t ∨ k = b)) from
        hoRelease_done h11 rfl (hoLet_yes (t := some ⟨t, 0, none⟩) h11 rfl (siLocks_yes hs11) (wants_any hk11 (c := 1) (by decide)) (fun W hW hbt => (rel_any (hk11.but hbt (fun e => HGT.out.1 e.symm) (fun e => HGT.out.2.1 e.symm)) (c := 1) (id := 2112) (by decide) (by decide) (by decide)).mono (by
          rintro e w' ⟨rfl, hk', hb'⟩
          exact ⟨rfl, hW.but hb' (fun e => e.elim HGT.out.1 HGT.out.2.1), hk', (hbt.mono (q := fun k => k = gh ∨ k = t ∨ k = b) fun k hk => .inl hk).trans hb' fun k hk => .inl (.inr hk)⟩)) (fun w' h => h.1)))
      clear h11 hk11 hs11 hb11
      go_wp2_with fail
      refine HREL.out.mono ?_
      rintro e w12 ⟨rfl, h12, hk12, hb12⟩
      have H12 := Lib.hid h12
      have HK12 := Lib.hid hk12
      have HS12 := Lib.hid (show SiteAt w12 gx (some ⟨ym.g, 0, none⟩) q (some ⟨t, 0, none⟩) from hb12.row (Row.below HS8.out HB11.out HS8.out.lt) fun e => by
        rcases e with e | e | e
        · exact HGT.out.2.2.1 e
        · exact HGT.out.2.2.2.1 e
        · exact HGT.out.2.2.2.2.1 e)
      have HA12 := Lib.hid (hb12.row (HA8.out.below HB11.out HA8.out.lt) fun e => by
        rcases e with e | e | e
        · exact HGT.out.2.2.2.2.2.1 e
        · exact HGT.out.2.2.2.2.2.2.1 e
        · exact HGT.out.2.2.2.2.2.2.2.1 e)
      have HN12 := Lib.hid (hb12.row HN11.out fun e => by
        rcases e with e | e | e
        · exact HGN.out.1 e
        · exact HGN.out.2.1 e
        · exact HGN.out.2.2 e)
      have HL12 := Lib.hid (show Below w.heap.size w w12 from by
        have h1 : Below w.heap.size w w11 := Below.and HL8.out HB11.out
        exact h1.trans (hb12.below h1.size fun k hk => by
          have h9 := HGT.out.2.2.2.2.2.2.2.2
          rcases hk with h | h | h <;> omega))
      have HATZ := Lib.hid (hoAt_no (w := w12) (p := some ⟨gh, 0, none⟩) (k := 7) (by decide) fun W hb => (hoRefusal_done (h12.below hb) rfl rfl).mono fun e w' ⟨he, hw⟩ => ⟨he, by rw [← hw]; exact Below.refl _ _⟩)
      clear h12 hk12 hb12 HREL HN11 HL8 HA8 HS8 HK8 H8 HB11 HGN
      go_wp2_with fail
      refine HATZ.out.mono ?_
      rintro e w13 ⟨rfl, hb13⟩
      have HB13 := Lib.hid hb13
      clear hb13 HATZ
      obtain ⟨zm, hzm⟩ : ∃ zm, zm = zeroNd := ⟨_, rfl⟩
      rw [← hzm]
      clear hzm
      go_upto_region 19 with (first
        | ((with_reducible refine show_storeN ?_); refine wpList_store_row rfl _ _ _ rfl w13.heap.size zm.cl rfl rfl (Row.new w13 35 zeroNd.cl.toArray) rfl ndI (cl_one _) ?_))
      obtain ⟨W14, hW14, hn14, hb14⟩ := store_ndH w13 zm
      rw [← hW14]
      have hb1214 := Below.and HB13.out hb14
      have HC1 := Lib.hid fun p : LowBy W14 => Calls.low_of_same (w := W14) (p := p) (siLocks_yes (Row.below (Row.below HS12.out hb1214 HS12.out.lt) p.low (by have := HS12.out.lt; have := hb1214.size; omega)))
      have HC2 := Lib.hid fun p : LowBy W14 => Calls.low_of_same (w := W14) (p := p) (show Calls Tryz.prog 26 #[.pointer (some ⟨t, 0, none⟩), .int .u64 2112] p.W fun e w' => e = .returned (.tuple #[.int .i64 0, .bool false]) ∧ p.W = w' from holder_any ((HK12.out.below hb1214).below p.low) (id := 2112) (by decide))
      have cax := fun p : LowBy W14 => p.cell (show W14.cell? ⟨ga, 0, none⟩ = some (.int .u64 2112) from (HA12.out.below hb1214 HA12.out.lt).cell 0)
      have HB14 := Lib.hid hb1214
      clear hW14 hn14 hb14 hb1214
      refine wp_region_quiet_low (by assumption) (by kernel_rfl) ?_
      repeat (go_big_quiet_step (first | (go_at_call 25; with_reducible exact HC1.out _) | (go_at_call 26; with_reducible exact HC2.out _)))
      refine wpQuiet_nil ?_
      intro _ hw'
      obtain ⟨p2, hw''⟩ := hw'
      subst hw''
      have hb15 := Below.and HB14.out p2.low
      have HB15 := Lib.hid hb15
      clear HC1 HC2 cax
      generalize p2.W = w15 at *
      have HA15 := Lib.hid (HA12.out.below hb15 HA12.out.lt)
      have HN15 := Lib.hid (HN12.out.below hb15 HN12.out.lt)
      have ca2 : w15.cell? ⟨ga, 0, none⟩ = some (.int .u64 2112) := HA15.out.cell 0
      have hq := fun W' => eqNd kn W'
      have h15 := H12.out.below hb15
      have hs15 : SiteAt w15 gx (some ⟨ym.g, 0, none⟩) q (some ⟨t, 0, none⟩) := Row.below HS12.out hb15 HS12.out.lt
      have hk15 := HK12.out.below hb15
      have HRE2 := Lib.hid (show Calls Tryz.prog 11 #[.pointer (some ⟨gh, 0, none⟩)] w15 fun e w' => e = .returned (.bool false) ∧ Below w15.heap.size w15 w' from
        hoRelease_done h15 rfl (hoLet_no (t := some ⟨t, 0, none⟩) (v := 0) h15 rfl (siLocks_yes hs15) (wants_any hk15 (c := 1) (by decide))))
      clear h15 hs15 hk15 hb15
      go_wp2_with (first
        | ((with_reducible refine show_loadN ?_); refine wpList_load_midg (by rfl) _ _ rfl gn 0 rfl kn.cl _ (ndR HN15.out) Tryz.underlying35 rfl ndI ?_)
        | ((with_reducible refine show_loadN ?_); refine wpList_load_midg (by rfl) _ _ rfl ga 1 rfl kn.cl _ (at_R HA15.out) Tryz.underlying35 rfl ndI ?_))
      refine HRE2.out.mono ?_
      rintro e w16 ⟨rfl, hb16⟩
      have HB16 := Lib.hid hb16
      clear hb16 HRE2 hq ca2
      go_wp2_with fail
      go_ret
      exact ⟨rfl, Below.and (Below.and HL12.out HB15.out) HB16.out⟩
end Go.Proofs.YtiefgmibgdidpaaGreatDoor
/- HoldNil, walked: what is answered of no hold, of a zero one, of no site, of a client that there is not; conditions: geo.rooms is as laid. -/
namespace Go.Proofs.YtiefgmibgdidpaaGreatDoor
open Go.RowKit
set_option linter.unusedVariables false
attribute [local go_sem] Oper.semAt_some
/-- The step of a hold of no site. -/
theorem hoStep_nosite {w : World} {g : Nat} {s : HF} (h : HoAt w g s) (hd : s.d = false) (hl : s.lk = false) (hs : s.si = none) :
    Calls Tryz.prog 4 #[.pointer (some ⟨g, 0, none⟩)] w fun e w' => e = .returned (.tuple #[.bool true, .int .i64 1]) ∧ HoAt w' g { s with d := true, k := 1 } ∧ But w w' (fun q => q = g) :=
  hoStep_wrong (b := false) h hd (by decide) ((hoWrong_none (m := none) h (by rw [hs]; exact siMem_nil w) (size_no (.inl rfl))).mono fun e w' ⟨he, hw⟩ => ⟨he, by rw [← hw]; exact Below.refl _ _⟩)
    (fun W hW hb => hoLet_no (t := none) (v := 0) hW hl (by show Calls Tryz.prog 25 #[.pointer s.si] W _; rw [hs]; exact siLocks_nil W) ((wants_no (.inl rfl) s.cl).mono fun e w' ⟨he, hw⟩ => ⟨he, by rw [← hw]; exact Below.refl _ _⟩))
set_option maxRecDepth 100000 in
set_option maxHeartbeats 6400000 in
theorem holdNil_any (w : World) (R : Rms w) : Calls Tryz.prog 3 #[] w fun e w' => e = .returned (.bool true) ∧ Below w.heap.size w w' := by
  have mixed : Tryz.prog.follows .mixedOrders = true := by kernel_rfl
  have HR := Lib.hid R
  have hb1 : Below w.heap.size w (w.alloc (.cells (HF.zero none 0 0).cells.toArray 38)) := alloc_below _ _
  have hz1 : HoAt (w.alloc (.cells (HF.zero none 0 0).cells.toArray 38)) w.heap.size (HF.zero none 0 0) := Row.new _ _ _
  have HST := Lib.hid (hoStep_nosite hz1 rfl rfl rfl)
  have HB1 := Lib.hid hb1
  clear hb1 hz1 R
  go_enter Tryz.func3, Tryz.ntmps3
  go_wp2_with fail
  refine (hoStep_nil _).mono ?_
  rintro e w1 ⟨rfl, hw1⟩
  rw [← hw1]
  clear hw1 w1
  go_wp2_with fail
  refine HST.out.mono ?_
  rintro e w2 ⟨rfl, hz2, hb2⟩
  have HZ2 := Lib.hid hz2
  have HB2 := Lib.hid (show Below w.heap.size w w2 from HB1.out.trans (hb2.below HB1.out.size fun q e => by omega))
  obtain ⟨gz, hgz⟩ : ∃ gz, gz = w.heap.size := ⟨_, rfl⟩
  rw [← hgz] at HZ2 ⊢
  have HGZ := Lib.hid hgz
  clear hz2 hb2 hgz HST HB1
  have HAT := Lib.hid (hoAt_no (w := w2) (p := none) (k := 1) (by decide) fun W hb => (hoRefusal_nil W).mono fun e w' ⟨he, hw⟩ => ⟨he, by rw [← hw]; exact Below.refl _ _⟩)
  go_wp2_with fail
  refine HAT.out.mono ?_
  rintro e w3 ⟨rfl, hb3⟩
  have HB3 := Lib.hid hb3
  clear hb3 HAT
  obtain ⟨zn, hzn⟩ : ∃ zn, zn = zeroNd := ⟨_, rfl⟩
  rw [← hzn]
  clear hzn
  go_upto_region 6 with (first
    | ((with_reducible refine show_storeN ?_); refine wpList_store_row rfl _ _ _ rfl w3.heap.size zn.cl rfl rfl (Row.new w3 35 zeroNd.cl.toArray) rfl ndI (cl_one _) ?_))
  obtain ⟨W4, hW4, hn4, hb4⟩ := store_ndH w3 zn
  rw [← hW4]
  have HB4 := Lib.hid (Below.and HB2.out (Below.and HB3.out hb4))
  have HZ4 := Lib.hid (HZ2.out.below (Below.and HB3.out hb4))
  have HNEW := Lib.hid (hoNew_any none 0 64 0 W4)
  clear hW4 hn4 hb4 HB3 HZ2 HB2
  go_wp2_with fail
  refine HNEW.out.mono ?_
  rintro e w5 ⟨g1, rfl, hh5, hg1, hb5⟩
  have HST := Lib.hid (hoStep_nosite hh5 rfl rfl rfl)
  have HB5 := Lib.hid (Below.and HB4.out hb5)
  have HZ5 := Lib.hid (HZ4.out.below hb5)
  have HG1 := Lib.hid (show g1 ≠ gz ∧ w.heap.size ≤ g1 from by have := HZ4.out.lt; have := HB4.out.size; omega)
  clear hh5 hg1 hb5 HNEW HZ4 HB4
  go_wp2_with fail
  refine HST.out.mono ?_
  rintro e w6 ⟨rfl, _, hb6⟩
  have HZ6 := Lib.hid (HZ5.out.but hb6 fun e => HG1.out.1 e.symm)
  have HB6 := Lib.hid (show Below w.heap.size w w6 from HB5.out.trans (hb6.below HB5.out.size fun q e => by have := HG1.out.2; omega))
  have HLAY := Lib.hid (show Calls Tryz.prog 7 #[.agg #[.int .i64 2, .slice none 0 0, .int .i64 4, .int .i64 0]] w6 (BuildP w6 2 []) from
    lay_none (n := 2) (per := 4) (lag := 0) (by decide) (by decide) (by decide) (by decide) (by decide) (by rw [c0T]; decide) (by rw [c0N]; exact c0Wok))
  clear hb6 HST HZ5 HB5 HG1
  go_wp2_with fail
  refine HLAY.out.mono ?_
  rintro e w7 ⟨g, gb, rfl, hg, hgb, hb7, gl, cl, gr, cr, hA, hl, hc, hgl, hgr⟩
  have hNz : (bZ 2 []).N = 3072 := by unfold Ar.N; rw [c0Zn]
  have hrow0 := hA.row.cell 0
  have hrow7 := hA.row.cell 7
  have hbyt := hA.byt
  rw [hNz] at hrow0 hbyt
  rw [c0Zf] at hbyt
  have c0 : w7.cell? ⟨g, 0, none⟩ = some (.slice (some ⟨gb, 0, none⟩) 3072 3072) := hrow0
  have HC7 := Lib.hid (show w7.cell? ⟨g, 7, none⟩ = some (.slice (some ⟨gl, 0, none⟩) 1 cl) ∧ w7.cell? ⟨gl, 0, none⟩ = some (.slice (some ⟨gr, 0, none⟩) 1 cr) ∧ w7.cell? ⟨gr, 0, none⟩ = some (.int .u64 1088) from ⟨hrow7, hl, hc 0 _ (by rw [c0T, c0N]; rfl)⟩)
  have HB7 := Lib.hid (Below.and HB6.out hb7)
  have HZ7 := Lib.hid (HZ6.out.below hb7)
  have HON := Lib.hid (show Calls Tryz.prog 8 #[.slice (some ⟨gb, 0, none⟩) 3072 3072, .int .i64 1] w7 (OnKP w7 1 3072 C0F) from
    onK_yes (N := 3072) (n := 2) (c := 1) rfl (HR.out.below HB7.out) hbyt c0_byt (by decide) (by decide) (by decide) (by decide) c0Ok)
  clear hA hl hc hgl hgr hg hgb hb7 hNz hrow0 hrow7 hbyt HLAY HB6 HZ6
  go_wp2_with fail
  refine HON.out.mono ?_
  rintro e w8 ⟨gx, ym, q, t, b, rfl, hsite, hka, ht, hbk, hnt, hnb, hm, hf, hgx, hnx, hb8⟩
  have d7 : w8.cell? ⟨g, 7, none⟩ = some (.slice (some ⟨gl, 0, none⟩) 1 cl) := (hb8.cell (p := ⟨g, 7, none⟩) (w7.block_lt_of_cell? _ HC7.out.1)).trans HC7.out.1
  have dl : w8.cell? ⟨gl, 0, none⟩ = some (.slice (some ⟨gr, 0, none⟩) 1 cr) := (hb8.cell (p := ⟨gl, 0, none⟩) (w7.block_lt_of_cell? _ HC7.out.2.1)).trans HC7.out.2.1
  have dr : w8.cell? ⟨gr, 0, none⟩ = some (.int .u64 1088) := (hb8.cell (p := ⟨gr, 0, none⟩) (w7.block_lt_of_cell? _ HC7.out.2.2)).trans HC7.out.2.2
  have HS8 := Lib.hid hsite
  have HK8 := Lib.hid hka
  have HM8 := Lib.hid hm
  have HB8 := Lib.hid (Below.and HB7.out hb8)
  have HZ8 := Lib.hid (HZ7.out.below hb8)
  have HNEW := Lib.hid (hoNew_any (some ⟨gx, 0, none⟩) 1 1088 0 w8)
  clear hsite hka ht hbk hnt hnb hm hf hgx hnx hb8 HON HC7 HB7 HZ7 c0
  go_wp2_with fail
  refine HNEW.out.mono ?_
  rintro e w9 ⟨g2, rfl, hh9, hg2, hb9⟩
  have hs9 : SiteAt w9 gx (some ⟨ym.g, 0, none⟩) q (some ⟨t, 0, none⟩) := Row.below HS8.out hb9 HS8.out.lt
  have hk9 := HK8.out.below hb9
  have HST := Lib.hid (hoStep_wrong (k := 12) (b := false) hh9 rfl (by decide) (hoWrong_out hh9 (siteK (lk := lk0 1) (HM8.out.below hb9) (by decide) hs9 hk9) (by show (0 : Int) ≤ 1; decide) (by show (1088 : Int) ≠ 0; decide) (by show (1 : Int) ≤ 1; decide))
    (fun W hW hb => hoLet_no (t := some ⟨t, 0, none⟩) (v := 0) hW rfl (siLocks_yes (hb.row hs9 fun e => by have := HS8.out.lt; omega)) ((wants_out (hk9.but hb (fun e => by have := HK8.out.row.lt; omega) (fun e => by have := HK8.out.mp.lt; omega)) (c := 1) (by decide)).mono fun e w' ⟨he, hw⟩ => ⟨he, by rw [← hw]; exact Below.refl _ _⟩)))
  have HB9 := Lib.hid (Below.and HB8.out hb9)
  have HZ9 := Lib.hid (HZ8.out.below hb9)
  have HG2 := Lib.hid (show g2 ≠ gz ∧ w.heap.size ≤ g2 from by have := HZ8.out.lt; have := HB8.out.size; omega)
  clear hh9 hs9 hk9 hg2 hb9 HNEW HB8 HZ8 HS8 HK8 HM8 d7 dl dr
  go_wp2_with fail
  refine HST.out.mono ?_
  rintro e w10 ⟨rfl, _, hb10⟩
  have hz10 := HZ9.out.but hb10 fun e => HG2.out.1 e.symm
  have HZ10 := Lib.hid hz10
  have HB10 := Lib.hid (show Below w.heap.size w w10 from HB9.out.trans (hb10.below HB9.out.size fun q e => by have := HG2.out.2; omega))
  have HHI := Lib.hid (hoHigh_no (p := some ⟨gz, 0, none⟩) (k := 1) (by decide) (hoRefusal_err hz10 rfl (by show (1 : Int) ≠ 0; decide)))
  have HRZ := Lib.hid (show Calls Tryz.prog 11 #[.pointer (some ⟨gz, 0, none⟩)] w10 fun e w' => e = .returned (.bool false) ∧ Below w10.heap.size w10 w' from
    hoRelease_done hz10 rfl (hoLet_no (t := none) (v := 0) hz10 rfl (siLocks_nil w10) ((wants_no (.inl rfl) 0).mono fun e w' ⟨he, hw⟩ => ⟨he, by rw [← hw]; exact Below.refl _ _⟩)))
  clear hz10 hb10 HST HB9 HZ9 HG2
  go_wp2_with fail
  refine HHI.out.mono ?_
  rintro e w' ⟨rfl, rfl⟩
  clear HHI
  go_wp2_with fail
  refine (hoApply_nil _ _).mono ?_
  rintro e w' ⟨rfl, rfl⟩
  go_wp2_with fail
  refine (hoRelease_nil _).mono ?_
  rintro e w' ⟨rfl, rfl⟩
  go_wp2_with fail
  refine HRZ.out.mono ?_
  rintro e w11 ⟨rfl, hb11⟩
  have hb := Below.and HB10.out hb11
  have HB11 := Lib.hid hb
  have HKN := Lib.hid (known16_any (HR.out.below hb))
  clear hb11 hb HRZ
  go_wp2_with fail
  refine HKN.out.mono ?_
  rintro e w12 ⟨rfl, hb12⟩
  have HB12 := Lib.hid (Below.and HB11.out hb12)
  clear hb12 HKN
  go_wp2_with fail
  go_ret
  exact ⟨rfl, HB12.out⟩
end Go.Proofs.YtiefgmibgdidpaaGreatDoor
