/- WordLists, where the bytes are words': the program's words and the document's are one list, and lead back. -/
import Derived.Test.YtjpdmdplcecglaaWordLists
namespace Go.Proofs.Ytjpdmdplcecglaa
open Go.RowKit
set_option linter.unusedVariables false
set_option maxHeartbeats 1600000 in
set_option maxRecDepth 100000 in
theorem lists_yes (L M : List Nat) (A B : Option Addr) (n cn m cm : Nat) (w : World) (hn : n ≤ 1000) (hc : n ≤ cn) (hm : m ≤ 1000) (hL : L.length = n) (hbL : Byts L) (hM : M.length = m) (hw : Wrds M) (hsA : Sl w A (L.map bv)) (hsB : Sl w B (M.map wv)) (h8 : n % 8 = 0) :
    Calls Try.prog 5 #[.slice A n cn, .slice B m cm] w fun e w' => e = .returned (.bool true) ∧ Below w.heap.size w w' := by
  have H1 := Lib.hid fun w hs => words_yes L A n cn w hL (by omega) hc hbL hs h8
  have H2 := Lib.hid fun w hs => refWords_yes L A n cn w hL (by omega) hbL hs h8
  have hKl : (cutN L).length = n / 8 := by rw [cutN_length, hL]; omega
  have H6 := Lib.hid fun A c w hs => bytes_any (cutN L) A (n / 8) c w hKl (by omega) hs
  have HS6 := Lib.hid fun A B c d w h1 h2 => same_yes (cutN L) (n / 8) A B c d w hKl (by omega) h1 h2
  have hsc : spr (cutN L) = L := spr_cut L hbL (by rw [hL]; exact h8)
  rw [hsc] at H6
  have HCL := Lib.hid fun (A : Option Addr) k c (w : World) hk hs h0 => conv_any (w := w) (A := A) (l := L) k c hk hs h0
  obtain ⟨Sb, hSb⟩ : ∃ Sb, Sb = strOf L := ⟨_, rfl⟩
  rw [← hSb] at HCL
  obtain ⟨K, hK⟩ : ∃ K, K = cutN L := ⟨_, rfl⟩
  rw [← hK] at H1 H2 H6 HS6
  have h88 : L.length = 8 * (n / 8) := by omega
  have HL := Lib.hid hL
  have HL8 := Lib.hid h88
  have HA0 : Hid (∀ w, Sl w A (L.map bv) → A = none → n = 0) := Lib.hid fun w h e => by
    subst e
    by_cases h0 : n = 0
    · exact h0
    · obtain ⟨a, e, _⟩ := h.at_ (i := 0) (by rw [List.length_map]; omega)
      cases e
  clear hSb hK hsc hKl hL h88
  have H3 := Lib.hid fun w hs => bytes_any M B m cm w hM (by omega) hs
  have H4 := Lib.hid fun w hs => refBytes_any M B m cm w hM (by omega) hw hs
  have hsl : (spr M).length = 8 * m := by rw [spr_length, hM]
  have HSL := Lib.hid hsl
  obtain ⟨C, hC⟩ : ∃ C, C = spr M := ⟨_, rfl⟩
  have H5 := Lib.hid fun (g : Nat) w hs => words_yes (spr M) (some ⟨g, 0, none⟩) (8 * m) (8 * m) w hsl (by omega) (Nat.le_refl _) (spr_byts M) hs (by omega)
  rw [cut_spr M hw, Nat.mul_div_cancel_left m (by decide : 0 < 8)] at H5
  have HSM := Lib.hid fun A B c d w h1 h2 => same_yes M m A B c d w hM (by omega) h1 h2
  have HCV := Lib.hid fun (A : Option Addr) c (w : World) hs h0 => conv_any (w := w) (A := A) (8 * m) c hsl hs h0
  have H0 : Hid (∀ (A : Option Addr) (w : World), Sl w A ((spr M).map bv) → A = none → 8 * m = 0) := Lib.hid fun A w h e => by
    subst e
    by_cases h0 : 8 * m = 0
    · exact h0
    · obtain ⟨a, e, _⟩ := h.at_ (i := 0) (by rw [List.length_map]; omega)
      cases e
  obtain ⟨S, hS⟩ : ∃ S, S = strOf (spr M) := ⟨_, rfl⟩
  rw [← hS] at HCV
  rw [← hC] at H3 H4 H5 HCV HSL H0
  have hall : AllB (C.map bv).toArray (8 * m) := by rw [hC]; exact AllB.of (spr_byts M) hsl
  have HALL := Lib.hid hall
  clear hS hC hsl h8 hall
  go_enter Try.func5, Try.ntmps5
  go_wp2_with fail
  refine (H1.out _ hsA).mono ?_
  rintro e wa ⟨va, rfl, howna, hba⟩
  go_wp2_with fail
  refine (H2.out _ (hsA.below hba)).mono ?_
  rintro e wb ⟨vb, rfl, hownb, hbb⟩
  obtain ⟨Aa, ca, rfl, _, _, hsa, _⟩ := own_sl howna
  obtain ⟨Ab, cb, rfl, _, _, hsb, _⟩ := own_sl hownb
  have hsa' := hsa.below hbb
  have hbab := Below.and hba hbb
  clear howna hownb
  go_wp2_with fail
  refine (HS6.out _ _ _ _ _ hsa' hsb).mono ?_
  rintro e w1 ⟨rfl, q1, hw1⟩
  have hb01 : Below wb.heap.size wb w1 := by rw [hw1]; exact drewN_below _ _
  have hb1 := Below.and hbab hb01
  have hsa1 := hsa'.below hb01
  have hsA1 := hsA.below hb1
  have hsB1 := hsB.below hb1
  clear hw1
  go_wp2_with fail
  refine (H3.out _ hsB1).mono ?_
  rintro e w2 ⟨rfl, hown2, hb2⟩
  have hr2 := own_row hown2
  obtain ⟨g, hg⟩ : ∃ g, g = w1.heap.size := ⟨_, rfl⟩
  have hgH : w.heap.size ≤ g := by rw [hg]; exact hb1.size
  rw [← hg] at hr2 ⊢
  have hS8 : Row w2 g 5 (C.map bv).toArray ∧ Sl w2 A (L.map bv) ∧ Sl w2 B (M.map wv) ∧ Below w.heap.size w w2 := ⟨hr2, hsA1.below hb2, hsB1.below hb2, Below.and hb1 hb2⟩
  have hsa2 := hsa1.below hb2
  have hss : (S.toList != S.toList) = false := by simp
  have hcv1 : ∀ W, Row W g 5 (C.map bv).toArray → (convert 28 9 (.slice (some ⟨g, 0, none⟩) (8 * m) (8 * m))).run Try.prog W = .ok (.string S) W := fun W h => HCV.out _ _ W (row_sl h) (fun e => by cases e)
  have HC1 := Lib.hid hcv1
  clear hown2 hr2 hg hcv1
  go_upto_region 8 with fail
  go_cut [50] (fun s50 wx => s50 = .bool false ∧ Row wx g 5 (C.map bv).toArray ∧ Sl wx Aa (K.map wv) ∧ Sl wx B (M.map wv) ∧ Below w.heap.size w wx)
  case first =>
    have hd := keep3 (drew_below w2) hS8
    have hsa3 := hsa2.below (drew_below w2)
    have hcd := HC1.out _ hd.1
    have hsd := hd.2.2.1
    go_region_with (first | (go_at_call 23; refine (H4.out _ hsd).mono ?_; rintro e wx ⟨vx, rfl, hownx, hbx⟩; obtain ⟨Ax, cx, rfl, _, _, hslx, _⟩ := own_sl hownx; have hcvx := HCV.out Ax cx wx hslx (H0.out Ax wx hslx); have hdx := keep3 hbx hd; have hcdx := HC1.out _ hdx.1; have hsax := hsa3.below hbx))
    all_goals (go_wp2_with fail; go_meet; exact ⟨rfl, hdx.1, hsax, hdx.2.2.1, hdx.2.2.2⟩)
  case rest =>
    obtain ⟨rfl, hr, hsA3, hsB3, hb3⟩ := hcut
    go_wp2_with fail
    refine (H5.out g _ (row_sl hr)).mono ?_
    rintro e w4 ⟨v4, rfl, hown4, hb4⟩
    obtain ⟨A4, c4, rfl, _, _, hs4, _⟩ := own_sl hown4
    have hr4 := hr.below hb4 hr.lt
    have hb5 := Below.and hb3 hb4
    have hsB5 := (hsB.below hb5).below (drew_below w4)
    have hs4d := hs4.below (drew_below w4)
    have hsa5 := (hsA3.below hb4).below (drew_below w4)
    have hbd := Below.and hb5 (drew_below w4)
    have hr4d := hr4.below (drew_below w4) hr4.lt
    have hown4d := own_keep hown4 (drew_below w4)
    have hsbs : (Sb.toList != Sb.toList) = false := by simp
    go_upto_region 11 with fail
    go_cut [75] (fun s75 wx => s75 = .bool false ∧ Row wx g 5 (C.map bv).toArray ∧ wx.ownsRow 0 22 1 (.slice A4 m c4) m (M.map wv) ∧ Below w.heap.size w wx)
    case first =>
      clear hr4 hown4 hs4 hr hsA3 hsB3
      refine wp_region_any (by kernel_rfl) ?_
      change wpAny _ _ _ _ _ _ _ (World.drew _)
      refine wpAny_take (i := 0) (oi := ⟨some 56, _, _, _, _, _⟩) (v := .slice A4 m c4) rfl (by kernel_rfl) (by kernel_rfl) (by kernel_rfl) (fun _ _ _ h => h) (Or.inl ⟨by kernel_rfl, by intro w; go_simp⟩) ?_
      simp only [Act.put, List.setIfInBounds_toArray, List.set_cons_zero, List.set_cons_succ]
      refine wpAny_take (i := 1) (oi := ⟨some 57, _, _, _, _, _⟩) (v := .slice B m cm) rfl (by kernel_rfl) (by kernel_rfl) (by kernel_rfl) (fun _ _ _ h => h) (Or.inl ⟨by kernel_rfl, by intro w; go_simp⟩) ?_
      simp only [Act.put, List.setIfInBounds_toArray, List.set_cons_zero, List.set_cons_succ]
      refine wpAny_ready (rs := [2]) (by kernel_rfl) (by simp) ?_
      refine AllReady.cons rfl (fun K hK => ?_) AllReady.nil
      go_simp
      refine (HSM.out _ _ _ _ _ hs4d hsB5).mono ?_
      rintro e wx ⟨rfl, qx, hwx⟩
      have hbx : Below w4.drew.heap.size w4.drew wx := by rw [hwx]; exact drewN_below _ _
      clear hwx
      have hsax := hsa5.below hbx
      have hAx := hsA.below (Below.and hbd hbx)
      have hcbx := HCL.out A n cn wx HL.out hAx (HA0.out wx hAx)
      refine hK _ _ ?_
      clear hK K
      refine wpAny_take (i := 3) (oi := ⟨some 59, _, _, _, _, _⟩) (v := .bool false) rfl (by kernel_rfl) (by kernel_rfl) (by kernel_rfl) (fun _ _ _ h => h) (Or.inl ⟨by kernel_rfl, by intro w; go_simp⟩) ?_
      simp only [Act.put, List.setIfInBounds_toArray, List.set_cons_zero, List.set_cons_succ]
      refine wpAny_take (i := 4) (oi := ⟨some 60, _, _, _, _, _⟩) (v := .bool false) rfl (by kernel_rfl) (by kernel_rfl) (by kernel_rfl) (fun _ _ _ h => h) (Or.inl ⟨by kernel_rfl, by intro w; go_simp⟩) ?_
      simp only [Act.put, List.setIfInBounds_toArray, List.set_cons_zero, List.set_cons_succ]
      refine wpAny_take (i := 5) (oi := ⟨some 61, _, _, _, _, _⟩) (v := .int .i64 0) rfl (by kernel_rfl) (by kernel_rfl) (by kernel_rfl) (fun _ _ _ h => h) (Or.inl ⟨by kernel_rfl, by intro w; go_simp⟩) ?_
      simp only [Act.put, List.setIfInBounds_toArray, List.set_cons_zero, List.set_cons_succ]
      refine wpAny_take (i := 6) (oi := ⟨some 62, _, _, _, _, _⟩) (v := .bool false) rfl (by kernel_rfl) (by kernel_rfl) (by kernel_rfl) (fun _ _ _ h => h) (Or.inl ⟨by kernel_rfl, by intro w; go_simp⟩) ?_
      simp only [Act.put, List.setIfInBounds_toArray, List.set_cons_zero, List.set_cons_succ]
      refine wpAny_take (i := 7) (oi := ⟨some 63, _, _, _, _, _⟩) (v := .bool false) rfl (by kernel_rfl) (by kernel_rfl) (by kernel_rfl) (fun _ _ _ h => h) (Or.inl ⟨by kernel_rfl, by intro w; go_simp⟩) ?_
      simp only [Act.put, List.setIfInBounds_toArray, List.set_cons_zero, List.set_cons_succ]
      refine wpAny_take (i := 8) (oi := ⟨some 64, _, _, _, _, _⟩) (v := .bool false) rfl (by kernel_rfl) (by kernel_rfl) (by kernel_rfl) (fun _ _ _ h => h) (Or.inl ⟨by kernel_rfl, by intro w; go_simp⟩) ?_
      simp only [Act.put, List.setIfInBounds_toArray, List.set_cons_zero, List.set_cons_succ]
      refine wpAny_take (i := 9) (oi := ⟨some 65, _, _, _, _, _⟩) (v := .int .i64 0) rfl (by kernel_rfl) (by kernel_rfl) (by kernel_rfl) (fun _ _ _ h => h) (Or.inl ⟨by kernel_rfl, by intro w; go_simp⟩) ?_
      simp only [Act.put, List.setIfInBounds_toArray, List.set_cons_zero, List.set_cons_succ]
      refine wpAny_take (i := 10) (oi := ⟨some 66, _, _, _, _, _⟩) (v := .bool true) rfl (by kernel_rfl) (by kernel_rfl) (by kernel_rfl) (fun _ _ _ h => h) (Or.inl ⟨by kernel_rfl, by intro w; go_simp⟩) ?_
      simp only [Act.put, List.setIfInBounds_toArray, List.set_cons_zero, List.set_cons_succ]
      refine wpAny_take (i := 11) (oi := ⟨some 67, _, _, _, _, _⟩) (v := .bool true) rfl (by kernel_rfl) (by kernel_rfl) (by kernel_rfl) (fun _ _ _ h => h) (Or.inl ⟨by kernel_rfl, by intro w; go_simp⟩) ?_
      simp only [Act.put, List.setIfInBounds_toArray, List.set_cons_zero, List.set_cons_succ]
      refine wpAny_take (i := 12) (oi := ⟨some 68, _, _, _, _, _⟩) (v := .slice Aa (n / 8) ca) rfl (by kernel_rfl) (by kernel_rfl) (by kernel_rfl) (fun _ _ _ h => h) (Or.inl ⟨by kernel_rfl, by intro w; go_simp⟩) ?_
      simp only [Act.put, List.setIfInBounds_toArray, List.set_cons_zero, List.set_cons_succ]
      refine wpAny_take (i := 15) (oi := ⟨some 71, _, _, _, _, _⟩) (v := .slice A n cn) rfl (by kernel_rfl) (by kernel_rfl) (by kernel_rfl) (fun _ _ _ h => h) (Or.inl ⟨by kernel_rfl, by intro w; go_simp⟩) ?_
      simp only [Act.put, List.setIfInBounds_toArray, List.set_cons_zero, List.set_cons_succ]
      refine wpAny_ready (rs := [13, 16]) (by kernel_rfl) (by simp) ?_
      refine AllReady.cons rfl (fun K hK => ?_) (AllReady.cons rfl (fun K hK => ?_) AllReady.nil)
      · go_simp
        refine (H6.out _ _ _ hsax).mono ?_
        rintro e wy ⟨rfl, howny, hby⟩
        have hbxy := Below.and hbx hby
        have hAy := hsA.below (Below.and hbd hbxy)
        have hcby := HCL.out A n cn wy HL.out hAy (HA0.out wy hAy)
        have hcvy := HCL.out _ _ (8 * (n / 8)) wy HL8.out (row_sl (own_row howny)) (fun e => by cases e)
        refine hK _ _ ?_
        clear hK K
        refine wpAny_ready (rs := [14, 16]) (by kernel_rfl) (by simp) ?_
        refine AllReady.cons rfl (fun K hK => ?_) (AllReady.cons rfl (fun K hK => ?_) AllReady.nil)
        · go_simp
          refine hK _ _ ?_
          clear hK K
          refine wpAny_ready (rs := [16]) (by kernel_rfl) (by simp) ?_
          refine AllReady.cons rfl (fun K hK => ?_) AllReady.nil
          go_simp
          refine hK _ _ ?_
          clear hK K
          refine wpAny_take (i := 17) (oi := ⟨some 73, _, _, _, _, _⟩) (v := .bool false) rfl (by kernel_rfl) (by kernel_rfl) (by kernel_rfl) (fun _ _ _ h => h) (Or.inl ⟨by kernel_rfl, by intro w; go_simp⟩) ?_
          simp only [Act.put, List.setIfInBounds_toArray, List.set_cons_zero, List.set_cons_succ]
          refine wpAny_take (i := 18) (oi := ⟨some 74, _, _, _, _, _⟩) (v := .bool false) rfl (by kernel_rfl) (by kernel_rfl) (by kernel_rfl) (fun _ _ _ h => h) (Or.inl ⟨by kernel_rfl, by intro w; go_simp⟩) ?_
          simp only [Act.put, List.setIfInBounds_toArray, List.set_cons_zero, List.set_cons_succ]
          refine wpAny_take (i := 19) (oi := ⟨some 75, _, _, _, _, _⟩) (v := .bool false) rfl (by kernel_rfl) (by kernel_rfl) (by kernel_rfl) (fun _ _ _ h => h) (Or.inl ⟨by kernel_rfl, by intro w; go_simp⟩) ?_
          simp only [Act.put, List.setIfInBounds_toArray, List.set_cons_zero, List.set_cons_succ]
          refine wpAny_done (by kernel_rfl) ?_ _
          go_wp2_with fail
          go_meet
          exact ⟨rfl, hr4d.below hbxy hr4d.lt, own_mono (own_keep hown4d hbxy) (Nat.zero_le _), Below.and hbd hbxy⟩
        · go_simp
          refine hK _ _ ?_
          clear hK K
          refine wpAny_ready (rs := [14]) (by kernel_rfl) (by simp) ?_
          refine AllReady.cons rfl (fun K hK => ?_) AllReady.nil
          go_simp
          refine hK _ _ ?_
          clear hK K
          refine wpAny_take (i := 17) (oi := ⟨some 73, _, _, _, _, _⟩) (v := .bool false) rfl (by kernel_rfl) (by kernel_rfl) (by kernel_rfl) (fun _ _ _ h => h) (Or.inl ⟨by kernel_rfl, by intro w; go_simp⟩) ?_
          simp only [Act.put, List.setIfInBounds_toArray, List.set_cons_zero, List.set_cons_succ]
          refine wpAny_take (i := 18) (oi := ⟨some 74, _, _, _, _, _⟩) (v := .bool false) rfl (by kernel_rfl) (by kernel_rfl) (by kernel_rfl) (fun _ _ _ h => h) (Or.inl ⟨by kernel_rfl, by intro w; go_simp⟩) ?_
          simp only [Act.put, List.setIfInBounds_toArray, List.set_cons_zero, List.set_cons_succ]
          refine wpAny_take (i := 19) (oi := ⟨some 75, _, _, _, _, _⟩) (v := .bool false) rfl (by kernel_rfl) (by kernel_rfl) (by kernel_rfl) (fun _ _ _ h => h) (Or.inl ⟨by kernel_rfl, by intro w; go_simp⟩) ?_
          simp only [Act.put, List.setIfInBounds_toArray, List.set_cons_zero, List.set_cons_succ]
          refine wpAny_done (by kernel_rfl) ?_ _
          go_wp2_with fail
          go_meet
          exact ⟨rfl, hr4d.below hbxy hr4d.lt, own_mono (own_keep hown4d hbxy) (Nat.zero_le _), Below.and hbd hbxy⟩
      · go_simp
        refine hK _ _ ?_
        clear hK K
        refine wpAny_ready (rs := [13]) (by kernel_rfl) (by simp) ?_
        refine AllReady.cons rfl (fun K hK => ?_) AllReady.nil
        go_simp
        refine (H6.out _ _ _ hsax).mono ?_
        rintro e wy ⟨rfl, howny, hby⟩
        have hbxy := Below.and hbx hby
        have hAy := hsA.below (Below.and hbd hbxy)
        have hcby := HCL.out A n cn wy HL.out hAy (HA0.out wy hAy)
        have hcvy := HCL.out _ _ (8 * (n / 8)) wy HL8.out (row_sl (own_row howny)) (fun e => by cases e)
        refine hK _ _ ?_
        clear hK K
        refine wpAny_ready (rs := [14]) (by kernel_rfl) (by simp) ?_
        refine AllReady.cons rfl (fun K hK => ?_) AllReady.nil
        go_simp
        refine hK _ _ ?_
        clear hK K
        refine wpAny_take (i := 17) (oi := ⟨some 73, _, _, _, _, _⟩) (v := .bool false) rfl (by kernel_rfl) (by kernel_rfl) (by kernel_rfl) (fun _ _ _ h => h) (Or.inl ⟨by kernel_rfl, by intro w; go_simp⟩) ?_
        simp only [Act.put, List.setIfInBounds_toArray, List.set_cons_zero, List.set_cons_succ]
        refine wpAny_take (i := 18) (oi := ⟨some 74, _, _, _, _, _⟩) (v := .bool false) rfl (by kernel_rfl) (by kernel_rfl) (by kernel_rfl) (fun _ _ _ h => h) (Or.inl ⟨by kernel_rfl, by intro w; go_simp⟩) ?_
        simp only [Act.put, List.setIfInBounds_toArray, List.set_cons_zero, List.set_cons_succ]
        refine wpAny_take (i := 19) (oi := ⟨some 75, _, _, _, _, _⟩) (v := .bool false) rfl (by kernel_rfl) (by kernel_rfl) (by kernel_rfl) (fun _ _ _ h => h) (Or.inl ⟨by kernel_rfl, by intro w; go_simp⟩) ?_
        simp only [Act.put, List.setIfInBounds_toArray, List.set_cons_zero, List.set_cons_succ]
        refine wpAny_done (by kernel_rfl) ?_ _
        go_wp2_with fail
        go_meet
        exact ⟨rfl, hr4d.below hbxy hr4d.lt, own_mono (own_keep hown4d hbxy) (Nat.zero_le _), Below.and hbd hbxy⟩
    case rest =>
    obtain ⟨rfl, hr6, hown6, hbq⟩ := hcut
    clear hr hsA3 hsB3 hs4 hr4 hown4 hr4d hown4d hs4d hsa5 hsB5
    go_wp2_with fail
    go_loopw [12] (fun i wr => ∃ (k : Nat) (cs : Array Value), k ≤ 8 * m ∧ i = .int .i64 (k : Int) ∧ Row wr g 5 cs ∧ AllB cs (8 * m) ∧ wr.ownsRow 0 22 1 (.slice A4 m c4) m (M.map wv) ∧ Below w.heap.size w wr) (fun i _ => 8 * m - (intOf i).toNat)
    case atStart => exact ⟨0, _, by omega, rfl, hr6, HALL.out, hown6, hbq⟩
    case round =>
      rename World => wr
      obtain ⟨k, cs, hk, rfl, hrr, hal, howr, hbr⟩ := hrel
      clear hr6 hown6 hbq
      by_cases hlt : k < 8 * m
      · obtain ⟨b, hb256, hcb⟩ := hal k hlt
        have hc := hrr.cell k
        rw [hcb] at hc
        have hf := hrr.free k
        have hne := own_ne howr hrr (by decide)
        clear hcb
        have eb : ((b : Int) + 1) % 256 = (((b + 1) % 256 : Nat) : Int) := by omega
        have hset := hrr.set k (.int .u8 (((b + 1) % 256 : Nat) : Int))
        have hals := hal.set k ((b + 1) % 256) (Nat.mod_lt _ (by decide))
        have hows := own_set (p := ⟨g, k, none⟩) howr hne (.int .u8 (((b + 1) % 256 : Nat) : Int))
        have hbs := hbr.setCell (p := ⟨g, k, none⟩) hgH (.int .u8 (((b + 1) % 256 : Nat) : Int))
        rw [← eb] at hset hals hows hbs
        clear eb hne
        go_wp2
        go_roundw
        case rel => exact ⟨k + 1, _, by omega, by go_num, hset, hals, hows, hbs⟩
        case measure => simp [intOf]; omega
      · go_wp2_with fail
        refine (H3.out _ (hsB.below hbr)).mono ?_
        rintro e w6 ⟨rfl, hown6, hb6⟩
        go_wp2_with fail
        refine (H5.out _ _ (row_sl (own_row hown6))).mono ?_
        rintro e w7 ⟨v7, rfl, hown7, hb7⟩
        obtain ⟨A7, c7, rfl, _, _, hs7, _⟩ := own_sl hown7
        have hb67 := Below.and hb6 hb7
        have howx := own_keep howr hb67
        have hbf := Below.and hbr hb67
        have hsBf := hsB.below hbf
        obtain ⟨A8, c8, he8, _, _, hs8, _⟩ := own_sl howx
        injection he8 with e1 e2 e3
        subst e1
        go_wp2_with fail
        refine (HSM.out _ _ _ _ _ hs7 hsBf).mono ?_
        rintro e w8 ⟨rfl, q8, hw8⟩
        have hb8 : Below w7.heap.size w7 w8 := by rw [hw8]; exact drewN_below _ _
        clear hw8
        go_wp2_with fail
        refine (HSM.out _ _ _ _ _ (hs8.below hb8) (hsBf.below hb8)).mono ?_
        rintro e w9 ⟨rfl, q9, hw9⟩
        have hb9 : Below w8.heap.size w8 w9 := by rw [hw9]; exact drewN_below _ _
        clear hw9
        go_wp2_with fail
        refine (known_any _).mono ?_
        rintro e w10 ⟨rfl, hb10⟩
        go_wp2
        go_ret
        exact ⟨rfl, Below.and hbf (Below.and hb8 (Below.and hb9 hb10))⟩
theorem lists_all (A : Option Addr) (n cn : Nat) (zs : List Int) (B : Option Addr) (m cm : Nat) (ys : List Int) (w : World) (h0 : InRow .u8 w A n cn zs) (h1 : InRow .u64 w B m cm ys) :
    Calls Try.prog 5 #[.slice A n cn, .slice B m cm] w fun e w' => e = .returned (.bool true) ∧ Below w.heap.size w w' := by
  obtain ⟨L, hL, hbL, hsA, hc, _⟩ := h0.read wf_byte
  obtain ⟨M, hM, hwM, hsB, _, _⟩ := h1.read wf_word
  have hsA' : Sl w A (L.map bv) := hsA
  have hsB' : Sl w B (M.map wv) := hsB
  by_cases h : 1000 < n ∨ 1000 < m
  · exact lists_long A B n cn m cm w h
  · by_cases h8 : n % 8 = 0
    · exact lists_yes L M A B n cn m cm w (by omega) hc (by omega) hL hbL hM hwM hsA' hsB' h8
    · exact lists_no L M A B n cn m cm w (by omega) (by omega) hM hwM hsA' hsB' h8
end Go.Proofs.Ytjpdmdplcecglaa
