/- SiteWhole, walked: Whole does the steps of any machine up to its end, or its error, and tells how many, and whether one was odd. -/
import Derived.Test.YtedefebdfcgjeaaSiK
import Derived.Test.YtedefebdfcgjeaaSiF
namespace Go.Proofs.Ytedefebdfcgjeaa
open Go.RowKit Go.Shelf
set_option linter.unusedVariables false
set_option maxRecDepth 100000 in
set_option maxHeartbeats 2000000 in
theorem siteWhole_any (A : Option Addr) (n cap : Nat) (l : List Sp) (most : Int) (w : World) (hS : StepsIn w A n cap l) (hwf : (Lit.int .i64 most).wf = true) :
    Calls Try.prog 3 #[.slice A n cap, .int .i64 most] w fun e w' => e = .returned (.bool true) ∧ Below w.heap.size w w' := by
  have HK := Lib.hid fun W => known13_any W
  have HF := Lib.hid (few13_any hS)
  have HS := Lib.hid hS
  clear hS hwf
  by_cases hg : fewP l = true ∧ most ≤ 200
  · obtain ⟨hf, hm⟩ := hg
    rw [hf] at HF
    obtain ⟨hfew, hl100⟩ := fewP_few hf
    have HFEW := Lib.hid hfew
    have HLEN := Lib.hid (show n ≤ 100 by rw [← HS.out.1]; exact hl100)
    have HN := Lib.hid (show Calls Try.prog 8 #[.int .i64 128] w (NewPost 2 w) from new_yes 2 w (by decide) (by decide))
    clear hf hfew hl100
    go_enter Try.func3, Try.ntmps3
    go_wp2_with fail
    refine HF.out.mono ?_
    rintro e w1 ⟨rfl, rfl⟩
    go_wp2_with fail
    refine HN.out.mono ?_
    rintro e w1 ⟨y, rfl, hm1, hfp, hb1⟩
    have HFP := Lib.hid hfp
    have HB1 := Lib.hid hb1
    have HLD := Lib.hid (show Calls Try.prog 9 #[.pointer (some ⟨y.g, 0, none⟩), .int .u64 0] w1 _ from load_okY hm1 (zero_Ok 2) 0 (by decide) (by decide))
    clear hm1 hfp hb1 HN HF
    obtain ⟨g, hg⟩ : ∃ g, g = y.g := ⟨_, rfl⟩
    rw [← hg] at HLD ⊢
    have HG := Lib.hid hg
    clear hg
    go_wp2_with fail
    refine HLD.out.mono ?_
    rintro e w2 ⟨rfl, hm2, t2⟩
    have HM2 := Lib.hid hm2
    have HB2 := Lib.hid (HB1.out.trans (t2.but.below (B := w.heap.size) HB1.out.size (fun q hq => HFP.out q hq)))
    clear hm2 t2 HLD
    go_wp2_with fail
    obtain ⟨W2, hW2⟩ : ∃ W2, W2 = w2.alloc (.cells #[.pointer (some ⟨g, 0, none⟩), .slice A n cap, .int .i64 0] 35) := ⟨_, rfl⟩
    rw [← hW2]
    have hr2 : Row W2 w2.heap.size 35 (rcell g A n cap 0) := by rw [hW2]; exact Row.new _ _ _
    have hB2 : Below w2.heap.size w2 W2 := by rw [hW2]; exact alloc_below _ _
    have hBW : Below w.heap.size w W2 := HB2.out.trans (hB2.mono HB2.out.size)
    have hSW : StepsIn W2 A n cap l := ⟨HS.out.1, HS.out.2.1, HS.out.2.2.1, fun h0 => by
      obtain ⟨ga, h1, h2⟩ := HS.out.2.2.2 h0
      exact ⟨ga, h1, h2.below hBW⟩⟩
    have hAl : ∀ a, A = some a → 0 < n → a.block < w.heap.size := fun a ha h0 => by
      obtain ⟨ga, h1, h2⟩ := HS.out.2.2.2 (by rw [HS.out.1]; exact h0)
      rw [h1] at ha
      cases ha
      exact h2.lt (by rw [HS.out.1]; exact h0)
    have H1 := Lib.hid (runner_whole (t := 1) (most := most) (HM2.out.below hB2) ((zero_Lds 2).ld1 (by decide)) (by decide) (by decide) rfl (by rw [← HG.out]; exact hr2) hSW (by have := HLEN.out; omega) HFEW.out (fun hf => Nat.lt_irrefl _ (HM2.out.lt _ hf))
      (fun a ha h0 => ⟨fun hf => by have := HFP.out _ hf; have := hAl a ha h0; omega, by have := hAl a ha h0; have := HB2.out.size; omega⟩) (by omega))
    rw [← HG.out] at H1
    have HBW := Lib.hid hBW
    clear hW2 hr2 hB2 hSW hAl hBW
    refine H1.out.mono ?_
    rintro e w5 ⟨r, hr, _, rfl, y5, s5, hm5, hl5, ht5, hT5, hr5⟩
    have hw2 := HB2.out.size
    have hB5 : Below w.heap.size w w5 := HBW.out.trans (hT5.but.below (B := w.heap.size) HBW.out.size (fun q hq => by
      rcases hq with h1 | h1
      · exact HFP.out q h1
      · omega))
    have hS5 : StepsIn w5 A n cap l := ⟨HS.out.1, HS.out.2.1, HS.out.2.2.1, fun h0 => by
      obtain ⟨ga, h1, h2⟩ := HS.out.2.2.2 h0
      exact ⟨ga, h1, h2.below hB5⟩⟩
    have HRF := Lib.hid (rfWhole_any (most := most) hS5 (by have := HLEN.out; omega) (by omega))
    have HR := Lib.hid hr
    have HB5 := Lib.hid hB5
    have HR5 := Lib.hid hr5
    clear hm5 hl5 ht5 hT5 hr5 hB5 hS5 hr H1 hw2
    go_wp2_with fail
    refine HRF.out.mono ?_
    rintro e w6 ⟨r', hr', rfl, hb6⟩
    have e' : r' = r := hr'.trans HR.out.symm
    subst e'
    have hr6 := HR5.out.below hb6 HR5.out.lt
    have c2 := hr6.cell 2
    simp only [rcell, List.getElem?_toArray, List.getElem?_cons_succ, List.getElem?_cons_zero] at c2
    have HB6 := Lib.hid (HB5.out.trans (hb6.mono HB5.out.size))
    obtain ⟨k, o, c⟩ := r'
    dsimp only at c2 ⊢
    clear hr' hb6 hr6 HRF
    go_wp2_with fail
    refine (HK.out _).mono ?_
    rintro e w7 ⟨rfl, hb7⟩
    have HB7 := Lib.hid (HB6.out.trans (hb7.mono HB6.out.size))
    clear hb7
    go_wp2
    go_ret
    exact ⟨rfl, HB7.out⟩
  · have HE := Lib.hid fun (W : World) => HK.out W
    cases hf : fewP l with
    | false =>
      rw [hf] at HF
      go_enter Try.func3, Try.ntmps3
      go_wp2_with fail
      refine HF.out.mono ?_
      rintro e w1 ⟨rfl, rfl⟩
      go_wp2_with fail
      refine (HK.out _).mono ?_
      rintro e w1 ⟨rfl, hb⟩
      have HB := Lib.hid hb
      clear hb
      go_wp2
      go_ret
      exact ⟨rfl, HB.out⟩
    | true =>
      have hm : 200 < most := by
        rcases Int.lt_or_le 200 most with h | h
        · exact h
        · exact absurd ⟨hf, h⟩ hg
      rw [hf] at HF
      clear hg hf
      go_enter Try.func3, Try.ntmps3
      go_wp2_with fail
      refine HF.out.mono ?_
      rintro e w1 ⟨rfl, rfl⟩
      go_wp2_with fail
      refine (HK.out _).mono ?_
      rintro e w1 ⟨rfl, hb⟩
      have HB := Lib.hid hb
      clear hb
      go_wp2
      go_ret
      exact ⟨rfl, HB.out⟩
end Go.Proofs.Ytedefebdfcgjeaa
