/- SiteStays, walked: a step that does nothing is never odd; for any number. -/
import Derived.Test.YtedefebdfcgjeaaSiK
namespace Go.Proofs.Ytedefebdfcgjeaa
open Go.RowKit Go.Shelf
set_option linter.unusedVariables false
theorem stay_run (f k : Nat) : runP (odL []) (dnL []) (erL []) f k false = (k + f, false, 10) := by
  induction f generalizing k with
  | zero => rfl
  | succ f ih =>
    rw [runP_on (show erL [] k = 0 from rfl) (show dnL [] k = false from rfl)]
    show runP (odL []) (dnL []) (erL []) f (k + 1) false = _
    rw [ih (k + 1), show k + 1 + f = k + (f + 1) by omega]
theorem stay_tot (t k : Nat) : totL [] t k = t := by
  induction k with
  | zero => rfl
  | succ k ih => exact ih
theorem stepsNil (w : World) : StepsIn w none 0 0 [] := ⟨rfl, Nat.le_refl _, by decide, fun h => absurd h (by decide)⟩
theorem eqStats0 (w : World) : (binOp BinOp.eql 43 (.agg #[.int .u64 0, .int .u64 0, .int .u64 0, .int .u64 0]) (.agg #[.int .u64 0, .int .u64 0, .int .u64 0, .int .u64 0])).run Try.prog w = .ok (.bool true) w := by kernel_rfl
set_option maxRecDepth 100000 in
set_option maxHeartbeats 2000000 in
theorem stays_any (most : Int) (w : World) (hwf : (Lit.int .i64 most).wf = true) : Calls Try.prog 4 #[.int .i64 most] w fun e w' => e = .returned (.bool true) ∧ Below w.heap.size w w' := by
  have HK := Lib.hid fun W => known13_any W
  have HN := Lib.hid (show Calls Try.prog 8 #[.int .i64 64] w (NewPost 1 w) from new_yes 1 w (by decide) (by decide))
  have heq := eqStats0
  by_cases hm : 300 < most
  · go_enter Try.func4, Try.ntmps4
    go_wp2_with fail
    refine (HK.out _).mono ?_
    rintro e w1 ⟨rfl, hb⟩
    have HB := Lib.hid hb
    clear hb
    go_wp2
    go_ret
    exact ⟨rfl, HB.out⟩
  · obtain ⟨M, hM⟩ : ∃ M : Nat, M = most.toNat := ⟨_, rfl⟩
    have HM := Lib.hid hM
    have hm3 : most ≤ 300 := by omega
    clear hM hm
    go_enter Try.func4, Try.ntmps4
    go_wp2_with fail
    refine HN.out.mono ?_
    rintro e w1 ⟨y, rfl, hm1, hfp, hb1⟩
    have HM1 := Lib.hid hm1
    have HFP := Lib.hid hfp
    have HB1 := Lib.hid hb1
    clear hm1 hfp hb1 HN
    obtain ⟨g, hg⟩ : ∃ g, g = y.g := ⟨_, rfl⟩
    rw [← hg]
    have HG := Lib.hid hg
    clear hg
    go_wp2_with fail
    obtain ⟨W2, hW2⟩ : ∃ W2, W2 = w1.alloc (.cells #[.pointer (some ⟨g, 0, none⟩), .slice none 0 0, .int .i64 0] 35) := ⟨_, rfl⟩
    rw [← hW2]
    have hr2 : Row W2 w1.heap.size 35 (rcell g none 0 0 0) := by rw [hW2]; exact Row.new _ _ _
    have hB2 : Below w1.heap.size w1 W2 := by rw [hW2]; exact alloc_below _ _
    have H1 := Lib.hid (runner_whole (t := 0) (most := most) (HM1.out.below hB2) (zero_Lds 1) (Nat.zero_le _) (Nat.le_refl _) rfl (by rw [← HG.out]; exact hr2) (stepsNil W2) (by decide) (fun x hx => absurd hx (by simp)) (fun hf => Nat.lt_irrefl _ (HM1.out.lt _ hf))
      (fun a ha _ => by cases ha) (by omega))
    rw [← HG.out] at H1
    have HBW := Lib.hid (HB1.out.trans (hB2.mono HB1.out.size))
    clear hW2 hr2 hB2
    refine H1.out.mono ?_
    rintro e w5 ⟨r, hr, _, rfl, y5, s5, hm5, hl5, ht5, hT5, hr5⟩
    rw [← HM.out, stay_run, Nat.zero_add] at hr
    subst hr
    dsimp only at ht5 hl5 hr5 ⊢
    rw [stay_tot] at ht5
    have hs : s5.ld = 0 ∧ s5.st = 0 ∧ s5.fl = 0 ∧ s5.fe = 0 := by unfold St.tot at ht5; omega
    have hS := stats_yes hm5
    rw [hs.1, hs.2.1, hs.2.2.1, hs.2.2.2, hT5.g, ← HG.out] at hS
    have hw1 := HB1.out.size
    have HB5 := Lib.hid (HBW.out.trans (hT5.but.below (B := w.heap.size) (by have := HBW.out.size; omega) (fun q hq => by
      rcases hq with h1 | h1
      · exact HFP.out q h1
      · omega)))
    have c2 := hr5.cell 2
    simp only [rcell, List.getElem?_toArray, List.getElem?_cons_succ, List.getElem?_cons_zero] at c2
    have HS := Lib.hid hS
    unfold wv at HS
    clear hm5 hl5 ht5 hT5 hr5 hs hS H1 hw1
    by_cases h0 : most < 0
    · have e0 : (M : Int) = 0 := by rw [HM.out]; omega
      rw [e0] at c2 ⊢
      clear e0
      go_wp2_with fail
      refine HS.out.mono ?_
      rintro e w6 ⟨rfl, hb6⟩
      have HB6 := Lib.hid (HB5.out.trans (hb6.mono HB5.out.size))
      clear hb6
      go_wp2_with fail
      refine (HK.out _).mono ?_
      rintro e w7 ⟨rfl, hb7⟩
      have HB7 := Lib.hid (HB6.out.trans (hb7.mono HB6.out.size))
      clear hb7
      go_wp2
      go_ret
      exact ⟨rfl, HB7.out⟩
    · have e0 : (M : Int) = most := by rw [HM.out]; omega
      rw [e0] at c2 ⊢
      have h0' : 0 ≤ most := by omega
      clear e0
      go_wp2_with fail
      refine HS.out.mono ?_
      rintro e w6 ⟨rfl, hb6⟩
      have HB6 := Lib.hid (HB5.out.trans (hb6.mono HB5.out.size))
      clear hb6
      go_wp2_with fail
      refine (HK.out _).mono ?_
      rintro e w7 ⟨rfl, hb7⟩
      have HB7 := Lib.hid (HB6.out.trans (hb7.mono HB6.out.size))
      clear hb7
      go_wp2
      go_ret
      exact ⟨rfl, HB7.out⟩
end Go.Proofs.Ytedefebdfcgjeaa
