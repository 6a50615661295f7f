/- known of stage 13: the chapter's row comes out as it says; in any world. -/
import Derived.Test.YtedefebdfcgjeaaSiM
namespace Go.Proofs.Ytedefebdfcgjeaa
open Go.RowKit Go.Shelf
set_option linter.unusedVariables false
def l13 : List Sp := [⟨2, false, 0⟩, ⟨2, false, 0⟩, ⟨2, true, 0⟩]
theorem l13_few : FewL l13 := by
  intro x hx
  simp only [l13, List.mem_cons, List.not_mem_nil, or_false] at hx
  rcases hx with rfl | rfl | rfl <;> decide
theorem l13_run9 : runP (odL l13) (dnL l13) (erL l13) 9 0 false = (3, true, 0) := by decide
theorem l13_run2 : runP (odL l13) (dnL l13) (erL l13) 2 0 false = (2, true, 10) := by decide
set_option maxRecDepth 100000 in
set_option maxHeartbeats 2000000 in
theorem known13_any (w : World) : Calls Try.prog 7 #[] w fun e w' => e = .returned (.bool true) ∧ Below w.heap.size w w' := by
  have HN : Calls Try.prog 8 #[.int .i64 64] w (NewPost 1 w) := new_yes 1 w (by decide) (by decide)
  go_enter Try.func7, Try.ntmps7
  go_wp2_with fail
  refine HN.mono ?_
  rintro e w1 ⟨y, rfl, hm1, hfp, hb1⟩
  have HM1 := Lib.hid hm1
  have HFP := Lib.hid hfp
  have HB1 := Lib.hid hb1
  clear hm1 hfp hb1 HN
  obtain ⟨g, hg⟩ : ∃ g, g = y.g := ⟨_, rfl⟩
  rw [← hg]
  have HG := Lib.hid hg
  clear hg
  go_wp2_with fail
  obtain ⟨W2, hW2⟩ : ∃ W2, W2 = w1.alloc (.cells #[.int .i64 2, .bool false, .int .i64 0, .int .i64 2, .bool false, .int .i64 0, .int .i64 2, .bool true, .int .i64 0] 62) := ⟨_, rfl⟩
  obtain ⟨W3, hW3⟩ : ∃ W3, W3 = W2.alloc (.cells #[.pointer (some ⟨g, 0, none⟩), .slice (some ⟨w1.heap.size, 0, none⟩) 3 3, .int .i64 0] 35) := ⟨_, rfl⟩
  obtain ⟨W4, hW4⟩ : ∃ W4, W4 = W3.alloc (.cells #[.pointer (some ⟨g, 0, none⟩), .slice (some ⟨w1.heap.size, 0, none⟩) 3 3, .int .i64 0] 35) := ⟨_, rfl⟩
  rw [← hW2, ← hW3, ← hW4]
  have z2 : W2.heap.size = w1.heap.size + 1 := by rw [hW2]; simp
  have z3 : W3.heap.size = w1.heap.size + 1 + 1 := by rw [hW3]; simp [z2]
  have hl2 : Row W2 w1.heap.size 62 #[.int .i64 2, .bool false, .int .i64 0, .int .i64 2, .bool false, .int .i64 0, .int .i64 2, .bool true, .int .i64 0] := by rw [hW2]; exact Row.new _ _ _
  have hl4 : Row W4 w1.heap.size 62 #[.int .i64 2, .bool false, .int .i64 0, .int .i64 2, .bool false, .int .i64 0, .int .i64 2, .bool true, .int .i64 0] := by rw [hW4, hW3]; exact (hl2.alloc _).alloc _
  have ha4 : Row W4 (w1.heap.size + 1) 35 (rcell g (some ⟨w1.heap.size, 0, none⟩) 3 3 0) := by rw [hW4, ← z2]; exact Row.alloc (by rw [hW3]; exact Row.new _ _ _) _
  have hb4 : Row W4 (w1.heap.size + 1 + 1) 35 (rcell g (some ⟨w1.heap.size, 0, none⟩) 3 3 0) := by rw [hW4, ← z3]; exact Row.new _ _ _
  have hB4 : Below w1.heap.size w1 W4 := by
    rw [hW4, hW3, hW2]
    exact Below.and (Below.and (alloc_below _ _) (alloc_below _ _)) (alloc_below _ _)
  have hm4 := HM1.out.below hB4
  have hst : ∀ W, Row W w1.heap.size 62 #[.int .i64 2, .bool false, .int .i64 0, .int .i64 2, .bool false, .int .i64 0, .int .i64 2, .bool true, .int .i64 0] → StepsIn W (some ⟨w1.heap.size, 0, none⟩) 3 3 l13 := fun W hr =>
    ⟨rfl, Nat.le_refl _, by decide, fun _ => ⟨_, rfl, ⟨fun i hi => by
      rcases (by simp [l13] at hi; omega : i = 0 ∨ i = 1 ∨ i = 2) with rfl | rfl | rfl <;> (rw [add_lit]; exact (hr.cell _).trans rfl), fun i hi => by
      rcases (by simp [l13] at hi; omega : i = 0 ∨ i = 1 ∨ i = 2) with rfl | rfl | rfl <;> (rw [add_lit]; exact (hr.cell _).trans rfl), fun i hi => by
      rcases (by simp [l13] at hi; omega : i = 0 ∨ i = 1 ∨ i = 2) with rfl | rfl | rfl <;> (rw [add_lit]; exact (hr.cell _).trans rfl)⟩⟩⟩
  have hlt : ∀ q, y.fp q → q < w1.heap.size := HM1.out.lt
  have H1 := Lib.hid (runner_whole (t := 0) (most := 9) hm4 (zero_Lds 1) (Nat.zero_le _) (Nat.le_refl _) rfl (by rw [← HG.out]; exact ha4) (hst W4 hl4) (by decide) l13_few (fun hf => by have := hlt _ hf; omega)
    (fun a ha _ => by cases ha; exact ⟨fun hf => Nat.lt_irrefl _ (hlt _ hf), by dsimp only; omega⟩) (by decide))
  rw [← HG.out] at H1
  have HST := Lib.hid hst
  have HL4 := Lib.hid hl4
  have HB4 := Lib.hid hb4
  have HBW := Lib.hid (HB1.out.trans (hB4.mono HB1.out.size))
  have HLT := Lib.hid hlt
  clear hW2 hW3 hW4 z2 z3 hl2 hl4 ha4 hb4 hB4 hm4 hst hlt
  refine H1.out.mono ?_
  rintro e w5 ⟨r, hr, hr9, rfl, y5, s5, hm5, hl5, ht5, hT5, hr5⟩
  rw [show (9 : Int).toNat = 9 from rfl, l13_run9] at hr
  subst hr
  have hw1 := HB1.out.size
  have hb5 := hT5.but.row HB4.out (fun hf => by
    rcases hf with h1 | h1
    · have := HLT.out _ h1; omega
    · omega)
  have hL5 := hT5.but.row HL4.out (fun hf => by
    rcases hf with h1 | h1
    · exact Nat.lt_irrefl _ (HLT.out _ h1)
    · omega)
  have hs4 := HB4.out.lt
  have hfp5 : ∀ q, y5.fp q → y.fp q ∨ w1.heap.size + 1 + 1 < q := fun q hq => by
    rcases hT5.fp q hq with h1 | h1
    · exact .inl h1
    · exact .inr (by omega)
  have hB5 := HBW.out.trans (hT5.but.below (B := w.heap.size) (by have := HBW.out.size; omega) (fun q hq => by
    rcases hq with h1 | h1
    · exact HFP.out q h1
    · omega))
  have H2 := Lib.hid (runner_whole (t := 6) (most := 2) hm5 hl5 (by decide) (Nat.le_refl _) ht5 (by rw [hT5.g, ← HG.out]; exact hb5) (HST.out w5 hL5) (by decide) l13_few (fun hf => by
      rcases hfp5 _ hf with h1 | h1
      · have := HLT.out _ h1; omega
      · omega)
    (fun a ha _ => by
      cases ha
      refine ⟨fun hf => ?_, by dsimp only; omega⟩
      rcases hfp5 _ hf with h1 | h1
      · exact Nat.lt_irrefl _ (HLT.out _ h1)
      · dsimp only at h1; omega) (by decide))
  rw [hT5.g, ← HG.out] at H2
  have HR5 := Lib.hid hr5
  have HF5 := Lib.hid hfp5
  have HB5 := Lib.hid hB5
  clear hm5 hl5 ht5 hT5 hr5 hb5 hL5 hfp5 hB5 hr9 H1
  go_wp2_with fail
  refine H2.out.mono ?_
  rintro e w6 ⟨r, hr, hr2, rfl, y6, s6, hm6, hl6, ht6, hT6, hr6⟩
  rw [show (2 : Int).toNat = 2 from rfl, l13_run2] at hr
  subst hr
  have ha6 := hT6.but.row HR5.out (fun hf => by
    rcases hf with h1 | h1
    · rcases HF5.out _ h1 with h2 | h2
      · have := HLT.out _ h2; omega
      · omega
    · omega)
  have HB6 := Lib.hid (HB5.out.trans (hT6.but.below (B := w.heap.size) (by have := HB5.out.size; omega) (fun q hq => by
    rcases hq with h1 | h1
    · rcases HF5.out _ h1 with h2 | h2
      · exact HFP.out q h2
      · omega
    · omega)))
  have c1 := ha6.cell 2
  have c2 := hr6.cell 2
  simp only [rcell, List.getElem?_toArray, List.getElem?_cons_succ, List.getElem?_cons_zero] at c1 c2
  clear hm6 hl6 ht6 hT6 hr6 ha6 hr2 H2 hw1 hs4
  go_wp2
  go_ret
  exact ⟨rfl, HB6.out⟩
end Go.Proofs.Ytedefebdfcgjeaa
