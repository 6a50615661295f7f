/- The chapter's rows on bits and sets: known answers true; without conditions. -/
import Derived.Test.YtpdnbojooelmfaaHNew
import Derived.Test.YtpdnbojooelmfaaBMay
namespace Go.Proofs.Ytpdnbojooelmfaa
open Go.RowKit
set_option linter.unusedVariables false
/-- A set in memory that is new since w0, in a world in which nothing older has turned. -/
def OwnS (w0 w : World) (g : Nat) (s : List Nat) (v : Value) : Prop := SetAt w g s v ∧ (∀ k, ffp g v k → w0.heap.size ≤ k) ∧ Below w0.heap.size w0 w
theorem OwnS.below {w0 w w' : World} {g : Nat} {s : List Nat} {v : Value} (h : OwnS w0 w g s v) (hb : Below w.heap.size w w') : OwnS w0 w' g s v :=
  ⟨h.1.below hb, h.2.1, h.2.2.trans (hb.mono h.2.2.size)⟩
theorem OwnS.left {w0 w w' : World} {g : Nat} {s s' : List Nat} {v : Value} (h : OwnS w0 w g s v) (hl : LeftSet w g v s' w') : ∃ v', OwnS w0 w' g s' v' := by
  obtain ⟨v', hs, hb, hk⟩ := hl
  refine ⟨v', hs, fun k hk' => ?_, h.2.2.trans (hb.below h.2.2.size h.2.1)⟩
  rcases hk' with rfl | hk'
  · exact h.2.1 _ (.inl rfl)
  · rcases hk k hk' with h1 | h1
    · exact h.2.1 k (.inr h1)
    · exact Nat.le_trans h.2.2.size h1
theorem OwnS.made {w0 w w' : World} {s : List Nat} {e : Ending} (hb : Below w0.heap.size w0 w) (h : Made w s e w') : ∃ g v, e = .returned (.pointer (some ⟨g, 0, none⟩)) ∧ OwnS w0 w' g s v := by
  obtain ⟨g, v, rfl, hs, hk, hb'⟩ := h
  exact ⟨g, v, rfl, hs, fun k h => Nat.le_trans hb.size (hk k h), hb.trans (hb'.mono hb.size)⟩
theorem adr_lit {w W : World} (hW : Below w.heap.size w W) (l : List Nat) (hl : l.length ≤ 1000) : Adr (W.alloc (.cells (l.map wv).toArray 32)) (.slice (some ⟨W.heap.size, 0, none⟩) l.length l.length) l :=
  .inr ⟨_, 0, l.length, _, rfl, Row.new _ _ _, Nat.le_refl _, by unfold maxLen; omega, by simp, by rw [List.drop_zero, List.take_of_length_le (by simp)]⟩
theorem low74 : lowB 7 4 = some 3 := by kernel_rfl
theorem low73 : lowB 7 3 = none := by kernel_rfl
theorem may83 : mayS 8 3 = false := by
  have : mayS 8 3 = decide (∀ x ∈ upB 8 64, ((x : Nat) : Int) < 3) := rfl
  rw [this, show upB 8 64 = [3] by kernel_rfl]
  simp
theorem set40 : setB 4 0 = 5 := by kernel_rfl
theorem clr52 : clrB 5 2 = 1 := by kernel_rfl
set_option maxRecDepth 100000 in
set_option maxHeartbeats 4000000 in
theorem known5_any (w : World) : Calls Try.prog 5 #[] w fun e w' => e = .returned (.bool true) ∧ Below w.heap.size w w' := by
  have L1 := Lib.hid (fun W => lowest_any (b := 7) (by decide) 4 W)
  have L2 := Lib.hid (fun W => lowest_any (b := 7) (by decide) 3 W)
  rw [low74] at L1
  rw [low73] at L2
  unfold wv lowV at L1 L2
  go_enter Try.func5, Try.ntmps5
  go_wp2_with fail
  refine (L1.out _).mono ?_
  rintro e w1 ⟨rfl, hb1⟩
  have HB1 := Lib.hid hb1
  clear hb1
  go_wp2_with fail
  refine (L2.out _).mono ?_
  rintro e w2 ⟨rfl, hb⟩
  have HB2 := Lib.hid (Below.and HB1.out hb)
  clear hb
  go_wp2_with fail
  refine (newFree_few (adr_lit HB2.out [128, 64, 192] (by simp)) (by simp)).mono ?_
  intro e w3 hm
  obtain ⟨s, hnd, hmem, _, hmd⟩ := hm
  have hp : s.Perm [64, 128, 192] := (List.perm_ext_iff_of_nodup hnd (by decide)).2 (fun x => by rw [hmem]; simp; omega)
  obtain ⟨g, v, rfl, hS⟩ := OwnS.made (Below.and HB2.out (alloc_below _ _)) hmd
  have HS := Lib.hid (show OwnS w w3 g [64, 128, 192] v from ⟨hS.1.perm hp, hS.2⟩)
  clear hnd hmem hmd hS hp
  go_wp2_with fail
  refine (take_any HS.out.1 (by simp) (m := 64) (by simp) (by simp)).mono ?_
  rintro e w4 ⟨rfl, hl⟩
  obtain ⟨v4, hS4⟩ := HS.out.left hl
  have HS4 := Lib.hid (show OwnS w w4 g [128, 192] v4 from hS4)
  clear hS4 hl
  unfold wv
  have HD := Lib.hid (drop_any HS4.out.1 (by simp) 192)
  unfold wv at HD
  go_wp2_with fail
  refine HD.out.mono ?_
  rintro e w5 ⟨rfl, hl⟩
  obtain ⟨v5, hS5⟩ := HS4.out.left hl
  have HS5 := Lib.hid (show OwnS w w5 g [128] v5 from hS5)
  clear hS5 hl
  rw [show decide (192 ∈ [128, 192]) = true by decide]
  go_wp2_with fail
  refine (take_any HS5.out.1 (by simp) (m := 128) (by simp) (by simp)).mono ?_
  rintro e w6 ⟨rfl, hl⟩
  obtain ⟨v6, hS6⟩ := HS5.out.left hl
  have HS6 := Lib.hid (show OwnS w w6 g [] v6 from hS6)
  clear hS6 hl
  unfold wv
  go_wp2_with fail
  refine (take_none HS6.out.1).mono ?_
  rintro e w7 ⟨rfl, rfl⟩
  have S1 := Lib.hid (bSet_any (b := 4) (by decide) (j := 0) (by decide) (by decide) w6)
  have S2 := Lib.hid (bClear_any (b := 5) (by decide) (j := 2) (by decide) (by decide) w6)
  have S3 := Lib.hid (bMay_any (b := 8) (by decide) 3 w6)
  rw [set40] at S1
  rw [clr52] at S2
  rw [may83] at S3
  unfold wv at S1 S2 S3
  go_wp2_with fail
  refine S1.out.mono ?_
  rintro e w7 ⟨rfl, rfl⟩
  go_wp2_with fail
  refine S2.out.mono ?_
  rintro e w7 ⟨rfl, rfl⟩
  go_wp2_with fail
  refine S3.out.mono ?_
  rintro e w7 ⟨rfl, rfl⟩
  go_wp2
  go_ret
  exact ⟨rfl, HS6.out.2.2⟩
end Go.Proofs.Ytpdnbojooelmfaa
