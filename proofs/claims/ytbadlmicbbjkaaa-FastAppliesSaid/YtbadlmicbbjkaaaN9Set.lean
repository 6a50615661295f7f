/- fast's set: a word of a node is stored, or refused; of any node in memory; conditions: numbers of the width. -/
import Derived.Test.YtbadlmicbbjkaaaN9Sm
import Derived.WalkMore
namespace Go.Proofs.Ytbadlmicbbjkaaa
open Go.RowKit
set_option linter.unusedVariables false
/-- What a store makes of a node in a block, and of the world. -/
def SetOut (w : World) (b : Nat) (r : Option Nd) (e : Ending) (w' : World) : Prop :=
  match r with
  | some m => e = .returned (.bool true) ∧ ∃ i u, w' = w.setCell ⟨b, i, none⟩ u ∧ NdAt w' b m
  | none => e = .returned (.bool false) ∧ w' = w
theorem at_k {at_ : Int} (h : 64 ≤ at_ ∧ at_ < 192) (h16 : at_ % 16 = 0) : ∃ i : Nat, i < 8 ∧ at_ = 64 + 16 * (i : Int) := ⟨((at_ - 64) / 16).toNat, by omega, by omega⟩
theorem at_p {at_ : Int} (h : 64 ≤ at_ ∧ at_ < 192) (h8 : at_ % 8 = 0) (h16 : at_ % 16 ≠ 0) : ∃ i : Nat, i < 8 ∧ at_ = 72 + 16 * (i : Int) := ⟨((at_ - 64) / 16).toNat, by omega, by omega⟩
theorem setK_cl (n : Nd) {i : Nat} (hi : i < 8) (x : Int) : n.cl.set (5 + i) (uw x) = (n.setK i x).cl := by
  rcases lt8 hi with rfl | rfl | rfl | rfl | rfl | rfl | rfl | rfl <;> rfl
theorem setP_cl (n : Nd) {i : Nat} (hi : i < 8) (x : Int) : n.cl.set (13 + i) (uw x) = (n.setP i x).cl := by
  rcases lt8 hi with rfl | rfl | rfl | rfl | rfl | rfl | rfl | rfl <;> rfl
theorem set_row {w : World} {b i : Nat} {n m : Nd} {u : Value} (h : NdAt w b n) (hm : n.cl.set i u = m.cl) : NdAt (w.setCell ⟨b, i, none⟩ u) b m := by
  have := Row.set h i u
  rw [List.setIfInBounds_toArray, hm] at this
  exact this
set_option maxRecDepth 100000 in
set_option maxHeartbeats 4000000 in
theorem set_any {w : World} {b : Nat} {n : Nd} (h : NdAt w b n) {at_ : Int} (ha : 0 ≤ at_ ∧ at_ < 18446744073709551616) (word : Int) : Calls Try.prog 43 #[.pointer (some ⟨b, 0, none⟩), .int .u64 at_, .int .u64 word] w (SetOut w b (ap 0 n (at_, word))) := by
  have HR := Lib.hid h
  have hfree := fun i => h.free i
  have hcells := fun i => ndAt_at h i
  have hlt := h.lt
  obtain h1 | h1 : at_ = 8 ∨ at_ ≠ 8 := by omega
  · subst h1
    have f := hfree 1
    have c := hcells 1
    have HE := Lib.hid (show ap 0 n (8, word) = some { n with lo := word } from rfl)
    clear h hfree hcells
    go_enter Try.func43, Try.ntmps43
    go_wp2
    go_ret
    rw [HE.out]
    exact ⟨rfl, 1, _, rfl, set_row HR.out (rfl)⟩
  · have b1 : (at_ == 8) = false := by simpa using h1
    obtain h2 | h2 : at_ = 16 ∨ at_ ≠ 16 := by omega
    · subst h2
      have f := hfree 2
      have c := hcells 2
      have HE := Lib.hid (show ap 0 n (16, word) = some { n with nx := word } from rfl)
      clear h hfree hcells
      go_enter Try.func43, Try.ntmps43
      go_wp2
      go_ret
      rw [HE.out]
      exact ⟨rfl, 2, _, rfl, set_row HR.out (rfl)⟩
    · have b2 : (at_ == 16) = false := by simpa using h2
      obtain h3 | h3 : at_ = 24 ∨ at_ ≠ 24 := by omega
      · subst h3
        have f := hfree 3
        have c := hcells 3
        have HE := Lib.hid (show ap 0 n (24, word) = some { n with ct := word } from rfl)
        clear h hfree hcells
        go_enter Try.func43, Try.ntmps43
        go_wp2
        go_ret
        rw [HE.out]
        exact ⟨rfl, 3, _, rfl, set_row HR.out (rfl)⟩
      · have b3 : (at_ == 24) = false := by simpa using h3
        obtain h4 | h4 : at_ = 32 ∨ at_ ≠ 32 := by omega
        · subst h4
          have f := hfree 4
          have c := hcells 4
          have HE := Lib.hid (show ap 0 n (32, word) = some { n with fi := word } from rfl)
          clear h hfree hcells
          go_enter Try.func43, Try.ntmps43
          go_wp2
          go_ret
          rw [HE.out]
          exact ⟨rfl, 4, _, rfl, set_row HR.out (rfl)⟩
        · have b4 : (at_ == 32) = false := by simpa using h4
          obtain h5 | h5 : at_ = 0 ∨ at_ ≠ 0 := by omega
          · have b5 : (at_ == 0) = true := by simpa using h5
            have HE := Lib.hid (show ap 0 n (at_, word) = none by unfold ap; dsimp only; rw [if_neg (by omega), if_neg (by omega), if_neg (by omega), if_neg (by omega), if_neg (by omega)])
            clear h hfree hcells
            go_enter Try.func43, Try.ntmps43
            go_wp2
            go_ret
            rw [HE.out]
            exact ⟨rfl, rfl⟩
          · have b5 : (at_ == 0) = false := by simpa using h5
            obtain h6 | h6 : at_ < 64 ∨ ¬ at_ < 64 := by omega
            · obtain h7 | h7 : 32 < at_ ∨ ¬ 32 < at_ := by omega
              · have HE := Lib.hid (show ap 0 n (at_, word) = none by unfold ap; dsimp only; rw [if_neg (by omega), if_neg (by omega), if_neg (by omega), if_neg (by omega), if_neg (by omega)])
                clear h hfree hcells
                go_enter Try.func43, Try.ntmps43
                go_wp2
                go_ret
                rw [HE.out]
                exact ⟨rfl, rfl⟩
              · have hm : at_.tmod 8 = at_ % 8 := Int.tmod_eq_emod_of_nonneg ha.1
                have h8 : at_ % 8 ≠ 0 := by omega
                have b8 : (at_ % 8 != 0) = true := by simpa using h8
                have b8' : (at_.tmod 8 != 0) = true := by rw [hm]; simpa using h8
                have h9 : ¬ 192 ≤ at_ := by omega
                clear hm
                have HE := Lib.hid (show ap 0 n (at_, word) = none by unfold ap; dsimp only; rw [if_neg (by omega), if_neg (by omega), if_neg (by omega), if_neg (by omega), if_neg (by omega)])
                clear h hfree hcells
                go_enter Try.func43, Try.ntmps43
                go_wp2
                go_ret
                rw [HE.out]
                exact ⟨rfl, rfl⟩
            · obtain h7 | h7 : 192 ≤ at_ ∨ ¬ 192 ≤ at_ := by omega
              · have h8 : 32 < at_ := by omega
                have HE := Lib.hid (show ap 0 n (at_, word) = none by unfold ap; dsimp only; rw [if_neg (by omega), if_neg (by omega), if_neg (by omega), if_neg (by omega), if_neg (by omega)])
                clear h hfree hcells
                go_enter Try.func43, Try.ntmps43
                go_wp2
                go_ret
                rw [HE.out]
                exact ⟨rfl, rfl⟩
              · have h8 : 32 < at_ := by omega
                have hm : at_.tmod 8 = at_ % 8 := Int.tmod_eq_emod_of_nonneg ha.1
                have hm16 : at_.tmod 16 = at_ % 16 := Int.tmod_eq_emod_of_nonneg ha.1
                obtain h9 | h9 : at_ % 8 ≠ 0 ∨ at_ % 8 = 0 := by omega
                · have b8 : (at_ % 8 != 0) = true := by simpa using h9
                  have b8' : (at_.tmod 8 != 0) = true := by rw [hm]; simpa using h9
                  clear hm hm16
                  have HE := Lib.hid (show ap 0 n (at_, word) = none by unfold ap; dsimp only; rw [if_neg (by omega), if_neg (by omega), if_neg (by omega), if_neg (by omega), if_neg (by omega)])
                  clear h hfree hcells
                  go_enter Try.func43, Try.ntmps43
                  go_wp2
                  go_ret
                  rw [HE.out]
                  exact ⟨rfl, rfl⟩
                · obtain h10 | h10 : at_ % 16 = 0 ∨ at_ % 16 ≠ 0 := by omega
                  · obtain ⟨i, hi, he⟩ := at_k (by omega) h10
                    have HE := Lib.hid (show ap 0 n (at_, word) = some (n.setK i word) by have := ap_k 0 n hi word; unfold kA at this; rw [he, show (64 + 16 * (i : Int)) = 0 + 64 + 16 * (i : Int) by omega]; exact this)
                    have f := hfree (5 + i)
                    have c := ndAt_key h hi
                    have b8 : (at_ % 8 != 0) = false := by simpa using h9
                    have hs : IntKind.u64.wrap (at_ - 64) = at_ - 64 := by rw [IntKind.wrap_u64]; omega
                    have hq : (at_ - 64).tdiv 16 = (i : Int) := by rw [Int.tdiv_eq_ediv_of_nonneg (by omega)]; omega
                    have hq2 : (at_ - 64) / 16 = (i : Int) := by omega
                    have hi8 : (i : Int) < 8 := by omega
                    have b16 : (at_ % 16 == 0) = true := by simpa using h10
                    clear h hfree hcells hm hm16 he h9 h10
                    go_enter Try.func43, Try.ntmps43
                    go_wp2
                    go_ret
                    rw [HE.out]
                    exact ⟨rfl, 5 + i, _, rfl, set_row HR.out (setK_cl n hi word)⟩
                  · obtain ⟨i, hi, he⟩ := at_p (by omega) h9 h10
                    have HE := Lib.hid (show ap 0 n (at_, word) = some (n.setP i word) by have := ap_p 0 n hi word; unfold pA at this; rw [he, show (72 + 16 * (i : Int)) = 0 + 72 + 16 * (i : Int) by omega]; exact this)
                    have f := hfree (13 + i)
                    have c := ndAt_ptr h hi
                    have b8 : (at_ % 8 != 0) = false := by simpa using h9
                    have hs : IntKind.u64.wrap (at_ - 64) = at_ - 64 := by rw [IntKind.wrap_u64]; omega
                    have hq : (at_ - 64).tdiv 16 = (i : Int) := by rw [Int.tdiv_eq_ediv_of_nonneg (by omega)]; omega
                    have hq2 : (at_ - 64) / 16 = (i : Int) := by omega
                    have hi8 : (i : Int) < 8 := by omega
                    have b16 : (at_ % 16 == 0) = false := by simpa using h10
                    clear h hfree hcells hm hm16 he h9 h10
                    go_enter Try.func43, Try.ntmps43
                    go_wp2
                    go_ret
                    rw [HE.out]
                    exact ⟨rfl, 13 + i, _, rfl, set_row HR.out (setP_cl n hi word)⟩
end Go.Proofs.Ytbadlmicbbjkaaa
