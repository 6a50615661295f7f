/- BitsPlays returns true for any slice of addresses and any acts. -/
import Derived.Test.Ytpdnbojooelmfaa5PlW
namespace Go.Proofs.Ytpdnbojooelmfaa
open Go Go.RowKit
set_option linter.unusedVariables false
set_option maxRecDepth 100000 in
set_option maxHeartbeats 4000000 in
theorem bitsPlays_no (A A2 : Option Addr) (n c n2 c2 : Nat) (w : World) (hn : n ≤ maxLen) (hn2 : n2 ≤ maxLen) (h : 100 < n ∨ 150 < n2) : Calls Try.prog 3 #[.slice A n c, .slice A2 n2 c2] w fun e w' => e = .returned (.bool true) ∧ Below w.heap.size w w' := by
  have HKn := Lib.hid (known5_any w)
  have main : ∀ (p q : Bool), decide (100 < (n : Int)) = p → decide (150 < (n2 : Int)) = q → (p = true ∨ q = true) → Calls Try.prog 3 #[.slice A n c, .slice A2 n2 c2] w fun e w' => e = .returned (.bool true) ∧ Below w.heap.size w w' := by
    intro p q hp hq hpq
    clear h
    cases p <;> cases q <;> simp at hpq
    all_goals
      go_enter Try.func3, Try.ntmps3
      go_wp2_with fail
      refine HKn.out.mono ?_
      rintro e w2 ⟨rfl, hb⟩
      have HB2 := Lib.hid hb
      clear hb
      go_wp2
      go_ret
      exact ⟨rfl, HB2.out⟩
  exact main _ _ rfl rfl (by simp; omega)
theorem bitsPlays_walk (A : Option Addr) (n c : Nat) (zs : List Int) (A2 : Option Addr) (n2 c2 : Nat) (l : List Ac5) (W : World) (w0 : InRow .u64 W A n c zs) (w1 : Acts5In W A2 n2 c2 l) :
    Calls Try.prog 3 #[.slice A n c, .slice A2 n2 c2] W fun e w' => e = .returned (.bool true) ∧ Below W.heap.size W w' := by
  obtain ⟨la, hA, hl, hm, _⟩ := rd_inRow w0
  obtain ⟨hl2, _, hm2, hB⟩ := w1
  by_cases h : 100 < n ∨ 150 < n2
  · exact bitsPlays_no A A2 n c n2 c2 W hm hm2 h
  · exact bitsPlays_in hA hl (by omega) hB hl2 (by omega)
end Go.Proofs.Ytpdnbojooelmfaa
