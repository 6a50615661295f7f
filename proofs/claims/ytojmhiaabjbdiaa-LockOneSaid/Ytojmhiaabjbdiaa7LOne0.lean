/- LockOne where it makes no call: the walk of its body; what holds in its loops. -/
import Derived.Test.Ytojmhiaabjbdiaa7Act
import Derived.Test.Ytojmhiaabjbdiaa7LRunW
import Derived.Deep.LoopGhost
import Derived.Deep.DeepCutAuto
import Derived.Deep.CutBlock
import Derived.Deep.RegionHeld3
namespace Go.Proofs.Ytojmhiaabjbdiaa
open Go.RowKit
set_option linter.unusedVariables false
set_option maxRecDepth 100000 in
set_option maxHeartbeats 4000000 in
theorem lockOne_no (z : Int) (A : Option Addr) (n cap : Nat) (w : World) (hn : n ≤ maxLen) (h : z < 1 ∨ 64 < z) : Calls Try.prog 4 #[.int .i64 z, .slice A n cap] w (LawEnd w) := by
  have HK := Lib.hid (knew_no z w h)
  have HKn := Lib.hid (known7_any w)
  have main : ∀ (a b : Bool), decide (z < 1) = a → decide (64 < z) = b → (a = true ∨ b = true) → ∀ (p q : Bool), decide (100 < (n : Int)) = p → decide (8 < z) = q → Calls Try.prog 4 #[.int .i64 z, .slice A n cap] w (LawEnd w) := by
    intro a b ha hb hab p q hp hq
    clear h
    have hq1 : a = false → q = true := by
      intro e
      subst e
      have : b = true := by simpa using hab
      subst this
      rw [← hq]
      simp at hb ⊢
      omega
    cases a <;> cases b <;> cases p <;> cases q <;> simp at hab hq1
    all_goals
      go_enter Try.func4, Try.ntmps4
      go_wp2_with fail
      refine HK.out.mono ?_
      rintro e w1 ⟨rfl, rfl⟩
      go_wp2_with fail
      refine HKn.out.mono ?_
      rintro e w1 ⟨rfl, hb⟩
      go_wp2
      go_ret
      exact ⟨rfl, hb⟩
  exact main _ _ rfl rfl (by simpa using h) _ _ rfl rfl
set_option maxRecDepth 100000 in
set_option maxHeartbeats 4000000 in
theorem lockOne_many (N : Nat) (A : Option Addr) (n cap : Nat) (w : World) (hn : n ≤ maxLen) (h1 : 1 ≤ N) (h64 : N ≤ 64) (h : 100 < n ∨ 8 < N) : Calls Try.prog 4 #[.int .i64 (N : Int), .slice A n cap] w (LawEnd w) := by
  have d1 : decide ((N : Int) < 1) = false := by simp; omega
  have d2 : decide (64 < (N : Int)) = false := by simp; omega
  have HK := Lib.hid (knew_yes w h1 h64)
  have main : ∀ (p q : Bool), decide (100 < (n : Int)) = p → decide (8 < (N : Int)) = q → (p = true ∨ q = true) → Calls Try.prog 4 #[.int .i64 (N : Int), .slice A n cap] w (LawEnd w) := by
    intro p q hp hq hpq
    clear h
    cases p <;> cases q <;> simp at hpq
    all_goals
      go_enter Try.func4, Try.ntmps4
      go_wp2_with fail
      refine HK.out.mono ?_
      rintro e w1 ⟨g, b, rfl, hK, hg, hb, hB⟩
      have HB := Lib.hid hB
      clear hK hg hb hB
      go_wp2_with fail
      refine (known7_any w1).mono ?_
      rintro e w2 ⟨rfl, hb⟩
      have HB2 := Lib.hid (Below.and HB.out hb)
      clear hb
      go_wp2
      go_ret
      exact ⟨rfl, HB2.out⟩
  exact main _ _ rfl rfl (by simp; omega)
/-- What holds at an act's, a client's, and a lock's turn. -/
def O1 (w : World) (g b N n : Nat) (k : Nat) (v : Value) (wr : World) : Prop := ∃ (i : Nat) (s : Lk), v = .int .i64 (i : Int) ∧ i ≤ n ∧ n - i ≤ k ∧ s.n = N ∧ s.sz ≤ i ∧ OwnK w wr g b s
def OC (w : World) (g b N i : Nat) (wr : World) : Prop := ∃ (s : Lk), s.n = N ∧ s.sz ≤ i + 1 ∧ OwnK w wr g b s
def O2 (w : World) (g b N : Nat) (s : Lk) (k : Nat) (v : Value) (wr : World) : Prop := ∃ (c : Nat), v = .int .i64 (c : Int) ∧ c ≤ N ∧ N - c ≤ k ∧ OwnK w wr g b s
def O3 (w : World) (g b : Nat) (s : Lk) (m : Nat) (k : Nat) (v : Value) (wr : World) : Prop := ∃ (j : Nat), v = .int .i64 (j : Int) ∧ j ≤ m ∧ m - j ≤ k ∧ OwnK w wr g b s
end Go.Proofs.Ytojmhiaabjbdiaa
