/- BitsTakes returns true for any two slices of addresses. -/
import Derived.Test.YtpdnbojooelmfaaBTk
namespace Go.Proofs.Ytpdnbojooelmfaa
open Go.RowKit
set_option linter.unusedVariables false
/-- An argument's slice, as naturals. -/
theorem rd_inRow {W : World} {A : Option Addr} {n c : Nat} {zs : List Int} (h : InRow .u64 W A n c zs) : ∃ la, RdA W (.slice A n c) la ∧ la.length = n ∧ n ≤ maxLen ∧ ∀ a ∈ la, a < 18446744073709551616 := by
  rcases h with ⟨rfl, rfl, rfl, rfl⟩ | ⟨x, rfl, hnc, hcm, hz, hcell, hwf⟩
  · exact ⟨[], .inl ⟨rfl, rfl⟩, rfl, Nat.zero_le _, fun a ha => by cases ha⟩
  · have hwf' : ∀ z ∈ zs, 0 ≤ z ∧ z < 18446744073709551616 := fun z hz => by
      have := hwf z hz
      simp only [Lit.wf, Bool.and_eq_true, decide_eq_true_eq] at this
      exact ⟨this.1, by have := this.2; show z < _; have h2 : z ≤ 18446744073709551615 := this; omega⟩
    have hl : ((zs.take n).map Int.toNat).length = n := by simp; omega
    refine ⟨(zs.take n).map Int.toNat, .inr ⟨x, c, by rw [hl], fun j a ha => ?_⟩, hl, by omega, fun a ha => ?_⟩
    · have hj : j < n := by rw [← hl]; exact (List.getElem?_eq_some_iff.1 ha).1
      rw [List.getElem?_map, List.getElem?_take_of_lt hj, List.getElem?_eq_getElem (by omega)] at ha
      simp only [Option.map_some, Option.some.injEq] at ha
      rw [hcell j (by omega), List.getD_eq_getElem?_getD, List.getElem?_eq_getElem (by omega)]
      have := hwf' zs[j] (List.getElem_mem _)
      rw [← ha]
      show some (Value.int .u64 zs[j]) = some (.int .u64 ((zs[j].toNat : Nat) : Int))
      rw [Int.toNat_of_nonneg this.1]
    · obtain ⟨z, hz2, rfl⟩ := List.mem_map.1 ha
      have := hwf' z (List.mem_of_mem_take hz2)
      omega
set_option maxRecDepth 100000 in
set_option maxHeartbeats 4000000 in
theorem bitsTakes_no (A A2 : Option Addr) (n c n2 c2 : Nat) (w : World) (hn : n ≤ maxLen) (hn2 : n2 ≤ maxLen) (h : 200 < n ∨ 200 < n2) : Calls Try.prog 4 #[.slice A n c, .slice A2 n2 c2] w fun e w' => e = .returned (.bool true) ∧ Below w.heap.size w w' := by
  have HKn := Lib.hid (known5_any w)
  have main : ∀ (p q : Bool), decide (200 < (n : Int)) = p → decide (200 < (n2 : Int)) = q → (p = true ∨ q = true) → Calls Try.prog 4 #[.slice A n c, .slice A2 n2 c2] w fun e w' => e = .returned (.bool true) ∧ Below w.heap.size w w' := by
    intro p q hp hq hpq
    clear h
    cases p <;> cases q <;> simp at hpq
    all_goals
      go_enter Try.func4, Try.ntmps4
      go_wp2_with fail
      refine HKn.out.mono ?_
      rintro e w2 ⟨rfl, hb⟩
      have HB2 := Lib.hid hb
      clear hb
      go_wp2
      go_ret
      exact ⟨rfl, HB2.out⟩
  exact main _ _ rfl rfl (by simp; omega)
theorem bitsTakes_walk (A : Option Addr) (n c : Nat) (zs : List Int) (A2 : Option Addr) (n2 c2 : Nat) (zs2 : List Int) (W : World) (w0 : InRow .u64 W A n c zs) (w1 : InRow .u64 W A2 n2 c2 zs2) :
    Calls Try.prog 4 #[.slice A n c, .slice A2 n2 c2] W fun e w' => e = .returned (.bool true) ∧ Below W.heap.size W w' := by
  obtain ⟨la, hA, hl, hm, _⟩ := rd_inRow w0
  obtain ⟨lb, hB, hl2, hm2, _⟩ := rd_inRow w1
  by_cases h : 200 < n ∨ 200 < n2
  · exact bitsTakes_no A A2 n c n2 c2 W hm hm2 h
  · exact bitsTakes_in hA hl (by omega) hB hl2 (by omega)
end Go.Proofs.Ytpdnbojooelmfaa
