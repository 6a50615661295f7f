/- Clients, is, none, Holder, Wants, ahead: what each answers; the world stays. For nil, for a zero table, and for one that is there. -/
import Derived.Test.Ytedefebdfcgjeaa7St
namespace Go.Proofs.Ytedefebdfcgjeaa
open Go.RowKit
set_option linter.unusedVariables false
theorem clients_no {p : Option Addr} {w : World} (h : NoTab w p) : Calls Try.prog 28 #[.pointer p] w fun e w' => e = .returned (.int .i64 0) ∧ w = w' := by
  rcases h with rfl | ⟨g, rfl, hr⟩
  · go_enter Try.func28, Try.ntmps28
    go_wp2
    go_ret
    exact ⟨rfl, rfl⟩
  · have h1 : w.cell? ⟨g, 0, none⟩ = some (.int .i64 0) := by rw [hr.cell]; exact tcells_0 _ _ _
    go_enter Try.func28, Try.ntmps28
    go_wp2
    go_ret
    exact ⟨rfl, rfl⟩
theorem clients_yes {w : World} {g b : Nat} {s : Lk} (h : KAt w g b s) : Calls Try.prog 28 #[.pointer (some ⟨g, 0, none⟩)] w fun e w' => e = .returned (.int .i64 (s.n : Int)) ∧ w = w' := by
  have h1 := h.cn
  clear h
  go_enter Try.func28, Try.ntmps28
  go_wp2
  go_ret
  exact ⟨rfl, rfl⟩
theorem is_no {p : Option Addr} {w : World} (h : NoTab w p) (c : Int) : Calls Try.prog 35 #[.pointer p, .int .i64 c] w fun e w' => e = .returned (.bool false) ∧ w = w' := by
  by_cases h0 : 0 ≤ c
  · have hn : decide (c < 0) = false := by simpa using h0
    go_enter Try.func35, Try.ntmps35
    go_wp2_with fail
    refine (clients_no h).mono ?_
    rintro e w1 ⟨rfl, rfl⟩
    go_wp2
    go_ret
    exact ⟨rfl, rfl⟩
  · go_enter Try.func35, Try.ntmps35
    go_wp2
    go_ret
    exact ⟨rfl, rfl⟩
/-- Is there such a client? -/
def isC (s : Lk) (c : Int) : Bool := decide (0 ≤ c ∧ c < (s.n : Int))
theorem kis_any {w : World} {g b : Nat} {s : Lk} (h : KAt w g b s) (c : Int) : Calls Try.prog 35 #[.pointer (some ⟨g, 0, none⟩), .int .i64 c] w fun e w' => e = .returned (.bool (isC s c)) ∧ w = w' := by
  have H := Lib.hid (clients_yes h)
  clear h
  by_cases h0 : 0 ≤ c
  · by_cases h1 : c < (s.n : Int)
    · have e : isC s c = true := by simp [isC, h0, h1]
      rw [e]
      clear e
      generalize s.n = n at *
      go_enter Try.func35, Try.ntmps35
      go_wp2_with fail
      refine H.out.mono ?_
      rintro e w1 ⟨rfl, rfl⟩
      go_wp2
      go_ret
      exact ⟨rfl, rfl⟩
    · have e : isC s c = false := by simp [isC, h1]
      rw [e]
      clear e
      generalize s.n = n at *
      have h2 : decide (c < (n : Int)) = false := by simpa using h1
      go_enter Try.func35, Try.ntmps35
      go_wp2_with fail
      refine H.out.mono ?_
      rintro e w1 ⟨rfl, rfl⟩
      go_wp2
      go_ret
      exact ⟨rfl, rfl⟩
  · have e : isC s c = false := by simp [isC, h0]
    rw [e]
    clear e
    go_enter Try.func35, Try.ntmps35
    go_wp2
    go_ret
    exact ⟨rfl, rfl⟩
theorem knone_no {p : Option Addr} {w : World} (h : NoTab w p) : Calls Try.prog 39 #[.pointer p] w fun e w' => e = .returned (.bool true) ∧ w = w' := by
  have H := Lib.hid (clients_no h)
  clear h
  go_enter Try.func39, Try.ntmps39
  go_wp2_with fail
  refine H.out.mono ?_
  rintro e w1 ⟨rfl, rfl⟩
  go_wp2
  go_ret
  exact ⟨rfl, rfl⟩
theorem knone_yes {w : World} {g b : Nat} {s : Lk} (h : KAt w g b s) : Calls Try.prog 39 #[.pointer (some ⟨g, 0, none⟩)] w fun e w' => e = .returned (.bool false) ∧ w = w' := by
  have H := Lib.hid (clients_yes h)
  have h1 := h.ok.n1
  clear h
  obtain ⟨n, hn⟩ : ∃ n, n = s.n := ⟨_, rfl⟩
  rw [← hn] at H h1
  clear hn
  have hz : ((n : Int) == 0) = false := by
    rw [Bool.eq_false_iff]
    intro hh
    have := beq_iff_eq.1 hh
    omega
  go_enter Try.func39, Try.ntmps39
  go_wp2_with fail
  refine H.out.mono ?_
  rintro e w1 ⟨rfl, rfl⟩
  go_wp2
  go_ret
  exact ⟨rfl, rfl⟩
theorem isC_yes {s : Lk} {c : Nat} (hc : c < s.n) : isC s (c : Int) = true := by simp [isC]; omega
theorem isC_of {s : Lk} {c : Int} (h : isC s c = true) : ∃ k : Nat, c = (k : Int) ∧ k < s.n := by
  simp [isC] at h
  exact ⟨c.toNat, by omega, by omega⟩
end Go.Proofs.Ytedefebdfcgjeaa
