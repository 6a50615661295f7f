/- Texts of this claim, packed: 7Fn. -/
import Derived.Test.YtgclbeagifoifaaPc02
/- Clients, is, none, Holder, Wants, ahead: what each answers; the world stays. For nil, for a zero table, and for one that is there. -/
namespace Go.Proofs.Ytgclbeagifoifaa
open Go.RowKit
set_option linter.unusedVariables false
theorem clients_no {p : Option Addr} {w : World} (h : NoTab w p) : Calls Try.prog 24 #[.pointer p] w fun e w' => e = .returned (.int .i64 0) ∧ w = w' := by
  rcases h with rfl | ⟨g, rfl, hr⟩
  · go_enter Try.func24, Try.ntmps24
    go_wp2
    go_ret
    exact ⟨rfl, rfl⟩
  · have h1 : w.cell? ⟨g, 0, none⟩ = some (.int .i64 0) := by rw [hr.cell]; exact tcells_0 _ _ _
    go_enter Try.func24, Try.ntmps24
    go_wp2
    go_ret
    exact ⟨rfl, rfl⟩
theorem clients_yes {w : World} {g b : Nat} {s : Lk} (h : KAt w g b s) : Calls Try.prog 24 #[.pointer (some ⟨g, 0, none⟩)] w fun e w' => e = .returned (.int .i64 (s.n : Int)) ∧ w = w' := by
  have h1 := h.cn
  clear h
  go_enter Try.func24, Try.ntmps24
  go_wp2
  go_ret
  exact ⟨rfl, rfl⟩
theorem is_no {p : Option Addr} {w : World} (h : NoTab w p) (c : Int) : Calls Try.prog 33 #[.pointer p, .int .i64 c] w fun e w' => e = .returned (.bool false) ∧ w = w' := by
  by_cases h0 : 0 ≤ c
  · have hn : decide (c < 0) = false := by simpa using h0
    go_enter Try.func33, Try.ntmps33
    go_wp2_with fail
    refine (clients_no h).mono ?_
    rintro e w1 ⟨rfl, rfl⟩
    go_wp2
    go_ret
    exact ⟨rfl, rfl⟩
  · go_enter Try.func33, Try.ntmps33
    go_wp2
    go_ret
    exact ⟨rfl, rfl⟩
/-- Is there such a client? -/
def isC (s : Lk) (c : Int) : Bool := decide (0 ≤ c ∧ c < (s.n : Int))
theorem kis_any {w : World} {g b : Nat} {s : Lk} (h : KAt w g b s) (c : Int) : Calls Try.prog 33 #[.pointer (some ⟨g, 0, none⟩), .int .i64 c] w fun e w' => e = .returned (.bool (isC s c)) ∧ w = w' := by
  have H := Lib.hid (clients_yes h)
  clear h
  by_cases h0 : 0 ≤ c
  · by_cases h1 : c < (s.n : Int)
    · have e : isC s c = true := by simp [isC, h0, h1]
      rw [e]
      clear e
      generalize s.n = n at *
      go_enter Try.func33, Try.ntmps33
      go_wp2_with fail
      refine H.out.mono ?_
      rintro e w1 ⟨rfl, rfl⟩
      go_wp2
      go_ret
      exact ⟨rfl, rfl⟩
    · have e : isC s c = false := by simp [isC, h1]
      rw [e]
      clear e
      generalize s.n = n at *
      have h2 : decide (c < (n : Int)) = false := by simpa using h1
      go_enter Try.func33, Try.ntmps33
      go_wp2_with fail
      refine H.out.mono ?_
      rintro e w1 ⟨rfl, rfl⟩
      go_wp2
      go_ret
      exact ⟨rfl, rfl⟩
  · have e : isC s c = false := by simp [isC, h0]
    rw [e]
    clear e
    go_enter Try.func33, Try.ntmps33
    go_wp2
    go_ret
    exact ⟨rfl, rfl⟩
theorem knone_no {p : Option Addr} {w : World} (h : NoTab w p) : Calls Try.prog 30 #[.pointer p] w fun e w' => e = .returned (.bool true) ∧ w = w' := by
  have H := Lib.hid (clients_no h)
  clear h
  go_enter Try.func30, Try.ntmps30
  go_wp2_with fail
  refine H.out.mono ?_
  rintro e w1 ⟨rfl, rfl⟩
  go_wp2
  go_ret
  exact ⟨rfl, rfl⟩
theorem knone_yes {w : World} {g b : Nat} {s : Lk} (h : KAt w g b s) : Calls Try.prog 30 #[.pointer (some ⟨g, 0, none⟩)] w fun e w' => e = .returned (.bool false) ∧ w = w' := by
  have H := Lib.hid (clients_yes h)
  have h1 := h.ok.n1
  clear h
  obtain ⟨n, hn⟩ : ∃ n, n = s.n := ⟨_, rfl⟩
  rw [← hn] at H h1
  clear hn
  have hz : ((n : Int) == 0) = false := by
    rw [Bool.eq_false_iff]
    intro hh
    have := beq_iff_eq.1 hh
    omega
  go_enter Try.func30, Try.ntmps30
  go_wp2_with fail
  refine H.out.mono ?_
  rintro e w1 ⟨rfl, rfl⟩
  go_wp2
  go_ret
  exact ⟨rfl, rfl⟩
theorem holder_no {p : Option Addr} {w : World} (h : NoTab w p) {id : Nat} (hi : id < 18446744073709551616) : Calls Try.prog 22 #[.pointer p, .int .u64 (id : Int)] w fun e w' => e = .returned (.tuple #[.int .i64 0, .bool false]) ∧ w = w' := by
  rcases h with rfl | ⟨g, rfl, hr⟩
  · go_enter Try.func22, Try.ntmps22
    go_wp2
    go_ret2
    exact ⟨rfl, rfl⟩
  · have h1 : w.cell? ⟨g, 1, none⟩ = some (.map none) := by rw [hr.cell]; exact tcells_1 _ _ _
    have hl := nil_look_ok (w := w) hi
    clear hi
    go_enter Try.func22, Try.ntmps22
    go_wp2
    go_ret2
    exact ⟨rfl, rfl⟩
theorem holder_any {w : World} {g b : Nat} {s : Lk} (h : KAt w g b s) {id : Nat} (hi : id < 18446744073709551616) : Calls Try.prog 22 #[.pointer (some ⟨g, 0, none⟩), .int .u64 (id : Int)] w fun e w' => e = .returned (.tuple #[hV (s.hm id), .bool (s.hm id).isSome]) ∧ w = w' := by
  have h1 := h.cm
  have hl := has_look_ok h.mp hi
  clear h hi
  have e : hV (s.hm id) = .int .i64 ((s.hm id).getD 0 : Nat) := rfl
  rw [e] at hl ⊢
  clear e
  generalize ((s.hm id).getD 0 : Nat) = x at *
  generalize (s.hm id).isSome = y at *
  go_enter Try.func22, Try.ntmps22
  go_wp2
  go_ret2
  exact ⟨rfl, rfl⟩
theorem ahead_any {w : World} {g b : Nat} {s : Lk} (h : KAt w g b s) {c : Nat} (hc : c < s.n) : Calls Try.prog 34 #[.pointer (some ⟨g, 0, none⟩), .int .i64 (c : Int)] w fun e w' => e = .returned (.tuple #[hV (s.hm (s.wt c)), .bool (s.hm (s.wt c)).isSome]) ∧ w = w' := by
  have c64 : c < 64 := by have := h.ok.n2; omega
  have h1 := h.cw c64
  have H := Lib.hid (holder_any h (id := s.wt c) (h.ok.wb c))
  have e : hV (s.hm (s.wt c)) = .int .i64 ((s.hm (s.wt c)).getD 0 : Nat) := rfl
  rw [e] at H ⊢
  clear e h hc
  generalize ((s.hm (s.wt c)).getD 0 : Nat) = x at *
  generalize (s.hm (s.wt c)).isSome = y at *
  generalize s.wt c = t at *
  go_enter Try.func34, Try.ntmps34
  go_wp2_with fail
  refine H.out.mono ?_
  rintro e w1 ⟨rfl, rfl⟩
  go_wp2
  go_ret2
  exact ⟨rfl, rfl⟩
theorem wants_no {p : Option Addr} {w : World} (h : NoTab w p) (c : Int) : Calls Try.prog 15 #[.pointer p, .int .i64 c] w fun e w' => e = .returned (.tuple #[.int .u64 0, .bool false]) ∧ w = w' := by
  have H := Lib.hid (is_no h c)
  clear h
  go_enter Try.func15, Try.ntmps15
  go_wp2_with fail
  refine H.out.mono ?_
  rintro e w1 ⟨rfl, rfl⟩
  go_wp2
  go_ret2
  exact ⟨rfl, rfl⟩
theorem wants_out {w : World} {g b : Nat} {s : Lk} (h : KAt w g b s) {c : Int} (hc : isC s c = false) : Calls Try.prog 15 #[.pointer (some ⟨g, 0, none⟩), .int .i64 c] w fun e w' => e = .returned (.tuple #[.int .u64 0, .bool false]) ∧ w = w' := by
  have H := kis_any h c
  rw [hc] at H
  have H := Lib.hid H
  clear h hc
  go_enter Try.func15, Try.ntmps15
  go_wp2_with fail
  refine H.out.mono ?_
  rintro e w1 ⟨rfl, rfl⟩
  go_wp2
  go_ret2
  exact ⟨rfl, rfl⟩
theorem isC_yes {s : Lk} {c : Nat} (hc : c < s.n) : isC s (c : Int) = true := by simp [isC]; omega
theorem isC_of {s : Lk} {c : Int} (h : isC s c = true) : ∃ k : Nat, c = (k : Int) ∧ k < s.n := by
  simp [isC] at h
  exact ⟨c.toNat, by omega, by omega⟩
end Go.Proofs.Ytgclbeagifoifaa
