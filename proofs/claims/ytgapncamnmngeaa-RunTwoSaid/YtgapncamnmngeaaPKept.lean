/- kept: how many pending stores a crash lets last; for numbers from 0 on, and any list of integers. -/
import Derived.Test.YtgapncamnmngeaaPSmall
namespace Go.Proofs.Ytgapncamnmngeaa
open Go.RowKit
set_option linter.unusedVariables false
def iv (z : Int) : Value := .int .i64 z
def keptN (keep : List Int) (i n : Nat) : Nat := if keep = [] then 0 else (max 0 (keep.getD (i % keep.length) 0)).toNat % (n + 1)
theorem keptN_le (keep : List Int) (i n : Nat) : keptN keep i n ≤ n := by
  unfold keptN
  split
  · omega
  · have := Nat.mod_lt (max 0 (keep.getD (i % keep.length) 0)).toNat (show 0 < n + 1 by omega)
    omega
set_option maxHeartbeats 400000 in
theorem kept_any (l : List Int) (A : Option Addr) (cap i n : Nat) (w : World) (hs : Sl w A (l.map iv)) (hl : l.length ≤ 9223372036854775807) (hw : ∀ z ∈ l, (Lit.int .i64 z).wf = true) (hi : i ≤ 1000000000) (hn : n ≤ 1000000000) :
    Calls Try.prog 40 #[.slice A l.length cap, .int .i64 (i : Int), .int .i64 (n : Int)] w fun e w' => e = .returned (.int .i64 ((keptN l i n : Nat) : Int)) ∧ w = w' := by
  by_cases h0 : l = []
  · subst h0
    simp only [keptN, List.length_nil]
    go_enter Try.func40, Try.ntmps40
    go_wp2
    go_ret
    exact ⟨rfl, rfl⟩
  · have hlp : 0 < l.length := by cases l with
      | nil => exact absurd rfl h0
      | cons a t => simp
    have hm : i % l.length < l.length := Nat.mod_lt _ hlp
    obtain ⟨a, rfl, hc⟩ := hs.at_ (i := i % l.length) (by simpa using hm)
    rw [List.getElem_map] at hc
    obtain ⟨K, hK⟩ : ∃ K, K = l[i % l.length] := ⟨_, rfl⟩
    have hwK := hw K (by rw [hK]; exact List.getElem_mem _)
    have hwk : -9223372036854775808 ≤ K ∧ K ≤ 9223372036854775807 := by
      simp only [Lit.wf, Bool.and_eq_true, decide_eq_true_eq] at hwK
      exact hwK
    rw [← hK] at hc
    have e : keptN l i n = (max 0 K).toNat % (n + 1) := by
      unfold keptN
      rw [if_neg h0, List.getD_eq_getElem?_getD, List.getElem?_eq_getElem hm, Option.getD_some, ← hK]
    rw [e]
    have hj : ((i : Int) % (l.length : Int)).toNat = i % l.length := by omega
    obtain ⟨L, hL⟩ : ∃ L, L = l.length := ⟨_, rfl⟩
    rw [← hL] at hc hm hj hlp hl ⊢
    unfold iv at hc
    have hL0 : ((L : Int) == 0) = false := by rw [Bool.eq_false_iff]; intro hh; have := beq_iff_eq.1 hh; omega
    have hb1 : (0 : Int) ≤ (i : Int) % (L : Int) := by omega
    have hb2 : (i : Int) % (L : Int) < (L : Int) := by have := Int.emod_lt_of_pos (i : Int) (show (0 : Int) < (L : Int) by omega); exact this
    clear hK hL e hs hw h0
    go_enter Try.func40, Try.ntmps40
    go_wp2
    · have e : max 0 K = K := by omega
      go_ret
      exact ⟨ret_int (by rw [e]), rfl⟩
    · have e : max 0 K = 0 := by omega
      go_ret
      exact ⟨ret_int (by rw [e]; simp), rfl⟩
end Go.Proofs.Ytgapncamnmngeaa
