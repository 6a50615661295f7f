/- Pending, Load, Evict, Stats, Fence and Crash where they are refused, and where they are not: what each answers; for states that a memory can have. -/
import Derived.Test.YtjjdfloigamehaaPFence
import Derived.Test.YtjjdfloigamehaaPCrash
import Derived.BigQuiet
namespace Go.Proofs.Ytjjdfloigamehaa
open Go.RowKit
set_option linter.unusedVariables false

theorem pending_no {p : Option Addr} {w : World} (h : NoMem w p) (a : Int) : Calls Try.prog 24 #[.pointer p, .int .u64 a] w fun e w' => e = .returned (.int .i64 0) ∧ w = w' := by
  have H := Lib.hid (refused_no h true a)
  clear h
  go_enter Try.func24, Try.ntmps24
  go_wp2_with fail
  refine H.out.mono ?_
  rintro e w1 ⟨rfl, rfl⟩
  go_wp2
  go_ret
  exact ⟨rfl, rfl⟩
theorem pending_range {w : World} {y : Lay} {s : St} (h : MemAt w y s) (a : Nat) (ha : a % 8 ≠ 0 ∨ 64 * s.nl ≤ a) : Calls Try.prog 24 #[.pointer (some ⟨y.g, 0, none⟩), .int .u64 (a : Int)] w fun e w' => e = .returned (.int .i64 0) ∧ w = w' := by
  have H := Lib.hid (refused_range h a ha)
  obtain ⟨g, hg⟩ : ∃ g, g = y.g := ⟨_, rfl⟩
  rw [← hg] at H ⊢
  clear h ha hg
  go_enter Try.func24, Try.ntmps24
  go_wp2_with fail
  refine H.out.mono ?_
  rintro e w1 ⟨rfl, rfl⟩
  go_wp2
  go_ret
  exact ⟨rfl, rfl⟩
set_option maxHeartbeats 800000 in
theorem pending_ok {w : World} {y : Lay} {s : St} (h : MemAt w y s) (a : Nat) (h8 : a % 8 = 0) (ha : a < 64 * s.nl) : Calls Try.prog 24 #[.pointer (some ⟨y.g, 0, none⟩), .int .u64 (a : Int)] w fun e w' => e = .returned (.int .i64 (((s.pend.getD (a / 64) []).length : Nat) : Int)) ∧ ∃ n, w.drewN n = w' := by
  have HR := Lib.hid (refused_ok h a h8 ha)
  have hmost := h.most
  have HL := Lib.hid fun W => lineOf_any a W (by omega)
  obtain ⟨V, l, hV, hl, ht⟩ := ps_get h (j := a / 64) (by omega)
  obtain ⟨A, cap, rfl, hcap⟩ := ht.len
  have hlen : s.pend.getD (a / 64) [] = l := by rw [List.getD_eq_getElem?_getD, hl]; rfl
  rw [hlen]
  obtain ⟨i, hi⟩ : ∃ i, i = a / 64 := ⟨_, rfl⟩
  rw [← hi] at hV HL
  have c2 := h.row.cell 2
  simp only [List.getElem?_toArray, List.getElem?_cons_succ, List.getElem?_cons_zero] at c2
  have cpp : w.cell? ⟨y.gp, i, none⟩ = some (.slice A l.length cap) := by rw [h.pen.cellAt i (by omega), hV]
  have hin : i < s.nl := by omega
  have i0 : (0 : Int) ≤ (i : Int) := by omega
  have i1 : (i : Int) < (s.nl : Int) := by omega
  clear h ht hV hl hlen hi ha h8
  go_enter Try.func24, Try.ntmps24
  go_wp2_with fail
  refine HR.out.mono ?_
  rintro e w1 ⟨rfl, rfl⟩
  go_wp2_with fail
  go_quiet ((go_at_call 50; exact Calls.quiet_of_same ((HL.out _).mono fun e w' h => ⟨h.1, h.2.symm⟩)))
  go_wp2
  go_ret
  exact ⟨rfl, _, rfl⟩
end Go.Proofs.Ytjjdfloigamehaa
