/- A node that a change left in the midst, repaired; a change in whole; plain facts; no conditions. -/
import Derived.Test.YtbadlmicbbjkaaaN9LawH
namespace Go.Proofs.Ytbadlmicbbjkaaa
open Go.RowKit
set_option linter.unusedVariables false
set_option linter.unusedSimpArgs false
theorem ap_rng {base : Int} {n m : Nd} {s : Int × Int} (h : ap base n s = some m) : base ≤ s.1 ∧ s.1 < base + 192 := by
  unfold ap at h
  by_cases h1 : s.1 = base + 8
  · omega
  · rw [if_neg h1] at h
    by_cases h2 : s.1 = base + 16
    · omega
    · rw [if_neg h2] at h
      by_cases h3 : s.1 = base + 24
      · omega
      · rw [if_neg h3] at h
        by_cases h4 : s.1 = base + 32
        · omega
        · rw [if_neg h4] at h
          by_cases h5 : 64 ≤ s.1 - base ∧ s.1 - base < 192 ∧ (s.1 - base) % 8 = 0
          · omega
          · rw [if_neg h5] at h; cases h
theorem apL_rng {base : Int} : ∀ {l : List (Int × Int)} {n m : Nd}, apL base n l = some m → ∀ e ∈ l, base ≤ e.1 ∧ e.1 < base + 192
  | [], n, m, h, e, he => by cases he
  | s :: l, n, m, h, e, he => by
    unfold apL at h
    cases hs : ap base n s with
    | none => rw [hs] at h; cases h
    | some k =>
      rw [hs] at h
      rcases List.mem_cons.1 he with rfl | he
      · exact ap_rng hs
      · exact apL_rng h e he
theorem apL_wf {base : Int} {l : List (Int × Int)} {n m : Nd} (hb : bOk base = true) (h : apL base n l = some m) : ∀ e ∈ l, 0 ≤ e.1 ∧ e.1 < 18446744073709551616 := fun e he => by
  have h1 := apL_rng h e he
  have h2 := (bOk_iff base).1 hb
  omega
theorem has_last {base : Int} {P : Nd → Prop} : ∀ {a : List (Int × Int)} {n m : Nd}, Steps base P n a m → P m
  | [], n, m, h => by obtain ⟨h1, rfl⟩ := h; exact h1
  | s :: a, n, m, h => by
    obtain ⟨_, n', _, h2⟩ := h
    exact has_last h2
/-- What Repair makes of a node that is not whole. -/
theorem torn_rep {base : Int} {m : Nd} (hb : bOk base = true) (hm : m.may 0 false = true) (hi : 0 ≤ m.inv) :
    ∃ l m2, repP base m = (l, 0) ∧ applyR base m l = (m2, 0) ∧ m2.es = m.es ∧ m2.inv = -1 ∧ l.length ≤ 18 ∧ (∀ e ∈ l, 0 ≤ e.1 ∧ e.1 < 18446744073709551616) ∧ 0 < l.length := by
  have hr : repP base m = (wholeL base m (dnL base m m.inv.toNat (m.len - 1 - m.inv.toNat)), 0) := by
    unfold repP
    rw [if_pos (by rw [hb, hm]; rfl), if_neg (by omega)]
  obtain ⟨m2, hs, hi2⟩ := eff_rep hr
  have ha := steps_all hs
  have hl := has_last hs
  have h8 := m.len_le
  refine ⟨_, m2, hr, ?_, hl.2, hi2, ?_, apL_wf hb ha, ?_⟩
  · unfold applyR
    rw [if_pos hb, ha]; rfl
  · rw [wholeL_len, dnL_len]
    omega
  · rw [wholeL_len]
    omega
/-- A change that is asked for, done in whole. -/
theorem torn_ask {base : Int} {n : Nd} {d key ptr : Int} {l : List (Int × Int)} (h0 : 0 ≤ d) (h6 : d < 6) (h : askP base n d key ptr = (l, 0)) :
    ∃ m, applyR base n l = (m, 0) ∧ m.es = bhL d key ptr (decide (d = 0)) n.es ∧ (bhL d key ptr (decide (d = 0)) n.es).length ≤ 8 ∧ (∀ e ∈ l, 0 ≤ e.1 ∧ e.1 < 18446744073709551616) := by
  obtain ⟨hb, _⟩ := ask_bok h0 h6 h
  obtain ⟨J, hW, _, hn⟩ := ask_way h0 h6 h
  obtain ⟨m, h1, _, _⟩ := hW.at_ l.length (Nat.le_refl _)
  obtain ⟨h2, _⟩ := way_end hW hn h1
  rw [List.take_length] at h1
  refine ⟨m, ?_, h2, by rw [← h2]; exact m.es_len, apL_wf hb h1⟩
  unfold applyR
  rw [if_pos hb, h1]; rfl
end Go.Proofs.Ytbadlmicbbjkaaa
