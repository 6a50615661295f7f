/- least, Runs: on whom a client's going on hangs; for any table. -/
import Derived.Test.Ytlpgpnbecebldaa7Path
import Derived.Deep.LoopGhost
import Derived.WalkMore
namespace Go.Proofs.Ytlpgpnbecebldaa
open Go.RowKit
set_option linter.unusedVariables false
def LeastInv (s : Lk) (c m k : Nat) (v5 v6 : Value) : Prop := ∃ j l a : Nat, 1 ≤ j ∧ j + k = m ∧ it s c j = some a ∧ a < s.n ∧ v5 = .int .i64 (l : Int) ∧ v6 = .int .i64 (a : Int) ∧ l < s.n ∧ (∃ i, i < j ∧ it s c i = some l) ∧ ∀ i y, i < j → it s c i = some y → l ≤ y
def IntPost (w : World) (P : Nat → Prop) (e : Ending) (w' : World) : Prop := ∃ r : Nat, P r ∧ e = .returned (.int .i64 (r : Int)) ∧ w = w'
theorem hV_of {s : Lk} {c d : Nat} (h : nx s c = some d) : hV (s.hm (s.wt c)) = .int .i64 (d : Int) ∧ (s.hm (s.wt c)).isSome = true := by
  have h' : s.hm (s.wt c) = some d := h
  rw [h']
  exact ⟨rfl, rfl⟩
theorem ahead_yes {w : World} {g b : Nat} {s : Lk} (h : KAt w g b s) {c d : Nat} (hc : c < s.n) (hd : nx s c = some d) : Calls Try.prog 36 #[.pointer (some ⟨g, 0, none⟩), .int .i64 (c : Int)] w fun e w' => e = .returned (.tuple #[.int .i64 (d : Int), .bool true]) ∧ w = w' := by
  have H := ahead_any h hc
  rw [(hV_of hd).1, (hV_of hd).2] at H
  exact H
theorem ahead_stop {w : World} {g b : Nat} {s : Lk} (h : KAt w g b s) {c : Nat} (hc : c < s.n) (hd : nx s c = none) : Calls Try.prog 36 #[.pointer (some ⟨g, 0, none⟩), .int .i64 (c : Int)] w fun e w' => e = .returned (.tuple #[.int .i64 0, .bool false]) ∧ w = w' := by
  have H := ahead_any h hc
  have h' : s.hm (s.wt c) = none := hd
  rw [h'] at H
  exact H
set_option maxHeartbeats 1000000 in
theorem least_any {w : World} {g b : Nat} {s : Lk} (h : KAt w g b s) {c : Nat} (hc : c < s.n) {m : Nat} (hm : 0 < m) (hcc : it s c m = some c) :
    Calls Try.prog 37 #[.pointer (some ⟨g, 0, none⟩), .int .i64 (c : Int)] w (IntPost w (fun r => Circ s c r)) := by
  have HK := Lib.hid h
  have HC := Lib.hid hcc
  have hn64 := h.ok.n2
  have step : ∀ j a, j < m → it s c j = some a → ∃ d, nx s a = some d ∧ d < s.n ∧ it s c (j + 1) = some d := by
    intro j a hj ha
    have e := it_from ha (show j ≤ m by omega)
    rw [hcc] at e
    cases hd : nx s a with
    | none =>
      rw [it_end hd (by omega)] at e
      cases e
    | some d => exact ⟨d, rfl, nx_lt h.ok hd, by simp [it, ha, hd]⟩
  have HS := Lib.hid step
  obtain ⟨d, hd, hdn, hd1⟩ := step 0 c hm rfl
  have HA := Lib.hid (ahead_yes h hc hd)
  have hcs := hc
  clear h hcc step hd
  go_enter Try.func37, Try.ntmps37
  go_wp2_with fail
  refine HA.out.mono ?_
  rintro e w1 ⟨rfl, rfl⟩
  go_wp2
  go_loopg [5, 6] (m - 1) (fun k v5 v6 wr => LeastInv s c m k v5 v6 ∧ w = wr)
  case atStart => exact ⟨⟨1, c, d, by omega, by omega, hd1, hdn, rfl, rfl, hcs, ⟨0, by omega, rfl⟩, fun i y hi hy => by
    obtain rfl : i = 0 := by omega
    cases hy
    exact Nat.le_refl _⟩, rfl⟩
  case round =>
    obtain ⟨⟨j, l, a, hj1, hjk, ha, han, rfl, rfl, hln, hlo, hmin⟩, rfl⟩ := hrel
    have HA := Lib.hid ha
    have HL := Lib.hid hlo
    have HM := Lib.hid hmin
    clear ha hlo hmin hd1
    by_cases e : a = c
    · subst e
      have HE : Hid (IntPost w (fun r => Circ s a r) (.returned (.int .i64 (l : Int))) w) := Lib.hid ⟨l, ⟨⟨m, hm, HC.out⟩, ⟨_, HL.out.choose_spec.2⟩, fun y hy => by
        obtain ⟨i, hi, hy'⟩ := circ_all (by omega) HA.out hy
        exact HM.out i y hi hy'⟩, rfl, rfl⟩
      clear hm
      go_wp2
      go_ret
      exact HE.out
    · have hjm : j < m := by
        by_cases h1 : j < m
        · exact h1
        · obtain rfl : j = m := by omega
          have := HA.out
          rw [HC.out] at this
          cases this
          exact absurd rfl e
      obtain ⟨d2, hd2, hdn2, hd3⟩ := HS.out j a hjm HA.out
      have HA2 := Lib.hid (ahead_yes HK.out han hd2)
      have HD3 := Lib.hid hd3
      have hne := nat_ne e
      clear hd2 hd3
      have hrel : ∀ l' : Nat, (l' = l ∨ l' = a) → l' ≤ l → l' ≤ a → LeastInv s c m (gk - 1) (.int .i64 (l' : Int)) (.int .i64 (d2 : Int)) := by
        intro l' h1 h2 h3
        refine ⟨j + 1, l', d2, by omega, by omega, HD3.out, hdn2, rfl, rfl, by omega, ?_, ?_⟩
        · rcases h1 with rfl | rfl
          · obtain ⟨i, hi, hl⟩ := HL.out
            exact ⟨i, by omega, hl⟩
          · exact ⟨j, by omega, HA.out⟩
        · intro i y hi hy
          by_cases e : i < j
          · exact Nat.le_trans h2 (HM.out i y e hy)
          · obtain rfl : i = j := by omega
            have := HA.out
            rw [hy] at this
            cases this
            exact h3
      have HR := Lib.hid hrel
      clear hrel
      by_cases hl : a < l
      · have hl' : decide ((a : Int) < (l : Int)) = true := by simpa using hl
        have hl2 : (a : Int) < (l : Int) := by omega
        have HP := Lib.hid (HR.out a (.inr rfl) (by omega) (by omega))
        clear hl
        go_wp2_with fail
        refine HA2.out.mono ?_
        rintro e w1 ⟨rfl, rfl⟩
        go_wp2
        go_roundg (gk - 1)
        case measure => omega
        case rel => exact ⟨HP.out, rfl⟩
      · have hl' : decide ((a : Int) < (l : Int)) = false := by simpa using hl
        have hl2 : ¬ (a : Int) < (l : Int) := by omega
        have HP := Lib.hid (HR.out l (.inl rfl) (by omega) (by omega))
        clear hl
        go_wp2_with fail
        refine HA2.out.mono ?_
        rintro e w1 ⟨rfl, rfl⟩
        go_wp2
        go_roundg (gk - 1)
        case measure => omega
        case rel => exact ⟨HP.out, rfl⟩
end Go.Proofs.Ytlpgpnbecebldaa
