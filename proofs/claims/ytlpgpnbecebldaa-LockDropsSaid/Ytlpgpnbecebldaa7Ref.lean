/- The law's own table of locks, as it lies in memory: who has which, in a list without order; Is and Holder of it. -/
import Derived.Test.Ytlpgpnbecebldaa7Copy
import Derived.Deep.LoopGhost
namespace Go.Proofs.Ytlpgpnbecebldaa
open Go.RowKit
set_option linter.unusedVariables false
def flatH (l : List (Nat × Nat)) : List Value := l.flatMap fun p => [wv p.1, .int .i64 (p.2 : Int)]
theorem flatH_len (l : List (Nat × Nat)) : (flatH l).length = 2 * l.length := by
  unfold flatH
  induction l with
  | nil => rfl
  | cons a t ih => simp [List.flatMap_cons, ih]; omega
theorem flatH_snoc (l : List (Nat × Nat)) (p : Nat × Nat) : flatH (l ++ [p]) = flatH l ++ [wv p.1, .int .i64 (p.2 : Int)] := by simp [flatH]
theorem flatH_at : ∀ (l : List (Nat × Nat)) (i : Nat) (p : Nat × Nat), l[i]? = some p → (flatH l)[i * 2]? = some (wv p.1) ∧ (flatH l)[i * 2 + 1]? = some (.int .i64 (p.2 : Int))
  | a :: t, 0, p, h => by
    cases h
    exact ⟨rfl, rfl⟩
  | a :: t, i + 1, p, h => by
    have := flatH_at t i p h
    rw [show (i + 1) * 2 = i * 2 + 1 + 1 from by omega]
    exact this
/-- The table gr: the list l of who has which, and for what each of the n clients waits; its rows lie at or behind B. -/
structure RefAt (w : World) (B gr n : Nat) (l : List (Nat × Nat)) (wt : Nat → Nat) (vL vW : Value) : Prop where
  row : Row w gr 40 #[vL, vW]
  li : w.ownsRow B 71 2 vL l.length (flatH l)
  wa : w.ownsRow B 34 1 vW n ((List.range n).map fun c => wv (wt c))
theorem own2_shape {w : World} {B n : Nat} {e : TypeId} {v : Value} {xs : List Value} (h : w.ownsRow B e 2 v n xs) (hn : 0 < n) :
    ∃ (g cap : Nat) (cur : Array Value), v = .slice (some ⟨g, 0, none⟩) n cap ∧ B ≤ g ∧ n ≤ cap ∧ cap ≤ maxLen ∧ Row w g e cur ∧ ∀ (i : Nat) (u : Value), xs[i]? = some u → cur[i]? = some u := by
  rcases h.2 with ⟨_, h0⟩ | ⟨g, cap, cur, rfl, hg, hh, hnc, hm, hs, ht⟩
  · omega
  · refine ⟨g, cap, cur, rfl, hg, hnc, hm, hh, fun i u hu => ?_⟩
    rw [← ht, List.getElem?_take] at hu
    split at hu
    · rw [← Array.getElem?_toList]; exact hu
    · cases hu
theorem own2_sl {w : World} {B n : Nat} {e : TypeId} {v : Value} {xs : List Value} (h : w.ownsRow B e 2 v n xs) : ∃ A cap, v = .slice A n cap ∧ n ≤ maxLen := by
  rcases h.2 with ⟨rfl, rfl⟩ | ⟨g, cap, cur, rfl, hg, hh, hnc, hm, hs, ht⟩
  · exact ⟨none, 0, rfl, by decide⟩
  · exact ⟨_, cap, rfl, by omega⟩
/-- Who has it, by the list: below 0 nobody. -/
def rHold (l : List (Nat × Nat)) (id : Nat) : Int := match l.find? (fun p => p.1 == id) with | some p => (p.2 : Int) | none => -1
theorem rHold_none {l : List (Nat × Nat)} {id : Nat} (h : ∀ (j : Nat) (p : Nat × Nat), l[j]? = some p → p.1 ≠ id) : rHold l id = -1 := by
  unfold rHold
  rw [List.find?_eq_none.2]
  intro p hp
  obtain ⟨j, hj⟩ := List.mem_iff_getElem?.1 hp
  simpa using h j p hj
theorem rHold_some {l : List (Nat × Nat)} {id i : Nat} {p : Nat × Nat} (hi : l[i]? = some p) (hp : p.1 = id) (h : ∀ (j : Nat) (p : Nat × Nat), j < i → l[j]? = some p → p.1 ≠ id) : rHold l id = (p.2 : Int) := by
  unfold rHold
  have e : l.find? (fun p => p.1 == id) = some p := by
    rw [List.find?_eq_some_iff_getElem]
    have hl := (List.getElem?_eq_some_iff.1 hi).1
    refine ⟨by simpa using hp, i, hl, (List.getElem?_eq_some_iff.1 hi).2, fun j hj => ?_⟩
    simpa using h j _ hj (List.getElem?_eq_getElem (by omega))
  rw [e]
set_option maxRecDepth 100000 in
set_option maxHeartbeats 2000000 in
theorem rHolder_any {w : World} {B gr n : Nat} {l : List (Nat × Nat)} {wt : Nat → Nat} {vL vW : Value} (h : RefAt w B gr n l wt vL vW) (id : Nat) :
    Calls Try.prog 26 #[.pointer (some ⟨gr, 0, none⟩), .int .u64 (id : Int)] w fun e w' => e = .returned (.int .i64 (rHold l id)) ∧ w = w' := by
  obtain ⟨A, cap, rfl, hm⟩ := own2_sl h.li
  have c0 := h.row.cell 0
  simp only [List.getElem?_toArray, List.getElem?_cons_zero] at c0
  have HH := Lib.hid h.li
  obtain ⟨m, hmm⟩ : ∃ m, m = l.length := ⟨_, rfl⟩
  rw [← hmm] at c0 hm
  have HM := Lib.hid hmm
  have hmx : m ≤ 9223372036854775807 := by unfold maxLen at hm; omega
  clear h hmm
  go_enter Try.func26, Try.ntmps26
  go_wp2
  go_loopg [5] m (fun k v wr => ∃ i : Nat, v = .int .i64 (i : Int) ∧ i ≤ m ∧ m - i ≤ k ∧ wr = w ∧ ∀ (j : Nat) (p : Nat × Nat), j < i → l[j]? = some p → p.1 ≠ id)
  case atStart => exact ⟨0, rfl, by omega, by omega, rfl, fun j p hj => by omega⟩
  case round =>
    obtain ⟨i, rfl, him, hk, rfl, hno⟩ := hrel
    have HNO := Lib.hid hno
    clear hno
    by_cases hlt : i < m
    · have hlt' : i < l.length := by rw [← HM.out]; exact hlt
      obtain ⟨gq, cp, cur, hv, _, _, _, hrow, hcur⟩ := own2_shape HH.out (by omega)
      obtain rfl : A = some ⟨gq, 0, none⟩ := by injection hv
      obtain ⟨p, hp⟩ : ∃ p, l[i]? = some p := ⟨_, List.getElem?_eq_getElem hlt'⟩
      obtain ⟨f0, f1⟩ := flatH_at l i p hp
      have q0 : wr.cell? ⟨gq, i * 2, none⟩ = some (.int .u64 (p.1 : Int)) := by rw [hrow.cell]; exact hcur _ _ f0
      have q1 : wr.cell? ⟨gq, i * 2 + 1, none⟩ = some (.int .i64 (p.2 : Int)) := by rw [hrow.cell]; exact hcur _ _ f1
      have HP := Lib.hid hp
      clear hrow hcur hv f0 f1 hlt' hp
      by_cases he : p.1 = id
      · have HE := Lib.hid (rHold_some HP.out he HNO.out)
        subst he
        go_wp2
        go_ret
        exact ⟨by rw [HE.out]; rfl, rfl⟩
      · have heb := nat_ne' he
        go_wp2
        go_roundg (m - (i + 1))
        case measure => omega
        case rel => exact ⟨i + 1, by go_num, by omega, by omega, rfl, fun j q hj hq => by
          by_cases e : j = i
          · subst e; rw [HP.out] at hq; cases hq; exact he
          · exact HNO.out j q (by omega) hq⟩
    · have hie : i = m := by omega
      have hjd : decide ((i : Int) < (m : Int)) = false := by simp; omega
      have HE := Lib.hid (rHold_none (l := l) (id := id) fun j p hp => HNO.out j p (by have := (List.getElem?_eq_some_iff.1 hp).1; have := HM.out; omega) hp)
      go_wp2
      go_ret
      exact ⟨by rw [HE.out]; rfl, rfl⟩
theorem rIs_any {w : World} {B gr n : Nat} {l : List (Nat × Nat)} {wt : Nat → Nat} {vL vW : Value} (h : RefAt w B gr n l wt vL vW) (c : Int) :
    Calls Try.prog 28 #[.pointer (some ⟨gr, 0, none⟩), .int .i64 c] w fun e w' => e = .returned (.bool (decide (0 ≤ c ∧ c < (n : Int)))) ∧ w = w' := by
  obtain ⟨A, cap, rfl, _, _, _, _⟩ := own_sl h.wa
  have c1 := h.row.cell 1
  simp only [List.getElem?_toArray, List.getElem?_cons_succ, List.getElem?_cons_zero] at c1
  clear h
  by_cases h0 : 0 ≤ c
  · have d0 : decide (0 ≤ c) = true := by simpa using h0
    by_cases h1 : c < (n : Int)
    · have d1 : decide (c < (n : Int)) = true := by simpa using h1
      have e : decide (0 ≤ c ∧ c < (n : Int)) = true := by simp [h0, h1]
      rw [e]
      clear e
      go_enter Try.func28, Try.ntmps28
      go_wp2
      go_ret
      exact ⟨rfl, rfl⟩
    · have d1 : decide (c < (n : Int)) = false := by simpa using h1
      have e : decide (0 ≤ c ∧ c < (n : Int)) = false := by simp [h1]
      rw [e]
      clear e
      go_enter Try.func28, Try.ntmps28
      go_wp2
      go_ret
      exact ⟨rfl, rfl⟩
  · have d0 : decide (0 ≤ c) = false := by simpa using h0
    have e : decide (0 ≤ c ∧ c < (n : Int)) = false := by simp [h0]
    rw [e]
    clear e
    go_enter Try.func28, Try.ntmps28
    go_wp2
    go_ret
    exact ⟨rfl, rfl⟩
end Go.Proofs.Ytlpgpnbecebldaa
