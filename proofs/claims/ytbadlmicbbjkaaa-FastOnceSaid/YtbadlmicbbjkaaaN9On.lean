/- A change's stores: each word is written at most twice, and what it is written the second time it was not at the start; plain facts; no conditions. -/
import Derived.Test.YtbadlmicbbjkaaaPe26
namespace Go.Proofs.Ytbadlmicbbjkaaa
open Go.RowKit
set_option linter.unusedVariables false
set_option linter.unusedSimpArgs false
/-- A node's words. -/
def wo9 (n : Nd) : List Int := [5495893775785918464 + n.l, n.lo, n.nx, n.ct, n.fi, 0, 0, 0, n.k0, n.p0, n.k1, n.p1, n.k2, n.p2, n.k3, n.p3, n.k4, n.p4, n.k5, n.p5, n.k6, n.p6, n.k7, n.p7]
theorem wo9_len (n : Nd) : (wo9 n).length = 24 := rfl
def ix (base A : Int) : Nat := ((A - base) / 8).toNat
theorem wo9_setK (n : Nd) {i : Nat} (hi : i < 8) (x : Int) : wo9 (n.setK i x) = (wo9 n).set (8 + 2 * i) x := by
  obtain rfl | rfl | rfl | rfl | rfl | rfl | rfl | rfl := lt8 hi <;> rfl
theorem wo9_setP (n : Nd) {i : Nat} (hi : i < 8) (x : Int) : wo9 (n.setP i x) = (wo9 n).set (9 + 2 * i) x := by
  obtain rfl | rfl | rfl | rfl | rfl | rfl | rfl | rfl := lt8 hi <;> rfl
theorem wo9_ptr (n : Nd) {i : Nat} (hi : i < 8) : (wo9 n).getD (9 + 2 * i) 0 = n.ptr i := by
  obtain rfl | rfl | rfl | rfl | rfl | rfl | rfl | rfl := lt8 hi <;> rfl
/-- A store is a word that is set. -/
theorem ap_wo9 {base : Int} {n m : Nd} {s : Int × Int} (h : ap base n s = some m) : ∃ j : Nat, 0 < j ∧ j < 24 ∧ s.1 = base + 8 * (j : Int) ∧ wo9 m = (wo9 n).set j s.2 := by
  unfold ap at h
  by_cases h1 : s.1 = base + 8
  · rw [if_pos h1] at h; cases h; exact ⟨1, by omega, by omega, by omega, rfl⟩
  · rw [if_neg h1] at h
    by_cases h2 : s.1 = base + 16
    · rw [if_pos h2] at h; cases h; exact ⟨2, by omega, by omega, by omega, rfl⟩
    · rw [if_neg h2] at h
      by_cases h3 : s.1 = base + 24
      · rw [if_pos h3] at h; cases h; exact ⟨3, by omega, by omega, by omega, rfl⟩
      · rw [if_neg h3] at h
        by_cases h4 : s.1 = base + 32
        · rw [if_pos h4] at h; cases h; exact ⟨4, by omega, by omega, by omega, rfl⟩
        · rw [if_neg h4] at h
          by_cases h5 : 64 ≤ s.1 - base ∧ s.1 - base < 192 ∧ (s.1 - base) % 8 = 0
          · rw [if_pos h5] at h
            obtain ⟨g1, g2, g3⟩ := h5
            by_cases h6 : (s.1 - base) % 16 = 0
            · rw [if_pos h6] at h
              cases h
              refine ⟨8 + 2 * ((s.1 - base - 64) / 16).toNat, by omega, by omega, by omega, wo9_setK n (i := ((s.1 - base - 64) / 16).toNat) (by omega) _⟩
            · rw [if_neg h6] at h
              cases h
              refine ⟨9 + 2 * ((s.1 - base - 64) / 16).toNat, by omega, by omega, by omega, wo9_setP n (i := ((s.1 - base - 64) / 16).toNat) (by omega) _⟩
          · rw [if_neg h5] at h; cases h
/-- The words behind some stores. -/
def wsAt (base : Int) : List Int → List (Int × Int) → List Int
  | W, [] => W
  | W, s :: l => wsAt base (W.set (ix base s.1) s.2) l
theorem apL_wo9 {base : Int} : ∀ {l : List (Int × Int)} {n m : Nd}, apL base n l = some m → wo9 m = wsAt base (wo9 n) l ∧ ∀ e ∈ l, ∃ j : Nat, 0 < j ∧ j < 24 ∧ e.1 = base + 8 * (j : Int)
  | [], n, m, h => by cases h; exact ⟨rfl, fun e he => by cases he⟩
  | s :: l, n, m, h => by
    unfold apL at h
    cases hs : ap base n s with
    | none => rw [hs] at h; cases h
    | some k =>
      rw [hs] at h
      obtain ⟨j, j0, j1, j2, j3⟩ := ap_wo9 hs
      obtain ⟨g1, g2⟩ := apL_wo9 h
      refine ⟨?_, fun e he => ?_⟩
      · show wo9 m = wsAt base ((wo9 n).set (ix base s.1) s.2) l
        rw [g1, j3, show ix base s.1 = j by unfold ix; omega]
      · rcases List.mem_cons.1 he with rfl | he
        · exact ⟨j, j0, j1, j2⟩
        · exact g2 e he
theorem wsAt_len (base : Int) : ∀ (l : List (Int × Int)) (W : List Int), (wsAt base W l).length = W.length
  | [], W => rfl
  | s :: l, W => by
    show (wsAt base (W.set (ix base s.1) s.2) l).length = W.length
    rw [wsAt_len base l, List.length_set]
theorem wsAt_app (base : Int) : ∀ (l m : List (Int × Int)) (W : List Int), wsAt base W (l ++ m) = wsAt base (wsAt base W l) m
  | [], m, W => rfl
  | s :: l, m, W => by
    show wsAt base (W.set (ix base s.1) s.2) (l ++ m) = wsAt base (wsAt base (W.set (ix base s.1) s.2) l) m
    exact wsAt_app base l m _
theorem wsAt_none (base : Int) {j : Nat} : ∀ (l : List (Int × Int)) (W : List Int), (∀ e ∈ l, ix base e.1 ≠ j) → (wsAt base W l).getD j 0 = W.getD j 0
  | [], W, _ => rfl
  | s :: l, W, h => by
    show (wsAt base (W.set (ix base s.1) s.2) l).getD j 0 = W.getD j 0
    rw [wsAt_none base l _ (fun e he => h e (List.mem_cons_of_mem _ he))]
    have := h s (by simp)
    simp only [List.getD_eq_getElem?_getD, List.getElem?_set_ne this]
/-- Each place is written at most twice, and the second time not with what it was at the start. -/
def OnceP (base : Int) (W : List Int) (l : List (Int × Int)) : Prop :=
  ∀ i (h : i < l.length) k (hk : k < i), ix base (l[k]'(by omega)).1 = ix base l[i].1 → l[i].2 ≠ W.getD (ix base l[i].1) 0 ∧ ∀ k' (hk' : k' < i), ix base (l[k']'(by omega)).1 = ix base l[i].1 → k' = k
/-- What a store makes of its word, the word has not been before. -/
theorem once_new {base : Int} {W : List Int} {l : List (Int × Int)} (hO : OnceP base W l) (hx : ∀ e ∈ l, ix base e.1 < W.length) {i : Nat} (hi : i < l.length) {j : Nat} (hj : (wsAt base W (l.take (i + 1))).getD j 0 ≠ (wsAt base W (l.take i)).getD j 0) :
    ∀ k, k ≤ i → (wsAt base W (l.take k)).getD j 0 ≠ (wsAt base W (l.take (i + 1))).getD j 0 := by
  have hs : wsAt base W (l.take (i + 1)) = (wsAt base W (l.take i)).set (ix base l[i].1) l[i].2 := by
    rw [List.take_succ_eq_append_getElem hi, wsAt_app]; rfl
  have hlen := wsAt_len base (l.take i) W
  have hxi := hx l[i] (List.getElem_mem hi)
  have hji : ix base l[i].1 = j := by
    by_cases he : ix base l[i].1 = j
    · exact he
    · exfalso
      apply hj
      rw [hs]
      simp only [List.getD_eq_getElem?_getD, List.getElem?_set_ne he]
  have hv : (wsAt base W (l.take (i + 1))).getD j 0 = l[i].2 := by
    rw [hs, hji]
    rw [hji] at hxi
    simp only [List.getD_eq_getElem?_getD, List.getElem?_set_self (show j < (wsAt base W (l.take i)).length by omega), Option.getD_some]
  rw [hv] at hj ⊢
  by_cases hex : ∃ k0, ∃ (h0 : k0 < i), ix base (l[k0]'(by omega)).1 = j
  · obtain ⟨k0, h0, hk0⟩ := hex
    obtain ⟨hne, huni⟩ := hO i hi k0 h0 (by rw [hk0, hji])
    rw [hji] at hne huni
    intro k hk
    by_cases hkk : k ≤ k0
    · rw [wsAt_none base (l.take k) W (fun e he => ?_)]
      · exact fun h => hne h.symm
      · obtain ⟨q, hq, rfl⟩ := List.mem_take_iff_getElem.1 he
        intro hq2
        have := huni q (by omega) hq2
        omega
    · have hsame : ∀ c, k0 + 1 + c ≤ i → (wsAt base W (l.take (k0 + 1 + c))).getD j 0 = (wsAt base W (l.take (k0 + 1))).getD j 0 := by
        intro c hc
        rw [List.take_add, wsAt_app, wsAt_none]
        intro e he
        obtain ⟨q, hq, rfl⟩ := List.mem_take_iff_getElem.1 he
        intro hq2
        simp only [List.length_drop] at hq
        rw [List.getElem_drop] at hq2
        have := huni (k0 + 1 + q) (by omega) hq2
        omega
      have h1 := hsame (k - (k0 + 1)) (by omega)
      have h2 := hsame (i - (k0 + 1)) (by omega)
      rw [show k0 + 1 + (k - (k0 + 1)) = k by omega] at h1
      rw [show k0 + 1 + (i - (k0 + 1)) = i by omega] at h2
      rw [h1, ← h2]
      exact fun h => hj h.symm
  · intro k hk
    have hno : ∀ t, t ≤ i → (wsAt base W (l.take t)).getD j 0 = W.getD j 0 := by
      intro t ht
      apply wsAt_none
      intro e he
      obtain ⟨q, hq, rfl⟩ := List.mem_take_iff_getElem.1 he
      intro hq2
      exact hex ⟨q, by omega, hq2⟩
    rw [hno k hk, ← hno i (Nat.le_refl _)]
    exact fun h => hj h.symm
end Go.Proofs.Ytbadlmicbbjkaaa
