/- Texts of this claim, packed: HMath, BMath. -/
import Derived.Test.YtiefgmibgdidpaaGreatDoorRows
/- The heap's plain part: a list in which some places are swapped, brought up and brought down; that it stays a permutation, and comes to be a heap. No conditions but those that each sentence names. -/
namespace Go.Proofs.YtiefgmibgdidpaaGreatDoor
set_option linter.unusedVariables false

def gd (l : List Nat) (i : Nat) : Nat := l.getD i 0
def swp (l : List Nat) (i j : Nat) : List Nat := (l.set i (gd l j)).set j (gd l i)
theorem gd_eq {l : List Nat} {i : Nat} (h : i < l.length) : l[i]? = some (gd l i) := by simp [gd, h]
theorem gd_mem {l : List Nat} {i : Nat} (h : i < l.length) : gd l i ∈ l := List.mem_of_getElem? (gd_eq h)
theorem swp_length (l : List Nat) (i j : Nat) : (swp l i j).length = l.length := by simp [swp]
theorem gd_set (l : List Nat) (i k x : Nat) (h : i < l.length) : gd (l.set i x) k = if k = i then x else gd l k := by
  unfold gd
  rw [List.getD_eq_getElem?_getD, List.getD_eq_getElem?_getD, List.getElem?_set]
  by_cases e : i = k
  · subst e; simp [h]
  · simp [e, Ne.symm e]
theorem gd_swp {l : List Nat} {i j : Nat} (hi : i < l.length) (hj : j < l.length) (k : Nat) : gd (swp l i j) k = if k = j then gd l i else if k = i then gd l j else gd l k := by
  unfold swp
  rw [gd_set _ _ _ _ (by simpa using hj), gd_set _ _ _ _ hi]
theorem set_perm {l : List Nat} {i : Nat} (h : i < l.length) (x : Nat) : (gd l i :: l.set i x).Perm (x :: l) := by
  induction l generalizing i with
  | nil => simp at h
  | cons a l ih =>
    cases i with
    | zero => simp [gd]; exact List.Perm.swap _ _ _
    | succ i =>
      have h' : i < l.length := by simpa using h
      have e : gd (a :: l) (i + 1) = gd l i := by simp [gd]
      rw [e, List.set_cons_succ]
      exact (List.Perm.swap _ _ _).trans (((ih h').cons a).trans (List.Perm.swap _ _ _))
theorem swp_perm {l : List Nat} {i j : Nat} (hi : i < l.length) (hj : j < l.length) : (swp l i j).Perm l := by
  unfold swp
  by_cases e : i = j
  · subst e
    have h2 : (l.set i (gd l i)).set i (gd l i) = l := by
      apply List.ext_getElem?
      intro k
      by_cases hk : i = k
      · subst hk; rw [List.getElem?_set_self (by simpa using hi), gd_eq hi]
      · rw [List.getElem?_set_ne hk, List.getElem?_set_ne hk]
    rw [h2]
  · have h1 := set_perm hi (gd l j)
    have h2 : (gd (l.set i (gd l j)) j :: (l.set i (gd l j)).set j (gd l i)).Perm (gd l i :: l.set i (gd l j)) := set_perm (by simpa using hj) (gd l i)
    rw [gd_set _ _ _ _ hi, if_neg (Ne.symm e)] at h2
    have h3 := h2.trans h1
    exact (List.perm_cons _).1 h3

/-- All links of the first n places but those that p names are in order. -/
def HeapP (l : List Nat) (n : Nat) : Prop := ∀ i, 0 < i → i < n → gd l ((i - 1) / 2) ≤ gd l i

def upF (l : List Nat) (j : Nat) : List Nat :=
  if h : 0 < j ∧ gd l j < gd l ((j - 1) / 2) then upF (swp l ((j - 1) / 2) j) ((j - 1) / 2) else l
termination_by j
decreasing_by omega

def UpPre (l : List Nat) (j n : Nat) : Prop := (∀ i, 0 < i → i < n → i ≠ j → gd l ((i - 1) / 2) ≤ gd l i) ∧ (∀ i, 0 < i → i < n → (i - 1) / 2 = j → 0 < j → gd l ((j - 1) / 2) ≤ gd l i)
theorem upF_length (l : List Nat) (j : Nat) : (upF l j).length = l.length := by
  induction j using Nat.strongRecOn generalizing l with
  | _ j ih =>
    unfold upF
    split
    · rw [ih _ (by omega), swp_length]
    · rfl
theorem upF_heap {l : List Nat} {j n : Nat} (hn : n ≤ l.length) (hj : j < n) (h : UpPre l j n) : HeapP (upF l j) n ∧ (upF l j).Perm l ∧ ∀ k, n ≤ k → gd (upF l j) k = gd l k := by
  induction j using Nat.strongRecOn generalizing l with
  | _ j ih =>
    unfold upF
    split
    · rename_i hc
      obtain ⟨h0, hlt⟩ := hc
      have hp : (j - 1) / 2 < j := by omega
      have g := gd_swp (l := l) (i := (j - 1) / 2) (j := j) (by omega) (by omega)
      obtain ⟨p, hpe⟩ : ∃ p, p = (j - 1) / 2 := ⟨_, rfl⟩
      rw [← hpe] at g hp hlt ⊢
      have := ih p (by omega) (l := swp l p j) (by rw [swp_length]; omega) (by omega) ⟨?_, ?_⟩
      · refine ⟨this.1, this.2.1.trans (swp_perm (by omega) (by omega)), fun k hk => ?_⟩
        rw [this.2.2 k hk, g, if_neg (by omega), if_neg (by omega)]
      · intro i h1 h2 h3
        rw [g, g]
        by_cases e1 : i = j
        · subst e1
          rw [← hpe, if_pos rfl, if_neg (by omega), if_pos rfl]
          omega
        · rw [if_neg e1, if_neg h3]
          by_cases e2 : (i - 1) / 2 = j
          · rw [if_pos e2]
            have := h.2 i h1 h2 e2 h0
            rw [← hpe] at this; exact this
          · rw [if_neg e2]
            by_cases e3 : (i - 1) / 2 = p
            · rw [if_pos e3]
              have := h.1 i h1 h2 e1
              rw [e3] at this; omega
            · rw [if_neg e3]
              exact h.1 i h1 h2 e1
      · intro i h1 h2 h3 h4
        have hpp := h.1 p h4 (by omega) (by omega)
        rw [g, g, if_neg (by omega), if_neg (by omega)]
        by_cases e1 : i = j
        · rw [if_pos e1]; exact hpp
        · rw [if_neg e1, if_neg (by omega)]
          have := h.1 i h1 h2 e1
          rw [h3] at this
          omega
    · rename_i hc
      refine ⟨fun i h1 h2 => ?_, List.Perm.refl _, fun _ _ => rfl⟩
      by_cases e : i = j
      · subst e; omega
      · exact h.1 i h1 h2 e

def dnJ (l : List Nat) (i n : Nat) : Nat := if 2 * i + 2 < n ∧ gd l (2 * i + 2) < gd l (2 * i + 1) then 2 * i + 2 else 2 * i + 1
def downF (l : List Nat) (i n : Nat) : List Nat × Nat :=
  if h : 2 * i + 1 < n ∧ gd l (dnJ l i n) < gd l i then downF (swp l i (dnJ l i n)) (dnJ l i n) n else (l, i)
termination_by n - i
decreasing_by unfold dnJ; split <;> omega
/-- Push: behind, then up. -/
theorem push_heap {l : List Nat} (h : HeapP l l.length) (x : Nat) : HeapP (upF (l ++ [x]) l.length) (l.length + 1) ∧ (upF (l ++ [x]) l.length).Perm (x :: l) ∧ (upF (l ++ [x]) l.length).length = l.length + 1 := by
  have hg : ∀ k, k < l.length → gd (l ++ [x]) k = gd l k := fun k hk => by simp [gd, List.getD_eq_getElem?_getD, List.getElem?_append_left hk]
  have := upF_heap (l := l ++ [x]) (j := l.length) (n := l.length + 1) (by simp) (by omega) ⟨fun i h0 hn hi => by rw [hg _ (by omega), hg _ (by omega)]; exact h i h0 (by omega), fun i h0 hn hp hj => by omega⟩
  exact ⟨this.1, this.2.1.trans (List.perm_append_singleton _ _), by rw [upF_length]; simp⟩
end Go.Proofs.YtiefgmibgdidpaaGreatDoor
/- Bits of words, in plain numbers: a bit that is set, laid, taken off; which are set, rising. Words below 2^64. -/
namespace Go.Proofs.YtiefgmibgdidpaaGreatDoor
set_option linter.unusedVariables false
def hasB (b : Nat) (j : Int) : Bool := decide (0 ≤ j ∧ j ≤ 63) && b.testBit j.toNat
def mk (j : Int) : Nat := if 0 ≤ j ∧ j ≤ 63 then 2 ^ j.toNat else 0
theorem hasB_in {b : Nat} {j : Int} (h : 0 ≤ j ∧ j ≤ 63) : hasB b j = b.testBit j.toNat := by unfold hasB; rw [decide_eq_true h]; rfl
theorem hasB_out {b : Nat} {j : Int} (h : ¬ (0 ≤ j ∧ j ≤ 63)) : hasB b j = false := by unfold hasB; rw [decide_eq_false h]; rfl
theorem mk_in {j : Int} (h : 0 ≤ j ∧ j ≤ 63) : mk j = 2 ^ j.toNat := if_pos h
theorem mk_out {j : Int} (h : ¬ (0 ≤ j ∧ j ≤ 63)) : mk j = 0 := if_neg h
theorem mk_lt (j : Int) : mk j < 18446744073709551616 := by
  unfold mk; split
  · exact Nat.lt_of_lt_of_le (Nat.pow_lt_pow_right (by decide) (by omega : j.toNat < 64)) (by decide)
  · decide
theorem bit_lt {b k : Nat} (hb : b < 18446744073709551616) (h : b.testBit k = true) : k < 64 := by
  by_cases hk : k < 64
  · exact hk
  · have := Nat.testBit_lt_two_pow (Nat.lt_of_lt_of_le hb (show 18446744073709551616 ≤ 2 ^ k from Nat.le_trans (by decide : 18446744073709551616 ≤ 2 ^ 64) (Nat.pow_le_pow_right (by decide) (by omega))))
    rw [this] at h; cases h
theorem and_mk (b : Nat) (j : Int) : (b &&& mk j != 0) = hasB b j := by
  by_cases h : 0 ≤ j ∧ j ≤ 63
  · rw [mk_in h, hasB_in h]
    by_cases ht : b.testBit j.toNat = true
    · have e : b &&& 2 ^ j.toNat = 2 ^ j.toNat := by
        apply Nat.eq_of_testBit_eq
        intro k
        rw [Nat.testBit_and, Nat.testBit_two_pow]
        by_cases e : j.toNat = k
        · subst e; simp [ht]
        · simp [e]
      rw [ht, e]
      have := Nat.one_le_two_pow (n := j.toNat)
      simp only [bne_iff_ne, ne_eq]; omega
    · have e : b &&& 2 ^ j.toNat = 0 := by
        apply Nat.eq_of_testBit_eq
        intro k
        rw [Nat.testBit_and, Nat.testBit_two_pow]
        by_cases e : j.toNat = k
        · subst e; simp [Bool.not_eq_true _ ▸ ht]
        · simp [e]
      have hf : b.testBit j.toNat = false := by simpa using ht
      rw [hf, e]; rfl
  · rw [mk_out h, hasB_out h]; simp
/-- The places of the bits that are set, below k. -/
def upB (b k : Nat) : List Nat := (List.range k).filter b.testBit
theorem mem_upB {b k x : Nat} : x ∈ upB b k ↔ x < k ∧ b.testBit x = true := by simp [upB]
end Go.Proofs.YtiefgmibgdidpaaGreatDoor
