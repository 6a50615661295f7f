/- Texts of this claim, packed: 7Path. -/
import Derived.Test.YtgclbeagifoifaaPc05
/- Who waits on whom: paths, their ends and circles; plain facts, without conditions. -/
namespace Go.Proofs.Ytgclbeagifoifaa
open Go.RowKit
set_option linter.unusedVariables false
/-- On whom a client waits. -/
def nx (s : Lk) (c : Nat) : Option Nat := s.hm (s.wt c)
/-- So many steps along. -/
def it (s : Lk) (c : Nat) : Nat → Option Nat
  | 0 => some c
  | k + 1 => (it s c k).bind (nx s)
theorem it_add (s : Lk) (c i j : Nat) : it s c (i + j) = (it s c i).bind fun d => it s d j := by
  induction j with
  | zero => cases h : it s c i <;> simp [it, h]
  | succ j ih =>
    rw [show i + (j + 1) = (i + j) + 1 from by omega, it, ih]
    cases it s c i <;> rfl
theorem it_step {s : Lk} {c d : Nat} (h : nx s c = some d) (i : Nat) : it s c (i + 1) = it s d i := by
  rw [show i + 1 = 1 + i from by omega, it_add]
  have : it s c 1 = some d := by simp [it, h]
  rw [this]
  rfl
theorem it_mul {s : Lk} {x m : Nat} (h : it s x m = some x) (j : Nat) : it s x (m * j) = some x := by
  induction j with
  | zero => rfl
  | succ j ih =>
    rw [Nat.mul_succ, it_add, ih]
    exact h
theorem it_end {s : Lk} {r : Nat} (h : nx s r = none) {i : Nat} (hi : 0 < i) : it s r i = none := by
  obtain ⟨k, rfl⟩ : ∃ k, i = 1 + k := ⟨i - 1, by omega⟩
  rw [it_add]
  have : it s r 1 = none := by simp [it, h]
  rw [this]
  rfl
theorem it_from {s : Lk} {c x : Nat} {i j : Nat} (h : it s c i = some x) (hij : i ≤ j) : it s c j = it s x (j - i) := by
  obtain ⟨k, rfl⟩ : ∃ k, j = i + k := ⟨j - i, by omega⟩
  rw [it_add, h]
  simp
/-- On whom c's going on hangs. -/
def EndsAt (s : Lk) (c r : Nat) : Prop := ∃ k, it s c k = some r ∧ nx s r = none
def Orb (s : Lk) (x y : Nat) : Prop := ∃ i, it s x i = some y
def Circ (s : Lk) (x r : Nat) : Prop := (∃ m, 0 < m ∧ it s x m = some x) ∧ Orb s x r ∧ ∀ y, Orb s x y → r ≤ y
def RunsIs (s : Lk) (c r : Nat) : Prop := EndsAt s c r ∨ ∃ x, Orb s c x ∧ Circ s x r
theorem orb_back {s : Lk} {x y m : Nat} (hm : 0 < m) (hx : it s x m = some x) (h : Orb s x y) : Orb s y x := by
  obtain ⟨i, hi⟩ := h
  have h1 : i ≤ m * (i + 1) := by
    have : m * (i + 1) ≥ 1 * (i + 1) := Nat.mul_le_mul_right _ hm
    omega
  have := it_from hi h1
  rw [it_mul hx] at this
  exact ⟨_, this.symm⟩
theorem orb_trans {s : Lk} {x y z : Nat} (h : Orb s x y) (h2 : Orb s y z) : Orb s x z := by
  obtain ⟨i, hi⟩ := h
  obtain ⟨j, hj⟩ := h2
  exact ⟨i + j, by rw [it_add, hi]; exact hj⟩
theorem orb_line {s : Lk} {c x y : Nat} (h : Orb s c x) (h2 : Orb s c y) : Orb s x y ∨ Orb s y x := by
  obtain ⟨i, hi⟩ := h
  obtain ⟨j, hj⟩ := h2
  by_cases e : i ≤ j
  · exact .inl ⟨j - i, by rw [← it_from hi e]; exact hj⟩
  · exact .inr ⟨i - j, by rw [← it_from hj (by omega)]; exact hi⟩
theorem runs_one {s : Lk} {c r r' : Nat} (h : RunsIs s c r) (h' : RunsIs s c r') : r = r' := by
  have hec : ∀ a b, EndsAt s c a → ¬ ∃ x, Orb s c x ∧ Circ s x b := by
    rintro a b ⟨k, hk, hn⟩ ⟨x, ⟨i, hi⟩, ⟨m, hm, hx⟩, _⟩
    have h1 : it s c (i + m * (k + 1)) = some x := by rw [it_add, hi]; exact it_mul hx _
    have h2 : k < i + m * (k + 1) := by
      have : m * (k + 1) ≥ 1 * (k + 1) := Nat.mul_le_mul_right _ hm
      omega
    rw [it_from hk (by omega), it_end hn (by omega)] at h1
    cases h1
  rcases h with h | h <;> rcases h' with h' | h'
  · obtain ⟨k, hk, hn⟩ := h
    obtain ⟨k', hk', hn'⟩ := h'
    have hle : ∀ (a b x y : Nat), it s c a = some x → nx s x = none → it s c b = some y → b ≤ a := by
      intro a b x y ha hx hb
      by_cases e : b ≤ a
      · exact e
      · rw [it_from ha (by omega), it_end hx (by omega)] at hb
        cases hb
    have e1 := hle _ _ _ _ hk hn hk'
    have e2 := hle _ _ _ _ hk' hn' hk
    obtain rfl : k = k' := by omega
    rw [hk] at hk'
    cases hk'
    rfl
  · exact absurd h' (hec _ _ h)
  · exact absurd h (hec _ _ h')
  · obtain ⟨x, hx, ⟨m, hm, hmx⟩, ho, hl⟩ := h
    obtain ⟨x', hx', ⟨m', hm', hmx'⟩, ho', hl'⟩ := h'
    have both : Orb s x x' ∧ Orb s x' x := by
      rcases orb_line hx hx' with e | e
      · exact ⟨e, orb_back hm hmx e⟩
      · exact ⟨orb_back hm' hmx' e, e⟩
    have e1 := hl r' (orb_trans both.1 ho')
    have e2 := hl' r (orb_trans both.2 ho)
    omega
theorem nx_lt {s : Lk} (h : s.Ok) {c d : Nat} (hd : nx s c = some d) : d < s.n := (h.hc _ _ hd).1
/-- All that lies on a circle has been met by the first return. -/
theorem circ_all {s : Lk} {c j : Nat} (h0 : 0 < j) (hj : it s c j = some c) {y : Nat} (h : Orb s c y) : ∃ i, i < j ∧ it s c i = some y := by
  obtain ⟨i, hi⟩ := h
  refine ⟨i % j, Nat.mod_lt _ h0, ?_⟩
  have e : i = j * (i / j) + i % j := (Nat.div_add_mod i j).symm
  rw [e, it_add, it_mul hj] at hi
  exact hi
/-- Clients that were met. -/
structure Met (s : Lk) (c0 : Nat) (V : List Nat) (cur : Nat) : Prop where
  nd : V.Nodup
  lt : ∀ d ∈ V, d < s.n
  new : cur ∉ V
  cl : cur < s.n
  from_ : Orb s c0 cur
  to : ∀ d ∈ V, Orb s d cur
theorem Met.few {s : Lk} {c0 cur : Nat} {V : List Nat} (h : Met s c0 V cur) : V.length < s.n := by
  have h1 : (cur :: V).Nodup := List.nodup_cons.2 ⟨h.new, h.nd⟩
  have h2 : cur :: V ⊆ List.range s.n := by
    intro d hd
    rw [List.mem_range]
    rcases List.mem_cons.1 hd with rfl | hd
    · exact h.cl
    · exact h.lt d hd
  have h3 := List.Nodup.length_le_of_subset h1 h2
  have : V.length + 1 ≤ s.n := by simpa using h3
  omega
theorem Met.step {s : Lk} {c0 cur nxt : Nat} {V : List Nat} (h : Met s c0 V cur) (ok : s.Ok) (hn : nx s cur = some nxt) (hm : nxt ∉ cur :: V) : Met s c0 (cur :: V) nxt := by
  have h1 : Orb s cur nxt := ⟨1, by simp [it, hn]⟩
  refine ⟨List.nodup_cons.2 ⟨h.new, h.nd⟩, ?_, hm, nx_lt ok hn, orb_trans h.from_ h1, ?_⟩
  · intro d hd
    rcases List.mem_cons.1 hd with rfl | hd
    · exact h.cl
    · exact h.lt d hd
  · intro d hd
    rcases List.mem_cons.1 hd with rfl | hd
    · exact h1
    · exact orb_trans (h.to d hd) h1
theorem Met.circ {s : Lk} {c0 cur nxt : Nat} {V : List Nat} (h : Met s c0 V cur) (hn : nx s cur = some nxt) (hm : nxt ∈ cur :: V) : ∃ m, 0 < m ∧ it s cur m = some cur := by
  have h1 : Orb s nxt cur := by
    rcases List.mem_cons.1 hm with rfl | hd
    · exact ⟨0, rfl⟩
    · exact h.to _ hd
  obtain ⟨i, hi⟩ := h1
  exact ⟨i + 1, by omega, by rw [it_step hn]; exact hi⟩
end Go.Proofs.Ytgclbeagifoifaa
