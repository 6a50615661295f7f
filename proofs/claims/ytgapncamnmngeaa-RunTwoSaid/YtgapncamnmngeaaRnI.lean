/- What a run has done, store by store: what is seen, what has lasted, what is pending in its lines; plain facts, without conditions. -/
import Derived.Test.YtgapncamnmngeaaRnP
import Derived.Test.YtgapncamnmngeaaPCrash
namespace Go.Proofs.Ytgapncamnmngeaa
open Go.RowKit Go.Shelf
set_option linter.unusedVariables false

/-- The words of a memory of noughts behind some stores. -/
def vw (n : Nat) (l : List (Nat × Nat)) : List Nat := lastW (List.replicate (8 * n) 0) l
theorem vw_length (n : Nat) (l : List (Nat × Nat)) : (vw n l).length = 8 * n := by unfold vw; rw [lastW_length, List.length_replicate]
theorem lastW_app (las : List Nat) (a b : List (Nat × Nat)) : lastW las (a ++ b) = lastW (lastW las a) b := by unfold lastW; rw [List.foldl_append]
theorem gd_eq {a b : List Nat} {k : Nat} (h : a[k]? = b[k]?) : a.getD k 0 = b.getD k 0 := by rw [List.getD_eq_getElem?_getD, List.getD_eq_getElem?_getD, h]
theorem gd_opt {a b : List Nat} {k : Nat} (hl : a.length = b.length) (h : a.getD k 0 = b.getD k 0) : a[k]? = b[k]? := by
  by_cases hk : k < a.length
  · rw [List.getElem?_eq_getElem hk, List.getElem?_eq_getElem (by omega)]
    rw [getD_at hk, getD_at (show k < b.length by omega)] at h
    rw [h]
  · rw [List.getElem?_eq_none (by omega), List.getElem?_eq_none (by omega)]
theorem lastW_gd {las las' : List Nat} (ps : List (Nat × Nat)) {k : Nat} (hl : las.length = las'.length) (h : las.getD k 0 = las'.getD k 0) : (lastW las ps).getD k 0 = (lastW las' ps).getD k 0 := gd_eq (lastW_local ps hl (gd_opt hl h))
theorem lastW_off {las : List Nat} {ps : List (Nat × Nat)} {k : Nat} (h : ∀ p ∈ ps, p.1 / 8 ≠ k) : (lastW las ps).getD k 0 = las.getD k 0 := gd_eq (lastW_far h)
theorem set_gd (l : List Nat) (i v k : Nat) : (l.set i v).getD k 0 = if i = k ∧ k < l.length then v else l.getD k 0 := by
  rw [List.getD_eq_getElem?_getD, List.getElem?_set, List.getD_eq_getElem?_getD]
  by_cases e : i = k
  · subst e
    by_cases h : i < l.length
    · simp [h]
    · simp [h]
  · simp [e]
theorem vw_snoc (n : Nat) (l : List (Nat × Nat)) (p : Nat × Nat) (k : Nat) : (vw n (l ++ [p])).getD k 0 = if p.1 / 8 = k ∧ k < 8 * n then p.2 else (vw n l).getD k 0 := by
  unfold vw
  rw [lastW_snoc, set_gd, lastW_length, List.length_replicate]
theorem take_next {l : List (Nat × Nat)} {m : Nat} {p : Nat × Nat} (h : l[m]? = some p) : l.take (m + 1) = l.take m ++ [p] := by
  rw [List.take_add_one, h]
  rfl
/-- Stores between t and m that all go elsewhere don't count. -/
theorem vw_far {n : Nat} {l : List (Nat × Nat)} {t m k : Nat} (htm : t ≤ m) (h : ∀ i, t ≤ i → i < m → ∀ p, l[i]? = some p → p.1 / 8 ≠ k) : (vw n (l.take m)).getD k 0 = (vw n (l.take t)).getD k 0 := by
  have e : l.take m = l.take t ++ (l.take m).drop t := by
    conv => lhs; rw [← List.take_append_drop t (l.take m)]
    rw [List.take_take, Nat.min_eq_left htm]
  rw [e]
  unfold vw
  rw [lastW_app]
  refine lastW_off fun p hp => ?_
  obtain ⟨i, hi⟩ := List.getElem?_of_mem hp
  rw [List.getElem?_drop] at hi
  rw [List.getElem?_take] at hi
  split at hi
  · exact h (t + i) (by omega) (by omega) p hi
  · cases hi

/-- What a run of the stores l in the lines P has done: m of them were stored, t have lasted, those from b on are its group's, in the line L. -/
structure Inv (P : Nat → Prop) (n : Nat) (l : List (Nat × Nat)) (s : St) (r : RS) (t m L b : Nat) : Prop where
  hb : b ≤ t
  ht : t ≤ m
  hm : m ≤ l.length
  left : r.left = l.drop m
  view : ∀ k, P (k / 8) → s.view.getD k 0 = (vw n (l.take m)).getD k 0
  las : ∀ k, P (k / 8) → s.lasted.getD k 0 = (vw n (l.take t)).getD k 0
  pen : ∀ j, P j → s.pend.getD j [] = if j = L then (l.take m).drop t else []
  cur : ∀ i, b ≤ i → i < m → ∀ p, l[i]? = some p → p.1 / 64 = L
  mk0 : ∀ j c', P j → s.mm j c' ≠ 0 → c' = r.c.toNat ∧ r.ph = .fe ∧ j = L
  mk1 : r.ph = .fe → s.mm L r.c.toNat = m - t
  fl : r.ph = .fl ∨ r.ph = .fe → r.line = 64 * L ∧ P L ∧ L < n
  st : r.ph = .st → b < m → ∃ p, l[m]? = some p ∧ p.1 / 64 = L
  en : r.ph = .en → l = []
  dn : r.done = true → m = l.length ∧ t = m
  lines : ∀ p ∈ l, P (p.1 / 64) ∧ p.1 / 64 < n
  lv : s.view.length = 8 * n
  ll : s.lasted.length = 8 * n
  lp : s.pend.length = n

theorem zero_inv (P : Nat → Prop) (n : Nat) (l : List (Nat × Nat)) (c : Int) (hl : ∀ p ∈ l, P (p.1 / 64) ∧ p.1 / 64 < n) : Inv P n l (St.zero n) (RS.new c l) 0 0 0 0 where
  hb := Nat.le_refl _
  ht := Nat.le_refl _
  hm := Nat.zero_le _
  left := rfl
  view := fun k _ => rfl
  las := fun k _ => rfl
  pen := fun j _ => by
    show (List.replicate n ([] : List (Nat × Nat))).getD j [] = _
    rw [List.getD_eq_getElem?_getD, List.getElem?_replicate]
    split <;> simp
  cur := fun i _ h => by omega
  mk0 := fun j c' _ h => absurd rfl h
  mk1 := fun h => by
    have h' : (if l = [] then Ph.en else Ph.st) = .fe := h
    split at h' <;> cases h'
  fl := fun h => by
    have h' : (if l = [] then Ph.en else Ph.st) = .fl ∨ (if l = [] then Ph.en else Ph.st) = .fe := h
    split at h' <;> rcases h' with h' | h' <;> cases h'
  st := fun _ h => by omega
  en := fun h => by
    have h' : (if l = [] then Ph.en else Ph.st) = .en := h
    split at h'
    · assumption
    · cases h'
  dn := fun h => by cases h
  lines := hl
  lv := List.length_replicate
  ll := List.length_replicate
  lp := List.length_replicate
end Go.Proofs.Ytgapncamnmngeaa
