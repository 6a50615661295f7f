/- What a fence makes of a state, line by line; plain facts, for states that a memory can have. -/
import Derived.Test.YtedefebdfcgjeaaPLast
namespace Go.Proofs.Ytedefebdfcgjeaa
set_option linter.unusedVariables false
theorem lastW_local {las las' : List Nat} (ps : List (Nat × Nat)) {k : Nat} (hl : las.length = las'.length) (h : las[k]? = las'[k]?) : (lastW las ps)[k]? = (lastW las' ps)[k]? := by
  induction ps generalizing las las' with
  | nil => exact h
  | cons p t ih =>
    show (lastW (las.set (p.1 / 8) p.2) t)[k]? = (lastW (las'.set (p.1 / 8) p.2) t)[k]?
    refine ih (by simpa using hl) ?_
    rw [List.getElem?_set, List.getElem?_set, hl, h]
theorem lastW_far {las : List Nat} {ps : List (Nat × Nat)} {k : Nat} (h : ∀ p ∈ ps, p.1 / 8 ≠ k) : (lastW las ps)[k]? = las[k]? := by
  induction ps generalizing las with
  | nil => rfl
  | cons p t ih =>
    show (lastW (las.set (p.1 / 8) p.2) t)[k]? = _
    rw [ih (fun q hq => h q (by simp [hq])), List.getElem?_set_ne (h p (by simp))]
theorem lastW_fits {las : List Nat} {ps : List (Nat × Nat)} (h1 : ∀ x ∈ las, x < 18446744073709551616) (h2 : ∀ p ∈ ps, p.2 < 18446744073709551616) : ∀ x ∈ lastW las ps, x < 18446744073709551616 := by
  induction ps generalizing las with
  | nil => exact h1
  | cons p t ih =>
    refine ih (las := las.set (p.1 / 8) p.2) ?_ (fun q hq => h2 q (by simp [hq]))
    intro x hx
    rcases List.mem_or_eq_of_mem_set hx with hx | rfl
    · exact h1 x hx
    · exact h2 p (by simp)

/-- The state behind a fence of those lines that V says. -/
def St.fenV (s : St) (c : Nat) (V : Nat → Bool) : St :=
  { s with
    lasted := s.lasted.mapIdx fun k x => if V (k / 8) = true then (lastW s.lasted ((s.pend.getD (k / 8) []).take (s.mm (k / 8) c))).getD k 0 else x
    pend := s.pend.mapIdx fun j l => if V j = true then l.drop (s.mm j c) else l
    mm := fun j => if V j = true then (fun k => s.mm j k - s.mm j c) else s.mm j }
theorem st_ext {s t : St} (h1 : s.nl = t.nl) (h2 : s.lasted = t.lasted) (h3 : s.view = t.view) (h4 : s.pend = t.pend) (h5 : s.mm = t.mm) (h6 : s.ld = t.ld) (h7 : s.st = t.st) (h8 : s.fl = t.fl) (h9 : s.fe = t.fe) : s = t := by
  cases s
  cases t
  dsimp only at *
  subst h1 h2 h3 h4 h5 h6 h7 h8 h9
  rfl
theorem getD_at {α : Type} {l : List α} {i : Nat} {d : α} (h : i < l.length) : l.getD i d = l[i] := by rw [List.getD_eq_getElem?_getD, List.getElem?_eq_getElem h]; rfl
theorem fenV_none (s : St) (c : Nat) : s.fenV c (fun _ => false) = s := by
  refine st_ext rfl ?_ rfl ?_ ?_ rfl rfl rfl rfl
  · apply List.ext_getElem?
    intro i
    simp [St.fenV]
  · apply List.ext_getElem?
    intro i
    simp [St.fenV]
  · funext j
    simp [St.fenV]
theorem fenV_step {s : St} (ok : s.Ok) (hp : s.pend.length = s.nl) {c j : Nat} {V : Nat → Bool} (hj : j < s.nl) (hV : V j = false) :
    (s.fenV c V).last j (s.mm j c) = s.fenV c (fun i => V i || i == j) := by
  have hpj : (s.fenV c V).pend.getD j [] = s.pend.getD j [] := by
    simp [St.fenV, List.getD_eq_getElem?_getD, List.getElem?_mapIdx, hV]
  refine st_ext rfl ?_ rfl ?_ ?_ rfl rfl rfl rfl
  · show lastW (s.fenV c V).lasted (((s.fenV c V).pend.getD j []).take (s.mm j c)) = _
    rw [hpj]
    apply List.ext_getElem?
    intro k
    by_cases hk : k / 8 = j
    · have h1 : (s.fenV c V).lasted[k]? = s.lasted[k]? := by
        simp [St.fenV, List.getElem?_mapIdx, hk, hV]
      rw [lastW_local _ (by simp [St.fenV]) h1]
      simp only [St.fenV, List.getElem?_mapIdx, hk, beq_self_eq_true, Bool.or_true, if_true]
      generalize (s.pend.getD j []).take (s.mm j c) = PS
      have hlen := lastW_length s.lasted PS
      by_cases hl : k < s.lasted.length
      · rw [List.getElem?_eq_getElem hl, List.getElem?_eq_getElem (show k < (lastW s.lasted PS).length by omega)]
        simp only [Option.map_some]
        rw [getD_at (show k < (lastW s.lasted PS).length by omega)]
      · rw [List.getElem?_eq_none (show s.lasted.length ≤ k by omega), List.getElem?_eq_none (show (lastW s.lasted PS).length ≤ k by omega)]
        rfl
    · rw [lastW_far]
      · have e : (k / 8 == j) = false := by simpa using hk
        simp only [St.fenV, List.getElem?_mapIdx, e, Bool.or_false]
      · intro p hp'
        have hm := List.mem_of_mem_take hp'
        rw [getD_at (by omega)] at hm
        have := (ok.put j _ (List.getElem?_eq_getElem (by omega)) p hm).2.1
        omega
  · show (s.fenV c V).pend.set j (((s.fenV c V).pend.getD j []).drop (s.mm j c)) = _
    rw [hpj]
    apply List.ext_getElem?
    intro k
    rw [List.getElem?_set]
    by_cases hk : j = k
    · subst hk
      rw [if_pos rfl, if_pos (by simp [St.fenV]; omega)]
      simp only [St.fenV, List.getElem?_mapIdx, beq_self_eq_true, Bool.or_true, if_true]
      rw [List.getElem?_eq_getElem (by omega), getD_at (by omega)]
      rfl
    · rw [if_neg hk]
      have e : (k == j) = false := by simpa using fun x => hk x.symm
      simp only [St.fenV, List.getElem?_mapIdx, e, Bool.or_false]
  · funext i
    show umk (s.fenV c V).mm j (s.mm j c) i = _
    by_cases hi : i = j
    · subst hi
      funext q
      rw [umk_at]
      simp [St.fenV, hV]
    · funext q
      rw [umk_far hi]
      have e : (i == j) = false := by simpa using hi
      show (if V i = true then (fun k => s.mm i k - s.mm i c) else s.mm i) q = (if (V i || i == j) = true then (fun k => s.mm i k - s.mm i c) else s.mm i) q
      rw [e, Bool.or_false]
theorem fenV_ok {s : St} (ok : s.Ok) (c : Nat) (V : Nat → Bool) : (s.fenV c V).Ok := by
  refine ⟨?_, ok.vie, ?_, ?_, ?_, ok.num⟩
  · intro x hx
    simp only [St.fenV, List.mem_mapIdx] at hx
    obtain ⟨k, hk, rfl⟩ := hx
    split
    · rw [getD_at (by rw [lastW_length]; exact hk)]
      refine lastW_fits ok.las ?_ _ (List.getElem_mem _)
      intro p hp
      have hm := List.mem_of_mem_take hp
      by_cases hl : k / 8 < s.pend.length
      · rw [getD_at hl] at hm
        exact (ok.put _ _ (List.getElem?_eq_getElem hl) p hm).2.2
      · rw [List.getD_eq_getElem?_getD, List.getElem?_eq_none (by omega)] at hm
        cases hm
    · exact ok.las _ (List.getElem_mem hk)
  · intro j l hl p hp
    simp only [St.fenV, List.getElem?_mapIdx] at hl
    cases e : s.pend[j]? with
    | none => rw [e] at hl; cases hl
    | some l0 =>
      rw [e] at hl
      simp only [Option.map_some, Option.some.injEq] at hl
      subst hl
      refine ok.put j l0 e p ?_
      split at hp
      · exact List.mem_of_mem_drop hp
      · exact hp
  · intro l hl
    simp only [St.fenV, List.mem_mapIdx] at hl
    obtain ⟨k, hk, rfl⟩ := hl
    have := ok.few _ (List.getElem_mem hk)
    split
    · rw [List.length_drop]; omega
    · exact this
  · intro j q
    have h1 := ok.mks j q
    by_cases hl : j < s.pend.length
    · rw [getD_at hl] at h1
      rw [getD_at (by simpa [St.fenV] using hl)]
      simp only [St.fenV, List.getElem_mapIdx]
      split
      · rw [List.length_drop]
        show s.mm j q - s.mm j c ≤ _
        omega
      · exact h1
    · rw [List.getD_eq_getElem?_getD, List.getElem?_eq_none (by omega)] at h1
      have h1' : s.mm j q = 0 := by simpa using h1
      simp only [St.fenV]
      split
      · show s.mm j q - s.mm j c ≤ _
        omega
      · omega
theorem fenV_all {s : St} (ok : s.Ok) (hp : s.pend.length = s.nl) (hl : s.lasted.length = 8 * s.nl) {c : Nat} {V : Nat → Bool} (h : ∀ j, j < s.nl → V j = false → s.mm j c = 0) : s.fenV c V = s.fenV c (fun _ => true) := by
  refine st_ext rfl ?_ rfl ?_ ?_ rfl rfl rfl rfl
  · apply List.ext_getElem
    · simp [St.fenV]
    · intro k h1 h2
      have hk : k < s.lasted.length := by simpa [St.fenV] using h1
      simp only [St.fenV, List.getElem_mapIdx, if_true]
      cases hv : V (k / 8)
      · simp only [Bool.false_eq_true, if_false]
        rw [h (k / 8) (by omega) hv, List.take_zero]
        show _ = (lastW s.lasted []).getD k 0
        rw [getD_at (by rw [lastW_length]; exact hk)]
        rfl
      · simp
  · apply List.ext_getElem
    · simp [St.fenV]
    · intro k h1 h2
      have hk : k < s.pend.length := by simpa [St.fenV] using h1
      simp only [St.fenV, List.getElem_mapIdx, if_true]
      cases hv : V k
      · simp only [Bool.false_eq_true, if_false]
        rw [h k (by omega) hv, List.drop_zero]
      · simp
  · funext j q
    simp only [St.fenV, if_true]
    cases hv : V j
    · simp only [Bool.false_eq_true, if_false]
      by_cases hj : j < s.nl
      · rw [h j hj hv]; omega
      · have h1 := ok.mks j q
        rw [List.getD_eq_getElem?_getD, List.getElem?_eq_none (by omega)] at h1
        have h1' : s.mm j q = 0 := by simpa using h1
        omega
    · simp
/-- A fence: the state behind it. -/
def St.fence (s : St) (c : Nat) : St := { s with fe := s.fe + 1 }.fenV c (fun _ => true)
end Go.Proofs.Ytedefebdfcgjeaa
