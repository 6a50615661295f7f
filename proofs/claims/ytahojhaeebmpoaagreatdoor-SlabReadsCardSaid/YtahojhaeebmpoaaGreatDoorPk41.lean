/- Texts of this claim, packed: R6Rel, R6Rm, R6Ini. -/
import Derived.Test.YtahojhaeebmpoaaGreatDoorPk37
import Derived.Test.YtahojhaeebmpoaaGreatDoorPk29
import Derived.Test.YtahojhaeebmpoaaGreatDoorPk39
import Derived.Test.YtahojhaeebmpoaaGreatDoorPk34
import Derived.Test.YtahojhaeebmpoaaGreatDoorPk40
/- The program's slabs and the document's list of blocks say the same: plain; those in use, rising, are the same list. -/
namespace Go.Proofs.YtahojhaeebmpoaaGreatDoor
open Go.RowKit
set_option linter.unusedVariables false
theorem sorted_ext : ∀ {l m : List Nat}, l.Pairwise (· < ·) → m.Pairwise (· < ·) → (∀ x, x ∈ l ↔ x ∈ m) → l = m
  | [], [], _, _, _ => rfl
  | [], b :: m, _, _, h => absurd ((h b).2 (by simp)) (by simp)
  | a :: l, [], _, _, h => absurd ((h a).1 (by simp)) (by simp)
  | a :: l, b :: m, hl, hm, h => by
    have hl1 := List.pairwise_cons.1 hl
    have hm1 := List.pairwise_cons.1 hm
    have hab : a = b := by
      have h1 := (h a).1 (by simp)
      have h2 := (h b).2 (by simp)
      rcases List.mem_cons.1 h1 with h1 | h1
      · exact h1
      · rcases List.mem_cons.1 h2 with h2 | h2
        · exact h2.symm
        · have := hl1.1 b h2
          have := hm1.1 a h1
          omega
    subst hab
    rw [sorted_ext hl1.2 hm1.2 fun x => ?_]
    have hx := h x
    constructor
    · intro q
      rcases List.mem_cons.1 (hx.1 (by simp [q])) with e | e
      · have := hl1.1 x q; omega
      · exact e
    · intro q
      rcases List.mem_cons.1 (hx.2 (by simp [q])) with e | e
      · have := hm1.1 x q; omega
      · exact e
/-- Those in use by the document's list, rising. -/
def usedR (L : List (Nat × Nat)) : List Nat := L.foldl (fun o p => if uN p.2 = true then insN o p.1 else o) []
theorem usedR_snoc (L : List (Nat × Nat)) (p : Nat × Nat) : usedR (L ++ [p]) = if uN p.2 = true then insN (usedR L) p.1 else usedR L := by simp [usedR]
theorem usedR_mem (L : List (Nat × Nat)) : ∀ a, a ∈ usedR L ↔ ∃ p ∈ L, uN p.2 = true ∧ p.1 = a := by
  have key : ∀ n, n ≤ L.length → ∀ a, a ∈ usedR (L.take n) ↔ ∃ p ∈ L.take n, uN p.2 = true ∧ p.1 = a := by
    intro n
    induction n with
    | zero => intro _ a; simp [usedR]
    | succ n ih =>
      intro hn a
      have hi := ih (by omega) a
      rw [List.take_succ_eq_append_getElem (by omega), usedR_snoc]
      generalize L.take n = T at hi ⊢
      generalize L[n] = z
      split
      · rename_i hu
        rw [insN_mem, hi]
        constructor
        · rintro (rfl | ⟨p, hp, h1, h2⟩)
          · exact ⟨_, by simp, hu, rfl⟩
          · exact ⟨p, by simp [hp], h1, h2⟩
        · rintro ⟨p, hp, h1, h2⟩
          rcases List.mem_append.1 hp with hp | hp
          · exact .inr ⟨p, hp, h1, h2⟩
          · have : p = z := by simpa using hp
            exact .inl (this ▸ h2.symm)
      · rename_i hu
        rw [hi]
        constructor
        · rintro ⟨p, hp, h1, h2⟩
          exact ⟨p, by simp [hp], h1, h2⟩
        · rintro ⟨p, hp, h1, h2⟩
          rcases List.mem_append.1 hp with hp | hp
          · exact ⟨p, hp, h1, h2⟩
          · have : p = z := by simpa using hp
            exact absurd (this ▸ h1) hu
  have := key L.length (Nat.le_refl _)
  rwa [List.take_length] at this
theorem usedR_sorted {L : List (Nat × Nat)} (hn : (L.map Prod.fst).Nodup) : (usedR L).Pairwise (· < ·) := by
  have key : ∀ n, n ≤ L.length → (usedR (L.take n)).Pairwise (· < ·) := by
    intro n
    induction n with
    | zero => intro _; simp [usedR]
    | succ n ih =>
      intro hl
      rw [List.take_succ_eq_append_getElem (by omega), usedR_snoc]
      split
      · refine insN_sorted (ih (by omega)) ?_
        intro hm
        obtain ⟨p, hp, _, h2⟩ := (usedR_mem (L.take n) _).1 hm
        obtain ⟨i, hi, rfl⟩ := List.getElem_of_mem hp
        rw [List.getElem_take] at h2
        have hin : i < n := by simp at hi; omega
        have := (List.pairwise_iff_getElem.1 hn) i n (by simp; omega) (by simp; omega) hin
        simp at this
        exact this h2
      · exact ih (by omega)
  have := key L.length (Nat.le_refl _)
  rwa [List.take_length] at this
/-- The document's list says what the program's slabs say. -/
structure W6Is (hs : List Hd) (cls : List Nat) (L : List (Nat × Nat)) : Prop where
  cls : cls = hs.map Hd.cls
  nd : (L.map Prod.fst).Nodup
  nz : ∀ p ∈ L, p.2 ≠ 0
  at_ : ∀ a v, isAt hs a v → isL L a = v
theorem isL_mem {L : List (Nat × Nat)} (hn : (L.map Prod.fst).Nodup) {p : Nat × Nat} (hp : p ∈ L) : isL L p.1 = p.2 := by
  obtain ⟨i, hi, rfl⟩ := List.getElem_of_mem hp
  refine isL_at (i := i) (fun t q ht hq he => ?_) (List.getElem?_eq_getElem hi) rfl
  obtain ⟨h1, h2⟩ := List.getElem?_eq_some_iff.1 hq
  have := (List.pairwise_iff_getElem.1 hn) t i (by simpa using h1) (by simpa using hi) ht
  simp at this
  exact this (by rw [h2]; exact he)
theorem isL_pos {L : List (Nat × Nat)} {a : Nat} (h : isL L a ≠ 0) : ∃ p ∈ L, p.1 = a ∧ p.2 = isL L a := by
  induction L with
  | nil => exact absurd rfl h
  | cons q t ih =>
    unfold isL at h ⊢
    split at h
    · rename_i e
      exact ⟨q, by simp, e, by rw [if_pos e]⟩
    · rename_i e
      obtain ⟨p, hp, h1, h2⟩ := ih h
      exact ⟨p, by simp [hp], h1, by rw [if_neg e]; exact h2⟩
theorem rowU_mem {x : Hd} {a : Nat} : a ∈ rowU x x.bl.length ↔ ∃ j v, x.bl[j]? = some v ∧ uN v = true ∧ adr x.no x.cls j = a := by
  unfold rowU
  simp only [List.mem_map, List.mem_filter, List.mem_range]
  constructor
  · rintro ⟨j, ⟨hj, hu⟩, rfl⟩
    refine ⟨j, x.bl[j], List.getElem?_eq_getElem hj, ?_, rfl⟩
    rwa [List.getD_eq_getElem?_getD, List.getElem?_eq_getElem hj] at hu
  · rintro ⟨j, v, hv, hu, rfl⟩
    obtain ⟨hj, he⟩ := List.getElem?_eq_some_iff.1 hv
    exact ⟨j, ⟨hj, by rw [List.getD_eq_getElem?_getD, hv]; exact hu⟩, rfl⟩
theorem usedL_mem {hs : List Hd} {a : Nat} : a ∈ usedL hs ↔ ∃ (i : Nat) (x : Hd) (j v : Nat), hs[i]? = some x ∧ x.bl[j]? = some v ∧ uN v = true ∧ adr x.no x.cls j = a := by
  unfold usedL
  rw [List.mem_flatMap]
  constructor
  · rintro ⟨x, hx, ha⟩
    obtain ⟨i, hi⟩ := List.mem_iff_getElem?.1 hx
    obtain ⟨j, v, h1, h2, h3⟩ := rowU_mem.1 ha
    exact ⟨i, x, j, v, hi, h1, h2, h3⟩
  · rintro ⟨i, x, j, v, hi, h1, h2, h3⟩
    exact ⟨x, List.mem_of_getElem? hi, rowU_mem.2 ⟨j, v, h1, h2, h3⟩⟩
theorem usedL_sorted {hs : List Hd} (ok : HsOk hs) (hm : hs.length ≤ 64) : (usedL hs).Pairwise (· < ·) := by
  unfold usedL
  rw [List.pairwise_flatMap]
  refine ⟨fun x hx => ?_, ?_⟩
  · obtain ⟨i, hi⟩ := List.mem_iff_getElem?.1 hx
    unfold rowU
    rw [List.pairwise_map]
    refine List.Pairwise.imp_of_mem ?_ (List.Pairwise.filter _ (List.pairwise_lt_range (n := x.bl.length)))
    intro j j' hj hj' hlt
    have hj1 := List.mem_range.1 (List.mem_filter.1 hj).1
    have hj2 := List.mem_range.1 (List.mem_filter.1 hj').1
    exact found_lt ok hm ⟨x, hi, hj1, rfl⟩ ⟨x, hi, hj2, rfl⟩ (.inr ⟨rfl, hlt⟩)
  · rw [List.pairwise_iff_getElem]
    intro i i' hi hi' hlt a ha b hb
    obtain ⟨j, v, h1, _, h3⟩ := rowU_mem.1 ha
    obtain ⟨j', v', h1', _, h3'⟩ := rowU_mem.1 hb
    have hj := (List.getElem?_eq_some_iff.1 h1).1
    have hj' := (List.getElem?_eq_some_iff.1 h1').1
    exact found_lt ok hm ⟨_, List.getElem?_eq_getElem hi, hj, h3⟩ ⟨_, List.getElem?_eq_getElem hi', hj', h3'⟩ (.inl hlt)
theorem isAt_some (hs : List Hd) (a : Nat) : ∃ v, isAt hs a v := by
  by_cases h : ∃ i j, Found hs a i j
  · obtain ⟨i, j, x, hx, hj, he⟩ := h
    exact ⟨_, .inl ⟨i, j, x, hx, hj, he, List.getElem?_eq_getElem hj⟩⟩
  · exact ⟨0, .inr ⟨fun i j q => h ⟨i, j, q⟩, rfl⟩⟩
/-- Those in use are the same list. -/
theorem used_same {hs : List Hd} {cls : List Nat} {L : List (Nat × Nat)} (ok : HsOk hs) (hm : hs.length ≤ 64) (h : W6Is hs cls L) : usedR L = usedL hs := by
  refine sorted_ext (usedR_sorted h.nd) (usedL_sorted ok hm) fun a => ?_
  rw [usedR_mem, usedL_mem]
  constructor
  · rintro ⟨p, hp, hu, rfl⟩
    obtain ⟨v, hv⟩ := isAt_some hs p.1
    have e := h.at_ _ _ hv
    rw [isL_mem h.nd hp] at e
    rcases hv with ⟨i, j, x, hx, hj, he, hb⟩ | ⟨_, rfl⟩
    · exact ⟨i, x, j, v, hx, hb, by rw [← e]; exact hu, he⟩
    · exact absurd e (h.nz p hp)
  · rintro ⟨i, x, j, v, hx, hb, hu, he⟩
    have e := h.at_ a v (.inl ⟨i, j, x, hx, (List.getElem?_eq_some_iff.1 hb).1, he, hb⟩)
    have hv0 : v ≠ 0 := fun q => by subst q; simp [uN] at hu
    obtain ⟨p, hp, h1, h2⟩ := isL_pos (L := L) (a := a) (by rw [e]; exact hv0)
    exact ⟨p, hp, by rw [h2, e]; exact hu, h1⟩
/-- How many of a class can be reserved, by the document, of the slabs up to one. -/
def rmB (L : List (Nat × Nat)) (no c x j : Nat) : Bool := x == 0 || (x == c && isL L (adr no c j) == 0)
def rmRow (L : List (Nat × Nat)) (no c x j : Nat) : Nat := ((List.range j).filter fun k => rmB L no c x k).length
def rmL (cls : List Nat) (L : List (Nat × Nat)) (c : Nat) : Nat → Nat
  | 0 => 0
  | i + 1 => rmL cls L c i + rmRow L (i + 1) c (cls.getD i 0) (blN c)
theorem rmRow_next (L : List (Nat × Nat)) (no c x j : Nat) : rmRow L no c x (j + 1) = rmRow L no c x j + if rmB L no c x j = true then 1 else 0 := by
  unfold rmRow
  rw [List.range_succ, List.filter_append, List.length_append]
  congr 1
  simp only [List.filter_cons, List.filter_nil]
  split <;> rfl
theorem rmRow_le (L : List (Nat × Nat)) (no c x j : Nat) : rmRow L no c x j ≤ j := by
  refine Nat.le_trans (List.length_filter_le _ _) ?_
  simp
theorem rmL_le (cls : List Nat) (L : List (Nat × Nat)) (c i : Nat) : rmL cls L c i ≤ 15 * i := by
  induction i with
  | zero => exact Nat.le_refl _
  | succ i ih =>
    have h1 := rmRow_le L (i + 1) c (cls.getD i 0) (blN c)
    have h2 := blN_le c
    simp only [rmL]
    omega
end Go.Proofs.YtahojhaeebmpoaaGreatDoor
/- How many blocks can be reserved: the program's number and the document's are one; plain. -/
namespace Go.Proofs.YtahojhaeebmpoaaGreatDoor
open Go.RowKit
set_option linter.unusedVariables false
def rowF (c : Nat) (x : Hd) : List Nat := if x.cls = c then ((List.range x.bl.length).filter fun j => x.bl.getD j 0 == 0).map (adr x.no c) else []
def freeR (hs : List Hd) (c : Nat) : List Nat := hs.flatMap (rowF c)
theorem rowF_mem {c : Nat} {x : Hd} {a : Nat} : a ∈ rowF c x ↔ x.cls = c ∧ ∃ j, x.bl[j]? = some 0 ∧ adr x.no c j = a := by
  unfold rowF
  split
  · rename_i e
    simp only [List.mem_map, List.mem_filter, List.mem_range]
    constructor
    · rintro ⟨j, ⟨hj, hu⟩, rfl⟩
      refine ⟨e, j, ?_, rfl⟩
      rw [List.getD_eq_getElem?_getD, List.getElem?_eq_getElem hj] at hu
      rw [List.getElem?_eq_getElem hj]
      simpa using hu
    · rintro ⟨_, j, hv, rfl⟩
      obtain ⟨hj, he⟩ := List.getElem?_eq_some_iff.1 hv
      exact ⟨j, ⟨hj, by rw [List.getD_eq_getElem?_getD, hv]; rfl⟩, rfl⟩
  · rename_i e
    constructor
    · intro h; cases h
    · rintro ⟨h, _⟩; exact absurd h e
theorem freeR_mem {hs : List Hd} {c a : Nat} : a ∈ freeR hs c ↔ FreeB hs c a := by
  unfold freeR FreeB
  rw [List.mem_flatMap]
  constructor
  · rintro ⟨x, hx, ha⟩
    obtain ⟨i, hi⟩ := List.mem_iff_getElem?.1 hx
    obtain ⟨h1, j, h2, h3⟩ := rowF_mem.1 ha
    exact ⟨i, j, x, hi, h1, h2, h3⟩
  · rintro ⟨i, j, x, hi, h1, h2, h3⟩
    exact ⟨x, List.mem_of_getElem? hi, rowF_mem.2 ⟨h1, j, h2, h3⟩⟩
theorem freeR_sorted {hs : List Hd} (ok : HsOk hs) (hm : hs.length ≤ 64) (c : Nat) : (freeR hs c).Pairwise (· < ·) := by
  unfold freeR
  rw [List.pairwise_flatMap]
  refine ⟨fun x hx => ?_, ?_⟩
  · obtain ⟨i, hi⟩ := List.mem_iff_getElem?.1 hx
    unfold rowF
    split
    · rename_i e
      rw [List.pairwise_map]
      refine List.Pairwise.imp_of_mem ?_ (List.Pairwise.filter _ (List.pairwise_lt_range (n := x.bl.length)))
      intro j j' hj hj' hlt
      have hj1 := List.mem_range.1 (List.mem_filter.1 hj).1
      have hj2 := List.mem_range.1 (List.mem_filter.1 hj').1
      exact found_lt ok hm ⟨x, hi, hj1, by rw [e]⟩ ⟨x, hi, hj2, by rw [e]⟩ (.inr ⟨rfl, hlt⟩)
    · exact List.Pairwise.nil
  · rw [List.pairwise_iff_getElem]
    intro i i' hi hi' hlt a ha b hb
    obtain ⟨e, j, h1, h3⟩ := rowF_mem.1 ha
    obtain ⟨e', j', h1', h3'⟩ := rowF_mem.1 hb
    have hj := (List.getElem?_eq_some_iff.1 h1).1
    have hj' := (List.getElem?_eq_some_iff.1 h1').1
    exact found_lt ok hm ⟨_, List.getElem?_eq_getElem hi, hj, by rw [e]; exact h3⟩ ⟨_, List.getElem?_eq_getElem hi', hj', by rw [e']; exact h3'⟩ (.inl hlt)
theorem lt_nodup {l : List Nat} (h : l.Pairwise (· < ·)) : l.Nodup := h.imp fun hab e => by omega
theorem free_len {hs : List Hd} {fs : Nat → List Nat} (hf : FsOk hs fs) (ok : HsOk hs) (hm : hs.length ≤ 64) (c : Nat) : (fs c).length = (freeR hs c).length :=
  ((List.perm_ext_iff_of_nodup (hf c).1 (lt_nodup (freeR_sorted ok hm c))).2 fun a => by rw [(hf c).2, freeR_mem]).length_eq
theorem rm_row {hs : List Hd} {cls : List Nat} {L : List (Nat × Nat)} (ok : HsOk hs) (h : W6Is hs cls L) {c i : Nat} (hc : 1 ≤ c) {x : Hd} (hx : hs[i]? = some x) :
    rmRow L (i + 1) c (cls.getD i 0) (blN c) = (rowF c x).length + if x.cls = 0 then blN c else 0 := by
  have hcl : cls.getD i 0 = x.cls := by
    rw [h.cls, List.getD_eq_getElem?_getD, List.getElem?_map, hx]
    rfl
  obtain ⟨hno, hbl⟩ := ok i x hx
  rw [hcl]
  unfold rmRow rowF
  by_cases h0 : x.cls = 0
  · have hc0 : ¬ x.cls = c := by omega
    rw [if_neg hc0, if_pos h0, List.filter_eq_self.2 (fun k _ => by simp [rmB, h0])]
    simp
  · by_cases hxc : x.cls = c
    · rw [if_pos hxc, if_neg h0, List.length_map, Nat.add_zero, hbl, hxc]
      congr 1
      apply List.filter_congr
      intro k hk
      have hk' : k < x.bl.length := by rw [hbl, hxc]; exact List.mem_range.1 hk
      have e := h.at_ (adr (i + 1) c k) x.bl[k] (.inl ⟨i, k, x, hx, hk', by rw [hno, hxc], List.getElem?_eq_getElem hk'⟩)
      have hc0 : ¬ c = 0 := by omega
      simp [rmB, hc0, e, List.getD_eq_getElem?_getD, List.getElem?_eq_getElem hk']
    · rw [if_neg hxc, if_neg h0, List.filter_eq_nil_iff.2 (fun k _ => by simp [rmB, h0, hxc])]
      rfl
/-- The number of both. -/
theorem room_same {hs : List Hd} {cls : List Nat} {L : List (Nat × Nat)} {fs : Nat → List Nat} (ok : HsOk hs) (hm : hs.length ≤ 64) (hf : FsOk hs fs) (h : W6Is hs cls L) {c : Nat} (hc : 1 ≤ c) : roomS hs fs c hs.length = rmL cls L c hs.length := by
  have key : ∀ i, i ≤ hs.length → (freeR (hs.take i) c).length + blN c * voidN hs i = rmL cls L c i := by
    intro i
    induction i with
    | zero => intro _; simp [freeR, voidN, rmL]
    | succ i ih =>
      intro hi
      have hx : hs[i]? = some (hs[i]'(by omega)) := List.getElem?_eq_getElem (by omega)
      have h1 := ih (by omega)
      have h2 := rm_row ok h hc hx
      have e1 : freeR (hs.take (i + 1)) c = freeR (hs.take i) c ++ rowF c (hs[i]'(by omega)) := by
        unfold freeR
        rw [List.take_succ_eq_append_getElem (by omega), List.flatMap_append]
        simp
      rw [e1, List.length_append]
      simp only [rmL, voidN]
      rw [h2, ← h1, hx]
      simp only [Option.map_some]
      by_cases h0 : (hs[i]'(by omega)).cls = 0
      · simp only [h0, if_true, Nat.mul_add, Nat.mul_one]; omega
      · have h1 : ¬ some (hs[i]'(by omega)).cls = some 0 := fun q => h0 (Option.some.inj q)
        simp only [h0, h1, if_false, Nat.add_zero]; omega
  have := key hs.length (Nat.le_refl _)
  rw [List.take_length] at this
  unfold roomS
  rw [free_len hf ok hm, this]
end Go.Proofs.YtahojhaeebmpoaaGreatDoor
/- Of an arena's bytes the program's slabs and the document's list say the same; plain. -/
namespace Go.Proofs.YtahojhaeebmpoaaGreatDoor
open Go.RowKit Go.Sort
set_option linter.unusedVariables false
theorem mayS_bits {b n : Nat} (h : mayS b (n : Int) = true) (hb : b < 18446744073709551616) (k : Nat) (hk : b.testBit k = true) : k < n := by
  have hk64 : k < 64 := by
    rcases Nat.lt_or_ge k 64 with q | q
    · exact q
    · have : b.testBit k = false := Nat.testBit_lt_two_pow (Nat.lt_of_lt_of_le (show b < 2 ^ 64 from hb) (Nat.pow_le_pow_right (by decide) q))
      rw [this] at hk
      cases hk
  unfold mayS at h
  have := of_decide_eq_true h k (List.mem_filter.2 ⟨List.mem_range.2 hk64, hk⟩)
  omega
theorem okHead_bits {c b : Nat} (h : okHead c b = true) (hb : b < 18446744073709551616) : c ≤ 3 ∧ ∀ k, b.testBit k = true → k < blN c := by
  unfold okHead at h
  rw [Bool.and_eq_true] at h
  obtain ⟨h1, h2⟩ := h
  refine ⟨by simpa using h1, fun k hk => ?_⟩
  exact mayS_bits h2 hb k hk
theorem hbW_fit {l : List Nat} (hb : ∀ x ∈ l, x < 256) (q : Nat) : hbW l q < 18446744073709551616 := pw_fit hb _ _
theorem blK_val {c b j : Nat} (hj : j < blN c) : (blK (blN c) b (blN c))[j]? = some (if b.testBit j = true then 2 else 0) := by
  rw [blK_get hj]
  simp [hj]
theorem LK_mem {l : List Nat} {n : Nat} {p : Nat × Nat} : p ∈ LK l n ↔ ∃ q k, q < n ∧ k < 64 ∧ (hbW l q).testBit k = true ∧ p = (adr (q + 1) (hcW l q) k, 2) := by
  unfold LK blsK upB
  rw [List.mem_flatMap]
  constructor
  · rintro ⟨q, hq, hp⟩
    obtain ⟨k, hk, rfl⟩ := List.mem_map.1 hp
    obtain ⟨h1, h2⟩ := List.mem_filter.1 hk
    exact ⟨q, k, List.mem_range.1 hq, List.mem_range.1 h1, h2, rfl⟩
  · rintro ⟨q, k, hq, hk, ht, rfl⟩
    exact ⟨q, List.mem_range.2 hq, List.mem_map.2 ⟨k, List.mem_filter.2 ⟨List.mem_range.2 hk, ht⟩, rfl⟩⟩
theorem found_K {l : List Nat} {n q k : Nat} (hq : q < n) (hk : k < blN (hcW l q)) : Found (hsK (hcW l) (hbW l) n n) (adr (q + 1) (hcW l q) k) q k := by
  refine ⟨hdOf (hcW l) (hbW l) q, ?_, ?_, rfl⟩
  · rw [hsK_get hq, if_pos hq]
  · show k < (blK _ _ _).length
    rw [blK_len]; exact hk
theorem ini_is {l : List Nat} {n : Nat} (hb : ∀ x ∈ l, x < 256) (hn : n ≤ 64) (ok : okHeads l n) : W6Is (hsK (hcW l) (hbW l) n n) (clsK l n) (LK l n) := by
  have hok := hsK_ok (hcW l) (hbW l) n
  have hlen : (hsK (hcW l) (hbW l) n n).length ≤ 64 := by rw [hsK_len]; exact hn
  have bits : ∀ q k, q < n → (hbW l q).testBit k = true → k < blN (hcW l q) := fun q k hq hk => (okHead_bits (ok q hq) (hbW_fit hb q)).2 k hk
  have hnd : ((LK l n).map Prod.fst).Nodup := by
    refine lt_nodup ?_
    rw [List.pairwise_map]
    unfold LK blsK
    rw [List.pairwise_flatMap]
    refine ⟨fun q hq => ?_, ?_⟩
    · have hq' := List.mem_range.1 hq
      rw [List.pairwise_map]
      refine List.Pairwise.imp_of_mem ?_ (upB_sorted (hbW l q) 64)
      intro k k' hk hk' hlt
      exact found_lt hok hlen (found_K hq' (bits q k hq' (List.mem_filter.1 hk).2)) (found_K hq' (bits q k' hq' (List.mem_filter.1 hk').2)) (.inr ⟨rfl, hlt⟩)
    · refine List.Pairwise.imp_of_mem ?_ List.pairwise_lt_range
      intro q q' hq hq' hlt a ha b hb'
      have h1 := List.mem_range.1 hq
      have h2 := List.mem_range.1 hq'
      obtain ⟨k, hk, rfl⟩ := List.mem_map.1 ha
      obtain ⟨k', hk', rfl⟩ := List.mem_map.1 hb'
      exact found_lt hok hlen (found_K h1 (bits q k h1 (List.mem_filter.1 hk).2)) (found_K h2 (bits q' k' h2 (List.mem_filter.1 hk').2)) (.inl hlt)
  refine ⟨?_, hnd, fun p hp => ?_, fun a v hv => ?_⟩
  · unfold clsK hsK
    rw [List.map_map]
    apply List.map_congr_left
    intro q hq
    have hq' := List.mem_range.1 hq
    simp [hq', hdOf]
  · obtain ⟨q, k, _, _, _, rfl⟩ := LK_mem.1 hp
    simp
  · have far : (∀ q k, q < n → (hbW l q).testBit k = true → adr (q + 1) (hcW l q) k ≠ a) → isL (LK l n) a = 0 := fun h => by
      by_cases e : isL (LK l n) a = 0
      · exact e
      · obtain ⟨p, hp, h1, _⟩ := isL_pos e
        obtain ⟨q, k, hq, _, ht, rfl⟩ := LK_mem.1 hp
        exact absurd h1 (h q k hq ht)
    rcases hv with ⟨i, j, x, hx, hj, he, hbl⟩ | ⟨hno, rfl⟩
    · have hi : i < n := by have := (List.getElem?_eq_some_iff.1 hx).1; rwa [hsK_len] at this
      rw [hsK_get hi, if_pos hi] at hx
      cases hx
      have hj' : j < blN (hcW l i) := by have : j < (blK (blN (hcW l i)) (hbW l i) (blN (hcW l i))).length := hj; rwa [blK_len] at this
      have hbl' : (blK (blN (hcW l i)) (hbW l i) (blN (hcW l i)))[j]? = some v := hbl
      rw [blK_val hj'] at hbl'
      have he' : adr (i + 1) (hcW l i) j = a := he
      by_cases ht : (hbW l i).testBit j = true
      · rw [if_pos ht] at hbl'
        cases hbl'
        have hj64 : j < 64 := by have := blN_le (hcW l i); omega
        have := isL_mem hnd (LK_mem.2 ⟨i, j, hi, hj64, ht, rfl⟩)
        rw [← he']
        exact this
      · rw [if_neg ht] at hbl'
        cases hbl'
        refine far fun q k hq hk e => ?_
        have h1 := found_K hq (bits q k hq hk)
        have h2 := found_K hi hj'
        rw [e] at h1
        rw [he'] at h2
        obtain ⟨e1, e2⟩ := found_one hok hlen h1 h2
        subst e1 e2
        exact ht hk
    · refine far fun q k hq hk e => ?_
      have h1 := found_K hq (bits q k hq hk)
      rw [e] at h1
      exact hno _ _ h1
end Go.Proofs.YtahojhaeebmpoaaGreatDoor
