/- Texts of this claim, packed: R6Rel, R6Rm, R6Ini, R6Put, R6Room, R6Used. -/
import Derived.Test.YtahojhaeebmpoaaGreatDoorPq29
import Derived.Test.YtahojhaeebmpoaaGreatDoorPq24
import Derived.Test.YtahojhaeebmpoaaGreatDoorPq31
import Derived.Test.YtahojhaeebmpoaaGreatDoorPq28
import Derived.Test.YtahojhaeebmpoaaGreatDoorPq04
import Derived.Test.YtahojhaeebmpoaaGreatDoorPq33
/- The program's slabs and the document's list of blocks say the same: plain; those in use, rising, are the same list. -/
namespace Go.Proofs.YtahojhaeebmpoaaGreatDoor
open Go.RowKit
set_option linter.unusedVariables false
theorem sorted_ext : ∀ {l m : List Nat}, l.Pairwise (· < ·) → m.Pairwise (· < ·) → (∀ x, x ∈ l ↔ x ∈ m) → l = m
  | [], [], _, _, _ => rfl
  | [], b :: m, _, _, h => absurd ((h b).2 (by simp)) (by simp)
  | a :: l, [], _, _, h => absurd ((h a).1 (by simp)) (by simp)
  | a :: l, b :: m, hl, hm, h => by
    have hl1 := List.pairwise_cons.1 hl
    have hm1 := List.pairwise_cons.1 hm
    have hab : a = b := by
      have h1 := (h a).1 (by simp)
      have h2 := (h b).2 (by simp)
      rcases List.mem_cons.1 h1 with h1 | h1
      · exact h1
      · rcases List.mem_cons.1 h2 with h2 | h2
        · exact h2.symm
        · have := hl1.1 b h2
          have := hm1.1 a h1
          omega
    subst hab
    rw [sorted_ext hl1.2 hm1.2 fun x => ?_]
    have hx := h x
    constructor
    · intro q
      rcases List.mem_cons.1 (hx.1 (by simp [q])) with e | e
      · have := hl1.1 x q; omega
      · exact e
    · intro q
      rcases List.mem_cons.1 (hx.2 (by simp [q])) with e | e
      · have := hm1.1 x q; omega
      · exact e
/-- Those in use by the document's list, rising. -/
def usedR (L : List (Nat × Nat)) : List Nat := L.foldl (fun o p => if uN p.2 = true then insN o p.1 else o) []
theorem usedR_snoc (L : List (Nat × Nat)) (p : Nat × Nat) : usedR (L ++ [p]) = if uN p.2 = true then insN (usedR L) p.1 else usedR L := by simp [usedR]
theorem usedR_mem (L : List (Nat × Nat)) : ∀ a, a ∈ usedR L ↔ ∃ p ∈ L, uN p.2 = true ∧ p.1 = a := by
  have key : ∀ n, n ≤ L.length → ∀ a, a ∈ usedR (L.take n) ↔ ∃ p ∈ L.take n, uN p.2 = true ∧ p.1 = a := by
    intro n
    induction n with
    | zero => intro _ a; simp [usedR]
    | succ n ih =>
      intro hn a
      have hi := ih (by omega) a
      rw [List.take_succ_eq_append_getElem (by omega), usedR_snoc]
      generalize L.take n = T at hi ⊢
      generalize L[n] = z
      split
      · rename_i hu
        rw [insN_mem, hi]
        constructor
        · rintro (rfl | ⟨p, hp, h1, h2⟩)
          · exact ⟨_, by simp, hu, rfl⟩
          · exact ⟨p, by simp [hp], h1, h2⟩
        · rintro ⟨p, hp, h1, h2⟩
          rcases List.mem_append.1 hp with hp | hp
          · exact .inr ⟨p, hp, h1, h2⟩
          · have : p = z := by simpa using hp
            exact .inl (this ▸ h2.symm)
      · rename_i hu
        rw [hi]
        constructor
        · rintro ⟨p, hp, h1, h2⟩
          exact ⟨p, by simp [hp], h1, h2⟩
        · rintro ⟨p, hp, h1, h2⟩
          rcases List.mem_append.1 hp with hp | hp
          · exact ⟨p, hp, h1, h2⟩
          · have : p = z := by simpa using hp
            exact absurd (this ▸ h1) hu
  have := key L.length (Nat.le_refl _)
  rwa [List.take_length] at this
theorem usedR_sorted {L : List (Nat × Nat)} (hn : (L.map Prod.fst).Nodup) : (usedR L).Pairwise (· < ·) := by
  have key : ∀ n, n ≤ L.length → (usedR (L.take n)).Pairwise (· < ·) := by
    intro n
    induction n with
    | zero => intro _; simp [usedR]
    | succ n ih =>
      intro hl
      rw [List.take_succ_eq_append_getElem (by omega), usedR_snoc]
      split
      · refine insN_sorted (ih (by omega)) ?_
        intro hm
        obtain ⟨p, hp, _, h2⟩ := (usedR_mem (L.take n) _).1 hm
        obtain ⟨i, hi, rfl⟩ := List.getElem_of_mem hp
        rw [List.getElem_take] at h2
        have hin : i < n := by simp at hi; omega
        have := (List.pairwise_iff_getElem.1 hn) i n (by simp; omega) (by simp; omega) hin
        simp at this
        exact this h2
      · exact ih (by omega)
  have := key L.length (Nat.le_refl _)
  rwa [List.take_length] at this
/-- The document's list says what the program's slabs say. -/
structure W6Is (hs : List Hd) (cls : List Nat) (L : List (Nat × Nat)) : Prop where
  cls : cls = hs.map Hd.cls
  nd : (L.map Prod.fst).Nodup
  nz : ∀ p ∈ L, p.2 ≠ 0
  at_ : ∀ a v, isAt hs a v → isL L a = v
theorem isL_mem {L : List (Nat × Nat)} (hn : (L.map Prod.fst).Nodup) {p : Nat × Nat} (hp : p ∈ L) : isL L p.1 = p.2 := by
  obtain ⟨i, hi, rfl⟩ := List.getElem_of_mem hp
  refine isL_at (i := i) (fun t q ht hq he => ?_) (List.getElem?_eq_getElem hi) rfl
  obtain ⟨h1, h2⟩ := List.getElem?_eq_some_iff.1 hq
  have := (List.pairwise_iff_getElem.1 hn) t i (by simpa using h1) (by simpa using hi) ht
  simp at this
  exact this (by rw [h2]; exact he)
theorem isL_pos {L : List (Nat × Nat)} {a : Nat} (h : isL L a ≠ 0) : ∃ p ∈ L, p.1 = a ∧ p.2 = isL L a := by
  induction L with
  | nil => exact absurd rfl h
  | cons q t ih =>
    unfold isL at h ⊢
    split at h
    · rename_i e
      exact ⟨q, by simp, e, by rw [if_pos e]⟩
    · rename_i e
      obtain ⟨p, hp, h1, h2⟩ := ih h
      exact ⟨p, by simp [hp], h1, by rw [if_neg e]; exact h2⟩
theorem rowU_mem {x : Hd} {a : Nat} : a ∈ rowU x x.bl.length ↔ ∃ j v, x.bl[j]? = some v ∧ uN v = true ∧ adr x.no x.cls j = a := by
  unfold rowU
  simp only [List.mem_map, List.mem_filter, List.mem_range]
  constructor
  · rintro ⟨j, ⟨hj, hu⟩, rfl⟩
    refine ⟨j, x.bl[j], List.getElem?_eq_getElem hj, ?_, rfl⟩
    rwa [List.getD_eq_getElem?_getD, List.getElem?_eq_getElem hj] at hu
  · rintro ⟨j, v, hv, hu, rfl⟩
    obtain ⟨hj, he⟩ := List.getElem?_eq_some_iff.1 hv
    exact ⟨j, ⟨hj, by rw [List.getD_eq_getElem?_getD, hv]; exact hu⟩, rfl⟩
theorem usedL_mem {hs : List Hd} {a : Nat} : a ∈ usedL hs ↔ ∃ (i : Nat) (x : Hd) (j v : Nat), hs[i]? = some x ∧ x.bl[j]? = some v ∧ uN v = true ∧ adr x.no x.cls j = a := by
  unfold usedL
  rw [List.mem_flatMap]
  constructor
  · rintro ⟨x, hx, ha⟩
    obtain ⟨i, hi⟩ := List.mem_iff_getElem?.1 hx
    obtain ⟨j, v, h1, h2, h3⟩ := rowU_mem.1 ha
    exact ⟨i, x, j, v, hi, h1, h2, h3⟩
  · rintro ⟨i, x, j, v, hi, h1, h2, h3⟩
    exact ⟨x, List.mem_of_getElem? hi, rowU_mem.2 ⟨j, v, h1, h2, h3⟩⟩
theorem usedL_sorted {hs : List Hd} (ok : HsOk hs) (hm : hs.length ≤ 64) : (usedL hs).Pairwise (· < ·) := by
  unfold usedL
  rw [List.pairwise_flatMap]
  refine ⟨fun x hx => ?_, ?_⟩
  · obtain ⟨i, hi⟩ := List.mem_iff_getElem?.1 hx
    unfold rowU
    rw [List.pairwise_map]
    refine List.Pairwise.imp_of_mem ?_ (List.Pairwise.filter _ (List.pairwise_lt_range (n := x.bl.length)))
    intro j j' hj hj' hlt
    have hj1 := List.mem_range.1 (List.mem_filter.1 hj).1
    have hj2 := List.mem_range.1 (List.mem_filter.1 hj').1
    exact found_lt ok hm ⟨x, hi, hj1, rfl⟩ ⟨x, hi, hj2, rfl⟩ (.inr ⟨rfl, hlt⟩)
  · rw [List.pairwise_iff_getElem]
    intro i i' hi hi' hlt a ha b hb
    obtain ⟨j, v, h1, _, h3⟩ := rowU_mem.1 ha
    obtain ⟨j', v', h1', _, h3'⟩ := rowU_mem.1 hb
    have hj := (List.getElem?_eq_some_iff.1 h1).1
    have hj' := (List.getElem?_eq_some_iff.1 h1').1
    exact found_lt ok hm ⟨_, List.getElem?_eq_getElem hi, hj, h3⟩ ⟨_, List.getElem?_eq_getElem hi', hj', h3'⟩ (.inl hlt)
theorem isAt_some (hs : List Hd) (a : Nat) : ∃ v, isAt hs a v := by
  by_cases h : ∃ i j, Found hs a i j
  · obtain ⟨i, j, x, hx, hj, he⟩ := h
    exact ⟨_, .inl ⟨i, j, x, hx, hj, he, List.getElem?_eq_getElem hj⟩⟩
  · exact ⟨0, .inr ⟨fun i j q => h ⟨i, j, q⟩, rfl⟩⟩
/-- Those in use are the same list. -/
theorem used_same {hs : List Hd} {cls : List Nat} {L : List (Nat × Nat)} (ok : HsOk hs) (hm : hs.length ≤ 64) (h : W6Is hs cls L) : usedR L = usedL hs := by
  refine sorted_ext (usedR_sorted h.nd) (usedL_sorted ok hm) fun a => ?_
  rw [usedR_mem, usedL_mem]
  constructor
  · rintro ⟨p, hp, hu, rfl⟩
    obtain ⟨v, hv⟩ := isAt_some hs p.1
    have e := h.at_ _ _ hv
    rw [isL_mem h.nd hp] at e
    rcases hv with ⟨i, j, x, hx, hj, he, hb⟩ | ⟨_, rfl⟩
    · exact ⟨i, x, j, v, hx, hb, by rw [← e]; exact hu, he⟩
    · exact absurd e (h.nz p hp)
  · rintro ⟨i, x, j, v, hx, hb, hu, he⟩
    have e := h.at_ a v (.inl ⟨i, j, x, hx, (List.getElem?_eq_some_iff.1 hb).1, he, hb⟩)
    have hv0 : v ≠ 0 := fun q => by subst q; simp [uN] at hu
    obtain ⟨p, hp, h1, h2⟩ := isL_pos (L := L) (a := a) (by rw [e]; exact hv0)
    exact ⟨p, hp, by rw [h2, e]; exact hu, h1⟩
/-- How many of a class can be reserved, by the document, of the slabs up to one. -/
def rmB (L : List (Nat × Nat)) (no c x j : Nat) : Bool := x == 0 || (x == c && isL L (adr no c j) == 0)
def rmRow (L : List (Nat × Nat)) (no c x j : Nat) : Nat := ((List.range j).filter fun k => rmB L no c x k).length
def rmL (cls : List Nat) (L : List (Nat × Nat)) (c : Nat) : Nat → Nat
  | 0 => 0
  | i + 1 => rmL cls L c i + rmRow L (i + 1) c (cls.getD i 0) (blN c)
theorem rmRow_next (L : List (Nat × Nat)) (no c x j : Nat) : rmRow L no c x (j + 1) = rmRow L no c x j + if rmB L no c x j = true then 1 else 0 := by
  unfold rmRow
  rw [List.range_succ, List.filter_append, List.length_append]
  congr 1
  simp only [List.filter_cons, List.filter_nil]
  split <;> rfl
theorem rmRow_le (L : List (Nat × Nat)) (no c x j : Nat) : rmRow L no c x j ≤ j := by
  refine Nat.le_trans (List.length_filter_le _ _) ?_
  simp
theorem rmL_le (cls : List Nat) (L : List (Nat × Nat)) (c i : Nat) : rmL cls L c i ≤ 15 * i := by
  induction i with
  | zero => exact Nat.le_refl _
  | succ i ih =>
    have h1 := rmRow_le L (i + 1) c (cls.getD i 0) (blN c)
    have h2 := blN_le c
    simp only [rmL]
    omega
end Go.Proofs.YtahojhaeebmpoaaGreatDoor
/- How many blocks can be reserved: the program's number and the document's are one; plain. -/
namespace Go.Proofs.YtahojhaeebmpoaaGreatDoor
open Go.RowKit
set_option linter.unusedVariables false
def rowF (c : Nat) (x : Hd) : List Nat := if x.cls = c then ((List.range x.bl.length).filter fun j => x.bl.getD j 0 == 0).map (adr x.no c) else []
def freeR (hs : List Hd) (c : Nat) : List Nat := hs.flatMap (rowF c)
theorem rowF_mem {c : Nat} {x : Hd} {a : Nat} : a ∈ rowF c x ↔ x.cls = c ∧ ∃ j, x.bl[j]? = some 0 ∧ adr x.no c j = a := by
  unfold rowF
  split
  · rename_i e
    simp only [List.mem_map, List.mem_filter, List.mem_range]
    constructor
    · rintro ⟨j, ⟨hj, hu⟩, rfl⟩
      refine ⟨e, j, ?_, rfl⟩
      rw [List.getD_eq_getElem?_getD, List.getElem?_eq_getElem hj] at hu
      rw [List.getElem?_eq_getElem hj]
      simpa using hu
    · rintro ⟨_, j, hv, rfl⟩
      obtain ⟨hj, he⟩ := List.getElem?_eq_some_iff.1 hv
      exact ⟨j, ⟨hj, by rw [List.getD_eq_getElem?_getD, hv]; rfl⟩, rfl⟩
  · rename_i e
    constructor
    · intro h; cases h
    · rintro ⟨h, _⟩; exact absurd h e
theorem freeR_mem {hs : List Hd} {c a : Nat} : a ∈ freeR hs c ↔ FreeB hs c a := by
  unfold freeR FreeB
  rw [List.mem_flatMap]
  constructor
  · rintro ⟨x, hx, ha⟩
    obtain ⟨i, hi⟩ := List.mem_iff_getElem?.1 hx
    obtain ⟨h1, j, h2, h3⟩ := rowF_mem.1 ha
    exact ⟨i, j, x, hi, h1, h2, h3⟩
  · rintro ⟨i, j, x, hi, h1, h2, h3⟩
    exact ⟨x, List.mem_of_getElem? hi, rowF_mem.2 ⟨h1, j, h2, h3⟩⟩
theorem freeR_sorted {hs : List Hd} (ok : HsOk hs) (hm : hs.length ≤ 64) (c : Nat) : (freeR hs c).Pairwise (· < ·) := by
  unfold freeR
  rw [List.pairwise_flatMap]
  refine ⟨fun x hx => ?_, ?_⟩
  · obtain ⟨i, hi⟩ := List.mem_iff_getElem?.1 hx
    unfold rowF
    split
    · rename_i e
      rw [List.pairwise_map]
      refine List.Pairwise.imp_of_mem ?_ (List.Pairwise.filter _ (List.pairwise_lt_range (n := x.bl.length)))
      intro j j' hj hj' hlt
      have hj1 := List.mem_range.1 (List.mem_filter.1 hj).1
      have hj2 := List.mem_range.1 (List.mem_filter.1 hj').1
      exact found_lt ok hm ⟨x, hi, hj1, by rw [e]⟩ ⟨x, hi, hj2, by rw [e]⟩ (.inr ⟨rfl, hlt⟩)
    · exact List.Pairwise.nil
  · rw [List.pairwise_iff_getElem]
    intro i i' hi hi' hlt a ha b hb
    obtain ⟨e, j, h1, h3⟩ := rowF_mem.1 ha
    obtain ⟨e', j', h1', h3'⟩ := rowF_mem.1 hb
    have hj := (List.getElem?_eq_some_iff.1 h1).1
    have hj' := (List.getElem?_eq_some_iff.1 h1').1
    exact found_lt ok hm ⟨_, List.getElem?_eq_getElem hi, hj, by rw [e]; exact h3⟩ ⟨_, List.getElem?_eq_getElem hi', hj', by rw [e']; exact h3'⟩ (.inl hlt)
theorem lt_nodup {l : List Nat} (h : l.Pairwise (· < ·)) : l.Nodup := h.imp fun hab e => by omega
theorem free_len {hs : List Hd} {fs : Nat → List Nat} (hf : FsOk hs fs) (ok : HsOk hs) (hm : hs.length ≤ 64) (c : Nat) : (fs c).length = (freeR hs c).length :=
  ((List.perm_ext_iff_of_nodup (hf c).1 (lt_nodup (freeR_sorted ok hm c))).2 fun a => by rw [(hf c).2, freeR_mem]).length_eq
theorem rm_row {hs : List Hd} {cls : List Nat} {L : List (Nat × Nat)} (ok : HsOk hs) (h : W6Is hs cls L) {c i : Nat} (hc : 1 ≤ c) {x : Hd} (hx : hs[i]? = some x) :
    rmRow L (i + 1) c (cls.getD i 0) (blN c) = (rowF c x).length + if x.cls = 0 then blN c else 0 := by
  have hcl : cls.getD i 0 = x.cls := by
    rw [h.cls, List.getD_eq_getElem?_getD, List.getElem?_map, hx]
    rfl
  obtain ⟨hno, hbl⟩ := ok i x hx
  rw [hcl]
  unfold rmRow rowF
  by_cases h0 : x.cls = 0
  · have hc0 : ¬ x.cls = c := by omega
    rw [if_neg hc0, if_pos h0, List.filter_eq_self.2 (fun k _ => by simp [rmB, h0])]
    simp
  · by_cases hxc : x.cls = c
    · rw [if_pos hxc, if_neg h0, List.length_map, Nat.add_zero, hbl, hxc]
      congr 1
      apply List.filter_congr
      intro k hk
      have hk' : k < x.bl.length := by rw [hbl, hxc]; exact List.mem_range.1 hk
      have e := h.at_ (adr (i + 1) c k) x.bl[k] (.inl ⟨i, k, x, hx, hk', by rw [hno, hxc], List.getElem?_eq_getElem hk'⟩)
      have hc0 : ¬ c = 0 := by omega
      simp [rmB, hc0, e, List.getD_eq_getElem?_getD, List.getElem?_eq_getElem hk']
    · rw [if_neg hxc, if_neg h0, List.filter_eq_nil_iff.2 (fun k _ => by simp [rmB, h0, hxc])]
      rfl
/-- The number of both. -/
theorem room_same {hs : List Hd} {cls : List Nat} {L : List (Nat × Nat)} {fs : Nat → List Nat} (ok : HsOk hs) (hm : hs.length ≤ 64) (hf : FsOk hs fs) (h : W6Is hs cls L) {c : Nat} (hc : 1 ≤ c) : roomS hs fs c hs.length = rmL cls L c hs.length := by
  have key : ∀ i, i ≤ hs.length → (freeR (hs.take i) c).length + blN c * voidN hs i = rmL cls L c i := by
    intro i
    induction i with
    | zero => intro _; simp [freeR, voidN, rmL]
    | succ i ih =>
      intro hi
      have hx : hs[i]? = some (hs[i]'(by omega)) := List.getElem?_eq_getElem (by omega)
      have h1 := ih (by omega)
      have h2 := rm_row ok h hc hx
      have e1 : freeR (hs.take (i + 1)) c = freeR (hs.take i) c ++ rowF c (hs[i]'(by omega)) := by
        unfold freeR
        rw [List.take_succ_eq_append_getElem (by omega), List.flatMap_append]
        simp
      rw [e1, List.length_append]
      simp only [rmL, voidN]
      rw [h2, ← h1, hx]
      simp only [Option.map_some]
      by_cases h0 : (hs[i]'(by omega)).cls = 0
      · simp only [h0, if_true, Nat.mul_add, Nat.mul_one]; omega
      · have h1 : ¬ some (hs[i]'(by omega)).cls = some 0 := fun q => h0 (Option.some.inj q)
        simp only [h0, h1, if_false, Nat.add_zero]; omega
  have := key hs.length (Nat.le_refl _)
  rw [List.take_length] at this
  unfold roomS
  rw [free_len hf ok hm, this]
end Go.Proofs.YtahojhaeebmpoaaGreatDoor
/- Of an arena's bytes the program's slabs and the document's list say the same; plain. -/
namespace Go.Proofs.YtahojhaeebmpoaaGreatDoor
open Go.RowKit Go.Sort
set_option linter.unusedVariables false
theorem mayS_bits {b n : Nat} (h : mayS b (n : Int) = true) (hb : b < 18446744073709551616) (k : Nat) (hk : b.testBit k = true) : k < n := by
  have hk64 : k < 64 := by
    rcases Nat.lt_or_ge k 64 with q | q
    · exact q
    · have : b.testBit k = false := Nat.testBit_lt_two_pow (Nat.lt_of_lt_of_le (show b < 2 ^ 64 from hb) (Nat.pow_le_pow_right (by decide) q))
      rw [this] at hk
      cases hk
  unfold mayS at h
  have := of_decide_eq_true h k (List.mem_filter.2 ⟨List.mem_range.2 hk64, hk⟩)
  omega
theorem okHead_bits {c b : Nat} (h : okHead c b = true) (hb : b < 18446744073709551616) : c ≤ 3 ∧ ∀ k, b.testBit k = true → k < blN c := by
  unfold okHead at h
  rw [Bool.and_eq_true] at h
  obtain ⟨h1, h2⟩ := h
  refine ⟨by simpa using h1, fun k hk => ?_⟩
  exact mayS_bits h2 hb k hk
theorem hbW_fit {l : List Nat} (hb : ∀ x ∈ l, x < 256) (q : Nat) : hbW l q < 18446744073709551616 := pw_fit hb _ _
theorem blK_val {c b j : Nat} (hj : j < blN c) : (blK (blN c) b (blN c))[j]? = some (if b.testBit j = true then 2 else 0) := by
  rw [blK_get hj]
  simp [hj]
theorem LK_mem {l : List Nat} {n : Nat} {p : Nat × Nat} : p ∈ LK l n ↔ ∃ q k, q < n ∧ k < 64 ∧ (hbW l q).testBit k = true ∧ p = (adr (q + 1) (hcW l q) k, 2) := by
  unfold LK blsK upB
  rw [List.mem_flatMap]
  constructor
  · rintro ⟨q, hq, hp⟩
    obtain ⟨k, hk, rfl⟩ := List.mem_map.1 hp
    obtain ⟨h1, h2⟩ := List.mem_filter.1 hk
    exact ⟨q, k, List.mem_range.1 hq, List.mem_range.1 h1, h2, rfl⟩
  · rintro ⟨q, k, hq, hk, ht, rfl⟩
    exact ⟨q, List.mem_range.2 hq, List.mem_map.2 ⟨k, List.mem_filter.2 ⟨List.mem_range.2 hk, ht⟩, rfl⟩⟩
theorem found_K {l : List Nat} {n q k : Nat} (hq : q < n) (hk : k < blN (hcW l q)) : Found (hsK (hcW l) (hbW l) n n) (adr (q + 1) (hcW l q) k) q k := by
  refine ⟨hdOf (hcW l) (hbW l) q, ?_, ?_, rfl⟩
  · rw [hsK_get hq, if_pos hq]
  · show k < (blK _ _ _).length
    rw [blK_len]; exact hk
theorem ini_is {l : List Nat} {n : Nat} (hb : ∀ x ∈ l, x < 256) (hn : n ≤ 64) (ok : okHeads l n) : W6Is (hsK (hcW l) (hbW l) n n) (clsK l n) (LK l n) := by
  have hok := hsK_ok (hcW l) (hbW l) n
  have hlen : (hsK (hcW l) (hbW l) n n).length ≤ 64 := by rw [hsK_len]; exact hn
  have bits : ∀ q k, q < n → (hbW l q).testBit k = true → k < blN (hcW l q) := fun q k hq hk => (okHead_bits (ok q hq) (hbW_fit hb q)).2 k hk
  have hnd : ((LK l n).map Prod.fst).Nodup := by
    refine lt_nodup ?_
    rw [List.pairwise_map]
    unfold LK blsK
    rw [List.pairwise_flatMap]
    refine ⟨fun q hq => ?_, ?_⟩
    · have hq' := List.mem_range.1 hq
      rw [List.pairwise_map]
      refine List.Pairwise.imp_of_mem ?_ (upB_sorted (hbW l q) 64)
      intro k k' hk hk' hlt
      exact found_lt hok hlen (found_K hq' (bits q k hq' (List.mem_filter.1 hk).2)) (found_K hq' (bits q k' hq' (List.mem_filter.1 hk').2)) (.inr ⟨rfl, hlt⟩)
    · refine List.Pairwise.imp_of_mem ?_ List.pairwise_lt_range
      intro q q' hq hq' hlt a ha b hb'
      have h1 := List.mem_range.1 hq
      have h2 := List.mem_range.1 hq'
      obtain ⟨k, hk, rfl⟩ := List.mem_map.1 ha
      obtain ⟨k', hk', rfl⟩ := List.mem_map.1 hb'
      exact found_lt hok hlen (found_K h1 (bits q k h1 (List.mem_filter.1 hk).2)) (found_K h2 (bits q' k' h2 (List.mem_filter.1 hk').2)) (.inl hlt)
  refine ⟨?_, hnd, fun p hp => ?_, fun a v hv => ?_⟩
  · unfold clsK hsK
    rw [List.map_map]
    apply List.map_congr_left
    intro q hq
    have hq' := List.mem_range.1 hq
    simp [hq', hdOf]
  · obtain ⟨q, k, _, _, _, rfl⟩ := LK_mem.1 hp
    simp
  · have far : (∀ q k, q < n → (hbW l q).testBit k = true → adr (q + 1) (hcW l q) k ≠ a) → isL (LK l n) a = 0 := fun h => by
      by_cases e : isL (LK l n) a = 0
      · exact e
      · obtain ⟨p, hp, h1, _⟩ := isL_pos e
        obtain ⟨q, k, hq, _, ht, rfl⟩ := LK_mem.1 hp
        exact absurd h1 (h q k hq ht)
    rcases hv with ⟨i, j, x, hx, hj, he, hbl⟩ | ⟨hno, rfl⟩
    · have hi : i < n := by have := (List.getElem?_eq_some_iff.1 hx).1; rwa [hsK_len] at this
      rw [hsK_get hi, if_pos hi] at hx
      cases hx
      have hj' : j < blN (hcW l i) := by have : j < (blK (blN (hcW l i)) (hbW l i) (blN (hcW l i))).length := hj; rwa [blK_len] at this
      have hbl' : (blK (blN (hcW l i)) (hbW l i) (blN (hcW l i)))[j]? = some v := hbl
      rw [blK_val hj'] at hbl'
      have he' : adr (i + 1) (hcW l i) j = a := he
      by_cases ht : (hbW l i).testBit j = true
      · rw [if_pos ht] at hbl'
        cases hbl'
        have hj64 : j < 64 := by have := blN_le (hcW l i); omega
        have := isL_mem hnd (LK_mem.2 ⟨i, j, hi, hj64, ht, rfl⟩)
        rw [← he']
        exact this
      · rw [if_neg ht] at hbl'
        cases hbl'
        refine far fun q k hq hk e => ?_
        have h1 := found_K hq (bits q k hq hk)
        have h2 := found_K hi hj'
        rw [e] at h1
        rw [he'] at h2
        obtain ⟨e1, e2⟩ := found_one hok hlen h1 h2
        subst e1 e2
        exact ht hk
    · refine far fun q k hq hk e => ?_
      have h1 := found_K hq (bits q k hq hk)
      rw [e] at h1
      exact hno _ _ h1
end Go.Proofs.YtahojhaeebmpoaaGreatDoor
/- A block of the document's list becomes something else, a slab gets a class; plain; the program's slabs and the list say the same behind it. -/
namespace Go.Proofs.YtahojhaeebmpoaaGreatDoor
open Go.RowKit
set_option linter.unusedVariables false
/-- What Set makes of the document's list. -/
def setL (L : List (Nat × Nat)) (a v : Nat) : List (Nat × Nat) := L.filter (fun p => decide (p.1 ≠ a)) ++ (if v = 0 then [] else [(a, v)])
theorem setL_mem {L : List (Nat × Nat)} {a v : Nat} {p : Nat × Nat} : p ∈ setL L a v ↔ (p ∈ L ∧ p.1 ≠ a) ∨ (v ≠ 0 ∧ p = (a, v)) := by
  unfold setL
  rw [List.mem_append, List.mem_filter, decide_eq_true_eq]
  by_cases hv : v = 0
  · simp [hv]
  · simp [hv]
theorem setL_len (L : List (Nat × Nat)) (a v : Nat) : (setL L a v).length ≤ L.length + 1 := by
  unfold setL
  have h := List.length_filter_le (fun p : Nat × Nat => decide (p.1 ≠ a)) L
  rw [List.length_append]
  split <;> simp <;> simp at h <;> omega
theorem setL_nd {L : List (Nat × Nat)} (h : (L.map Prod.fst).Nodup) (a v : Nat) : ((setL L a v).map Prod.fst).Nodup := by
  have h1 : ((L.filter (fun p => decide (p.1 ≠ a))).map Prod.fst).Nodup := h.sublist ((List.filter_sublist (l := L)).map _)
  unfold setL
  rw [List.map_append, List.nodup_append]
  refine ⟨h1, by split <;> simp, fun x hx y hy e => ?_⟩
  obtain ⟨p, hp, rfl⟩ := List.mem_map.1 hx
  have hpa := of_decide_eq_true (List.mem_filter.1 hp).2
  by_cases hv : v = 0
  · simp [hv] at hy
  · simp [hv] at hy
    exact hpa (e.trans hy)
theorem isL_setL {L : List (Nat × Nat)} (hn : (L.map Prod.fst).Nodup) (hz : ∀ p ∈ L, p.2 ≠ 0) (a v b : Nat) : isL (setL L a v) b = if b = a then v else isL L b := by
  have hn' := setL_nd hn a v
  by_cases hb : b = a
  · subst hb
    rw [if_pos rfl]
    by_cases hv : v = 0
    · subst hv
      refine Decidable.byContradiction fun e => ?_
      obtain ⟨p, hp, h1, _⟩ := isL_pos e
      rcases setL_mem.1 hp with ⟨_, h2⟩ | ⟨h2, _⟩
      · exact h2 h1
      · exact h2 rfl
    · exact isL_mem hn' (setL_mem.2 (.inr ⟨hv, rfl⟩))
  · rw [if_neg hb]
    by_cases h0 : isL L b = 0
    · rw [h0]
      refine Decidable.byContradiction fun e => ?_
      obtain ⟨p, hp, h1, h3⟩ := isL_pos e
      rcases setL_mem.1 hp with ⟨h2, _⟩ | ⟨_, rfl⟩
      · have := isL_mem hn h2
        rw [h1, h0] at this
        exact hz p h2 this.symm
      · exact hb h1.symm
    · obtain ⟨p, hp, h1, h3⟩ := isL_pos h0
      have := isL_mem hn' (setL_mem.2 (.inl ⟨hp, by rw [h1]; exact hb⟩) : p ∈ setL L a v)
      rw [h1] at this
      rw [this, h3]
/-- A block that is there becomes v. -/
theorem W6Is.set {hs : List Hd} {cls : List Nat} {L : List (Nat × Nat)} (h : W6Is hs cls L) (ok : HsOk hs) (hm : hs.length ≤ 64) {i j v : Nat} {x : Hd} (hx : hs[i]? = some x) (hj : j < x.bl.length) :
    W6Is (hs.set i { x with bl := x.bl.set j v }) cls (setL L (adr x.no x.cls j) v) := by
  have hi := (List.getElem?_eq_some_iff.1 hx).1
  have hF : Found hs (adr x.no x.cls j) i j := ⟨x, hx, hj, rfl⟩
  refine ⟨?_, setL_nd h.nd _ _, fun p hp => ?_, fun b u hb => ?_⟩
  · rw [h.cls]
    apply List.ext_getElem?
    intro k
    rw [List.getElem?_map, List.getElem?_map, List.getElem?_set]
    by_cases hk : i = k
    · subst hk; rw [if_pos rfl, if_pos hi, hx]; rfl
    · rw [if_neg hk]
  · rcases setL_mem.1 hp with ⟨h1, _⟩ | ⟨h1, rfl⟩
    · exact h.nz p h1
    · exact h1
  · rw [isL_setL h.nd h.nz]
    rcases hb with ⟨i', j', y, hy, hj', he, hbl⟩ | ⟨hno, rfl⟩
    · rw [List.getElem?_set] at hy
      by_cases hk : i = i'
      · subst hk
        rw [if_pos rfl, if_pos hi] at hy
        cases hy
        have hj2 : j' < x.bl.length := by simpa using hj'
        have he2 : adr x.no x.cls j' = b := he
        have hbl2 : (x.bl.set j v)[j']? = some u := hbl
        rw [List.getElem?_set] at hbl2
        by_cases hjj : j = j'
        · subst hjj
          rw [if_pos rfl, if_pos hj] at hbl2
          cases hbl2
          rw [if_pos he2.symm]
        · rw [if_neg hjj] at hbl2
          have hF2 : Found hs b i j' := ⟨x, hx, hj2, he2⟩
          rw [if_neg fun e => by subst e; exact hjj (found_one ok hm hF hF2).2]
          exact h.at_ b u (.inl ⟨i, j', x, hx, hj2, he2, hbl2⟩)
      · rw [if_neg hk] at hy
        have hF2 : Found hs b i' j' := ⟨y, hy, hj', he⟩
        rw [if_neg fun e => by subst e; exact hk (found_one ok hm hF hF2).1]
        exact h.at_ b u (.inl ⟨i', j', y, hy, hj', he, hbl⟩)
    · have old : ∀ i' j', ¬ Found hs b i' j' := fun i' j' ⟨y, hy, hj', he⟩ => by
        by_cases hk : i = i'
        · subst hk
          rw [hx] at hy
          cases hy
          exact hno i j' ⟨{ x with bl := x.bl.set j v }, by rw [List.getElem?_set, if_pos rfl, if_pos hi], by simpa using hj', he⟩
        · exact hno i' j' ⟨y, by rw [List.getElem?_set, if_neg hk]; exact hy, hj', he⟩
      rw [if_neg fun e => by subst e; exact old i j hF]
      exact h.at_ b 0 (.inr ⟨old, rfl⟩)
/-- A void slab gets a class: nothing is said of its blocks. -/
theorem W6Is.claim {hs : List Hd} {cls : List Nat} {L : List (Nat × Nat)} (h : W6Is hs cls L) (ok : HsOk hs) (hm : hs.length ≤ 64) {i c : Nat} {x : Hd} (hx : hs[i]? = some x) (h0 : x.cls = 0) :
    W6Is (hs.set i ⟨x.no, c, 0, blK (blN c) 0 (blN c)⟩) (cls.set i c) L := by
  have hi := (List.getElem?_eq_some_iff.1 hx).1
  have hx0 : x.bl.length = 0 := by rw [(ok i x hx).2, h0]; rfl
  have ok' : HsOk (hs.set i ⟨x.no, c, 0, blK (blN c) 0 (blN c)⟩) := ok.claim hx
  have hm' : (hs.set i ⟨x.no, c, 0, blK (blN c) 0 (blN c)⟩).length ≤ 64 := by simpa using hm
  have new : ∀ {b i' j'}, Found hs b i' j' → i ≠ i' ∧ Found (hs.set i ⟨x.no, c, 0, blK (blN c) 0 (blN c)⟩) b i' j' := fun {b i' j'} ⟨y, hy, hj', he⟩ => by
    have hk : i ≠ i' := fun e => by subst e; rw [hx] at hy; cases hy; omega
    exact ⟨hk, y, by rw [List.getElem?_set, if_neg hk]; exact hy, hj', he⟩
  refine ⟨?_, h.nd, h.nz, fun b u hb => ?_⟩
  · rw [h.cls, List.map_set]
  · rcases hb with ⟨i', j', y, hy, hj', he, hbl⟩ | ⟨hno, rfl⟩
    · have hF2 : Found (hs.set i ⟨x.no, c, 0, blK (blN c) 0 (blN c)⟩) b i' j' := ⟨y, hy, hj', he⟩
      rw [List.getElem?_set] at hy
      by_cases hk : i = i'
      · subst hk
        rw [if_pos rfl, if_pos hi] at hy
        cases hy
        have hj2 : j' < blN c := by have h3 : j' < (blK (blN c) 0 (blN c)).length := hj'; rwa [blK_len] at h3
        have hbl2 : (blK (blN c) 0 (blN c))[j']? = some u := hbl
        rw [blK_val hj2] at hbl2
        simp at hbl2
        subst hbl2
        exact h.at_ b 0 (.inr ⟨fun i2 j2 hF => (new hF).1 (found_one ok' hm' hF2 (new hF).2).1, rfl⟩)
      · rw [if_neg hk] at hy
        exact h.at_ b u (.inl ⟨i', j', y, hy, hj', he, hbl⟩)
    · exact h.at_ b 0 (.inr ⟨fun i2 j2 hF => hno i2 j2 (new hF).2, rfl⟩)
end Go.Proofs.YtahojhaeebmpoaaGreatDoor
/- Room of the document's blocks; for at most a million blocks that are not free, at most sixty-four slabs. -/
namespace Go.Proofs.YtahojhaeebmpoaaGreatDoor
open Go.RowKit
set_option linter.unusedVariables false
set_option maxRecDepth 100000 in
set_option maxHeartbeats 4000000 in
theorem r6Room_any {w : World} {B gw size : Nat} {cls : List Nat} {L : List (Nat × Nat)} {vc vl : Value} (h : W6At w B gw size cls L vc vl) (hL : L.length ≤ 1000000) (hn64 : cls.length ≤ 64) (hcl : ∀ x ∈ cls, x ≤ 1000) {c : Nat} (hc : 1 ≤ c ∧ c ≤ 3) :
    Calls Tryz.prog 25 #[fpt gw, jv c] w fun e w' => e = .returned (jv (rmL cls L c cls.length)) ∧ w = w' := by
  obtain ⟨A, cap, hv, _, _, hs, _⟩ := own_sl h.cls
  subst hv
  have HIS := Lib.hid (fun a => r6Is_any h hL a)
  have c1 := h.row.cell 1
  simp only [List.getElem?_toArray, List.getElem?_cons_succ, List.getElem?_cons_zero] at c1
  obtain ⟨n, hn⟩ : ∃ n, n = cls.length := ⟨_, rfl⟩
  rw [← hn] at c1 hn64 ⊢
  have HN := Lib.hid hn
  have HCELL := Lib.hid (fun (i : Nat) (hi : i < n) => (show ∃ g x, A = some g ∧ cls.getD i 0 = x ∧ x ≤ 1000 ∧ w.cell? (g.add i) = some (.int .i64 (x : Int)) by
    have hi' : i < cls.length := by rw [← hn]; exact hi
    obtain ⟨g, e, q⟩ := hs.at_ (i := i) (by rw [List.length_map]; exact hi')
    refine ⟨g, cls[i], e, by rw [List.getD_eq_getElem?_getD, List.getElem?_eq_getElem hi']; rfl, hcl _ (List.getElem_mem hi'), ?_⟩
    rw [q, List.getElem_map]; rfl))
  have HBK := Lib.hid (refBlocks_any (c : Int) w)
  rw [blN_C] at HBK
  have HBL := Lib.hid (fun (i j : Nat) (h1 : 1 ≤ i ∧ i ≤ 64) (hj : j < blN c) => (show Calls Tryz.prog 42 #[.int .i64 (i : Int), .int .i64 (c : Int), .int .i64 (j : Int)] w fun e w' => e = .returned (.int .u64 (adr i c j : Int)) ∧ w = w' by
    have := refBlock_any (i : Int) (c : Int) (j : Int) w
    rw [adr_blk h1.1 h1.2 hj] at this
    exact this))
  have HRL := Lib.hid (rmL_le cls L c)
  obtain ⟨b, hb⟩ : ∃ b, b = blN c := ⟨_, rfl⟩
  have hb15 : b ≤ 15 := by rw [hb]; exact blN_le c
  rw [← hb] at HBK HBL
  have HBE := Lib.hid hb
  clear h hs hn hb hcl
  have HRR := Lib.hid (fun no x j => rmRow_le L no c x j)
  have HRN := Lib.hid (fun no x j => rmRow_next L no c x j)
  have HRS := Lib.hid (fun i => (show rmL cls L c (i + 1) = rmL cls L c i + rmRow L (i + 1) c (cls.getD i 0) b by rw [HBE.out]; rfl))
  unfold fpt jv at *
  unfold wv at HIS
  go_enter Tryz.func25, Tryz.ntmps25
  go_wp2
  go_loopg [5, 6] n (fun k u v wr => ∃ i : Nat, u = .int .i64 (rmL cls L c i : Int) ∧ v = .int .i64 ((i : Int) + 1) ∧ i ≤ n ∧ n - i ≤ k ∧ wr = w)
  case atStart => exact ⟨0, rfl, rfl, by omega, by omega, rfl⟩
  case round =>
    obtain ⟨i, rfl, rfl, hin, hk, rfl⟩ := hrel
    by_cases hlt : i < n
    · have hltI : decide ((i : Int) + 1 ≤ (n : Int)) = true := by simp; omega
      obtain ⟨g, x, rfl, hx, hx1000, q1⟩ := HCELL.out i hlt
      have HX := Lib.hid hx
      have h15 := HRL.out i
      obtain ⟨R, hR⟩ : ∃ R, R = rmL cls L c i := ⟨_, rfl⟩
      rw [← hR] at h15 ⊢
      have HR := Lib.hid hR
      obtain ⟨i1, hi1⟩ : ∃ i1, i1 = i + 1 := ⟨_, rfl⟩
      have hi1I : ((i : Int) + 1) = (i1 : Int) := by omega
      rw [hi1I] at hltI ⊢
      have hsub : (i1 : Int) - 1 = (i : Int) := by omega
      have hi1b : 1 ≤ i1 ∧ i1 ≤ 64 := by omega
      have hi1n : i1 ≤ n := by omega
      have HI1 := Lib.hid hi1
      clear hx hR hi1 hi1I
      go_wp2
      go_loopg [5, 7] b (fun k u v wr2 => ∃ j : Nat, u = .int .i64 ((R + rmRow L i1 c x j : Nat) : Int) ∧ v = .int .i64 (j : Int) ∧ j ≤ b ∧ b - j ≤ k ∧ wr2 = wr)
      case atStart => exact ⟨0, by simp [rmRow], rfl, by omega, by omega, rfl⟩
      case round =>
        obtain ⟨j, rfl, rfl, hjb, hk2, rfl⟩ := hrel
        go_wp2_with fail
        refine HBK.out.mono ?_
        rintro e w1 ⟨rfl, rfl⟩
        by_cases hltj : j < b
        · have hltJ : decide ((j : Int) < (b : Int)) = true := by simp; omega
          have hrow := HRR.out i1 x j
          have hnext := HRN.out i1 x j
          obtain ⟨T, hT⟩ : ∃ T, T = R + rmRow L i1 c x j := ⟨_, rfl⟩
          rw [← hT]
          have hTb : T ≤ 15 * i + j := by omega
          have HT := Lib.hid hT
          have HNX := Lib.hid hnext
          clear hT hnext hrow
          by_cases hx0 : x = 0
          · have e0 : ((x : Int) == 0) = true := by simp; omega
            have HY : Hid (rmB L i1 c x j = true) := Lib.hid (by simp [rmB, hx0])
            clear hx0
            go_wp2
            go_roundg (b - (j + 1))
            case measure => omega
            case rel => exact ⟨j + 1, by have := HNX.out; rw [HY.out] at this; have := HT.out; rw [if_pos rfl] at *; congr 1; omega, by go_num, by omega, by omega, rfl⟩
          · have e0 : ((x : Int) == 0) = false := by simp; omega
            have HX0 := Lib.hid hx0
            clear hx0
            by_cases hxc : x = c
            · have e1 : ((x : Int) == (c : Int)) = true := by simp; omega
              have HXC := Lib.hid hxc
              clear hxc
              have HB2 := Lib.hid (HBL.out i1 j hi1b hltj)
              obtain ⟨ad, had⟩ : ∃ ad, ad = adr i1 c j := ⟨_, rfl⟩
              rw [← had] at HB2
              have HI2 := Lib.hid (HIS.out ad)
              obtain ⟨z, hz⟩ : ∃ z, z = isL L ad := ⟨_, rfl⟩
              rw [← hz] at HI2
              have HAD := Lib.hid had
              have HZ := Lib.hid hz
              clear had hz
              go_wp2_with fail
              refine HB2.out.mono ?_
              rintro e w1 ⟨rfl, rfl⟩
              go_wp2_with fail
              refine HI2.out.mono ?_
              rintro e w1 ⟨rfl, rfl⟩
              by_cases hz0 : z = 0
              · have e2 : ((z : Int) == 0) = true := by simp; omega
                have HY : Hid (rmB L i1 c x j = true) := Lib.hid (by simp [rmB, HXC.out, ← HAD.out, ← HZ.out, hz0])
                clear hz0
                go_wp2
                go_roundg (b - (j + 1))
                case measure => omega
                case rel => exact ⟨j + 1, by have := HNX.out; rw [HY.out] at this; have := HT.out; rw [if_pos rfl] at *; congr 1; omega, by go_num, by omega, by omega, rfl⟩
              · have e2 : ((z : Int) == 0) = false := by simp; omega
                have HY : Hid (rmB L i1 c x j = false) := Lib.hid (by have := HX0.out; have hc0 : ¬ c = 0 := by omega
                                                                      simp [rmB, HXC.out, ← HAD.out, ← HZ.out, hz0, hc0])
                clear hz0
                go_wp2
                go_roundg (b - (j + 1))
                case measure => omega
                case rel => exact ⟨j + 1, by have h1 := HNX.out; rw [HY.out, if_neg (by decide)] at h1; have h2 := HT.out; congr 1; omega, by go_num, by omega, by omega, rfl⟩
            · have e1 : ((x : Int) == (c : Int)) = false := by simp; omega
              have HY : Hid (rmB L i1 c x j = false) := Lib.hid (by have := HX0.out; simp [rmB, hxc, this])
              clear hxc
              go_wp2
              go_roundg (b - (j + 1))
              case measure => omega
              case rel => exact ⟨j + 1, by have h1 := HNX.out; rw [HY.out, if_neg (by decide)] at h1; have h2 := HT.out; congr 1; omega, by go_num, by omega, by omega, rfl⟩
        · have hje : j = b := by omega
          have hdj : decide ((j : Int) < (b : Int)) = false := by simp; omega
          have hfin : R + rmRow L i1 c x j = rmL cls L c (i + 1) := by rw [HRS.out, HR.out, HX.out, HI1.out, hje]
          have HFIN := Lib.hid hfin
          have hrow := HRR.out i1 x j
          clear hfin hje
          go_wp2
          go_roundg (n - (i + 1))
          case measure => omega
          case rel => exact ⟨i + 1, by have := HFIN.out; congr 1; omega, by have := HI1.out; congr 1; omega, by omega, by omega, rfl⟩
    · have hie : i = n := by omega
      have hid : decide ((i : Int) + 1 ≤ (n : Int)) = false := by simp; omega
      have HIE := Lib.hid hie
      clear hie
      go_wp2
      go_ret
      exact ⟨by rw [HIE.out]; rfl, rfl⟩
end Go.Proofs.YtahojhaeebmpoaaGreatDoor
/- Used of the document's blocks: those in use, rising; two lists of one's own that read alike are the same; for at most a thousand blocks. -/
namespace Go.Proofs.YtahojhaeebmpoaaGreatDoor
open Go.RowKit
set_option linter.unusedVariables false
def U6Post (w : World) (xs : List Nat) (e : Ending) (w' : World) : Prop := ∃ v, e = .returned v ∧ w'.ownsRow w.heap.size 24 1 v xs.length (xs.map wv) ∧ Below w.heap.size w w'
set_option maxRecDepth 100000 in
set_option maxHeartbeats 4000000 in
theorem r6Used_any {w : World} {B gw size : Nat} {cls : List Nat} {L : List (Nat × Nat)} {vc vl : Value} (h : W6At w B gw size cls L vc vl) (hL : L.length ≤ 1000) (hn : (L.map Prod.fst).Nodup) (h0 : ∀ p ∈ L, p.1 ≠ 0) :
    Calls Tryz.prog 24 #[fpt gw] w (U6Post w (usedR L)) := by
  obtain ⟨n, hnl⟩ : ∃ n, n = L.length := ⟨_, rfl⟩
  obtain ⟨A, cap, hv⟩ : ∃ A cap, vl = .slice A L.length cap := by
    rcases h.bl.2 with ⟨rfl, h0⟩ | ⟨g, cap, cur, rfl, _, _, h1, h2, _⟩
    · exact ⟨none, 0, by rw [h0]⟩
    · exact ⟨_, cap, rfl⟩
  subst hv
  rw [← hnl] at h hL
  have H := Lib.hid h
  have HN := Lib.hid hnl
  have HCELL := Lib.hid (fun (W : World) (hb : Below w.heap.size w W) (i : Nat) (p : Nat × Nat) (hp : L[i]? = some p) => (show ∃ g, A = some ⟨g, 0, none⟩ ∧ W.cell? ⟨g, i * 2, none⟩ = some (.int .u64 (p.1 : Int)) ∧ W.cell? ⟨g, i * 2 + 1, none⟩ = some (.int .i64 (p.2 : Int)) by
    obtain ⟨q1, q2⟩ := flatB_get L i p hp
    have hi := (List.getElem?_eq_some_iff.1 hp).1
    rcases (h.below hb).bl.2 with ⟨_, h0⟩ | ⟨g, cap', cur, h0, _, hh, _, _, _, ht⟩
    · omega
    · simp only [Value.slice.injEq] at h0
      have hrow : Row W g 99 cur := hh
      refine ⟨g, h0.1, ?_, ?_⟩
      · rw [hrow.cell, ← Array.getElem?_toList]
        rw [← ht, List.getElem?_take] at q1
        split at q1
        · exact q1
        · cases q1
      · rw [hrow.cell, ← Array.getElem?_toList]
        rw [← ht, List.getElem?_take] at q2
        split at q2
        · exact q2
        · cases q2))
  have HC2 := Lib.hid (fun (W : World) (hb : Below w.heap.size w W) => (show W.cell? ⟨gw, 2, none⟩ = some (.slice A n cap) by
    have := (h.below hb).row.cell 2
    simpa using this))
  have HND := Lib.hid hn
  have HNZ := Lib.hid h0
  have HNEW : Hid (AdAt (w.alloc (.cells #[.slice none 0 0] 134)) w.heap.size w.heap.size [] (.slice none 0 0)) := Lib.hid ⟨Row.new _ _ _, World.ownsRow_nil _ _ _ _⟩
  clear h hnl hn h0
  unfold fpt
  go_enter Tryz.func24, Tryz.ntmps24
  go_wp2
  go_loopg [4] n (fun k v wr => ∃ (i : Nat) (vL : Value), v = .int .i64 (i : Int) ∧ i ≤ n ∧ n - i ≤ k ∧ AdAt wr w.heap.size w.heap.size (usedR (L.take i)) vL ∧ Below w.heap.size w wr)
  case atStart => exact ⟨0, _, rfl, by omega, by omega, by rw [List.take_zero]; exact HNEW.out, alloc_below _ _⟩
  case round =>
    obtain ⟨i, vL, rfl, hin, hk, hA, hlow⟩ := hrel
    rename World => wr
    have HA := Lib.hid hA
    have HLW := Lib.hid hlow
    have c2 := HC2.out wr hlow
    have cs : wr.cell? ⟨w.heap.size, 0, none⟩ = some vL := by have := hA.row.cell 0; simpa using this
    clear hA hlow HNEW
    by_cases hlt : i < n
    · obtain ⟨p, hp⟩ : ∃ p, L[i]? = some p := ⟨_, List.getElem?_eq_getElem (by rw [← HN.out]; exact hlt)⟩
      obtain ⟨g, rfl, q1, q2⟩ := HCELL.out wr HLW.out i p hp
      have hstep : usedR (L.take (i + 1)) = if uN p.2 = true then insN (usedR (L.take i)) p.1 else usedR (L.take i) := by
        rw [List.take_add_one, hp, Option.toList_some, usedR_snoc]
      have hnm : p.1 ∉ usedR (L.take i) := fun hm => by
        obtain ⟨q, hq, _, he⟩ := (usedR_mem _ _).1 hm
        obtain ⟨t, ht, rfl⟩ := List.getElem_of_mem hq
        rw [List.getElem_take] at he
        have hti : t < i := by simp at ht; omega
        obtain ⟨hil, hpe⟩ := List.getElem?_eq_some_iff.1 hp
        have := (List.pairwise_iff_getElem.1 HND.out) t i (by simp; omega) (by simpa using hil) hti
        simp [hpe] at this
        exact this he
      have hul : (usedR (L.take i)).length ≤ 1000 := by
        have key : ∀ (M : List (Nat × Nat)), (usedR M).length ≤ M.length := by
          intro M
          have k2 : ∀ m, m ≤ M.length → (usedR (M.take m)).length ≤ m := by
            intro m
            induction m with
            | zero => intro _; simp [usedR]
            | succ m ih =>
              intro hm
              rw [List.take_succ_eq_append_getElem (by omega), usedR_snoc]
              have := ih (by omega)
              split
              · rw [insN_len]; omega
              · omega
          have := k2 M.length (Nat.le_refl _)
          rwa [List.take_length] at this
        have := key (L.take i)
        have h2 : (L.take i).length ≤ i := by rw [List.length_take]; omega
        omega
      have HP0 := Lib.hid (HNZ.out p (List.mem_of_getElem? hp))
      have HST := Lib.hid hstep
      clear hp hstep
      by_cases hu : uN p.2 = true
      · have HPUT := Lib.hid (aPut_new HA.out hul HLW.out.size HP0.out hnm)
        have HU := Lib.hid hu
        unfold wv at HPUT
        have fin : ∀ W', AdLeft wr w.heap.size w.heap.size (insN (usedR (L.take i)) p.1) W' → ∃ vL', AdAt W' w.heap.size w.heap.size (usedR (L.take (i + 1))) vL' ∧ Below w.heap.size w W' := fun W' hl => by
          obtain ⟨vL', h1, _, h3⟩ := hl
          refine ⟨vL', by rw [HST.out, if_pos HU.out]; exact h1, ?_⟩
          exact ⟨h3.os.trans HLW.out.os, h3.tape.trans HLW.out.tape, h3.output.trans HLW.out.output, Nat.le_trans HLW.out.size h3.size, fun k hk => (h3.block k (Nat.lt_of_lt_of_le hk HLW.out.size) (by omega)).trans (HLW.out.block k hk)⟩
        have HFIN := Lib.hid fin
        clear fin hnm hul
        by_cases h2 : p.2 = 2
        · have e2 : ((p.2 : Int) == 2) = true := by simp; omega
          clear h2 hu
          go_wp2_with fail
          refine HPUT.out.mono ?_
          rintro e w1 ⟨rfl, hl⟩
          obtain ⟨vL', h1, h3⟩ := HFIN.out w1 hl
          have H1 := Lib.hid h1
          have H3 := Lib.hid h3
          clear hl h1 h3
          go_wp2
          go_roundg (n - (i + 1))
          case measure => omega
          case rel => exact ⟨i + 1, vL', by go_num, by omega, by omega, H1.out, H3.out⟩
        · have h3 : p.2 = 3 := by simp [uN] at hu; omega
          have e2 : ((p.2 : Int) == 2) = false := by simp; omega
          have e3 : ((p.2 : Int) == 3) = true := by simp; omega
          clear h2 h3 hu
          go_wp2_with fail
          refine HPUT.out.mono ?_
          rintro e w1 ⟨rfl, hl⟩
          obtain ⟨vL', h1, h3⟩ := HFIN.out w1 hl
          have H1 := Lib.hid h1
          have H3 := Lib.hid h3
          clear hl h1 h3
          go_wp2
          go_roundg (n - (i + 1))
          case measure => omega
          case rel => exact ⟨i + 1, vL', by go_num, by omega, by omega, H1.out, H3.out⟩
      · have e2 : ((p.2 : Int) == 2) = false := by
          have : p.2 ≠ 2 := fun q => hu (by simp [uN, q])
          simp; omega
        have e3 : ((p.2 : Int) == 3) = false := by
          have : p.2 ≠ 3 := fun q => hu (by simp [uN, q])
          simp; omega
        have HU := Lib.hid hu
        clear hu hnm hul
        go_wp2
        go_roundg (n - (i + 1))
        case measure => omega
        case rel => exact ⟨i + 1, vL, by go_num, by omega, by omega, by rw [HST.out, if_neg HU.out]; exact HA.out, HLW.out⟩
    · have hie : i = n := by omega
      have hid : decide ((i : Int) < (n : Int)) = false := by simp; omega
      have HE : Hid (wr.ownsRow w.heap.size 24 1 vL (usedR L).length ((usedR L).map wv)) := Lib.hid (by
        have := HA.out.li
        rw [hie, HN.out, List.take_length] at this
        exact this)
      clear hie
      go_wp2
      go_ret
      exact ⟨vL, rfl, HE.out, HLW.out⟩
set_option maxRecDepth 100000 in
set_option maxHeartbeats 2000000 in
theorem r5Same_own {w : World} {B B' n : Nat} {v v' : Value} {xs : List Nat} (h : w.ownsRow B 24 1 v n (xs.map wv)) (h' : w.ownsRow B' 24 1 v' n (xs.map wv)) (hl : n ≤ 1000000000) :
    Calls Tryz.prog 28 #[v, v'] w fun e w' => e = .returned (.bool true) ∧ Below w.heap.size w w' := by
  obtain ⟨A, c, hv, _, _, hs, hlen⟩ := own_sl h
  obtain ⟨A', c', hv', _, _, hs', _⟩ := own_sl h'
  subst hv hv'
  rw [List.length_map] at hlen
  have HX := Lib.hid (fun k (hk : k < n) => (show ∃ x g g', A = some g ∧ A' = some g' ∧ w.cell? (g.add k) = some (.int .u64 ((x : Nat) : Int)) ∧ w.cell? (g'.add k) = some (.int .u64 ((x : Nat) : Int)) by
    obtain ⟨g, e1, h1⟩ := hs.at_ (i := k) (by rw [List.length_map]; omega)
    obtain ⟨g', e2, h2⟩ := hs'.at_ (i := k) (by rw [List.length_map]; omega)
    rw [List.getElem_map] at h1 h2
    exact ⟨_, g, g', e1, e2, h1, h2⟩))
  have hne : ((n : Int) != (n : Int)) = false := by simp
  clear h h' hs hs' hlen
  go_enter Tryz.func28, Tryz.ntmps28
  go_wp2_with fail
  go_loopw [5] (fun i wr => ∃ k : Nat, k ≤ n ∧ i = .int .i64 (k : Int) ∧ ∃ q, wr = w.drewN q) (fun i _ => n - (intOf i).toNat)
  case atStart => exact ⟨0, by omega, rfl, 0, rfl⟩
  case round =>
    obtain ⟨k, hk, rfl, q, rfl⟩ := hrel
    by_cases hlt : k < n
    · obtain ⟨x, g, g', rfl, rfl, a1, b1⟩ := HX.out k hlt
      have hxx : ((x : Int) != (x : Int)) = false := by simp
      go_wp2
      go_quiet (fail)
      go_wp2
      exact ⟨⟨k + 1, by omega, by go_num, q + nq, rfl⟩, by simp [intOf]; omega⟩
    · obtain rfl : k = n := by omega
      go_wp2
      go_ret
      exact ⟨rfl, drewN_below _ _⟩
end Go.Proofs.YtahojhaeebmpoaaGreatDoor
