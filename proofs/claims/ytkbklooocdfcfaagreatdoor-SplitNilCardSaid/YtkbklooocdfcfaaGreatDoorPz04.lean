/- Texts of this claim, packed: HMath, BMath. -/
import Derived.Test.YtkbklooocdfcfaaGreatDoorRows
set_option linter.unusedVariables false
set_option maxRecDepth 100000
set_option maxHeartbeats 6400000
namespace Go.Proofs.YtkbklooocdfcfaaGreatDoor
def gd (l : List Nat) (i : Nat) : Nat := l.getD i 0
def swp (l : List Nat) (i j : Nat) : List Nat := (l.set i (gd l j)).set j (gd l i)
theorem gd_eq {l : List Nat} {i : Nat} (h : i < l.length) : l[i]? = some (gd l i) := by simp [gd, h]
theorem gd_mem {l : List Nat} {i : Nat} (h : i < l.length) : gd l i ∈ l := List.mem_of_getElem? (gd_eq h)
theorem swp_length (l : List Nat) (i j : Nat) : (swp l i j).length = l.length := by simp [swp]
theorem gd_set (l : List Nat) (i k x : Nat) (h : i < l.length) : gd (l.set i x) k = if k = i then x else gd l k := by
 unfold gd
 rw [List.getD_eq_getElem?_getD, List.getD_eq_getElem?_getD, List.getElem?_set]
 by_cases e : i = k
 ·subst e; simp [h]
 ·simp [e, Ne.symm e]
theorem gd_swp {l : List Nat} {i j : Nat} (hi : i < l.length) (hj : j < l.length) (k : Nat) : gd (swp l i j) k = if k = j then gd l i else if k = i then gd l j else gd l k := by
 unfold swp
 rw [gd_set _ _ _ _ (by simpa using hj), gd_set _ _ _ _ hi]
theorem set_perm {l : List Nat} {i : Nat} (h : i < l.length) (x : Nat) : (gd l i :: l.set i x).Perm (x :: l) := by
 induction l generalizing i with
 | nil => simp at h
 | cons a l ih =>
  cases i with
  | zero => simp [gd]; exact List.Perm.swap _ _ _
  | succ i =>
   have h' : i < l.length := by simpa using h
   have e : gd (a :: l) (i + 1) = gd l i := by simp [gd]
   rw [e, List.set_cons_succ]
   exact (List.Perm.swap _ _ _).trans (((ih h').cons a).trans (List.Perm.swap _ _ _))
theorem swp_perm {l : List Nat} {i j : Nat} (hi : i < l.length) (hj : j < l.length) : (swp l i j).Perm l := by
 unfold swp
 by_cases e : i = j
 ·subst e
  have h2 : (l.set i (gd l i)).set i (gd l i) = l := by
   apply List.ext_getElem?
   intro k
   by_cases hk : i = k
   ·subst hk; rw [List.getElem?_set_self (by simpa using hi), gd_eq hi]
   ·rw [List.getElem?_set_ne hk, List.getElem?_set_ne hk]
  rw [h2]
 ·have h1 := set_perm hi (gd l j)
  have h2 : (gd (l.set i (gd l j)) j :: (l.set i (gd l j)).set j (gd l i)).Perm (gd l i :: l.set i (gd l j)) := set_perm (by simpa using hj) (gd l i)
  rw [gd_set _ _ _ _ hi, if_neg (Ne.symm e)] at h2
  have h3 := h2.trans h1
  exact (List.perm_cons _).1 h3
def HeapP (l : List Nat) (n : Nat) : Prop := ∀ i, 0 < i -> i < n -> gd l ((i - 1) / 2) <= gd l i
def upF (l : List Nat) (j : Nat) : List Nat :=
 if h : 0 < j /\ gd l j < gd l ((j - 1) / 2) then upF (swp l ((j - 1) / 2) j) ((j - 1) / 2) else l
termination_by j
decreasing_by omega
def UpPre (l : List Nat) (j n : Nat) : Prop := (∀ i, 0 < i -> i < n -> i ≠ j -> gd l ((i - 1) / 2) <= gd l i) /\ (∀ i, 0 < i -> i < n -> (i - 1) / 2 = j -> 0 < j -> gd l ((j - 1) / 2) <= gd l i)
theorem upF_length (l : List Nat) (j : Nat) : (upF l j).length = l.length := by
 induction j using Nat.strongRecOn generalizing l with
 | _ j ih =>
  unfold upF
  split
  ·rw [ih _ (by omega), swp_length]
  ·rfl
theorem upF_heap {l : List Nat} {j n : Nat} (hn : n <= l.length) (hj : j < n) (h : UpPre l j n) : HeapP (upF l j) n /\ (upF l j).Perm l /\ ∀ k, n <= k -> gd (upF l j) k = gd l k := by
 induction j using Nat.strongRecOn generalizing l with
 | _ j ih =>
  unfold upF
  split
  ·rename_i hc
   obtain ⟨h0, hlt⟩ := hc
   have hp : (j - 1) / 2 < j := by omega
   have g := gd_swp (l := l) (i := (j - 1) / 2) (j := j) (by omega) (by omega)
   obtain ⟨p, hpe⟩ : ∃ p, p = (j - 1) / 2 := ⟨_, rfl⟩
   rw [<- hpe] at g hp hlt ⊢
   have := ih p (by omega) (l := swp l p j) (by rw [swp_length]; omega) (by omega) ⟨?_, ?_⟩
   ·refine ⟨this.1, this.2.1.trans (swp_perm (by omega) (by omega)), fun k hk => ?_⟩
    rw [this.2.2 k hk, g, if_neg (by omega), if_neg (by omega)]
   ·intro i h1 h2 h3
    rw [g, g]
    by_cases e1 : i = j
    ·subst e1
     rw [<- hpe, if_pos rfl, if_neg (by omega), if_pos rfl]
     omega
    ·rw [if_neg e1, if_neg h3]
     by_cases e2 : (i - 1) / 2 = j
     ·rw [if_pos e2]
      have := h.2 i h1 h2 e2 h0
      rw [<- hpe] at this; exact this
     ·rw [if_neg e2]
      by_cases e3 : (i - 1) / 2 = p
      ·rw [if_pos e3]
       have := h.1 i h1 h2 e1
       rw [e3] at this; omega
      ·rw [if_neg e3]
       exact h.1 i h1 h2 e1
   ·intro i h1 h2 h3 h4
    have hpp := h.1 p h4 (by omega) (by omega)
    rw [g, g, if_neg (by omega), if_neg (by omega)]
    by_cases e1 : i = j
    ·rw [if_pos e1]; exact hpp
    ·rw [if_neg e1, if_neg (by omega)]
     have := h.1 i h1 h2 e1
     rw [h3] at this
     omega
  ·rename_i hc
   refine ⟨fun i h1 h2 => ?_, List.Perm.refl _, fun _ _ => rfl⟩
   by_cases e : i = j
   ·subst e; omega
   ·exact h.1 i h1 h2 e
def dnJ (l : List Nat) (i n : Nat) : Nat := if 2 * i + 2 < n /\ gd l (2 * i + 2) < gd l (2 * i + 1) then 2 * i + 2 else 2 * i + 1
def downF (l : List Nat) (i n : Nat) : List Nat × Nat :=
 if h : 2 * i + 1 < n /\ gd l (dnJ l i n) < gd l i then downF (swp l i (dnJ l i n)) (dnJ l i n) n else (l, i)
termination_by n - i
decreasing_by unfold dnJ; split <;> omega
theorem dnJ_lt {l : List Nat} {i n : Nat} (h : 2 * i + 1 < n) : i < dnJ l i n /\ dnJ l i n < n /\ (dnJ l i n - 1) / 2 = i := by
 unfold dnJ; split <;> omega
theorem dnJ_min {l : List Nat} {i n k : Nat} (h : 2 * i + 1 < n) (h0 : 0 < k) (hk : k < n) (hp : (k - 1) / 2 = i) : gd l (dnJ l i n) <= gd l k := by
 have e : k = 2 * i + 1 \/ k = 2 * i + 2 := by omega
 unfold dnJ
 rcases e with rfl | rfl
 ·split <;> omega
 ·split
  ·omega
  ·rename_i hc
   have : ¬ gd l (2 * i + 2) < gd l (2 * i + 1) := fun h' => hc ⟨hk, h'⟩
   omega
theorem downF_length (l : List Nat) (i n : Nat) : (downF l i n).1.length = l.length := by
 obtain ⟨m, hm⟩ : ∃ m, m = n - i := ⟨_, rfl⟩
 induction m using Nat.strongRecOn generalizing l i with
 | _ m ih =>
  unfold downF
  split
  ·rename_i hc
   have := dnJ_lt (l := l) hc.1
   rw [ih (n - dnJ l i n) (by omega) _ _ rfl, swp_length]
  ·rfl
def DownPre (l : List Nat) (i n : Nat) : Prop := (∀ k, 0 < k -> k < n -> k ≠ i -> (k - 1) / 2 ≠ i -> gd l ((k - 1) / 2) <= gd l k) /\ (∀ k, 0 < k -> k < n -> (k - 1) / 2 = i -> 0 < i -> gd l ((i - 1) / 2) <= gd l k)
theorem down_step {l : List Nat} {i n : Nat} (hn : n <= l.length) (h : DownPre l i n) (h1 : 2 * i + 1 < n) (hlt : gd l (dnJ l i n) < gd l i) :
  DownPre (swp l i (dnJ l i n)) (dnJ l i n) n /\ (0 < dnJ l i n -> gd (swp l i (dnJ l i n)) ((dnJ l i n - 1) / 2) <= gd (swp l i (dnJ l i n)) (dnJ l i n)) := by
 obtain ⟨hj1, hj2, hj3⟩ := dnJ_lt (l := l) h1
 have hmin := fun k => dnJ_min (l := l) (k := k) h1
 generalize dnJ l i n = j at *
 have g := gd_swp (l := l) (i := i) (j := j) (by omega) (by omega)
 refine ⟨⟨fun k k0 kn kj kp => ?_, fun k k0 kn kp j0 => ?_⟩, fun _ => ?_⟩
 ·rw [g, g, if_neg kp, if_neg kj]
  by_cases e1 : (k - 1) / 2 = i
  ·rw [if_pos e1, if_neg (by omega)]
   exact hmin k k0 kn e1
  ·rw [if_neg e1]
   by_cases e2 : k = i
   ·subst e2
    rw [if_pos rfl]
    have := h.2 j (by omega) (by omega) hj3 k0
    exact this
   ·rw [if_neg e2]
    exact h.1 k k0 kn e2 e1
 ·rw [hj3, g, g, if_neg (by omega), if_pos rfl, if_neg (by omega), if_neg (by omega)]
  have := h.1 k k0 kn (by omega) (by omega)
  rw [kp] at this
  exact this
 ·rw [hj3, g, g, if_neg (by omega), if_pos rfl, if_pos rfl]
  omega
theorem down_rest {l : List Nat} {i n : Nat} (hn : n <= l.length) (hi : i < n \/ n <= i) (h : DownPre l i n) : (downF l i n).1.Perm l /\ (∀ k, n <= k -> gd (downF l i n).1 k = gd l k) /\ i <= (downF l i n).2 := by
 obtain ⟨m, hm⟩ : ∃ m, m = n - i := ⟨_, rfl⟩
 induction m using Nat.strongRecOn generalizing l i with
 | _ m ih =>
  unfold downF
  split
  ·rename_i hc
   have hj := dnJ_lt (l := l) hc.1
   have hs := down_step hn h hc.1 hc.2
   have g := gd_swp (l := l) (i := i) (j := dnJ l i n) (by omega) (by omega)
   have := ih (n - dnJ l i n) (by omega) (l := swp l i (dnJ l i n)) (i := dnJ l i n) (by rw [swp_length]; omega) (by omega) hs.1 rfl
   refine ⟨this.1.trans (swp_perm (by omega) (by omega)), fun k hk => ?_, by omega⟩
   rw [this.2.1 k hk, g, if_neg (by omega), if_neg (by omega)]
  ·exact ⟨List.Perm.refl _, fun _ _ => rfl, Nat.le_refl _⟩
theorem down_heap {l : List Nat} {i n : Nat} (hn : n <= l.length) (h : DownPre l i n) (hu : 0 < i -> i < n -> gd l ((i - 1) / 2) <= gd l i) : HeapP (downF l i n).1 n := by
 obtain ⟨m, hm⟩ : ∃ m, m = n - i := ⟨_, rfl⟩
 induction m using Nat.strongRecOn generalizing l i with
 | _ m ih =>
  unfold downF
  split
  ·rename_i hc
   have hj := dnJ_lt (l := l) hc.1
   have hs := down_step hn h hc.1 hc.2
   exact ih (n - dnJ l i n) (by omega) (by rw [swp_length]; omega) hs.1 (fun h0 _ => hs.2 h0) rfl
  ·rename_i hc
   intro k k0 kn
   by_cases e1 : k = i
   ·subst e1; exact hu k0 kn
   ·by_cases e2 : (k - 1) / 2 = i
    ·have h1 : 2 * i + 1 < n := by omega
     have := dnJ_min (l := l) h1 k0 kn e2
     have h3 : ¬ gd l (dnJ l i n) < gd l i := fun h' => hc ⟨h1, h'⟩
     show gd l ((k - 1) / 2) <= gd l k
     rw [e2]; omega
    ·exact h.1 k k0 kn e1 e2
theorem heap_min {l : List Nat} (h : HeapP l l.length) {i : Nat} (hi : i < l.length) : gd l 0 <= gd l i := by
 induction i using Nat.strongRecOn with
 | _ i ih =>
  by_cases e : i = 0
  ·subst e; exact Nat.le_refl _
  ·have := ih ((i - 1) / 2) (by omega) (by omega)
   have := h i (by omega) hi
   omega
theorem gd_take {l : List Nat} {n k : Nat} (h : k < n) : gd (l.take n) k = gd l k := by
 simp [gd, List.getD_eq_getElem?_getD, List.getElem?_take, h]
theorem heap_take {l : List Nat} {n : Nat} (h : HeapP l n) : HeapP (l.take n) n := by
 intro i h0 hn
 rw [gd_take (by omega), gd_take (by omega)]
 exact h i h0 hn
theorem take_last {l : List Nat} {n : Nat} (h : l.length = n + 1) : l.take n ++ [gd l n] = l := by
 have := List.take_succ_eq_append_getElem (l := l) (i := n) (by omega)
 have e : gd l n = l[n] := by simp [gd, h]
 rw [e, <- this, List.take_of_length_le (by omega)]
theorem perm_take {l l' : List Nat} {n x : Nat} (h : l'.length = n + 1) (hp : l'.Perm l) (hx : gd l' n = x) : (x :: l'.take n).Perm l := by
 have := take_last h
 rw [hx] at this
 have h2 : (x :: l'.take n).Perm (l'.take n ++ [x]) := (List.perm_append_singleton x (l'.take n)).symm
 rw [this] at h2
 exact h2.trans hp
theorem push_heap {l : List Nat} (h : HeapP l l.length) (x : Nat) : HeapP (upF (l ++ [x]) l.length) (l.length + 1) /\ (upF (l ++ [x]) l.length).Perm (x :: l) /\ (upF (l ++ [x]) l.length).length = l.length + 1 := by
 have hg : ∀ k, k < l.length -> gd (l ++ [x]) k = gd l k := fun k hk => by simp [gd, List.getD_eq_getElem?_getD, List.getElem?_append_left hk]
 have := upF_heap (l := l ++ [x]) (j := l.length) (n := l.length + 1) (by simp) (by omega) ⟨fun i h0 hn hi => by rw [hg _ (by omega), hg _ (by omega)]; exact h i h0 (by omega), fun i h0 hn hp hj => by omega⟩
 exact ⟨this.1, this.2.1.trans (List.perm_append_singleton _ _), by rw [upF_length]; simp⟩
def popF (l : List Nat) : List Nat := (downF (swp l 0 (l.length - 1)) 0 (l.length - 1)).1
theorem pop_heap {l : List Nat} (h : HeapP l l.length) (h0 : 0 < l.length) : (popF l).length = l.length /\ gd (popF l) (l.length - 1) = gd l 0 /\ HeapP ((popF l).take (l.length - 1)) (l.length - 1) /\ (gd l 0 :: (popF l).take (l.length - 1)).Perm l := by
 have g := gd_swp (l := l) (i := 0) (j := l.length - 1) h0 (by omega)
 have hpre : DownPre (swp l 0 (l.length - 1)) 0 (l.length - 1) := by
  refine ⟨fun k k0 kn ke kp => ?_, fun k k0 kn kp h' => absurd h' (by omega)⟩
  rw [g, g, if_neg (by omega), if_neg (by omega), if_neg (by omega), if_neg (by omega)]
  exact h k k0 (by omega)
 have hr := down_rest (l := swp l 0 (l.length - 1)) (i := 0) (n := l.length - 1) (by rw [swp_length]; omega) (by omega) hpre
 have hh := down_heap (l := swp l 0 (l.length - 1)) (i := 0) (n := l.length - 1) (by rw [swp_length]; omega) hpre (fun h' => absurd h' (by omega))
 have hl : (popF l).length = l.length := by rw [popF, downF_length, swp_length]
 have hx : gd (popF l) (l.length - 1) = gd l 0 := by rw [popF, hr.2.1 _ (Nat.le_refl _), g, if_pos rfl]
 exact ⟨hl, hx, heap_take hh, perm_take (by omega) (hr.1.trans (swp_perm h0 (by omega))) hx⟩
def hasB (b : Nat) (j : Int) : Bool := decide (0 <= j /\ j <= 63) && b.testBit j.toNat
def mk (j : Int) : Nat := if 0 <= j /\ j <= 63 then 2 ^ j.toNat else 0
def setB (b : Nat) (j : Int) : Nat := if hasB b j then b else b + mk j
def clrB (b : Nat) (j : Int) : Nat := if hasB b j then b - mk j else b
theorem hasB_in {b : Nat} {j : Int} (h : 0 <= j /\ j <= 63) : hasB b j = b.testBit j.toNat := by unfold hasB; rw [decide_eq_true h]; rfl
theorem hasB_out {b : Nat} {j : Int} (h : ¬ (0 <= j /\ j <= 63)) : hasB b j = false := by unfold hasB; rw [decide_eq_false h]; rfl
theorem mk_in {j : Int} (h : 0 <= j /\ j <= 63) : mk j = 2 ^ j.toNat := if_pos h
theorem mk_out {j : Int} (h : ¬ (0 <= j /\ j <= 63)) : mk j = 0 := if_neg h
theorem mk_lt (j : Int) : mk j < 18446744073709551616 := by
 unfold mk; split
 ·exact Nat.lt_of_lt_of_le (Nat.pow_lt_pow_right (by decide) (by omega : j.toNat < 64)) (by decide)
 ·decide
theorem add_or {b i : Nat} (h : b.testBit i = false) (hb : b < 2 ^ 64) (hi : i < 64) : b + 2 ^ i = b ||| 2 ^ i := by
 have hp : 2 ^ i < 2 ^ 64 := Nat.pow_lt_pow_right (by decide) hi
 have h65 : (2 : Nat) ^ 65 = 2 ^ 64 + 2 ^ 64 := by decide
 have hz : (BitVec.ofNat 65 b) &&& (BitVec.ofNat 65 (2 ^ i)) = 0#65 := by
  apply BitVec.eq_of_toNat_eq
  simp only [BitVec.toNat_and, BitVec.toNat_ofNat]
  rw [Nat.mod_eq_of_lt (by omega), Nat.mod_eq_of_lt (by omega)]
  apply Nat.eq_of_testBit_eq
  intro k
  rw [Nat.testBit_and, Nat.testBit_two_pow]
  by_cases e : i = k
  ·subst e; simp [h]
  ·simp [e]
 have h1 := congrArg BitVec.toNat (BitVec.add_eq_or_of_and_eq_zero _ _ hz)
 simp only [BitVec.toNat_add, BitVec.toNat_or, BitVec.toNat_ofNat] at h1
 rw [Nat.mod_eq_of_lt (show b < 2 ^ 65 by omega), Nat.mod_eq_of_lt (show 2 ^ i < 2 ^ 65 by omega), Nat.mod_eq_of_lt (by omega)] at h1
 exact h1
theorem bor_self {b i : Nat} (h : b.testBit i = true) : b ||| 2 ^ i = b := by
 apply Nat.eq_of_testBit_eq
 intro k
 rw [Nat.testBit_or, Nat.testBit_two_pow]
 by_cases e : i = k
 ·subst e; simp [h]
 ·simp [e]
theorem or_mk {b : Nat} (hb : b < 18446744073709551616) (j : Int) : b ||| mk j = setB b j := by
 by_cases h : 0 <= j /\ j <= 63
 ·unfold setB
  rw [mk_in h, hasB_in h]
  by_cases ht : b.testBit j.toNat = true
  ·rw [if_pos ht, bor_self ht]
  ·rw [if_neg ht, add_or (by simpa using ht) hb (by omega)]
 ·unfold setB
  rw [mk_out h, hasB_out h]
  simp
theorem setB_lt {b : Nat} (hb : b < 18446744073709551616) (j : Int) : setB b j < 18446744073709551616 := by
 rw [<- or_mk hb]
 exact Nat.or_lt_two_pow (n := 64) hb (mk_lt j)
theorem not_bit {i : Nat} (hi : i < 64) (k : Nat) : (18446744073709551615 - 2 ^ i).testBit k = (decide (k < 64) && !decide (i = k)) := by
 have hp : 2 ^ i < 2 ^ 64 := Nat.pow_lt_pow_right (by decide) hi
 rw [show 18446744073709551615 - 2 ^ i = 2 ^ 64 - (2 ^ i + 1) by omega, Nat.testBit_two_pow_sub_succ hp, Nat.testBit_two_pow]
theorem bit_lt {b k : Nat} (hb : b < 18446744073709551616) (h : b.testBit k = true) : k < 64 := by
 by_cases hk : k < 64
 ·exact hk
 ·have := Nat.testBit_lt_two_pow (Nat.lt_of_lt_of_le hb (show 18446744073709551616 <= 2 ^ k from Nat.le_trans (by decide : 18446744073709551616 <= 2 ^ 64) (Nat.pow_le_pow_right (by decide) (by omega))))
  rw [this] at h; cases h
theorem andn_mk {b : Nat} (hb : b < 18446744073709551616) (j : Int) : b &&& (18446744073709551615 - mk j) = clrB b j := by
 by_cases h : 0 <= j /\ j <= 63
 ·unfold clrB
  rw [mk_in h, hasB_in h]
  have hi : j.toNat < 64 := by omega
  have hc : (b &&& (18446744073709551615 - 2 ^ j.toNat)).testBit j.toNat = false := by rw [Nat.testBit_and, not_bit hi]; simp
  by_cases ht : b.testBit j.toNat = true
  ·rw [if_pos ht]
   have hlt : b &&& (18446744073709551615 - 2 ^ j.toNat) < 2 ^ 64 := Nat.and_lt_two_pow _ (Nat.lt_of_le_of_lt (Nat.sub_le _ _) (by decide))
   have h1 := add_or hc hlt hi
   have h2 : (b &&& (18446744073709551615 - 2 ^ j.toNat)) ||| 2 ^ j.toNat = b := by
    apply Nat.eq_of_testBit_eq
    intro k
    rw [Nat.testBit_or, Nat.testBit_and, not_bit hi, Nat.testBit_two_pow]
    by_cases e : j.toNat = k
    ·subst e; simp [ht]
    ·by_cases hk : b.testBit k = true
     ·simp [e, hk, bit_lt hb hk]
     ·simp [e, Bool.not_eq_true _ ▸ hk]
   omega
  ·rw [if_neg ht]
   apply Nat.eq_of_testBit_eq
   intro k
   rw [Nat.testBit_and, not_bit hi]
   by_cases e : j.toNat = k
   ·subst e; simp [Bool.not_eq_true _ ▸ ht]
   ·by_cases hk : b.testBit k = true
    ·simp [e, hk, bit_lt hb hk]
    ·simp [e, Bool.not_eq_true _ ▸ hk]
 ·unfold clrB
  rw [mk_out h, hasB_out h, if_neg (by decide), Nat.sub_zero]
  exact Nat.and_two_pow_sub_one_of_lt_two_pow (n := 64) hb
theorem clrB_le (b : Nat) (j : Int) : clrB b j <= b := by unfold clrB; split <;> omega
theorem and_mk (b : Nat) (j : Int) : (b &&& mk j != 0) = hasB b j := by
 by_cases h : 0 <= j /\ j <= 63
 ·rw [mk_in h, hasB_in h]
  by_cases ht : b.testBit j.toNat = true
  ·have e : b &&& 2 ^ j.toNat = 2 ^ j.toNat := by
    apply Nat.eq_of_testBit_eq
    intro k
    rw [Nat.testBit_and, Nat.testBit_two_pow]
    by_cases e : j.toNat = k
    ·subst e; simp [ht]
    ·simp [e]
   rw [ht, e]
   have := Nat.one_le_two_pow (n := j.toNat)
   simp only [bne_iff_ne, ne_eq]; omega
  ·have e : b &&& 2 ^ j.toNat = 0 := by
    apply Nat.eq_of_testBit_eq
    intro k
    rw [Nat.testBit_and, Nat.testBit_two_pow]
    by_cases e : j.toNat = k
    ·subst e; simp [Bool.not_eq_true _ ▸ ht]
    ·simp [e]
   have hf : b.testBit j.toNat = false := by simpa using ht
   rw [hf, e]; rfl
 ·rw [mk_out h, hasB_out h]; simp
def upB (b k : Nat) : List Nat := (List.range k).filter b.testBit
theorem mem_upB {b k x : Nat} : x ∈ upB b k ↔ x < k /\ b.testBit x = true := by simp [upB]
end Go.Proofs.YtkbklooocdfcfaaGreatDoor
