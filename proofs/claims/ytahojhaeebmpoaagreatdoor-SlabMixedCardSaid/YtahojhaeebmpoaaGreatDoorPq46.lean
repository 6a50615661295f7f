/- Texts of this claim, packed: 6Mx, 6Lc, 6My, 6Mk, 6Mz, 6Mi, 6Mw. -/
import Derived.Test.YtahojhaeebmpoaaGreatDoorPq44
import Derived.Test.YtahojhaeebmpoaaGreatDoorPq42
import Derived.Test.YtahojhaeebmpoaaGreatDoorPq23
import Derived.Test.YtahojhaeebmpoaaGreatDoorPq45
import Derived.Test.YtahojhaeebmpoaaGreatDoorPq34
import Derived.Test.YtahojhaeebmpoaaGreatDoorPq37
import Derived.Test.YtahojhaeebmpoaaGreatDoorPq30
import Derived.Deep.QuietTactic
import Derived.Deep.DeepCutAuto
import Derived.Deep.CutBlock
import Derived.OpenShut
/- One slab whose used blocks all go, whose others all come: plain facts for SlabMixed. -/
namespace Go.Proofs.YtahojhaeebmpoaaGreatDoor
open Go.RowKit Go.Sort
set_option linter.unusedVariables false
/-- One slab of the class c; of each block is said what st says. -/
def Mx (c : Nat) (st : Nat → Nat → Prop) (z : S6) : Prop := ∃ x, z.hs = [x] ∧ x.no = 1 ∧ x.cls = c ∧ x.bl.length = blN c ∧ ∀ k v, x.bl[k]? = some v → st k v
theorem Mx.get {c : Nat} {st : Nat → Nat → Prop} {z : S6} (h : Mx c st z) {i : Nat} {x : Hd} (hx : z.hs[i]? = some x) : i = 0 ∧ z.hs = [x] ∧ x.no = 1 ∧ x.cls = c ∧ x.bl.length = blN c ∧ ∀ k v, x.bl[k]? = some v → st k v := by
  obtain ⟨y, hy, h1⟩ := h
  rw [hy] at hx
  have hi : i = 0 := by have := (List.getElem?_eq_some_iff.1 hx).1; simp at this; exact this
  subst hi
  simp at hx
  subst hx
  exact ⟨rfl, hy, h1⟩
theorem Mx.set {c : Nat} {st st' : Nat → Nat → Prop} {z : S6} (h : Mx c st z) {i j v : Nat} {x : Hd} (hx : z.hs[i]? = some x) (hv : st' j v) (hk : ∀ k u, k ≠ j → st k u → st' k u) {s : St} {cls : List Nat} {L : List (Nat × Nat)} {T : List Tu} :
    Mx c st' ⟨s, z.hs.set i { x with bl := x.bl.set j v }, cls, L, T⟩ := by
  obtain ⟨rfl, hz, h1, h2, h3, h4⟩ := h.get hx
  refine ⟨{ x with bl := x.bl.set j v }, by show z.hs.set 0 _ = _; rw [hz]; rfl, h1, h2, by show (x.bl.set j v).length = _; rw [List.length_set]; exact h3, fun k u hu => ?_⟩
  have hu : (x.bl.set j v)[k]? = some u := hu
  rw [List.getElem?_set] at hu
  by_cases e : j = k
  · subst e
    by_cases hl : j < x.bl.length
    · rw [if_pos rfl, if_pos hl] at hu
      cases hu
      exact hv
    · rw [if_pos rfl, if_neg hl] at hu; cases hu
  · rw [if_neg e] at hu
    exact hk k u (fun h => e h.symm) (h4 k u hu)
theorem Mx.mono {c : Nat} {st st' : Nat → Nat → Prop} {z : S6} (h : Mx c st z) (hk : ∀ k v, k < blN c → st k v → st' k v) : Mx c st' z := by
  obtain ⟨x, h1, h2, h3, h4, h5⟩ := h
  exact ⟨x, h1, h2, h3, h4, fun k v hv => hk k v (by rw [← h4]; exact (List.getElem?_eq_some_iff.1 hv).1) (h5 k v hv)⟩
theorem Mx.else {c : Nat} {st : Nat → Nat → Prop} {z : S6} (h : Mx c st z) {s : St} {cls : List Nat} {L : List (Nat × Nat)} {T : List Tu} : Mx c st ⟨s, z.hs, cls, L, T⟩ := h
/-- All blocks on their way have a turn. -/
def Cov (z : S6) : Prop := ∀ i x k v, z.hs[i]? = some x → x.bl[k]? = some v → (v = 3 ∨ v = 4) → ∃ t ∈ z.T, t.i = i ∧ t.j = k
theorem cov_set {z : S6} (h : Cov z) {i j v : Nat} {x : Hd} (hx : z.hs[i]? = some x) {s : St} {cls : List Nat} {L : List (Nat × Nat)} {T : List Tu} (hT : ∀ t ∈ z.T, ¬ (t.i = i ∧ t.j = j) → t ∈ T) (hv : (v = 3 ∨ v = 4) → ∃ t ∈ T, t.i = i ∧ t.j = j) :
    Cov ⟨s, z.hs.set i { x with bl := x.bl.set j v }, cls, L, T⟩ := by
  have hi := (List.getElem?_eq_some_iff.1 hx).1
  intro i2 y k u hy hu h34
  by_cases hk : i2 = i ∧ k = j
  · obtain ⟨rfl, rfl⟩ := hk
    rcases set_cases hi hy with ⟨_, rfl⟩ | ⟨e, _⟩
    · have hu : (x.bl.set k v)[k]? = some u := hu
      have hl : k < x.bl.length := by have := (List.getElem?_eq_some_iff.1 hu).1; rwa [List.length_set] at this
      rw [List.getElem?_set, if_pos rfl, if_pos hl] at hu
      cases hu
      exact hv h34
    · exact absurd rfl e
  · have old : ∃ t ∈ z.T, t.i = i2 ∧ t.j = k := by
      rcases set_cases hi hy with ⟨rfl, rfl⟩ | ⟨_, hy⟩
      · have hu : (x.bl.set j v)[k]? = some u := hu
        rw [List.getElem?_set, if_neg fun e => hk ⟨rfl, e.symm⟩] at hu
        exact h _ _ _ _ hx hu h34
      · exact h _ _ _ _ hy hu h34
    obtain ⟨t, ht, e1, e2⟩ := old
    exact ⟨t, hT t ht (fun e => hk ⟨e1.symm.trans e.1, e2.symm.trans e.2⟩), e1, e2⟩
theorem cov_setk {z : S6} (h : Cov z) {q k : Nat} {t : Tu} (ht : z.T[q]? = some t) {s : St} {cls : List Nat} {L : List (Nat × Nat)} : Cov ⟨s, z.hs, cls, L, z.T.set q { t with k := k }⟩ := by
  intro i x j v hx hv h34
  obtain ⟨u, hu, e1, e2⟩ := h i x j v hx hv h34
  obtain ⟨p, hp⟩ := List.mem_iff_getElem?.1 hu
  by_cases e : q = p
  · subst e
    rw [ht] at hp
    cases hp
    exact ⟨{ t with k := k }, List.mem_of_getElem? (i := q) (by show (z.T.set q _)[q]? = _; rw [List.getElem?_set, if_pos rfl, if_pos (List.getElem?_eq_some_iff.1 ht).1]), e1, e2⟩
  · exact ⟨u, List.mem_of_getElem? (i := p) (by show (z.T.set q _)[p]? = _; rw [List.getElem?_set, if_neg e]; exact hp), e1, e2⟩
theorem mem_erase_of {T : List Tu} {q : Nat} {t u : Tu} (ht : T[q]? = some t) (hu : u ∈ T) (hn : u ≠ t) : u ∈ T.eraseIdx q := by
  obtain ⟨p, hp⟩ := List.mem_iff_getElem?.1 hu
  refine List.mem_eraseIdx_iff_getElem?.2 ⟨p, fun e => ?_, hp⟩
  subst e
  rw [ht] at hp
  exact hn (Option.some.inj hp).symm
/-- How many steps are to come. -/
def tm (T : List Tu) : Nat := (T.map fun t => 4 - t.k).sum
theorem tm_set : ∀ (T : List Tu) (q : Nat) (t : Tu), T[q]? = some t → t.k < 3 → tm (T.set q { t with k := t.k + 1 }) + 1 = tm T
  | [], q, t, h, _ => by simp at h
  | u :: T, 0, t, h, hk => by
    simp at h
    subst h
    simp [tm]
    omega
  | u :: T, q + 1, t, h, hk => by
    have := tm_set T q t (by simpa using h) hk
    simp [tm] at this ⊢
    omega
theorem tm_erase : ∀ (T : List Tu) (q : Nat) (t : Tu), T[q]? = some t → t.k = 3 → tm (T.eraseIdx q) + 1 = tm T
  | [], q, t, h, _ => by simp at h
  | u :: T, 0, t, h, hk => by
    simp at h
    subst h
    simp [tm, hk]
    omega
  | u :: T, q + 1, t, h, hk => by
    have := tm_erase T q t (by simpa using h) hk
    simp [tm] at this ⊢
    omega
theorem tm_le (T : List Tu) : tm T ≤ 4 * T.length := by
  induction T with
  | nil => exact Nat.le_refl _
  | cons t T ih => simp [tm] at ih ⊢; omega
theorem finT_tm {n : Nat} {z : S6} (I : Inv6 n z) {q : Nat} {t : Tu} {x : Hd} (ht : z.T[q]? = some t) : tm (finT z q t x).T + 1 = tm z.T := by
  obtain ⟨_, _, _, _, _, hk3, _⟩ := I.tn t (List.mem_of_getElem? ht)
  unfold finT
  by_cases h : t.k = 3
  · rw [if_pos h]; exact tm_erase z.T q t ht h
  · rw [if_neg h, stepT_T (by omega)]
    exact tm_set z.T q t ht (by omega)
/-- Used blocks go, others come. -/
def stC (used : Nat) (k v : Nat) : Prop := if used.testBit k = true then v = 3 ∨ v = 0 else v = 4 ∨ v = 2
theorem finT_mx {n used c : Nat} {z : S6} (I : Inv6 n z) (M : Mx c (stC used) z) (C : Cov z) {q : Nat} {t : Tu} {x : Hd} (ht : z.T[q]? = some t) (hx : z.hs[t.i]? = some x) : Mx c (stC used) (finT z q t x) ∧ Cov (finT z q t x) := by
  have htm := List.mem_of_getElem? ht
  obtain ⟨y, hy, hv, _, h34, hk3, _⟩ := I.tn t htm
  rw [hx] at hy
  cases hy
  obtain ⟨hi0, hz, m1, m2, m3, m4⟩ := M.get hx
  unfold finT
  by_cases h : t.k = 3
  · rw [if_pos h]
    constructor
    · refine M.set hx ?_ (fun k u _ hu => hu)
      have hs := m4 t.j t.v hv
      unfold stC at hs ⊢
      unfold settled
      split at hs
      · rename_i hu
        rw [if_pos hu]
        right
        rw [if_neg (by omega)]
      · rename_i hu
        rw [if_neg hu]
        right
        rw [if_pos (by omega)]
    · refine cov_set C hx (fun u hu hn => mem_erase_of ht hu (fun e => hn (by rw [e]; exact ⟨rfl, rfl⟩))) fun hs => ?_
      unfold settled at hs
      split at hs <;> omega
  · rw [if_neg h]
    unfold stepT
    by_cases h0 : t.k = 0
    · rw [if_pos h0]; exact ⟨M.else, cov_setk C ht⟩
    · rw [if_neg h0]
      by_cases h1 : t.k = 1
      · rw [if_pos h1]
        refine ⟨⟨{ x with bits := bitV t.v x.bits t.j }, by show z.hs.set t.i _ = _; rw [hi0, hz]; rfl, m1, m2, m3, m4⟩, ?_⟩
        have C1 : Cov ⟨z.s, z.hs.set t.i { x with bits := bitV t.v x.bits t.j }, z.cls, z.L, z.T⟩ := by
          intro i2 y k u hy hu h34
          rcases set_cases (List.getElem?_eq_some_iff.1 hx).1 hy with ⟨rfl, rfl⟩ | ⟨_, hy⟩
          · exact C _ x k u hx hu h34
          · exact C _ y k u hy hu h34
        exact cov_setk C1 (z := ⟨z.s, z.hs.set t.i { x with bits := bitV t.v x.bits t.j }, z.cls, z.L, z.T⟩) ht
      · rw [if_neg h1, if_pos (by omega)]; exact ⟨M.else, cov_setk C ht⟩
end Go.Proofs.YtahojhaeebmpoaaGreatDoor
/- What an image of what has lasted says of the blocks, in the law's game; plain facts. -/
namespace Go.Proofs.YtahojhaeebmpoaaGreatDoor
open Go.RowKit Go.Sort
set_option linter.unusedVariables false
/-- All that may have lasted of the one may have lasted of the other. -/
def FrS (s s' : St) (i : Nat) : Prop := ∀ q, q ≤ pl s' i → ∃ m, m ≤ pl s i ∧ fr s' i q = fr s i m
theorem FrS.refl (s : St) (i : Nat) : FrS s s i := fun q h => ⟨q, h, rfl⟩
theorem FrS.trans {s s1 s2 : St} {i : Nat} (h : FrS s s1 i) (h2 : FrS s1 s2 i) : FrS s s2 i := fun q hq => by
  obtain ⟨m, hm, e⟩ := h2 q hq
  obtain ⟨m2, hm2, e2⟩ := h m hm
  exact ⟨m2, hm2, e.trans e2⟩
theorem ofB_wbytes6 {n : Nat} (h : n < 18446744073709551616) : ofB (wbytes n) = n := by
  have e : wbytes n = [wbyt n 0, wbyt n 1, wbyt n 2, wbyt n 3, wbyt n 4, wbyt n 5, wbyt n 6, wbyt n 7] := rfl
  rw [e]
  simp only [ofB, wbyt, Nat.pow_zero, Nat.div_one, Nat.reducePow]
  omega
theorem bytesL_word6 : ∀ (ws : List Nat) (i : Nat) (hi : i < ws.length), ((bytesL ws).drop (8 * i)).take 8 = wbytes ws[i]
  | a :: t, 0, _ => by
    show (wbytes a ++ bytesL t).take 8 = wbytes a
    rw [List.take_append_of_le_length (by rw [wbytes_length]; exact Nat.le_refl _), List.take_of_length_le (by rw [wbytes_length]; exact Nat.le_refl _)]
  | a :: t, i + 1, hi => by
    show ((wbytes a ++ bytesL t).drop (8 * (i + 1))).take 8 = _
    rw [show 8 * (i + 1) = (wbytes a).length + 8 * i by rw [wbytes_length]; omega, List.drop_append, List.drop_of_length_le (by omega), List.nil_append, Nat.add_sub_cancel_left]
    exact bytesL_word6 t i (by simpa using hi)
/-- An image's words. -/
theorem pw_words6 {ws : List Nat} (hb : ∀ x ∈ ws, x < 18446744073709551616) {i : Nat} (hi : i < ws.length) : pw (bytesL ws) (bytesL ws).length i = ws.getD i 0 := by
  unfold pw
  rw [List.take_length, bytesL_word6 ws i hi, ofB_wbytes6 (hb _ (List.getElem_mem hi)), List.getD_eq_getElem?_getD, List.getElem?_eq_getElem hi]
  rfl
theorem heads_of {s : St} (ok : s.Ok) {i : Nat} (hi : 128 * (i + 1) + 1 < s.lasted.length) : (hcW (bytesL s.lasted) i, hbW (bytesL s.lasted) i) = fr s i 0 := by
  unfold hcW hbW fr
  rw [pw_words6 ok.las (by omega), pw_words6 ok.las hi, List.take_zero]
  rfl
theorem mayS_of {b n : Nat} (h : ∀ k, b.testBit k = true → k < n) : mayS b (n : Int) = true := by
  unfold mayS
  refine decide_eq_true fun x hx => ?_
  have := h x (List.mem_filter.1 hx).2
  omega
theorem okF.head {x : Hd} {p : Nat × Nat} (h : okF x p) (hl : x.bl.length = blN x.cls) (h3 : x.cls ≤ 3) : okHead p.1 p.2 = true := by
  unfold okHead
  have hk : ∀ k, p.2.testBit k = true → k < blN x.cls := fun k hk => by
    obtain ⟨v, hv, _⟩ := h.2.1 k hk
    rw [← hl]
    exact (List.getElem?_eq_some_iff.1 hv).1
  rw [Bool.and_eq_true]
  rcases h.1 with h1 | ⟨h1, h2⟩
  · rw [h1]; exact ⟨decide_eq_true h3, mayS_of hk⟩
  · rw [h1, h2]; exact ⟨rfl, mayS_of fun k hk => by rw [Nat.zero_testBit] at hk; cases hk⟩
/-- At first. -/
theorem ini6_la {l : List Nat} {n : Nat} (hl : l.length = 1024 * (n + 1)) (hb : ∀ x ∈ l, x < 256) (ok : okHeads l n) : La6 (ini6 l n) := by
  have hpl : ∀ i, (ini6 l n).s.pend.getD (16 * (i + 1)) [] = [] := fun i => by
    show (List.replicate (16 * (n + 1)) ([] : List (Nat × Nat))).getD _ [] = []
    rw [List.getD_eq_getElem?_getD, List.getElem?_replicate]
    split <;> rfl
  have hpl0 : ∀ i, pl (ini6 l n).s i = 0 := fun i => by unfold pl; rw [hpl]; rfl
  have hfr : ∀ i m, i < n → fr (ini6 l n).s i m = (hcW l i, hbW l i) := fun i m hi => by
    have hw : ∀ k, k < 8 * (16 * (n + 1)) → (ini6 l n).s.lasted.getD k 0 = pw l l.length k := fun k hk => by
      show (wordsK l (64 * (16 * (n + 1))) (8 * (16 * (n + 1)))).getD k 0 = _
      rw [List.getD_eq_getElem?_getD, wordsK_get hk, show 64 * (16 * (n + 1)) = l.length from by omega]
      rfl
    unfold fr
    rw [hpl, List.take_nil]
    show ((ini6 l n).s.lasted.getD _ 0, (ini6 l n).s.lasted.getD _ 0) = _
    rw [hw _ (by omega), hw _ (by omega)]
    rfl
  have hget : ∀ i x, (ini6 l n).hs[i]? = some x → i < n ∧ x = hdOf (hcW l) (hbW l) i := fun i x hx => by
    have hx : (hsK (hcW l) (hbW l) n n)[i]? = some x := hx
    have hi : i < n := by have := (List.getElem?_eq_some_iff.1 hx).1; rwa [hsK_len] at this
    rw [hsK_get hi, if_pos hi] at hx
    exact ⟨hi, (Option.some.inj hx).symm⟩
  refine ⟨fun i x hx m _ => ?_, fun i x hx => ?_, fun t ht => (by cases ht), fun t ht => (by cases ht), fun t ht => (by cases ht)⟩
  · obtain ⟨hi, rfl⟩ := hget i x hx
    rw [hfr i m hi]
    have hbits := okHead_bits (ok i hi) (hbW_fit hb i)
    refine ⟨.inl rfl, fun k hk => ?_, fun k hk => ?_⟩
    · have hk : (hbW l i).testBit k = true := hk
      refine ⟨2, ?_, .inl rfl⟩
      show (blK (blN (hcW l i)) (hbW l i) (blN (hcW l i)))[k]? = some 2
      rw [blK_val (hbits.2 k hk), if_pos hk]
    · have hk : (blK (blN (hcW l i)) (hbW l i) (blN (hcW l i)))[k]? = some 2 := hk
      have hkn := (List.getElem?_eq_some_iff.1 hk).1
      rw [blK_len] at hkn
      rw [blK_val hkn] at hk
      show (hbW l i).testBit k = true
      by_cases e : (hbW l i).testBit k = true
      · exact e
      · rw [if_neg e] at hk; simp at hk
  · obtain ⟨hi, rfl⟩ := hget i x hx
    rw [hfr i _ hi]
    rfl
end Go.Proofs.YtahojhaeebmpoaaGreatDoor
/- SlabMixed's image at first, and in the end; its list of those that go; plain facts. -/
namespace Go.Proofs.YtahojhaeebmpoaaGreatDoor
open Go.RowKit Go.Sort
set_option linter.unusedVariables false
theorem im_word {N : Nat} {F : Nat → Nat} {o v : Nat} (ho : o % 8 = 0) (hN : o + 8 ≤ N) (hv : v < 18446744073709551616) (h : ∀ k, k < 8 → F (o + k) = wbyt v k) : pw ((List.range N).map F) ((List.range N).map F).length (o / 8) = v := by
  have e : ((((List.range N).map F).take ((List.range N).map F).length).drop (8 * (o / 8))).take 8 = wbytes v := by
    rw [List.take_length, show 8 * (o / 8) = o from by omega]
    apply List.ext_getElem?
    intro k
    rw [List.getElem?_take]
    by_cases hk : k < 8
    · rw [if_pos hk, List.getElem?_drop, List.getElem?_map, List.getElem?_range (by omega)]
      show some (F (o + k)) = _
      rw [h k hk]
      match k, hk with
      | 0, _ => rfl
      | 1, _ => rfl
      | 2, _ => rfl
      | 3, _ => rfl
      | 4, _ => rfl
      | 5, _ => rfl
      | 6, _ => rfl
      | 7, _ => rfl
    · rw [if_neg hk, List.getElem?_eq_none (by rw [wbytes_length]; omega)]
  unfold pw
  rw [e, ofB_wbytes6 hv]
theorem hcW_im {c u : Nat} (hc : c < 18446744073709551616) : hcW (imL [(c, u)] 0) 0 = c := im_word (o := 1024) (by decide) (by simp) hc (fun k hk => imF_cls [(c, u)] 0 0 k hk)
theorem hbW_im {c u : Nat} (hu : u < 18446744073709551616) : hbW (imL [(c, u)] 0) 0 = u := im_word (o := 1032) (by decide) (by simp) hu (fun k hk => imF_bits [(c, u)] 0 0 k hk)
theorem bit_le {u n k : Nat} (hu : u < 2 ^ n) (h : u.testBit k = true) : k < n := by
  rcases Nat.lt_or_ge k n with q | q
  · exact q
  · have : u.testBit k = false := Nat.testBit_lt_two_pow (Nat.lt_of_lt_of_le hu (Nat.pow_le_pow_right (by decide) q))
    rw [this] at h
    cases h
theorem pow_blN (c : Nat) : 2 ^ blN c ≤ 32768 := Nat.le_trans (Nat.pow_le_pow_right (by decide) (blN_le c)) (by decide)
theorem ok_im {c u : Nat} (hc : c ≤ 3) (hu : u < 2 ^ blN c) : okHeads (imL [(c, u)] 0) 1 := by
  have hp := pow_blN c
  intro q hq
  obtain rfl : q = 0 := by omega
  rw [hcW_im (by omega), hbW_im (by omega)]
  unfold okHead
  rw [Bool.and_eq_true]
  exact ⟨decide_eq_true hc, mayS_of fun k hk => bit_le hu hk⟩
/-- At first. -/
def st0 (u : Nat) (k v : Nat) : Prop := v = if u.testBit k = true then 2 else 0
theorem mx_of {A B : Nat → Nat} {c u : Nat} (hA : A 0 = c) (hB : B 0 = u) : ∃ x, hsK A B 1 1 = [x] ∧ x.no = 1 ∧ x.cls = c ∧ x.bl.length = blN c ∧ ∀ k v, x.bl[k]? = some v → st0 u k v := by
  refine ⟨hdOf A B 0, rfl, rfl, hA, ?_, fun k v hv => ?_⟩
  · show (blK _ _ _).length = _
    rw [blK_len, hA]
  · have hv : (blK (blN (A 0)) (B 0) (blN (A 0)))[k]? = some v := hv
    rw [hA, hB] at hv
    have hk := (List.getElem?_eq_some_iff.1 hv).1
    rw [blK_len] at hk
    rw [blK_val hk] at hv
    exact (Option.some.inj hv).symm
theorem mx_im {c u : Nat} (hc : c ≤ 3) (hu : u < 2 ^ blN c) : Mx c (st0 u) (ini6 (imL [(c, u)] 0) 1) := by
  have hp := pow_blN c
  exact mx_of (A := hcW (imL [(c, u)] 0)) (B := hbW (imL [(c, u)] 0)) (hcW_im (by omega)) (hbW_im (by omega))
theorem cov_im (l : List Nat) : Cov (ini6 l 1) := by
  intro i x k v hx hv h34
  have hx : (hsK (hcW l) (hbW l) 1 1)[i]? = some x := hx
  have hi : i < 1 := by have := (List.getElem?_eq_some_iff.1 hx).1; rwa [hsK_len] at this
  rw [hsK_get hi, if_pos hi] at hx
  cases hx
  have hv : (blK (blN (hcW l i)) (hbW l i) (blN (hcW l i)))[k]? = some v := hv
  have hk := (List.getElem?_eq_some_iff.1 hv).1
  rw [blK_len] at hk
  rw [blK_val hk] at hv
  have := Option.some.inj hv
  split at this <;> omega
/-- Those that go. -/
theorem gone_mem {c u : Nat} {z : S6} (W : W6Is z.hs z.cls z.L) (ok : HsOk z.hs) (hm : z.hs.length ≤ 64) (M : Mx c (st0 u) z) (a : Nat) : a ∈ usedR z.L ↔ ∃ k, k < blN c ∧ u.testBit k = true ∧ adr 1 c k = a := by
  obtain ⟨x, hz, h1, h2, h3, h4⟩ := M
  rw [used_same ok hm W, usedL_mem, hz]
  constructor
  · rintro ⟨i, y, j, v, hy, hv, hu, ha⟩
    obtain rfl : i = 0 := by have := (List.getElem?_eq_some_iff.1 hy).1; simp at this; exact this
    simp at hy
    subst hy
    have hs := h4 j v hv
    unfold st0 at hs
    have hjl := (List.getElem?_eq_some_iff.1 hv).1
    refine ⟨j, by rw [← h3]; exact hjl, ?_, by rw [← h1, ← h2]; exact ha⟩
    by_cases e : u.testBit j = true
    · exact e
    · rw [if_neg e] at hs
      subst hs
      exact absurd hu (by decide)
  · rintro ⟨k, hk, hb, ha⟩
    have hkl : k < x.bl.length := by rw [h3]; exact hk
    have hv := List.getElem?_eq_getElem hkl
    have hs := h4 k _ hv
    unfold st0 at hs
    rw [if_pos hb] at hs
    rw [hs] at hv
    exact ⟨0, x, k, 2, rfl, hv, rfl, by rw [h1, h2]; exact ha⟩
def stA (u c : Nat) (G : List Nat) (j : Nat) (k v : Nat) : Prop := v = if u.testBit k = true then (if adr 1 c k ∈ G.take j then 3 else 2) else 0
def stB (u : Nat) (k v : Nat) : Prop := if u.testBit k = true then v = 3 else v = 0 ∨ v = 4
theorem adr_inj {c k j : Nat} (hc : 1 ≤ c) (h : adr 1 c k = adr 1 c j) : k = j := by
  unfold adr at h
  have h : 64 * c * k = 64 * c * j := by omega
  exact Nat.eq_of_mul_eq_mul_left (by omega) h
theorem count_two {b u n : Nat} (hb : ∀ k, b.testBit k = true ↔ k < n ∧ u.testBit k = false) (hu : ∀ k, u.testBit k = true → k < n) : ∀ m, (upB b m).length + (upB u m).length = min m n
  | 0 => by simp [upB]
  | m + 1 => by
    have ih := count_two hb hu m
    rw [upB_succ, upB_succ]
    have h1 := hb m
    have h2 := hu m
    cases hbm : b.testBit m with
    | true =>
      have := h1.1 hbm
      rw [this.2]
      simp
      omega
    | false =>
      cases hum : u.testBit m with
      | true =>
        have := h2 hum
        simp
        omega
      | false =>
        have : ¬ m < n := fun h => by
          have := h1.2 ⟨h, hum⟩
          rw [hbm] at this
          cases this
        simp
        omega
/-- In the end: the image says just that. -/
theorem end_plain {c u : Nat} {z : S6} {l : List Nat} (L : La6 z) (W : W6Is z.hs z.cls z.L) (ok : HsOk z.hs) (M : Mx c (stC u) z) (C : Cov z) (hT : z.T = []) (hc : 1 ≤ c ∧ c ≤ 3) (hu : u < 2 ^ blN c) (hb : ∀ x ∈ l, x < 256) (hd : (hcW l 0, hbW l 0) = fr z.s 0 0) :
    okHeads l 1 ∧ usedR (LK l 1) = usedR z.L ∧ (LK l 1).length + (upB u 64).length = blN c := by
  obtain ⟨x, hz, h1, h2, h3, h4⟩ := M
  have hx : z.hs[0]? = some x := by rw [hz]; rfl
  have hF : okF x (hcW l 0, hbW l 0) := by rw [hd]; exact L.f 0 x hx 0 (Nat.zero_le _)
  have hst : ∀ k v, x.bl[k]? = some v → v = if u.testBit k = true then 0 else 2 := fun k v hv => by
    have hs := h4 k v hv
    have hn : ¬ (v = 3 ∨ v = 4) := fun h34 => by
      obtain ⟨t, ht, _⟩ := C 0 x k v hx hv h34
      rw [hT] at ht
      cases ht
    unfold stC at hs
    split at hs
    · rename_i e; rw [if_pos e]; omega
    · rename_i e; rw [if_neg e]; omega
  have hbit : ∀ k, (hbW l 0).testBit k = true ↔ k < blN c ∧ u.testBit k = false := fun k => by
    constructor
    · intro hk
      obtain ⟨v, hv, h234⟩ := hF.2.1 k hk
      have hs := hst k v hv
      refine ⟨by rw [← h3]; exact (List.getElem?_eq_some_iff.1 hv).1, ?_⟩
      cases e : u.testBit k with
      | false => rfl
      | true => rw [if_pos e] at hs; omega
    · rintro ⟨hk, hn⟩
      have hkl : k < x.bl.length := by rw [h3]; exact hk
      have hv := List.getElem?_eq_getElem hkl
      have hs := hst k _ hv
      rw [hn] at hs
      rw [hs] at hv
      exact hF.2.2 k hv
  have hok : okHeads l 1 := fun q hq => by
    obtain rfl : q = 0 := by omega
    exact hF.head (by rw [h3, h2]) (by rw [h2]; exact hc.2)
  have hini := ini_is hb (by decide : 1 ≤ 64) hok
  refine ⟨hok, ?_, ?_⟩
  · refine sorted_ext (usedR_sorted hini.nd) (usedR_sorted W.nd) fun a => ?_
    rw [used_same ok (by rw [hz]; simp) W, usedL_mem, usedR_mem, hz]
    constructor
    · rintro ⟨p, hp, _, ha⟩
      obtain ⟨q, k, hq, _, hk, rfl⟩ := LK_mem.1 hp
      obtain rfl : q = 0 := by omega
      have hcls : hcW l 0 = c := by
        rcases hF.1 with e | ⟨_, e⟩
        · exact e.trans h2
        · have e : hbW l 0 = 0 := e
          rw [e, Nat.zero_testBit] at hk
          cases hk
      obtain ⟨hkn, hun⟩ := (hbit k).1 hk
      have hkl : k < x.bl.length := by rw [h3]; exact hkn
      have hv := List.getElem?_eq_getElem hkl
      have hs := hst k _ hv
      rw [hun] at hs
      rw [hs] at hv
      refine ⟨0, x, k, 2, rfl, hv, rfl, ?_⟩
      rw [h1, h2]
      have ha : adr (0 + 1) (hcW l 0) k = a := ha
      rw [hcls] at ha
      exact ha
    · rintro ⟨i, y, j, v, hy, hv, hun, ha⟩
      obtain rfl : i = 0 := by have := (List.getElem?_eq_some_iff.1 hy).1; simp at this; exact this
      simp at hy
      subst hy
      have hs := hst j v hv
      have hjl := (List.getElem?_eq_some_iff.1 hv).1
      have huf : u.testBit j = false := by
        cases e : u.testBit j with
        | false => rfl
        | true =>
          rw [if_pos e] at hs
          subst hs
          exact absurd hun (by decide)
      have hbj := (hbit j).2 ⟨by rw [← h3]; exact hjl, huf⟩
      have hcls : hcW l 0 = c := by
        rcases hF.1 with e | ⟨_, e⟩
        · exact e.trans h2
        · have e : hbW l 0 = 0 := e
          rw [e, Nat.zero_testBit] at hbj
          cases hbj
      refine ⟨(adr (0 + 1) (hcW l 0) j, 2), LK_mem.2 ⟨0, j, by decide, ?_, hbj, rfl⟩, rfl, ?_⟩
      · have := blN_le c; omega
      · show adr (0 + 1) (hcW l 0) j = a
        rw [hcls]
        rw [h1, h2] at ha
        exact ha
  · have e : (LK l 1).length = (upB (hbW l 0) 64).length := by
      unfold LK blsK
      simp
    rw [e, count_two hbit (fun k hk => bit_le hu hk) 64]
    have := blN_le c
    omega
end Go.Proofs.YtahojhaeebmpoaaGreatDoor
/- Calls of SlabMixed, over the game in its place; what its loops leave, plain. -/
namespace Go.Proofs.YtahojhaeebmpoaaGreatDoor
open Go Go.RowKit Go.Sort
set_option linter.unusedVariables false
section
variable {w0 w w' : World} {P0 : Nat → Prop} {B size gg mg gs gw : Nat} {z : S6}
theorem GD.las2 (G : GD w0 P0 B size gg mg gs gw (RQ z) w) : z.s.lasted.length = 8 * z.s.nl := by
  obtain ⟨y, z, n, xs, ⟨_, ⟨fs, g⟩, _⟩, h1, h2, h3, h4, rfl, _⟩ := G
  exact ownsRow_len g.pm.las
theorem GD.la2 (G : GD w0 P0 B size gg mg gs gw (RQ z) w) {n : Nat} (I : Inv6 n z) (L : La6 z) {z' : S6} (st : Step6 z z') : La6 z' := L.step I G.ok.1 G.ok.2.2.2.1 G.ok.2.2.2.2.1 G.las2 G.ok.2.2.1 st
theorem GD.used (G : GD w0 P0 B size gg mg gs gw (RQ z) w) {n : Nat} (I : Inv6 n z) (hn : n ≤ 740) :
    Calls Tryz.prog 24 #[.pointer (some ⟨gw, 0, none⟩)] w fun e w' => ∃ v, e = .returned v ∧ w'.ownsRow w.heap.size 24 1 v (usedR z.L).length ((usedR z.L).map wv) ∧ Below w.heap.size w w' := by
  have ho := G.ok
  obtain ⟨y, z, q, xs, g, h1, h2, h3, rfl, rfl, h5⟩ := G
  exact r6Used_any g.w6 (by have := I.ll; omega) I.wis.nd (I.wis.pos ho.1 ho.2.1)
theorem GD.room (G : GD w0 P0 B size gg mg gs gw (RQ z) w) {n : Nat} (I : Inv6 n z) (hn : n ≤ 740) {c : Nat} (hc : 1 ≤ c ∧ c ≤ 3) :
    Calls Tryz.prog 25 #[.pointer (some ⟨gw, 0, none⟩), .int .i64 (c : Int)] w fun e w' => e = .returned (.int .i64 (rmL z.cls z.L c z.cls.length : Nat)) ∧ w = w' := by
  have ho := G.ok
  obtain ⟨y, z, q, xs, g, h1, h2, h3, rfl, rfl, h5⟩ := G
  exact r6Room_any g.w6 (by have := I.ll; omega) (by rw [I.wis.cls, List.length_map]; exact ho.2.1) (fun x hx => by
    rw [I.wis.cls] at hx
    obtain ⟨d, hd, rfl⟩ := List.mem_map.1 hx
    have := ho.2.2.2.2.2 d hd
    omega) hc
theorem GD.turns (G : GD w0 P0 B size gg mg gs gw (RQ z) w) : ∃ A cap, w.cell? ⟨gg, 3, none⟩ = some (.slice A z.T.length cap) := by
  obtain ⟨vt, T⟩ := G.open
  have h := T.g3
  obtain ⟨A, c, rfl⟩ := own_at4 T.own
  exact ⟨A, c, h⟩
/-- An image: bytes in a new block. -/
def ImD2 (w : World) (l : List Nat) (e : Ending) (w' : World) : Prop := ∃ g cap, e = .returned (.slice (some ⟨g, 0, none⟩) l.length cap) ∧ Sl w' (some ⟨g, 0, none⟩) (l.map bv) ∧ Below w.heap.size w w'
theorem GD.image2 (G : GD w0 P0 B size gg mg gs gw (RQ z) w) (h0 : 0 < z.s.lasted.length) : Calls Tryz.prog 22 #[.pointer (some ⟨mg, 0, none⟩)] w (ImD2 w (bytesL z.s.lasted)) := by
  obtain ⟨y, z, n, xs, g, h1, rfl, h3, h4, rfl, h5⟩ := G
  obtain ⟨fs, gm⟩ := g.gm
  refine (image_yes gm.pm gm.ok.las).mono fun e w' h => ?_
  obtain ⟨⟨v, rfl, ho⟩, hb⟩ := h
  obtain ⟨g, cap, rfl, _, _, hs⟩ := own_some ho (by rw [bytesL_length]; omega)
  exact ⟨g, cap, rfl, hs, hb⟩
/-- Both Reserves of one class that has room. -/
theorem GD.resX {n c : Nat} {A E : Int} (hI : Inv6 n z) (hn : n ≤ 740) (hc : 1 ≤ c ∧ c ≤ 3) (ho : HsOk z.hs) (hm : z.hs.length ≤ 64) (h3 : ∀ x ∈ z.hs, x.cls ≤ 3) {u : Nat} (M : Mx c (stB u) z) (hf : ∃ a, FreeB z.hs c a) (G : ResD w0 P0 B size gg mg gs gw z c A E w) :
    E = 0 ∧ ∃ j x a, A = (a : Nat) ∧ z.hs[0]? = some x ∧ x.bl[j]? = some 0 ∧ adr x.no x.cls j = a ∧
      Calls Tryz.prog 27 #[.pointer (some ⟨gw, 0, none⟩), .int .i64 (c : Int)] w fun e w' => e = .returned (.tuple #[.int .u64 (a : Int), .int .i64 0]) ∧ ∃ z', Step6 z z' ∧ z'.hs = z.hs.set 0 { x with bl := x.bl.set j 1 } ∧ z'.T = z.T ∧ GD w0 P0 B size gg mg gs gw (RQ z') w' := by
  obtain ⟨hs1, hs', hcl, htk, y, z1, m, xs, G, h1, h2, h3', rfl, rfl, rfl, rfl⟩ := G
  obtain ⟨a0, ha0⟩ := hf
  have e1 : hs1 = z.hs := by
    rcases hcl with ⟨_, rfl⟩ | ⟨hno, _⟩
    · rfl
    · exact absurd ha0 (hno a0)
  subst e1
  have htk2 := htk
  rcases htk with ⟨i, j, x, hx, hxc, hb, hmin, rfl, he⟩ | ⟨hno, _, _⟩
  case inr => exact absurd ha0 (hno a0)
  obtain ⟨rfl, _, _, _, _, _⟩ := M.get hx
  cases he
  refine ⟨rfl, j, x, adr x.no c j, rfl, hx, hb, by rw [hxc], ?_⟩
  refine (r6Res_any G.w6 (by have := hI.ll; show z.L.length ≤ _; omega) G.bw (by show z.cls.length ≤ 64; rw [hI.wis.cls, List.length_map]; exact hm) (fun x hx => by
    have hx : x ∈ z.cls := hx
    rw [hI.wis.cls] at hx
    obtain ⟨d, hd, rfl⟩ := List.mem_map.1 hx
    have := h3 d hd
    omega) hc).mono fun e w' hp => ?_
  obtain ⟨cls', L', vl', hr, h6, hb6⟩ := hp.plain G.w6
  have hr' : ResL z.cls z.L c e cls' L' := hr
  obtain ⟨he, hw⟩ := res_same hI.wis ho hm hc hcl htk2 hr'
  have hl : L'.length ≤ z.L.length + 1 := by
    rcases hr' with ⟨_, _, _, _, _, _, rfl⟩ | ⟨_, _, _, _, _, _, _, rfl⟩ | ⟨_, _, _, _, rfl⟩
    · exact setL_len _ _ _
    · exact setL_len _ _ _
    · exact Nat.le_succ _
  refine ⟨he.symm, _, .res z z.hs _ cls' L' c _ hc.1 hc.2 hcl htk2 hw hl, rfl, rfl, ?_⟩
  have hnv : ∀ k, (k = y.gw ∨ y.vc.ownBlock = some k) → (k = y.gw ∨ k = y.gg ∨ y.vt.ownBlock = some k ∨ y.vc.ownBlock = some k) := fun k h => by
    rcases h with h | h
    · exact .inl h
    · exact .inr (.inr (.inr h))
  have hrow : Row w' y.gg 51 _ := hb6.row G.row fun h => by
    rcases h with h | h
    · exact tagNe G.row.tag G.w6.row.tag (by decide) h
    · exact tagNe G.row.tag (own_tag G.w6.cls h) (by decide) rfl
  have ht := own_block G.tn fun k hk => hb6.block k (own_tag G.tn hk).lt fun h => by
    rcases h with h | h
    · exact tagNe (own_tag G.tn hk) G.w6.row.tag (by decide) h
    · exact tagNe (own_tag G.tn hk) (own_tag G.w6.cls h) (by decide) rfl
  exact ⟨_, _, _, _, G.own hrow h6 ht (hb6.mono hnv) (.inl rfl), h1, h2, h3', rfl, rfl, rfl, rfl⟩
/-- The same, since behind what laid no more than new blocks. -/
theorem GD.rebase2 (G : GD w0 P0 B size gg mg gs gw (RQ z) w) (hb : Below w.heap.size w w') : ∃ P : Nat → Prop, GD w' P B size gg mg gs gw (RQ z) w' ∧ (∀ q, P q → q < w.heap.size) ∧ ∀ z' w'', GD w' P B size gg mg gs gw (RQ z') w'' → GD w0 P0 B size gg mg gs gw (RQ z') w'' := by
  obtain ⟨y, z, m, xs, g, h1, h2, h3, h4, h5⟩ := G
  have g2 := g.below hb
  have hpb : ∀ q, y.fp z.T q → B ≤ q := fun q hq => by
    rcases g.fp q hq with h | h
    · exact g.pb q h
    · exact Nat.le_trans g.wb h
  refine ⟨y.fp z.T, ⟨y, z, m, xs, { g2 with but := But.refl _ _, fp := fun q hq => .inl hq, pb := hpb, wb := g2.bw }, h1, h2, h3, h4, h5⟩, fun q hq => g.fp_lt hq, ?_⟩
  rintro z' w'' ⟨y', z2, m', xs', G', e1, e2, e3, e4, e5⟩
  exact ⟨y', z2, m', xs', { G' with
    but := g2.but.more G'.but (fun q hq => g.fp q hq)
    pb := g.pb
    wb := g.wb
    fp := fun q hq => by
     rcases G'.fp q hq with h | h
     · exact g.fp q h
     · exact .inr (Nat.le_trans g2.w0w h) }, e1, e2, e3, e4, e5⟩
theorem GD.but (G : GD w0 P0 B size gg mg gs gw (RQ z) w) : But w0 w P0 := by
  obtain ⟨y, z, m, xs, g, _⟩ := G
  exact g.but
end
/-- Room is a free block. -/
theorem room_free {n c u : Nat} {z : S6} (I : Inv6 n z) (ok : HsOk z.hs) (M : Mx c (stB u) z) (hc : 1 ≤ c) (h : 0 < rmL z.cls z.L c z.cls.length) : ∃ a, FreeB z.hs c a := by
  obtain ⟨x, hz, h1, h2, h3, h4⟩ := M
  have hcl : z.cls = [c] := by rw [I.wis.cls, hz]; simp [h2]
  rw [hcl] at h
  have hr : 0 < rmRow z.L 1 c c (blN c) := by
    have e : rmL [c] z.L c [c].length = 0 + rmRow z.L 1 c c (blN c) := rfl
    omega
  unfold rmRow at hr
  obtain ⟨k, hk⟩ := List.exists_mem_of_length_pos hr
  obtain ⟨hk1, hk2⟩ := List.mem_filter.1 hk
  unfold rmB at hk2
  have hk3 : isL z.L (adr 1 c k) = 0 := by
    simp at hk2
    rcases hk2 with h0 | h0
    · omega
    · exact h0
  have hkl : k < x.bl.length := by rw [h3]; exact List.mem_range.1 hk1
  have hv := List.getElem?_eq_getElem hkl
  have hat := I.wis.at_ (adr 1 c k) _ (.inl ⟨0, k, x, by rw [hz]; rfl, hkl, by rw [h1, h2], hv⟩)
  rw [hk3] at hat
  rw [← hat] at hv
  exact ⟨adr 1 c k, 0, k, x, by rw [hz]; rfl, h2, hv, by rw [h1]⟩
/-- A block that goes. -/
theorem gone_at {c u j : Nat} {G : List Nat} {z : S6} (M : Mx c (stA u c G j) z) (hc : 1 ≤ c) (hG : ∀ a, a ∈ G ↔ ∃ k, k < blN c ∧ u.testBit k = true ∧ adr 1 c k = a) (hnd : G.Nodup) (hj : j < G.length) :
    ∃ k x, z.hs[0]? = some x ∧ x.bl[k]? = some 2 ∧ adr x.no x.cls k = G[j] ∧ ∀ (s : St) (cls : List Nat) (L : List (Nat × Nat)) (T : List Tu), Mx c (stA u c G (j + 1)) ⟨s, z.hs.set 0 { x with bl := x.bl.set k 3 }, cls, L, T⟩ := by
  obtain ⟨k, hk, hb, ha⟩ := (hG G[j]).1 (List.getElem_mem hj)
  have hnot : G[j] ∉ G.take j := fun h => by
    obtain ⟨i, hi, e⟩ := List.mem_iff_getElem.1 h
    rw [List.getElem_take] at e
    have hij : i < j := by rw [List.length_take] at hi; omega
    exact (List.pairwise_iff_getElem.1 hnd) i j (by omega) hj hij e
  have htk : ∀ a, a ∈ G.take (j + 1) ↔ a ∈ G.take j ∨ a = G[j] := fun a => by
    rw [List.take_succ_eq_append_getElem hj, List.mem_append, List.mem_singleton]
  have M0 := M
  obtain ⟨x, hz, h1, h2, h3, h4⟩ := M
  have hx : z.hs[0]? = some x := by rw [hz]; rfl
  have hkl : k < x.bl.length := by rw [h3]; exact hk
  have hv := List.getElem?_eq_getElem hkl
  have hs := h4 k _ hv
  unfold stA at hs
  rw [if_pos hb, ha, if_neg hnot] at hs
  rw [hs] at hv
  refine ⟨k, x, hx, hv, by rw [h1, h2]; exact ha, fun s cls L T => M0.set hx ?_ fun k2 v hk2 hv2 => ?_⟩
  · unfold stA
    rw [if_pos hb, ha, if_pos ((htk _).2 (.inr rfl))]
  · unfold stA at hv2 ⊢
    rw [hv2]
    by_cases e : u.testBit k2 = true
    · rw [if_pos e, if_pos e]
      by_cases e2 : adr 1 c k2 ∈ G.take j
      · rw [if_pos e2, if_pos ((htk _).2 (.inl e2))]
      · rw [if_neg e2, if_neg fun h => by
          rcases (htk _).1 h with h | h
          · exact e2 h
          · exact hk2 (adr_inj hc (h.trans ha.symm))]
    · rw [if_neg e, if_neg e]
theorem stA_end {c u : Nat} {G : List Nat} {z : S6} (M : Mx c (stA u c G G.length) z) (hG : ∀ a, a ∈ G ↔ ∃ k, k < blN c ∧ u.testBit k = true ∧ adr 1 c k = a) : Mx c (stB u) z := M.mono fun k v hk hv => by
  unfold stA at hv
  unfold stB
  rw [List.take_length] at hv
  by_cases e : u.testBit k = true
  · rw [if_pos e, if_pos ((hG _).2 ⟨k, hk, e, rfl⟩)] at hv
    rw [if_pos e]; exact hv
  · rw [if_neg e] at hv
    rw [if_neg e]; exact .inl hv
theorem st0_A {c u : Nat} {G : List Nat} {z : S6} (M : Mx c (st0 u) z) : Mx c (stA u c G 0) z := M.mono fun k v _ hv => by
  unfold st0 at hv
  unfold stA
  rw [hv]
  by_cases e : u.testBit k = true
  · rw [if_pos e, if_pos e, if_neg (by simp)]
  · rw [if_neg e, if_neg e]
theorem no_zero {c u : Nat} {z : S6} (M : Mx c (stB u) z) (h : ¬ ∃ a, FreeB z.hs c a) : Mx c (stC u) z := by
  obtain ⟨x, hz, h1, h2, h3, h4⟩ := M
  refine ⟨x, hz, h1, h2, h3, fun k v hv => ?_⟩
  have hs := h4 k v hv
  unfold stB at hs
  unfold stC
  split at hs
  · rename_i e; rw [if_pos e]; exact .inl hs
  · rename_i e
    rw [if_neg e]
    rcases hs with h0 | h0
    · rw [h0] at hv
      exact absurd ⟨_, 0, k, x, by rw [hz]; rfl, h2, hv, rfl⟩ h
    · exact .inl h0
/-- How many blocks are free. -/
def zn (z : S6) : Nat := (z.hs.map fun x => x.bl.count 0).sum
theorem count_set0 {l : List Nat} {j v : Nat} (h : l[j]? = some 0) (hv : v ≠ 0) : (l.set j v).count 0 + 1 = l.count 0 := by
  induction l generalizing j with
  | nil => simp at h
  | cons a t ih =>
    cases j with
    | zero =>
      simp at h
      subst h
      simp [List.count_cons, hv]
    | succ j =>
      have := ih (j := j) (by simpa using h)
      simp [List.count_cons]
      omega
end Go.Proofs.YtahojhaeebmpoaaGreatDoor
/- What SlabMixed's loops want besides; plain facts. -/
namespace Go.Proofs.YtahojhaeebmpoaaGreatDoor
open Go Go.RowKit Go.Sort
set_option linter.unusedVariables false
theorem usedR_len (L : List (Nat × Nat)) : (usedR L).length ≤ L.length := by
  have key : ∀ n, n ≤ L.length → (usedR (L.take n)).length ≤ n := by
    intro n
    induction n with
    | zero => intro _; simp [usedR]
    | succ n ih =>
      intro hn
      rw [List.take_succ_eq_append_getElem (by omega), usedR_snoc]
      have := ih (by omega)
      split
      · rw [insN_len]; omega
      · omega
  have := key L.length (Nat.le_refl _)
  rwa [List.take_length] at this
theorem LK_one {l : List Nat} (hb : ∀ x ∈ l, x < 256) (ok : okHeads l 1) : (LK l 1).length ≤ 15 := by
  have e : (LK l 1).length = (upB (hbW l 0) 64).length := by
    unfold LK blsK
    simp
  have h := okHead_bits (ok 0 (by decide)) (hbW_fit hb 0)
  have hnd : (upB (hbW l 0) 64).Nodup := List.nodup_range.filter _
  have := nodup_bound (blN (hcW l 0)) _ hnd (fun x hx => h.2 x (List.mem_filter.1 hx).2)
  have := blN_le (hcW l 0)
  omega
/-- A block is reserved, and begins to come. -/
theorem pub_all {c u j : Nat} {z z' : S6} {x : Hd} (M : Mx c (stB u) z) (C : Cov z) (hx : z.hs[0]? = some x) (hj : x.bl[j]? = some 0) (e1 : z'.hs = z.hs.set 0 { x with bl := x.bl.set j 1 }) (e2 : z'.T = z.T) :
    ∃ x', z'.hs[0]? = some x' ∧ x'.bl[j]? = some 1 ∧ x'.no = x.no ∧ x'.cls = x.cls ∧ ∀ (s : St) (cls : List Nat) (L : List (Nat × Nat)) (gt a : Nat), Mx c (stB u) ⟨s, z'.hs.set 0 { x' with bl := x'.bl.set j 4 }, cls, L, z'.T ++ [⟨gt, 0, j, a, 0, 0, 4⟩]⟩ ∧
      Cov ⟨s, z'.hs.set 0 { x' with bl := x'.bl.set j 4 }, cls, L, z'.T ++ [⟨gt, 0, j, a, 0, 0, 4⟩]⟩ ∧ zn ⟨s, z'.hs.set 0 { x' with bl := x'.bl.set j 4 }, cls, L, z'.T ++ [⟨gt, 0, j, a, 0, 0, 4⟩]⟩ + 1 = zn z := by
  obtain ⟨_, hz, h1, h2, h3, h4⟩ := M.get hx
  have hjl := (List.getElem?_eq_some_iff.1 hj).1
  have hu : u.testBit j = false := by
    have hs := h4 j 0 hj
    unfold stB at hs
    cases e : u.testBit j with
    | false => rfl
    | true => rw [if_pos e] at hs; omega
  have hs1 : z'.hs = [{ x with bl := x.bl.set j 1 }] := by rw [e1, hz]; rfl
  refine ⟨{ x with bl := x.bl.set j 1 }, by rw [hs1]; rfl, by show (x.bl.set j 1)[j]? = _; rw [List.getElem?_set, if_pos rfl, if_pos hjl], rfl, rfl, fun s cls L gt a => ⟨?_, ?_, ?_⟩⟩
  · refine ⟨{ x with bl := (x.bl.set j 1).set j 4 }, by show z'.hs.set 0 _ = _; rw [hs1]; rfl, h1, h2, by show ((x.bl.set j 1).set j 4).length = _; rw [List.length_set, List.length_set]; exact h3, fun k v hv => ?_⟩
    have hv : ((x.bl.set j 1).set j 4)[k]? = some v := hv
    rw [List.set_set, List.getElem?_set] at hv
    by_cases e : j = k
    · subst e
      rw [if_pos rfl, if_pos hjl] at hv
      cases hv
      unfold stB
      rw [hu]
      exact .inr rfl
    · rw [if_neg e] at hv; exact h4 k v hv
  · have C1 : Cov ⟨s, z.hs.set 0 { x with bl := x.bl.set j 1 }, cls, L, z.T⟩ := cov_set C hx (fun t ht _ => ht) (fun h => by omega)
    have hx1 : (z.hs.set 0 { x with bl := x.bl.set j 1 })[0]? = some { x with bl := x.bl.set j 1 } := by rw [hz]; rfl
    have C2 := cov_set (s := s) (cls := cls) (L := L) (T := z.T ++ [⟨gt, 0, j, a, 0, 0, 4⟩]) (j := j) (v := 4) C1 hx1 (fun t ht _ => List.mem_append.2 (.inl ht)) (fun _ => ⟨⟨gt, 0, j, a, 0, 0, 4⟩, by simp, rfl, rfl⟩)
    rw [e1, e2]
    exact C2
  · unfold zn
    show ((z'.hs.set 0 { x with bl := (x.bl.set j 1).set j 4 }).map fun x => x.bl.count 0).sum + 1 = (z.hs.map fun x => x.bl.count 0).sum
    rw [hs1, hz]
    show ((x.bl.set j 1).set j 4).count 0 + 0 + 1 = x.bl.count 0 + 0
    rw [List.set_set]
    have := count_set0 hj (v := 4) (by decide)
    omega
theorem zn_le {c : Nat} {st : Nat → Nat → Prop} {z : S6} (M : Mx c st z) : zn z ≤ 15 := by
  obtain ⟨x, hz, _, _, h3, _⟩ := M
  unfold zn
  rw [hz]
  have := List.count_le_length (a := 0) (l := x.bl)
  have := blN_le c
  simp
  omega
theorem zn_pos {c u : Nat} {z : S6} (M : Mx c (stB u) z) (h : ∃ a, FreeB z.hs c a) : 0 < zn z := by
  obtain ⟨a, i, j, x, hx, _, hb, _⟩ := h
  obtain ⟨_, hz, _⟩ := M.get hx
  unfold zn
  rw [hz]
  have : 0 < x.bl.count 0 := List.count_pos_iff.2 (List.mem_of_getElem? hb)
  simpa using this
theorem tm_pos {n : Nat} {z : S6} (I : Inv6 n z) (h : z.T ≠ []) : 0 < tm z.T := by
  cases hT : z.T with
  | nil => exact absurd hT h
  | cons t T =>
    obtain ⟨_, _, _, _, _, hk, _⟩ := I.tn t (by rw [hT]; simp)
    simp [tm]
    omega
theorem room_none6 {n c u : Nat} {z : S6} (I : Inv6 n z) (M : Mx c (stB u) z) (h : rmL z.cls z.L c z.cls.length = 0) : ¬ ∃ a, FreeB z.hs c a := by
  rintro ⟨a, i, k, y, hy, hyc, hb, ha⟩
  obtain ⟨rfl, hz, h1, h2, h3, h4⟩ := M.get hy
  have hcl : z.cls = [c] := by rw [I.wis.cls, hz]; simp [h2]
  rw [hcl] at h
  have e : rmL [c] z.L c [c].length = 0 + rmRow z.L 1 c c (blN c) := rfl
  rw [e] at h
  have hkl := (List.getElem?_eq_some_iff.1 hb).1
  have hat := I.wis.at_ (adr 1 c k) 0 (.inl ⟨0, k, y, hy, hkl, by rw [h1, h2], hb⟩)
  have hm : k ∈ (List.range (blN c)).filter fun k => rmB z.L 1 c c k := List.mem_filter.2 ⟨List.mem_range.2 (by rw [← h3]; exact hkl), by unfold rmB; rw [hat]; simp⟩
  have := List.length_pos_of_mem hm
  unfold rmRow at h
  omega
/-- A step of the game, of one slab whose blocks go and come. -/
theorem mix_step {n c u : Nat} {z z' : S6} (I : Inv6 n z) (M : Mx c (stC u) z) (C : Cov z) (h : (z.T = [] ∧ z' = z) ∨ ∃ q t x, z.T[q]? = some t ∧ z.hs[t.i]? = some x ∧ z' = finT z q t x) :
    Mx c (stC u) z' ∧ Cov z' ∧ z'.T.length ≤ z.T.length ∧ (z.T = [] ∨ tm z'.T + 1 = tm z.T) := by
  rcases h with ⟨h0, rfl⟩ | ⟨q, t, x, ht, hx, rfl⟩
  · exact ⟨M, C, Nat.le_refl _, .inl h0⟩
  · have h1 := finT_mx I M C ht hx
    refine ⟨h1.1, h1.2, ?_, .inr (finT_tm I ht)⟩
    unfold finT stepT
    split
    · exact List.length_eraseIdx_le z.T q
    · split
      · show (z.T.set _ _).length ≤ _; rw [List.length_set]; exact Nat.le_refl _
      · split
        · show (z.T.set _ _).length ≤ _; rw [List.length_set]; exact Nat.le_refl _
        · split
          · show (z.T.set _ _).length ≤ _; rw [List.length_set]; exact Nat.le_refl _
          · exact List.length_eraseIdx_le z.T q
end Go.Proofs.YtahojhaeebmpoaaGreatDoor
/- The law SlabMixed. -/
namespace Go.Proofs.YtahojhaeebmpoaaGreatDoor
open Go Go.RowKit Go.Sort
set_option linter.unusedVariables false
theorem GD.low2 {w0 w : World} {B size gg mg gs gw : Nat} {Q : World → Z6 → S6 → Nat → List Value → Prop} (G : GD w0 (fun _ => False) B size gg mg gs gw Q w) : Below w0.heap.size w0 w := by
  obtain ⟨y, z, n, xs, G, _⟩ := G
  exact G.but.below (Nat.le_refl _) (fun k h => h.elim)
/-- What the law holds from the first loop on. -/
def MXr (w0 : World) (P0 : Nat → Prop) (w2 : World) (size gg mg gs gw : Nat) (Q : Nat → S6 → Prop) (w : World) : Prop := ∃ N z, GD w0 P0 w2.heap.size size gg mg gs gw (RQ z) w ∧ Inv6 N z ∧ La6 z ∧ Cov z ∧ z.hs.length = 1 ∧ Q N z
set_option maxRecDepth 100000 in
set_option maxHeartbeats 8000000 in
theorem slabMixed_any (A3 : Option Addr) (n3 cap3 : Nat) (zs : List Int) (c0 : Int) (u0 : Nat) (w : World) (hu0 : u0 < 18446744073709551616) (hK : InRow .i64 w A3 n3 cap3 zs) (R : Rms w) :
    Calls Tryz.prog 6 #[.int .i64 c0, .int .u64 (u0 : Int), .slice A3 n3 cap3] w fun e w' => e = .returned (.bool true) ∧ Below w.heap.size w w' := by
  have mixed : Tryz.prog.follows .mixedOrders = true := by kernel_rfl
  have hU : 0 ≤ IntKind.u64.wrap c0 := by rw [IntKind.wrap_u64]; omega
  obtain ⟨c, hc⟩ : ∃ c : Nat, (c : Int) = 1 + IntKind.u64.wrap c0 % 3 := ⟨(1 + IntKind.u64.wrap c0 % 3).toNat, by omega⟩
  have hc13 : 1 ≤ c ∧ c ≤ 3 := by omega
  obtain ⟨n, hn⟩ : ∃ n, n = blN c := ⟨_, rfl⟩
  have hn15 : n ≤ 15 := by rw [hn]; exact blN_le c
  obtain ⟨P, hP⟩ : ∃ P, P = 2 ^ n := ⟨_, rfl⟩
  have hP1 : 1 ≤ P ∧ P ≤ 32768 := by rw [hP]; exact ⟨Nat.one_le_two_pow, by rw [hn]; exact pow_blN c⟩
  obtain ⟨u, hu⟩ : ∃ u, u = u0 % P := ⟨_, rfl⟩
  have huP : u < P := by rw [hu]; exact Nat.mod_lt _ (by omega)
  have hu2 : u < 2 ^ blN c := by rw [← hn, ← hP]; exact huP
  obtain ⟨r, hr⟩ : ∃ r : Nat, (r : Int) = IntKind.u64.wrap c0 % 3 := ⟨(IntKind.u64.wrap c0 % 3).toNat, by omega⟩
  have t1 : (IntKind.u64.wrap c0).tmod 3 = (r : Int) := by rw [Int.tmod_eq_emod_of_nonneg hU]; exact hr.symm
  have t2 : IntKind.i64.wrap (r : Int) = (r : Int) := by rw [IntKind.wrap_i64]; omega
  have t3 : IntKind.i64.wrap (1 + (r : Int)) = (c : Int) := by rw [IntKind.wrap_i64]; omega
  have t4 : IntKind.u64.wrap (n : Int) = (n : Int) := by rw [IntKind.wrap_u64]; omega
  have t5 : (u0 : Int).tmod (P : Int) = (u : Int) := by rw [Int.tmod_eq_emod_of_nonneg (by omega), hu]; omega
  have t6 : ¬ P = 0 := by omega
  have t7 : IntKind.u64.wrap (c : Int) = (c : Int) := by rw [IntKind.wrap_u64]; omega
  have hsh : IntKind.u64.wrap ((2 : Int) ^ n) = (P : Int) := by
    have e : (2 : Int) ^ n = ((2 ^ n : Nat) : Int) := by simp
    rw [e, ← hP, IntKind.wrap_u64]; omega
  have t8 : (u0 : Int) % (P : Int) = (u : Int) := by rw [hu]; omega
  have t9 : ¬ (P : Int) = 0 := by omega
  have HB := Lib.hid (show ∀ W, Calls Tryz.prog 23 #[.int .i64 (c : Int)] W fun e w' => e = .returned (.int .i64 (n : Int)) ∧ W = w' from fun W => by
    have h := refBlocks_any (c : Int) W
    rw [blN_C, ← hn] at h
    exact h)
  have HR := Lib.hid R
  have HKP := Lib.hid (show 0 < n3 → ∃ a, A3 = some a ∧ ∀ W, Below w.heap.size w W → ∀ i, i < n3 → W.cell? (a.add i) = some (.int .i64 (zs.getD i 0)) from fun h => by
    rcases hK with ⟨_, h0, _⟩ | ⟨x, rfl, h1, h2, h3, h4, h5⟩
    · omega
    · refine ⟨x, rfl, fun W hb i hi => ?_⟩
      have hc := h4 i (by omega)
      exact (hb.cell (w.block_lt_of_cell? _ hc)).trans hc)
  have hn3m : n3 ≤ maxLen := by
    rcases hK with ⟨_, h0, _⟩ | ⟨x, rfl, h1, h2, _⟩
    · rw [h0]; decide
    · omega
  have HI := Lib.hid (show ∀ W H, Row W H 59 #[.int .u64 (c : Int), .int .u64 (u : Int)] → Calls Tryz.prog 8 #[.slice (some ⟨H, 0, none⟩) 1 1, .int .u8 0] W (ImPost W [(c, u)] 0) from fun W H hr => image_any (w := W) (ga := ⟨H, 0, none⟩) (cap := 1) (f := 0) (l := [(c, u)]) (by
    refine ⟨fun i hi => ?_, fun i hi => ?_⟩
    · obtain rfl : i = 0 := by simp at hi; exact hi
      rw [Addr.add_lit, hr.cell]; rfl
    · obtain rfl : i = 0 := by simp at hi; exact hi
      rw [Nat.zero_mul, show (⟨H, 0, none⟩ : Addr).add 0 = ⟨H, 0, none⟩ from Addr.add_lit _ _ _ |>.trans rfl, hr.cell]; rfl) (by simp) (by simp) (by decide) (fun p hp => by
    simp at hp
    subst hp
    exact ⟨by show c < _; omega, by show u < _; omega⟩))
  have hok := ok_im hc13.2 hu2
  have HOK := Lib.hid hok
  have HBG := Lib.hid (show ∀ (W : World) (gi : Nat), Row W gi 5 ((imL [(c, u)] 0).map bv).toArray → Below w.heap.size w W → Calls Tryz.prog 17 #[.slice (some ⟨gi, 0, none⟩) 2048 2048] W fun e w' => ∃ gg mg gs gw, e = .returned (.pointer (some ⟨gg, 0, none⟩)) ∧ GD W (fun _ => False) W.heap.size (imL [(c, u)] 0).length gg mg gs gw (RQ (ini6 (imL [(c, u)] 0) 1)) w' from fun W gi hr hb => begin6_any (cap := 2048) (n := 1) (imL_len [(c, u)] 0) hr (imL_byte (by decide)) (by decide) (by decide) (R.below hb) hok)
  have HINI := Lib.hid (ini6_inv (n := 1) (imL_byte (l := [(c, u)]) (f := 0) (by decide)) (by decide) hok)
  have HLA := Lib.hid (ini6_la (n := 1) (imL_len [(c, u)] 0) (imL_byte (l := [(c, u)]) (f := 0) (by decide)) hok)
  have HMX := Lib.hid (mx_im hc13.2 hu2)
  have HLK := Lib.hid (Nat.le_trans (usedR_len (LK (imL [(c, u)] 0) 1)) (LK_one (imL_byte (l := [(c, u)]) (f := 0) (by decide)) hok))
  have HU2 := Lib.hid hu2
  have HU64 := Lib.hid (show u < 18446744073709551616 from by omega)
  have HN := Lib.hid hn
  obtain ⟨Lm, hLm⟩ : ∃ Lm, Lm = imL [(c, u)] 0 := ⟨_, rfl⟩
  have HLM := Lib.hid hLm
  have hLml : Lm.length = 2048 := by rw [hLm, imL_len]; rfl
  rw [← hLm] at HOK HBG HINI HLA HMX HLK
  clear hU hc hn hP hu hu0 hr hK R hok huP hu2
  go_enter Tryz.func6, Tryz.ntmps6
  go_wp2_with fail
  refine (HB.out _).mono ?_
  rintro e w1 ⟨rfl, rfl⟩
  by_cases h300 : 300 < n3
  · have d300 : decide ((300 : Int) < (n3 : Int)) = true := by simp; omega
    go_wp2_with fail
    refine (known6_any w HR.out).mono ?_
    rintro e w2 ⟨rfl, hb⟩
    go_wp2
    go_ret
    exact ⟨rfl, hb⟩
  have d300 : decide ((300 : Int) < (n3 : Int)) = false := by simp; omega
  go_wp2_with fail
  refine (HI.out _ w.heap.size (Row.new _ _ _)).mono ?_
  rintro e w2 ⟨gi, rfl, hr, hb2, _⟩
  have HB2 := Lib.hid (show Below w.heap.size w w2 from Below.and (alloc_below _ _) hb2)
  rw [show 1024 * ([(c, u)].length + 1) = 2048 from rfl]
  rw [← HLM.out] at hr
  have HO2 := Lib.hid (HBG.out w2 gi hr HB2.out)
  clear hr hb2 HBG HI
  go_wp2_with fail
  refine HO2.out.mono ?_
  rintro e w3 ⟨gg, mg, gs, gw, rfl, hg⟩
  have HB3 := Lib.hid (Below.and HB2.out hg.low2)
  have HG3 := Lib.hid hg
  have HUS := Lib.hid (hg.used HINI.out (by decide))
  have c2 := hg.cells.2.2
  clear hg HO2
  go_wp2_with fail
  refine HUS.out.mono ?_
  rintro e w4 ⟨v, rfl, hown, hb4⟩
  obtain ⟨PP, hg4, hPP, hback⟩ := HG3.out.rebase2 hb4
  obtain ⟨Gl, hGl⟩ : ∃ G, G = usedR (ini6 Lm 1).L := ⟨_, rfl⟩
  rw [← hGl] at hown
  have HGM := Lib.hid (show ∀ a, a ∈ Gl ↔ ∃ k, k < blN c ∧ u.testBit k = true ∧ adr 1 c k = a from by
    rw [hGl]
    exact gone_mem HINI.out.wis HG3.out.ok.1 HG3.out.ok.2.1 HMX.out)
  have HGN := Lib.hid (show Gl.Nodup from by
    rw [hGl]
    exact (usedR_sorted HINI.out.wis.nd).imp fun h => Nat.ne_of_lt h)
  have hm15 : Gl.length ≤ 15 := by rw [hGl]; exact HLK.out
  obtain ⟨A, gcap, hv, _, _, _, _⟩ := own_sl hown
  subst hv
  have HGC := Lib.hid (show ∀ W, But w4 W PP → ∀ j (hj : j < Gl.length), ∃ g, A = some g ∧ W.cell? (g.add j) = some (.int .u64 ((Gl[j] : Nat) : Int)) from fun W hb j hj => by
    have ho := own_block hown (fun g hg => hb.block g (own_tag hown hg).lt (fun h => by have := hPP g h; have := own_base hown hg; omega))
    obtain ⟨A2, c2, e, _, _, hs, _⟩ := own_sl ho
    cases e
    obtain ⟨g, e2, q⟩ := hs.at_ (i := j) (by rw [List.length_map]; exact hj)
    exact ⟨g, e2, by rw [q, List.getElem_map]; rfl⟩)
  have HLOW := Lib.hid (show ∀ z W, GD w4 PP w2.heap.size Lm.length gg mg gs gw (RQ z) W → Below w.heap.size w W from fun z W h => Below.and HB2.out (hback z W h).low2)
  obtain ⟨m, hm⟩ : ∃ m, m = Gl.length := ⟨_, rfl⟩
  have HM := Lib.hid hm
  rw [← hm] at hm15 ⊢
  have HST := Lib.hid (show MXr w4 PP w2 Lm.length gg mg gs gw (fun N z => N = 0 ∧ Mx c (stA u c Gl 0) z) w4 from ⟨0, ini6 Lm 1, hg4, HINI.out, HLA.out, cov_im Lm, hsK_len _ _ _ _, rfl, st0_A HMX.out⟩)
  clear hown hb4 hg4 hPP hback hGl hm HUS HG3 HINI HLA HMX HLK c2 HB HOK HB3
  go_wp2
  go_loopw [11] (fun v wr => ∃ j : Nat, j ≤ m ∧ v = .int .i64 (j : Int) ∧ MXr w4 PP w2 Lm.length gg mg gs gw (fun N z => N = j ∧ Mx c (stA u c Gl j) z) wr) (fun v _ => m - (intOf v).toNat)
  case atStart => exact ⟨0, Nat.zero_le _, rfl, HST.out⟩
  case round =>
    obtain ⟨j, hjm, rfl, N, z, hg, hi, hla, hcov, hz1, rfl, hmx⟩ := hrel
    rename World => wr
    have HG := Lib.hid hg
    have HIv := Lib.hid hi
    have HLa := Lib.hid hla
    have HCv := Lib.hid hcov
    have HZ1 := Lib.hid hz1
    have HMx := Lib.hid hmx
    clear hg hi hla hcov hz1 hmx HST
    by_cases hlt : N < m
    · have e1 : decide ((N : Int) < (m : Int)) = true := by simp; omega
      have hjl : N < Gl.length := by rw [← HM.out]; exact hlt
      obtain ⟨ga, hA, hcell⟩ := HGC.out wr HG.out.but N hjl
      subst hA
      obtain ⟨k, x, hx, hb, ha, hall⟩ := gone_at HMx.out hc13.1 HGM.out HGN.out hjl
      obtain ⟨a, haa⟩ : ∃ a, a = Gl[N] := ⟨_, rfl⟩
      rw [← haa] at hcell ha
      have HD := Lib.hid (show Calls Tryz.prog 18 #[.pointer (some ⟨gg, 0, none⟩), .agg #[.int .i64 4, .int .i64 (-1), .int .u64 (a : Int), .int .i64 0]] wr _ from gdo6_4_o HG.out HIv.out (by omega) (-1) 0 a a (by unfold blkOf; rw [if_neg (by omega)]) (by decide) hx hb ha)
      have HALL := Lib.hid hall
      have HX := Lib.hid hx
      clear hall hx hb ha haa hjl
      go_wp2_with fail
      refine HD.out.mono ?_
      rintro e w5 ⟨rfl, z', hst, ⟨gt, hz'⟩, hg5⟩
      have HE := Lib.hid (show MXr w4 PP w2 Lm.length gg mg gs gw (fun N2 z => N2 = N + 1 ∧ Mx c (stA u c Gl (N + 1)) z) w5 from ⟨N + 1, z', hg5, HG.out.inv HIv.out hst, HG.out.la2 HIv.out HLa.out hst, by
        rw [hz']
        exact cov_set HCv.out HX.out (fun t ht _ => List.mem_append.2 (.inl ht)) (fun _ => ⟨_, List.mem_append.2 (.inr (List.mem_singleton.2 rfl)), rfl, rfl⟩), (Step6.hs hst).1.trans HZ1.out, rfl, by rw [hz']; exact HALL.out _ _ _ _⟩)
      clear hst hz' hg5 HD hcell
      go_wp2
      exact ⟨⟨N + 1, by omega, by go_num, HE.out⟩, by show m - ((N : Int) + 1).toNat < m - (N : Int).toNat; omega⟩
    · have e1 : decide ((N : Int) < (m : Int)) = false := by simp; omega
      have hNm : N = Gl.length := by rw [← HM.out]; omega
      have HST := Lib.hid (show MXr w4 PP w2 Lm.length gg mg gs gw (fun N z => N + 2 * zn z ≤ 45 ∧ zn z ≤ 16 ∧ Mx c (stB u) z) wr from ⟨N, z, HG.out, HIv.out, HLa.out, HCv.out, HZ1.out, by have := zn_le HMx.out; omega, by have := zn_le HMx.out; omega, stA_end (by have := HMx.out; rw [hNm] at this; exact this) HGM.out⟩)
      clear hNm HG HIv HLa HCv HZ1 HMx HGC HGM HGN
      go_wp2
      go_loopg [12] 16 (fun k v wr => MXr w4 PP w2 Lm.length gg mg gs gw (fun N z => N + 2 * zn z ≤ 45 ∧ zn z ≤ k ∧ Mx c (stB u) z) wr)
      case atStart => exact HST.out
      case round =>
        obtain ⟨N, z, hg, hi, hla, hcov, hz1, h45, hzn, hmx⟩ := hrel
        rename World => wr2
        have HG := Lib.hid hg
        have HIv := Lib.hid hi
        have HLa := Lib.hid hla
        have HCv := Lib.hid hcov
        have HZ1 := Lib.hid hz1
        have HMx := Lib.hid hmx
        clear hg hi hla hcov hz1 hmx HST
        have HRM := Lib.hid (HG.out.room HIv.out (by omega) hc13)
        obtain ⟨rm, hrm⟩ : ∃ rm, rm = rmL z.cls z.L c z.cls.length := ⟨_, rfl⟩
        rw [← hrm] at HRM
        obtain ⟨g0, g1, g2⟩ := HG.out.cells
        by_cases hr0 : 0 < rm
        · have er : decide ((0 : Int) < (rm : Int)) = true := by simp; omega
          have hfree := room_free HIv.out HG.out.ok.1 HMx.out hc13.1 (by rw [← hrm]; exact hr0)
          have HFR := Lib.hid hfree
          have HRES := Lib.hid (HG.out.res hc13)
          clear hfree hrm
          go_wp2_with fail
          refine HRM.out.mono ?_
          rintro e w5 ⟨rfl, rfl⟩
          go_wp2_with fail
          refine HRES.out.mono ?_
          rintro e w6 ⟨A6, E6, rfl, hres⟩
          have hcells := (show _ ∧ _ ∧ _ from by obtain ⟨_, _, _, _, hgr⟩ := hres; exact hgr.cells)
          clear g0 g1 g2
          obtain ⟨g0, g1, g2⟩ := hcells
          obtain ⟨rfl, j, x, a, rfl, hx, hj, ha, hrr⟩ := GD.resX HIv.out (by omega) hc13 HG.out.ok.1 HG.out.ok.2.1 HG.out.ok.2.2.2.2.2 HMx.out HFR.out hres
          have HRR := Lib.hid hrr
          have HX := Lib.hid hx
          have HJ := Lib.hid hj
          have HAd := Lib.hid ha
          clear hrr hx hj ha hres HRES HRM HFR
          go_wp2_with fail
          refine HRR.out.mono ?_
          rintro e w7 ⟨rfl, z', hst, hh, hT, hg7⟩
          obtain ⟨x', hx', hj', hno', hcl', hall⟩ := pub_all HMx.out HCv.out HX.out HJ.out hh hT
          have HI2 := Lib.hid (HG.out.inv HIv.out hst)
          have HL2 := Lib.hid (HG.out.la2 HIv.out HLa.out hst)
          have HZ2 := Lib.hid ((Step6.hs hst).1.trans HZ1.out)
          have HG7 := Lib.hid hg7
          have HALL := Lib.hid hall
          have HD := Lib.hid (show Calls Tryz.prog 18 #[.pointer (some ⟨gg, 0, none⟩), .agg #[.int .i64 3, .int .i64 (-1), .int .u64 (a : Int), .int .i64 0]] w7 _ from gdo6_3_o hg7 HI2.out (by omega) (-1) 0 a a (by unfold blkOf; rw [if_neg (by omega)]) (by decide) hx' hj' (by rw [hno', hcl']; exact HAd.out))
          have hzp := zn_pos HMx.out (show ∃ a, FreeB z.hs c a from by obtain ⟨_, _, _, h2, _⟩ := HMx.out.get HX.out; exact ⟨a, 0, j, x, HX.out, by have := (HMx.out.get HX.out).2.2.2.1; exact this, HJ.out, by have := (HMx.out.get HX.out).2.2.2.1; rw [← this]; exact HAd.out⟩)
          clear hst hh hT hg7 hx' hj' hno' hcl' hall g0 g1 g2 HRR
          go_wp2_with fail
          refine HD.out.mono ?_
          rintro e w8 ⟨rfl, z2, hst2, ⟨gt, hz2⟩, hg8⟩
          have hzn2 : zn z2 + 1 = zn z := by rw [hz2]; exact (HALL.out _ _ _ gt a).2.2
          have HE := Lib.hid (show MXr w4 PP w2 Lm.length gg mg gs gw (fun N z => N + 2 * zn z ≤ 45 ∧ zn z ≤ gk - 1 ∧ Mx c (stB u) z) w8 from ⟨N + 1 + 1, z2, hg8, HG7.out.inv HI2.out hst2, HG7.out.la2 HI2.out HL2.out hst2, by rw [hz2]; exact (HALL.out _ _ _ gt a).2.1, (Step6.hs hst2).1.trans HZ2.out, by omega, by omega, by rw [hz2]; exact (HALL.out _ _ _ gt a).1⟩)
          clear hst2 hz2 hg8 HD hzn2
          go_wp2
          go_roundg (gk - 1)
          case measure => omega
          case rel => exact HE.out
        · have er : decide ((0 : Int) < (rm : Int)) = false := by simp; omega
          have hno := room_none6 HIv.out HMx.out (by rw [← hrm]; omega)
          have HST := Lib.hid (show MXr w4 PP w2 Lm.length gg mg gs gw (fun N z => N ≤ 45 + 0 ∧ z.T.length ≤ 45 ∧ Mx c (stC u) z) wr2 from ⟨N, z, HG.out, HIv.out, HLa.out, HCv.out, HZ1.out, by omega, by have := HIv.out.tl; omega, no_zero HMx.out hno⟩)
          clear hno hrm HIv HLa HCv HZ1 HMx
          go_wp2_with fail
          refine HRM.out.mono ?_
          rintro e w5 ⟨rfl, rfl⟩
          clear HG HRM g0 g1 g2
          go_wp2
          go_loopw [16] (fun v wr => ∃ j : Nat, j ≤ n3 ∧ v = .int .i64 (j : Int) ∧ MXr w4 PP w2 Lm.length gg mg gs gw (fun N z => N ≤ 45 + j ∧ z.T.length ≤ 45 ∧ Mx c (stC u) z) wr) (fun v _ => n3 - (intOf v).toNat)
          case atStart => exact ⟨0, Nat.zero_le _, rfl, HST.out⟩
          case round =>
            obtain ⟨j, hj3, rfl, N, z, hg, hi, hla, hcov, hz1, hN, hTl, hmx⟩ := hrel
            rename World => wr3
            have HG := Lib.hid hg
            have HIv := Lib.hid hi
            have HLa := Lib.hid hla
            have HCv := Lib.hid hcov
            have HZ1 := Lib.hid hz1
            have HMx := Lib.hid hmx
            clear hg hi hla hcov hz1 hmx HST
            by_cases hlt : j < n3
            · have e1 : decide ((j : Int) < (n3 : Int)) = true := by simp; omega
              obtain ⟨ka, rfl, hkp⟩ := HKP.out (by omega)
              have hcell := hkp wr3 (HLOW.out z wr3 HG.out) j hlt
              obtain ⟨kv, hkv⟩ : ∃ k, k = zs.getD j 0 := ⟨_, rfl⟩
              rw [← hkv] at hcell
              have HD := Lib.hid (show Calls Tryz.prog 18 #[.pointer (some ⟨gg, 0, none⟩), .agg #[.int .i64 5, .int .i64 kv, .int .u64 0, .int .i64 0]] wr3 _ from gdo6_5 HG.out HIv.out (by omega) kv 0 0)
              clear hkp hkv
              go_wp2_with fail
              refine HD.out.mono ?_
              rintro e w5 ⟨rfl, z', hst, hR, hg5⟩
              obtain ⟨m1, m2, m3, _⟩ := mix_step HIv.out HMx.out HCv.out hR
              have HE := Lib.hid (show MXr w4 PP w2 Lm.length gg mg gs gw (fun N z => N ≤ 45 + (j + 1) ∧ z.T.length ≤ 45 ∧ Mx c (stC u) z) w5 from ⟨N + 1, z', hg5, HG.out.inv HIv.out hst, HG.out.la2 HIv.out HLa.out hst, m2, (Step6.hs hst).1.trans HZ1.out, by omega, by omega, m1⟩)
              clear hst hR hg5 m1 m2 m3 HD hcell
              go_wp2
              exact ⟨⟨j + 1, by omega, by go_num, HE.out⟩, by show n3 - ((j : Int) + 1).toNat < n3 - (j : Int).toNat; omega⟩
            · have e1 : decide ((j : Int) < (n3 : Int)) = false := by simp; omega
              have HST := Lib.hid (show MXr w4 PP w2 Lm.length gg mg gs gw (fun N z => N ≤ 345 + 0 ∧ 0 + tm z.T ≤ 180 ∧ Mx c (stC u) z) wr3 from ⟨N, z, HG.out, HIv.out, HLa.out, HCv.out, HZ1.out, by omega, by have := tm_le z.T; omega, HMx.out⟩)
              clear HG HIv HLa HCv HZ1 HMx
              go_wp2
              go_loopw [17] (fun v wr => ∃ i : Nat, i ≤ 400 ∧ v = .int .i64 (i : Int) ∧ MXr w4 PP w2 Lm.length gg mg gs gw (fun N z => N ≤ 345 + i ∧ i + tm z.T ≤ 180 ∧ Mx c (stC u) z) wr) (fun v _ => 400 - (intOf v).toNat)
              case atStart => exact ⟨0, by decide, rfl, HST.out⟩
              case round =>
                obtain ⟨i, hi4, rfl, N, z, hg, hi, hla, hcov, hz1, hN, htm, hmx⟩ := hrel
                rename World => wr4
                have HG := Lib.hid hg
                have HIv := Lib.hid hi
                have HLa := Lib.hid hla
                have HCv := Lib.hid hcov
                have HZ1 := Lib.hid hz1
                have HMx := Lib.hid hmx
                clear hg hi hla hcov hz1 hmx HST
                have e4 : decide ((i : Int) < 400) = true := by simp; omega
                obtain ⟨At, ct, hc3⟩ := HG.out.turns
                obtain ⟨tl, htl⟩ : ∃ tl, tl = z.T.length := ⟨_, rfl⟩
                rw [← htl] at hc3
                by_cases hT0 : tl = 0
                · have hT : z.T = [] := List.eq_nil_of_length_eq_zero (by rw [← htl]; exact hT0)
                  subst hT0
                  have HT := Lib.hid hT
                  obtain ⟨g0, g1, g2⟩ := HG.out.cells
                  have hlas : 0 < z.s.lasted.length := by have h1 := HG.out.las2; have h2 := HG.out.ok.2.2.1; have h3 := HG.out.hpos; omega
                  have hbl : (bytesL z.s.lasted).length = 2048 := by have h1 := HG.out.las2; have h2 := HG.out.ok.2.2.1; have h3 := HZ1.out; rw [bytesL_length]; omega
                  have HIM := HG.out.image2 hlas
                  have hend := end_plain (l := bytesL z.s.lasted) HLa.out HIv.out.wis HG.out.ok.1 HMx.out HCv.out hT hc13 HU2.out (bytesL_lt _) (heads_of HG.out.ok.2.2.2.1 (by have h1 := HG.out.las2; have h2 := HG.out.ok.2.2.1; have h3 := HG.out.hpos; omega))
                  have HIM := Lib.hid HIM
                  have HEND := Lib.hid hend
                  have HBL := Lib.hid hbl
                  clear hT htl hend hlas hbl
                  go_wp2_with fail
                  refine HIM.out.mono ?_
                  rintro e w5 ⟨ig, icap, rfl, hir, hib⟩
                  rw [HBL.out]
                  have HG5 := Lib.hid (HG.out.below hib)
                  have HO := Lib.hid (show Calls Tryz.prog 10 #[.slice (some ⟨ig, 0, none⟩) 2048 icap] w5 (R6Post w5 (bytesL z.s.lasted) 1) from r6Of_yes (n := 1) HBL.out hir (bytesL_lt _) (by decide) (by decide))
                  clear hir hib HIM g0 g1 g2 hc3
                  go_wp2_with fail
                  refine HO.out.mono ?_
                  rintro e w6 (⟨_, go, vo, lo, rfl, hW, hb6⟩ | ⟨hno, _⟩)
                  case inr => exact absurd HEND.out.1 hno
                  unfold fpt
                  have HG6 := Lib.hid (HG5.out.below hb6)
                  obtain ⟨Ao, co, rfl⟩ := own_at6 hW.bl
                  obtain ⟨ml, hml⟩ : ∃ ml, ml = (LK (bytesL z.s.lasted) 1).length := ⟨_, rfl⟩
                  have HCNT := Lib.hid (show ml + (upB u 64).length = n from by rw [hml, HN.out]; exact HEND.out.2.2)
                  obtain ⟨cnt, hcnt⟩ : ∃ cnt, cnt = (upB u 64).length := ⟨_, rfl⟩
                  rw [← hcnt] at HCNT
                  have HCO := Lib.hid (show ∀ W, Below w6.heap.size w6 W → W.cell? ⟨go, 2, none⟩ = some (.slice Ao ml co) from fun W hW2 => by
                    have r2 := (hW.below hW2).row
                    rw [hml, r2.cell]; rfl)
                  have hLK := LK_len (bytesL z.s.lasted) 1
                  have HUO := Lib.hid (show ∀ W, Below w6.heap.size w6 W → Calls Tryz.prog 24 #[.pointer (some ⟨go, 0, none⟩)] W (U6Post W (usedR (LK (bytesL z.s.lasted) 1))) from fun W hW2 => by
                    have hini := ini_is (bytesL_lt z.s.lasted) (by decide : 1 ≤ 64) HEND.out.1
                    exact r6Used_any (hW.below hW2) (by omega) hini.nd (hini.pos (hsK_ok _ _ _) (by rw [hsK_len]; decide)))
                  have hul : (usedR (LK (bytesL z.s.lasted) 1)).length ≤ 1000000000 := Nat.le_trans (usedR_len _) (by omega)
                  have HUL := Lib.hid hul
                  have HML := Lib.hid hml
                  have HCN := Lib.hid hcnt
                  have hcn : cnt ≤ n := by have := HCNT.out; omega
                  have e9 : IntKind.i64.wrap ((n : Int) - (cnt : Int)) = (ml : Int) := by rw [IntKind.wrap_i64]; have := HCNT.out; omega
                  clear hW hb6 hLK hul hml hcnt HG5 HO HG
                  have HTS := Lib.hid (show ∀ W, GD w4 PP w2.heap.size Lm.length gg mg gs gw (RQ z) W → ∃ A c, W.cell? ⟨gg, 3, none⟩ = some (.slice A 0 c) from fun W h => by have := h.turns; rw [HT.out] at this; exact this)
                  go_upto_region 31 with (fail)
                  refine wp_region_noPanic ?_
                  obtain ⟨A9, c9, hc9⟩ := HTS.out _ (HG6.out.below (drew_below w6))
                  have HS0 := Lib.hid (show ∀ W, Below w6.drew.heap.size w6.drew W → W.cell? ⟨gg, 3, none⟩ = some (.slice A9 0 c9) ∧ W.cell? ⟨gg, 2, none⟩ = some (.pointer (some ⟨gw, 0, none⟩)) ∧ W.cell? ⟨go, 2, none⟩ = some (.slice Ao ml co) from fun W hW => ⟨(hW.cell (w6.drew.block_lt_of_cell? _ hc9)).trans hc9, (HG6.out.below (Below.and (drew_below w6) hW)).cells.2.2, HCO.out W (Below.and (drew_below w6) hW)⟩)
                  have HUW := Lib.hid (show ∀ W, Below w6.drew.heap.size w6.drew W → Calls Tryz.prog 24 #[.pointer (some ⟨gw, 0, none⟩)] W fun e w' => ∃ v, e = .returned v ∧ w'.ownsRow W.heap.size 24 1 v (usedR z.L).length ((usedR z.L).map wv) ∧ Below W.heap.size W w' from fun W hW => (HG6.out.below (Below.and (drew_below w6) hW)).used HIv.out (by omega))
                  have HLW := Lib.hid (show Below w.heap.size w w6.drew from HLOW.out z _ (HG6.out.below (drew_below w6)))
                  refine wp_region_held_drew (S := fun W => W.cell? ⟨gg, 3, none⟩ = some (.slice A9 0 c9) ∧ W.cell? ⟨gg, 2, none⟩ = some (.pointer (some ⟨gw, 0, none⟩)) ∧ W.cell? ⟨go, 2, none⟩ = some (.slice Ao ml co)) (by kernel_rfl) (HS0.out _ (Below.refl _ _)) (fun hHeld => ?_)
                  have EGr6Used := Lib.hid (enters_of Tryz.func24 (by kernel_rfl) rfl)
                  have EGr5Same := Lib.hid (enters_of Tryz.func28 (by kernel_rfl) rfl)
                  have EGr5Bits := Lib.hid (enters_of Tryz.func29 (by kernel_rfl) rfl)
                  have EGknown6 := Lib.hid (enters_of Tryz.func7 (by kernel_rfl) rfl)
                  have HB0 := Lib.hid (Below.refl w6.drew.heap.size w6.drew)
                  clear hc9
                  refine wpAnyH_take (i := 0) (oi := ⟨some 147, _, _, _, _, _⟩) (v := .pointer (some ⟨gg, 0, none⟩)) rfl (by kernel_rfl) (by kernel_rfl) (by kernel_rfl) (fun _ _ _ h => h) (Or.inl ⟨by kernel_rfl, by intro WW hSw; obtain ⟨s0, s1, s2⟩ := hSw; go_simp⟩) (by assumption) ?_
                  (try simp only [Act.put, List.setIfInBounds_toArray, List.set_cons_zero, List.set_cons_succ])
                  refine wpAnyH_take (i := 1) (oi := ⟨some 148, _, _, _, _, _⟩) (v := .pointer (some ⟨gg, 0, none⟩)) rfl (by kernel_rfl) (by kernel_rfl) (by kernel_rfl) (fun _ _ _ h => h) (Or.inl ⟨by kernel_rfl, by intro WW hSw; obtain ⟨s0, s1, s2⟩ := hSw; go_simp⟩) (by assumption) ?_
                  (try simp only [Act.put, List.setIfInBounds_toArray, List.set_cons_zero, List.set_cons_succ])
                  refine wpAnyH_take (i := 2) (oi := ⟨some 149, _, _, _, _, _⟩) (v := .pointer (some ⟨gg, 3, none⟩)) rfl (by kernel_rfl) (by kernel_rfl) (by kernel_rfl) (fun _ _ _ h => h) (Or.inl ⟨by kernel_rfl, by intro WW hSw; obtain ⟨s0, s1, s2⟩ := hSw; go_simp⟩) (by assumption) ?_
                  (try simp only [Act.put, List.setIfInBounds_toArray, List.set_cons_zero, List.set_cons_succ])
                  refine wpAnyH_take (i := 3) (oi := ⟨some 150, _, _, _, _, _⟩) (v := .slice A9 0 c9) rfl (by kernel_rfl) (by kernel_rfl) (by kernel_rfl) (fun _ _ _ h => h) (Or.inl ⟨by kernel_rfl, by intro WW hSw; obtain ⟨s0, s1, s2⟩ := hSw; go_simp⟩) (by assumption) ?_
                  (try simp only [Act.put, List.setIfInBounds_toArray, List.set_cons_zero, List.set_cons_succ])
                  refine wpAnyH_take (i := 4) (oi := ⟨some 151, _, _, _, _, _⟩) (v := .int .i64 0) rfl (by kernel_rfl) (by kernel_rfl) (by kernel_rfl) (fun _ _ _ h => h) (Or.inl ⟨by kernel_rfl, by intro WW hSw; obtain ⟨s0, s1, s2⟩ := hSw; go_simp⟩) (by assumption) ?_
                  (try simp only [Act.put, List.setIfInBounds_toArray, List.set_cons_zero, List.set_cons_succ])
                  refine wpAnyH_take (i := 5) (oi := ⟨some 152, _, _, _, _, _⟩) (v := .bool true) rfl (by kernel_rfl) (by kernel_rfl) (by kernel_rfl) (fun _ _ _ h => h) (Or.inl ⟨by kernel_rfl, by intro WW hSw; obtain ⟨s0, s1, s2⟩ := hSw; go_simp⟩) (by assumption) ?_
                  (try simp only [Act.put, List.setIfInBounds_toArray, List.set_cons_zero, List.set_cons_succ])
                  refine wpAnyH_take (i := 6) (oi := ⟨some 153, _, _, _, _, _⟩) (v := .bool true) rfl (by kernel_rfl) (by kernel_rfl) (by kernel_rfl) (fun _ _ _ h => h) (Or.inl ⟨by kernel_rfl, by intro WW hSw; obtain ⟨s0, s1, s2⟩ := hSw; go_simp⟩) (by assumption) ?_
                  (try simp only [Act.put, List.setIfInBounds_toArray, List.set_cons_zero, List.set_cons_succ])
                  refine wpAnyH_take (i := 7) (oi := ⟨some 154, _, _, _, _, _⟩) (v := .int .i64 0) rfl (by kernel_rfl) (by kernel_rfl) (by kernel_rfl) (fun _ _ _ h => h) (Or.inl ⟨by kernel_rfl, by intro WW hSw; obtain ⟨s0, s1, s2⟩ := hSw; go_simp⟩) (by assumption) ?_
                  (try simp only [Act.put, List.setIfInBounds_toArray, List.set_cons_zero, List.set_cons_succ])
                  refine wpAnyH_take (i := 8) (oi := ⟨some 155, _, _, _, _, _⟩) (v := .bool true) rfl (by kernel_rfl) (by kernel_rfl) (by kernel_rfl) (fun _ _ _ h => h) (Or.inl ⟨by kernel_rfl, by intro WW hSw; obtain ⟨s0, s1, s2⟩ := hSw; go_simp⟩) (by assumption) ?_
                  (try simp only [Act.put, List.setIfInBounds_toArray, List.set_cons_zero, List.set_cons_succ])
                  refine wpAnyH_take (i := 9) (oi := ⟨some 156, _, _, _, _, _⟩) (v := .bool true) rfl (by kernel_rfl) (by kernel_rfl) (by kernel_rfl) (fun _ _ _ h => h) (Or.inl ⟨by kernel_rfl, by intro WW hSw; obtain ⟨s0, s1, s2⟩ := hSw; go_simp⟩) (by assumption) ?_
                  (try simp only [Act.put, List.setIfInBounds_toArray, List.set_cons_zero, List.set_cons_succ])
                  refine wpAnyH_take (i := 10) (oi := ⟨some 157, _, _, _, _, _⟩) (v := .bool true) rfl (by kernel_rfl) (by kernel_rfl) (by kernel_rfl) (fun _ _ _ h => h) (Or.inl ⟨by kernel_rfl, by intro WW hSw; obtain ⟨s0, s1, s2⟩ := hSw; go_simp⟩) (by assumption) ?_
                  (try simp only [Act.put, List.setIfInBounds_toArray, List.set_cons_zero, List.set_cons_succ])
                  refine wpAnyH_take (i := 11) (oi := ⟨some 158, _, _, _, _, _⟩) (v := .pointer (some ⟨go, 0, none⟩)) rfl (by kernel_rfl) (by kernel_rfl) (by kernel_rfl) (fun _ _ _ h => h) (Or.inl ⟨by kernel_rfl, by intro WW hSw; obtain ⟨s0, s1, s2⟩ := hSw; go_simp⟩) (by assumption) ?_
                  (try simp only [Act.put, List.setIfInBounds_toArray, List.set_cons_zero, List.set_cons_succ])
                  refine wpAnyH_take (i := 13) (oi := ⟨some 160, _, _, _, _, _⟩) (v := .pointer (some ⟨gg, 0, none⟩)) rfl (by kernel_rfl) (by kernel_rfl) (by kernel_rfl) (fun _ _ _ h => h) (Or.inl ⟨by kernel_rfl, by intro WW hSw; obtain ⟨s0, s1, s2⟩ := hSw; go_simp⟩) (by assumption) ?_
                  (try simp only [Act.put, List.setIfInBounds_toArray, List.set_cons_zero, List.set_cons_succ])
                  refine wpAnyH_take (i := 14) (oi := ⟨some 161, _, _, _, _, _⟩) (v := .pointer (some ⟨gg, 0, none⟩)) rfl (by kernel_rfl) (by kernel_rfl) (by kernel_rfl) (fun _ _ _ h => h) (Or.inl ⟨by kernel_rfl, by intro WW hSw; obtain ⟨s0, s1, s2⟩ := hSw; go_simp⟩) (by assumption) ?_
                  (try simp only [Act.put, List.setIfInBounds_toArray, List.set_cons_zero, List.set_cons_succ])
                  refine wpAnyH_take (i := 15) (oi := ⟨some 162, _, _, _, _, _⟩) (v := .pointer (some ⟨gg, 2, none⟩)) rfl (by kernel_rfl) (by kernel_rfl) (by kernel_rfl) (fun _ _ _ h => h) (Or.inl ⟨by kernel_rfl, by intro WW hSw; obtain ⟨s0, s1, s2⟩ := hSw; go_simp⟩) (by assumption) ?_
                  (try simp only [Act.put, List.setIfInBounds_toArray, List.set_cons_zero, List.set_cons_succ])
                  refine wpAnyH_take (i := 16) (oi := ⟨some 163, _, _, _, _, _⟩) (v := .pointer (some ⟨gw, 0, none⟩)) rfl (by kernel_rfl) (by kernel_rfl) (by kernel_rfl) (fun _ _ _ h => h) (Or.inl ⟨by kernel_rfl, by intro WW hSw; obtain ⟨s0, s1, s2⟩ := hSw; go_simp⟩) (by assumption) ?_
                  (try simp only [Act.put, List.setIfInBounds_toArray, List.set_cons_zero, List.set_cons_succ])
                  refine wpAnyH_one (i := 12) (oi := ⟨_, _, _, _, _, _⟩) rfl (by kernel_rfl) (fun Q hQ => ?_)
                  refine step_calls (by rfl) 24 EGr6Used.out [.tmp 158] _ rfl [.pointer (some ⟨go, 0, none⟩)] rfl (HUO.out _ (Below.and (drew_below w6) HB0.out)) ?_
                  rintro e x1 ⟨v1, rfl, ho1, hb1⟩
                  have hbn := Below.and HB0.out hb1
                  have HO1 := Lib.hid ho1
                  clear HB0 ho1 hb1
                  refine ⟨_, rfl, hQ _ _ (HS0.out _ hbn) (fun _ => ?_)⟩
                  have hHeld2 := HS0.out _ hbn
                  clear hHeld hQ Q
                  have hHeld := hHeld2
                  clear hHeld2
                  have HB0 := Lib.hid hbn
                  clear hbn
                  (try simp only [Act.put, List.setIfInBounds_toArray, List.set_cons_zero, List.set_cons_succ])
                  refine wpAnyH_one (i := 17) (oi := ⟨_, _, _, _, _, _⟩) rfl (by kernel_rfl) (fun Q hQ => ?_)
                  refine step_calls (by rfl) 24 EGr6Used.out [.tmp 163] _ rfl [.pointer (some ⟨gw, 0, none⟩)] rfl (HUW.out _ HB0.out) ?_
                  rintro e x2 ⟨v2, rfl, ho2, hb2⟩
                  have hbn := Below.and HB0.out hb2
                  have HO12 := Lib.hid (own_low (C := 0) HO1.out hb2)
                  have HO2 := Lib.hid ho2
                  clear HB0 HO1 ho2 hb2
                  refine ⟨_, rfl, hQ _ _ (HS0.out _ hbn) (fun _ => ?_)⟩
                  have hHeld2 := HS0.out _ hbn
                  clear hHeld hQ Q
                  have hHeld := hHeld2
                  clear hHeld2
                  have HB0 := Lib.hid hbn
                  clear hbn
                  (try simp only [Act.put, List.setIfInBounds_toArray, List.set_cons_zero, List.set_cons_succ])
                  have hsame := r5Same_own HO12.out (by have := HO2.out; rw [← HEND.out.2.1] at this; exact this) HUL.out
                  have HSM := Lib.hid hsame
                  clear hsame
                  refine wpAnyH_one (i := 18) (oi := ⟨_, _, _, _, _, _⟩) rfl (by kernel_rfl) (fun Q hQ => ?_)
                  refine step_calls (by rfl) 28 EGr5Same.out [.tmp 159, .tmp 164] _ rfl [v1, v2] rfl (HSM.out) ?_
                  rintro e x3 ⟨rfl, hb3⟩
                  have hbn := Below.and HB0.out hb3
                  clear HB0 hb3
                  refine ⟨_, rfl, hQ _ _ (HS0.out _ hbn) (fun _ => ?_)⟩
                  have hHeld2 := HS0.out _ hbn
                  clear hHeld hQ Q
                  have hHeld := hHeld2
                  clear hHeld2
                  have HB0 := Lib.hid hbn
                  clear hbn
                  (try simp only [Act.put, List.setIfInBounds_toArray, List.set_cons_zero, List.set_cons_succ])
                  refine wpAnyH_take (i := 19) (oi := ⟨some 166, _, _, _, _, _⟩) (v := .bool true) rfl (by kernel_rfl) (by kernel_rfl) (by kernel_rfl) (fun _ _ _ h => h) (Or.inl ⟨by kernel_rfl, by intro WW hSw; obtain ⟨s0, s1, s2⟩ := hSw; go_simp⟩) (by assumption) ?_
                  (try simp only [Act.put, List.setIfInBounds_toArray, List.set_cons_zero, List.set_cons_succ])
                  refine wpAnyH_take (i := 20) (oi := ⟨some 167, _, _, _, _, _⟩) (v := .bool true) rfl (by kernel_rfl) (by kernel_rfl) (by kernel_rfl) (fun _ _ _ h => h) (Or.inl ⟨by kernel_rfl, by intro WW hSw; obtain ⟨s0, s1, s2⟩ := hSw; go_simp⟩) (by assumption) ?_
                  (try simp only [Act.put, List.setIfInBounds_toArray, List.set_cons_zero, List.set_cons_succ])
                  refine wpAnyH_take (i := 21) (oi := ⟨some 168, _, _, _, _, _⟩) (v := .pointer (some ⟨go, 0, none⟩)) rfl (by kernel_rfl) (by kernel_rfl) (by kernel_rfl) (fun _ _ _ h => h) (Or.inl ⟨by kernel_rfl, by intro WW hSw; obtain ⟨s0, s1, s2⟩ := hSw; go_simp⟩) (by assumption) ?_
                  (try simp only [Act.put, List.setIfInBounds_toArray, List.set_cons_zero, List.set_cons_succ])
                  refine wpAnyH_take (i := 22) (oi := ⟨some 169, _, _, _, _, _⟩) (v := .pointer (some ⟨go, 0, none⟩)) rfl (by kernel_rfl) (by kernel_rfl) (by kernel_rfl) (fun _ _ _ h => h) (Or.inl ⟨by kernel_rfl, by intro WW hSw; obtain ⟨s0, s1, s2⟩ := hSw; go_simp⟩) (by assumption) ?_
                  (try simp only [Act.put, List.setIfInBounds_toArray, List.set_cons_zero, List.set_cons_succ])
                  refine wpAnyH_take (i := 23) (oi := ⟨some 170, _, _, _, _, _⟩) (v := .pointer (some ⟨go, 2, none⟩)) rfl (by kernel_rfl) (by kernel_rfl) (by kernel_rfl) (fun _ _ _ h => h) (Or.inl ⟨by kernel_rfl, by intro WW hSw; obtain ⟨s0, s1, s2⟩ := hSw; go_simp⟩) (by assumption) ?_
                  (try simp only [Act.put, List.setIfInBounds_toArray, List.set_cons_zero, List.set_cons_succ])
                  refine wpAnyH_take (i := 24) (oi := ⟨some 171, _, _, _, _, _⟩) (v := .slice Ao ml co) rfl (by kernel_rfl) (by kernel_rfl) (by kernel_rfl) (fun _ _ _ h => h) (Or.inl ⟨by kernel_rfl, by intro WW hSw; obtain ⟨s0, s1, s2⟩ := hSw; go_simp⟩) (by assumption) ?_
                  (try simp only [Act.put, List.setIfInBounds_toArray, List.set_cons_zero, List.set_cons_succ])
                  refine wpAnyH_take (i := 25) (oi := ⟨some 172, _, _, _, _, _⟩) (v := .int .i64 (ml : Int)) rfl (by kernel_rfl) (by kernel_rfl) (by kernel_rfl) (fun _ _ _ h => h) (Or.inl ⟨by kernel_rfl, by intro WW hSw; obtain ⟨s0, s1, s2⟩ := hSw; go_simp⟩) (by assumption) ?_
                  (try simp only [Act.put, List.setIfInBounds_toArray, List.set_cons_zero, List.set_cons_succ])
                  refine wpAnyH_take (i := 26) (oi := ⟨some 173, _, _, _, _, _⟩) (v := .int .i64 (n : Int)) rfl (by kernel_rfl) (by kernel_rfl) (by kernel_rfl) (fun _ _ _ h => h) (Or.inl ⟨by kernel_rfl, by intro WW hSw; obtain ⟨s0, s1, s2⟩ := hSw; go_simp⟩) (by assumption) ?_
                  (try simp only [Act.put, List.setIfInBounds_toArray, List.set_cons_zero, List.set_cons_succ])
                  refine wpAnyH_take (i := 27) (oi := ⟨some 174, _, _, _, _, _⟩) (v := .int .u64 (u : Int)) rfl (by kernel_rfl) (by kernel_rfl) (by kernel_rfl) (fun _ _ _ h => h) (Or.inl ⟨by kernel_rfl, by intro WW hSw; obtain ⟨s0, s1, s2⟩ := hSw; go_simp⟩) (by assumption) ?_
                  (try simp only [Act.put, List.setIfInBounds_toArray, List.set_cons_zero, List.set_cons_succ])
                  refine wpAnyH_one (i := 28) (oi := ⟨_, _, _, _, _, _⟩) rfl (by kernel_rfl) (fun Q hQ => ?_)
                  refine step_calls (by rfl) 29 EGr5Bits.out [.tmp 174] _ rfl [.int .u64 (u : Int)] rfl (rBits_any (b := u) HU64.out _) ?_
                  rintro e x4 ⟨v3, rfl, ho3, hb4⟩
                  obtain ⟨Ab, cb, rfl, _⟩ := own_sl ho3
                  have hbn := Below.and HB0.out hb4
                  clear HB0 hb4 ho3
                  rw [← HCN.out]
                  refine ⟨_, rfl, hQ _ _ (HS0.out _ hbn) (fun _ => ?_)⟩
                  have hHeld2 := HS0.out _ hbn
                  clear hHeld hQ Q
                  have hHeld := hHeld2
                  clear hHeld2
                  have HB0 := Lib.hid hbn
                  clear hbn
                  (try simp only [Act.put, List.setIfInBounds_toArray, List.set_cons_zero, List.set_cons_succ])
                  refine wpAnyH_take (i := 29) (oi := ⟨some 176, _, _, _, _, _⟩) (v := .int .i64 (cnt : Int)) rfl (by kernel_rfl) (by kernel_rfl) (by kernel_rfl) (fun _ _ _ h => h) (Or.inl ⟨by kernel_rfl, by intro WW hSw; obtain ⟨s0, s1, s2⟩ := hSw; go_simp⟩) (by assumption) ?_
                  (try simp only [Act.put, List.setIfInBounds_toArray, List.set_cons_zero, List.set_cons_succ])
                  refine wpAnyH_take (i := 30) (oi := ⟨some 177, _, _, _, _, _⟩) (v := .int .i64 (ml : Int)) rfl (by kernel_rfl) (by kernel_rfl) (by kernel_rfl) (fun _ _ _ h => h) (Or.inl ⟨by kernel_rfl, by intro WW hSw; obtain ⟨s0, s1, s2⟩ := hSw; go_simp⟩) (by assumption) ?_
                  (try simp only [Act.put, List.setIfInBounds_toArray, List.set_cons_zero, List.set_cons_succ])
                  refine wpAnyH_take (i := 31) (oi := ⟨some 178, _, _, _, _, _⟩) (v := .bool true) rfl (by kernel_rfl) (by kernel_rfl) (by kernel_rfl) (fun _ _ _ h => h) (Or.inl ⟨by kernel_rfl, by intro WW hSw; obtain ⟨s0, s1, s2⟩ := hSw; go_simp⟩) (by assumption) ?_
                  (try simp only [Act.put, List.setIfInBounds_toArray, List.set_cons_zero, List.set_cons_succ])
                  refine wpAnyH_take (i := 32) (oi := ⟨some 179, _, _, _, _, _⟩) (v := .bool true) rfl (by kernel_rfl) (by kernel_rfl) (by kernel_rfl) (fun _ _ _ h => h) (Or.inl ⟨by kernel_rfl, by intro WW hSw; obtain ⟨s0, s1, s2⟩ := hSw; go_simp⟩) (by assumption) ?_
                  (try simp only [Act.put, List.setIfInBounds_toArray, List.set_cons_zero, List.set_cons_succ])
                  refine wpAnyH_take (i := 33) (oi := ⟨some 180, _, _, _, _, _⟩) (v := .bool true) rfl (by kernel_rfl) (by kernel_rfl) (by kernel_rfl) (fun _ _ _ h => h) (Or.inl ⟨by kernel_rfl, by intro WW hSw; obtain ⟨s0, s1, s2⟩ := hSw; go_simp⟩) (by assumption) ?_
                  (try simp only [Act.put, List.setIfInBounds_toArray, List.set_cons_zero, List.set_cons_succ])
                  have hkn := known6_any x4 (HR.out.below (Below.and HLW.out HB0.out))
                  have HKN := Lib.hid hkn
                  clear hkn
                  refine wpAnyH_one (i := 34) (oi := ⟨_, _, _, _, _, _⟩) rfl (by kernel_rfl) (fun Q hQ => ?_)
                  refine step_calls (by rfl) 7 EGknown6.out [] _ rfl [] rfl (HKN.out) ?_
                  rintro e x5 ⟨rfl, hb5⟩
                  have hbn := Below.and HB0.out hb5
                  clear HB0 hb5
                  refine ⟨_, rfl, hQ _ _ (HS0.out _ hbn) (fun _ => ?_)⟩
                  have hHeld2 := HS0.out _ hbn
                  clear hHeld hQ Q
                  have hHeld := hHeld2
                  clear hHeld2
                  have HB0 := Lib.hid hbn
                  clear hbn
                  (try simp only [Act.put, List.setIfInBounds_toArray, List.set_cons_zero, List.set_cons_succ])
                  refine wpAnyH_take (i := 35) (oi := ⟨some 182, _, _, _, _, _⟩) (v := .bool true) rfl (by kernel_rfl) (by kernel_rfl) (by kernel_rfl) (fun _ _ _ h => h) (Or.inl ⟨by kernel_rfl, by intro WW hSw; obtain ⟨s0, s1, s2⟩ := hSw; go_simp⟩) (by assumption) ?_
                  (try simp only [Act.put, List.setIfInBounds_toArray, List.set_cons_zero, List.set_cons_succ])
                  refine wpAnyH_take (i := 36) (oi := ⟨some 6, _, _, _, _, _⟩) (v := .bool true) rfl (by kernel_rfl) (by kernel_rfl) (by kernel_rfl) (fun _ _ _ h => h) (Or.inl ⟨by kernel_rfl, by intro WW hSw; obtain ⟨s0, s1, s2⟩ := hSw; go_simp⟩) (by assumption) ?_
                  (try simp only [Act.put, List.setIfInBounds_toArray, List.set_cons_zero, List.set_cons_succ])
                  refine wpAnyH_done (by kernel_rfl) ?_ _
                  unfold NoPanic
                  clear hHeld
                  have HE := Lib.hid (Below.and HLW.out HB0.out)
                  go_wp2
                  go_ret
                  exact ⟨rfl, HE.out⟩
                · have hT : z.T ≠ [] := fun h => hT0 (by rw [htl, h]; rfl)
                  have e5 : decide ((0 : Int) < (tl : Int)) = true := by simp; omega
                  have htp := tm_pos HIv.out hT
                  have HD := Lib.hid (show Calls Tryz.prog 18 #[.pointer (some ⟨gg, 0, none⟩), .agg #[.int .i64 5, .int .i64 (i : Int), .int .u64 0, .int .i64 0]] wr4 _ from gdo6_5 HG.out HIv.out (by omega) (i : Int) 0 0)
                  have HT := Lib.hid hT
                  have htl0 : 0 < tl := by omega
                  clear hT htl hT0
                  go_wp2_with fail
                  refine HD.out.mono ?_
                  rintro e w5 ⟨rfl, z', hst, hR, hg5⟩
                  obtain ⟨m1, m2, m3, m4⟩ := mix_step HIv.out HMx.out HCv.out hR
                  have m5 := m4.resolve_left HT.out
                  have HE := Lib.hid (show MXr w4 PP w2 Lm.length gg mg gs gw (fun N z => N ≤ 345 + (i + 1) ∧ (i + 1) + tm z.T ≤ 180 ∧ Mx c (stC u) z) w5 from ⟨N + 1, z', hg5, HG.out.inv HIv.out hst, HG.out.la2 HIv.out HLa.out hst, m2, (Step6.hs hst).1.trans HZ1.out, by omega, by omega, m1⟩)
                  clear hst hR hg5 m1 m2 m3 m4 m5 HD hc3
                  go_wp2
                  exact ⟨⟨i + 1, by omega, by go_num, HE.out⟩, by show 400 - ((i : Int) + 1).toNat < 400 - (i : Int).toNat; omega⟩
end Go.Proofs.YtahojhaeebmpoaaGreatDoor
/- SlabMixed's law in the order in which its row hands the inputs. -/
namespace Go.Proofs.YtahojhaeebmpoaaGreatDoor
open Go Go.RowKit
set_option linter.unusedVariables false
theorem slabMixed_walk (c0 : Int) (u0 : Int) (A3 : Option Addr) (n3 cap3 : Nat) (zs : List Int) (W : World) (w0 : (Lit.int .i64 c0).wf = true) (w1 : (Lit.int .u64 u0).wf = true) (hK : InRow .i64 W A3 n3 cap3 zs) (R : Rms W) :
    Calls Tryz.prog 6 #[.int .i64 c0, .int .u64 u0, .slice A3 n3 cap3] W fun e w' => e = .returned (.bool true) ∧ Below W.heap.size W w' := by
  have b := bounds_u64 w1
  obtain ⟨v, rfl⟩ : ∃ v : Nat, u0 = (v : Int) := ⟨u0.toNat, by omega⟩
  exact slabMixed_any A3 n3 cap3 zs c0 v W (by omega) hK R
end Go.Proofs.YtahojhaeebmpoaaGreatDoor
