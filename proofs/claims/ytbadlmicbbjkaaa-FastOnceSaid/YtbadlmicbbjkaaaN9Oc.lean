/- Every change that is asked for: each word at most twice, and never back; the count is one more on the way, two more at the end; plain facts; no conditions. -/
import Derived.Test.YtbadlmicbbjkaaaN9On
namespace Go.Proofs.Ytbadlmicbbjkaaa
open Go.RowKit
set_option linter.unusedVariables false
set_option linter.unusedSimpArgs false
/-- The places that some stores write. -/
def ixs (base : Int) (l : List (Int × Int)) : List Nat := l.map fun e => ix base e.1
theorem ixs_inj {base : Int} {l : List (Int × Int)} (h : (ixs base l).Nodup) {i k : Nat} (hi : i < l.length) (hk : k < l.length) (he : ix base l[i].1 = ix base l[k].1) : i = k := by
  have hp := List.pairwise_iff_getElem.1 h
  have hlen : (ixs base l).length = l.length := by unfold ixs; simp
  have hg : ∀ q (hq : q < l.length), (ixs base l)[q]'(by omega) = ix base l[q].1 := fun q hq => by simp [ixs]
  rcases Nat.lt_trichotomy i k with h1 | h1 | h1
  · exact absurd (by rw [hg i hi, hg k hk]; exact he) (hp i k (by omega) (by omega) h1)
  · exact h1
  · exact absurd (by rw [hg i hi, hg k hk]; exact he.symm) (hp k i (by omega) (by omega) h1)
theorem once_nodup {base : Int} {W : List Int} {l : List (Int × Int)} (h : (ixs base l).Nodup) : OnceP base W l := by
  intro i hi k hk he
  have := ixs_inj h (show k < l.length by omega) hi he
  omega
theorem once_snoc {base : Int} {W : List Int} {t : List (Int × Int)} {s : Int × Int} (h : (ixs base t).Nodup) (hy : s.2 ≠ W.getD (ix base s.1) 0) : OnceP base W (t ++ [s]) := by
  intro i hi k hk he
  simp only [List.length_append, List.length_singleton] at hi
  by_cases h1 : i < t.length
  · rw [List.getElem_append_left (show k < t.length by omega), List.getElem_append_left h1] at he
    have := ixs_inj h (show k < t.length by omega) h1 he
    omega
  · obtain rfl : i = t.length := by omega
    rw [List.getElem_append_left (show k < t.length by omega), List.getElem_concat_length rfl] at he
    rw [List.getElem_concat_length rfl]
    refine ⟨hy, fun k' hk' he' => ?_⟩
    rw [List.getElem_append_left (show k' < t.length by omega)] at he'
    exact ixs_inj h _ _ (he'.trans he.symm)
theorem once_cons {base : Int} {W : List Int} {t : List (Int × Int)} {s : Int × Int} (h : (ixs base t).Nodup) (hy : ∀ e ∈ t, ix base e.1 = ix base s.1 → e.2 ≠ W.getD (ix base s.1) 0) : OnceP base W (s :: t) := by
  intro i hi k hk he
  obtain ⟨i, rfl⟩ : ∃ i', i = i' + 1 := ⟨i - 1, by omega⟩
  have hi' : i < t.length := by simpa using hi
  cases k with
  | zero =>
    simp only [List.getElem_cons_zero, List.getElem_cons_succ] at he ⊢
    refine ⟨by rw [← he]; exact hy _ (List.getElem_mem hi') he.symm, fun k' hk' he' => ?_⟩
    cases k' with
    | zero => rfl
    | succ q =>
      simp only [List.getElem_cons_succ] at he'
      have := ixs_inj h (show q < t.length by omega) hi' he'
      omega
  | succ q =>
    simp only [List.getElem_cons_succ] at he
    have := ixs_inj h (show q < t.length by omega) hi' he
    omega
theorem wrap_two (c : Int) : IntKind.u64.wrap (c + 2) ≠ c := by
  rw [IntKind.wrap_u64]; omega
theorem wholeL_eq (base : Int) (n : Nd) (mid : List (Int × Int)) : wholeL base n mid = (base + 24, IntKind.u64.wrap (n.ct + 1)) :: (mid ++ [(base + 24, IntKind.u64.wrap (n.ct + 2))]) := by simp [wholeL]
theorem once_ends {base : Int} {W : List Int} {mid : List (Int × Int)} {a b : Int × Int} (ha : ix base a.1 = 3) (hb : ix base b.1 = 3) (h : OnceP base W mid) (h3 : ∀ e ∈ mid, ix base e.1 ≠ 3) (hw : b.2 ≠ W.getD 3 0) : OnceP base W (a :: (mid ++ [b])) := by
  intro i hi k hk he
  simp only [List.length_cons, List.length_append, List.length_nil] at hi
  obtain ⟨i, rfl⟩ : ∃ i', i = i' + 1 := ⟨i - 1, by omega⟩
  have gm : ∀ q (hq : q < mid.length), (a :: (mid ++ [b]))[q + 1]'(by simp; omega) = mid[q] := by
    intro q hq
    rw [List.getElem_cons_succ, List.getElem_append_left hq]
  have ge : (a :: (mid ++ [b]))[mid.length + 1]'(by simp) = b := by
    rw [List.getElem_cons_succ, List.getElem_concat_length rfl]
  have g0 : (a :: (mid ++ [b]))[0]'(by simp) = a := rfl
  by_cases h1 : i < mid.length
  · simp only [gm i h1] at he ⊢
    cases k with
    | zero =>
      rw [g0, ha] at he
      exact absurd he.symm (h3 _ (List.getElem_mem h1))
    | succ q =>
      rw [gm q (by omega)] at he
      obtain ⟨a1, a2⟩ := h i h1 q (by omega) he
      refine ⟨a1, fun k' hk' he' => ?_⟩
      cases k' with
      | zero =>
        rw [g0, ha] at he'
        exact absurd he'.symm (h3 _ (List.getElem_mem h1))
      | succ q' =>
        rw [gm q' (by omega)] at he'
        rw [a2 q' (by omega) he']
  · obtain rfl : i = mid.length := by omega
    simp only [ge, hb] at he ⊢
    cases k with
    | zero =>
      refine ⟨hw, fun k' hk' he' => ?_⟩
      cases k' with
      | zero => rfl
      | succ q' =>
        rw [gm q' (by omega)] at he'
        exact absurd he' (h3 _ (List.getElem_mem _))
    | succ q =>
      rw [gm q (by omega)] at he
      exact absurd he (h3 _ (List.getElem_mem _))
theorem once_whole {base : Int} {n : Nd} {mid : List (Int × Int)} (h : OnceP base (wo9 n) mid) (h3 : ∀ e ∈ mid, ix base e.1 ≠ 3) : OnceP base (wo9 n) (wholeL base n mid) := by
  rw [wholeL_eq]
  exact once_ends (by unfold ix; dsimp only; omega) (by unfold ix; dsimp only; omega) h h3 (wrap_two n.ct)
/-- The count behind i stores. -/
theorem whole_ct {base : Int} {n m : Nd} {mid : List (Int × Int)} (h3 : ∀ e ∈ mid, ix base e.1 ≠ 3) {i : Nat} (hi : i < (wholeL base n mid).length) (h : apL base n ((wholeL base n mid).take (i + 1)) = some m) :
    m.ct = if i + 1 < (wholeL base n mid).length then IntKind.u64.wrap (n.ct + 1) else IntKind.u64.wrap (n.ct + 2) := by
  have hx : ix base (base + 24) = 3 := by unfold ix; omega
  have hm : m.ct = (wsAt base (wo9 n) ((wholeL base n mid).take (i + 1))).getD 3 0 := by
    rw [← (apL_wo9 h).1]; rfl
  have hW : ∀ x, ((wo9 n).set 3 x).getD 3 0 = x := fun x => rfl
  rw [hm]
  rw [wholeL_eq] at hi ⊢
  have hl : ((base + 24, IntKind.u64.wrap (n.ct + 1)) :: (mid ++ [(base + 24, IntKind.u64.wrap (n.ct + 2))])).length = mid.length + 2 := by simp
  rw [hl] at hi ⊢
  generalize IntKind.u64.wrap (n.ct + 1) = c1
  generalize IntKind.u64.wrap (n.ct + 2) = c2
  by_cases h1 : i + 1 < mid.length + 2
  · rw [if_pos h1, List.take_succ_cons, List.take_append_of_le_length (by omega)]
    show (wsAt base ((wo9 n).set (ix base (base + 24)) c1) (mid.take i)).getD 3 0 = _
    rw [wsAt_none base _ _ (fun e he => h3 e (List.mem_of_mem_take he)), hx, hW]
  · rw [if_neg h1, List.take_of_length_le (by simp; omega)]
    rw [show (base + 24, c1) :: (mid ++ [(base + 24, c2)]) = ((base + 24, c1) :: mid) ++ [(base + 24, c2)] by simp]
    rw [wsAt_app]
    have hlen := wsAt_len base ((base + 24, c1) :: mid) (wo9 n)
    rw [wo9_len] at hlen
    show ((wsAt base (wo9 n) ((base + 24, c1) :: mid)).set (ix base (base + 24)) c2).getD 3 0 = _
    rw [hx]
    generalize wsAt base (wo9 n) ((base + 24, c1) :: mid) = V at hlen
    simp only [List.getD_eq_getElem?_getD, List.getElem?_set_self (show 3 < V.length by omega), Option.getD_some]
theorem ix_k (base : Int) (i : Nat) : ix base (kA base i) = 8 + 2 * i := by unfold ix kA; omega
theorem ix_p (base : Int) (i : Nat) : ix base (pA base i) = 9 + 2 * i := by unfold ix pA; omega
theorem dn_ge (base : Int) (n : Nd) : ∀ c i, ∀ e ∈ dnL base n i c, 8 + 2 * i ≤ ix base e.1 ∧ (c = 0 → ix base e.1 = 9 + 2 * i)
  | 0, i, e, he => by
    simp only [dnL, List.mem_singleton] at he
    subst he
    dsimp only
    rw [ix_p]; omega
  | c + 1, i, e, he => by
    simp only [dnL, List.mem_cons] at he
    rcases he with rfl | rfl | he
    · dsimp only; rw [ix_k]; omega
    · dsimp only; rw [ix_p]; omega
    · have := (dn_ge base n c (i + 1) e he).1
      omega
theorem dn_nodup (base : Int) (n : Nd) : ∀ c i, (ixs base (dnL base n i c)).Nodup
  | 0, i => by simp [ixs, dnL]
  | c + 1, i => by
    have ih := dn_nodup base n c (i + 1)
    have hg := fun e he => (dn_ge base n c (i + 1) e he).1
    unfold ixs at ih ⊢
    simp only [dnL, List.map_cons, List.nodup_cons, List.mem_cons, List.mem_map, not_or, not_exists, not_and, ix_k, ix_p]
    refine ⟨⟨by omega, fun e he h => ?_⟩, fun e he h => ?_, ih⟩
    · have := hg e he; omega
    · have := hg e he; omega
theorem dn_first (base : Int) (n : Nd) : ∀ c i, ∀ e ∈ dnL base n i c, ix base e.1 = 9 + 2 * i → e.2 = if c = 0 then 0 else n.ptr (i + 1)
  | 0, i, e, he, _ => by
    simp only [dnL, List.mem_singleton] at he
    subst he; rfl
  | c + 1, i, e, he, h => by
    simp only [dnL, List.mem_cons] at he
    rcases he with rfl | rfl | he
    · dsimp only at h; rw [ix_k] at h; omega
    · rfl
    · have := (dn_ge base n c (i + 1) e he).1
      omega
theorem up_rng (base : Int) (n : Nd) (p : Nat) : ∀ c, ∀ e ∈ upN base n p c, 10 + 2 * p ≤ ix base e.1 ∧ ix base e.1 ≤ 9 + 2 * (p + c)
  | 0, e, he => by cases he
  | c + 1, e, he => by
    simp only [upN, List.mem_cons] at he
    rcases he with rfl | rfl | he
    · dsimp only; rw [ix_p]; omega
    · dsimp only; rw [ix_k]; omega
    · have := up_rng base n p c e he
      omega
theorem up_nodup (base : Int) (n : Nd) (p : Nat) : ∀ c, (ixs base (upN base n p c)).Nodup
  | 0 => by simp [ixs, upN]
  | c + 1 => by
    have ih := up_nodup base n p c
    have hg := up_rng base n p c
    unfold ixs at ih ⊢
    simp only [upN, List.map_cons, List.nodup_cons, List.mem_cons, List.mem_map, not_or, not_exists, not_and, ix_k, ix_p]
    refine ⟨⟨by omega, fun e he h => ?_⟩, fun e he h => ?_, ih⟩
    · have := hg e he; omega
    · have := hg e he; omega
theorem once_dn {base : Int} {n : Nd} {p c : Nat} {x : Int} (hp : p < 8) (h0 : n.ptr p ≠ 0) (h1 : c ≠ 0 → n.ptr (p + 1) ≠ n.ptr p) : OnceP base (wo9 n) ((pA base p, x) :: dnL base n p c) := by
  refine once_cons (dn_nodup base n c p) (fun e he h => ?_)
  dsimp only at h ⊢
  rw [ix_p] at h ⊢
  rw [wo9_ptr n hp, dn_first base n c p e he h]
  split
  · exact fun h => h0 h.symm
  · rename_i hc; exact h1 hc
theorem once_up {base : Int} {n : Nd} {p : Nat} {key ptr : Int} (hp : p ≤ n.len) (h8 : n.len < 8) (h0 : n.ptr p ≠ ptr) : OnceP base (wo9 n) (mkRoom base n p ++ [(kA base p, key), (pA base p, ptr)]) := by
  rw [show mkRoom base n p ++ [(kA base p, key), (pA base p, ptr)] = (mkRoom base n p ++ [(kA base p, key)]) ++ [(pA base p, ptr)] by simp]
  refine once_snoc ?_ (by dsimp only; rw [ix_p, wo9_ptr n (by omega)]; exact fun h => h0 h.symm)
  have hu := up_nodup base n p (n.len - p)
  have hr := up_rng base n p (n.len - p)
  have hA : (ixs base (upN base n p (n.len - p) ++ [(pA base p, n.ahd p), (kA base p, key)])).Nodup := by
    unfold ixs at hu ⊢
    simp only [List.map_append, List.map_cons, List.map_nil, ix_p, ix_k]
    rw [List.nodup_append]
    refine ⟨hu, by simp, fun a ha b hb => ?_⟩
    obtain ⟨e, he, rfl⟩ := List.mem_map.1 ha
    have := hr e he
    simp only [List.mem_cons, List.not_mem_nil, or_false] at hb
    omega
  unfold mkRoom
  split
  · rw [show [(pA base (n.len + 1), (0 : Int))] ++ (upN base n p (n.len - p) ++ [(pA base p, n.ahd p)]) ++ [(kA base p, key)] = (pA base (n.len + 1), 0) :: (upN base n p (n.len - p) ++ [(pA base p, n.ahd p), (kA base p, key)]) by simp]
    unfold ixs at hA ⊢
    rw [List.map_cons, List.nodup_cons]
    refine ⟨fun hm => ?_, hA⟩
    obtain ⟨e, he, h⟩ := List.mem_map.1 hm
    dsimp only at h
    rw [ix_p] at h
    simp only [List.mem_append, List.mem_cons, List.not_mem_nil, or_false] at he
    rcases he with he | rfl | rfl
    · have := hr e he; omega
    · dsimp only at h; rw [ix_p] at h; omega
    · dsimp only at h; rw [ix_k] at h; omega
  · rw [show [] ++ (upN base n p (n.len - p) ++ [(pA base p, n.ahd p)]) ++ [(kA base p, key)] = upN base n p (n.len - p) ++ [(pA base p, n.ahd p), (kA base p, key)] by simp]
    exact hA
theorem mid_no3 {base : Int} {l : List (Int × Int)} (h : ∀ e ∈ l, 8 ≤ ix base e.1) : ∀ e ∈ l, ix base e.1 ≠ 3 := fun e he => by have := h e he; omega
/-- Every change that is asked for. -/
theorem once_ask {base : Int} {n : Nd} {d key ptr : Int} {l : List (Int × Int)} (h0 : 0 ≤ d) (h6 : d < 6) (h : askP base n d key ptr = (l, 0)) :
    ∃ mid, l = wholeL base n mid ∧ OnceP base (wo9 n) mid ∧ ∀ e ∈ mid, ix base e.1 ≠ 3 := by
  have hl8 := n.len_le
  obtain rfl | rfl | rfl | rfl | rfl | rfl : d = 0 ∨ d = 1 ∨ d = 2 ∨ d = 3 ∨ d = 4 ∨ d = 5 := by omega
  · have h : insP base n key ptr = (l, 0) := h
    unfold insP at h
    split at h
    · rename_i hE
      exact absurd (congrArg Prod.snd h) hE
    · rename_i hE
      have hE : refE base n [ptr] = 0 := by omega
      obtain ⟨hE, hh⟩ := refE_ptr hE
      split at h
      · cases h
      · split at h
        · cases h
        · rename_i h8
          have hl := congrArg Prod.fst h
          dsimp only at hl
          have hp := at_len n key
          generalize hpp : n.at key = p at hp
          refine ⟨mkRoom base n p ++ [(kA base p, key), (pA base p, ptr)], by rw [← hl]; unfold insL; rw [hpp], once_up hp (by omega) ?_, mid_no3 ?_⟩
          · by_cases hlt : p < n.len
            · intro he
              rw [had_yes hlt he] at hh
              cases hh
            · rw [show p = n.len by omega, n.len_at (by omega)]
              intro he
              unfold Nd.had at hh
              rw [← he] at hh
              simp at hh
          · intro e he
            unfold mkRoom at he
            simp only [List.mem_append, List.mem_cons, List.not_mem_nil, or_false] at he
            rcases he with (he | he | rfl) | rfl | rfl
            · split at he
              · simp only [List.mem_singleton] at he
                subst he
                dsimp only; rw [ix_p]; omega
              · cases he
            · have := up_rng base n p _ e he; omega
            · dsimp only; rw [ix_p]; omega
            · dsimp only; rw [ix_k]; omega
            · dsimp only; rw [ix_p]; omega
  · have h : delP base n key = (l, 0) := h
    unfold delP at h
    split at h
    · rename_i hE
      exact absurd (congrArg Prod.snd h) hE
    · rename_i hE
      obtain ⟨hm, hi⟩ := refE_zero (show refE base n [] = 0 by omega)
      split at h
      · cases h
      · rename_i p hf
        have hl := congrArg Prod.fst h
        dsimp only at hl
        have hp := find_lt hf
        refine ⟨_, hl.symm, once_dn (by omega) (n.len_before hp) (fun hc => ?_), mid_no3 ?_⟩
        · have := n.inv_neg hi (p + 1) (by omega)
          unfold Nd.ok Nd.ahd at this
          simpa using this
        · intro e he
          rcases List.mem_cons.1 he with rfl | he
          · dsimp only; rw [ix_p]; omega
          · have := (dn_ge base n _ p e he).1; omega
  · have h : repP base n = (l, 0) := h
    unfold repP at h
    split at h
    · split at h
      · cases h
      · have hl := congrArg Prod.fst h
        dsimp only at hl
        refine ⟨_, hl.symm, once_nodup (dn_nodup base n _ _), mid_no3 ?_⟩
        intro e he
        have := (dn_ge base n _ _ e he).1; omega
    · cases h
  · have h : swapP base n key ptr = (l, 0) := h
    unfold swapP at h
    split at h
    · rename_i hE
      exact absurd (congrArg Prod.snd h) hE
    · split at h
      · cases h
      · have hl := congrArg Prod.fst h
        dsimp only at hl
        refine ⟨_, hl.symm, once_nodup (by simp [ixs]), mid_no3 ?_⟩
        intro e he
        simp only [List.mem_singleton] at he
        subst he
        dsimp only; rw [ix_p]; omega
  · have h : cutP base n key = (l, 0) := h
    unfold cutP at h
    split at h
    · rename_i hE
      exact absurd (congrArg Prod.snd h) hE
    · split at h
      · cases h
      · have hl := congrArg Prod.fst h
        dsimp only at hl
        refine ⟨_, hl.symm, once_nodup (by simp [ixs]), mid_no3 ?_⟩
        intro e he
        simp only [List.mem_singleton] at he
        subst he
        dsimp only; rw [ix_p]; omega
  · have h : linkP base n ptr = (l, 0) := h
    unfold linkP at h
    split at h
    · rename_i hE
      exact absurd (congrArg Prod.snd h) hE
    · have hl := congrArg Prod.fst h
      dsimp only at hl
      refine ⟨_, hl.symm, once_nodup (by simp [ixs]), fun e he => ?_⟩
      simp only [List.mem_singleton] at he
      subst he
      unfold ix; dsimp only; omega
/-- The node behind i stores: its words. -/
theorem once_law {base : Int} {n : Nd} {d key ptr : Int} {l : List (Int × Int)} (h0 : 0 ≤ d) (h6 : d < 6) (h : askP base n d key ptr = (l, 0)) {i : Nat} (hi : i < l.length) {m m2 : Nd} (hm : apL base n (l.take i) = some m) (hm2 : apL base n (l.take (i + 1)) = some m2) :
    m2.ct = (if i + 1 < l.length then IntKind.u64.wrap (n.ct + 1) else IntKind.u64.wrap (n.ct + 2)) ∧
    ∀ j, (wo9 m2).getD j 0 ≠ (wo9 m).getD j 0 → ∀ k, k ≤ i → ∀ mk, apL base n (l.take k) = some mk → (wo9 mk).getD j 0 ≠ (wo9 m2).getD j 0 := by
  obtain ⟨mid, rfl, hO, h3⟩ := once_ask h0 h6 h
  obtain ⟨hb, _⟩ := ask_bok h0 h6 h
  obtain ⟨J, hW, _, hn⟩ := ask_way h0 h6 h
  obtain ⟨mL, hL, _, _⟩ := hW.at_ (wholeL base n mid).length (Nat.le_refl _)
  rw [List.take_length] at hL
  refine ⟨whole_ct h3 hi hm2, fun j hj k hk mk hmk => ?_⟩
  have hx : ∀ e ∈ wholeL base n mid, ix base e.1 < (wo9 n).length := fun e he => by
    obtain ⟨q, _, q2, q3⟩ := (apL_wo9 hL).2 e he
    rw [wo9_len]; unfold ix; omega
  rw [(apL_wo9 hm).1, (apL_wo9 hm2).1] at hj
  rw [(apL_wo9 hmk).1, (apL_wo9 hm2).1]
  exact once_new (once_whole hO h3) hx hi hj k hk
end Go.Proofs.Ytbadlmicbbjkaaa
