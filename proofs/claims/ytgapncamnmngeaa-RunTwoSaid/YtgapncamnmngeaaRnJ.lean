/- Each step of a run keeps what is said of it; plain facts, without conditions but that the run may go on. -/
import Derived.Test.YtgapncamnmngeaaRnI
namespace Go.Proofs.Ytgapncamnmngeaa
open Go.RowKit Go.Shelf
set_option linter.unusedVariables false

theorem pend_set (q : List (List (Nat × Nat))) (i j : Nat) (x : List (Nat × Nat)) (hi : i < q.length) : (q.set i x).getD j [] = if i = j then x else q.getD j [] := by
  rw [List.getD_eq_getElem?_getD, List.getElem?_set, List.getD_eq_getElem?_getD]
  by_cases e : i = j
  · subst e
    simp [hi]
  · simp [e]
theorem ends_false {a : Nat} {t : List (Nat × Nat)} (h : ends a t = false) : ∃ p t', t = p :: t' ∧ p.1 / 64 = a / 64 := by
  cases t with
  | nil => cases h
  | cons p t' =>
    refine ⟨p, t', rfl, ?_⟩
    have h' : (!(p.1 / 64 * 64 == a / 64 * 64)) = false := h
    simp at h'
    omega
theorem drop_head {l : List (Nat × Nat)} {m : Nat} {p : Nat × Nat} {t : List (Nat × Nat)} (h : l.drop m = p :: t) : l[m]? = some p ∧ t = l.drop (m + 1) ∧ m < l.length := by
  have h0 : (l.drop m)[0]? = some p := by rw [h]; rfl
  rw [List.getElem?_drop, Nat.add_zero] at h0
  refine ⟨h0, ?_, ?_⟩
  · rw [← List.drop_drop, h]
    rfl
  · by_cases hm : m < l.length
    · exact hm
    · rw [List.getElem?_eq_none (by omega)] at h0
      cases h0
theorem inv_store {P : Nat → Prop} {n : Nat} {l : List (Nat × Nat)} {s : St} {r : RS} {t m L b a v : Nat} {q : List (Nat × Nat)} (h : Inv P n l s r t m L b) (hp : r.ph = .st) (hl : r.left = (a, v) :: q) (hd : r.done = false) :
    ∃ L' b', Inv P n l (s.store a v) r.next t (m + 1) L' b' := by
  obtain ⟨c, left, line, ph, done, code⟩ := r
  dsimp only at hp hl hd
  subst hp hl hd
  have hdr : l.drop m = (a, v) :: q := h.left.symm
  obtain ⟨hat, hq, hml⟩ := drop_head hdr
  obtain ⟨hPa, han⟩ := h.lines (a, v) (List.mem_of_getElem? hat)
  dsimp only at hPa han
  have tn := take_next hat
  -- where the group began
  obtain ⟨b', hb', hcur, hpen⟩ : ∃ b', b' ≤ t ∧ (∀ i, b' ≤ i → i < m → ∀ p, l[i]? = some p → p.1 / 64 = a / 64) ∧ (∀ j, P j → s.pend.getD j [] = if j = a / 64 then (l.take m).drop t else []) := by
    by_cases hbm : b < m
    · obtain ⟨p, hp1, hp2⟩ := h.st rfl hbm
      rw [hat] at hp1
      cases hp1
      dsimp only at hp2
      rw [hp2]
      exact ⟨b, h.hb, h.cur, h.pen⟩
    · have ht := h.ht
      have hbt := h.hb
      have e : t = m := by omega
      refine ⟨t, Nat.le_refl _, fun i h1 h2 => by omega, fun j hj => ?_⟩
      have hz : (l.take m).drop t = [] := by rw [e]; exact List.drop_eq_nil_of_le (by rw [List.length_take]; omega)
      rw [h.pen j hj, hz]
      simp
  have hmk : ∀ j c', P j → s.mm j c' = 0 := fun j c' hj => by
    by_cases h0 : s.mm j c' = 0
    · exact h0
    · obtain ⟨_, h1, _⟩ := h.mk0 j c' hj h0
      cases h1
  refine ⟨a / 64, b', ?_⟩
  have hnx : RS.next ⟨c, (a, v) :: q, line, .st, false, code⟩ = ⟨c, q, a / 64 * 64, if ends a q then .fl else .st, false, code⟩ := rfl
  rw [hnx]
  refine { hb := hb', ht := Nat.le_succ_of_le h.ht, hm := hml, left := hq, view := ?_, las := h.las, pen := ?_, cur := ?_, mk0 := ?_, mk1 := ?_, fl := ?_, st := ?_, en := ?_, dn := ?_, lines := h.lines, lv := ?_, ll := h.ll, lp := ?_ }
  · intro k hk
    show (s.view.set (a / 8) v).getD k 0 = _
    rw [set_gd, tn, vw_snoc, h.lv, h.view k hk]
  · intro j hj
    show (s.pend.set (a / 64) (s.pend.getD (a / 64) [] ++ [(a, v)])).getD j [] = _
    rw [pend_set _ _ _ _ (by rw [h.lp]; exact han), hpen _ hPa, if_pos rfl, tn]
    by_cases e : a / 64 = j
    · rw [if_pos e, if_pos e.symm, List.drop_append_of_le_length (by rw [List.length_take]; have := h.ht; omega)]
    · rw [if_neg e, if_neg (Ne.symm e), hpen j hj, if_neg (Ne.symm e)]
  · intro i h1 h2 p hp
    by_cases e : i = m
    · subst e
      rw [hat] at hp
      cases hp
      rfl
    · exact hcur i h1 (by omega) p hp
  · intro j c' hj h0
    exact absurd (hmk j c' hj) h0
  · intro h1
    have h1' : (if ends a q then Ph.fl else Ph.st) = .fe := h1
    split at h1' <;> cases h1'
  · intro _
    exact ⟨by show a / 64 * 64 = _; omega, hPa, han⟩
  · intro h1 _
    have h1' : (if ends a q then Ph.fl else Ph.st) = .st := h1
    have he : ends a q = false := by
      cases e : ends a q
      · rfl
      · rw [e] at h1'
        cases h1'
    obtain ⟨p, t', e, hp⟩ := ends_false he
    have : l.drop (m + 1) = p :: t' := by rw [← hq, e]
    exact ⟨p, (drop_head this).1, hp⟩
  · intro h1
    have h1' : (if ends a q then Ph.fl else Ph.st) = .en := h1
    split at h1' <;> cases h1'
  · intro h1
    cases h1
  · show (s.view.set (a / 8) v).length = _
    rw [List.length_set]
    exact h.lv
  · show (s.pend.set (a / 64) _).length = _
    rw [List.length_set]
    exact h.lp
theorem inv_flush {P : Nat → Prop} {n : Nat} {l : List (Nat × Nat)} {s : St} {r : RS} {t m L b : Nat} (h : Inv P n l s r t m L b) (hp : r.ph = .fl) (hd : r.done = false) :
    Inv P n l (s.flush r.c.toNat r.line) r.next t m L b := by
  obtain ⟨c, left, line, ph, done, code⟩ := r
  dsimp only at hp hd
  subst hp hd
  obtain ⟨hl, hPL, hLn⟩ := h.fl (.inl rfl)
  dsimp only at hl
  have hL : line / 64 = L := by omega
  have hmk : ∀ j c', P j → s.mm j c' = 0 := fun j c' hj => by
    by_cases h0 : s.mm j c' = 0
    · exact h0
    · obtain ⟨_, h1, _⟩ := h.mk0 j c' hj h0
      cases h1
  have hlen : (s.pend.getD (line / 64) []).length = m - t := by
    rw [hL, h.pen L hPL, if_pos rfl, List.length_drop, List.length_take]
    have := h.hm
    omega
  have hmm : ∀ j k, (s.flush c.toNat line).mm j k = if j = L ∧ k = c.toNat ∧ m - t ≠ 0 then m - t else s.mm j k := fun j k => by
    show (if (s.pend.getD (line / 64) []).length = 0 then s.mm else upd s.mm (line / 64) fun k => if k = c.toNat then (s.pend.getD (line / 64) []).length else s.mm (line / 64) k) j k = _
    rw [hlen, hL]
    by_cases e0 : m - t = 0
    · rw [if_pos e0, if_neg (by simp [e0])]
    · rw [if_neg e0]
      unfold upd
      by_cases e1 : j = L
      · subst e1
        by_cases e2 : k = c.toNat
        · simp [e2, e0]
        · simp [e2]
      · simp [e1]
  have hnx : RS.next ⟨c, left, line, .fl, false, code⟩ = ⟨c, left, line, .fe, false, code⟩ := rfl
  rw [hnx]
  refine { hb := h.hb, ht := h.ht, hm := h.hm, left := h.left, view := h.view, las := h.las, pen := h.pen, cur := h.cur, mk0 := ?_, mk1 := ?_, fl := fun _ => ⟨hl, hPL, hLn⟩, st := fun h1 => (by cases h1), en := fun h1 => (by cases h1), dn := fun h1 => (by cases h1), lines := h.lines, lv := h.lv, ll := h.ll, lp := h.lp }
  · intro j c' hj h0
    rw [hmm] at h0
    split at h0
    · rename_i e
      exact ⟨e.2.1, rfl, e.1⟩
    · exact absurd (hmk j c' hj) h0
  · intro _
    dsimp only
    rw [hmm]
    by_cases e : m - t = 0
    · rw [if_neg (by simp [e]), hmk L _ hPL, e]
    · rw [if_pos ⟨rfl, rfl, e⟩]
theorem inv_fence {P : Nat → Prop} {n : Nat} {l : List (Nat × Nat)} {s : St} {r : RS} {t m L b : Nat} (h : Inv P n l s r t m L b) (hp : r.ph = .fe) (hd : r.done = false) :
    Inv P n l (s.fence r.c.toNat) r.next m m L m := by
  obtain ⟨c, left, line, ph, done, code⟩ := r
  dsimp only at hp hd
  subst hp hd
  obtain ⟨hl, hPL, hLn⟩ := h.fl (.inr rfl)
  have hk1 : s.mm L c.toNat = m - t := h.mk1 rfl
  have hml := h.hm
  have htm := h.ht
  have htake : ((l.take m).drop t).take (m - t) = (l.take m).drop t := List.take_of_length_le (by rw [List.length_drop, List.length_take]; omega)
  have hdrop : ((l.take m).drop t).drop (m - t) = [] := List.drop_eq_nil_of_le (by rw [List.length_drop, List.length_take]; omega)
  have hz : (l.take m).drop m = [] := List.drop_eq_nil_of_le (by rw [List.length_take]; omega)
  have hnx : RS.next ⟨c, left, line, .fe, false, code⟩ = ⟨c, left, line, .st, left.isEmpty, code⟩ := rfl
  rw [hnx]
  refine { hb := Nat.le_refl _, ht := Nat.le_refl _, hm := h.hm, left := h.left, view := h.view, las := ?_, pen := ?_, cur := fun i h1 h2 => (by omega), mk0 := ?_, mk1 := fun h1 => (by cases h1), fl := fun h1 => (by rcases h1 with h1 | h1 <;> cases h1), st := fun _ h1 => (by omega), en := fun h1 => (by cases h1), dn := ?_, lines := h.lines, lv := h.lv, ll := ?_, lp := ?_ }
  · intro k hk
    show (s.lasted.mapIdx fun k x => if (fun _ : Nat => true) (k / 8) = true then (lastW s.lasted ((s.pend.getD (k / 8) []).take (s.mm (k / 8) c.toNat))).getD k 0 else x).getD k 0 = _
    by_cases hkl : k < s.lasted.length
    · rw [List.getD_eq_getElem?_getD, List.getElem?_mapIdx, List.getElem?_eq_getElem hkl]
      simp only [Option.map_some, Option.getD_some, if_true]
      rw [h.pen _ hk]
      by_cases e : k / 8 = L
      · rw [if_pos e, e, hk1, htake]
        have e2 : l.take m = l.take t ++ (l.take m).drop t := by
          conv => lhs; rw [← List.take_append_drop t (l.take m)]
          rw [List.take_take, Nat.min_eq_left htm]
        rw [lastW_gd _ (by rw [h.ll, vw_length]) (h.las k hk)]
        conv => rhs; rw [e2]
        unfold vw
        rw [lastW_app]
      · rw [if_neg e, List.take_nil]
        show s.lasted.getD k 0 = _
        rw [h.las k hk]
        refine (vw_far htm fun i h1 h2 p hp => ?_).symm
        have := h.cur i (by have := h.hb; omega) h2 p hp
        omega
    · have hk8 : 8 * n ≤ k := by rw [h.ll] at hkl; omega
      rw [List.getD_eq_getElem?_getD, List.getElem?_eq_none (by rw [List.length_mapIdx]; omega), List.getD_eq_getElem?_getD, List.getElem?_eq_none (by rw [vw_length]; exact hk8)]
  · intro j hj
    show (s.pend.mapIdx fun j l => if (fun _ : Nat => true) j = true then l.drop (s.mm j c.toNat) else l).getD j [] = _
    rw [List.getD_eq_getElem?_getD, List.getElem?_mapIdx]
    have hpj := h.pen j hj
    rw [List.getD_eq_getElem?_getD] at hpj
    rw [hz]
    cases e : s.pend[j]? with
    | none => simp
    | some x =>
      rw [e] at hpj
      simp only [Option.getD_some] at hpj
      simp only [Option.map_some, Option.getD_some, if_true]
      subst hpj
      by_cases e1 : j = L
      · subst e1
        rw [if_pos rfl, hk1, hdrop]
        simp
      · rw [if_neg e1]
        simp
  · intro j c' hj h0
    have h0' : s.mm j c' - s.mm j c.toNat ≠ 0 := h0
    have h1 : s.mm j c' ≠ 0 := by omega
    obtain ⟨rfl, _, _⟩ := h.mk0 j c' hj h1
    dsimp only at h0'
    omega
  · intro h1
    have h1' : left.isEmpty = true := h1
    have hle := h.left
    dsimp only at hle
    rw [List.isEmpty_iff] at h1'
    rw [h1'] at hle
    have := congrArg List.length hle
    rw [List.length_drop, List.length_nil] at this
    exact ⟨by omega, rfl⟩
  · show (s.lasted.mapIdx _).length = _
    rw [List.length_mapIdx]
    exact h.ll
  · show (s.pend.mapIdx _).length = _
    rw [List.length_mapIdx]
    exact h.lp
theorem inv_end {P : Nat → Prop} {n : Nat} {l : List (Nat × Nat)} {s : St} {r : RS} {t m L b : Nat} (h : Inv P n l s r t m L b) (hp : r.ph = .en) : Inv P n l s r.next t m L b := by
  obtain ⟨c, left, line, ph, done, code⟩ := r
  dsimp only at hp
  subst hp
  have hl : l = [] := h.en rfl
  have hm := h.hm
  have ht := h.ht
  rw [hl, List.length_nil] at hm
  exact { hb := h.hb, ht := h.ht, hm := h.hm, left := h.left, view := h.view, las := h.las, pen := h.pen, cur := h.cur, mk0 := h.mk0, mk1 := h.mk1, fl := h.fl, st := h.st, en := h.en, dn := fun _ => ⟨by rw [hl, List.length_nil]; omega, by omega⟩, lines := h.lines, lv := h.lv, ll := h.ll, lp := h.lp }
/-- A step of a run. -/
theorem inv_step {P : Nat → Prop} {n : Nat} {l : List (Nat × Nat)} {s : St} {r : RS} {t m L b : Nat} (h : Inv P n l s r t m L b) (g : r.Good n) :
    ∃ t' m' L' b', Inv P n l (r.mem s) r.next t' m' L' b' ∧ (r.mem s).st + m = s.st + m' := by
  cases e : r.ph with
  | st =>
    cases el : r.left with
    | nil => exact absurd el (g.lf e)
    | cons av q =>
      obtain ⟨a, v⟩ := av
      obtain ⟨L', b', h'⟩ := inv_store h e el g.dn
      have hm : r.mem s = s.store a v := by unfold RS.mem; rw [e, el]
      exact ⟨t, m + 1, L', b', by rw [hm]; exact h', by rw [hm]; show s.st + 1 + m = _; omega⟩
  | fl =>
    have hm : r.mem s = s.flush r.c.toNat r.line := by unfold RS.mem; rw [e]
    exact ⟨t, m, L, b, by rw [hm]; exact inv_flush h e g.dn, by rw [hm]; rfl⟩
  | fe =>
    have hm : r.mem s = s.fence r.c.toNat := by unfold RS.mem; rw [e]
    exact ⟨m, m, L, m, by rw [hm]; exact inv_fence h e g.dn, by rw [hm]; rfl⟩
  | en =>
    have hm : r.mem s = s := by unfold RS.mem; rw [e]
    exact ⟨t, m, L, b, by rw [hm]; exact inv_end h e, by rw [hm]⟩
end Go.Proofs.Ytgapncamnmngeaa
