/- What an eviction, and a crash, leave of what a run has done; plain facts, for memories that may be. -/
import Derived.Test.YtgapncamnmngeaaRnI
import Derived.Test.YtgapncamnmngeaaRnL
import Derived.Test.YtgapncamnmngeaaPLoad
import Derived.Test.YtgapncamnmngeaaRnJ
namespace Go.Proofs.Ytgapncamnmngeaa
open Go.RowKit Go.Shelf
set_option linter.unusedVariables false
section
attribute [local go_sem] Oper.semAt_some

/-- What an eviction makes of a memory. -/
def Evd (s s' : St) : Prop := s' = s ∨ ∃ i m, i < s.nl ∧ m ≤ (s.pend.getD i []).length ∧ s' = s.last i m
set_option maxRecDepth 100000 in
set_option maxHeartbeats 1600000 in
theorem evict_any {w : World} {y : Lay} {s : St} (h : MemAt w y s) (ok : s.Ok) {A K : Int} (hK : K ≤ 9223372036854775807) :
    Calls Try.prog 21 #[.pointer (some ⟨y.g, 0, none⟩), .agg #[.int .i64 A, .int .i64 K]] w fun e w' => e = .returned (.tuple #[]) ∧ ∃ s' y', MemAt w' y' s' ∧ Evd s s' ∧ Turn w w' y y' := by
  have mixed : Try.prog.follows .mixedOrders = true := by kernel_rfl
  have hmost := h.most
  have hpos := h.pos
  obtain ⟨n, hn⟩ : ∃ n, n = s.nl := ⟨_, rfl⟩
  obtain ⟨U, hU⟩ : ∃ U, U = IntKind.u64.wrap A := ⟨_, rfl⟩
  have hU1 : 0 ≤ U ∧ U < 18446744073709551616 := by rw [hU, IntKind.wrap_u64]; omega
  obtain ⟨j, hj⟩ : ∃ j : Nat, (j : Int) = U % (n : Int) := ⟨(U % (n : Int)).toNat, by have := Int.emod_nonneg U (show (n : Int) ≠ 0 by omega); omega⟩
  have hjn : j < n := by have := Int.emod_lt_of_pos U (show (0 : Int) < (n : Int) by omega); omega
  have t1 : IntKind.u64.wrap A = U := hU.symm
  have t3 : U.tmod (n : Int) = (j : Int) := by rw [Int.tmod_eq_emod_of_nonneg hU1.1]; exact hj.symm
  have t4 : ((64 * n : Nat) : Int) / 64 = (n : Int) := by omega
  have t5 : (64 * (n : Int)) / 64 = (n : Int) := by omega
  have t6 : IntKind.i64.wrap (n : Int) = (n : Int) := by rw [IntKind.wrap_i64]; omega
  have t7 : IntKind.u64.wrap (n : Int) = (n : Int) := by rw [IntKind.wrap_u64]; omega
  have t8 : IntKind.u64.wrap (64 * (j : Int)) = ((64 * j : Nat) : Int) := by rw [IntKind.wrap_u64]; omega
  have t9 : ¬ n = 0 := by omega
  obtain ⟨W1, hW1⟩ : ∃ W1, W1 = w.alloc (.cells #[.int .i64 A, .int .i64 K] 53) := ⟨_, rfl⟩
  have hb1 : Below w.heap.size w W1 := by rw [hW1]; exact alloc_below _ _
  have hx1 : Row W1 w.heap.size 53 #[.int .i64 A, .int .i64 K] := by rw [hW1]; exact Row.new _ _ _
  have k0 := hx1.cell 0
  have k1 := hx1.cell 1
  simp only [List.getElem?_toArray, List.getElem?_cons_succ, List.getElem?_cons_zero] at k0 k1
  have ca := fun p : LowBy W1 => p.cell k0
  have cb := fun p : LowBy W1 => p.cell k1
  have hm1 := h.below hb1
  have HSZ := Lib.hid fun (p : LowBy W1) => Calls.low_of_same (w := W1) (p := p) (size_yes (hm1.below p.low))
  have HEV := Lib.hid (show ∀ (p : LowBy W1), Calls Try.prog 36 #[.pointer (some ⟨y.g, 0, none⟩), .int .u64 ((64 * j : Nat) : Int), .int .i64 K] p.W fun e w' => (∃ r, e = .returned r) ∧ ∃ s' y', MemAt w' y' s' ∧ Evd s s' ∧ Turn p.W w' y y' from fun p => by
    by_cases hk : K < 0
    · exact (evict_arg (hm1.below p.low) _ _ hk).mono fun e w' ⟨he, hw⟩ => by
        subst hw
        exact ⟨⟨_, he⟩, s, y, hm1.below p.low, .inl rfl, Turn.refl _ _⟩
    · obtain ⟨K', rfl⟩ : ∃ K' : Nat, K = (K' : Int) := ⟨K.toNat, by omega⟩
      exact (evict_ok (hm1.below p.low) ok (64 * j) K' (by omega) (by omega)).mono fun e w' ⟨he, y', hm', ht'⟩ =>
        ⟨⟨_, he⟩, _, y', hm', .inr ⟨64 * j / 64, _, by omega, Nat.min_le_right _ _, rfl⟩, ht'⟩)
  rw [← hn] at HSZ
  obtain ⟨gy, hgy⟩ : ∃ gy, gy = y.g := ⟨_, rfl⟩
  rw [← hgy] at HSZ HEV ⊢
  have HB1 := Lib.hid hb1
  clear h hx1 k0 k1 hm1 hb1 hgy hn hU hj hU1 ok hmost hpos
  go_enter Try.func21, Try.ntmps21
  go_wp2_with fail
  rw [← hW1]
  clear hW1
  refine wp_region_low_tail 12 (by assumption) (by kernel_rfl) ?_
  simp only [List.take_succ_cons, List.take_zero, List.drop_succ_cons, List.drop_zero]
  repeat (go_big_quiet_step ((go_at_call 33; with_reducible exact HSZ.out _)))
  refine wpQuiet_nil ?_
  intro _ hw'
  obtain ⟨p, hw''⟩ := hw'
  subst hw''
  clear ca cb
  go_wp2_with fail
  refine (HEV.out p).mono ?_
  rintro e w2 ⟨⟨r, rfl⟩, s', y', hm', hs', ht'⟩
  have HF := Lib.hid (show ∃ s' y', MemAt w2 y' s' ∧ Evd s s' ∧ Turn w w2 y y' from ⟨s', y', hm', hs', (Turn.of_below y (Below.and HB1.out p.low)).trans ht'⟩)
  clear hm' hs' ht' HEV HSZ
  go_wp2
  exact bodyPost_end (results_none rfl _ _ _) rfl ⟨rfl, HF.out⟩
end

theorem gd_nil {p : List (List (Nat × Nat))} {j : Nat} (h : p.length ≤ j) : p.getD j [] = [] := by rw [List.getD_eq_getElem?_getD, List.getElem?_eq_none h]; rfl
theorem put_line {s : St} (ok : s.Ok) {i : Nat} : ∀ p ∈ s.pend.getD i [], p.1 / 64 = i := by
  intro p hp
  rw [List.getD_eq_getElem?_getD] at hp
  cases e : s.pend[i]? with
  | none => rw [e] at hp; cases hp
  | some l =>
    rw [e] at hp
    exact (ok.put i l e p hp).2.1
theorem Small.last {s : St} {i : Nat} (h : Small s i) (j m : Nat) : Small (s.last j m) i := by
  refine ⟨h.st, h.fl, h.fe, fun l hl => ?_⟩
  have hl' : l ∈ s.pend.set j ((s.pend.getD j []).drop m) := hl
  rcases List.mem_or_eq_of_mem_set hl' with h1 | rfl
  · exact h.pe l h1
  · rw [List.length_drop, List.getD_eq_getElem?_getD]
    cases e : s.pend[j]? with
    | none => simp
    | some l =>
      have := h.pe l (List.mem_of_getElem? e)
      simp only [Option.getD_some]
      omega
theorem evd_Small {s s' : St} {i : Nat} (h : Small s i) (e : Evd s s') : Small s' i := by
  rcases e with rfl | ⟨j, m, _, _, rfl⟩
  · exact h
  · exact h.last j m
theorem evd_Ok {s s' : St} (ok : s.Ok) (hp : s.pend.length = s.nl) (e : Evd s s') : s'.Ok := by
  rcases e with rfl | ⟨j, m, h1, h2, rfl⟩
  · exact ok
  · exact last_Ok ok (by omega) h2
theorem evd_nl {s s' : St} (e : Evd s s') : s'.nl = s.nl ∧ s'.st = s.st := by
  rcases e with rfl | ⟨j, m, h1, h2, rfl⟩ <;> exact ⟨rfl, rfl⟩
/-- What lasts of a line, of stores that all go there. -/
theorem last_las {s : St} (ok : s.Ok) {i m k : Nat} (hk : k / 8 ≠ i) : (s.last i m).lasted.getD k 0 = s.lasted.getD k 0 := by
  show (lastW s.lasted ((s.pend.getD i []).take m)).getD k 0 = _
  refine lastW_off fun p hp => ?_
  have := put_line ok p (List.mem_of_mem_take hp)
  omega
theorem last_mm (s : St) (i m j c : Nat) : (s.last i m).mm j c = if j = i then s.mm j c - m else s.mm j c := by
  show upd s.mm i (fun c => s.mm i c - m) j c = _
  unfold upd
  by_cases e : j = i
  · subst e; simp
  · simp [e]
theorem last_pend {s : St} {i m j : Nat} (hi : i < s.pend.length) : (s.last i m).pend.getD j [] = if i = j then (s.pend.getD j []).drop m else s.pend.getD j [] := by
  show (s.pend.set i ((s.pend.getD i []).drop m)).getD j [] = _
  rw [pend_set _ _ _ _ hi]
  by_cases e : i = j
  · subst e; simp
  · simp [e]
theorem inv_last {P : Nat → Prop} {n : Nat} {l : List (Nat × Nat)} {s : St} {r : RS} {t m L b : Nat} (h : Inv P n l s r t m L b) (ok : s.Ok) {i q : Nat} (hi : i < s.pend.length) (hq : q ≤ (s.pend.getD i []).length) :
    ∃ t', t ≤ t' ∧ Inv P n l (s.last i q) r t' m L b := by
  have htm := h.ht
  have hml := h.hm
  by_cases hPL : P i ∧ i = L
  · obtain ⟨hP, rfl⟩ := hPL
    have hpi := h.pen i hP
    rw [if_pos rfl] at hpi
    have hlen : (s.pend.getD i []).length = m - t := by rw [hpi, List.length_drop, List.length_take]; omega
    refine ⟨t + q, by omega, { hb := by have := h.hb; omega, ht := by omega, hm := h.hm, left := h.left, view := h.view, las := ?_, pen := ?_, cur := h.cur, mk0 := ?_, mk1 := ?_, fl := h.fl, st := h.st, en := h.en, dn := fun hd => by have := h.dn hd; omega, lines := h.lines, lv := h.lv, ll := ?_, lp := ?_ }⟩
    · intro k hk
      by_cases e : k / 8 = i
      · show (lastW s.lasted ((s.pend.getD i []).take q)).getD k 0 = _
        rw [hpi, lastW_gd _ (by rw [h.ll, vw_length]) (h.las k hk)]
        have e2 : l.take (t + q) = l.take t ++ ((l.take m).drop t).take q := by
          rw [List.take_add, List.drop_take, List.take_take, Nat.min_eq_left (by omega)]
        rw [e2]
        unfold vw
        rw [lastW_app]
      · rw [last_las ok e, h.las k hk]
        refine (vw_far (by omega) fun i' h1 h2 p hp => ?_).symm
        have := h.cur i' (by have := h.hb; omega) (by omega) p hp
        omega
    · intro j hj
      rw [last_pend hi, h.pen j hj]
      by_cases e : i = j
      · rw [if_pos e, if_pos e.symm, if_pos e.symm, List.drop_drop]
      · rw [if_neg e, if_neg (Ne.symm e), if_neg (Ne.symm e)]
    · intro j c' hj h0
      rw [last_mm] at h0
      refine h.mk0 j c' hj (fun h1 => h0 ?_)
      split <;> omega
    · intro hp
      rw [last_mm, if_pos rfl, h.mk1 hp]
      omega
    · show (lastW s.lasted _).length = _
      rw [lastW_length]
      exact h.ll
    · show (s.pend.set i _).length = _
      rw [List.length_set]
      exact h.lp
  · have hlas : ∀ k, P (k / 8) → (s.last i q).lasted.getD k 0 = s.lasted.getD k 0 := fun k hk => by
      by_cases e : k / 8 = i
      · have hPi : P i := e ▸ hk
        have hiL : i ≠ L := fun h1 => hPL ⟨hPi, h1⟩
        have hpi := h.pen i hPi
        rw [if_neg hiL] at hpi
        show (lastW s.lasted ((s.pend.getD i []).take q)).getD k 0 = _
        rw [hpi, List.take_nil]
        rfl
      · exact last_las ok e
    refine ⟨t, Nat.le_refl _, { hb := h.hb, ht := h.ht, hm := h.hm, left := h.left, view := h.view, las := fun k hk => (hlas k hk).trans (h.las k hk), pen := ?_, cur := h.cur, mk0 := ?_, mk1 := ?_, fl := h.fl, st := h.st, en := h.en, dn := h.dn, lines := h.lines, lv := h.lv, ll := ?_, lp := ?_ }⟩
    · intro j hj
      rw [last_pend hi]
      by_cases e : i = j
      · subst e
        have hiL : i ≠ L := fun h1 => hPL ⟨hj, h1⟩
        rw [if_pos rfl, h.pen i hj, if_neg hiL]
        simp
      · rw [if_neg e]
        exact h.pen j hj
    · intro j c' hj h0
      rw [last_mm] at h0
      refine h.mk0 j c' hj (fun h1 => h0 ?_)
      split <;> omega
    · intro hp
      have hL := h.fl (.inr hp)
      rw [last_mm]
      by_cases e : L = i
      · subst e
        exact absurd ⟨hL.2.1, rfl⟩ hPL
      · rw [if_neg e]
        exact h.mk1 hp
    · show (lastW s.lasted _).length = _
      rw [lastW_length]
      exact h.ll
    · show (s.pend.set i _).length = _
      rw [List.length_set]
      exact h.lp
theorem inv_evd {P : Nat → Prop} {n : Nat} {l : List (Nat × Nat)} {s s' : St} {r : RS} {t m L b : Nat} (h : Inv P n l s r t m L b) (ok : s.Ok) (hp : s.pend.length = s.nl) (e : Evd s s') : ∃ t', Inv P n l s' r t' m L b := by
  rcases e with rfl | ⟨i, q, h1, h2, rfl⟩
  · exact ⟨t, h⟩
  · obtain ⟨t', _, h'⟩ := inv_last h ok (by omega) h2
    exact ⟨t', h'⟩
/-- What has lasted, of what is on its way to be lost. -/
structure CrI2 (P : Nat → Prop) (n : Nat) (l : List (Nat × Nat)) (s : St) (t m L b : Nat) : Prop where
  hb : b ≤ t
  ht : t ≤ m
  hm : m ≤ l.length
  las : ∀ k, P (k / 8) → s.lasted.getD k 0 = (vw n (l.take t)).getD k 0
  pen : ∀ j, P j → s.pend.getD j [] = [] ∨ (j = L ∧ s.pend.getD j [] = (l.take m).drop t)
  cur : ∀ i, b ≤ i → i < m → ∀ p, l[i]? = some p → p.1 / 64 = L
  ll : s.lasted.length = 8 * n
theorem cr_crash1 {P : Nat → Prop} {n : Nat} {l : List (Nat × Nat)} {s : St} {t m L b : Nat} (h : CrI2 P n l s t m L b) (ok : s.Ok) (keep : List Int) {x : Nat × Nat} (hx : x.2 < s.pend.length) : ∃ t', t ≤ t' ∧ CrI2 P n l (s.crash1 keep x) t' m L b := by
  obtain ⟨i, hi⟩ : ∃ i, i = x.2 := ⟨_, rfl⟩
  obtain ⟨q, hq0⟩ : ∃ q, q = keptN keep x.1 (s.pend.getD x.2 []).length := ⟨_, rfl⟩
  have hq : q ≤ (s.pend.getD i []).length := by rw [hq0, hi]; exact keptN_le _ _ _
  rw [← hi] at hx
  have hst : s.crash1 keep x = (s.last i q).lose i := by unfold St.crash1; rw [← hq0, ← hi]
  rw [hst]
  have hpend : ∀ j, ((s.last i q).lose i).pend.getD j [] = if i = j then [] else s.pend.getD j [] := fun j => by
    show ((s.pend.set i _).set i []).getD j [] = _
    rw [pend_set _ _ _ _ (by rw [List.length_set]; exact hx), pend_set _ _ _ _ hx]
    by_cases e : i = j
    · rw [if_pos e, if_pos e]
    · rw [if_neg e, if_neg e, if_neg e]
  have hpen : ∀ j, P j → ((s.last i q).lose i).pend.getD j [] = [] ∨ (j = L ∧ i ≠ j ∧ s.pend.getD j [] = (l.take m).drop t ∧ ((s.last i q).lose i).pend.getD j [] = (l.take m).drop t) := fun j hj => by
    rw [hpend]
    by_cases e : i = j
    · rw [if_pos e]; exact .inl rfl
    · rw [if_neg e]
      rcases h.pen j hj with h1 | ⟨h1, h2⟩
      · exact .inl h1
      · exact .inr ⟨h1, e, h2, h2⟩
  have htm := h.ht
  have hml := h.hm
  have hll : ((s.last i q).lose i).lasted.length = 8 * n := by
    show (lastW s.lasted _).length = _
    rw [lastW_length]
    exact h.ll
  by_cases hc : P i ∧ i = L ∧ s.pend.getD i [] = (l.take m).drop t
  · obtain ⟨hP, rfl, hpi⟩ := hc
    have hlen : (s.pend.getD i []).length = m - t := by rw [hpi, List.length_drop, List.length_take]; omega
    refine ⟨t + q, Nat.le_add_right _ _, { hb := by have := h.hb; omega, ht := by omega, hm := h.hm, las := ?_, pen := ?_, cur := h.cur, ll := hll }⟩
    · intro k hk
      show ((s.last i q)).lasted.getD k 0 = _
      by_cases e : k / 8 = i
      · show (lastW s.lasted ((s.pend.getD i []).take q)).getD k 0 = _
        rw [hpi, lastW_gd _ (by rw [h.ll, vw_length]) (h.las k hk)]
        have e2 : l.take (t + q) = l.take t ++ ((l.take m).drop t).take q := by
          rw [List.take_add, List.drop_take, List.take_take, Nat.min_eq_left (by omega)]
        rw [e2]
        unfold vw
        rw [lastW_app]
      · rw [last_las ok e, h.las k hk]
        refine (vw_far (by omega) fun i' h1 h2 p hp => ?_).symm
        have := h.cur i' (by have := h.hb; omega) (by omega) p hp
        omega
    · intro j hj
      rcases hpen j hj with h1 | ⟨h1, h2, _⟩
      · exact .inl h1
      · exact absurd h1.symm h2
  · refine ⟨t, Nat.le_refl _, { hb := h.hb, ht := h.ht, hm := h.hm, las := ?_, pen := fun j hj => ?_, cur := h.cur, ll := hll }⟩
    · intro k hk
      refine Eq.trans ?_ (h.las k hk)
      show ((s.last i q)).lasted.getD k 0 = _
      by_cases e : k / 8 = i
      · have hPi : P i := e ▸ hk
        have hpi : s.pend.getD i [] = [] := by
          rcases h.pen i hPi with h1 | ⟨h1, h2⟩
          · exact h1
          · exact absurd ⟨hPi, h1, h2⟩ hc
        show (lastW s.lasted ((s.pend.getD i []).take q)).getD k 0 = _
        rw [hpi, List.take_nil]
        rfl
      · exact last_las ok e
    · rcases hpen j hj with h1 | ⟨h1, _, _, h3⟩
      · exact .inl h1
      · exact .inr ⟨h1, h3⟩
theorem cr_to {P : Nat → Prop} {n : Nat} {l : List (Nat × Nat)} (keep : List Int) (xs : List (Nat × Nat)) {s : St} {t m L b : Nat} (h : CrI2 P n l s t m L b) (ok : s.Ok) (hx : ∀ x ∈ xs, x.2 < s.pend.length) : ∃ t', t ≤ t' ∧ CrI2 P n l (s.crashTo keep xs) t' m L b := by
  induction xs generalizing s t with
  | nil => exact ⟨t, Nat.le_refl _, h⟩
  | cons x q ih =>
    obtain ⟨t1, ht1, h1⟩ := cr_crash1 h ok keep (hx x List.mem_cons_self)
    have hl : (s.crash1 keep x).pend.length = s.pend.length := by simp [St.crash1, St.lose, St.last]
    have hx2 := hx x List.mem_cons_self
    obtain ⟨t2, ht2, h2⟩ := ih h1 (lose_Ok (last_Ok ok hx2 (keptN_le _ _ _)) (by simpa [St.last] using hx2)) (fun y hy => by rw [hl]; exact hx y (List.mem_cons_of_mem _ hy))
    exact ⟨t2, Nat.le_trans ht1 ht2, h2⟩
/-- A crash leaves a beginning of the stores: all groups ahead of the one that is under way, and some of that. -/
theorem inv_crash {P : Nat → Prop} {n : Nat} {l : List (Nat × Nat)} {s : St} {r : RS} {t m L b : Nat} (h : Inv P n l s r t m L b) (ok : s.Ok) (keep : List Int) (hn : ∀ x ∈ nz s.pend, x.2 < s.pend.length := fun x hx => by have := nzFrom_bound _ _ _ x hx; omega) :
    ∃ t', t' ≤ m ∧ t ≤ t' ∧ (s.crash keep).lasted.length = 8 * n ∧ ∀ k, P (k / 8) → (s.crash keep).lasted.getD k 0 = (vw n (l.take t')).getD k 0 := by
  have h0 : CrI2 P n l s t m L b := { hb := h.hb, ht := h.ht, hm := h.hm, las := h.las, pen := fun j hj => (by
      rw [h.pen j hj]
      by_cases e : j = L
      · rw [if_pos e]; exact .inr ⟨e, rfl⟩
      · rw [if_neg e]; exact .inl rfl), cur := h.cur, ll := h.ll }
  obtain ⟨t', htt, h'⟩ := cr_to keep (nz s.pend) h0 ok hn
  exact ⟨t', h'.ht, htt, h'.ll, h'.las⟩
theorem RunOn.turn {w w' : World} {y y' : Lay} {s : St} {rg : Nat} {r : RS} {V : Value} (h : RunOn w y rg r V) (hm : MemAt w y s) (T : Turn w w' y y') : RunOn w' y' rg r V := by
  have T' := RT.of_turn rg T
  refine ⟨⟨?_, h.run.ah.keep T' h.vsep⟩, T'.nfp h.lt h.sep, fun b hb h0 => ⟨T'.nfp (h.run.ah.lt h0 hb) (h.vsep b hb h0).1, (h.vsep b hb h0).2⟩⟩
  rw [T.g]
  exact T.but.row h.run.row h.sep
/-- Where the loop of RunLasts stands. -/
structure WL (w wr : World) (n : Nat) (l : List (Nat × Nat)) (v : Value) (g rg : Nat) (i : Nat) (s : St) (r : RS) (y : Lay) (V : Value) (t m L b : Nat) : Prop where
  mem : MemAt wr y s
  ok : s.Ok
  sm : Small s i
  on : RunOn wr y rg r V
  inv : Inv (fun _ => True) n l s r t m L b
  st : s.st = m
  nl : s.nl = n
  yg : y.g = g
  low : Below w.heap.size w wr
  fp : ∀ k, y.fp k → w.heap.size ≤ k
  rgn : w.heap.size ≤ rg
  ah : Ahead wr v l
  sep : ∀ b, v.ownBlock = some b → l ≠ [] → ¬ y.fp b ∧ b ≠ rg
theorem WL.below {w wr w' : World} {n : Nat} {l : List (Nat × Nat)} {v : Value} {g rg i : Nat} {s : St} {r : RS} {y : Lay} {V : Value} {t m L b : Nat} (h : WL w wr n l v g rg i s r y V t m L b) (hb : Below wr.heap.size wr w') : WL w w' n l v g rg i s r y V t m L b :=
  { mem := h.mem.below hb, ok := h.ok, sm := h.sm, on := h.on.below hb, inv := h.inv, st := h.st, nl := h.nl, yg := h.yg, low := Below.and h.low hb, fp := h.fp, rgn := h.rgn, ah := h.ah.below hb, sep := h.sep }
theorem WL.evict {w wr w' : World} {n : Nat} {l : List (Nat × Nat)} {v : Value} {g rg i : Nat} {s s' : St} {r : RS} {y y' : Lay} {V : Value} {t m L b : Nat} (h : WL w wr n l v g rg i s r y V t m L b) (hm : MemAt w' y' s') (e : Evd s s') (T : Turn wr w' y y') : ∃ t', WL w w' n l v g rg i s' r y' V t' m L b := by
  obtain ⟨t', hi⟩ := inv_evd h.inv h.ok h.mem.plen e
  have T' := RT.of_turn rg T
  have F := (Fresh.mk h.low h.fp h.rgn).step T'
  exact ⟨t', { mem := hm, ok := evd_Ok h.ok h.mem.plen e, sm := evd_Small h.sm e, on := h.on.turn h.mem T, inv := hi, st := by rw [(evd_nl e).2]; exact h.st, nl := by rw [(evd_nl e).1]; exact h.nl, yg := T.g.trans h.yg, low := F.low, fp := F.fp, rgn := F.rg, ah := h.ah.keep T' h.sep, sep := fun q hq h0 => ⟨T'.nfp (h.ah.lt h0 hq) (h.sep q hq h0).1, (h.sep q hq h0).2⟩ }⟩
theorem WL.step {w wr w' : World} {n : Nat} {l : List (Nat × Nat)} {v : Value} {g rg i : Nat} {s : St} {r : RS} {y : Lay} {V : Value} {t m L b : Nat} (h : WL w wr n l v g rg i s r y V t m L b) (hi : i ≤ 1000) (gd : r.Good n)
    (hp : StepPost wr y rg r.next (r.mem s) w') : ∃ y' V' t' m' L' b', WL w w' n l v g rg (i + 1) (r.mem s) r.next y' V' t' m' L' b' := by
  obtain ⟨y', V', hm', hr', T⟩ := hp
  obtain ⟨t', m', L', b', hinv, hst⟩ := inv_step h.inv gd
  have hg : r.Good s.nl := by rw [h.nl]; exact gd
  have F := (Fresh.mk h.low h.fp h.rgn).step T
  exact ⟨y', V', t', m', L', b', { mem := hm', ok := mem_Ok h.ok h.sm hi h.mem.plen hg, sm := mem_Small h.sm, on := hr', inv := hinv, st := by have := h.st; omega, nl := by rw [mem_nl]; exact h.nl, yg := T.g.trans h.yg, low := F.low, fp := F.fp, rgn := F.rg, ah := h.ah.keep T h.sep, sep := fun q hq h0 => ⟨T.nfp (h.ah.lt h0 hq) (h.sep q hq h0).1, (h.sep q hq h0).2⟩ }⟩
end Go.Proofs.Ytgapncamnmngeaa
