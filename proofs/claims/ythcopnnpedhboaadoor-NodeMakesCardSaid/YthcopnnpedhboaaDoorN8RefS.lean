/- The document's Rise and May: of any node, any few entries; without conditions else. -/
import Derived.Test.YthcopnnpedhboaaDoorN8RefP
import Derived.Test.YthcopnnpedhboaaDoorN9P
namespace Go.Proofs.YthcopnnpedhboaaDoor
open Go.RowKit
set_option linter.unusedVariables false
/-- What Rise asks, as the program has it in two. -/
def riseR (level low first : Int) (l : List (Int × Int)) : Bool := riseB low (decide (level ≤ 0)) l && unlB first l
theorem drewN_two (w : World) (a b : Nat) : ∃ q, (w.drewN a).drewN b = w.drewN q := by
  exact ⟨_, World.drewN_drewN _ _ _⟩
theorem rise_last {a : Int} {c : Bool} : ∀ {l : List (Int × Int)} {e : Int × Int}, riseB a c (l ++ [e]) = (riseB a c l && match l.getLast? with | some x => decide (x.1 < e.1) | none => decide (¬ (e.1 < a ∨ (e.1 = a ∧ c = false)))) := by
  intro l
  induction l generalizing a c with
  | nil => intro e; simp only [List.nil_append, riseB, List.getLast?_nil, Bool.true_and]; split <;> simp_all
  | cons x t ih =>
    intro e
    rw [List.cons_append, riseB, riseB]
    split
    · rfl
    · rw [ih]
      cases t with
      | nil =>
        simp only [List.getLast?_nil, List.getLast?_singleton, riseB, Bool.true_and]
        congr 1
        apply propext
        simp
        omega
      | cons y t =>
        obtain ⟨z, hz⟩ : ∃ z, (y :: t).getLast? = some z := ⟨_, List.getLast?_eq_some_getLast (by simp)⟩
        rw [List.getLast?_cons_cons, hz]
theorem unl_last {f : Int} {l : List (Int × Int)} {e : Int × Int} : unlB f (l ++ [e]) = (unlB f l && decide (e.2 ≠ f ∧ ∀ x ∈ l, x.2 ≠ e.2)) := by
  unfold unlB
  rw [← Bool.decide_and]
  congr 1
  apply propext
  rw [List.map_append, ← List.cons_append, List.nodup_append]
  constructor
  · rintro ⟨h1, _, h3⟩
    refine ⟨h1, fun h => h3 f (by simp) e.2 (by simp) h.symm, fun x hx h => h3 x.2 (by simp; exact Or.inr ⟨x.1, hx⟩) e.2 (by simp) h⟩
  · rintro ⟨h1, h2, h3⟩
    refine ⟨h1, by simp, fun a ha b hb => ?_⟩
    simp at hb
    subst hb
    rcases List.mem_cons.1 ha with rfl | ha
    · exact fun h => h2 h.symm
    · obtain ⟨x, hx, rfl⟩ := List.mem_map.1 ha
      exact h3 x hx
theorem riseR_pre {level low first : Int} {l : List (Int × Int)} (k : Nat) (h : riseR level low first (l.take k) = false) : riseR level low first l = false := by
  rw [Bool.eq_false_iff] at h ⊢
  intro hh
  refine h ?_
  unfold riseR at hh ⊢
  rw [Bool.and_eq_true] at hh ⊢
  exact ⟨riseB_sub hh.1 (List.take_sublist _ _), unlB_sub hh.2 (List.take_sublist _ _)⟩
theorem riseR_step {level low first : Int} {l : List (Int × Int)} {k : Nat} (hk : k < l.length) (h : riseR level low first (l.take k) = true) :
    riseR level low first (l.take (k + 1)) = (decide (¬ ((l.getD k (0, 0)).1 < low ∨ (0 < level ∧ (l.getD k (0, 0)).1 = low)) ∧ ¬ ((0 < k ∧ (l.getD k (0, 0)).1 ≤ (l.getD (k - 1) (0, 0)).1) ∨ (l.getD k (0, 0)).2 = first) ∧ ∀ j, j < k → (l.getD j (0, 0)).2 ≠ (l.getD k (0, 0)).2)) := by
  have hge : l.getD k (0, 0) = l[k] := by rw [List.getD_eq_getElem?_getD, List.getElem?_eq_getElem hk]; rfl
  rw [List.take_succ_eq_append_getElem hk, hge]
  unfold riseR at h ⊢
  rw [Bool.and_eq_true] at h
  rw [rise_last, unl_last, h.1, h.2, Bool.true_and, Bool.true_and]
  have hu : (∀ x ∈ l.take k, x.2 ≠ l[k].2) ↔ ∀ j, j < k → (l.getD j (0, 0)).2 ≠ l[k].2 := by
    constructor
    · intro hh j hj
      refine hh _ ?_
      rw [List.getD_eq_getElem?_getD, List.getElem?_eq_getElem (by omega)]
      exact List.mem_take_iff_getElem.2 ⟨j, by omega, rfl⟩
    · intro hh x hx
      obtain ⟨j, hj, rfl⟩ := List.mem_take_iff_getElem.1 hx
      have := hh j (by omega)
      rw [List.getD_eq_getElem?_getD, List.getElem?_eq_getElem (by omega)] at this
      exact this
  have hfst : (match (l.take k).getLast? with | some x => decide (x.1 < l[k].1) | none => decide (¬ (l[k].1 < low ∨ (l[k].1 = low ∧ decide (level ≤ 0) = false)))) = decide (¬ (l[k].1 < low ∨ (0 < level ∧ l[k].1 = low)) ∧ ¬ (0 < k ∧ l[k].1 ≤ (l.getD (k - 1) (0, 0)).1)) := by
    cases k with
    | zero =>
      simp only [List.take_zero, List.getLast?_nil]
      congr 1
      apply propext
      simp
      omega
    | succ k =>
      have hl : (l.take (k + 1)).getLast? = some (l.getD k (0, 0)) := by
        have hk2 : k < l.length := by omega
        rw [List.take_succ_eq_append_getElem hk2, List.getLast?_append, List.getD_eq_getElem?_getD, List.getElem?_eq_getElem hk2]
        rfl
      have hm := ((riseB_iff _ _ _).1 h.1).1 (l.getD k (0, 0)) (List.mem_of_getLast? hl)
      rw [hl, Nat.add_sub_cancel]
      dsimp only
      congr 1
      apply propext
      simp at hm ⊢
      omega
  rw [hfst, ← Bool.decide_and]
  congr 1
  apply propext
  rw [hu]
  constructor
  · rintro ⟨⟨h1, h2⟩, h3, h4⟩
    exact ⟨h1, fun hh => Or.elim hh h2 h3, h4⟩
  · rintro ⟨h1, h2, h3⟩
    exact ⟨⟨h1, fun hh => h2 (Or.inl hh)⟩, fun hh => h2 (Or.inr hh), h3⟩
set_option maxRecDepth 100000 in
set_option maxHeartbeats 4000000 in
theorem r8Rise_any {w : World} {v : Value} {l : List (Int × Int)} (h : EntAt w v l) (hl : l.length ≤ 1000) (level low first : Int) :
    Calls Tryd.prog 15 #[.int .i64 level, .int .u64 low, .int .u64 first, v] w fun e w' => e = .returned (.bool (riseR level low first l)) ∧ Below w.heap.size w w' := by
  obtain ⟨A, cap, rfl, hA⟩ := h
  obtain ⟨m, hm⟩ : ∃ m, m = l.length := ⟨_, rfl⟩
  have HA := Lib.hid (fun (h0 : 0 < m) => (show ∃ g o, A = some ⟨g, o, none⟩ ∧ ∀ k, k < m → w.cell? ⟨g, o + k * 2, none⟩ = some (.int .u64 (l.getD k (0, 0)).1) ∧ w.cell? ⟨g, o + k * 2 + 1, none⟩ = some (.int .u64 (l.getD k (0, 0)).2) by
    obtain ⟨g, o, rfl, hc⟩ := hA (by omega)
    exact ⟨g, o, rfl, fun k hk => hc k _ (getD_ent (by omega))⟩))
  have HP := Lib.hid (fun k (h : riseR level low first (l.take k) = false) => riseR_pre k h)
  have HS := Lib.hid (fun k (hk : k < m) (h : riseR level low first (l.take k) = true) => riseR_step (by omega) h)
  have HE := Lib.hid (show l.take m = l by rw [hm]; exact List.take_length)
  have H0 := Lib.hid (show riseR level low first (l.take 0) = true from rfl)
  rw [← hm] at hl ⊢
  obtain ⟨R, hR⟩ : ∃ R, R = riseR level low first l := ⟨_, rfl⟩
  have HR := Lib.hid hR
  rw [← hR] at HP ⊢
  clear hA hm hR
  go_enter Tryd.func15, Tryd.ntmps15
  go_wp2_with fail
  go_loopw [9] (fun i wr => ∃ k : Nat, k ≤ m ∧ i = .int .i64 (k : Int) ∧ riseR level low first (l.take k) = true ∧ ∃ q, wr = w.drewN q) (fun i _ => m - (intOf i).toNat)
  case atStart => exact ⟨0, by omega, rfl, H0.out, 0, rfl⟩
  case round =>
    obtain ⟨k, hk, rfl, hr, q, rfl⟩ := hrel
    by_cases hlt : k < m
    · obtain ⟨g, o, rfl, hc⟩ := HA.out (by omega)
      have HSk := Lib.hid (HS.out k hlt hr)
      have HPk := Lib.hid (HP.out (k + 1))
      have HC := Lib.hid hc
      obtain ⟨c1, c2⟩ := hc k hlt
      have hkb : k < 1000 := by omega
      have hki : (k : Int) < (m : Int) := by omega
      obtain ⟨x, hx⟩ : ∃ x, x = (l.getD k (0, 0)).1 := ⟨_, rfl⟩
      obtain ⟨y, hy⟩ : ∃ y, y = (l.getD k (0, 0)).2 := ⟨_, rfl⟩
      rw [← hx] at c1
      rw [← hy] at c2
      rw [← hx, ← hy] at HSk
      have HX := Lib.hid hx
      have HY := Lib.hid hy
      clear hc hr hx hy
      obtain h1 | h1 : x < low ∨ ¬ x < low := by omega
      · have HRf := Lib.hid (show R = false from HPk.out (by rw [HSk.out, decide_eq_false_iff_not]; omega))
        go_wp2
        go_ret
        exact ⟨by rw [HRf.out]; rfl, ⟨rfl, rfl, rfl, Nat.le_refl _, fun _ _ => rfl⟩⟩
      · have h1' : low ≤ x := by omega
        obtain h2 | h2 : (0 < level ∧ x = low) ∨ ¬ (0 < level ∧ x = low) := by omega
        · have HRf := Lib.hid (show R = false from HPk.out (by rw [HSk.out, decide_eq_false_iff_not]; omega))
          obtain ⟨h2a, rfl⟩ := h2
          go_wp2
          go_ret
          exact ⟨by rw [HRf.out]; rfl, ⟨rfl, rfl, rfl, Nat.le_refl _, fun _ _ => rfl⟩⟩
        · have HOK1 := Lib.hid (show ¬ (x < low ∨ (0 < level ∧ x = low)) by omega)
          have hcase : ¬ 0 < level ∨ (0 < level ∧ x ≠ low) := by omega
          clear h2
          have go_on : True := trivial
          obtain hk0 | hk0 : k = 0 ∨ 0 < k := by omega
          · have hkd : decide (0 < k) = false := by simp; omega
            have HK0 := Lib.hid hk0
            clear hk0
            obtain rfl | hyf : y = first ∨ y ≠ first := by omega
            · have HRf := Lib.hid (show R = false from HPk.out (by rw [HSk.out, decide_eq_false_iff_not]; rintro ⟨_, h, _⟩; exact h (Or.inr rfl)))
              rcases hcase with hlv | ⟨hlv, hxl⟩
              · go_wp2
                go_quiet (fail)
                go_wp2
                go_ret
                exact ⟨by rw [HRf.out]; rfl, ⟨rfl, rfl, rfl, Nat.le_refl _, fun _ _ => rfl⟩⟩
              · have hxb : (x == low) = false := by simpa using hxl
                go_wp2
                go_quiet (fail)
                go_wp2
                go_ret
                exact ⟨by rw [HRf.out]; rfl, ⟨rfl, rfl, rfl, Nat.le_refl _, fun _ _ => rfl⟩⟩
            · have hyb : (y == first) = false := by simpa using hyf
              have HOK2 := Lib.hid (show ¬ ((0 < k ∧ x ≤ (l.getD (k - 1) (0, 0)).1) ∨ y = first) by have := HK0.out; rintro (h | h) <;> omega)
              rcases hcase with hlv | ⟨hlv, hxl⟩
              · go_wp2
                go_quiet (fail)
                go_wp2
                go_loopw [10] (fun i wr => ∃ j : Nat, j ≤ k ∧ i = .int .i64 (j : Int) ∧ (∀ p, p < j → (l.getD p (0, 0)).2 ≠ y) ∧ ∃ q, wr = w.drewN q) (fun i _ => k - (intOf i).toNat)
                case atStart => exact ⟨0, by omega, rfl, fun p hp => by omega, by first | exact drewN_two _ _ _ | exact ⟨_, rfl⟩⟩
                case round =>
                  obtain ⟨j, hj, rfl, hne, q3, rfl⟩ := hrel
                  have HNE := Lib.hid hne
                  clear hne
                  by_cases hjk : j < k
                  · obtain ⟨_, d2⟩ := HC.out j (by omega)
                    have hji : (j : Int) < (m : Int) := by omega
                    have hjki : (j : Int) < (k : Int) := by omega
                    obtain ⟨z, hz⟩ : ∃ z, z = (l.getD j (0, 0)).2 := ⟨_, rfl⟩
                    rw [← hz] at d2
                    have HZ := Lib.hid hz
                    clear hz
                    obtain rfl | hzy : z = y ∨ z ≠ y := by omega
                    · have HRf := Lib.hid (show R = false from HPk.out (by rw [HSk.out, decide_eq_false_iff_not]; rintro ⟨_, _, h⟩; exact h j hjk HZ.out.symm))
                      go_wp2
                      go_quiet (fail)
                      go_wp2
                      go_ret
                      exact ⟨by rw [HRf.out]; rfl, ⟨rfl, rfl, rfl, Nat.le_refl _, fun _ _ => rfl⟩⟩
                    · have hzb : (z == y) = false := by simpa using hzy
                      go_wp2
                      go_quiet (fail)
                      go_wp2
                      refine ⟨⟨j + 1, by omega, by go_num, fun p hp => ?_, by first | exact drewN_two _ _ _ | exact ⟨_, rfl⟩⟩, by simp [intOf]; omega⟩
                      rcases Nat.lt_or_eq_of_le (Nat.le_of_lt_succ hp) with h | rfl
                      · exact HNE.out p h
                      · rw [← HZ.out]; exact hzy
                  · obtain rfl : j = k := by omega
                    have HRt := Lib.hid (show riseR level low first (l.take (j + 1)) = true by rw [HSk.out, decide_eq_true_eq]; exact ⟨HOK1.out, HOK2.out, HNE.out⟩)
                    go_wp2
                    exact ⟨⟨j + 1, by omega, by go_num, HRt.out, _, rfl⟩, by simp [intOf]; omega⟩
              · have hxb : (x == low) = false := by simpa using hxl
                go_wp2
                go_quiet (fail)
                go_wp2
                go_loopw [10] (fun i wr => ∃ j : Nat, j ≤ k ∧ i = .int .i64 (j : Int) ∧ (∀ p, p < j → (l.getD p (0, 0)).2 ≠ y) ∧ ∃ q, wr = w.drewN q) (fun i _ => k - (intOf i).toNat)
                case atStart => exact ⟨0, by omega, rfl, fun p hp => by omega, by first | exact drewN_two _ _ _ | exact ⟨_, rfl⟩⟩
                case round =>
                  obtain ⟨j, hj, rfl, hne, q3, rfl⟩ := hrel
                  have HNE := Lib.hid hne
                  clear hne
                  by_cases hjk : j < k
                  · obtain ⟨_, d2⟩ := HC.out j (by omega)
                    have hji : (j : Int) < (m : Int) := by omega
                    have hjki : (j : Int) < (k : Int) := by omega
                    obtain ⟨z, hz⟩ : ∃ z, z = (l.getD j (0, 0)).2 := ⟨_, rfl⟩
                    rw [← hz] at d2
                    have HZ := Lib.hid hz
                    clear hz
                    obtain rfl | hzy : z = y ∨ z ≠ y := by omega
                    · have HRf := Lib.hid (show R = false from HPk.out (by rw [HSk.out, decide_eq_false_iff_not]; rintro ⟨_, _, h⟩; exact h j hjk HZ.out.symm))
                      go_wp2
                      go_quiet (fail)
                      go_wp2
                      go_ret
                      exact ⟨by rw [HRf.out]; rfl, ⟨rfl, rfl, rfl, Nat.le_refl _, fun _ _ => rfl⟩⟩
                    · have hzb : (z == y) = false := by simpa using hzy
                      go_wp2
                      go_quiet (fail)
                      go_wp2
                      refine ⟨⟨j + 1, by omega, by go_num, fun p hp => ?_, by first | exact drewN_two _ _ _ | exact ⟨_, rfl⟩⟩, by simp [intOf]; omega⟩
                      rcases Nat.lt_or_eq_of_le (Nat.le_of_lt_succ hp) with h | rfl
                      · exact HNE.out p h
                      · rw [← HZ.out]; exact hzy
                  · obtain rfl : j = k := by omega
                    have HRt := Lib.hid (show riseR level low first (l.take (j + 1)) = true by rw [HSk.out, decide_eq_true_eq]; exact ⟨HOK1.out, HOK2.out, HNE.out⟩)
                    go_wp2
                    exact ⟨⟨j + 1, by omega, by go_num, HRt.out, _, rfl⟩, by simp [intOf]; omega⟩
          · obtain ⟨j0, rfl⟩ : ∃ j0, k = j0 + 1 := ⟨k - 1, by omega⟩
            obtain ⟨b1, _⟩ := HC.out j0 (by omega)
            have hki0 : (0 : Int) < ((j0 + 1 : Nat) : Int) := by omega
            have hj0 : ((j0 + 1 : Nat) : Int) - 1 = (j0 : Int) := by omega
            have hj0i : (j0 : Int) < (m : Int) := by omega
            obtain ⟨u, hu⟩ : ∃ u, u = (l.getD j0 (0, 0)).1 := ⟨_, rfl⟩
            rw [← hu] at b1
            have HU := Lib.hid hu
            clear hu
            have HJ0 := Lib.hid (show (l.getD (j0 + 1 - 1) (0, 0)).1 = u by rw [Nat.add_sub_cancel]; exact HU.out.symm)
            obtain hxu | hxu : x ≤ u ∨ u < x := by omega
            · have HRf := Lib.hid (show R = false from HPk.out (by rw [HSk.out, decide_eq_false_iff_not]; rintro ⟨_, h, _⟩; exact h (Or.inl ⟨by omega, by rw [HJ0.out]; exact hxu⟩)))
              rcases hcase with hlv | ⟨hlv, hxl⟩
              · go_wp2
                go_quiet (fail)
                go_wp2
                go_ret
                exact ⟨by rw [HRf.out]; rfl, ⟨rfl, rfl, rfl, Nat.le_refl _, fun _ _ => rfl⟩⟩
              · have hxb : (x == low) = false := by simpa using hxl
                go_wp2
                go_quiet (fail)
                go_wp2
                go_ret
                exact ⟨by rw [HRf.out]; rfl, ⟨rfl, rfl, rfl, Nat.le_refl _, fun _ _ => rfl⟩⟩
            · have hxud : decide (x ≤ u) = false := by simp; omega
              obtain rfl | hyf : y = first ∨ y ≠ first := by omega
              · have HRf := Lib.hid (show R = false from HPk.out (by rw [HSk.out, decide_eq_false_iff_not]; rintro ⟨_, h, _⟩; exact h (Or.inr rfl)))
                rcases hcase with hlv | ⟨hlv, hxl⟩
                · go_wp2
                  go_quiet (fail)
                  go_wp2
                  go_ret
                  exact ⟨by rw [HRf.out]; rfl, ⟨rfl, rfl, rfl, Nat.le_refl _, fun _ _ => rfl⟩⟩
                · have hxb : (x == low) = false := by simpa using hxl
                  go_wp2
                  go_quiet (fail)
                  go_wp2
                  go_ret
                  exact ⟨by rw [HRf.out]; rfl, ⟨rfl, rfl, rfl, Nat.le_refl _, fun _ _ => rfl⟩⟩
              · have hyb : (y == first) = false := by simpa using hyf
                have HOK2 := Lib.hid (show ¬ ((0 < j0 + 1 ∧ x ≤ (l.getD (j0 + 1 - 1) (0, 0)).1) ∨ y = first) by rw [HJ0.out]; rintro (h | h) <;> omega)
                rcases hcase with hlv | ⟨hlv, hxl⟩
                · go_wp2
                  go_quiet (fail)
                  go_wp2
                  go_loopw [10] (fun i wr => ∃ j : Nat, j ≤ j0 + 1 ∧ i = .int .i64 (j : Int) ∧ (∀ p, p < j → (l.getD p (0, 0)).2 ≠ y) ∧ ∃ q, wr = w.drewN q) (fun i _ => j0 + 1 - (intOf i).toNat)
                  case atStart => exact ⟨0, by omega, rfl, fun p hp => by omega, by first | exact drewN_two _ _ _ | exact ⟨_, rfl⟩⟩
                  case round =>
                    obtain ⟨j, hj, rfl, hne, q3, rfl⟩ := hrel
                    have HNE := Lib.hid hne
                    clear hne
                    by_cases hjk : j < j0 + 1
                    · obtain ⟨_, d2⟩ := HC.out j (by omega)
                      have hji : (j : Int) < (m : Int) := by omega
                      have hjki : (j : Int) < ((j0 + 1 : Nat) : Int) := by omega
                      obtain ⟨z, hz⟩ : ∃ z, z = (l.getD j (0, 0)).2 := ⟨_, rfl⟩
                      rw [← hz] at d2
                      have HZ := Lib.hid hz
                      clear hz
                      obtain rfl | hzy : z = y ∨ z ≠ y := by omega
                      · have HRf := Lib.hid (show R = false from HPk.out (by rw [HSk.out, decide_eq_false_iff_not]; rintro ⟨_, _, h⟩; exact h j hjk HZ.out.symm))
                        go_wp2
                        go_quiet (fail)
                        go_wp2
                        go_ret
                        exact ⟨by rw [HRf.out]; rfl, ⟨rfl, rfl, rfl, Nat.le_refl _, fun _ _ => rfl⟩⟩
                      · have hzb : (z == y) = false := by simpa using hzy
                        go_wp2
                        go_quiet (fail)
                        go_wp2
                        refine ⟨⟨j + 1, by omega, by go_num, fun p hp => ?_, by first | exact drewN_two _ _ _ | exact ⟨_, rfl⟩⟩, by simp [intOf]; omega⟩
                        rcases Nat.lt_or_eq_of_le (Nat.le_of_lt_succ hp) with h | rfl
                        · exact HNE.out p h
                        · rw [← HZ.out]; exact hzy
                    · obtain rfl : j = j0 + 1 := by omega
                      have HRt := Lib.hid (show riseR level low first (l.take (j0 + 1 + 1)) = true by rw [HSk.out, decide_eq_true_eq]; exact ⟨HOK1.out, HOK2.out, HNE.out⟩)
                      go_wp2
                      exact ⟨⟨j0 + 1 + 1, by omega, by go_num, HRt.out, _, rfl⟩, by simp [intOf]; omega⟩
                · have hxb : (x == low) = false := by simpa using hxl
                  go_wp2
                  go_quiet (fail)
                  go_wp2
                  go_loopw [10] (fun i wr => ∃ j : Nat, j ≤ j0 + 1 ∧ i = .int .i64 (j : Int) ∧ (∀ p, p < j → (l.getD p (0, 0)).2 ≠ y) ∧ ∃ q, wr = w.drewN q) (fun i _ => j0 + 1 - (intOf i).toNat)
                  case atStart => exact ⟨0, by omega, rfl, fun p hp => by omega, by first | exact drewN_two _ _ _ | exact ⟨_, rfl⟩⟩
                  case round =>
                    obtain ⟨j, hj, rfl, hne, q3, rfl⟩ := hrel
                    have HNE := Lib.hid hne
                    clear hne
                    by_cases hjk : j < j0 + 1
                    · obtain ⟨_, d2⟩ := HC.out j (by omega)
                      have hji : (j : Int) < (m : Int) := by omega
                      have hjki : (j : Int) < ((j0 + 1 : Nat) : Int) := by omega
                      obtain ⟨z, hz⟩ : ∃ z, z = (l.getD j (0, 0)).2 := ⟨_, rfl⟩
                      rw [← hz] at d2
                      have HZ := Lib.hid hz
                      clear hz
                      obtain rfl | hzy : z = y ∨ z ≠ y := by omega
                      · have HRf := Lib.hid (show R = false from HPk.out (by rw [HSk.out, decide_eq_false_iff_not]; rintro ⟨_, _, h⟩; exact h j hjk HZ.out.symm))
                        go_wp2
                        go_quiet (fail)
                        go_wp2
                        go_ret
                        exact ⟨by rw [HRf.out]; rfl, ⟨rfl, rfl, rfl, Nat.le_refl _, fun _ _ => rfl⟩⟩
                      · have hzb : (z == y) = false := by simpa using hzy
                        go_wp2
                        go_quiet (fail)
                        go_wp2
                        refine ⟨⟨j + 1, by omega, by go_num, fun p hp => ?_, by first | exact drewN_two _ _ _ | exact ⟨_, rfl⟩⟩, by simp [intOf]; omega⟩
                        rcases Nat.lt_or_eq_of_le (Nat.le_of_lt_succ hp) with h | rfl
                        · exact HNE.out p h
                        · rw [← HZ.out]; exact hzy
                    · obtain rfl : j = j0 + 1 := by omega
                      have HRt := Lib.hid (show riseR level low first (l.take (j0 + 1 + 1)) = true by rw [HSk.out, decide_eq_true_eq]; exact ⟨HOK1.out, HOK2.out, HNE.out⟩)
                      go_wp2
                      exact ⟨⟨j0 + 1 + 1, by omega, by go_num, HRt.out, _, rfl⟩, by simp [intOf]; omega⟩
    · obtain rfl : k = m := by omega
      have HRf := Lib.hid (show R = true by rw [HR.out, ← hr, HE.out])
      clear hr
      go_wp2
      go_ret
      exact ⟨by rw [HRf.out]; rfl, ⟨rfl, rfl, rfl, Nat.le_refl _, fun _ _ => rfl⟩⟩
end Go.Proofs.YthcopnnpedhboaaDoor
