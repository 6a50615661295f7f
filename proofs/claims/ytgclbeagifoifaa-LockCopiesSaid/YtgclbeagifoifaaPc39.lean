/- Texts of this claim, packed: 7RSame. -/
import Derived.Test.YtgclbeagifoifaaPc38
import Derived.Test.YtgclbeagifoifaaPc30
/- The document's Same of two tables: whether they say the same. -/
namespace Go.Proofs.Ytgclbeagifoifaa
open Go.RowKit
set_option linter.unusedVariables false
/-- What the document asks of two that are the same. -/
def SameL (n n' : Nat) (l l' : List (Nat × Nat)) (wt wt' : Nat → Nat) : Prop := n = n' ∧ l.length = l'.length ∧ (∀ c, c < n → wt c = wt' c) ∧ ∀ (i : Nat) (p : Nat × Nat), l[i]? = some p → rHold l' p.1 = (p.2 : Int)
theorem RefAt.li_at {w : World} {B gr n : Nat} {l : List (Nat × Nat)} {wt : Nat → Nat} {vL vW : Value} (h : RefAt w B gr n l wt vL vW) {A : Option Addr} {m cap : Nat} (hv : vL = .slice A m cap) {i : Nat} {p : Nat × Nat} (hp : l[i]? = some p) :
    ∃ gq, A = some ⟨gq, 0, none⟩ ∧ w.cell? ⟨gq, i * 2, none⟩ = some (.int .u64 (p.1 : Int)) ∧ w.cell? ⟨gq, i * 2 + 1, none⟩ = some (.int .i64 (p.2 : Int)) := by
  have hil := (List.getElem?_eq_some_iff.1 hp).1
  obtain ⟨gq, cp, cur, hv2, _, _, _, hrow, hcur⟩ := own2_shape h.li (by omega)
  rw [hv] at hv2
  injection hv2 with h1 _ _
  obtain ⟨f0, f1⟩ := flatH_at l i p hp
  exact ⟨gq, h1, by rw [hrow.cell]; exact hcur _ _ f0, by rw [hrow.cell]; exact hcur _ _ f1⟩
theorem RefAt.wa_at {w : World} {B gr n : Nat} {l : List (Nat × Nat)} {wt : Nat → Nat} {vL vW : Value} (h : RefAt w B gr n l wt vL vW) {A : Option Addr} {m cap : Nat} (hv : vW = .slice A m cap) {c : Nat} (hc : c < n) :
    ∃ gw, A = some ⟨gw, 0, none⟩ ∧ w.cell? ⟨gw, c, none⟩ = some (.int .u64 (wt c : Int)) := by
  obtain ⟨gw, cap', hv2, _, _, hcell, _⟩ := h.wset hc
  rw [hv] at hv2
  injection hv2 with h1 _ _
  exact ⟨gw, h1, hcell⟩
set_option maxRecDepth 100000 in
set_option maxHeartbeats 4000000 in
theorem rSame_any {w : World} {B B' gr gr' n n' : Nat} {l l' : List (Nat × Nat)} {wt wt' : Nat → Nat} {vL vW vL' vW' : Value} (h : RefAt w B gr n l wt vL vW) (h' : RefAt w B' gr' n' l' wt' vL' vW') {q : Bool} (hq : q = true ↔ SameL n n' l l' wt wt') :
    Calls Try.prog 13 #[.pointer (some ⟨gr, 0, none⟩), .pointer (some ⟨gr', 0, none⟩)] w fun e w' => e = .returned (.bool q) ∧ Below w.heap.size w w' := by
  have mixed : Try.prog.follows .mixedOrders = true := by kernel_rfl
  obtain ⟨AL, cL, hvL, hmL⟩ := own2_sl h.li
  obtain ⟨AW, cW, hvW, _, hmW, _, _⟩ := own_sl h.wa
  obtain ⟨AL', cL', hvL', hmL'⟩ := own2_sl h'.li
  obtain ⟨AW', cW', hvW', _, hmW', _, _⟩ := own_sl h'.wa
  have hn9 : n ≤ 9223372036854775807 := by have := own_lenA h.wa; exact this
  have hm9 : l.length ≤ 9223372036854775807 := by unfold maxLen at hmL; omega
  have H1 := Lib.hid (fun W (hb : Below w.heap.size w W) => h.below hb)
  have H2 := Lib.hid (fun W (hb : Below w.heap.size w W) => h'.below hb)
  have HQ := Lib.hid hq
  have c0 := h.row.cell 0
  have c1 := h.row.cell 1
  have d0 := h'.row.cell 0
  have d1 := h'.row.cell 1
  simp only [List.getElem?_toArray, List.getElem?_cons_succ, List.getElem?_cons_zero] at c0 c1 d0 d1
  subst hvL hvW hvL' hvW'
  obtain ⟨m, hm⟩ : ∃ m, m = l.length := ⟨_, rfl⟩
  obtain ⟨m', hm'⟩ : ∃ m', m' = l'.length := ⟨_, rfl⟩
  rw [← hm] at c0 hm9
  rw [← hm'] at d0
  have x0 := fun p : LowBy w => LowBy.cell c0 p
  have x1 := fun p : LowBy w => LowBy.cell c1 p
  have y0 := fun p : LowBy w => LowBy.cell d0 p
  have y1 := fun p : LowBy w => LowBy.cell d1 p
  have HM := Lib.hid (And.intro hm hm')
  clear h h' hq hm hm' hmL hmL' hmW hmW'
  by_cases hnn : n = n'
  · subst hnn
    by_cases hmm : m = m'
    · subst hmm
      have hn0 : ((n : Int) != (n : Int)) = false := by simp
      have hm0 : ((m : Int) != (m : Int)) = false := by simp
      have C1 := Lib.hid c1
      have C0 := Lib.hid c0
      have D1 := Lib.hid d1
      have D0 := Lib.hid d0
      clear c0 c1 d0 d1
      go_enter Try.func13, Try.ntmps13
      go_upto_region 1 with (fail)
      refine wp_region_quiet_low (by assumption) (by kernel_rfl) ?_
      repeat (first | go_big_quiet_skip | (go_big_quiet_want; go_big_quiet_op; go_big_quiet_on))
      refine wpQuiet_nil ?_
      intro _ hw'
      obtain ⟨p, hw''⟩ := hw'
      subst hw''
      have HP := Lib.hid p.low
      generalize p.W = W1 at *
      clear x0 x1 y0 y1
      go_wp2
      go_loopw [5] (fun v wr => ∃ i : Nat, v = .int .i64 (i : Int) ∧ i ≤ n ∧ (∀ c, c < i → wt c = wt' c) ∧ Below w.heap.size w wr) (fun v _ => n - (intOf v).toNat)
      case atStart => exact ⟨0, rfl, Nat.zero_le _, fun c hc => by omega, HP.out⟩
      case round =>
        rename World => wr
        obtain ⟨i, rfl, hin, hag, hb⟩ := hrel
        have HAG := Lib.hid hag
        have HB := Lib.hid hb
        have e0 := (hb.cell (p := ⟨gr, 0, none⟩) (w.block_lt_of_cell? _ C0.out)).trans C0.out
        have e1 := (hb.cell (p := ⟨gr, 1, none⟩) (w.block_lt_of_cell? _ C1.out)).trans C1.out
        have f1 := (hb.cell (p := ⟨gr', 1, none⟩) (w.block_lt_of_cell? _ D1.out)).trans D1.out
        have h1 := H1.out wr hb
        have h2 := H2.out wr hb
        clear hag hb
        by_cases hlt : i < n
        · obtain ⟨gw, rfl, ci⟩ := h1.wa_at rfl hlt
          obtain ⟨gw', rfl, di⟩ := h2.wa_at rfl hlt
          have x1 := fun p : LowBy wr => LowBy.cell e1 p
          have y1 := fun p : LowBy wr => LowBy.cell f1 p
          have xi := fun p : LowBy wr => LowBy.cell ci p
          have yi := fun p : LowBy wr => LowBy.cell di p
          have hltI : (i : Int) < (n : Int) := by omega
          by_cases he : wt i = wt' i
          · have HAG2 := Lib.hid (show ∀ c, c < i + 1 → wt c = wt' c from fun c hc => by
              by_cases hci : c = i
              · rw [hci, he]
              · exact HAG.out c (by omega))
            obtain ⟨a, ha⟩ : ∃ a, a = wt i := ⟨_, rfl⟩
            rw [← he] at yi
            rw [← ha] at xi yi
            have ha0 : ((a : Int) != (a : Int)) = false := by simp
            clear h1 h2 ci di he ha f1 e0
            go_upto_region 6 with (fail)
            refine wp_region_quiet_low (by assumption) (by kernel_rfl) ?_
            repeat (first | go_big_quiet_skip | (go_big_quiet_want; go_big_quiet_op; go_big_quiet_on))
            refine wpQuiet_nil ?_
            intro _ hw'
            obtain ⟨p, hw''⟩ := hw'
            subst hw''
            have HP2 := Lib.hid (Below.and HB.out p.low)
            go_wp2
            exact ⟨⟨i + 1, by go_num, by omega, HAG2.out, HP2.out⟩, by simp [intOf]; omega⟩
          · have hqf : q = false := by
              rw [Bool.eq_false_iff]
              intro hqt
              exact he ((HQ.out.1 hqt).2.2.1 i hlt)
            obtain ⟨a, ha⟩ : ∃ a, a = wt i := ⟨_, rfl⟩
            obtain ⟨a', ha'⟩ : ∃ a', a' = wt' i := ⟨_, rfl⟩
            rw [← ha, ← ha'] at he
            rw [← ha] at xi
            rw [← ha'] at yi
            have ha0 := nat_ne he
            subst hqf
            clear h1 h2 ci di he ha ha' f1 e0
            go_upto_region 6 with (fail)
            refine wp_region_quiet_low (by assumption) (by kernel_rfl) ?_
            repeat (first | go_big_quiet_skip | (go_big_quiet_want; go_big_quiet_op; go_big_quiet_on))
            refine wpQuiet_nil ?_
            intro _ hw'
            obtain ⟨p, hw''⟩ := hw'
            subst hw''
            have HP2 := Lib.hid (Below.and HB.out p.low)
            go_wp2
            go_ret
            exact ⟨rfl, HP2.out⟩
        · obtain rfl : i = n := by omega
          have hii : decide ((i : Int) < (i : Int)) = false := by simp
          clear h1 h2 e0 f1
          go_wp2
          go_loopw [6] (fun v wx => ∃ j : Nat, v = .int .i64 (j : Int) ∧ j ≤ m ∧ (∀ (k : Nat) (p : Nat × Nat), k < j → l[k]? = some p → rHold l' p.1 = (p.2 : Int)) ∧ Below w.heap.size w wx) (fun v _ => m - (intOf v).toNat)
          case atStart => exact ⟨0, rfl, Nat.zero_le _, fun c p hc => by omega, HB.out⟩
          case round =>
            rename World => wx
            obtain ⟨j, rfl, hjm, hah, hb⟩ := hrel
            have HAH := Lib.hid hah
            have HBx := Lib.hid hb
            have e0 := (hb.cell (p := ⟨gr, 0, none⟩) (w.block_lt_of_cell? _ C0.out)).trans C0.out
            have h1 := H1.out wx hb
            clear hah hb e1
            by_cases hlt : j < m
            · have hjl : j < l.length := by rw [← HM.out.1]; exact hlt
              obtain ⟨pp, hpp⟩ : ∃ pp, l[j]? = some pp := ⟨_, List.getElem?_eq_getElem hjl⟩
              obtain ⟨gq, rfl, ci, cj⟩ := h1.li_at rfl hpp
              have HHo := Lib.hid (fun p : LowBy wx => Calls.low_of_same (rHolder_any (H2.out p.W (Below.and HBx.out p.low)) pp.1))
              have x0 := fun p : LowBy wx => LowBy.cell e0 p
              have xi := fun p : LowBy wx => LowBy.cell ci p
              have xj := fun p : LowBy wx => LowBy.cell cj p
              have HPP := Lib.hid hpp
              have hltI : (j : Int) < (m : Int) := by omega
              by_cases he : rHold l' pp.1 = (pp.2 : Int)
              · have HAH2 := Lib.hid (show ∀ (k : Nat) (p : Nat × Nat), k < j + 1 → l[k]? = some p → rHold l' p.1 = (p.2 : Int) from fun k p hk hp => by
                  by_cases hkj : k = j
                  · subst hkj
                    rw [HPP.out] at hp
                    cases hp
                    exact he
                  · exact HAH.out k p (by omega) hp)
                rw [he] at HHo
                obtain ⟨y, hy⟩ : ∃ y, y = pp.2 := ⟨_, rfl⟩
                obtain ⟨x, hx⟩ : ∃ x, x = pp.1 := ⟨_, rfl⟩
                rw [← hy] at HHo xj
                rw [← hx] at HHo xi
                have ha0 : ((y : Int) != (y : Int)) = false := by simp
                clear h1 ci cj he hy hx hpp hjl
                go_upto_region 11 with (fail)
                refine wp_region_quiet_low (by assumption) (by kernel_rfl) ?_
                repeat (first | go_big_quiet_skip | (go_big_quiet_want; go_big_quiet_op; first | go_big_quiet_on | go_big_quiet_call ((go_at_call 23; with_reducible exact HHo.out _))))
                refine wpQuiet_nil ?_
                intro _ hw'
                obtain ⟨p, hw''⟩ := hw'
                subst hw''
                have HP2 := Lib.hid (Below.and HBx.out p.low)
                go_wp2
                exact ⟨⟨j + 1, by go_num, by omega, HAH2.out, HP2.out⟩, by simp [intOf]; omega⟩
              · have hqf : q = false := by
                  rw [Bool.eq_false_iff]
                  intro hqt
                  exact he ((HQ.out.1 hqt).2.2.2 j pp HPP.out)
                obtain ⟨y, hy⟩ : ∃ y, y = pp.2 := ⟨_, rfl⟩
                obtain ⟨x, hx⟩ : ∃ x, x = pp.1 := ⟨_, rfl⟩
                rw [← hx] at he
                rw [← hy] at he xj
                rw [← hx] at HHo xi
                obtain ⟨z, hz⟩ : ∃ z, z = rHold l' x := ⟨_, rfl⟩
                rw [← hz] at he HHo
                have ha0 : (z != (y : Int)) = true := by simpa using he
                subst hqf
                clear h1 ci cj he hy hx hpp hjl hz
                go_upto_region 11 with (fail)
                refine wp_region_quiet_low (by assumption) (by kernel_rfl) ?_
                repeat (first | go_big_quiet_skip | (go_big_quiet_want; go_big_quiet_op; first | go_big_quiet_on | go_big_quiet_call ((go_at_call 23; with_reducible exact HHo.out _))))
                refine wpQuiet_nil ?_
                intro _ hw'
                obtain ⟨p, hw''⟩ := hw'
                subst hw''
                have HP2 := Lib.hid (Below.and HBx.out p.low)
                go_wp2
                go_ret
                exact ⟨rfl, HP2.out⟩
            · obtain rfl : j = m := by omega
              have hqt : q = true := HQ.out.2 ⟨rfl, by rw [← HM.out.1, ← HM.out.2], HAG.out, fun k p hp => HAH.out k p (by
                have := (List.getElem?_eq_some_iff.1 hp).1
                rw [HM.out.1]
                exact this) hp⟩
              have hjj : decide ((j : Int) < (j : Int)) = false := by simp
              subst hqt
              clear h1
              go_wp2
              go_ret
              exact ⟨rfl, HBx.out⟩
    · have hqf : q = false := by
        rw [Bool.eq_false_iff]
        intro hqt
        exact hmm (by rw [HM.out.1, HM.out.2]; exact (HQ.out.1 hqt).2.1)
      have hn0 : ((n : Int) != (n : Int)) = false := by simp
      have hm0 := nat_ne hmm
      subst hqf
      clear hmm c0 c1 d0 d1
      go_enter Try.func13, Try.ntmps13
      go_upto_region 1 with (fail)
      refine wp_region_quiet_low (by assumption) (by kernel_rfl) ?_
      repeat (first | go_big_quiet_skip | (go_big_quiet_want; go_big_quiet_op; go_big_quiet_on))
      refine wpQuiet_nil ?_
      intro _ hw'
      obtain ⟨p, hw''⟩ := hw'
      subst hw''
      have HP := Lib.hid p.low
      go_wp2
      go_ret
      exact ⟨rfl, HP.out⟩
  · have hqf : q = false := by
      rw [Bool.eq_false_iff]
      intro hqt
      exact hnn (HQ.out.1 hqt).1
    have hn0 := nat_ne hnn
    subst hqf
    clear hnn c0 c1 d0 d1
    go_enter Try.func13, Try.ntmps13
    go_upto_region 1 with (fail)
    refine wp_region_quiet_low (by assumption) (by kernel_rfl) ?_
    repeat (first | go_big_quiet_skip | (go_big_quiet_want; go_big_quiet_op; go_big_quiet_on))
    refine wpQuiet_nil ?_
    intro _ hw'
    obtain ⟨p, hw''⟩ := hw'
    subst hw''
    have HP := Lib.hid p.low
    go_wp2
    go_ret
    exact ⟨rfl, HP.out⟩
end Go.Proofs.Ytgclbeagifoifaa
