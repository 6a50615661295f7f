/- LockDrops returns true, whatever the numbers and the acts: the walk of its body. -/
import Derived.Test.Ytlpgpnbecebldaa7DoAny
import Derived.Test.Ytlpgpnbecebldaa7RMk
import Derived.Test.Ytlpgpnbecebldaa7Out
import Derived.Deep.LoopGhost
namespace Go.Proofs.Ytlpgpnbecebldaa
open Go.RowKit
set_option linter.unusedVariables false
theorem wants_drop {w : World} {g b : Nat} {s : Lk} {c : Int} (h : KAt w g b (dropT s c)) : Calls Try.prog 13 #[.pointer (some ⟨g, 0, none⟩), .int .i64 c] w fun e w' => e = .returned (.tuple #[.int .u64 0, .bool false]) ∧ Below w.heap.size w w' := by
  by_cases hc : isC s c = true
  · obtain ⟨k, rfl, hk⟩ := isC_of hc
    have := wants_any h (c := k) (by rw [dropT_n]; exact hk)
    rwa [drop_wt0 hk] at this
  · have e : isC (dropT s c) c = isC s c := by
      unfold isC
      rw [dropT_n]
    have hcf : isC (dropT s c) c = false := by
      rw [e]
      simpa using hc
    refine (wants_out h hcf).mono ?_
    rintro e w' ⟨rfl, rfl⟩
    exact ⟨rfl, Below.refl _ _⟩
theorem held_drop {w : World} {g b : Nat} {s : Lk} {c : Int} (h : KAt w g b (dropT s c)) : Calls Try.prog 14 #[.pointer (some ⟨g, 0, none⟩), .int .i64 c] w fun e w' => (∃ A cap, e = .returned (.slice A 0 cap)) ∧ Below w.heap.size w w' := by
  have hp : Calls Try.prog 14 #[.pointer (some ⟨g, 0, none⟩), .int .i64 c] w (HeldPost w []) := by
    by_cases hc : isC s c = true
    · obtain ⟨k, rfl, hk⟩ := isC_of hc
      exact held_any h (by rw [dropT_n]; exact hk) (drop_none hk)
    · refine held_out h fun id d hd => ?_
      have := (h.ok.hc id d hd).1
      rw [dropT_n] at this
      intro e
      subst e
      exact hc (isC_yes this)
  refine hp.mono ?_
  rintro e w' ⟨v, rfl, ho, hb⟩
  rcases ho.2 with ⟨rfl, _⟩ | ⟨g', cap, cur, rfl, _⟩
  · exact ⟨⟨none, 0, rfl⟩, hb⟩
  · exact ⟨⟨_, cap, rfl⟩, hb⟩
set_option maxRecDepth 100000 in
set_option maxHeartbeats 8000000 in
theorem lockDrops_in {w : World} {A : Option Addr} {n cap N : Nat} {l : List Ac} (hA : 0 < l.length → ∃ ga, A = some ga ∧ ActsAt w ga l) (hl : l.length = n) (h60 : n ≤ 60) (hcap : n ≤ cap) (h1 : 1 ≤ N) (h8 : N ≤ 8) (c : Int) : Calls Try.prog 4 #[.int .i64 (N : Int), .slice A n cap, .int .i64 c] w fun e w' => e = .returned (.bool true) ∧ Below w.heap.size w w' := by
  have d1 : decide (60 < (n : Int)) = false := by simp; omega
  have d2 : decide (8 < (N : Int)) = false := by simp; omega
  have d3 : decide ((N : Int) < 1) = false := by simp; omega
  have HA := Lib.hid hA
  have HL := Lib.hid hl
  clear hA hl
  go_enter Try.func4, Try.ntmps4
  go_wp2_with fail
  refine (knew_yes (n := N) w h1 (by omega)).mono ?_
  rintro e w1 ⟨g, b, rfl, hK, hg, hb, hB⟩
  have HK1 := Lib.hid hK
  go_wp2_with fail
  refine (rNew_yes (n := N) w1 h1 (by omega)).mono ?_
  rintro e w2 ⟨gr, vW, rfl, hR, hgr, hB2⟩
  have HD := Lib.hid (show DSt w w2 g b gr N 0 (lk0 N) (.slice none 0 0) vW from
    ⟨HK1.out.below hB2, ⟨[], _, ⟨hR.row, own2_mono hR.li hB.size, ⟨hR.wa.1, by
      rcases hR.wa.2 with h0 | ⟨g', cap', cur, rfl, hg', hr⟩
      · exact .inl h0
      · exact .inr ⟨g', cap', cur, rfl, Nat.le_trans hB.size hg', hr⟩⟩⟩, RefIs.nil N, by simp, by simp⟩, rfl, Nat.le_refl _, hg, hb, Nat.le_trans hB.size hgr, Below.and hB hB2⟩)
  clear hK hg hb hB hR hgr hB2 HK1
  go_wp2_with fail
  go_loopw [7, 11] (fun t v wr => ∃ (i g b : Nat) (s : Lk) (vL : Value), t = .pointer (some ⟨g, 0, none⟩) ∧ v = .int .i64 (i : Int) ∧ i ≤ n ∧ DSt w wr g b gr N i s vL vW) (fun _ v _ => n - (intOf v).toNat)
  case atStart => exact ⟨0, g, b, lk0 N, _, rfl, rfl, by omega, HD.out⟩
  case round =>
    rename World => wr
    obtain ⟨i, g, b, s, vL, rfl, rfl, hin, hD⟩ := hrel
    have HD1 := Lib.hid hD
    clear hD
    by_cases hlt : i < n
    · obtain ⟨ga, rfl, hAt⟩ := HA.out (by rw [HL.out]; omega)
      have hAt' := hAt.below HD1.out.bel
      have c0 := hAt'.c0 i (by rw [HL.out]; exact hlt)
      have c1 := hAt'.c1 i (by rw [HL.out]; exact hlt)
      have c2 := hAt'.c2 i (by rw [HL.out]; exact hlt)
      have hfit := hAt'.fit i (by rw [HL.out]; exact hlt)
      generalize (acAt l i).id = id at *
      generalize (acAt l i).c = ac at *
      generalize (acAt l i).k = ak at *
      have HDO := Lib.hid (do7_any HD1.out (by omega) ak ac hfit)
      clear hAt hAt' hfit
      go_wp2_with fail
      refine HDO.out.mono ?_
      rintro e w3 ⟨g', b', s', vL', rfl, hD3⟩
      have HD3 := Lib.hid hD3
      clear hD3 c0 c1 c2
      go_wp2
      exact ⟨⟨i + 1, g', b', s', vL', rfl, by go_num, by omega, HD3.out⟩, by simp [intOf]; omega⟩
    · obtain rfl : i = n := by omega
      have HC := Lib.hid (copy_any HD1.out.k)
      go_wp2_with fail
      refine HC.out.mono ?_
      rintro e w3 ⟨g', b', rfl, ho⟩
      have HO := Lib.hid ho
      have HDr := Lib.hid (drop_all (HD1.out.k.below ho.bel) c)
      clear ho
      go_wp2_with fail
      refine HDr.out.mono ?_
      rintro e w4 ⟨rfl, hk4, hb4⟩
      have hp4 : KAt w4 g' b' s := HO.out.at_.but hb4 (by
        have h1 := HD1.out.k.row.lt
        have h2 := HD1.out.k.mp.lt
        have h3 := HO.out.lg
        rintro (e | e) <;> omega) (by
        have h1 := HD1.out.k.row.lt
        have h2 := HD1.out.k.mp.lt
        have h3 := HO.out.lb
        rintro (e | e) <;> omega)
      have hB4 : Below w.heap.size w w4 := Below.trans (Below.and HD1.out.bel HO.out.bel) (hb4.below (Nat.le_trans HD1.out.bel.size HO.out.bel.size) (fun k hk => HD1.out.fp k (.inl hk)))
      have HP := Lib.hid (fun W (hb : Below w4.heap.size w4 W) => (show KAt W g' b' s ∧ KAt W g b (dropT s c) ∧ Below w.heap.size w W from ⟨hp4.below hb, hk4.below hb, Below.and hB4 hb⟩))
      have HW := Lib.hid (wants_drop hk4)
      have HN := Lib.hid HD1.out.sn
      clear hk4 hb4 hp4 hB4 HC HDr HO HD1
      go_wp2_with fail
      refine HW.out.mono ?_
      rintro e w5 ⟨rfl, hb5⟩
      have HB5 := Lib.hid hb5
      have HH := Lib.hid (held_drop (HP.out _ hb5).2.1)
      clear hb5 HW
      go_wp2_with fail
      refine HH.out.mono ?_
      rintro e w6 ⟨⟨A6, c6, rfl⟩, hb6⟩
      have HB6 := Lib.hid (Below.and HB5.out hb6)
      clear hb6 HH HB5
      go_wp2_with fail
      go_loopw [17] (fun v wx => ∃ j : Nat, v = .int .i64 (j : Int) ∧ j ≤ N ∧ Below w4.heap.size w4 wx) (fun v _ => N - (intOf v).toNat)
      case atStart => exact ⟨0, rfl, Nat.zero_le _, HB6.out⟩
      case round =>
        rename World => wx
        obtain ⟨j, rfl, hjN, hbx⟩ := hrel
        have HBX := Lib.hid hbx
        clear hbx
        by_cases hjl : j < N
        · have HW1 := Lib.hid (fun W (hb : Below w4.heap.size w4 W) => wants_any (HP.out W hb).2.1 (c := j) (by rw [dropT_n, HN.out]; exact hjl))
          have HW2 := Lib.hid (fun W (hb : Below w4.heap.size w4 W) => wants_any (HP.out W hb).1 (c := j) (by rw [HN.out]; exact hjl))
          by_cases hjc : (j : Int) = c
          · have hne : ((j : Int) != c) = false := by simp [hjc]
            obtain ⟨x1, hx1⟩ : ∃ x1, x1 = (dropT s c).wt j := ⟨_, rfl⟩
            obtain ⟨x2, hx2⟩ : ∃ x2, x2 = s.wt j := ⟨_, rfl⟩
            rw [← hx1] at HW1
            rw [← hx2] at HW2
            clear hx1 hx2 hjc
            go_wp2_with fail
            refine (HW1.out _ HBX.out).mono ?_
            rintro e w7 ⟨rfl, hb7⟩
            have HB7 := Lib.hid (Below.and HBX.out hb7)
            clear hb7
            go_wp2_with fail
            refine (HW2.out _ HB7.out).mono ?_
            rintro e w8 ⟨rfl, hb8⟩
            have HB8 := Lib.hid (Below.and HB7.out hb8)
            clear hb8
            go_wp2
            exact ⟨⟨j + 1, by go_num, by omega, HB8.out⟩, by simp [intOf]; omega⟩
          · have hne : ((j : Int) != c) = true := by simpa using hjc
            obtain ⟨xs, hxs⟩ := held_ex (HP.out w4 (Below.refl _ _)).1.ok j
            have HH1 := Lib.hid (fun W (hb : Below w4.heap.size w4 W) => held_any (HP.out W hb).2.1 (c := j) (by rw [dropT_n, HN.out]; exact hjl) (drop_held hjc hxs))
            have HH2 := Lib.hid (fun W (hb : Below w4.heap.size w4 W) => held_any (HP.out W hb).1 (c := j) (by rw [HN.out]; exact hjl) hxs)
            rw [drop_wt hjc] at HW1
            obtain ⟨x2, hx2⟩ : ∃ x2, x2 = s.wt j := ⟨_, rfl⟩
            rw [← hx2] at HW1 HW2
            have q1 : ((x2 : Int) != (x2 : Int)) = false := by simp
            clear hx2 hxs hjc
            go_wp2_with fail
            refine (HW1.out _ HBX.out).mono ?_
            rintro e w7 ⟨rfl, hb7⟩
            have HB7 := Lib.hid (Below.and HBX.out hb7)
            clear hb7
            go_wp2_with fail
            refine (HW2.out _ HB7.out).mono ?_
            rintro e w8 ⟨rfl, hb8⟩
            have HB8 := Lib.hid (Below.and HB7.out hb8)
            clear hb8
            go_wp2_with fail
            refine (HH1.out _ HB8.out).mono ?_
            rintro e w9 ⟨v9, rfl, ho9, hb9⟩
            have HL9 := Lib.hid (AdrL.own ho9)
            have HN9 := Lib.hid (own_lenA ho9)
            have HB9 := Lib.hid (Below.and HB8.out hb9)
            clear hb9 ho9
            go_wp2_with fail
            refine (HH2.out _ HB9.out).mono ?_
            rintro e w10 ⟨v10, rfl, ho10, hb10⟩
            have HS := Lib.hid (r5Same_yes (HL9.out.below hb10) (AdrL.own ho10) HN9.out)
            have HB10 := Lib.hid (Below.and HB9.out hb10)
            clear hb10 ho10
            go_wp2_with fail
            refine HS.out.mono ?_
            rintro e w11 ⟨rfl, hb11⟩
            have HB11 := Lib.hid (Below.and HB10.out hb11)
            clear hb11
            go_wp2
            exact ⟨⟨j + 1, by go_num, by omega, HB11.out⟩, by simp [intOf]; omega⟩
        · obtain rfl : j = N := by omega
          have HK := Lib.hid (known7_any wx)
          go_wp2_with fail
          refine HK.out.mono ?_
          rintro e w7 ⟨rfl, hb7⟩
          have HFIN := Lib.hid (HP.out _ (Below.and HBX.out hb7)).2.2
          clear hb7
          go_wp2
          go_ret
          exact ⟨rfl, HFIN.out⟩
set_option maxRecDepth 100000 in
set_option maxHeartbeats 4000000 in
theorem lockDrops_no (z c : Int) (A : Option Addr) (n cap : Nat) (w : World) (hn : n ≤ maxLen) (h : 60 < n ∨ z < 1 ∨ 8 < z) : Calls Try.prog 4 #[.int .i64 z, .slice A n cap, .int .i64 c] w fun e w' => e = .returned (.bool true) ∧ Below w.heap.size w w' := by
  have HKn := Lib.hid (known7_any w)
  have main : ∀ (p q r : Bool), decide (60 < (n : Int)) = p → decide (z < 1) = q → decide (8 < z) = r → (p = true ∨ q = true ∨ r = true) → Calls Try.prog 4 #[.int .i64 z, .slice A n cap, .int .i64 c] w fun e w' => e = .returned (.bool true) ∧ Below w.heap.size w w' := by
    intro p q r hp hq hr hpq
    clear h
    cases p <;> cases q <;> cases r <;> simp at hpq
    all_goals
      go_enter Try.func4, Try.ntmps4
      go_wp2_with fail
      refine HKn.out.mono ?_
      rintro e w2 ⟨rfl, hb⟩
      have HB2 := Lib.hid hb
      clear hb
      go_wp2
      go_ret
      exact ⟨rfl, HB2.out⟩
  exact main _ _ _ rfl rfl rfl (by simp; omega)
theorem lockDrops_walk (z : Int) (A : Option Addr) (n cap : Nat) (l : List Ac) (c : Int) (W : World) (w0 : (Lit.int .i64 z).wf = true) (w1 : ActsIn W A n cap l) (w2 : (Lit.int .i64 c).wf = true) : Calls Try.prog 4 #[.int .i64 z, .slice A n cap, .int .i64 c] W fun e w' => e = .returned (.bool true) ∧ Below W.heap.size W w' := by
  obtain ⟨hl, hc, hm, hA⟩ := w1
  by_cases h1 : 60 < n ∨ z < 1 ∨ 8 < z
  · exact lockDrops_no z c A n cap W hm h1
  · obtain ⟨N, rfl⟩ : ∃ N : Nat, z = (N : Int) := ⟨z.toNat, by omega⟩
    exact lockDrops_in hA hl (by omega) hc (by omega) (by omega) c
end Go.Proofs.Ytlpgpnbecebldaa
