/- Texts of this claim, packed: 7LCopies. -/
import Derived.Test.YtgclbeagifoifaaPc46
/- LockCopies returns true, whatever the number and the acts: the walk of its body. -/
namespace Go.Proofs.Ytgclbeagifoifaa
open Go.RowKit
set_option linter.unusedVariables false
/-- Two pairs in one memory, apart. -/
structure TwoT (w0 w : World) (g b gr n m : Nat) (s : Lk) (vL vW : Value) (g2 b2 gr2 n2 m2 : Nat) (s2 : Lk) (vL2 vW2 : Value) : Prop where
  d1 : DSt w0 w g b gr n m s vL vW
  d2 : DSt w0 w g2 b2 gr2 n2 m2 s2 vL2 vW2
  ap : ∀ k, pfp g b gr vL vW k → ¬ pfp g2 b2 gr2 vL2 vW2 k
section
variable {w0 w w' : World} {g b gr n m g2 b2 gr2 n2 m2 : Nat} {s s2 : Lk} {vL vW vL2 vW2 : Value}
theorem TwoT.swap (h : TwoT w0 w g b gr n m s vL vW g2 b2 gr2 n2 m2 s2 vL2 vW2) : TwoT w0 w g2 b2 gr2 n2 m2 s2 vL2 vW2 g b gr n m s vL vW :=
  ⟨h.d2, h.d1, fun k h2 h1 => h.ap k h1 h2⟩
theorem TwoT.below (h : TwoT w0 w g b gr n m s vL vW g2 b2 gr2 n2 m2 s2 vL2 vW2) (hb : Below w.heap.size w w') : TwoT w0 w' g b gr n m s vL vW g2 b2 gr2 n2 m2 s2 vL2 vW2 :=
  ⟨h.d1.below hb, h.d2.below hb, h.ap⟩
theorem TwoT.step {e : Ending} (h : TwoT w0 w g b gr n m s vL vW g2 b2 gr2 n2 m2 s2 vL2 vW2) (hd : DoFr w0 w g b gr n m vL vW e w') :
    ∃ g' b' s' vL', e = .returned (.tuple #[.pointer (some ⟨g', 0, none⟩), .bool true]) ∧ TwoT w0 w' g' b' gr n (m + 1) s' vL' vW g2 b2 gr2 n2 m2 s2 vL2 vW2 := by
  obtain ⟨g', b', s', vL', rfl, hD, hb, hf⟩ := hd
  refine ⟨g', b', s', vL', rfl, hD, h.d2.apart hb hD.bel h.ap, fun k hk h2 => ?_⟩
  rcases hf k hk with h3 | h3
  · exact h.ap k h3 h2
  · have := h.d2.lt k h2
    omega
end
theorem two_copy {w0 w w3 w4 : World} {g b gr n m g2 b2 gr2 : Nat} {s : Lk} {vL vW vL2 vW2 : Value} (h : DSt w0 w g b gr n m s vL vW) (ho : OwnK w w3 g2 b2 s) (hr : RIs w4 w3.heap.size gr2 s m vL2 vW2) (hg : w3.heap.size ≤ gr2) (hb : Below w3.heap.size w3 w4) :
    TwoT w0 w4 g b gr n m s vL vW g2 b2 gr2 n m s vL2 vW2 := by
  have hs := h.bel.size
  have h3 := ho.bel.size
  have hlg := ho.lg
  have hlb := ho.lb
  refine ⟨(h.below ho.bel).below hb, ⟨ho.at_.below hb, hr.mono (by omega), h.sn, h.sz, by omega, by omega, by omega, Below.and (Below.and h.bel ho.bel) hb⟩, fun k hk h2 => ?_⟩
  have hlt := h.lt k hk
  rcases h2 with (rfl | rfl) | h2
  · omega
  · omega
  · have := (hr.from_ hg k h2).1
    omega
set_option maxRecDepth 100000 in
set_option maxHeartbeats 8000000 in
theorem lockCopies_in {w : World} {A A2 A3 : Option Addr} {n cap n2 cap2 n3 cap3 N : Nat} {l l2 l3 : List Ac} (hA : 0 < l.length → ∃ ga, A = some ga ∧ ActsAt w ga l) (hl : l.length = n) (h60 : n ≤ 60) (hcap : n ≤ cap)
    (hA2 : 0 < l2.length → ∃ ga, A2 = some ga ∧ ActsAt w ga l2) (hl2 : l2.length = n2) (h20 : n2 ≤ 20) (hcap2 : n2 ≤ cap2) (hA3 : 0 < l3.length → ∃ ga, A3 = some ga ∧ ActsAt w ga l3) (hl3 : l3.length = n3) (h30 : n3 ≤ 20) (hcap3 : n3 ≤ cap3)
    (h1 : 1 ≤ N) (h8 : N ≤ 8) : Calls Try.prog 4 #[.int .i64 (N : Int), .slice A n cap, .slice A2 n2 cap2, .slice A3 n3 cap3] w fun e w' => e = .returned (.bool true) ∧ Below w.heap.size w w' := by
  have d1 : decide (60 < (n : Int)) = false := by simp; omega
  have d2 : decide (20 < (n2 : Int)) = false := by simp; omega
  have d3 : decide (20 < (n3 : Int)) = false := by simp; omega
  have d4 : decide ((N : Int) < 1) = false := by simp; omega
  have d5 : decide (8 < (N : Int)) = false := by simp; omega
  have HA := Lib.hid (And.intro hA hl)
  have HA2 := Lib.hid (And.intro hA2 hl2)
  have HA3 := Lib.hid (And.intro hA3 hl3)
  clear hA hl hA2 hl2 hA3 hl3
  go_enter Try.func4, Try.ntmps4
  go_wp2_with fail
  refine (knew_yes (n := N) w h1 (by omega)).mono ?_
  rintro e w1 ⟨g, b, rfl, hK, hg, hb, hB⟩
  have HK1 := Lib.hid (And.intro hK (And.intro hg (And.intro hb hB)))
  clear hK hg hb hB
  go_wp2_with fail
  refine (rNew_yes (n := N) w1 h1 (by omega)).mono ?_
  rintro e w2 ⟨gr, vW, rfl, hR, hgr, hB2⟩
  have HD := Lib.hid (new7 HK1.out.1 HK1.out.2.1 HK1.out.2.2.1 HK1.out.2.2.2 hR hgr hB2)
  clear hR hgr hB2 HK1
  go_wp2_with fail
  go_loopw [9, 13] (fun t v wr => ∃ (i g b : Nat) (s : Lk) (vL : Value), t = .pointer (some ⟨g, 0, none⟩) ∧ v = .int .i64 (i : Int) ∧ i ≤ n ∧ DSt w wr g b gr N i s vL vW) (fun _ v _ => n - (intOf v).toNat)
  case atStart => exact ⟨0, g, b, lk0 N, _, rfl, rfl, by omega, HD.out⟩
  case round =>
    rename World => wr
    obtain ⟨i, g, b, s, vL, rfl, rfl, hin, hD⟩ := hrel
    have HD1 := Lib.hid hD
    clear hD
    by_cases hlt : i < n
    · obtain ⟨ga, rfl, hAt⟩ := HA.out.1 (by rw [HA.out.2]; omega)
      have hAt' := hAt.below HD1.out.bel
      have c0 := hAt'.c0 i (by rw [HA.out.2]; exact hlt)
      have c1 := hAt'.c1 i (by rw [HA.out.2]; exact hlt)
      have c2 := hAt'.c2 i (by rw [HA.out.2]; exact hlt)
      have hfit := hAt'.fit i (by rw [HA.out.2]; exact hlt)
      generalize (acAt l i).id = id at *
      generalize (acAt l i).c = ac at *
      generalize (acAt l i).k = ak at *
      have HDO := Lib.hid (do7_any HD1.out (by omega) ak ac hfit)
      clear hAt hAt' hfit
      go_wp2_with fail
      refine HDO.out.mono ?_
      rintro e w3 ⟨g', b', s', vL', rfl, hD3⟩
      have HD3 := Lib.hid hD3
      clear hD3 c0 c1 c2
      go_wp2
      exact ⟨⟨i + 1, g', b', s', vL', rfl, by go_num, by omega, HD3.out⟩, by simp [intOf]; omega⟩
    · obtain rfl : i = n := by omega
      have hii : decide ((i : Int) < (i : Int)) = false := by simp
      have HC := Lib.hid (copy_any HD1.out.k)
      go_wp2_with fail
      refine HC.out.mono ?_
      rintro e w3 ⟨g2, b2, rfl, ho⟩
      have HO := Lib.hid ho
      have HRC := Lib.hid (rCopy_all (HD1.out.r.below ho.bel) HD1.out.k.ok (by omega))
      clear ho HC
      go_wp2_with fail
      refine HRC.out.mono ?_
      rintro e w4 ⟨gr2, vL2, vW2, rfl, hr4, hg4, hb4⟩
      have HT := Lib.hid (two_copy HD1.out HO.out hr4 hg4 hb4)
      have HSM := Lib.hid (ksame_all HT.out.d2 HT.out.d1 (q := true) ⟨fun _ => ⟨rfl, rfl, rfl⟩, fun _ => rfl⟩)
      clear hr4 hg4 hb4 HRC HO HD1
      go_wp2_with fail
      refine HSM.out.mono ?_
      rintro e w5 ⟨rfl, hb5⟩
      have HT5 := Lib.hid (HT.out.below hb5)
      clear hb5 HSM HT
      go_wp2
      go_loopw [9, 18] (fun t v wx => ∃ (j g b : Nat) (s' : Lk) (vL : Value), t = .pointer (some ⟨g, 0, none⟩) ∧ v = .int .i64 (j : Int) ∧ j ≤ n2 ∧ TwoT w wx g b gr N (i + j) s' vL vW g2 b2 gr2 N i s vL2 vW2) (fun _ v _ => n2 - (intOf v).toNat)
      case atStart => exact ⟨0, g, b, s, vL, rfl, rfl, by omega, HT5.out⟩
      case round =>
        rename World => wx
        obtain ⟨j, g, b, s', vL, rfl, rfl, hjn, hT⟩ := hrel
        have HT := Lib.hid hT
        clear hT
        by_cases hlt : j < n2
        · obtain ⟨ga, rfl, hAt⟩ := HA2.out.1 (by rw [HA2.out.2]; omega)
          have hAt' := hAt.below HT.out.d1.bel
          have c0 := hAt'.c0 j (by rw [HA2.out.2]; exact hlt)
          have c1 := hAt'.c1 j (by rw [HA2.out.2]; exact hlt)
          have c2 := hAt'.c2 j (by rw [HA2.out.2]; exact hlt)
          have hfit := hAt'.fit j (by rw [HA2.out.2]; exact hlt)
          generalize (acAt l2 j).id = id at *
          generalize (acAt l2 j).c = ac at *
          generalize (acAt l2 j).k = ak at *
          have HDO := Lib.hid (do7_fr HT.out.d1 (by omega) ak ac hfit)
          clear hAt hAt' hfit
          go_wp2_with fail
          refine HDO.out.mono ?_
          intro e w6 hd6
          obtain ⟨g', b', s'', vL', rfl, hT6⟩ := HT.out.step hd6
          have HT6 := Lib.hid hT6
          clear hT6 hd6 c0 c1 c2
          go_wp2
          exact ⟨⟨j + 1, g', b', s'', vL', rfl, by go_num, by omega, HT6.out⟩, by simp [intOf]; omega⟩
        · obtain rfl : j = n2 := by omega
          have hjj : decide ((j : Int) < (j : Int)) = false := by simp
          have HS := Lib.hid (same7_any HT.out.d2.k HT.out.d2.r (by omega))
          go_wp2_with fail
          refine HS.out.mono ?_
          rintro e w6 ⟨rfl, hb6⟩
          have HT6 := Lib.hid (HT.out.below hb6)
          clear hb6 HS HT HT5
          go_wp2
          go_loopw [16, 21] (fun t v wy => ∃ (k g2 b2 : Nat) (s2 : Lk) (vL2 : Value), t = .pointer (some ⟨g2, 0, none⟩) ∧ v = .int .i64 (k : Int) ∧ k ≤ n3 ∧ TwoT w wy g b gr N (i + j) s' vL vW g2 b2 gr2 N (i + k) s2 vL2 vW2) (fun _ v _ => n3 - (intOf v).toNat)
          case atStart => exact ⟨0, g2, b2, s, vL2, rfl, rfl, by omega, HT6.out⟩
          case round =>
            rename World => wy
            obtain ⟨k, g2, b2, s2, vL2, rfl, rfl, hkn, hT⟩ := hrel
            have HT := Lib.hid hT
            clear hT
            by_cases hlt : k < n3
            · obtain ⟨ga, rfl, hAt⟩ := HA3.out.1 (by rw [HA3.out.2]; omega)
              have hAt' := hAt.below HT.out.d1.bel
              have c0 := hAt'.c0 k (by rw [HA3.out.2]; exact hlt)
              have c1 := hAt'.c1 k (by rw [HA3.out.2]; exact hlt)
              have c2 := hAt'.c2 k (by rw [HA3.out.2]; exact hlt)
              have hfit := hAt'.fit k (by rw [HA3.out.2]; exact hlt)
              generalize (acAt l3 k).id = id at *
              generalize (acAt l3 k).c = ac at *
              generalize (acAt l3 k).k = ak at *
              have HDO := Lib.hid (do7_fr HT.out.d2 (by omega) ak ac hfit)
              clear hAt hAt' hfit
              go_wp2_with fail
              refine HDO.out.mono ?_
              intro e w7 hd7
              obtain ⟨g', b', s'', vL', rfl, hT7⟩ := HT.out.swap.step hd7
              have HT7 := Lib.hid hT7.swap
              clear hT7 hd7 c0 c1 c2
              go_wp2
              exact ⟨⟨k + 1, g', b', s'', vL', rfl, by go_num, by omega, HT7.out⟩, by simp [intOf]; omega⟩
            · obtain rfl : k = n3 := by omega
              have hkk : decide ((k : Int) < (k : Int)) = false := by simp
              obtain ⟨q, hq⟩ : ∃ q : Bool, q = true ↔ AlikeK s' s2 := ⟨@decide (AlikeK s' s2) (Classical.propDecidable _), by simp⟩
              have HQ := Lib.hid hq
              have HQ2 := Lib.hid (show q = true ↔ AlikeK s2 s' from hq.trans ⟨fun h => ⟨h.1.symm, h.2.1.symm, h.2.2.symm⟩, fun h => ⟨h.1.symm, h.2.1.symm, h.2.2.symm⟩⟩)
              have HRS := Lib.hid (rSame_all HT.out.d1.r HT.out.d2.r HT.out.d1.k.ok HT.out.d2.k.ok hq)
              have hqq : (q == q) = true := by simp
              clear hq
              go_wp2_with fail
              refine HRS.out.mono ?_
              rintro e w8 ⟨rfl, hb8⟩
              have HT8 := Lib.hid (HT.out.below hb8)
              have HS := Lib.hid (same7_any HT8.out.d1.k HT8.out.d1.r (by omega))
              clear hb8 HRS HT
              go_wp2_with fail
              refine HS.out.mono ?_
              rintro e w9 ⟨rfl, hb9⟩
              have HT9 := Lib.hid (HT8.out.below hb9)
              have HM1 := Lib.hid (ksame_all HT9.out.d1 HT9.out.d2 HQ.out)
              clear hb9 HS HT8
              go_wp2_with fail
              refine HM1.out.mono ?_
              rintro e w10 ⟨rfl, hb10⟩
              have HT10 := Lib.hid (HT9.out.below hb10)
              have HM2 := Lib.hid (ksame_all HT10.out.d2 HT10.out.d1 HQ2.out)
              clear hb10 HM1 HT9
              go_wp2_with fail
              refine HM2.out.mono ?_
              rintro e w11 ⟨rfl, hb11⟩
              have HT11 := Lib.hid (HT10.out.below hb11)
              have HK := Lib.hid (known7_any w11)
              clear hb11 HM2 HT10
              go_wp2_with fail
              refine HK.out.mono ?_
              rintro e w12 ⟨rfl, hb12⟩
              have HFIN := Lib.hid (HT11.out.below hb12).d1.bel
              clear hb12
              go_wp2
              go_ret
              exact ⟨rfl, HFIN.out⟩
set_option maxRecDepth 100000 in
set_option maxHeartbeats 4000000 in
theorem lockCopies_no (z : Int) (A A2 A3 : Option Addr) (n cap n2 cap2 n3 cap3 : Nat) (w : World) (hn : n ≤ maxLen) (hn2 : n2 ≤ maxLen) (hn3 : n3 ≤ maxLen) (h : 60 < n ∨ 20 < n2 ∨ 20 < n3 ∨ z < 1 ∨ 8 < z) : Calls Try.prog 4 #[.int .i64 z, .slice A n cap, .slice A2 n2 cap2, .slice A3 n3 cap3] w fun e w' => e = .returned (.bool true) ∧ Below w.heap.size w w' := by
  have HKn := Lib.hid (known7_any w)
  have main : ∀ (p1 p2 p3 q r : Bool), decide (60 < (n : Int)) = p1 → decide (20 < (n2 : Int)) = p2 → decide (20 < (n3 : Int)) = p3 → decide (z < 1) = q → decide (8 < z) = r → (p1 = true ∨ p2 = true ∨ p3 = true ∨ q = true ∨ r = true) → Calls Try.prog 4 #[.int .i64 z, .slice A n cap, .slice A2 n2 cap2, .slice A3 n3 cap3] w fun e w' => e = .returned (.bool true) ∧ Below w.heap.size w w' := by
    intro p1 p2 p3 q r hp1 hp2 hp3 hq hr hpq
    clear h
    cases p1 <;> cases p2 <;> cases p3 <;> cases q <;> cases r <;> simp at hpq
    all_goals
      go_enter Try.func4, Try.ntmps4
      go_wp2_with fail
      refine HKn.out.mono ?_
      rintro e w2 ⟨rfl, hb⟩
      have HB2 := Lib.hid hb
      clear hb
      go_wp2
      go_ret
      exact ⟨rfl, HB2.out⟩
  exact main _ _ _ _ _ rfl rfl rfl rfl rfl (by simp; omega)
theorem lockCopies_walk (z : Int) (A : Option Addr) (n cap : Nat) (l : List Ac) (A2 : Option Addr) (n2 cap2 : Nat) (l2 : List Ac) (A3 : Option Addr) (n3 cap3 : Nat) (l3 : List Ac) (W : World) (w0 : (Lit.int .i64 z).wf = true) (w1 : ActsIn W A n cap l) (w2 : ActsIn W A2 n2 cap2 l2) (w3 : ActsIn W A3 n3 cap3 l3) :
    Calls Try.prog 4 #[.int .i64 z, .slice A n cap, .slice A2 n2 cap2, .slice A3 n3 cap3] W fun e w' => e = .returned (.bool true) ∧ Below W.heap.size W w' := by
  obtain ⟨hl, hc, hm, hA⟩ := w1
  obtain ⟨hl2, hc2, hm2, hA2⟩ := w2
  obtain ⟨hl3, hc3, hm3, hA3⟩ := w3
  by_cases h1 : 60 < n ∨ 20 < n2 ∨ 20 < n3 ∨ z < 1 ∨ 8 < z
  · exact lockCopies_no z A A2 A3 n cap n2 cap2 n3 cap3 W hm hm2 hm3 h1
  · obtain ⟨N, rfl⟩ : ∃ N : Nat, z = (N : Int) := ⟨z.toNat, by omega⟩
    exact lockCopies_in hA hl (by omega) hc hA2 hl2 (by omega) hc2 hA3 hl3 (by omega) hc3 (by omega) (by omega)
end Go.Proofs.Ytgclbeagifoifaa
