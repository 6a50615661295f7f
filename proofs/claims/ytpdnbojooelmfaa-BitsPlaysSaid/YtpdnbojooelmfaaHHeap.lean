/- container/heap's Push, Pop and Remove over a set's list: what each answers, and which list it leaves; for lists of at most 10^9 addresses, and places within. -/
import Derived.Test.YtpdnbojooelmfaaHDown
namespace Go.Proofs.Ytpdnbojooelmfaa
open Go.RowKit
set_option linter.unusedVariables false
theorem Sw.turn {w0 w : World} {g h off cap n : Nat} {d : List Nat} (s : Sw w0 w g h off cap n d) : FTurn w0 w g (.slice (some ⟨h, off, none⟩) n cap) (.slice (some ⟨h, off, none⟩) n cap) :=
  ⟨s.2.2.mono (fun k hk => .inr (by rw [hk]; rfl)), fun _ hk => .inl hk⟩
/-- What a call leaves: a set that reads as l, all else as it was. -/
def HLeft (w : World) (g : Nat) (v : Value) (l : List Nat) (w' : World) : Prop := ∃ v', FreeAt w' g v' l ∧ FTurn w w' g v v'
set_option maxRecDepth 100000 in
set_option maxHeartbeats 1000000 in
theorem hPush_any {w : World} {g : Nat} {v : Value} {l : List Nat} (hF : FreeAt w g v l) (hl : l.length ≤ 1000000000) (x : Nat) :
    Calls Try.prog 26 #[.iface 55 (.pointer (some ⟨g, 0, none⟩)), .iface 32 (wv x)] w fun e w' => e = .returned (.tuple #[]) ∧ HLeft w g v (upF (l ++ [x]) l.length) w' := by
  have HP := Lib.hid (sPush_any hF hl x)
  have mP : (method 213 55 (.pointer (some ⟨g, 0, none⟩)) "Push").run Try.prog w = .ok (80, .pointer (some ⟨g, 0, none⟩)) w := m_own mrPush g w
  have HL := Lib.hid hl
  clear hF hl
  go_enter Try.func26, Try.ntmps26
  go_wp2_with fail
  refine HP.out.mono ?_
  rintro e w1 ⟨rfl, v1, hF1, hT1⟩
  obtain ⟨h, off, cap, rfl, hc, hm⟩ := hF1.2.1.pos (by simp)
  have mL : (method 213 55 (.pointer (some ⟨g, 0, none⟩)) "Len").run Try.prog w1 = .ok (76, .slice (some ⟨h, off, none⟩) (l ++ [x]).length cap) w1 := m_of mrLen hF1.cell
  have HLen := Lib.hid (sLen_any hF1.2.1)
  have HUp := Lib.hid (hup_any (j := l.length) hF1 rfl (by have := HL.out; simp; omega) (by simp))
  have HT1 := Lib.hid hT1
  clear hT1 hF1 hc hm
  have e1 : (((l ++ [x]).length : Nat) : Int) - 1 = (l.length : Int) := by simp
  obtain ⟨n, hn⟩ : ∃ n, n = (l ++ [x]).length := ⟨_, rfl⟩
  have hn1 : n = l.length + 1 := by rw [hn]; simp
  have hn2 : n ≤ 1000000001 := by have := HL.out; omega
  rw [← hn] at mL HLen HUp e1
  have HN := Lib.hid hn
  clear hn
  obtain ⟨m, hm⟩ : ∃ m, m = l.length := ⟨_, rfl⟩
  rw [← hm] at HUp e1 hn1
  have HM := Lib.hid hm
  have HN1 := Lib.hid hn1
  clear hm hn1
  go_wp2_with fail
  refine HLen.out.mono ?_
  rintro e w2 ⟨rfl, rfl⟩
  go_wp2_with fail
  refine HUp.out.mono ?_
  rintro e w3 ⟨rfl, hs⟩
  have HS := Lib.hid hs
  clear hs
  go_wp2
  go_end0
  rw [← HM.out]
  rw [← HN.out] at HT1
  exact ⟨rfl, _, HS.out.1, HT1.out.trans HS.out.turn⟩
theorem popF_eq (l : List Nat) : popF l = (downF (swp l 0 (l.length - 1)) 0 (l.length - 1)).1 := rfl
set_option maxRecDepth 100000 in
set_option maxHeartbeats 1000000 in
theorem hPop_any {w : World} {g : Nat} {v : Value} {l : List Nat} (hF : FreeAt w g v l) (h0 : 0 < l.length) (hl : l.length ≤ 1000000001) :
    Calls Try.prog 27 #[.iface 55 (.pointer (some ⟨g, 0, none⟩))] w fun e w' => e = .returned (.iface 32 (wv (gd (popF l) (l.length - 1)))) ∧ HLeft w g v ((popF l).take (l.length - 1)) w' := by
  obtain ⟨h, off, cap, rfl, hc, hm⟩ := hF.2.1.pos h0
  obtain ⟨n, hn⟩ : ∃ n, n = l.length := ⟨_, rfl⟩
  obtain ⟨m, hm'⟩ : ∃ m, m = l.length - 1 := ⟨_, rfl⟩
  have hnm : n = m + 1 := by omega
  rw [popF_eq, ← hm']
  rw [← hn] at hF hl hc ⊢
  have e1 : (n : Int) - 1 = (m : Int) := by omega
  have mL : (method 213 55 (.pointer (some ⟨g, 0, none⟩)) "Len").run Try.prog w = .ok (76, .slice (some ⟨h, off, none⟩) n cap) w := m_of mrLen hF.cell
  have mS : (method 213 55 (.pointer (some ⟨g, 0, none⟩)) "Swap").run Try.prog w = .ok (78, .slice (some ⟨h, off, none⟩) n cap) w := m_of mrSwap hF.cell
  have HLen := Lib.hid (sLen_any hF.2.1)
  rw [← hn] at HLen
  have HSw := Lib.hid (sSwap_any (i := 0) (j := m) hF.2.1 hn (by omega) (by omega) (by omega))
  have HF := Lib.hid hF
  have HN := Lib.hid hn
  have hb : n ≤ 1000000001 := hl
  have HB := Lib.hid hnm
  clear hF hn hm' hl hc hm h0 hnm
  go_enter Try.func27, Try.ntmps27
  go_wp2_with fail
  refine HLen.out.mono ?_
  rintro e w1 ⟨rfl, rfl⟩
  go_wp2_with fail
  refine HSw.out.mono ?_
  rintro e w2 ⟨rfl, ha, hbt⟩
  have s0 : Sw w w g h off cap n l := ⟨HF.out, HN.out.symm, But.refl _ _⟩
  have s1 := s0.step ha ((swp_length _ _ _).trans HN.out.symm) hbt
  have HDn := Lib.hid (hdown_any (i0 := 0) (m := m) s1.1 s1.2.1 hb (Nat.zero_le _) (by have := HB.out; omega))
  have HT1 := Lib.hid s1.turn
  clear ha hbt s0 s1
  go_wp2_with fail
  refine HDn.out.mono ?_
  rintro e w3 ⟨rfl, hs⟩
  have mP : (method 213 55 (.pointer (some ⟨g, 0, none⟩)) "Pop").run Try.prog w3 = .ok (79, .pointer (some ⟨g, 0, none⟩)) w3 := m_own mrPop g w3
  have HPop := Lib.hid (sPop_any hs.1 (by rw [hs.2.1]; have := HB.out; omega) (by rw [hs.2.1]; exact hb))
  have em : (downF (swp l 0 m) 0 m).1.length - 1 = m := by rw [hs.2.1]; have := HB.out; omega
  rw [em] at HPop
  have HT2 := Lib.hid hs.turn
  clear hs em
  go_wp2_with fail
  refine HPop.out.mono ?_
  rintro e w4 ⟨rfl, v', hF', hT'⟩
  have HE := Lib.hid (show HLeft w g (.slice (some ⟨h, off, none⟩) n cap) ((downF (swp l 0 m) 0 m).1.take m) w4 from ⟨v', hF', (HT1.out.trans HT2.out).trans hT'⟩)
  clear hF' hT'
  go_wp2
  go_ret
  exact ⟨rfl, HE.out⟩
set_option maxRecDepth 100000 in
set_option maxHeartbeats 2000000 in
theorem hRemove_any {w : World} {g : Nat} {v : Value} {l : List Nat} (hF : FreeAt w g v l) {i : Nat} (hi : i < l.length) (hl : l.length ≤ 1000000001) :
    Calls Try.prog 29 #[.iface 55 (.pointer (some ⟨g, 0, none⟩)), .int .i64 (i : Int)] w fun e w' => e = .returned (.iface 32 (wv (gd (remF l i) (l.length - 1)))) ∧ HLeft w g v ((remF l i).take (l.length - 1)) w' := by
  obtain ⟨h, off, cap, rfl, hc, hm⟩ := hF.2.1.pos (Nat.lt_of_le_of_lt (Nat.zero_le _) hi)
  obtain ⟨n, hn⟩ : ∃ n, n = l.length := ⟨_, rfl⟩
  obtain ⟨m, hm'⟩ : ∃ m, m = l.length - 1 := ⟨_, rfl⟩
  have hnm : n = m + 1 := by omega
  have hrm : remF l i = if i = m then l else if i < (downF (swp l i m) i m).2 then (downF (swp l i m) i m).1 else upF (downF (swp l i m) i m).1 i := by unfold remF; rw [hm']
  rw [← hm']
  rw [← hn] at hF hl hc hi ⊢
  have e1 : (n : Int) - 1 = (m : Int) := by omega
  have mL : (method 213 55 (.pointer (some ⟨g, 0, none⟩)) "Len").run Try.prog w = .ok (76, .slice (some ⟨h, off, none⟩) n cap) w := m_of mrLen hF.cell
  have HLen := Lib.hid (sLen_any hF.2.1)
  rw [← hn] at HLen
  have s0 : Sw w w g h off cap n l := ⟨hF, hn.symm, But.refl _ _⟩
  have hb : n ≤ 1000000001 := hl
  have hpop : ∀ (W : World) (d : List Nat), Sw w W g h off cap n d → Calls Try.prog 79 #[.pointer (some ⟨g, 0, none⟩)] W fun e w' => e = .returned (.iface 32 (wv (gd d m))) ∧ HLeft w g (.slice (some ⟨h, off, none⟩) n cap) (d.take m) w' := by
    intro W d hs
    have := sPop_any hs.1 (by rw [hs.2.1]; omega) (by rw [hs.2.1]; exact hb)
    rw [hs.2.1, show n - 1 = m by omega] at this
    refine this.mono ?_
    rintro e w' ⟨he, v', hF', hT'⟩
    exact ⟨he, v', hF', hs.turn.trans hT'⟩
  have HPop := Lib.hid hpop
  clear hpop
  have HN := Lib.hid hn
  have HB := Lib.hid hnm
  have HS0 := Lib.hid s0
  have HI := Lib.hid hi
  by_cases him : i = m
  · rw [if_pos him] at hrm
    rw [hrm]
    have q0 : ((m : Int) != (m : Int)) = false := by simp
    subst him
    clear s0 hF hn hm' hl hc hm hnm hrm hi
    go_enter Try.func29, Try.ntmps29
    go_wp2_with fail
    refine HLen.out.mono ?_
    rintro e w1 ⟨rfl, rfl⟩
    have mP : (method 213 55 (.pointer (some ⟨g, 0, none⟩)) "Pop").run Try.prog w = .ok (79, .pointer (some ⟨g, 0, none⟩)) w := m_own mrPop g w
    go_wp2_with fail
    refine (HPop.out w l HS0.out).mono ?_
    rintro e w4 ⟨rfl, hL⟩
    have HE := Lib.hid hL
    clear hL
    go_wp2
    go_ret
    exact ⟨rfl, HE.out⟩
  · rw [if_neg him] at hrm
    have him' : i < m := by omega
    have q0 : ((m : Int) != (i : Int)) = true := by
      simp only [bne_iff_ne, ne_eq]; omega
    have mS : (method 213 55 (.pointer (some ⟨g, 0, none⟩)) "Swap").run Try.prog w = .ok (78, .slice (some ⟨h, off, none⟩) n cap) w := m_of mrSwap hF.cell
    have HSw := Lib.hid (sSwap_any (i := i) (j := m) hF.2.1 hn (by omega) (by omega) (by omega))
    have HR := Lib.hid hrm
    clear s0 hF hn hm' hl hc hm hnm hrm hi him
    go_enter Try.func29, Try.ntmps29
    go_wp2_with fail
    refine HLen.out.mono ?_
    rintro e w1 ⟨rfl, rfl⟩
    go_wp2_with fail
    refine HSw.out.mono ?_
    rintro e w2 ⟨rfl, ha, hbt⟩
    have s1 := HS0.out.step ha ((swp_length _ _ _).trans HN.out.symm) hbt
    have HDn := Lib.hid (hdown_any (i0 := i) (m := m) s1.1 s1.2.1 hb (Nat.le_of_lt him') (by have := HB.out; omega))
    have HS1 := Lib.hid s1
    clear ha hbt s1
    obtain ⟨d, hd⟩ : ∃ d, d = downF (swp l i m) i m := ⟨_, rfl⟩
    rw [← hd] at HDn HR
    clear hd
    by_cases hmv : i < d.2
    · have hmv' : decide (i < d.2) = true := decide_eq_true hmv
      have hR := HR.out
      rw [if_pos hmv] at hR
      have HR1 := Lib.hid hR
      clear hR HR
      go_wp2_with fail
      refine HDn.out.mono ?_
      rintro e w3 ⟨rfl, hs⟩
      have HS3 := Lib.hid (show Sw w w3 g h off cap n d.1 from ⟨hs.1, hs.2.1, HS1.out.2.2.trans hs.2.2 (fun k hk => .inl hk)⟩)
      clear hs
      rw [hmv']
      have mP : (method 213 55 (.pointer (some ⟨g, 0, none⟩)) "Pop").run Try.prog w3 = .ok (79, .pointer (some ⟨g, 0, none⟩)) w3 := m_own mrPop g w3
      go_wp2_with fail
      refine (HPop.out w3 d.1 HS3.out).mono ?_
      rintro e w4 ⟨rfl, hL⟩
      have HE := Lib.hid hL
      clear hL
      go_wp2
      go_ret
      rw [HR1.out]
      exact ⟨rfl, HE.out⟩
    · have hmv' : decide (i < d.2) = false := decide_eq_false hmv
      have hR := HR.out
      rw [if_neg hmv] at hR
      have HR1 := Lib.hid hR
      clear hR HR
      go_wp2_with fail
      refine HDn.out.mono ?_
      rintro e w3 ⟨rfl, hs⟩
      have HS3 := Lib.hid (show Sw w w3 g h off cap n d.1 from ⟨hs.1, hs.2.1, HS1.out.2.2.trans hs.2.2 (fun k hk => .inl hk)⟩)
      have HUp := Lib.hid (hup_any (j := i) hs.1 hs.2.1 hb (by have := HI.out; omega))
      clear hs
      rw [hmv']
      go_wp2_with fail
      refine HUp.out.mono ?_
      rintro e w5 ⟨rfl, hs⟩
      have HS5 := Lib.hid (show Sw w w5 g h off cap n (upF d.1 i) from ⟨hs.1, hs.2.1, HS3.out.2.2.trans hs.2.2 (fun k hk => .inl hk)⟩)
      clear hs
      have mP : (method 213 55 (.pointer (some ⟨g, 0, none⟩)) "Pop").run Try.prog w5 = .ok (79, .pointer (some ⟨g, 0, none⟩)) w5 := m_own mrPop g w5
      go_wp2_with fail
      refine (HPop.out w5 _ HS5.out).mono ?_
      rintro e w4 ⟨rfl, hL⟩
      have HE := Lib.hid hL
      clear hL
      go_wp2
      go_ret
      rw [HR1.out]
      exact ⟨rfl, HE.out⟩
end Go.Proofs.Ytpdnbojooelmfaa
