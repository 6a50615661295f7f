/- container/heap's down over a list of addresses: it leaves what downF says, and answers whether it moved; for lists of at most 10^9 addresses, and places within. -/
import Derived.Test.YtpdnbojooelmfaaHUp
namespace Go.Proofs.Ytpdnbojooelmfaa
open Go.RowKit
set_option linter.unusedVariables false
theorem downF_go {l : List Nat} {i n : Nat} (h1 : 2 * i + 1 < n) (h : gd l (dnJ l i n) < gd l i) : downF l i n = downF (swp l i (dnJ l i n)) (dnJ l i n) n := by rw [downF, dif_pos ⟨h1, h⟩]
theorem downF_stop {l : List Nat} {i n : Nat} (h : ¬ (2 * i + 1 < n ∧ gd l (dnJ l i n) < gd l i)) : downF l i n = (l, i) := by rw [downF, dif_neg h]
theorem dnJ_r {l : List Nat} {i n : Nat} (h : 2 * i + 2 < n) (k : gd l (2 * i + 2) < gd l (2 * i + 1)) : dnJ l i n = 2 * i + 2 := if_pos ⟨h, k⟩
theorem dnJ_l {l : List Nat} {i n : Nat} (h : ¬ (2 * i + 2 < n ∧ gd l (2 * i + 2) < gd l (2 * i + 1))) : dnJ l i n = 2 * i + 1 := if_neg h
def DnEnd (w0 : World) (g h off cap n i0 : Nat) (r : List Nat × Nat) (e : Ending) (w' : World) : Prop := e = .returned (.bool (decide (i0 < r.2))) ∧ Sw w0 w' g h off cap n r.1
/-- The relation of down's loop. -/
def DnRel (w0 : World) (g h off cap n m : Nat) (r : List Nat × Nat) (v : Value) (wr : World) : Prop := ∃ (i : Nat) (dk : List Nat), v = .int .i64 (i : Int) ∧ i ≤ m ∧ Sw w0 wr g h off cap n dk ∧ downF dk i m = r
set_option maxRecDepth 100000 in
set_option maxHeartbeats 4000000 in
theorem hdown_any {w : World} {g h off cap n : Nat} {l : List Nat} (hF : FreeAt w g (.slice (some ⟨h, off, none⟩) n cap) l) (hn : l.length = n) (hl : n ≤ 1000000001) {i0 m : Nat} (hi : i0 ≤ m) (hm : m < n) :
    Calls Try.prog 37 #[.iface 55 (.pointer (some ⟨g, 0, none⟩)), .int .i64 (i0 : Int), .int .i64 (m : Int)] w (DnEnd w g h off cap n i0 (downF l i0 m)) := by
  have H0 := Lib.hid hF
  have HN := Lib.hid hn
  clear hF hn
  obtain ⟨r, hd⟩ : ∃ r, r = downF l i0 m := ⟨_, rfl⟩
  rw [← hd]
  have HD := Lib.hid hd
  clear hd
  go_enter Try.func37, Try.ntmps37
  go_wp2
  go_loopw [7] (fun v wr => DnRel w g h off cap n m r v wr) (fun v _ => m - (intOf v).toNat)
  case atStart => exact ⟨i0, l, rfl, hi, ⟨H0.out, HN.out, But.refl _ _⟩, HD.out.symm⟩
  case round =>
    obtain ⟨i, dk, rfl, him, hS, hU⟩ := hrel
    rename World => wr
    have HS := Lib.hid hS
    have c0 := hS.1.cell
    have hlen := hS.2.1
    have ML : (method 213 55 (.pointer (some ⟨g, 0, none⟩)) "Less").run Try.prog wr = .ok (77, .slice (some ⟨h, off, none⟩) n cap) wr := m_of mrLess c0
    have hexit : ∀ (W : World), Sw w W g h off cap n dk → downF dk i m = (dk, i) → DnEnd w g h off cap n i0 r (.returned (.bool (decide (i0 < i)))) W := by
      intro W hW e
      rw [e] at hU
      subst hU
      exact ⟨rfl, hW⟩
    have HX := Lib.hid hexit
    clear hexit
    by_cases h1 : 2 * i + 1 < m
    · obtain ⟨k1, hk1⟩ : ∃ k1, k1 = 2 * i + 1 := ⟨_, rfl⟩
      obtain ⟨k2, hk2⟩ : ∃ k2, k2 = 2 * i + 2 := ⟨_, rfl⟩
      have e1 : 2 * (i : Int) + 1 = (k1 : Int) := by omega
      have e2 : (k1 : Int) + 1 = (k2 : Int) := by omega
      have b1 : k1 < m := by omega
      have hLess : ∀ (W : World) (a b : Nat), Sw w W g h off cap n dk → a < m → b < m → ∀ bb, decide (gd dk a < gd dk b) = bb → Calls Try.prog 77 #[.slice (some ⟨h, off, none⟩) n cap, .int .i64 (a : Int), .int .i64 (b : Int)] W fun e w' => e = .returned (.bool bb) ∧ Drew W w' := by
        intro W a b hW ha hb bb hbb
        rw [← hbb]
        exact sLess_any hW.1.2.1 hW.2.1.symm (le_of hW.2.1 hl) (by rw [hW.2.1]; omega) (by rw [hW.2.1]; omega)
      have hSwap : ∀ (W : World) (b : Nat), Sw w W g h off cap n dk → b < m → Calls Try.prog 78 #[.slice (some ⟨h, off, none⟩) n cap, .int .i64 (i : Int), .int .i64 (b : Int)] W fun e w' => e = .returned (.tuple #[]) ∧ Sw w w' g h off cap n (swp dk i b) := by
        intro W b hW hb
        refine (sSwap_any hW.1.2.1 hW.2.1.symm (le_of hW.2.1 hl) (by rw [hW.2.1]; omega) (by rw [hW.2.1]; omega)).mono ?_
        rintro e w' ⟨he, ha, hbt⟩
        exact ⟨he, hW.step ha ((swp_length _ _ _).trans hW.2.1) hbt⟩
      have HLess := Lib.hid hLess
      have HSwap := Lib.hid hSwap
      have HU := Lib.hid hU
      clear hLess hSwap hU hS hlen
      have key : ∀ J : Nat, J = dnJ dk i m → J < m ∧ i < J := by rintro J rfl; have := dnJ_lt (l := dk) h1; omega
      by_cases h2 : 2 * i + 2 < m
      · by_cases hc : gd dk k2 < gd dk k1
        · have hJ : k2 = dnJ dk i m := by rw [dnJ_r h2 (by rw [← hk1, ← hk2]; exact hc)]; exact hk2
          obtain ⟨J0, J1⟩ := key k2 hJ
          have HJ := Lib.hid hJ
          clear hJ
          by_cases hd : gd dk k2 < gd dk i
          · skip
            have HR := Lib.hid (downF_go (l := dk) (i := i) (n := m) h1 (by rw [← HJ.out]; exact hd))
            have HC1 := Lib.hid (HLess.out wr k2 k1 HS.out (by omega) b1 true (decide_eq_true hc))
            have HC2 := Lib.hid (fun w1 hs => HLess.out w1 k2 i hs J0 (by omega) true (decide_eq_true hd))
            have HSW := Lib.hid (fun w1 hs => HSwap.out w1 k2 hs J0)
            clear hc hd hk1 hk2 key
            go_wp2_with fail
            refine HC1.out.mono ?_
            rintro e w1 ⟨rfl, hdr⟩
            have HS1 := Lib.hid (HS.out.drew hdr)
            clear hdr
            have ML1 : (method 213 55 (.pointer (some ⟨g, 0, none⟩)) "Less").run Try.prog w1 = .ok (77, .slice (some ⟨h, off, none⟩) n cap) w1 := m_of mrLess HS1.out.1.cell
            go_wp2_with fail
            refine (HC2.out w1 HS1.out).mono ?_
            rintro e w2 ⟨rfl, hdr⟩
            have HS2 := Lib.hid (HS1.out.drew hdr)
            clear hdr
            have MS : (method 213 55 (.pointer (some ⟨g, 0, none⟩)) "Swap").run Try.prog w2 = .ok (78, .slice (some ⟨h, off, none⟩) n cap) w2 := m_of mrSwap HS2.out.1.cell
            go_wp2_with fail
            refine (HSW.out w2 HS2.out).mono ?_
            rintro e w3 ⟨rfl, hs3⟩
            have HS3 := Lib.hid hs3
            clear hs3
            go_wp2
            go_roundw
            case rel => exact ⟨k2, swp dk i k2, rfl, Nat.le_of_lt J0, HS3.out, by rw [← HU.out, HR.out, HJ.out]⟩
            case measure => simp [intOf]; omega
          · skip
            have HR := Lib.hid (downF_stop (l := dk) (i := i) (n := m) (by rw [← HJ.out]; exact fun h => hd h.2))
            have HC1 := Lib.hid (HLess.out wr k2 k1 HS.out (by omega) b1 true (decide_eq_true hc))
            have HC2 := Lib.hid (fun w1 hs => HLess.out w1 k2 i hs J0 (by omega) false (decide_eq_false hd))
            clear hc hd hk1 hk2 key
            go_wp2_with fail
            refine HC1.out.mono ?_
            rintro e w1 ⟨rfl, hdr⟩
            have HS1 := Lib.hid (HS.out.drew hdr)
            clear hdr
            have ML1 : (method 213 55 (.pointer (some ⟨g, 0, none⟩)) "Less").run Try.prog w1 = .ok (77, .slice (some ⟨h, off, none⟩) n cap) w1 := m_of mrLess HS1.out.1.cell
            go_wp2_with fail
            refine (HC2.out w1 HS1.out).mono ?_
            rintro e w2 ⟨rfl, hdr⟩
            have HS2 := Lib.hid (HS1.out.drew hdr)
            clear hdr
            have HE := Lib.hid (HX.out w2 HS2.out HR.out)
            go_wp2
            go_ret
            exact HE.out
        · have hJ : k1 = dnJ dk i m := by rw [dnJ_l (by rw [← hk1, ← hk2]; exact fun h => hc h.2)]; exact hk1
          obtain ⟨J0, J1⟩ := key k1 hJ
          have HJ := Lib.hid hJ
          clear hJ
          by_cases hd : gd dk k1 < gd dk i
          · skip
            have HR := Lib.hid (downF_go (l := dk) (i := i) (n := m) h1 (by rw [← HJ.out]; exact hd))
            have HC1 := Lib.hid (HLess.out wr k2 k1 HS.out (by omega) b1 false (decide_eq_false hc))
            have HC2 := Lib.hid (fun w1 hs => HLess.out w1 k1 i hs J0 (by omega) true (decide_eq_true hd))
            have HSW := Lib.hid (fun w1 hs => HSwap.out w1 k1 hs J0)
            clear hc hd hk1 hk2 key
            go_wp2_with fail
            refine HC1.out.mono ?_
            rintro e w1 ⟨rfl, hdr⟩
            have HS1 := Lib.hid (HS.out.drew hdr)
            clear hdr
            have ML1 : (method 213 55 (.pointer (some ⟨g, 0, none⟩)) "Less").run Try.prog w1 = .ok (77, .slice (some ⟨h, off, none⟩) n cap) w1 := m_of mrLess HS1.out.1.cell
            go_wp2_with fail
            refine (HC2.out w1 HS1.out).mono ?_
            rintro e w2 ⟨rfl, hdr⟩
            have HS2 := Lib.hid (HS1.out.drew hdr)
            clear hdr
            have MS : (method 213 55 (.pointer (some ⟨g, 0, none⟩)) "Swap").run Try.prog w2 = .ok (78, .slice (some ⟨h, off, none⟩) n cap) w2 := m_of mrSwap HS2.out.1.cell
            go_wp2_with fail
            refine (HSW.out w2 HS2.out).mono ?_
            rintro e w3 ⟨rfl, hs3⟩
            have HS3 := Lib.hid hs3
            clear hs3
            go_wp2
            go_roundw
            case rel => exact ⟨k1, swp dk i k1, rfl, Nat.le_of_lt J0, HS3.out, by rw [← HU.out, HR.out, HJ.out]⟩
            case measure => simp [intOf]; omega
          · skip
            have HR := Lib.hid (downF_stop (l := dk) (i := i) (n := m) (by rw [← HJ.out]; exact fun h => hd h.2))
            have HC1 := Lib.hid (HLess.out wr k2 k1 HS.out (by omega) b1 false (decide_eq_false hc))
            have HC2 := Lib.hid (fun w1 hs => HLess.out w1 k1 i hs J0 (by omega) false (decide_eq_false hd))
            clear hc hd hk1 hk2 key
            go_wp2_with fail
            refine HC1.out.mono ?_
            rintro e w1 ⟨rfl, hdr⟩
            have HS1 := Lib.hid (HS.out.drew hdr)
            clear hdr
            have ML1 : (method 213 55 (.pointer (some ⟨g, 0, none⟩)) "Less").run Try.prog w1 = .ok (77, .slice (some ⟨h, off, none⟩) n cap) w1 := m_of mrLess HS1.out.1.cell
            go_wp2_with fail
            refine (HC2.out w1 HS1.out).mono ?_
            rintro e w2 ⟨rfl, hdr⟩
            have HS2 := Lib.hid (HS1.out.drew hdr)
            clear hdr
            have HE := Lib.hid (HX.out w2 HS2.out HR.out)
            go_wp2
            go_ret
            exact HE.out
      · have hJ : k1 = dnJ dk i m := by rw [dnJ_l (fun h => h2 h.1)]; exact hk1
        obtain ⟨J0, J1⟩ := key k1 hJ
        have HJ := Lib.hid hJ
        clear hJ
        by_cases hd : gd dk k1 < gd dk i
        · skip
          have HR := Lib.hid (downF_go (l := dk) (i := i) (n := m) h1 (by rw [← HJ.out]; exact hd))
          have HC2 := Lib.hid (fun w1 hs => HLess.out w1 k1 i hs J0 (by omega) true (decide_eq_true hd))
          have HSW := Lib.hid (fun w1 hs => HSwap.out w1 k1 hs J0)
          clear  hd hk1 hk2 key
          go_wp2_with fail
          refine (HC2.out wr HS.out).mono ?_
          rintro e w2 ⟨rfl, hdr⟩
          have HS2 := Lib.hid (HS.out.drew hdr)
          clear hdr
          have MS : (method 213 55 (.pointer (some ⟨g, 0, none⟩)) "Swap").run Try.prog w2 = .ok (78, .slice (some ⟨h, off, none⟩) n cap) w2 := m_of mrSwap HS2.out.1.cell
          go_wp2_with fail
          refine (HSW.out w2 HS2.out).mono ?_
          rintro e w3 ⟨rfl, hs3⟩
          have HS3 := Lib.hid hs3
          clear hs3
          go_wp2
          go_roundw
          case rel => exact ⟨k1, swp dk i k1, rfl, Nat.le_of_lt J0, HS3.out, by rw [← HU.out, HR.out, HJ.out]⟩
          case measure => simp [intOf]; omega
        · skip
          have HR := Lib.hid (downF_stop (l := dk) (i := i) (n := m) (by rw [← HJ.out]; exact fun h => hd h.2))
          have HC2 := Lib.hid (fun w1 hs => HLess.out w1 k1 i hs J0 (by omega) false (decide_eq_false hd))
          clear  hd hk1 hk2 key
          go_wp2_with fail
          refine (HC2.out wr HS.out).mono ?_
          rintro e w2 ⟨rfl, hdr⟩
          have HS2 := Lib.hid (HS.out.drew hdr)
          clear hdr
          have HE := Lib.hid (HX.out w2 HS2.out HR.out)
          go_wp2
          go_ret
          exact HE.out
    · have HE := Lib.hid (HX.out wr hS (downF_stop (by omega)))
      clear hU hlen hS HX
      go_wp2
      go_ret
      exact HE.out
end Go.Proofs.Ytpdnbojooelmfaa
