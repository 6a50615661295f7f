/- container/heap's up and down over a list of addresses: they leave what upF and downF say; for lists of at most 10^9 addresses, and places within. -/
import Derived.Test.YtpdnbojooelmfaaHOps
namespace Go.Proofs.Ytpdnbojooelmfaa
open Go.RowKit
set_option linter.unusedVariables false

/-- What has become of the list by swaps alone: it reads as d now; nothing else has turned. -/
def Sw (w0 w : World) (g h off cap n : Nat) (d : List Nat) : Prop := FreeAt w g (.slice (some ⟨h, off, none⟩) n cap) d ∧ d.length = n ∧ But w0 w (fun k => k = h)
theorem Sw.step {w0 w w' : World} {g h off cap n : Nat} {d d' : List Nat} (s : Sw w0 w g h off cap n d) (ha : Adr w' (.slice (some ⟨h, off, none⟩) n cap) d') (hl : d'.length = n) (hb : But w w' (fun k => k = h)) : Sw w0 w' g h off cap n d' :=
  ⟨⟨hb.row s.1.1 (fun e => s.1.2.2 (by rw [e]; rfl)), ha, s.1.2.2⟩, hl, s.2.2.trans hb (fun k hk => .inl hk)⟩
theorem Sw.drew {w0 w w' : World} {g h off cap n : Nat} {d : List Nat} (s : Sw w0 w g h off cap n d) (hb : Drew w w') : Sw w0 w' g h off cap n d :=
  ⟨s.1.below hb.below, s.2.1, s.2.2.trans (But.of_below hb.below (fun k => k = h)) (fun k hk => .inl hk)⟩
theorem upF_go {l : List Nat} {j : Nat} (h0 : 0 < j) (h : gd l j < gd l ((j - 1) / 2)) : upF l j = upF (swp l ((j - 1) / 2) j) ((j - 1) / 2) := by rw [upF, dif_pos ⟨h0, h⟩]
theorem upF_stop {l : List Nat} {j : Nat} (h : ¬ (0 < j ∧ gd l j < gd l ((j - 1) / 2))) : upF l j = l := by rw [upF, dif_neg h]
theorem lt_of {a b c : Nat} (h : a = b) (k : c < b) : c < a := by omega
theorem le_of {a b c : Nat} (h : a = b) (k : b ≤ c) : a ≤ c := h ▸ k
def UpEnd (w0 : World) (g h off cap n : Nat) (d : List Nat) (e : Ending) (w' : World) : Prop := e = .returned (.tuple #[]) ∧ Sw w0 w' g h off cap n d
/-- The relation of up's loop. -/
def UpRel (w0 : World) (g h off cap n : Nat) (d : List Nat) (v : Value) (wr : World) : Prop := ∃ (j : Nat) (dk : List Nat), v = .int .i64 (j : Int) ∧ j < n ∧ Sw w0 wr g h off cap n dk ∧ upF dk j = d
set_option maxRecDepth 100000 in
set_option maxHeartbeats 2000000 in
theorem hup_any {w : World} {g h off cap n : Nat} {l : List Nat} (hF : FreeAt w g (.slice (some ⟨h, off, none⟩) n cap) l) (hn : l.length = n) (hl : n ≤ 1000000001) {j : Nat} (hj : j < n) :
    Calls Try.prog 36 #[.iface 55 (.pointer (some ⟨g, 0, none⟩)), .int .i64 (j : Int)] w (UpEnd w g h off cap n (upF l j)) := by
  have H0 := Lib.hid hF
  have HN := Lib.hid hn
  clear hF hn
  obtain ⟨d, hd⟩ : ∃ d, d = upF l j := ⟨_, rfl⟩
  rw [← hd]
  have HD := Lib.hid hd
  clear hd
  go_enter Try.func36, Try.ntmps36
  go_wp2
  go_loopw [1] (fun v wr => UpRel w g h off cap n d v wr) (fun v _ => (intOf v).toNat)
  case atStart => exact ⟨j, l, rfl, hj, ⟨H0.out, HN.out, But.refl _ _⟩, HD.out.symm⟩
  case round =>
    obtain ⟨j, dk, rfl, hj, hS, hU⟩ := hrel
    rename World => wr
    have HS := Lib.hid hS
    have c0 := hS.1.cell
    have hlen := hS.2.1
    by_cases j0 : j = 0
    · subst j0
      have HE := Lib.hid (show UpEnd w g h off cap n d (.returned (.tuple #[])) wr from ⟨rfl, by rw [← hU, upF_stop (by omega)]; exact hS⟩)
      clear hS hU hlen
      go_wp2
      go_end0
      exact HE.out
    · obtain ⟨p, hp⟩ : ∃ p, p = (j - 1) / 2 := ⟨_, rfl⟩
      have hpj : p < n := by omega
      have e1 : ((j : Int) - 1) / 2 = (p : Int) := by omega
      have hne : ((p : Int) == (j : Int)) = false := by rw [Bool.eq_false_iff]; intro hh; have := beq_iff_eq.1 hh; omega
      have hne' : (((j : Int) - 1) / 2 == (j : Int)) = false := by rw [e1]; exact hne
      have hm : (method 213 55 (.pointer (some ⟨g, 0, none⟩)) "Less").run Try.prog wr = .ok (77, .slice (some ⟨h, off, none⟩) n cap) wr := m_of mrLess c0
      have hls := sLess_any hS.1.2.1 hS.2.1.symm (by omega) (i := j) (j := p) (by omega) (by omega)
      by_cases hc : gd dk j < gd dk p
      · rw [decide_eq_true hc] at hls
        have HL := Lib.hid hls
        have HR := Lib.hid (upF_go (l := dk) (j := j) (by omega) (by rw [← hp]; exact hc))
        have HU := Lib.hid hU
        have HP := Lib.hid hp
        have HLn := Lib.hid hlen
        clear hls hS hU hlen hc hp
        go_wp2_with fail
        refine HL.out.mono ?_
        rintro e w1 ⟨rfl, hdr⟩
        have HS1 := Lib.hid (HS.out.drew hdr)
        clear hdr
        have hm2 : (method 213 55 (.pointer (some ⟨g, 0, none⟩)) "Swap").run Try.prog w1 = .ok (78, .slice (some ⟨h, off, none⟩) n cap) w1 := m_of mrSwap HS1.out.1.cell
        have HSW := Lib.hid (sSwap_any HS1.out.1.2.1 HS1.out.2.1.symm (le_of HLn.out hl) (i := p) (j := j) (lt_of HLn.out hpj) (lt_of HLn.out hj))
        go_wp2_with fail
        refine HSW.out.mono ?_
        rintro e w2 ⟨rfl, ha, hbt⟩
        have HS2 := Lib.hid (HS1.out.step ha ((swp_length _ _ _).trans HS1.out.2.1) hbt)
        clear ha hbt
        go_wp2
        go_roundw
        case rel => exact ⟨p, swp dk p j, by first | rfl | rw [e1], hpj, HS2.out, by rw [← HU.out, HR.out, HP.out]⟩
        case measure => simp [intOf]; omega
      · rw [decide_eq_false hc] at hls
        have HL := Lib.hid hls
        have HE := Lib.hid (fun w1 (hd : Drew wr w1) => show UpEnd w g h off cap n d (.returned (.tuple #[])) w1 from ⟨rfl, by rw [← hU, upF_stop (by rw [← hp]; omega)]; exact hS.drew hd⟩)
        clear hls hS hU hlen hc hp
        go_wp2_with (go_at_call 77; refine HL.out.mono ?_; rintro e w1 ⟨rfl, hdr⟩; have HE1 := Lib.hid (HE.out w1 hdr); clear hdr)
        go_end0
        exact HE1.out
end Go.Proofs.Ytpdnbojooelmfaa
