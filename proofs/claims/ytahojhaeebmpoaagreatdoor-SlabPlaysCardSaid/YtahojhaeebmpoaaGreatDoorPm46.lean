/- Texts of this claim, packed: 6Pl. -/
import Derived.Test.YtahojhaeebmpoaaGreatDoorPm44
import Derived.Test.YtahojhaeebmpoaaGreatDoorPm45
import Derived.Test.YtahojhaeebmpoaaGreatDoorPm29
import Derived.Test.YtahojhaeebmpoaaGreatDoorPm37
/- The law SlabPlays. -/
namespace Go.Proofs.YtahojhaeebmpoaaGreatDoor
open Go Go.RowKit Go.Sort
set_option linter.unusedVariables false
theorem GD.low {w0 w : World} {B size gg mg gs gw : Nat} {Q : World → Z6 → S6 → Nat → List Value → Prop} (G : GD w0 (fun _ => False) B size gg mg gs gw Q w) : Below w0.heap.size w0 w := by
  obtain ⟨y, z, n, xs, G, _⟩ := G
  exact G.but.below (Nat.le_refl _) (fun k h => h.elim)
set_option maxRecDepth 100000 in
set_option maxHeartbeats 1600000 in
theorem slabPlays_out {w : World} {A1 A2 : Option Addr} {n1 cap1 n2 cap2 : Nat} (h : ¬ (1 ≤ n1 ∧ n1 ≤ 4 ∧ (n2 : Int) ≤ 150)) (h1 : n1 ≤ maxLen) (h2 : n2 ≤ maxLen) (R : Rms w) :
    Calls Tryz.prog 4 #[.slice A1 n1 cap1, .slice A2 n2 cap2] w fun e w' => e = .returned (.bool true) ∧ Below w.heap.size w w' := by
  have HF := Lib.hid (few_no (w := w) (A := A1) (A2 := A2) (cap := cap1) (cap2 := cap2) (k := 150) h h1 h2)
  have HK := Lib.hid (known6_any w R)
  clear h h1 h2 R
  go_enter Tryz.func4, Tryz.ntmps4
  go_wp2_with fail
  refine HF.out.mono ?_
  rintro e w1 ⟨rfl, rfl⟩
  go_wp2_with fail
  refine HK.out.mono ?_
  rintro e w2 ⟨rfl, hb⟩
  go_wp2
  go_ret
  exact ⟨rfl, hb⟩
set_option maxRecDepth 100000 in
set_option maxHeartbeats 3200000 in
theorem slabPlays_in {w : World} {ga : Addr} {cap1 : Nat} {l : List (Nat × Nat)} {A2 : Option Addr} {n2 cap2 : Nat} {acts : List Ac6} (hA : HeadsAt w ga l) (h0 : 0 < l.length) (h4 : l.length ≤ 4) (hc : l.length ≤ cap1) (hf : ∀ p ∈ l, p.1 < 18446744073709551616 ∧ p.2 < 18446744073709551616)
    (hS : Acts6In w A2 n2 cap2 acts) (hn2 : n2 ≤ 150) (R : Rms w) :
    Calls Tryz.prog 4 #[.slice (some ga) l.length cap1, .slice A2 n2 cap2] w fun e w' => e = .returned (.bool true) ∧ Below w.heap.size w w' := by
  have HF := Lib.hid (few_any (w := w) (A2 := A2) (m := n2) (cap2 := cap2) (k := 150) hA h0 h4 hc (by omega) hf)
  have HI := Lib.hid fun (W : World) (hb : Below w.heap.size w W) => image_any (f := 0) (hA.below hb) (by omega) hc (by decide) hf
  have HBG := Lib.hid (fun (W : World) (gi : Nat) (hr : Row W gi 5 ((imL l 0).map bv).toArray) (hb : Below w.heap.size w W) (hok : okHeads (imL l 0) l.length) => begin6_any (cap := 1024 * (l.length + 1)) (imL_len l 0) hr (imL_byte (by decide)) h0 h4 (R.below hb) hok)
  have HINI := Lib.hid (fun (hok : okHeads (imL l 0) l.length) => ini6_inv (n := l.length) (imL_byte (l := l) (f := 0) (by decide)) h4 hok)
  have HR := Lib.hid R
  obtain ⟨hS1, hS2, hS3, hS4⟩ := hS
  have HAC := Lib.hid (fun (W : World) (hb : Below w.heap.size w W) (i : Nat) (hi : i < n2) => (show ∃ a, A2 = some a ∧ Acts6At W a acts ∧ i < acts.length from by
    obtain ⟨a, h1, h2⟩ := hS4 (by omega)
    exact ⟨a, h1, h2.below hb, by omega⟩))
  obtain ⟨n, hn⟩ : ∃ n, n = l.length := ⟨_, rfl⟩
  rw [← hn] at HF HI HBG HINI h0 h4 hc ⊢
  have HN := Lib.hid hn
  clear hA hf hn R hS1 hS2 hS3 hS4
  go_enter Tryz.func4, Tryz.ntmps4
  go_wp2_with fail
  refine HF.out.mono ?_
  rintro e w1 ⟨⟨b, rfl, hbk⟩, hb1⟩
  have HB1 := Lib.hid hb1
  have HBK := Lib.hid hbk
  clear hb1 hbk HF
  cases b with
  | false =>
    go_wp2_with fail
    refine (known6_any w1 (HR.out.below HB1.out)).mono ?_
    rintro e w2 ⟨rfl, hb⟩
    have HB2 := Lib.hid (Below.and HB1.out hb)
    clear hb
    go_wp2
    go_ret
    exact ⟨rfl, HB2.out⟩
  | true =>
    have HOK := Lib.hid (HBK.out.1 rfl)
    go_wp2_with fail
    refine (HI.out w1 HB1.out).mono ?_
    rintro e w2 ⟨gi, rfl, hr, hb2, _⟩
    rw [← HN.out]
    have HB2 := Lib.hid (Below.and HB1.out hb2)
    have HO2 := Lib.hid (HBG.out w2 gi hr HB2.out HOK.out)
    clear hr hb2 HB1 HBG HI
    go_wp2_with fail
    refine HO2.out.mono ?_
    rintro e w3 ⟨gg, mg, gs, gw, rfl, hg⟩
    have HB3 := Lib.hid (Below.and HB2.out hg.low)
    have HST := Lib.hid (show ∃ z, GD w2 (fun _ => False) w2.heap.size (imL l 0).length gg mg gs gw (RQ z) w3 ∧ Inv6 0 z from ⟨_, hg, HINI.out HOK.out⟩)
    clear hg HO2 HINI HOK HBK
    go_wp2
    go_loopw [6] (fun v wr => ∃ i : Nat, i ≤ n2 ∧ v = .int .i64 (i : Int) ∧ ∃ z, GD w2 (fun _ => False) w2.heap.size (imL l 0).length gg mg gs gw (RQ z) wr ∧ Inv6 i z) (fun v _ => n2 - (intOf v).toNat)
    case atStart => exact ⟨0, Nat.zero_le _, rfl, HST.out⟩
    case round =>
      obtain ⟨i, hin, rfl, z, hg, hi⟩ := hrel
      rename World => wr
      have HG := Lib.hid hg
      have HV := Lib.hid hi
      have HBr := Lib.hid (Below.and HB2.out hg.low)
      clear hg hi HST HB3
      by_cases hlt : i < n2
      · have e1 : decide ((i : Int) < (n2 : Int)) = true := by simp; omega
        obtain ⟨a, rfl, hact, hil⟩ := HAC.out wr HBr.out i hlt
        have c0 := hact.c0 i hil
        have c1 := hact.c1 i hil
        have c2 := hact.c2 i hil
        have c3 := hact.c3 i hil
        have HD := Lib.hid (gdo6_any HG.out HV.out (by omega) (ac6At acts i).k (ac6At acts i).n (ac6At acts i).c (ac6At acts i).a (hact.fit i hil))
        have HST2 := Lib.hid (show ∀ z', Step6 z z' → Inv6 (i + 1) z' from fun z' st => HG.out.inv HV.out st)
        obtain ⟨x, hx⟩ : ∃ x, x = ac6At acts i := ⟨_, rfl⟩
        rw [← hx] at c0 c1 c2 c3 HD
        clear hact hil hx HAC
        go_wp2_with fail
        refine HD.out.mono ?_
        rintro e w5 ⟨rfl, z', hst, _, hg5⟩
        have HE := Lib.hid (show ∃ z, GD w2 (fun _ => False) w2.heap.size (imL l 0).length gg mg gs gw (RQ z) w5 ∧ Inv6 (i + 1) z from ⟨z', hg5, HST2.out z' hst⟩)
        clear hst hg5 HD c0 c1 c2 c3
        go_wp2
        exact ⟨⟨i + 1, by omega, by go_num, HE.out⟩, by show n2 - ((i : Int) + 1).toNat < n2 - (i : Int).toNat; omega⟩
      · have e1 : decide ((i : Int) < (n2 : Int)) = false := by simp; omega
        go_wp2_with fail
        refine (known6_any wr (HR.out.below HBr.out)).mono ?_
        rintro e w6 ⟨rfl, hb⟩
        have HB6 := Lib.hid (Below.and HBr.out hb)
        clear hb
        go_wp2
        go_ret
        exact ⟨rfl, HB6.out⟩
/-- Of any heads, any acts. -/
theorem slabPlays_any (w : World) {A1 A2 : Option Addr} {n1 cap1 n2 cap2 : Nat} {l : List (Nat × Nat)} {acts : List Ac6} (hH : HeadsIn w A1 n1 cap1 l) (hS : Acts6In w A2 n2 cap2 acts) (R : Rms w) :
    Calls Tryz.prog 4 #[.slice A1 n1 cap1, .slice A2 n2 cap2] w fun e w' => e = .returned (.bool true) ∧ Below w.heap.size w w' := by
  obtain ⟨rfl, hc, hn, hA, hf⟩ := hH
  by_cases h : 1 ≤ l.length ∧ l.length ≤ 4 ∧ (n2 : Int) ≤ 150
  · obtain ⟨ga, rfl, hg⟩ := hA (by omega)
    exact slabPlays_in hg (by omega) h.2.1 hc hf hS (by omega) R
  · exact slabPlays_out h hn hS.2.2.1 R
end Go.Proofs.YtahojhaeebmpoaaGreatDoor
