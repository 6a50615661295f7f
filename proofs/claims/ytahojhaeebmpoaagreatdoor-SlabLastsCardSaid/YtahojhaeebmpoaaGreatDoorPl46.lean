/- Texts of this claim, packed: 6Ls. -/
import Derived.Test.YtahojhaeebmpoaaGreatDoorPlQ
import Derived.Test.YtahojhaeebmpoaaGreatDoorPl43
import Derived.Test.YtahojhaeebmpoaaGreatDoorPl45
import Derived.Deep.QuietTactic
import Derived.Deep.DeepCutAuto
import Derived.Deep.CutBlock
/- The law SlabLasts. -/
namespace Go.Proofs.YtahojhaeebmpoaaGreatDoor
open Go Go.RowKit Go.Sort
set_option linter.unusedVariables false

set_option maxRecDepth 100000 in
set_option maxHeartbeats 1600000 in
theorem slabLasts_out {w : World} {A1 A2 A3 : Option Addr} {n1 cap1 n2 cap2 n3 cap3 : Nat} (h : ¬ (1 ≤ n1 ∧ n1 ≤ 4 ∧ (n2 : Int) ≤ 80)) (h1 : n1 ≤ maxLen) (h2 : n2 ≤ maxLen) (R : Rms w) :
    Calls Tryz.prog 5 #[.slice A1 n1 cap1, .slice A2 n2 cap2, .slice A3 n3 cap3] w fun e w' => e = .returned (.bool true) ∧ Below w.heap.size w w' := by
  have HF := Lib.hid (few_no (w := w) (A := A1) (A2 := A2) (cap := cap1) (cap2 := cap2) (k := 80) h h1 h2)
  have HK := Lib.hid (known6_any w R)
  clear h h1 h2 R
  go_enter Tryz.func5, Tryz.ntmps5
  go_wp2_with fail
  refine HF.out.mono ?_
  rintro e w1 ⟨rfl, rfl⟩
  go_wp2_with fail
  refine HK.out.mono ?_
  rintro e w2 ⟨rfl, hb⟩
  go_wp2
  go_ret
  exact ⟨rfl, hb⟩
set_option maxRecDepth 100000 in
set_option maxHeartbeats 8000000 in
theorem slabLasts_in {w : World} {ga : Addr} {cap1 : Nat} {l : List (Nat × Nat)} {A2 : Option Addr} {n2 cap2 : Nat} {acts : List Ac6} {A3 : Option Addr} {n3 cap3 : Nat} {zs : List Int} (hA : HeadsAt w ga l) (h0 : 0 < l.length) (h4 : l.length ≤ 4) (hc : l.length ≤ cap1) (hf : ∀ p ∈ l, p.1 < 18446744073709551616 ∧ p.2 < 18446744073709551616)
    (hS : Acts6In w A2 n2 cap2 acts) (hn2 : n2 ≤ 80) (hK : InRow .i64 w A3 n3 cap3 zs) (R : Rms w) :
    Calls Tryz.prog 5 #[.slice (some ga) l.length cap1, .slice A2 n2 cap2, .slice A3 n3 cap3] w fun e w' => e = .returned (.bool true) ∧ Below w.heap.size w w' := by
  have HF := Lib.hid (few_any (w := w) (A2 := A2) (m := n2) (cap2 := cap2) (k := 80) hA h0 h4 hc (by omega) hf)
  have HI := Lib.hid fun (W : World) (hb : Below w.heap.size w W) => image_any (f := 0) (hA.below hb) (by omega) hc (by decide) hf
  have HBG := Lib.hid (fun (W : World) (gi : Nat) (hr : Row W gi 5 ((imL l 0).map bv).toArray) (hb : Below w.heap.size w W) (hok : okHeads (imL l 0) l.length) => begin6_any (cap := 1024 * (l.length + 1)) (imL_len l 0) hr (imL_byte (by decide)) h0 h4 (R.below hb) hok)
  have HINI := Lib.hid (fun (hok : okHeads (imL l 0) l.length) => ini6_inv (n := l.length) (imL_byte (l := l) (f := 0) (by decide)) h4 hok)
  have HR := Lib.hid R
  have mixed : Tryz.prog.follows .mixedOrders = true := by kernel_rfl
  have HLA := Lib.hid (fun (hok : okHeads (imL l 0) l.length) => ini6_la (imL_len l 0) (imL_byte (l := l) (f := 0) (by decide)) hok)
  have HIL := Lib.hid (imL_len l 0)
  have HKP := Lib.hid (show 0 < n3 → ∃ a, A3 = some a ∧ ∀ W, Below w.heap.size w W → ∀ i, i < n3 → W.cell? (a.add i) = some (.int .i64 (zs.getD i 0)) ∧ (Lit.int .i64 (zs.getD i 0)).wf = true from fun h => by
    rcases hK with ⟨_, h0, _⟩ | ⟨x, rfl, h1, h2, h3, h4, h5⟩
    · omega
    · refine ⟨x, rfl, fun W hb i hi => ⟨?_, ?_⟩⟩
      · have hc := h4 i (by omega)
        exact (hb.cell (w.block_lt_of_cell? _ hc)).trans hc
      · refine h5 _ ?_
        rw [List.getD_eq_getElem?_getD, List.getElem?_eq_getElem (by omega)]
        exact List.getElem_mem _)
  have EGImage := Lib.hid (enters_of Tryz.func22 (by kernel_rfl) rfl)
  have EGr6Fits := Lib.hid (enters_of Tryz.func21 (by kernel_rfl) rfl)
  have EGCrash := Lib.hid (enters_of Tryz.func20 (by kernel_rfl) rfl)
  obtain ⟨hS1, hS2, hS3, hS4⟩ := hS
  have HAC := Lib.hid (fun (W : World) (hb : Below w.heap.size w W) (i : Nat) (hi : i < n2) => (show ∃ a, A2 = some a ∧ Acts6At W a acts ∧ i < acts.length from by
    obtain ⟨a, h1, h2⟩ := hS4 (by omega)
    exact ⟨a, h1, h2.below hb, by omega⟩))
  obtain ⟨n, hn⟩ : ∃ n, n = l.length := ⟨_, rfl⟩
  rw [← hn] at HF HI HBG HINI HLA HIL h0 h4 hc ⊢
  have HN := Lib.hid hn
  clear hA hf hn R hS1 hS2 hS3 hS4 hK
  go_enter Tryz.func5, Tryz.ntmps5
  go_wp2_with fail
  refine HF.out.mono ?_
  rintro e w1 ⟨⟨b, rfl, hbk⟩, hb1⟩
  have HB1 := Lib.hid hb1
  have HBK := Lib.hid hbk
  clear hb1 hbk HF
  cases b with
  | false =>
    go_wp2_with fail
    refine (known6_any w1 (HR.out.below HB1.out)).mono ?_
    rintro e w2 ⟨rfl, hb⟩
    have HB2 := Lib.hid (Below.and HB1.out hb)
    clear hb
    go_wp2
    go_ret
    exact ⟨rfl, HB2.out⟩
  | true =>
    by_cases hk3 : 100 < n3
    · have dk : decide ((100 : Int) < (n3 : Int)) = true := by simp; omega
      go_wp2_with fail
      refine (known6_any w1 (HR.out.below HB1.out)).mono ?_
      rintro e w2 ⟨rfl, hb⟩
      have HB2 := Lib.hid (Below.and HB1.out hb)
      clear hb
      go_wp2
      go_ret
      exact ⟨rfl, HB2.out⟩
    have dk : decide ((100 : Int) < (n3 : Int)) = false := by simp; omega
    have HOK := Lib.hid (HBK.out.1 rfl)
    go_wp2_with fail
    refine (HI.out w1 HB1.out).mono ?_
    rintro e w2 ⟨gi, rfl, hr, hb2, _⟩
    rw [← HN.out]
    have HB2 := Lib.hid (Below.and HB1.out hb2)
    have HO2 := Lib.hid (HBG.out w2 gi hr HB2.out HOK.out)
    clear hr hb2 HB1 HBG HI
    go_wp2_with fail
    refine HO2.out.mono ?_
    rintro e w3 ⟨gg, mg, gs, gw, rfl, hg⟩
    have HB3 := Lib.hid (Below.and HB2.out hg.low)
    have HST := Lib.hid (show ∃ z, GD w2 (fun _ => False) w2.heap.size (imL l 0).length gg mg gs gw (RQ z) w3 ∧ Inv6 0 z ∧ La6 z ∧ z.hs.length = n from ⟨_, hg, HINI.out HOK.out, HLA.out HOK.out, hsK_len _ _ _ _⟩)
    clear hg HO2 HINI HLA HOK HBK
    go_wp2
    go_loopw [8] (fun v wr => ∃ i : Nat, i ≤ n2 ∧ v = .int .i64 (i : Int) ∧ ∃ z, GD w2 (fun _ => False) w2.heap.size (imL l 0).length gg mg gs gw (RQ z) wr ∧ Inv6 i z ∧ La6 z ∧ z.hs.length = n) (fun v _ => n2 - (intOf v).toNat)
    case atStart => exact ⟨0, Nat.zero_le _, rfl, HST.out⟩
    case round =>
      obtain ⟨i, hin, rfl, z, hg, hi, hla, hzl⟩ := hrel
      rename World => wr
      have HG := Lib.hid hg
      have HV := Lib.hid hi
      have HL := Lib.hid hla
      have HZL := Lib.hid hzl
      have HBr := Lib.hid (Below.and HB2.out hg.low)
      clear hg hi hla hzl HST HB3
      by_cases hlt : i < n2
      · have e1 : decide ((i : Int) < (n2 : Int)) = true := by simp; omega
        obtain ⟨a, rfl, hact, hil⟩ := HAC.out wr HBr.out i hlt
        have c0 := hact.c0 i hil
        have c1 := hact.c1 i hil
        have c2 := hact.c2 i hil
        have c3 := hact.c3 i hil
        have HD := Lib.hid (gdo6_any HG.out HV.out (by omega) (ac6At acts i).k (ac6At acts i).n (ac6At acts i).c (ac6At acts i).a (hact.fit i hil))
        have HST2 := Lib.hid (show ∀ z', Step6 z z' → Inv6 (i + 1) z' from fun z' st => HG.out.inv HV.out st)
        obtain ⟨x, hx⟩ : ∃ x, x = ac6At acts i := ⟨_, rfl⟩
        rw [← hx] at c0 c1 c2 c3 HD
        clear hact hil hx HAC
        go_wp2_with fail
        refine HD.out.mono ?_
        rintro e w5 ⟨rfl, z', hst, _, hg5⟩
        have HZ := Lib.hid (show z'.hs.length = n from (Step6.hs hst).1.trans HZL.out)
        have HV2 := Lib.hid (HST2.out z' hst)
        have HL2 := Lib.hid (HG.out.la HV.out HL.out hst)
        have HG2 := Lib.hid hg5
        have HSZ := Lib.hid (show (imL l 0).length = 1024 * (z'.hs.length + 1) by rw [HZ.out]; exact HIL.out)
        have HLAS := Lib.hid (show 0 < z'.s.lasted.length by have h1 := hg5.las; have h2 := hg5.ok.2.2.1; have h3 := hg5.hpos; omega)
        have c0g := (hg5.cells).1
        clear hst hg5 HD HG HV HL HST2 c0 c1 c2 c3
        have HCP := Lib.hid HG2.out.copy
        go_wp2_with fail
        refine HCP.out.mono ?_
        rintro e w6 ⟨cg, rfl, hk6⟩
        have HB6 := Lib.hid (Below.and HB2.out hk6.gd.low)
        have K := Lib.hid hk6
        clear hk6 c0g HCP HG2
        have REST := Lib.hid (show ∀ (keep : List Int), ∀ W, KD w2 (fun _ => False) w2.heap.size (imL l 0).length gg mg gs gw z' (z'.s.crash keep) cg W → ∀ s2 : St, s2 = z'.s.crash keep → 0 < s2.lasted.length ∧ s2.Ok ∧ s2.lasted.length = z'.s.lasted.length ∧ ∀ i, i < z'.hs.length → FrS z'.s s2 i from fun keep W hW s2 he => by
          subst he
          have hl := crash_las (s := z'.s) keep
          have hok := hW.gd.ok.2.2.2.1
          exact ⟨by rw [hl]; exact HLAS.out, hW.ok, hl, fun i _ => frs_crash hok keep i⟩)
        by_cases hn3 : n3 = 0
        · have e3 : decide ((0 : Int) < (n3 : Int)) = false := by simp; omega
          have e3b : ¬ 0 < n3 := by omega
          clear hn3
          have HCR := Lib.hid (K.out.crash [] none 0 (fun j u hj => by simp at hj) (fun a ha => by cases ha) (by decide) (fun _ h => by cases h))
          rw [List.length_nil] at HCR
          go_wp2_with fail
          refine HCR.out.mono ?_
          rintro e w7 ⟨rfl, hk7⟩
          clear K HCR
          have K := Lib.hid hk7
          clear hk7
          obtain ⟨s2, hs2⟩ : ∃ s2, s2 = z'.s.crash [] := ⟨_, rfl⟩
          have HS2 := Lib.hid (REST.out [] _ K.out s2 hs2)
          rw [← hs2] at K
          clear hs2
          go_upto_region 17 with (fail)
          refine wp_region_noPanic ?_
          refine wp_region_held_drew (S := fun W => W.cell? ⟨gg, 0, none⟩ = some (.pointer (some ⟨mg, 0, none⟩)) ∧ W.cell? ⟨gg, 2, none⟩ = some (.pointer (some ⟨gw, 0, none⟩))) (by kernel_rfl) ⟨(K.out.drew.gd).cells.1, (K.out.drew.gd).cells.2.2⟩ (fun hHeld => ?_)
          have K2 := Lib.hid K.out.drew
          clear K
          have K := K2
          clear K2
          refine wpAnyH_take (i := 0) (oi := ⟨some 68, _, _, _, _, _⟩) (v := .pointer (some ⟨gg, 0, none⟩)) rfl (by kernel_rfl) (by kernel_rfl) (by kernel_rfl) (fun _ _ _ h => h) (Or.inl ⟨by kernel_rfl, by intro WW hSw; obtain ⟨s0, s1⟩ := hSw; go_simp⟩) (by assumption) ?_
          (try simp only [Act.put, List.setIfInBounds_toArray, List.set_cons_zero, List.set_cons_succ])
          refine wpAnyH_take (i := 1) (oi := ⟨some 69, _, _, _, _, _⟩) (v := .pointer (some ⟨gg, 0, none⟩)) rfl (by kernel_rfl) (by kernel_rfl) (by kernel_rfl) (fun _ _ _ h => h) (Or.inl ⟨by kernel_rfl, by intro WW hSw; obtain ⟨s0, s1⟩ := hSw; go_simp⟩) (by assumption) ?_
          (try simp only [Act.put, List.setIfInBounds_toArray, List.set_cons_zero, List.set_cons_succ])
          refine wpAnyH_take (i := 2) (oi := ⟨some 70, _, _, _, _, _⟩) (v := .pointer (some ⟨gg, 2, none⟩)) rfl (by kernel_rfl) (by kernel_rfl) (by kernel_rfl) (fun _ _ _ h => h) (Or.inl ⟨by kernel_rfl, by intro WW hSw; obtain ⟨s0, s1⟩ := hSw; go_simp⟩) (by assumption) ?_
          (try simp only [Act.put, List.setIfInBounds_toArray, List.set_cons_zero, List.set_cons_succ])
          refine wpAnyH_take (i := 3) (oi := ⟨some 71, _, _, _, _, _⟩) (v := .pointer (some ⟨gw, 0, none⟩)) rfl (by kernel_rfl) (by kernel_rfl) (by kernel_rfl) (fun _ _ _ h => h) (Or.inl ⟨by kernel_rfl, by intro WW hSw; obtain ⟨s0, s1⟩ := hSw; go_simp⟩) (by assumption) ?_
          (try simp only [Act.put, List.setIfInBounds_toArray, List.set_cons_zero, List.set_cons_succ])
          refine wpAnyH_take (i := 4) (oi := ⟨some 72, _, _, _, _, _⟩) (v := .pointer (some ⟨cg, 0, none⟩)) rfl (by kernel_rfl) (by kernel_rfl) (by kernel_rfl) (fun _ _ _ h => h) (Or.inl ⟨by kernel_rfl, by intro WW hSw; obtain ⟨s0, s1⟩ := hSw; go_simp⟩) (by assumption) ?_
          (try simp only [Act.put, List.setIfInBounds_toArray, List.set_cons_zero, List.set_cons_succ])
          refine wpAnyH_one (i := 5) (oi := ⟨_, _, _, _, _, _⟩) rfl (by kernel_rfl) (fun Q hQ => ?_)
          refine step_calls (by rfl) 22 EGImage.out [.tmp 72] _ rfl [.pointer (some ⟨cg, 0, none⟩)] rfl (K.out.image HS2.out.1) ?_
          rintro e x1 ⟨ig, icap, rfl, hir, hib⟩
          have hk := K.out.below hib
          refine ⟨_, rfl, hQ _ _ ⟨(hk.gd).cells.1, (hk.gd).cells.2.2⟩ (fun _ => ?_)⟩
          have hHeld2 := (show (fun W => W.cell? ⟨gg, 0, none⟩ = some (.pointer (some ⟨mg, 0, none⟩)) ∧ W.cell? ⟨gg, 2, none⟩ = some (.pointer (some ⟨gw, 0, none⟩))) x1 from ⟨(hk.gd).cells.1, (hk.gd).cells.2.2⟩)
          clear hHeld hQ Q K
          have K := Lib.hid hk
          have HIR := Lib.hid hir
          clear hk hir hib
          (try simp only [Act.put, List.setIfInBounds_toArray, List.set_cons_zero, List.set_cons_succ])
          have HFI := Lib.hid (K.out.gd.fits HV2.out (by omega) HL2.out HSZ.out HS2.out.2.1 HS2.out.2.2.1 HS2.out.2.2.2 HIR.out (cap := icap))
          refine wpAnyH_one (i := 6) (oi := ⟨_, _, _, _, _, _⟩) rfl (by kernel_rfl) (fun Q hQ => ?_)
          refine step_calls (by rfl) 21 EGr6Fits.out [.tmp 71, .tmp 73] _ rfl [.pointer (some ⟨gw, 0, none⟩), .slice (some ⟨ig, 0, none⟩) (bytesL s2.lasted).length icap] rfl HFI.out ?_
          rintro e x2 ⟨rfl, hk⟩
          refine ⟨_, rfl, hQ _ _ ⟨(hk).cells.1, (hk).cells.2.2⟩ (fun _ => ?_)⟩
          have hHeld := (show (fun W => W.cell? ⟨gg, 0, none⟩ = some (.pointer (some ⟨mg, 0, none⟩)) ∧ W.cell? ⟨gg, 2, none⟩ = some (.pointer (some ⟨gw, 0, none⟩))) x2 from ⟨(hk).cells.1, (hk).cells.2.2⟩)
          clear hHeld2 hQ Q K HIR HFI
          have K := Lib.hid hk
          clear hk
          (try simp only [Act.put, List.setIfInBounds_toArray, List.set_cons_zero, List.set_cons_succ])
          refine wpAnyH_take (i := 7) (oi := ⟨some 75, _, _, _, _, _⟩) (v := .bool false) rfl (by kernel_rfl) (by kernel_rfl) (by kernel_rfl) (fun _ _ _ h => h) (Or.inl ⟨by kernel_rfl, by intro WW hSw; obtain ⟨s0, s1⟩ := hSw; go_simp⟩) (by assumption) ?_
          (try simp only [Act.put, List.setIfInBounds_toArray, List.set_cons_zero, List.set_cons_succ])
          refine wpAnyH_take (i := 8) (oi := ⟨some 76, _, _, _, _, _⟩) (v := .bool false) rfl (by kernel_rfl) (by kernel_rfl) (by kernel_rfl) (fun _ _ _ h => h) (Or.inl ⟨by kernel_rfl, by intro WW hSw; obtain ⟨s0, s1⟩ := hSw; go_simp⟩) (by assumption) ?_
          (try simp only [Act.put, List.setIfInBounds_toArray, List.set_cons_zero, List.set_cons_succ])
          refine wpAnyH_take (i := 9) (oi := ⟨some 77, _, _, _, _, _⟩) (v := .pointer (some ⟨gg, 0, none⟩)) rfl (by kernel_rfl) (by kernel_rfl) (by kernel_rfl) (fun _ _ _ h => h) (Or.inl ⟨by kernel_rfl, by intro WW hSw; obtain ⟨s0, s1⟩ := hSw; go_simp⟩) (by assumption) ?_
          (try simp only [Act.put, List.setIfInBounds_toArray, List.set_cons_zero, List.set_cons_succ])
          refine wpAnyH_take (i := 10) (oi := ⟨some 78, _, _, _, _, _⟩) (v := .pointer (some ⟨gg, 0, none⟩)) rfl (by kernel_rfl) (by kernel_rfl) (by kernel_rfl) (fun _ _ _ h => h) (Or.inl ⟨by kernel_rfl, by intro WW hSw; obtain ⟨s0, s1⟩ := hSw; go_simp⟩) (by assumption) ?_
          (try simp only [Act.put, List.setIfInBounds_toArray, List.set_cons_zero, List.set_cons_succ])
          refine wpAnyH_take (i := 11) (oi := ⟨some 79, _, _, _, _, _⟩) (v := .pointer (some ⟨gg, 2, none⟩)) rfl (by kernel_rfl) (by kernel_rfl) (by kernel_rfl) (fun _ _ _ h => h) (Or.inl ⟨by kernel_rfl, by intro WW hSw; obtain ⟨s0, s1⟩ := hSw; go_simp⟩) (by assumption) ?_
          (try simp only [Act.put, List.setIfInBounds_toArray, List.set_cons_zero, List.set_cons_succ])
          refine wpAnyH_take (i := 12) (oi := ⟨some 80, _, _, _, _, _⟩) (v := .pointer (some ⟨gw, 0, none⟩)) rfl (by kernel_rfl) (by kernel_rfl) (by kernel_rfl) (fun _ _ _ h => h) (Or.inl ⟨by kernel_rfl, by intro WW hSw; obtain ⟨s0, s1⟩ := hSw; go_simp⟩) (by assumption) ?_
          (try simp only [Act.put, List.setIfInBounds_toArray, List.set_cons_zero, List.set_cons_succ])
          refine wpAnyH_take (i := 13) (oi := ⟨some 81, _, _, _, _, _⟩) (v := .pointer (some ⟨gg, 0, none⟩)) rfl (by kernel_rfl) (by kernel_rfl) (by kernel_rfl) (fun _ _ _ h => h) (Or.inl ⟨by kernel_rfl, by intro WW hSw; obtain ⟨s0, s1⟩ := hSw; go_simp⟩) (by assumption) ?_
          (try simp only [Act.put, List.setIfInBounds_toArray, List.set_cons_zero, List.set_cons_succ])
          refine wpAnyH_take (i := 14) (oi := ⟨some 82, _, _, _, _, _⟩) (v := .pointer (some ⟨gg, 0, none⟩)) rfl (by kernel_rfl) (by kernel_rfl) (by kernel_rfl) (fun _ _ _ h => h) (Or.inl ⟨by kernel_rfl, by intro WW hSw; obtain ⟨s0, s1⟩ := hSw; go_simp⟩) (by assumption) ?_
          (try simp only [Act.put, List.setIfInBounds_toArray, List.set_cons_zero, List.set_cons_succ])
          refine wpAnyH_take (i := 15) (oi := ⟨some 83, _, _, _, _, _⟩) (v := .pointer (some ⟨gg, 0, none⟩)) rfl (by kernel_rfl) (by kernel_rfl) (by kernel_rfl) (fun _ _ _ h => h) (Or.inl ⟨by kernel_rfl, by intro WW hSw; obtain ⟨s0, s1⟩ := hSw; go_simp⟩) (by assumption) ?_
          (try simp only [Act.put, List.setIfInBounds_toArray, List.set_cons_zero, List.set_cons_succ])
          refine wpAnyH_take (i := 16) (oi := ⟨some 84, _, _, _, _, _⟩) (v := .pointer (some ⟨mg, 0, none⟩)) rfl (by kernel_rfl) (by kernel_rfl) (by kernel_rfl) (fun _ _ _ h => h) (Or.inl ⟨by kernel_rfl, by intro WW hSw; obtain ⟨s0, s1⟩ := hSw; go_simp⟩) (by assumption) ?_
          (try simp only [Act.put, List.setIfInBounds_toArray, List.set_cons_zero, List.set_cons_succ])
          refine wpAnyH_one (i := 17) (oi := ⟨_, _, _, _, _, _⟩) rfl (by kernel_rfl) (fun Q hQ => ?_)
          refine step_calls (by rfl) 22 EGImage.out [.tmp 84] _ rfl [.pointer (some ⟨mg, 0, none⟩)] rfl (K.out.image HLAS.out) ?_
          rintro e x3 ⟨jg, jcap, rfl, hir, hib⟩
          have hk := K.out.below hib
          refine ⟨_, rfl, hQ _ _ ⟨(hk).cells.1, (hk).cells.2.2⟩ (fun _ => ?_)⟩
          have hHeld2 := (show (fun W => W.cell? ⟨gg, 0, none⟩ = some (.pointer (some ⟨mg, 0, none⟩)) ∧ W.cell? ⟨gg, 2, none⟩ = some (.pointer (some ⟨gw, 0, none⟩))) x3 from ⟨(hk).cells.1, (hk).cells.2.2⟩)
          clear hHeld hQ Q K
          have K := Lib.hid hk
          have HIR := Lib.hid hir
          clear hk hir hib
          (try simp only [Act.put, List.setIfInBounds_toArray, List.set_cons_zero, List.set_cons_succ])
          have HFI := Lib.hid (K.out.fits HV2.out (by omega) HL2.out HSZ.out K.out.ok.2.2.2.1 rfl (fun i _ => FrS.refl _ i) HIR.out (cap := jcap))
          refine wpAnyH_one (i := 18) (oi := ⟨_, _, _, _, _, _⟩) rfl (by kernel_rfl) (fun Q hQ => ?_)
          refine step_calls (by rfl) 21 EGr6Fits.out [.tmp 80, .tmp 85] _ rfl [.pointer (some ⟨gw, 0, none⟩), .slice (some ⟨jg, 0, none⟩) (bytesL z'.s.lasted).length jcap] rfl HFI.out ?_
          rintro e x4 ⟨rfl, hk⟩
          refine ⟨_, rfl, hQ _ _ ⟨(hk).cells.1, (hk).cells.2.2⟩ (fun _ => ?_)⟩
          have hHeld := (show (fun W => W.cell? ⟨gg, 0, none⟩ = some (.pointer (some ⟨mg, 0, none⟩)) ∧ W.cell? ⟨gg, 2, none⟩ = some (.pointer (some ⟨gw, 0, none⟩))) x4 from ⟨(hk).cells.1, (hk).cells.2.2⟩)
          clear hHeld2 hQ Q K HIR HFI
          have K := Lib.hid hk
          clear hk
          (try simp only [Act.put, List.setIfInBounds_toArray, List.set_cons_zero, List.set_cons_succ])
          refine wpAnyH_take (i := 19) (oi := ⟨some 87, _, _, _, _, _⟩) (v := .bool false) rfl (by kernel_rfl) (by kernel_rfl) (by kernel_rfl) (fun _ _ _ h => h) (Or.inl ⟨by kernel_rfl, by intro WW hSw; obtain ⟨s0, s1⟩ := hSw; go_simp⟩) (by assumption) ?_
          (try simp only [Act.put, List.setIfInBounds_toArray, List.set_cons_zero, List.set_cons_succ])
          refine wpAnyH_take (i := 20) (oi := ⟨some 88, _, _, _, _, _⟩) (v := .bool false) rfl (by kernel_rfl) (by kernel_rfl) (by kernel_rfl) (fun _ _ _ h => h) (Or.inl ⟨by kernel_rfl, by intro WW hSw; obtain ⟨s0, s1⟩ := hSw; go_simp⟩) (by assumption) ?_
          (try simp only [Act.put, List.setIfInBounds_toArray, List.set_cons_zero, List.set_cons_succ])
          refine wpAnyH_done (by kernel_rfl) ?_ _
          unfold NoPanic
          clear hHeld
          have HE := Lib.hid (show ∃ z, GD w2 (fun _ => False) w2.heap.size (imL l 0).length gg mg gs gw (RQ z) x4 ∧ Inv6 (i + 1) z ∧ La6 z ∧ z.hs.length = n from ⟨z', K.out, HV2.out, HL2.out, HZ.out⟩)
          clear K
          go_wp2
          exact ⟨⟨i + 1, by omega, by go_num, HE.out⟩, by show n2 - ((i : Int) + 1).toNat < n2 - (i : Int).toNat; omega⟩
        · have e3 : decide ((0 : Int) < (n3 : Int)) = true := by simp; omega
          obtain ⟨ka, rfl, hkp⟩ := HKP.out (by omega)
          have HKQ := Lib.hid hkp
          obtain ⟨r1, hr1⟩ : ∃ r : Nat, (r : Int) = (i : Int) % (n3 : Int) := ⟨((i : Int) % (n3 : Int)).toNat, by have := Int.emod_nonneg (i : Int) (show (n3 : Int) ≠ 0 by omega); omega⟩
          have hrm1 : r1 < n3 := by have := Int.emod_lt_of_pos (i : Int) (show (0 : Int) < (n3 : Int) by omega); omega
          have t1 : (i : Int).tmod (n3 : Int) = (r1 : Int) := by rw [Int.tmod_eq_emod_of_nonneg (by omega)]; exact hr1.symm
          obtain ⟨r2, hr2⟩ : ∃ r : Nat, (r : Int) = ((i : Int) + 1) % (n3 : Int) := ⟨(((i : Int) + 1) % (n3 : Int)).toNat, by have := Int.emod_nonneg ((i : Int) + 1) (show (n3 : Int) ≠ 0 by omega); omega⟩
          have hrm2 : r2 < n3 := by have := Int.emod_lt_of_pos ((i : Int) + 1) (show (0 : Int) < (n3 : Int) by omega); omega
          have t2 : ((i : Int) + 1).tmod (n3 : Int) = (r2 : Int) := by rw [Int.tmod_eq_emod_of_nonneg (by omega)]; exact hr2.symm
          have t3 : IntKind.i64.wrap ((i : Int) + 1) = (i : Int) + 1 := by rw [IntKind.wrap_i64]; omega
          have t4 : IntKind.i64.wrap (r1 : Int) = (r1 : Int) := by rw [IntKind.wrap_i64]; omega
          have t5 : IntKind.i64.wrap (r2 : Int) = (r2 : Int) := by rw [IntKind.wrap_i64]; omega
          have t6 : ¬ n3 = 0 := hn3
          have q1 : (r1 : Int) < (n3 : Int) := by omega
          have q2 : (r2 : Int) < (n3 : Int) := by omega
          obtain ⟨k1, hk1⟩ : ∃ k, k = zs.getD r1 0 := ⟨_, rfl⟩
          obtain ⟨k2, hk2⟩ : ∃ k, k = zs.getD r2 0 := ⟨_, rfl⟩
          have hw1 : (Lit.int .i64 k1).wf = true := by rw [hk1]; exact (hkp w6 HB6.out r1 hrm1).2
          have hw2 : (Lit.int .i64 k2).wf = true := by rw [hk2]; exact (hkp w6 HB6.out r2 hrm2).2
          have HS15 := Lib.hid (show ∀ W, Below w.heap.size w W → W.cell? (ka.add r1) = some (.int .i64 k1) ∧ W.cell? (ka.add r2) = some (.int .i64 k2) from fun W hb => by rw [hk1, hk2]; exact ⟨(hkp W hb r1 hrm1).1, (hkp W hb r2 hrm2).1⟩)
          have HW1 := Lib.hid hw1
          have HW2 := Lib.hid hw2
          clear hkp hr1 hr2 hk1 hk2 hw1 hw2 HKQ
          go_upto_region 15 with (fail)
          refine wp_region_noPanic ?_
          refine wp_region_held_drew (S := fun W => W.cell? (ka.add r1) = some (.int .i64 k1) ∧ W.cell? (ka.add r2) = some (.int .i64 k2)) (by kernel_rfl) (HS15.out _ (Below.and HB6.out (drew_below _))) (fun hHeld => ?_)
          refine wpAnyH_take (i := 0) (oi := ⟨some 48, _, _, _, _, _⟩) (v := .pointer (some ⟨cg, 0, none⟩)) rfl (by kernel_rfl) (by kernel_rfl) (by kernel_rfl) (fun _ _ _ h => h) (Or.inl ⟨by kernel_rfl, by intro WW hSw; obtain ⟨s0, s1⟩ := hSw; go_simp⟩) (by assumption) ?_
          (try simp only [Act.put, List.setIfInBounds_toArray, List.set_cons_zero, List.set_cons_succ])
          refine wpAnyH_take (i := 1) (oi := ⟨some 49, _, _, _, _, _⟩) (v := .slice (some ka) n3 cap3) rfl (by kernel_rfl) (by kernel_rfl) (by kernel_rfl) (fun _ _ _ h => h) (Or.inl ⟨by kernel_rfl, by intro WW hSw; obtain ⟨s0, s1⟩ := hSw; go_simp⟩) (by assumption) ?_
          (try simp only [Act.put, List.setIfInBounds_toArray, List.set_cons_zero, List.set_cons_succ])
          refine wpAnyH_take (i := 2) (oi := ⟨some 50, _, _, _, _, _⟩) (v := .int .i64 (i : Int)) rfl (by kernel_rfl) (by kernel_rfl) (by kernel_rfl) (fun _ _ _ h => h) (Or.inl ⟨by kernel_rfl, by intro WW hSw; obtain ⟨s0, s1⟩ := hSw; go_simp⟩) (by assumption) ?_
          (try simp only [Act.put, List.setIfInBounds_toArray, List.set_cons_zero, List.set_cons_succ])
          refine wpAnyH_take (i := 3) (oi := ⟨some 51, _, _, _, _, _⟩) (v := .slice (some ka) n3 cap3) rfl (by kernel_rfl) (by kernel_rfl) (by kernel_rfl) (fun _ _ _ h => h) (Or.inl ⟨by kernel_rfl, by intro WW hSw; obtain ⟨s0, s1⟩ := hSw; go_simp⟩) (by assumption) ?_
          (try simp only [Act.put, List.setIfInBounds_toArray, List.set_cons_zero, List.set_cons_succ])
          refine wpAnyH_take (i := 4) (oi := ⟨some 52, _, _, _, _, _⟩) (v := .int .i64 (n3 : Int)) rfl (by kernel_rfl) (by kernel_rfl) (by kernel_rfl) (fun _ _ _ h => h) (Or.inl ⟨by kernel_rfl, by intro WW hSw; obtain ⟨s0, s1⟩ := hSw; go_simp⟩) (by assumption) ?_
          (try simp only [Act.put, List.setIfInBounds_toArray, List.set_cons_zero, List.set_cons_succ])
          refine wpAnyH_take (i := 5) (oi := ⟨some 53, _, _, _, _, _⟩) (v := .int .i64 (r1 : Int)) rfl (by kernel_rfl) (by kernel_rfl) (by kernel_rfl) (fun _ _ _ h => h) (Or.inl ⟨by kernel_rfl, by intro WW hSw; obtain ⟨s0, s1⟩ := hSw; go_simp⟩) (by assumption) ?_
          (try simp only [Act.put, List.setIfInBounds_toArray, List.set_cons_zero, List.set_cons_succ])
          refine wpAnyH_take (i := 6) (oi := ⟨some 54, _, _, _, _, _⟩) (v := .pointer (some (ka.add r1))) rfl (by kernel_rfl) (by kernel_rfl) (by kernel_rfl) (fun _ _ _ h => h) (Or.inl ⟨by kernel_rfl, by intro WW hSw; obtain ⟨s0, s1⟩ := hSw; go_simp⟩) (by assumption) ?_
          (try simp only [Act.put, List.setIfInBounds_toArray, List.set_cons_zero, List.set_cons_succ])
          refine wpAnyH_take (i := 7) (oi := ⟨some 55, _, _, _, _, _⟩) (v := .int .i64 k1) rfl (by kernel_rfl) (by kernel_rfl) (by kernel_rfl) (fun _ _ _ h => h) (Or.inl ⟨by kernel_rfl, by intro WW hSw; obtain ⟨s0, s1⟩ := hSw; go_simp⟩) (by assumption) ?_
          (try simp only [Act.put, List.setIfInBounds_toArray, List.set_cons_zero, List.set_cons_succ])
          refine wpAnyH_take (i := 8) (oi := ⟨some 56, _, _, _, _, _⟩) (v := .slice (some ka) n3 cap3) rfl (by kernel_rfl) (by kernel_rfl) (by kernel_rfl) (fun _ _ _ h => h) (Or.inl ⟨by kernel_rfl, by intro WW hSw; obtain ⟨s0, s1⟩ := hSw; go_simp⟩) (by assumption) ?_
          (try simp only [Act.put, List.setIfInBounds_toArray, List.set_cons_zero, List.set_cons_succ])
          refine wpAnyH_take (i := 9) (oi := ⟨some 57, _, _, _, _, _⟩) (v := .int .i64 (i : Int)) rfl (by kernel_rfl) (by kernel_rfl) (by kernel_rfl) (fun _ _ _ h => h) (Or.inl ⟨by kernel_rfl, by intro WW hSw; obtain ⟨s0, s1⟩ := hSw; go_simp⟩) (by assumption) ?_
          (try simp only [Act.put, List.setIfInBounds_toArray, List.set_cons_zero, List.set_cons_succ])
          refine wpAnyH_take (i := 10) (oi := ⟨some 58, _, _, _, _, _⟩) (v := .int .i64 ((i : Int) + 1)) rfl (by kernel_rfl) (by kernel_rfl) (by kernel_rfl) (fun _ _ _ h => h) (Or.inl ⟨by kernel_rfl, by intro WW hSw; obtain ⟨s0, s1⟩ := hSw; go_simp⟩) (by assumption) ?_
          (try simp only [Act.put, List.setIfInBounds_toArray, List.set_cons_zero, List.set_cons_succ])
          refine wpAnyH_take (i := 11) (oi := ⟨some 59, _, _, _, _, _⟩) (v := .slice (some ka) n3 cap3) rfl (by kernel_rfl) (by kernel_rfl) (by kernel_rfl) (fun _ _ _ h => h) (Or.inl ⟨by kernel_rfl, by intro WW hSw; obtain ⟨s0, s1⟩ := hSw; go_simp⟩) (by assumption) ?_
          (try simp only [Act.put, List.setIfInBounds_toArray, List.set_cons_zero, List.set_cons_succ])
          refine wpAnyH_take (i := 12) (oi := ⟨some 60, _, _, _, _, _⟩) (v := .int .i64 (n3 : Int)) rfl (by kernel_rfl) (by kernel_rfl) (by kernel_rfl) (fun _ _ _ h => h) (Or.inl ⟨by kernel_rfl, by intro WW hSw; obtain ⟨s0, s1⟩ := hSw; go_simp⟩) (by assumption) ?_
          (try simp only [Act.put, List.setIfInBounds_toArray, List.set_cons_zero, List.set_cons_succ])
          refine wpAnyH_take (i := 13) (oi := ⟨some 61, _, _, _, _, _⟩) (v := .int .i64 (r2 : Int)) rfl (by kernel_rfl) (by kernel_rfl) (by kernel_rfl) (fun _ _ _ h => h) (Or.inl ⟨by kernel_rfl, by intro WW hSw; obtain ⟨s0, s1⟩ := hSw; go_simp⟩) (by assumption) ?_
          (try simp only [Act.put, List.setIfInBounds_toArray, List.set_cons_zero, List.set_cons_succ])
          refine wpAnyH_take (i := 14) (oi := ⟨some 62, _, _, _, _, _⟩) (v := .pointer (some (ka.add r2))) rfl (by kernel_rfl) (by kernel_rfl) (by kernel_rfl) (fun _ _ _ h => h) (Or.inl ⟨by kernel_rfl, by intro WW hSw; obtain ⟨s0, s1⟩ := hSw; go_simp⟩) (by assumption) ?_
          (try simp only [Act.put, List.setIfInBounds_toArray, List.set_cons_zero, List.set_cons_succ])
          refine wpAnyH_take (i := 15) (oi := ⟨some 63, _, _, _, _, _⟩) (v := .int .i64 k2) rfl (by kernel_rfl) (by kernel_rfl) (by kernel_rfl) (fun _ _ _ h => h) (Or.inl ⟨by kernel_rfl, by intro WW hSw; obtain ⟨s0, s1⟩ := hSw; go_simp⟩) (by assumption) ?_
          (try simp only [Act.put, List.setIfInBounds_toArray, List.set_cons_zero, List.set_cons_succ])
          refine wpAnyH_one (i := 16) (oi := ⟨_, _, _, _, _, _⟩) rfl (by kernel_rfl) (fun Q hQ => ?_)
          go_simp
          obtain ⟨wb, hwb⟩ : ∃ wb, wb = (w6.alloc (.cells #[.int .i64 k1, .int .i64 k2] 3)).drew := ⟨_, rfl⟩
          have hbb : Below w6.heap.size w6 wb := by rw [hwb]; exact Below.and (alloc_below _ _) (drew_below _)
          obtain ⟨bg, hbg⟩ : ∃ bg, bg = w6.heap.size := ⟨_, rfl⟩
          have hrow : Row wb bg 3 #[.int .i64 k1, .int .i64 k2] := by rw [hwb, hbg]; exact Row.new _ _ _
          rw [← hwb]
          (try rw [← hbg])
          have hk := K.out.below hbb
          have HCR := Lib.hid (hk.crash [k1, k2] (some ⟨bg, 0, none⟩) 2 (fun j u hj => ⟨⟨bg, 0, none⟩, rfl, by rw [Addr.add_lit, Nat.zero_add, hrow.cell]; simpa [iv] using hj⟩) (fun a ha _ => by cases ha; exact ⟨_, hrow⟩) (by simp) (fun z hz => by simp at hz; rcases hz with rfl | rfl; exact HW1.out; exact HW2.out))
          refine hQ _ _ (HS15.out _ (Below.and HB6.out hbb)) (fun _ => ?_)
          have hHeld2 := HS15.out _ (Below.and HB6.out hbb)
          clear hHeld hQ Q K hk hwb hbb hrow
          (try simp only [Act.put, List.setIfInBounds_toArray, List.set_cons_zero, List.set_cons_succ])
          refine wpAnyH_one (i := 17) (oi := ⟨_, _, _, _, _, _⟩) rfl (by kernel_rfl) (fun Q hQ => ?_)
          refine step_calls (by rfl) 20 EGCrash.out [.tmp 48, .tmp 64] _ rfl [.pointer (some ⟨cg, 0, none⟩), .slice (some ⟨bg, 0, none⟩) 2 2] rfl HCR.out ?_
          rintro e x2 ⟨rfl, hk7⟩
          refine ⟨_, rfl, hQ _ _ (HS15.out _ (Below.and HB2.out hk7.gd.low)) (fun _ => ?_)⟩
          clear hHeld2 hQ Q HCR
          have K := Lib.hid hk7
          clear hk7
          (try simp only [Act.put, List.setIfInBounds_toArray, List.set_cons_zero, List.set_cons_succ])
          refine wpAnyH_done (by kernel_rfl) ?_ _
          unfold NoPanic
          go_wp2
          obtain ⟨s2, hs2⟩ : ∃ s2, s2 = z'.s.crash [k1, k2] := ⟨_, rfl⟩
          have HS2 := Lib.hid (REST.out [k1, k2] _ K.out s2 hs2)
          rw [← hs2] at K
          clear hs2
          go_upto_region 17 with (fail)
          refine wp_region_noPanic ?_
          refine wp_region_held_drew (S := fun W => W.cell? ⟨gg, 0, none⟩ = some (.pointer (some ⟨mg, 0, none⟩)) ∧ W.cell? ⟨gg, 2, none⟩ = some (.pointer (some ⟨gw, 0, none⟩))) (by kernel_rfl) ⟨(K.out.drew.gd).cells.1, (K.out.drew.gd).cells.2.2⟩ (fun hHeld => ?_)
          have K2 := Lib.hid K.out.drew
          clear K
          have K := K2
          clear K2
          refine wpAnyH_take (i := 0) (oi := ⟨some 68, _, _, _, _, _⟩) (v := .pointer (some ⟨gg, 0, none⟩)) rfl (by kernel_rfl) (by kernel_rfl) (by kernel_rfl) (fun _ _ _ h => h) (Or.inl ⟨by kernel_rfl, by intro WW hSw; obtain ⟨s0, s1⟩ := hSw; go_simp⟩) (by assumption) ?_
          (try simp only [Act.put, List.setIfInBounds_toArray, List.set_cons_zero, List.set_cons_succ])
          refine wpAnyH_take (i := 1) (oi := ⟨some 69, _, _, _, _, _⟩) (v := .pointer (some ⟨gg, 0, none⟩)) rfl (by kernel_rfl) (by kernel_rfl) (by kernel_rfl) (fun _ _ _ h => h) (Or.inl ⟨by kernel_rfl, by intro WW hSw; obtain ⟨s0, s1⟩ := hSw; go_simp⟩) (by assumption) ?_
          (try simp only [Act.put, List.setIfInBounds_toArray, List.set_cons_zero, List.set_cons_succ])
          refine wpAnyH_take (i := 2) (oi := ⟨some 70, _, _, _, _, _⟩) (v := .pointer (some ⟨gg, 2, none⟩)) rfl (by kernel_rfl) (by kernel_rfl) (by kernel_rfl) (fun _ _ _ h => h) (Or.inl ⟨by kernel_rfl, by intro WW hSw; obtain ⟨s0, s1⟩ := hSw; go_simp⟩) (by assumption) ?_
          (try simp only [Act.put, List.setIfInBounds_toArray, List.set_cons_zero, List.set_cons_succ])
          refine wpAnyH_take (i := 3) (oi := ⟨some 71, _, _, _, _, _⟩) (v := .pointer (some ⟨gw, 0, none⟩)) rfl (by kernel_rfl) (by kernel_rfl) (by kernel_rfl) (fun _ _ _ h => h) (Or.inl ⟨by kernel_rfl, by intro WW hSw; obtain ⟨s0, s1⟩ := hSw; go_simp⟩) (by assumption) ?_
          (try simp only [Act.put, List.setIfInBounds_toArray, List.set_cons_zero, List.set_cons_succ])
          refine wpAnyH_take (i := 4) (oi := ⟨some 72, _, _, _, _, _⟩) (v := .pointer (some ⟨cg, 0, none⟩)) rfl (by kernel_rfl) (by kernel_rfl) (by kernel_rfl) (fun _ _ _ h => h) (Or.inl ⟨by kernel_rfl, by intro WW hSw; obtain ⟨s0, s1⟩ := hSw; go_simp⟩) (by assumption) ?_
          (try simp only [Act.put, List.setIfInBounds_toArray, List.set_cons_zero, List.set_cons_succ])
          refine wpAnyH_one (i := 5) (oi := ⟨_, _, _, _, _, _⟩) rfl (by kernel_rfl) (fun Q hQ => ?_)
          refine step_calls (by rfl) 22 EGImage.out [.tmp 72] _ rfl [.pointer (some ⟨cg, 0, none⟩)] rfl (K.out.image HS2.out.1) ?_
          rintro e x1 ⟨ig, icap, rfl, hir, hib⟩
          have hk := K.out.below hib
          refine ⟨_, rfl, hQ _ _ ⟨(hk.gd).cells.1, (hk.gd).cells.2.2⟩ (fun _ => ?_)⟩
          have hHeld2 := (show (fun W => W.cell? ⟨gg, 0, none⟩ = some (.pointer (some ⟨mg, 0, none⟩)) ∧ W.cell? ⟨gg, 2, none⟩ = some (.pointer (some ⟨gw, 0, none⟩))) x1 from ⟨(hk.gd).cells.1, (hk.gd).cells.2.2⟩)
          clear hHeld hQ Q K
          have K := Lib.hid hk
          have HIR := Lib.hid hir
          clear hk hir hib
          (try simp only [Act.put, List.setIfInBounds_toArray, List.set_cons_zero, List.set_cons_succ])
          have HFI := Lib.hid (K.out.gd.fits HV2.out (by omega) HL2.out HSZ.out HS2.out.2.1 HS2.out.2.2.1 HS2.out.2.2.2 HIR.out (cap := icap))
          refine wpAnyH_one (i := 6) (oi := ⟨_, _, _, _, _, _⟩) rfl (by kernel_rfl) (fun Q hQ => ?_)
          refine step_calls (by rfl) 21 EGr6Fits.out [.tmp 71, .tmp 73] _ rfl [.pointer (some ⟨gw, 0, none⟩), .slice (some ⟨ig, 0, none⟩) (bytesL s2.lasted).length icap] rfl HFI.out ?_
          rintro e x2 ⟨rfl, hk⟩
          refine ⟨_, rfl, hQ _ _ ⟨(hk).cells.1, (hk).cells.2.2⟩ (fun _ => ?_)⟩
          have hHeld := (show (fun W => W.cell? ⟨gg, 0, none⟩ = some (.pointer (some ⟨mg, 0, none⟩)) ∧ W.cell? ⟨gg, 2, none⟩ = some (.pointer (some ⟨gw, 0, none⟩))) x2 from ⟨(hk).cells.1, (hk).cells.2.2⟩)
          clear hHeld2 hQ Q K HIR HFI
          have K := Lib.hid hk
          clear hk
          (try simp only [Act.put, List.setIfInBounds_toArray, List.set_cons_zero, List.set_cons_succ])
          refine wpAnyH_take (i := 7) (oi := ⟨some 75, _, _, _, _, _⟩) (v := .bool false) rfl (by kernel_rfl) (by kernel_rfl) (by kernel_rfl) (fun _ _ _ h => h) (Or.inl ⟨by kernel_rfl, by intro WW hSw; obtain ⟨s0, s1⟩ := hSw; go_simp⟩) (by assumption) ?_
          (try simp only [Act.put, List.setIfInBounds_toArray, List.set_cons_zero, List.set_cons_succ])
          refine wpAnyH_take (i := 8) (oi := ⟨some 76, _, _, _, _, _⟩) (v := .bool false) rfl (by kernel_rfl) (by kernel_rfl) (by kernel_rfl) (fun _ _ _ h => h) (Or.inl ⟨by kernel_rfl, by intro WW hSw; obtain ⟨s0, s1⟩ := hSw; go_simp⟩) (by assumption) ?_
          (try simp only [Act.put, List.setIfInBounds_toArray, List.set_cons_zero, List.set_cons_succ])
          refine wpAnyH_take (i := 9) (oi := ⟨some 77, _, _, _, _, _⟩) (v := .pointer (some ⟨gg, 0, none⟩)) rfl (by kernel_rfl) (by kernel_rfl) (by kernel_rfl) (fun _ _ _ h => h) (Or.inl ⟨by kernel_rfl, by intro WW hSw; obtain ⟨s0, s1⟩ := hSw; go_simp⟩) (by assumption) ?_
          (try simp only [Act.put, List.setIfInBounds_toArray, List.set_cons_zero, List.set_cons_succ])
          refine wpAnyH_take (i := 10) (oi := ⟨some 78, _, _, _, _, _⟩) (v := .pointer (some ⟨gg, 0, none⟩)) rfl (by kernel_rfl) (by kernel_rfl) (by kernel_rfl) (fun _ _ _ h => h) (Or.inl ⟨by kernel_rfl, by intro WW hSw; obtain ⟨s0, s1⟩ := hSw; go_simp⟩) (by assumption) ?_
          (try simp only [Act.put, List.setIfInBounds_toArray, List.set_cons_zero, List.set_cons_succ])
          refine wpAnyH_take (i := 11) (oi := ⟨some 79, _, _, _, _, _⟩) (v := .pointer (some ⟨gg, 2, none⟩)) rfl (by kernel_rfl) (by kernel_rfl) (by kernel_rfl) (fun _ _ _ h => h) (Or.inl ⟨by kernel_rfl, by intro WW hSw; obtain ⟨s0, s1⟩ := hSw; go_simp⟩) (by assumption) ?_
          (try simp only [Act.put, List.setIfInBounds_toArray, List.set_cons_zero, List.set_cons_succ])
          refine wpAnyH_take (i := 12) (oi := ⟨some 80, _, _, _, _, _⟩) (v := .pointer (some ⟨gw, 0, none⟩)) rfl (by kernel_rfl) (by kernel_rfl) (by kernel_rfl) (fun _ _ _ h => h) (Or.inl ⟨by kernel_rfl, by intro WW hSw; obtain ⟨s0, s1⟩ := hSw; go_simp⟩) (by assumption) ?_
          (try simp only [Act.put, List.setIfInBounds_toArray, List.set_cons_zero, List.set_cons_succ])
          refine wpAnyH_take (i := 13) (oi := ⟨some 81, _, _, _, _, _⟩) (v := .pointer (some ⟨gg, 0, none⟩)) rfl (by kernel_rfl) (by kernel_rfl) (by kernel_rfl) (fun _ _ _ h => h) (Or.inl ⟨by kernel_rfl, by intro WW hSw; obtain ⟨s0, s1⟩ := hSw; go_simp⟩) (by assumption) ?_
          (try simp only [Act.put, List.setIfInBounds_toArray, List.set_cons_zero, List.set_cons_succ])
          refine wpAnyH_take (i := 14) (oi := ⟨some 82, _, _, _, _, _⟩) (v := .pointer (some ⟨gg, 0, none⟩)) rfl (by kernel_rfl) (by kernel_rfl) (by kernel_rfl) (fun _ _ _ h => h) (Or.inl ⟨by kernel_rfl, by intro WW hSw; obtain ⟨s0, s1⟩ := hSw; go_simp⟩) (by assumption) ?_
          (try simp only [Act.put, List.setIfInBounds_toArray, List.set_cons_zero, List.set_cons_succ])
          refine wpAnyH_take (i := 15) (oi := ⟨some 83, _, _, _, _, _⟩) (v := .pointer (some ⟨gg, 0, none⟩)) rfl (by kernel_rfl) (by kernel_rfl) (by kernel_rfl) (fun _ _ _ h => h) (Or.inl ⟨by kernel_rfl, by intro WW hSw; obtain ⟨s0, s1⟩ := hSw; go_simp⟩) (by assumption) ?_
          (try simp only [Act.put, List.setIfInBounds_toArray, List.set_cons_zero, List.set_cons_succ])
          refine wpAnyH_take (i := 16) (oi := ⟨some 84, _, _, _, _, _⟩) (v := .pointer (some ⟨mg, 0, none⟩)) rfl (by kernel_rfl) (by kernel_rfl) (by kernel_rfl) (fun _ _ _ h => h) (Or.inl ⟨by kernel_rfl, by intro WW hSw; obtain ⟨s0, s1⟩ := hSw; go_simp⟩) (by assumption) ?_
          (try simp only [Act.put, List.setIfInBounds_toArray, List.set_cons_zero, List.set_cons_succ])
          refine wpAnyH_one (i := 17) (oi := ⟨_, _, _, _, _, _⟩) rfl (by kernel_rfl) (fun Q hQ => ?_)
          refine step_calls (by rfl) 22 EGImage.out [.tmp 84] _ rfl [.pointer (some ⟨mg, 0, none⟩)] rfl (K.out.image HLAS.out) ?_
          rintro e x3 ⟨jg, jcap, rfl, hir, hib⟩
          have hk := K.out.below hib
          refine ⟨_, rfl, hQ _ _ ⟨(hk).cells.1, (hk).cells.2.2⟩ (fun _ => ?_)⟩
          have hHeld2 := (show (fun W => W.cell? ⟨gg, 0, none⟩ = some (.pointer (some ⟨mg, 0, none⟩)) ∧ W.cell? ⟨gg, 2, none⟩ = some (.pointer (some ⟨gw, 0, none⟩))) x3 from ⟨(hk).cells.1, (hk).cells.2.2⟩)
          clear hHeld hQ Q K
          have K := Lib.hid hk
          have HIR := Lib.hid hir
          clear hk hir hib
          (try simp only [Act.put, List.setIfInBounds_toArray, List.set_cons_zero, List.set_cons_succ])
          have HFI := Lib.hid (K.out.fits HV2.out (by omega) HL2.out HSZ.out K.out.ok.2.2.2.1 rfl (fun i _ => FrS.refl _ i) HIR.out (cap := jcap))
          refine wpAnyH_one (i := 18) (oi := ⟨_, _, _, _, _, _⟩) rfl (by kernel_rfl) (fun Q hQ => ?_)
          refine step_calls (by rfl) 21 EGr6Fits.out [.tmp 80, .tmp 85] _ rfl [.pointer (some ⟨gw, 0, none⟩), .slice (some ⟨jg, 0, none⟩) (bytesL z'.s.lasted).length jcap] rfl HFI.out ?_
          rintro e x4 ⟨rfl, hk⟩
          refine ⟨_, rfl, hQ _ _ ⟨(hk).cells.1, (hk).cells.2.2⟩ (fun _ => ?_)⟩
          have hHeld := (show (fun W => W.cell? ⟨gg, 0, none⟩ = some (.pointer (some ⟨mg, 0, none⟩)) ∧ W.cell? ⟨gg, 2, none⟩ = some (.pointer (some ⟨gw, 0, none⟩))) x4 from ⟨(hk).cells.1, (hk).cells.2.2⟩)
          clear hHeld2 hQ Q K HIR HFI
          have K := Lib.hid hk
          clear hk
          (try simp only [Act.put, List.setIfInBounds_toArray, List.set_cons_zero, List.set_cons_succ])
          refine wpAnyH_take (i := 19) (oi := ⟨some 87, _, _, _, _, _⟩) (v := .bool false) rfl (by kernel_rfl) (by kernel_rfl) (by kernel_rfl) (fun _ _ _ h => h) (Or.inl ⟨by kernel_rfl, by intro WW hSw; obtain ⟨s0, s1⟩ := hSw; go_simp⟩) (by assumption) ?_
          (try simp only [Act.put, List.setIfInBounds_toArray, List.set_cons_zero, List.set_cons_succ])
          refine wpAnyH_take (i := 20) (oi := ⟨some 88, _, _, _, _, _⟩) (v := .bool false) rfl (by kernel_rfl) (by kernel_rfl) (by kernel_rfl) (fun _ _ _ h => h) (Or.inl ⟨by kernel_rfl, by intro WW hSw; obtain ⟨s0, s1⟩ := hSw; go_simp⟩) (by assumption) ?_
          (try simp only [Act.put, List.setIfInBounds_toArray, List.set_cons_zero, List.set_cons_succ])
          refine wpAnyH_done (by kernel_rfl) ?_ _
          unfold NoPanic
          clear hHeld
          have HE := Lib.hid (show ∃ z, GD w2 (fun _ => False) w2.heap.size (imL l 0).length gg mg gs gw (RQ z) x4 ∧ Inv6 (i + 1) z ∧ La6 z ∧ z.hs.length = n from ⟨z', K.out, HV2.out, HL2.out, HZ.out⟩)
          clear K
          go_wp2
          exact ⟨⟨i + 1, by omega, by go_num, HE.out⟩, by show n2 - ((i : Int) + 1).toNat < n2 - (i : Int).toNat; omega⟩
      · have e1 : decide ((i : Int) < (n2 : Int)) = false := by simp; omega
        go_wp2_with fail
        refine (known6_any wr (HR.out.below HBr.out)).mono ?_
        rintro e w6 ⟨rfl, hb⟩
        have HB6 := Lib.hid (Below.and HBr.out hb)
        clear hb
        go_wp2
        go_ret
        exact ⟨rfl, HB6.out⟩

theorem slabLasts_any (A3 : Option Addr) (n3 cap3 : Nat) (zs : List Int) (w : World) {A1 A2 : Option Addr} {n1 cap1 n2 cap2 : Nat} {l : List (Nat × Nat)} {acts : List Ac6} (hH : HeadsIn w A1 n1 cap1 l) (hS : Acts6In w A2 n2 cap2 acts) (hK : InRow .i64 w A3 n3 cap3 zs) (R : Rms w) :
    Calls Tryz.prog 5 #[.slice A1 n1 cap1, .slice A2 n2 cap2, .slice A3 n3 cap3] w fun e w' => e = .returned (.bool true) ∧ Below w.heap.size w w' := by
  obtain ⟨rfl, hc, hn, hA, hf⟩ := hH
  by_cases h : 1 ≤ l.length ∧ l.length ≤ 4 ∧ (n2 : Int) ≤ 80
  · obtain ⟨ga, rfl, hg⟩ := hA (by omega)
    exact slabLasts_in hg (by omega) h.2.1 hc hf hS (by omega) hK R
  · exact slabLasts_out h hn hS.2.2.1 R
end Go.Proofs.YtahojhaeebmpoaaGreatDoor
