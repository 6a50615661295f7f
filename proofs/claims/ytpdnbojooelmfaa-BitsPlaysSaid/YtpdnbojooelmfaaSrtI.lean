/- pdqsortOrdered, slices.Sort of words: what they leave is rising, and the same elements; of at most 10^9. -/
import Derived.Test.YtpdnbojooelmfaaSrtC
import Derived.Test.YtpdnbojooelmfaaSrtE
import Derived.Test.YtpdnbojooelmfaaSrtF
import Derived.Test.YtpdnbojooelmfaaSrtG
import Derived.Test.YtpdnbojooelmfaaSrtH
namespace Go.Proofs.Ytpdnbojooelmfaa
open Go.RowKit
set_option linter.unusedVariables false
def PdqEnd (w0 : World) (h off z n a b : Nat) (d : Array Nat) (e : Ending) (w' : World) : Prop := e = .returned (.tuple #[]) ∧ ∃ d', Sort.PermIn a b d d' ∧ Sort.SortedIn ltN a b d' ∧ SwA w0 w' h off z n d'
/-- What is sorted of a part makes the whole sorted. -/
def Glue (a b : Nat) (d : Array Nat) (a' b' : Nat) (dk : Array Nat) : Prop := ∀ R, Sort.PermIn a' b' dk R → Sort.SortedIn ltN a' b' R → Sort.PermIn a b d R ∧ Sort.SortedIn ltN a b R
def PdqInv (w0 : World) (h off z n a b : Nat) (d : Array Nat) (k : Nat) (s1 s2 s3 s8 s9 : Value) (wr : World) : Prop :=
  ∃ (a' b' lim : Nat) (wb wp : Bool) (dk : Array Nat), s1 = .int .i64 (a' : Int) ∧ s2 = .int .i64 (b' : Int) ∧ s3 = .int .i64 (lim : Int) ∧ s8 = .bool wb ∧ s9 = .bool wp ∧ a' ≤ b' ∧ b' ≤ n ∧ b' - a' ≤ k ∧ b' - a' ≤ b - a ∧ lim ≤ 1000 ∧
    Sort.Below ltN a' b' dk ∧ SwA w0 wr h off z n dk ∧ Glue a b d a' b' dk
theorem glue_perm {a b a' b' : Nat} {d dk dl : Array Nat} (h : Glue a b d a' b' dk) (hp : Sort.PermIn a' b' dk dl) : Glue a b d a' b' dl := fun R h1 h2 => h R (Sort.permIn_trans _ _ _ _ _ hp h1) h2
def Cut35 (w0 : World) (h off z n a b : Nat) (d : Array Nat) (s3 : Value) (wx : World) : Prop := ∃ (lim : Nat) (d1 : Array Nat), s3 = .int .i64 (lim : Int) ∧ lim ≤ 1000 ∧ Sort.PermIn a b d d1 ∧ SwA w0 wx h off z n d1
def Cut50 (w0 : World) (h off z n a b : Nat) (d : Array Nat) (s11 s12 : Value) (wx : World) : Prop := ∃ (p : Nat) (t : Int) (d1 : Array Nat), s11 = .int .i64 (p : Int) ∧ s12 = .int .i64 t ∧ a ≤ p ∧ p < b ∧ Sort.PermIn a b d d1 ∧ SwA w0 wx h off z n d1
def Cut68 (w0 : World) (h off z n a b : Nat) (d : Array Nat) (wx : World) : Prop := ∃ d1 : Array Nat, Sort.PermIn a b d d1 ∧ SwA w0 wx h off z n d1
def PdqN (N : Nat) : Prop := ∀ (w : World) (h off z cap n : Nat) (d : Array Nat), SwA w w h off z n d → n ≤ 1000000000 → ∀ (a b limit : Nat), a ≤ b → b ≤ n → limit ≤ 1000 → Sort.Below ltN a b d → b - a < N →
  Calls Try.prog 34 #[.slice (some ⟨h, off, none⟩) n cap, .int .i64 (a : Int), .int .i64 (b : Int), .int .i64 (limit : Int)] w (PdqEnd w h off z n a b d)
set_option maxRecDepth 100000 in
set_option maxHeartbeats 16000000 in
theorem pdq_all (N : Nat) : PdqN N := by
  induction N with
  | zero => intro w h off z cap n d hA hn a b limit hab hb hlim hB hN; omega
  | succ N IH =>
  intro w h off z cap n d hA hn a b limit hab hb hlim hB hN
  have H0 := Lib.hid hA
  have HB0 := Lib.hid hB
  have HIH := Lib.hid IH
  clear hA hB IH
  go_enter Try.func34, Try.ntmps34
  go_wp2
  go_loopg [1, 2, 3, 8, 9] (b - a) (fun k s1 s2 s3 s8 s9 wr => PdqInv w h off z n a b d k s1 s2 s3 s8 s9 wr)
  case atStart => exact ⟨a, b, limit, true, true, d, rfl, rfl, rfl, rfl, rfl, hab, hb, Nat.le_refl _, Nat.le_refl _, hlim, HB0.out, H0.out, fun R h1 h2 => ⟨h1, h2⟩⟩
  case round =>
    obtain ⟨A, B, lim, wb, wp, dk, rfl, rfl, rfl, rfl, rfl, hAB, hBn, hk, hkN, hlimk, hBe, hS, hG⟩ := hrel
    have HS := Lib.hid hS
    have HG := Lib.hid hG
    have HBe := Lib.hid hBe
    have hdk : dk.size = n := hS.2.1
    have HDK := Lib.hid hdk
    obtain ⟨L, hL⟩ : ∃ L, L = B - A := ⟨_, rfl⟩
    have hLz : (B : Int) - (A : Int) = (L : Int) := by omega
    have l1 : L ≤ B - A := by omega
    have l2 : B - A ≤ L := by omega
    clear hS hG hBe hL hdk
    by_cases h12 : L ≤ 12
    · have h12z : decide ((L : Int) ≤ 12) = true := by simp; omega
      have HI := Lib.hid (insSort_any (cap := cap) HS.out.here (by omega) hAB hBn)
      go_wp2_with fail
      refine HI.out.mono ?_
      rintro e w1 ⟨rfl, hS1⟩
      have HE : Hid (PdqEnd w h off z n a b d (.returned (.tuple #[])) w1) := Lib.hid (by
        obtain ⟨hp, hs⟩ := Sort.insertionSort_holds swo_ltN dk A B hAB (by rw [HDK.out]; exact hBn)
        obtain ⟨g1, g2⟩ := HG.out _ hp hs
        exact ⟨rfl, _, g1, g2, HS.out.then hS1⟩)
      clear hS1
      go_wp2
      (try simp only [Exit.inBlock, Exit.then])
      refine bodyPost_ret (results_none rfl _ _ _) rfl ?_
      exact HE.out
    · have h12z : decide ((L : Int) ≤ 12) = false := by simp; omega
      by_cases hl0 : lim = 0
      · subst hl0
        have HI := Lib.hid (heapSort_any (cap := cap) HS.out.here hn (a := A) (b := B) (by omega) hBn)
        go_wp2_with fail
        refine HI.out.mono ?_
        rintro e w1 ⟨rfl, hS1⟩
        have HE : Hid (PdqEnd w h off z n a b d (.returned (.tuple #[])) w1) := Lib.hid (by
          obtain ⟨hp, hs⟩ := Sort.heapSort_holds swo_ltN dk A B hAB (by rw [HDK.out]; exact hBn)
          obtain ⟨g1, g2⟩ := HG.out _ hp hs
          exact ⟨rfl, _, g1, g2, HS.out.then hS1⟩)
        clear hS1
        go_wp2
        (try simp only [Exit.inBlock, Exit.then])
        refine bodyPost_ret (results_none rfl _ _ _) rfl ?_
        exact HE.out
      · have hl0b : ((lim : Int) == 0) = false := by
          rw [Bool.eq_false_iff]
          intro hh
          have := beq_iff_eq.1 hh
          omega
        have HAL := Lib.hid (show ((A + L : Nat) : Int) = (B : Int) from by omega)
        have HALn := Lib.hid (show A + L = B from by omega)
        go_upto_if 35 with (fail)
        go_cut [3] (fun s3 wx => Cut35 w h off z n A B dk s3 wx)
        case first =>
          cases wb with
          | true =>
            have HF : Hid (Cut35 w h off z n A B dk (.int .i64 (lim : Int)) wr) := Lib.hid ⟨lim, dk, rfl, hlimk, Sort.permIn_refl _ _ _, HS.out⟩
            go_wp2_with fail
            go_meet
            exact HF.out
          | false =>
            have HI := breakPat_any (cap := cap) HS.out.here hn (a := A) (L := L) (by omega) (by omega)
            rw [HAL.out, HALn.out] at HI
            have HI := Lib.hid HI
            go_wp2_with fail
            refine HI.out.mono ?_
            rintro e w1 ⟨rfl, d1, hP1, hS1⟩
            have HF : Hid (Cut35 w h off z n A B dk (.int .i64 ((lim : Int) - 1)) w1) := Lib.hid ⟨lim - 1, d1, by congr 1; omega, by omega, hP1, HS.out.then hS1⟩
            clear hP1 hS1
            go_wp2_with fail
            go_meet
            exact HF.out
        case rest =>
          obtain ⟨lim2, d1, rfl, hlim2, hP1, hS1⟩ := hcut
          have HP1 := Lib.hid hP1
          have HS1 := Lib.hid hS1
          clear hP1 hS1
          have HI := choosePiv_any (cap := cap) HS1.out.here hn (a := A) (L := L) (by omega) (by omega)
          rw [HAL.out, HALn.out] at HI
          have HI := Lib.hid HI
          go_wp2_with fail
          refine HI.out.mono ?_
          rintro e w1 ⟨⟨p, t, rfl, hp1, hp2, ht⟩, hb1⟩
          have HS2 := Lib.hid (HS1.out.below hb1)
          clear hb1
          have HBe1 := Lib.hid (HBe.out.perm (by rw [HDK.out]; exact hBn) HP1.out)
          have HD1 := Lib.hid (show d1.size = n from HS1.out.2.1)
          go_upto_if 50 with (fail)
          go_cut [11, 12] (fun s11 s12 wx => Cut50 w h off z n A B d1 s11 s12 wx)
          case first =>
            rcases ht with rfl | rfl | rfl
            · have HF : Hid (Cut50 w h off z n A B d1 (.int .i64 (p : Int)) (.int .i64 0) w1) := Lib.hid ⟨p, 0, d1, rfl, rfl, hp1, hp2, Sort.permIn_refl _ _ _, HS2.out⟩
              go_wp2_with fail
              go_meet
              exact HF.out
            · have HF : Hid (Cut50 w h off z n A B d1 (.int .i64 (p : Int)) (.int .i64 1) w1) := Lib.hid ⟨p, 1, d1, rfl, rfl, hp1, hp2, Sort.permIn_refl _ _ _, HS2.out⟩
              go_wp2_with fail
              go_meet
              exact HF.out
            · have HI := Lib.hid (reverse_any (cap := cap) HS2.out.here hn (a := A) (b := B) (by omega) hBn)
              go_wp2_with fail
              refine HI.out.mono ?_
              rintro e w2 ⟨rfl, hS3⟩
              have HP2 := Lib.hid (Sort.reverseRange_holds d1 A B hAB (by rw [HD1.out]; exact hBn))
              have HS3 := Lib.hid (HS2.out.then hS3)
              clear hS3
              go_wp2_with fail
              go_meet
              exact ⟨B - 1 - (p - A), 1, _, by congr 1; omega, rfl, by omega, by omega, HP2.out, HS3.out⟩
          case rest =>
            clear hp1 hp2 ht
            obtain ⟨pv, t2, d2, rfl, rfl, hp1, hp2, hP2, hS3⟩ := hcut
            have HP2 := Lib.hid hP2
            have HS3 := Lib.hid hS3
            have HBe2 := Lib.hid (HBe1.out.perm (by rw [HD1.out]; exact hBn) hP2)
            have HD2 := Lib.hid (show d2.size = n from hS3.2.1)
            clear hP2 hS3
            rename World => w3
            obtain ⟨gg, hgg⟩ : ∃ gg, gg = (wb && wp && (t2 == 1)) := ⟨_, rfl⟩
            have HGG := Lib.hid hgg
            clear hgg
            go_upto_region 15 with (fail)
            go_cut [68] (fun s68 wx => s68 = .bool gg ∧ SwA w wx h off z n d2)
            case first =>
              cases wb with
              | false =>
                have HV : Hid (gg = false) := Lib.hid (by rw [HGG.out]; rfl)
                go_wp2_with fail
                go_meet
                exact ⟨by rw [HV.out], HS3.out⟩
              | true =>
                cases wp with
                | false =>
                  have HV : Hid (gg = false) := Lib.hid (by rw [HGG.out]; rfl)
                  go_wp2_with fail
                  go_meet
                  exact ⟨by rw [HV.out], HS3.out⟩
                | true =>
                  by_cases ht1 : t2 = 1
                  · subst ht1
                    have HV : Hid (gg = true) := Lib.hid (by rw [HGG.out]; rfl)
                    go_wp2_with fail
                    go_meet
                    exact ⟨by rw [HV.out], HS3.out⟩
                  · have ht1b : (t2 == 1) = false := by simpa using ht1
                    have HV : Hid (gg = false) := Lib.hid (by rw [HGG.out, ht1b]; rfl)
                    go_wp2_with fail
                    go_meet
                    exact ⟨by rw [HV.out], HS3.out⟩
            case rest =>
            obtain ⟨rfl, hS3b⟩ := hcut
            have HS3 := Lib.hid hS3b
            clear hS3b
            rename World => w3b
            go_upto_if 68 with (fail)
            go_cut [11] (fun s11 wx => s11 = .int .i64 (pv : Int) ∧ Cut68 w h off z n A B d2 wx)
            case first =>
              have HF : Hid (Cut68 w h off z n A B d2 w3b) := Lib.hid ⟨d2, Sort.permIn_refl _ _ _, HS3.out⟩
              cases gg with
              | false =>
                go_wp2_with fail
                go_meet
                exact ⟨rfl, HF.out⟩
              | true =>
                have HI := Lib.hid (partialIns_any (cap := cap) HS3.out.here hn (a := A) (b := B) (by omega) hBn)
                obtain ⟨hq1, hq2⟩ := Sort.partialInsertionSort_holds swo_ltN d2 A B (by omega) (by rw [HD2.out]; exact hBn) HBe2.out
                obtain ⟨⟨dr, br⟩, hr⟩ : ∃ r, r = Sort.partialInsertionSort ltN d2 A B := ⟨_, rfl⟩
                rw [← hr] at HI hq1 hq2
                have HQ1 := Lib.hid hq1
                have HQ2 := Lib.hid hq2
                clear hr hq1 hq2
                go_wp2_with fail
                refine HI.out.mono ?_
                rintro e w4 ⟨rfl, hS4⟩
                have HS4 := Lib.hid (HS3.out.then hS4)
                clear hS4
                cases br with
                | true =>
                  have HE : Hid (PdqEnd w h off z n a b d (.returned (.tuple #[])) w4) := Lib.hid (by
                    have hp := Sort.permIn_trans _ _ _ _ _ HP1.out (Sort.permIn_trans _ _ _ _ _ HP2.out HQ1.out)
                    obtain ⟨g1, g2⟩ := HG.out _ hp (HQ2.out rfl)
                    exact ⟨rfl, _, g1, g2, HS4.out⟩)
                  go_wp2
                  (try simp only [Exit.inBlock, Exit.then])
                  refine bodyPost_ret (results_none rfl _ _ _) rfl ?_
                  exact HE.out
                | false =>
                  have HF2 : Hid (Cut68 w h off z n A B d2 w4) := Lib.hid ⟨dr, HQ1.out, HS4.out⟩
                  go_wp2_with fail
                  go_meet
                  exact ⟨rfl, HF2.out⟩
            case rest =>
              obtain ⟨rfl, d3, hP3, hS4⟩ := hcut
              have HP3 := Lib.hid (Sort.permIn_trans _ _ _ _ _ HP1.out (Sort.permIn_trans _ _ _ _ _ HP2.out hP3))
              have HS4 := Lib.hid hS4
              have HBe3 := Lib.hid (HBe2.out.perm (by rw [HD2.out]; exact hBn) hP3)
              have HG3 := Lib.hid (glue_perm HG.out HP3.out)
              have HD3 := Lib.hid (show d3.size = n from hS4.2.1)
              clear hP3 hS4
              rename World => w5
              obtain ⟨bb, hbb⟩ : ∃ bb, bb = decide (0 < A ∧ ¬ d3[A - 1]! < d3[pv]!) := ⟨_, rfl⟩
              have HBB := Lib.hid hbb
              clear hbb
              go_upto_region 17 with (fail)
              go_cut [87] (fun s87 wx => s87 = .bool bb ∧ SwA w wx h off z n d3)
              case first =>
                by_cases hA0 : 0 < A
                · have hA0z : decide (0 < (A : Int)) = true := by simp; omega
                  have cA := HS4.out.cell (i := A - 1) (by omega)
                  have cp := HS4.out.cell (i := pv) (by omega)
                  by_cases hc : d3[A - 1]! < d3[pv]!
                  · have hcc : decide (d3[A - 1]! < d3[pv]!) = true := decide_eq_true hc
                    have HV : Hid (bb = false) := Lib.hid (by rw [HBB.out]; simp [hc])
                    generalize d3[A - 1]! = x at *
                    generalize d3[pv]! = y at *
                    go_quiet ((go_at_call 48; exact Calls.quiet_of_same (cmpLess_any _ _ _)))
                    have HF := Lib.hid (HS4.out.drew ⟨nq, rfl⟩)
                    go_wp2_with fail
                    go_meet
                    exact ⟨by rw [HV.out], HF.out⟩
                  · have hcc : decide (d3[A - 1]! < d3[pv]!) = false := decide_eq_false hc
                    have HV : Hid (bb = true) := Lib.hid (by rw [HBB.out]; simp [hc, hA0])
                    generalize d3[A - 1]! = x at *
                    generalize d3[pv]! = y at *
                    go_quiet ((go_at_call 48; exact Calls.quiet_of_same (cmpLess_any _ _ _)))
                    have HF := Lib.hid (HS4.out.drew ⟨nq, rfl⟩)
                    go_wp2_with fail
                    go_meet
                    exact ⟨by rw [HV.out], HF.out⟩
                · have hA0z : decide (0 < (A : Int)) = false := by simp; omega
                  have HV : Hid (bb = false) := Lib.hid (by rw [HBB.out]; simp [hA0])
                  go_quiet (fail)
                  have HF := Lib.hid (HS4.out.drew ⟨nq, rfl⟩)
                  go_wp2_with fail
                  go_meet
                  exact ⟨by rw [HV.out], HF.out⟩
              case rest =>
                obtain ⟨rfl, hS5⟩ := hcut
                have HS5 := Lib.hid hS5
                clear hS5
                rename World => w6
                cases bb with
                | true =>
                  have hbt : 0 < A ∧ ¬ d3[A - 1]! < d3[pv]! := of_decide_eq_true HBB.out.symm
                  have HI := Lib.hid (partEq_any (cap := cap) HS5.out.here hn hp1 hp2 hBn)
                  obtain ⟨⟨mid, d4⟩, hx⟩ : ∃ r, r = Sort.partitionEqual ltN d3 A B pv := ⟨_, rfl⟩
                  rw [← hx] at HI
                  obtain ⟨m1, m2, m3, hB4, hfin⟩ := Sort.round_eq swo_ltN (Sort.partitionEqual_holds ltN) hbt.1 hp1 hp2 (by rw [HD3.out]; exact hBn) HBe3.out (by simp [ltN]; omega) hx.symm
                  have HB4 := Lib.hid hB4
                  have HG4 : Hid (Glue a b d mid B d4) := Lib.hid (fun R h1 h2 => by obtain ⟨g1, g2⟩ := hfin R h1 h2; exact HG3.out R g1 g2)
                  clear hx hB4 hfin hbt m3
                  go_wp2_with fail
                  refine HI.out.mono ?_
                  rintro e w7 ⟨rfl, hS6⟩
                  have HS6 := Lib.hid (HS5.out.then hS6)
                  clear hS6
                  go_wp2
                  go_roundg (B - mid)
                  case measure => omega
                  case rel => exact ⟨mid, B, lim2, wb, wp, d4, rfl, rfl, rfl, rfl, rfl, m2, hBn, Nat.le_refl _, by omega, hlim2, HB4.out, HS6.out, HG4.out⟩
                | false =>
                  have HI := Lib.hid (partO_any (cap := cap) HS5.out.here hn hp1 hp2 hBn)
                  obtain ⟨⟨mid, ap, d4⟩, hx⟩ : ∃ r, r = Sort.partition ltN d3 A B pv := ⟨_, rfl⟩
                  rw [← hx] at HI
                  obtain ⟨m1, m2, m3, hBa, hBr, hleft, hright⟩ := Sort.round_part swo_ltN (Sort.partition_holds ltN) hp1 hp2 (by rw [HD3.out]; exact hBn) HBe3.out hx.symm
                  have HBa := Lib.hid hBa
                  have HBr := Lib.hid hBr
                  have HLe := Lib.hid hleft
                  have HRi := Lib.hid hright
                  clear hx hBa hBr hleft hright m3
                  go_wp2_with fail
                  refine HI.out.mono ?_
                  rintro e w7 ⟨rfl, hS6⟩
                  have HS6 := Lib.hid (HS5.out.then hS6)
                  clear hS6
                  by_cases hlr : mid - A < B - mid
                  · have hlrz : decide ((mid : Int) - (A : Int) < (B : Int) - (mid : Int)) = true := by simp; omega
                    have HJ := Lib.hid (HIH.out w7 h off z cap n d4 HS6.out.here hn A mid lim2 m1 (by omega) hlim2 HBa.out (by omega))
                    go_wp2_with fail
                    refine HJ.out.mono ?_
                    rintro e w8 ⟨rfl, d5, hp5, hs5, hS7⟩
                    have HS7 := Lib.hid (HS6.out.then hS7)
                    obtain ⟨hbl, hfin⟩ := HLe.out d5 hp5 hs5
                    have HBL := Lib.hid hbl
                    have HG5 : Hid (Glue a b d (mid + 1) B d5) := Lib.hid (fun R h1 h2 => by obtain ⟨g1, g2⟩ := hfin R h1 h2; exact HG3.out R g1 g2)
                    clear hS7 hbl hfin hp5 hs5
                    go_wp2
                    go_roundg (B - (mid + 1))
                    case measure => omega
                    case rel => exact ⟨mid + 1, B, lim2, _, _, d5, by go_num, rfl, rfl, rfl, rfl, by omega, hBn, Nat.le_refl _, by omega, hlim2, HBL.out, HS7.out, HG5.out⟩
                  · have hlrz : decide ((mid : Int) - (A : Int) < (B : Int) - (mid : Int)) = false := by simp; omega
                    have HJ := HIH.out w7 h off z cap n d4 HS6.out.here hn (mid + 1) B lim2 (by omega) hBn hlim2 HBr.out (by omega)
                    rw [show ((mid + 1 : Nat) : Int) = (mid : Int) + 1 from by omega] at HJ
                    have HJ := Lib.hid HJ
                    go_wp2_with fail
                    refine HJ.out.mono ?_
                    rintro e w8 ⟨rfl, d5, hp5, hs5, hS7⟩
                    have HS7 := Lib.hid (HS6.out.then hS7)
                    obtain ⟨hbl, hfin⟩ := HRi.out d5 hp5 hs5
                    have HBL := Lib.hid hbl
                    have HG5 : Hid (Glue a b d A mid d5) := Lib.hid (fun R h1 h2 => by obtain ⟨g1, g2⟩ := hfin R h1 h2; exact HG3.out R g1 g2)
                    clear hS7 hbl hfin hp5 hs5
                    go_wp2
                    go_roundg (mid - A)
                    case measure => omega
                    case rel => exact ⟨A, mid, lim2, _, _, d5, rfl, rfl, rfl, rfl, rfl, m1, by omega, Nat.le_refl _, by omega, hlim2, HBL.out, HS7.out, HG5.out⟩
end Go.Proofs.Ytpdnbojooelmfaa
