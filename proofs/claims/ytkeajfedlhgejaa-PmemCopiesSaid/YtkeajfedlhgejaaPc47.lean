/- Texts of this claim, packed: R2Fr. -/
import Derived.Test.YtkeajfedlhgejaaPc45
import Derived.Test.YtkeajfedlhgejaaPc46
import Derived.Deep.QuietTactic
import Derived.Deep.DeepCutAuto
import Derived.Deep.CutBlock
/- PmemFronts: what has lasted of each line is what a front of its stores made; no conditions. -/
namespace Go.Proofs.Ytkeajfedlhgejaa
open Go Go.RowKit
set_option linter.unusedVariables false
set_option maxRecDepth 100000 in
set_option maxHeartbeats 8000000 in
theorem fronts2_no1 {w : World} {A A2 : Option Addr} {n cap n2 cap2 : Nat} {bs : List Nat} {l : List Act2} (hb : BsAt w A n cap bs) (hl : Acts2In w A2 n2 cap2 l) (hn : n ≤ 9223372036854775807) (h1 : fewB l 60 = false) :
    Calls Try.prog 4 #[.slice A n cap, .slice A2 n2 cap2] w fun e w' => e = .returned (.bool true) ∧ Below w.heap.size w w' := by
  have F1 := Lib.hid (few_any2 hl 60 (by omega))
  have F2 := Lib.hid (fits_any2 (w := w) A n cap hn)
  rw [h1] at F1
  clear hb hl
  go_enter Try.func4, Try.ntmps4
  go_wp2_with fail
  refine F1.out.mono ?_
  rintro e w1 ⟨rfl, rfl⟩
  go_wp2_with fail
  refine (known_any w).mono ?_
  rintro e w1 ⟨rfl, hb⟩
  go_wp2
  go_ret
  exact ⟨rfl, hb⟩
set_option maxRecDepth 100000 in
set_option maxHeartbeats 8000000 in
theorem fronts2_no2 {w : World} {A A2 : Option Addr} {n cap n2 cap2 : Nat} {bs : List Nat} {l : List Act2} (hb : BsAt w A n cap bs) (hl : Acts2In w A2 n2 cap2 l) (hn : n ≤ 9223372036854775807) (h1 : fewB l 60 = true) (h2 : fitsB n = false) :
    Calls Try.prog 4 #[.slice A n cap, .slice A2 n2 cap2] w fun e w' => e = .returned (.bool true) ∧ Below w.heap.size w w' := by
  have F1 := Lib.hid (few_any2 hl 60 (by omega))
  have F2 := Lib.hid (fits_any2 (w := w) A n cap hn)
  rw [h1] at F1
  rw [h2] at F2
  clear hb hl
  go_enter Try.func4, Try.ntmps4
  go_wp2_with fail
  refine F1.out.mono ?_
  rintro e w1 ⟨rfl, rfl⟩
  go_wp2_with fail
  refine F2.out.mono ?_
  rintro e w1 ⟨rfl, rfl⟩
  go_wp2_with fail
  refine (known_any w).mono ?_
  rintro e w1 ⟨rfl, hb⟩
  go_wp2
  go_ret
  exact ⟨rfl, hb⟩
set_option maxRecDepth 100000 in
set_option maxHeartbeats 8000000 in
theorem fronts2_yes {w : World} {A A2 : Option Addr} {n cap n2 cap2 : Nat} {bs : List Nat} {l : List Act2} (hb : BsAt w A n cap bs) (hl : Acts2In w A2 n2 cap2 l) (hn : n ≤ 9223372036854775807) (h1 : fewB l 60 = true) (h2 : fitsB n = true) :
    Calls Try.prog 4 #[.slice A n cap, .slice A2 n2 cap2] w fun e w' => e = .returned (.bool true) ∧ Below w.heap.size w w' := by
  have F1 := Lib.hid (few_any2 hl 60 (by omega))
  have F2 := Lib.hid (fits_any2 (w := w) A n cap hn)
  rw [h1] at F1
  rw [h2] at F2
  obtain ⟨hlen, h20⟩ := fewB_iff.1 h1
  obtain ⟨hl2, _, _, hat⟩ := hl
  have H20 := Lib.hid h20
  have HL2 := Lib.hid hl2
  have HAT := Lib.hid hat
  have hn2 : n2 ≤ 60 := by omega
  have hfit : mayB (n : Int) = true ∧ n ≤ 512 := by simpa [fitsB] using h2
  have hmm : 64 ≤ (n : Int) ∧ (n : Int) ≤ 1048576 ∧ (n : Int) % 64 = 0 := by simpa [mayB] using hfit.1
  have hn512 := hfit.2
  obtain ⟨nl, hnl⟩ : ∃ nl, n = 64 * nl := ⟨n / 64, by omega⟩
  have hnl0 : 0 < nl := by omega
  have hnl8 : nl ≤ 8 := by omega
  have HBG := Lib.hid (begin_yes hb hnl hnl0 hnl8)
  have HBS := Lib.hid hb
  have HR0 := Lib.hid (rel0 (hb.len.trans hnl) hb.b hnl0)
  have HNL := Lib.hid hnl
  clear h1 h2 h20 hl2 hat hlen hfit hmm hnl hb
  go_enter Try.func4, Try.ntmps4
  go_wp2_with fail
  refine F1.out.mono ?_
  rintro e w1 ⟨rfl, rfl⟩
  go_wp2_with fail
  refine F2.out.mono ?_
  rintro e w1 ⟨rfl, rfl⟩
  go_wp2_with fail
  refine HBG.out.mono ?_
  rintro e w1 ⟨gg, rfl, hgs, hb1⟩
  obtain ⟨F0, hF0⟩ : ∃ F0, F0 = wordsK bs (64 * nl) (8 * nl) := ⟨_, rfl⟩
  have HF0 := Lib.hid hF0
  have HFR : Hid (Fr w gg nl F0 0 (.slice none 0 0) [] w1 (St.ofBytes nl bs) (rf0 nl bs)) := Lib.hid ⟨by
    obtain ⟨y, g, vF, vL, ms, h3, hn, hl⟩ := hgs.toP
    have np : ∀ k, ¬ k < w.heap.size → ¬ PM w (.slice none 0 0) k := fun k hk hp => by
      rcases hp with hp | hp
      · exact hk hp
      · cases hp
    exact ⟨y, g, vF, vL, ms, h3, ⟨np _ hn.gg, fun k hk => np k (hn.m k hk), fun k hk => np k (hn.d k hk)⟩, fun q hq => by
      rcases hq with hq | hq
      · exact hl q hq
      · cases hq⟩, HR0.out, sm0 nl bs, rfl, hF0.symm, World.ownsRow_nil _ _ _ _, hb1⟩
  clear hgs hb1 HBG hF0
  go_wp2
  go_loopg [6, 7] n2 (fun k u v wr => ∃ (j : Nat) (s : St) (r : Rf), v = .int .i64 (j : Int) ∧ j ≤ n2 ∧ n2 - j ≤ k ∧ Fr w gg nl F0 j u (prs r.L) wr s r)
  case atStart => exact ⟨0, St.ofBytes nl bs, rf0 nl bs, rfl, by omega, by omega, HFR.out⟩
  case round =>
    obtain ⟨i, s, r, rfl, hin, hk, hP⟩ := hrel
    rename World => wr
    have HP := Lib.hid hP
    have HLM : Hid ((prs r.L).length ≤ 1000000) := Lib.hid (by rw [prs_len]; have := hP.sm.l; omega)
    obtain ⟨AM, cM, hvM, hmM⟩ := own4_sl hP.own
    subst hvM
    clear HFR hP
    by_cases hlt : i < n2
    · obtain ⟨ga, ks, rfl, hA⟩ := HAT.out (by rw [HL2.out]; omega)
      have hjl : i < l.length := by rw [HL2.out]; exact hlt
      have hax := hA.a i hjl
      have HA := Lib.hid hA
      obtain ⟨c0, c1, c2, c3, c4, c5⟩ := (hA.below HP.out.low).cells hjl
      obtain ⟨x, hx⟩ : ∃ x, x = act2 l i := ⟨_, rfl⟩
      rw [← hx] at c0 c1 c2 c3 c4 hax
      have HKP := Lib.hid (hA.kp i hjl)
      have H2 := Lib.hid (H20.out i hjl)
      rw [← hx] at HKP H2
      have HCS := Lib.hid (fun (W : World) (hb : Below w.heap.size w W) => (hA.below hb).cells hjl)
      rw [← hx] at HCS
      clear hA hjl hx
      by_cases k6 : x.k = 6
      · have e6 : (x.k == 6) = true := by simp [k6]
        clear k6
        go_wp2
        go_roundg (n2 - (i + 1))
        case measure => omega
        case rel => exact ⟨i + 1, s, r, by go_num, by omega, by omega, HP.out.mono (by omega)⟩
      · have e6 : (x.k == 6) = false := by simp [k6]
        have K6 := Lib.hid k6
        clear k6
        obtain ⟨g, hIS⟩ := HP.out.is hnl8 x.a hax.1
        have HIS := Lib.hid hIS
        clear hIS
        have EGI := Lib.hid (enters_of Try.func15 (by kernel_rfl) rfl)
        by_cases k1 : x.k = 1
        · have e1 : (x.k == 1) = true := by simp [k1]
          have K1 := Lib.hid k1
          clear k1
          cases hw : wd2 nl x.a
          · rw [hw] at HIS
            have HW := Lib.hid hw
            clear hw
            go_upto_region 11 with (fail)
            refine wp_region_noPanic ?_
            refine wp_region_held_drew (S := (fun WW => WW.cell? (ga.add (i * 6)) = some (.int .i64 x.k) ∧ WW.cell? ⟨(ga.add (i * 6)).block, (ga.add (i * 6)).off + 2, none⟩ = some (.int .u64 (x.a : Int)) ∧ WW.cell? ⟨gg, 1, none⟩ = some (.pointer (some ⟨g, 0, none⟩)))) (by kernel_rfl) (⟨(HCS.out _ (belowT HP.out.low (belowB (drew_below _) HP.out.low.size))).1, (HCS.out _ (belowT HP.out.low (belowB (drew_below _) HP.out.low.size))).2.2.1, (HIS.out _ (drew_below _)).1⟩) (fun hHeld => ?_)
            refine wpAnyH_take (i := 0) (oi := ⟨some 42, _, _, _, _, _⟩) (v := .slice (some ga) n2 cap2) rfl (by kernel_rfl) (by kernel_rfl) (by kernel_rfl) (fun _ _ _ h => h) (Or.inl ⟨by kernel_rfl, by intro WW hSw; obtain ⟨s0, s1, s2⟩ := hSw; go_simp⟩) (by assumption) ?_
            (try simp only [Act.put, List.setIfInBounds_toArray, List.set_cons_zero, List.set_cons_succ])
            refine wpAnyH_take (i := 1) (oi := ⟨some 43, _, _, _, _, _⟩) (v := .int .i64 (i : Int)) rfl (by kernel_rfl) (by kernel_rfl) (by kernel_rfl) (fun _ _ _ h => h) (Or.inl ⟨by kernel_rfl, by intro WW hSw; obtain ⟨s0, s1, s2⟩ := hSw; go_simp⟩) (by assumption) ?_
            (try simp only [Act.put, List.setIfInBounds_toArray, List.set_cons_zero, List.set_cons_succ])
            refine wpAnyH_take (i := 2) (oi := ⟨some 44, _, _, _, _, _⟩) (v := .pointer (some (ga.add (i * 6)))) rfl (by kernel_rfl) (by kernel_rfl) (by kernel_rfl) (fun _ _ _ h => h) (Or.inl ⟨by kernel_rfl, by intro WW hSw; obtain ⟨s0, s1, s2⟩ := hSw; go_simp⟩) (by assumption) ?_
            (try simp only [Act.put, List.setIfInBounds_toArray, List.set_cons_zero, List.set_cons_succ])
            refine wpAnyH_take (i := 3) (oi := ⟨some 45, _, _, _, _, _⟩) (v := .pointer (some (ga.add (i * 6)))) rfl (by kernel_rfl) (by kernel_rfl) (by kernel_rfl) (fun _ _ _ h => h) (Or.inl ⟨by kernel_rfl, by intro WW hSw; obtain ⟨s0, s1, s2⟩ := hSw; go_simp⟩) (by assumption) ?_
            (try simp only [Act.put, List.setIfInBounds_toArray, List.set_cons_zero, List.set_cons_succ])
            refine wpAnyH_take (i := 4) (oi := ⟨some 46, _, _, _, _, _⟩) (v := .int .i64 x.k) rfl (by kernel_rfl) (by kernel_rfl) (by kernel_rfl) (fun _ _ _ h => h) (Or.inl ⟨by kernel_rfl, by intro WW hSw; obtain ⟨s0, s1, s2⟩ := hSw; go_simp⟩) (by assumption) ?_
            (try simp only [Act.put, List.setIfInBounds_toArray, List.set_cons_zero, List.set_cons_succ])
            refine wpAnyH_take (i := 5) (oi := ⟨some 47, _, _, _, _, _⟩) (v := .bool true) rfl (by kernel_rfl) (by kernel_rfl) (by kernel_rfl) (fun _ _ _ h => h) (Or.inl ⟨by kernel_rfl, by intro WW hSw; obtain ⟨s0, s1, s2⟩ := hSw; go_simp⟩) (by assumption) ?_
            (try simp only [Act.put, List.setIfInBounds_toArray, List.set_cons_zero, List.set_cons_succ])
            refine wpAnyH_take (i := 6) (oi := ⟨some 48, _, _, _, _, _⟩) (v := .bool true) rfl (by kernel_rfl) (by kernel_rfl) (by kernel_rfl) (fun _ _ _ h => h) (Or.inl ⟨by kernel_rfl, by intro WW hSw; obtain ⟨s0, s1, s2⟩ := hSw; go_simp⟩) (by assumption) ?_
            (try simp only [Act.put, List.setIfInBounds_toArray, List.set_cons_zero, List.set_cons_succ])
            refine wpAnyH_take (i := 7) (oi := ⟨some 49, _, _, _, _, _⟩) (v := .pointer (some ⟨gg, 0, none⟩)) rfl (by kernel_rfl) (by kernel_rfl) (by kernel_rfl) (fun _ _ _ h => h) (Or.inl ⟨by kernel_rfl, by intro WW hSw; obtain ⟨s0, s1, s2⟩ := hSw; go_simp⟩) (by assumption) ?_
            (try simp only [Act.put, List.setIfInBounds_toArray, List.set_cons_zero, List.set_cons_succ])
            refine wpAnyH_take (i := 8) (oi := ⟨some 50, _, _, _, _, _⟩) (v := .pointer (some ⟨gg, 0, none⟩)) rfl (by kernel_rfl) (by kernel_rfl) (by kernel_rfl) (fun _ _ _ h => h) (Or.inl ⟨by kernel_rfl, by intro WW hSw; obtain ⟨s0, s1, s2⟩ := hSw; go_simp⟩) (by assumption) ?_
            (try simp only [Act.put, List.setIfInBounds_toArray, List.set_cons_zero, List.set_cons_succ])
            refine wpAnyH_take (i := 9) (oi := ⟨some 51, _, _, _, _, _⟩) (v := .pointer (some ⟨gg, 1, none⟩)) rfl (by kernel_rfl) (by kernel_rfl) (by kernel_rfl) (fun _ _ _ h => h) (Or.inl ⟨by kernel_rfl, by intro WW hSw; obtain ⟨s0, s1, s2⟩ := hSw; go_simp⟩) (by assumption) ?_
            (try simp only [Act.put, List.setIfInBounds_toArray, List.set_cons_zero, List.set_cons_succ])
            refine wpAnyH_take (i := 10) (oi := ⟨some 52, _, _, _, _, _⟩) (v := .pointer (some ⟨g, 0, none⟩)) rfl (by kernel_rfl) (by kernel_rfl) (by kernel_rfl) (fun _ _ _ h => h) (Or.inl ⟨by kernel_rfl, by intro WW hSw; obtain ⟨s0, s1, s2⟩ := hSw; go_simp⟩) (by assumption) ?_
            (try simp only [Act.put, List.setIfInBounds_toArray, List.set_cons_zero, List.set_cons_succ])
            refine wpAnyH_take (i := 11) (oi := ⟨some 53, _, _, _, _, _⟩) (v := .slice (some ga) n2 cap2) rfl (by kernel_rfl) (by kernel_rfl) (by kernel_rfl) (fun _ _ _ h => h) (Or.inl ⟨by kernel_rfl, by intro WW hSw; obtain ⟨s0, s1, s2⟩ := hSw; go_simp⟩) (by assumption) ?_
            (try simp only [Act.put, List.setIfInBounds_toArray, List.set_cons_zero, List.set_cons_succ])
            refine wpAnyH_take (i := 12) (oi := ⟨some 54, _, _, _, _, _⟩) (v := .int .i64 (i : Int)) rfl (by kernel_rfl) (by kernel_rfl) (by kernel_rfl) (fun _ _ _ h => h) (Or.inl ⟨by kernel_rfl, by intro WW hSw; obtain ⟨s0, s1, s2⟩ := hSw; go_simp⟩) (by assumption) ?_
            (try simp only [Act.put, List.setIfInBounds_toArray, List.set_cons_zero, List.set_cons_succ])
            refine wpAnyH_take (i := 13) (oi := ⟨some 55, _, _, _, _, _⟩) (v := .pointer (some (ga.add (i * 6)))) rfl (by kernel_rfl) (by kernel_rfl) (by kernel_rfl) (fun _ _ _ h => h) (Or.inl ⟨by kernel_rfl, by intro WW hSw; obtain ⟨s0, s1, s2⟩ := hSw; go_simp⟩) (by assumption) ?_
            (try simp only [Act.put, List.setIfInBounds_toArray, List.set_cons_zero, List.set_cons_succ])
            refine wpAnyH_take (i := 14) (oi := ⟨some 56, _, _, _, _, _⟩) (v := .pointer (some ⟨(ga.add (i * 6)).block, (ga.add (i * 6)).off + 2, none⟩)) rfl (by kernel_rfl) (by kernel_rfl) (by kernel_rfl) (fun _ _ _ h => h) (Or.inl ⟨by kernel_rfl, by intro WW hSw; obtain ⟨s0, s1, s2⟩ := hSw; go_simp⟩) (by assumption) ?_
            (try simp only [Act.put, List.setIfInBounds_toArray, List.set_cons_zero, List.set_cons_succ])
            refine wpAnyH_take (i := 15) (oi := ⟨some 57, _, _, _, _, _⟩) (v := .int .u64 (x.a : Int)) rfl (by kernel_rfl) (by kernel_rfl) (by kernel_rfl) (fun _ _ _ h => h) (Or.inl ⟨by kernel_rfl, by intro WW hSw; obtain ⟨s0, s1, s2⟩ := hSw; go_simp⟩) (by assumption) ?_
            (try simp only [Act.put, List.setIfInBounds_toArray, List.set_cons_zero, List.set_cons_succ])
            refine wpAnyH_one (i := 16) (oi := ⟨_, _, _, _, _, _⟩) rfl (by kernel_rfl) (fun K hK => ?_)
            refine step_calls (by rfl) 15 EGI.out [.tmp 52, .tmp 57] _ rfl [.pointer (some ⟨g, 0, none⟩), .int .u64 (x.a : Int)] rfl (HIS.out _ (drew_below _)).2 ?_
            rintro e x1 ⟨rfl, rfl⟩
            refine ⟨_, rfl, hK _ _ hHeld (fun _ => ?_)⟩
            clear hK K
            (try simp only [Act.put, List.setIfInBounds_toArray, List.set_cons_zero, List.set_cons_succ])
            refine wpAnyH_take (i := 17) (oi := ⟨some 59, _, _, _, _, _⟩) (v := .bool false) rfl (by kernel_rfl) (by kernel_rfl) (by kernel_rfl) (fun _ _ _ h => h) (Or.inl ⟨by kernel_rfl, by intro WW hSw; skip; go_simp⟩) (by assumption) ?_
            (try simp only [Act.put, List.setIfInBounds_toArray, List.set_cons_zero, List.set_cons_succ])
            refine wpAnyH_done (by kernel_rfl) ?_ _
            unfold NoPanic
            clear hHeld
            have HM : Hid ((if x.k = 1 ∧ wd2 s.nl x.a = true then prs r.L ++ [(x.a, x.v)] else prs r.L) = prs r.L) := Lib.hid (if_neg (fun q => by have := q.2; rw [HP.out.nl, HW.out] at this; cases this))
            have HQ := Lib.hid (HP.out.below (drew_below _))
            have hcs := HCS.out _ HQ.out.low
            obtain ⟨p0, p1, p2, p3, p4, p5⟩ := hcs
            clear c0 c1 c2 c3 c4 c5
            have HST := Lib.hid (HQ.out.act hnl8 (by omega) K6.out HM.out HKP.out H2.out hax.1 hax.2)
            unfold actA at HST
            clear HQ
            go_wp2_with fail
            refine HST.out.mono ?_
            rintro e w6 ⟨rfl, s', r', hF6, hM6⟩
            have HF6 : Hid (Fr w gg nl F0 (i + 1) (.slice AM (prs r.L).length cM) (prs r'.L) w6 s' r') := Lib.hid (hM6.symm ▸ hF6)
            clear hF6 hM6 HST
            go_wp2
            go_roundg (n2 - (i + 1))
            case measure => omega
            case rel => exact ⟨i + 1, s', r', by go_num, by omega, by omega, HF6.out⟩
          · rw [hw] at HIS
            have HW := Lib.hid hw
            clear hw
            go_upto_region 11 with (fail)
            refine wp_region_noPanic ?_
            refine wp_region_held_drew (S := (fun WW => WW.cell? (ga.add (i * 6)) = some (.int .i64 x.k) ∧ WW.cell? ⟨(ga.add (i * 6)).block, (ga.add (i * 6)).off + 2, none⟩ = some (.int .u64 (x.a : Int)) ∧ WW.cell? ⟨gg, 1, none⟩ = some (.pointer (some ⟨g, 0, none⟩)))) (by kernel_rfl) (⟨(HCS.out _ (belowT HP.out.low (belowB (drew_below _) HP.out.low.size))).1, (HCS.out _ (belowT HP.out.low (belowB (drew_below _) HP.out.low.size))).2.2.1, (HIS.out _ (drew_below _)).1⟩) (fun hHeld => ?_)
            refine wpAnyH_take (i := 0) (oi := ⟨some 42, _, _, _, _, _⟩) (v := .slice (some ga) n2 cap2) rfl (by kernel_rfl) (by kernel_rfl) (by kernel_rfl) (fun _ _ _ h => h) (Or.inl ⟨by kernel_rfl, by intro WW hSw; obtain ⟨s0, s1, s2⟩ := hSw; go_simp⟩) (by assumption) ?_
            (try simp only [Act.put, List.setIfInBounds_toArray, List.set_cons_zero, List.set_cons_succ])
            refine wpAnyH_take (i := 1) (oi := ⟨some 43, _, _, _, _, _⟩) (v := .int .i64 (i : Int)) rfl (by kernel_rfl) (by kernel_rfl) (by kernel_rfl) (fun _ _ _ h => h) (Or.inl ⟨by kernel_rfl, by intro WW hSw; obtain ⟨s0, s1, s2⟩ := hSw; go_simp⟩) (by assumption) ?_
            (try simp only [Act.put, List.setIfInBounds_toArray, List.set_cons_zero, List.set_cons_succ])
            refine wpAnyH_take (i := 2) (oi := ⟨some 44, _, _, _, _, _⟩) (v := .pointer (some (ga.add (i * 6)))) rfl (by kernel_rfl) (by kernel_rfl) (by kernel_rfl) (fun _ _ _ h => h) (Or.inl ⟨by kernel_rfl, by intro WW hSw; obtain ⟨s0, s1, s2⟩ := hSw; go_simp⟩) (by assumption) ?_
            (try simp only [Act.put, List.setIfInBounds_toArray, List.set_cons_zero, List.set_cons_succ])
            refine wpAnyH_take (i := 3) (oi := ⟨some 45, _, _, _, _, _⟩) (v := .pointer (some (ga.add (i * 6)))) rfl (by kernel_rfl) (by kernel_rfl) (by kernel_rfl) (fun _ _ _ h => h) (Or.inl ⟨by kernel_rfl, by intro WW hSw; obtain ⟨s0, s1, s2⟩ := hSw; go_simp⟩) (by assumption) ?_
            (try simp only [Act.put, List.setIfInBounds_toArray, List.set_cons_zero, List.set_cons_succ])
            refine wpAnyH_take (i := 4) (oi := ⟨some 46, _, _, _, _, _⟩) (v := .int .i64 x.k) rfl (by kernel_rfl) (by kernel_rfl) (by kernel_rfl) (fun _ _ _ h => h) (Or.inl ⟨by kernel_rfl, by intro WW hSw; obtain ⟨s0, s1, s2⟩ := hSw; go_simp⟩) (by assumption) ?_
            (try simp only [Act.put, List.setIfInBounds_toArray, List.set_cons_zero, List.set_cons_succ])
            refine wpAnyH_take (i := 5) (oi := ⟨some 47, _, _, _, _, _⟩) (v := .bool true) rfl (by kernel_rfl) (by kernel_rfl) (by kernel_rfl) (fun _ _ _ h => h) (Or.inl ⟨by kernel_rfl, by intro WW hSw; obtain ⟨s0, s1, s2⟩ := hSw; go_simp⟩) (by assumption) ?_
            (try simp only [Act.put, List.setIfInBounds_toArray, List.set_cons_zero, List.set_cons_succ])
            refine wpAnyH_take (i := 6) (oi := ⟨some 48, _, _, _, _, _⟩) (v := .bool true) rfl (by kernel_rfl) (by kernel_rfl) (by kernel_rfl) (fun _ _ _ h => h) (Or.inl ⟨by kernel_rfl, by intro WW hSw; obtain ⟨s0, s1, s2⟩ := hSw; go_simp⟩) (by assumption) ?_
            (try simp only [Act.put, List.setIfInBounds_toArray, List.set_cons_zero, List.set_cons_succ])
            refine wpAnyH_take (i := 7) (oi := ⟨some 49, _, _, _, _, _⟩) (v := .pointer (some ⟨gg, 0, none⟩)) rfl (by kernel_rfl) (by kernel_rfl) (by kernel_rfl) (fun _ _ _ h => h) (Or.inl ⟨by kernel_rfl, by intro WW hSw; obtain ⟨s0, s1, s2⟩ := hSw; go_simp⟩) (by assumption) ?_
            (try simp only [Act.put, List.setIfInBounds_toArray, List.set_cons_zero, List.set_cons_succ])
            refine wpAnyH_take (i := 8) (oi := ⟨some 50, _, _, _, _, _⟩) (v := .pointer (some ⟨gg, 0, none⟩)) rfl (by kernel_rfl) (by kernel_rfl) (by kernel_rfl) (fun _ _ _ h => h) (Or.inl ⟨by kernel_rfl, by intro WW hSw; obtain ⟨s0, s1, s2⟩ := hSw; go_simp⟩) (by assumption) ?_
            (try simp only [Act.put, List.setIfInBounds_toArray, List.set_cons_zero, List.set_cons_succ])
            refine wpAnyH_take (i := 9) (oi := ⟨some 51, _, _, _, _, _⟩) (v := .pointer (some ⟨gg, 1, none⟩)) rfl (by kernel_rfl) (by kernel_rfl) (by kernel_rfl) (fun _ _ _ h => h) (Or.inl ⟨by kernel_rfl, by intro WW hSw; obtain ⟨s0, s1, s2⟩ := hSw; go_simp⟩) (by assumption) ?_
            (try simp only [Act.put, List.setIfInBounds_toArray, List.set_cons_zero, List.set_cons_succ])
            refine wpAnyH_take (i := 10) (oi := ⟨some 52, _, _, _, _, _⟩) (v := .pointer (some ⟨g, 0, none⟩)) rfl (by kernel_rfl) (by kernel_rfl) (by kernel_rfl) (fun _ _ _ h => h) (Or.inl ⟨by kernel_rfl, by intro WW hSw; obtain ⟨s0, s1, s2⟩ := hSw; go_simp⟩) (by assumption) ?_
            (try simp only [Act.put, List.setIfInBounds_toArray, List.set_cons_zero, List.set_cons_succ])
            refine wpAnyH_take (i := 11) (oi := ⟨some 53, _, _, _, _, _⟩) (v := .slice (some ga) n2 cap2) rfl (by kernel_rfl) (by kernel_rfl) (by kernel_rfl) (fun _ _ _ h => h) (Or.inl ⟨by kernel_rfl, by intro WW hSw; obtain ⟨s0, s1, s2⟩ := hSw; go_simp⟩) (by assumption) ?_
            (try simp only [Act.put, List.setIfInBounds_toArray, List.set_cons_zero, List.set_cons_succ])
            refine wpAnyH_take (i := 12) (oi := ⟨some 54, _, _, _, _, _⟩) (v := .int .i64 (i : Int)) rfl (by kernel_rfl) (by kernel_rfl) (by kernel_rfl) (fun _ _ _ h => h) (Or.inl ⟨by kernel_rfl, by intro WW hSw; obtain ⟨s0, s1, s2⟩ := hSw; go_simp⟩) (by assumption) ?_
            (try simp only [Act.put, List.setIfInBounds_toArray, List.set_cons_zero, List.set_cons_succ])
            refine wpAnyH_take (i := 13) (oi := ⟨some 55, _, _, _, _, _⟩) (v := .pointer (some (ga.add (i * 6)))) rfl (by kernel_rfl) (by kernel_rfl) (by kernel_rfl) (fun _ _ _ h => h) (Or.inl ⟨by kernel_rfl, by intro WW hSw; obtain ⟨s0, s1, s2⟩ := hSw; go_simp⟩) (by assumption) ?_
            (try simp only [Act.put, List.setIfInBounds_toArray, List.set_cons_zero, List.set_cons_succ])
            refine wpAnyH_take (i := 14) (oi := ⟨some 56, _, _, _, _, _⟩) (v := .pointer (some ⟨(ga.add (i * 6)).block, (ga.add (i * 6)).off + 2, none⟩)) rfl (by kernel_rfl) (by kernel_rfl) (by kernel_rfl) (fun _ _ _ h => h) (Or.inl ⟨by kernel_rfl, by intro WW hSw; obtain ⟨s0, s1, s2⟩ := hSw; go_simp⟩) (by assumption) ?_
            (try simp only [Act.put, List.setIfInBounds_toArray, List.set_cons_zero, List.set_cons_succ])
            refine wpAnyH_take (i := 15) (oi := ⟨some 57, _, _, _, _, _⟩) (v := .int .u64 (x.a : Int)) rfl (by kernel_rfl) (by kernel_rfl) (by kernel_rfl) (fun _ _ _ h => h) (Or.inl ⟨by kernel_rfl, by intro WW hSw; obtain ⟨s0, s1, s2⟩ := hSw; go_simp⟩) (by assumption) ?_
            (try simp only [Act.put, List.setIfInBounds_toArray, List.set_cons_zero, List.set_cons_succ])
            refine wpAnyH_one (i := 16) (oi := ⟨_, _, _, _, _, _⟩) rfl (by kernel_rfl) (fun K hK => ?_)
            refine step_calls (by rfl) 15 EGI.out [.tmp 52, .tmp 57] _ rfl [.pointer (some ⟨g, 0, none⟩), .int .u64 (x.a : Int)] rfl (HIS.out _ (drew_below _)).2 ?_
            rintro e x1 ⟨rfl, rfl⟩
            refine ⟨_, rfl, hK _ _ hHeld (fun _ => ?_)⟩
            clear hK K
            (try simp only [Act.put, List.setIfInBounds_toArray, List.set_cons_zero, List.set_cons_succ])
            refine wpAnyH_take (i := 17) (oi := ⟨some 59, _, _, _, _, _⟩) (v := .bool true) rfl (by kernel_rfl) (by kernel_rfl) (by kernel_rfl) (fun _ _ _ h => h) (Or.inl ⟨by kernel_rfl, by intro WW hSw; skip; go_simp⟩) (by assumption) ?_
            (try simp only [Act.put, List.setIfInBounds_toArray, List.set_cons_zero, List.set_cons_succ])
            refine wpAnyH_done (by kernel_rfl) ?_ _
            unfold NoPanic
            clear hHeld
            have HQ0 := Lib.hid (HP.out.below (drew_below _))
            clear c0 c1 c2 c3 c4 c5
            have hlow0 := HQ0.out.low
            have HS12 := Lib.hid (fun (W : World) (hb : Below w.heap.size w W) => (show (fun WW => WW.cell? ⟨(ga.add (i * 6)).block, (ga.add (i * 6)).off + 2, none⟩ = some (.int .u64 (x.a : Int)) ∧ WW.cell? ⟨(ga.add (i * 6)).block, (ga.add (i * 6)).off + 3, none⟩ = some (.int .u64 (x.v : Int))) W from ⟨(HCS.out W hb).2.2.1, (HCS.out W hb).2.2.2.1⟩))
            clear hlow0
            go_upto_region 12 with (fail)
            refine wp_region_noPanic ?_
            refine wp_region_held_drew (S := (fun WW => WW.cell? ⟨(ga.add (i * 6)).block, (ga.add (i * 6)).off + 2, none⟩ = some (.int .u64 (x.a : Int)) ∧ WW.cell? ⟨(ga.add (i * 6)).block, (ga.add (i * 6)).off + 3, none⟩ = some (.int .u64 (x.v : Int)))) (by kernel_rfl) (HS12.out _ (belowT HQ0.out.low (belowB (drew_below _) HQ0.out.low.size))) (fun hHeld => ?_)
            refine wpAnyH_take (i := 0) (oi := ⟨some 60, _, _, _, _, _⟩) (v := .slice AM (prs r.L).length cM) rfl (by kernel_rfl) (by kernel_rfl) (by kernel_rfl) (fun _ _ _ h => h) (Or.inl ⟨by kernel_rfl, by intro WW hSw; obtain ⟨s0, s1⟩ := hSw; go_simp⟩) (by assumption) ?_
            (try simp only [Act.put, List.setIfInBounds_toArray, List.set_cons_zero, List.set_cons_succ])
            refine wpAnyH_take (i := 1) (oi := ⟨some 61, _, _, _, _, _⟩) (v := .slice (some ga) n2 cap2) rfl (by kernel_rfl) (by kernel_rfl) (by kernel_rfl) (fun _ _ _ h => h) (Or.inl ⟨by kernel_rfl, by intro WW hSw; obtain ⟨s0, s1⟩ := hSw; go_simp⟩) (by assumption) ?_
            (try simp only [Act.put, List.setIfInBounds_toArray, List.set_cons_zero, List.set_cons_succ])
            refine wpAnyH_take (i := 2) (oi := ⟨some 62, _, _, _, _, _⟩) (v := .int .i64 (i : Int)) rfl (by kernel_rfl) (by kernel_rfl) (by kernel_rfl) (fun _ _ _ h => h) (Or.inl ⟨by kernel_rfl, by intro WW hSw; obtain ⟨s0, s1⟩ := hSw; go_simp⟩) (by assumption) ?_
            (try simp only [Act.put, List.setIfInBounds_toArray, List.set_cons_zero, List.set_cons_succ])
            refine wpAnyH_take (i := 3) (oi := ⟨some 63, _, _, _, _, _⟩) (v := .pointer (some (ga.add (i * 6)))) rfl (by kernel_rfl) (by kernel_rfl) (by kernel_rfl) (fun _ _ _ h => h) (Or.inl ⟨by kernel_rfl, by intro WW hSw; obtain ⟨s0, s1⟩ := hSw; go_simp⟩) (by assumption) ?_
            (try simp only [Act.put, List.setIfInBounds_toArray, List.set_cons_zero, List.set_cons_succ])
            refine wpAnyH_take (i := 4) (oi := ⟨some 64, _, _, _, _, _⟩) (v := .pointer (some ⟨(ga.add (i * 6)).block, (ga.add (i * 6)).off + 2, none⟩)) rfl (by kernel_rfl) (by kernel_rfl) (by kernel_rfl) (fun _ _ _ h => h) (Or.inl ⟨by kernel_rfl, by intro WW hSw; obtain ⟨s0, s1⟩ := hSw; go_simp⟩) (by assumption) ?_
            (try simp only [Act.put, List.setIfInBounds_toArray, List.set_cons_zero, List.set_cons_succ])
            refine wpAnyH_take (i := 5) (oi := ⟨some 65, _, _, _, _, _⟩) (v := .int .u64 (x.a : Int)) rfl (by kernel_rfl) (by kernel_rfl) (by kernel_rfl) (fun _ _ _ h => h) (Or.inl ⟨by kernel_rfl, by intro WW hSw; obtain ⟨s0, s1⟩ := hSw; go_simp⟩) (by assumption) ?_
            (try simp only [Act.put, List.setIfInBounds_toArray, List.set_cons_zero, List.set_cons_succ])
            refine wpAnyH_take (i := 6) (oi := ⟨some 66, _, _, _, _, _⟩) (v := .slice (some ga) n2 cap2) rfl (by kernel_rfl) (by kernel_rfl) (by kernel_rfl) (fun _ _ _ h => h) (Or.inl ⟨by kernel_rfl, by intro WW hSw; obtain ⟨s0, s1⟩ := hSw; go_simp⟩) (by assumption) ?_
            (try simp only [Act.put, List.setIfInBounds_toArray, List.set_cons_zero, List.set_cons_succ])
            refine wpAnyH_take (i := 7) (oi := ⟨some 67, _, _, _, _, _⟩) (v := .int .i64 (i : Int)) rfl (by kernel_rfl) (by kernel_rfl) (by kernel_rfl) (fun _ _ _ h => h) (Or.inl ⟨by kernel_rfl, by intro WW hSw; obtain ⟨s0, s1⟩ := hSw; go_simp⟩) (by assumption) ?_
            (try simp only [Act.put, List.setIfInBounds_toArray, List.set_cons_zero, List.set_cons_succ])
            refine wpAnyH_take (i := 8) (oi := ⟨some 68, _, _, _, _, _⟩) (v := .pointer (some (ga.add (i * 6)))) rfl (by kernel_rfl) (by kernel_rfl) (by kernel_rfl) (fun _ _ _ h => h) (Or.inl ⟨by kernel_rfl, by intro WW hSw; obtain ⟨s0, s1⟩ := hSw; go_simp⟩) (by assumption) ?_
            (try simp only [Act.put, List.setIfInBounds_toArray, List.set_cons_zero, List.set_cons_succ])
            refine wpAnyH_take (i := 9) (oi := ⟨some 69, _, _, _, _, _⟩) (v := .pointer (some ⟨(ga.add (i * 6)).block, (ga.add (i * 6)).off + 3, none⟩)) rfl (by kernel_rfl) (by kernel_rfl) (by kernel_rfl) (fun _ _ _ h => h) (Or.inl ⟨by kernel_rfl, by intro WW hSw; obtain ⟨s0, s1⟩ := hSw; go_simp⟩) (by assumption) ?_
            (try simp only [Act.put, List.setIfInBounds_toArray, List.set_cons_zero, List.set_cons_succ])
            refine wpAnyH_take (i := 10) (oi := ⟨some 70, _, _, _, _, _⟩) (v := .int .u64 (x.v : Int)) rfl (by kernel_rfl) (by kernel_rfl) (by kernel_rfl) (fun _ _ _ h => h) (Or.inl ⟨by kernel_rfl, by intro WW hSw; obtain ⟨s0, s1⟩ := hSw; go_simp⟩) (by assumption) ?_
            (try simp only [Act.put, List.setIfInBounds_toArray, List.set_cons_zero, List.set_cons_succ])
            refine wpAnyH_take (i := 11) (oi := ⟨some 71, _, _, _, _, _⟩) (v := .agg #[.int .u64 (x.a : Int), .int .u64 (x.v : Int)]) rfl (by kernel_rfl) (by kernel_rfl) (by kernel_rfl) (fun _ _ _ h => h) (Or.inl ⟨by kernel_rfl, by intro WW hSw; obtain ⟨s0, s1⟩ := hSw; go_simp⟩) (by assumption) ?_
            (try simp only [Act.put, List.setIfInBounds_toArray, List.set_cons_zero, List.set_cons_succ])
            refine wpAnyH_one (i := 12) (oi := ⟨_, _, _, _, _, _⟩) rfl (by kernel_rfl) (fun K hK => ?_)
            refine step_buildM (by rfl) _ rfl (x.a : Int) (x.v : Int) rfl ?_
            have HQ1 := Lib.hid ((HQ0.out.below (drew_below _)).below (alloc_below _ (.cells #[.int .u64 (x.a : Int), .int .u64 (x.v : Int)] 47)))
            refine hK _ _ (HS12.out _ HQ1.out.low) (fun _ => ?_)
            clear hHeld
            have hHeld := HS12.out _ HQ1.out.low
            clear hK K
            (try simp only [Act.put, List.setIfInBounds_toArray, List.set_cons_zero, List.set_cons_succ])
            refine wpAnyH_one (i := 13) (oi := ⟨_, _, _, _, _, _⟩) rfl (by kernel_rfl) (fun K hK => ?_)
            refine step_appM (by rfl) _ _ rfl w.heap.size _ _ _ rfl HQ1.out.own _ _ _ rfl (Row.new _ _ _) ⟨rfl, rfl⟩ HLM.out HQ1.out.low.size ?_
            intro v5 w5 ho5 hg5 hat5
            have HQ := Lib.hid (HQ1.out.app (a := x.a) (v := x.v) hg5 ho5 hat5)
            refine hK _ _ (HS12.out _ HQ.out.low) (fun _ => ?_)
            clear hHeld
            have hHeld := HS12.out _ HQ.out.low
            clear hK K HQ0 HQ1 ho5 hg5 hat5
            (try simp only [Act.put, List.setIfInBounds_toArray, List.set_cons_zero, List.set_cons_succ])
            refine wpAnyH_take (i := 14) (oi := ⟨some 6, _, _, _, _, _⟩) (v := v5) rfl (by kernel_rfl) (by kernel_rfl) (by kernel_rfl) (fun _ _ _ h => h) (Or.inl ⟨by kernel_rfl, by intro WW hSw; skip; go_simp⟩) (by assumption) ?_
            (try simp only [Act.put, List.setIfInBounds_toArray, List.set_cons_zero, List.set_cons_succ])
            refine wpAnyH_done (by kernel_rfl) ?_ _
            unfold NoPanic
            clear hHeld
            have HM : Hid ((if x.k = 1 ∧ wd2 s.nl x.a = true then prs r.L ++ [(x.a, x.v)] else prs r.L) = prs r.L ++ [(x.a, x.v)]) := Lib.hid (if_pos ⟨K1.out, by rw [HP.out.nl]; exact HW.out⟩)
            have hcs := HCS.out _ HQ.out.low
            obtain ⟨p0, p1, p2, p3, p4, p5⟩ := hcs
            have HST := Lib.hid (HQ.out.act hnl8 (by omega) K6.out HM.out HKP.out H2.out hax.1 hax.2)
            unfold actA at HST
            clear HQ
            go_wp2_with fail
            refine HST.out.mono ?_
            rintro e w6 ⟨rfl, s', r', hF6, hM6⟩
            have HF6 : Hid (Fr w gg nl F0 (i + 1) v5 (prs r'.L) w6 s' r') := Lib.hid (hM6.symm ▸ hF6)
            clear hF6 hM6 HST
            go_wp2
            go_roundg (n2 - (i + 1))
            case measure => omega
            case rel => exact ⟨i + 1, s', r', by go_num, by omega, by omega, HF6.out⟩
        · have e1 : (x.k == 1) = false := by simp [k1]
          have K1 := Lib.hid k1
          clear k1
          go_upto_region 11 with (fail)
          refine wp_region_noPanic ?_
          refine wp_region_held_drew (S := (fun WW => WW.cell? (ga.add (i * 6)) = some (.int .i64 x.k) ∧ WW.cell? ⟨(ga.add (i * 6)).block, (ga.add (i * 6)).off + 2, none⟩ = some (.int .u64 (x.a : Int)) ∧ WW.cell? ⟨gg, 1, none⟩ = some (.pointer (some ⟨g, 0, none⟩)))) (by kernel_rfl) (⟨(HCS.out _ (belowT HP.out.low (belowB (drew_below _) HP.out.low.size))).1, (HCS.out _ (belowT HP.out.low (belowB (drew_below _) HP.out.low.size))).2.2.1, (HIS.out _ (drew_below _)).1⟩) (fun hHeld => ?_)
          refine wpAnyH_take (i := 0) (oi := ⟨some 42, _, _, _, _, _⟩) (v := .slice (some ga) n2 cap2) rfl (by kernel_rfl) (by kernel_rfl) (by kernel_rfl) (fun _ _ _ h => h) (Or.inl ⟨by kernel_rfl, by intro WW hSw; obtain ⟨s0, s1, s2⟩ := hSw; go_simp⟩) (by assumption) ?_
          (try simp only [Act.put, List.setIfInBounds_toArray, List.set_cons_zero, List.set_cons_succ])
          refine wpAnyH_take (i := 1) (oi := ⟨some 43, _, _, _, _, _⟩) (v := .int .i64 (i : Int)) rfl (by kernel_rfl) (by kernel_rfl) (by kernel_rfl) (fun _ _ _ h => h) (Or.inl ⟨by kernel_rfl, by intro WW hSw; obtain ⟨s0, s1, s2⟩ := hSw; go_simp⟩) (by assumption) ?_
          (try simp only [Act.put, List.setIfInBounds_toArray, List.set_cons_zero, List.set_cons_succ])
          refine wpAnyH_take (i := 2) (oi := ⟨some 44, _, _, _, _, _⟩) (v := .pointer (some (ga.add (i * 6)))) rfl (by kernel_rfl) (by kernel_rfl) (by kernel_rfl) (fun _ _ _ h => h) (Or.inl ⟨by kernel_rfl, by intro WW hSw; obtain ⟨s0, s1, s2⟩ := hSw; go_simp⟩) (by assumption) ?_
          (try simp only [Act.put, List.setIfInBounds_toArray, List.set_cons_zero, List.set_cons_succ])
          refine wpAnyH_take (i := 3) (oi := ⟨some 45, _, _, _, _, _⟩) (v := .pointer (some (ga.add (i * 6)))) rfl (by kernel_rfl) (by kernel_rfl) (by kernel_rfl) (fun _ _ _ h => h) (Or.inl ⟨by kernel_rfl, by intro WW hSw; obtain ⟨s0, s1, s2⟩ := hSw; go_simp⟩) (by assumption) ?_
          (try simp only [Act.put, List.setIfInBounds_toArray, List.set_cons_zero, List.set_cons_succ])
          refine wpAnyH_take (i := 4) (oi := ⟨some 46, _, _, _, _, _⟩) (v := .int .i64 x.k) rfl (by kernel_rfl) (by kernel_rfl) (by kernel_rfl) (fun _ _ _ h => h) (Or.inl ⟨by kernel_rfl, by intro WW hSw; obtain ⟨s0, s1, s2⟩ := hSw; go_simp⟩) (by assumption) ?_
          (try simp only [Act.put, List.setIfInBounds_toArray, List.set_cons_zero, List.set_cons_succ])
          refine wpAnyH_take (i := 5) (oi := ⟨some 47, _, _, _, _, _⟩) (v := .bool false) rfl (by kernel_rfl) (by kernel_rfl) (by kernel_rfl) (fun _ _ _ h => h) (Or.inl ⟨by kernel_rfl, by intro WW hSw; obtain ⟨s0, s1, s2⟩ := hSw; go_simp⟩) (by assumption) ?_
          (try simp only [Act.put, List.setIfInBounds_toArray, List.set_cons_zero, List.set_cons_succ])
          refine wpAnyH_take (i := 6) (oi := ⟨some 48, _, _, _, _, _⟩) (v := .bool false) rfl (by kernel_rfl) (by kernel_rfl) (by kernel_rfl) (fun _ _ _ h => h) (Or.inl ⟨by kernel_rfl, by intro WW hSw; obtain ⟨s0, s1, s2⟩ := hSw; go_simp⟩) (by assumption) ?_
          (try simp only [Act.put, List.setIfInBounds_toArray, List.set_cons_zero, List.set_cons_succ])
          refine wpAnyH_take (i := 7) (oi := ⟨some 49, _, _, _, _, _⟩) (v := undef) rfl (by kernel_rfl) (by kernel_rfl) (by kernel_rfl) (fun _ _ _ h => h) (Or.inr ⟨by kernel_rfl, rfl⟩) (by assumption) ?_
          (try simp only [Act.put, List.setIfInBounds_toArray, List.set_cons_zero, List.set_cons_succ])
          refine wpAnyH_take (i := 8) (oi := ⟨some 50, _, _, _, _, _⟩) (v := undef) rfl (by kernel_rfl) (by kernel_rfl) (by kernel_rfl) (fun _ _ _ h => h) (Or.inr ⟨by kernel_rfl, rfl⟩) (by assumption) ?_
          (try simp only [Act.put, List.setIfInBounds_toArray, List.set_cons_zero, List.set_cons_succ])
          refine wpAnyH_take (i := 9) (oi := ⟨some 51, _, _, _, _, _⟩) (v := undef) rfl (by kernel_rfl) (by kernel_rfl) (by kernel_rfl) (fun _ _ _ h => h) (Or.inr ⟨by kernel_rfl, rfl⟩) (by assumption) ?_
          (try simp only [Act.put, List.setIfInBounds_toArray, List.set_cons_zero, List.set_cons_succ])
          refine wpAnyH_take (i := 10) (oi := ⟨some 52, _, _, _, _, _⟩) (v := undef) rfl (by kernel_rfl) (by kernel_rfl) (by kernel_rfl) (fun _ _ _ h => h) (Or.inr ⟨by kernel_rfl, rfl⟩) (by assumption) ?_
          (try simp only [Act.put, List.setIfInBounds_toArray, List.set_cons_zero, List.set_cons_succ])
          refine wpAnyH_take (i := 11) (oi := ⟨some 53, _, _, _, _, _⟩) (v := undef) rfl (by kernel_rfl) (by kernel_rfl) (by kernel_rfl) (fun _ _ _ h => h) (Or.inr ⟨by kernel_rfl, rfl⟩) (by assumption) ?_
          (try simp only [Act.put, List.setIfInBounds_toArray, List.set_cons_zero, List.set_cons_succ])
          refine wpAnyH_take (i := 12) (oi := ⟨some 54, _, _, _, _, _⟩) (v := undef) rfl (by kernel_rfl) (by kernel_rfl) (by kernel_rfl) (fun _ _ _ h => h) (Or.inr ⟨by kernel_rfl, rfl⟩) (by assumption) ?_
          (try simp only [Act.put, List.setIfInBounds_toArray, List.set_cons_zero, List.set_cons_succ])
          refine wpAnyH_take (i := 13) (oi := ⟨some 55, _, _, _, _, _⟩) (v := undef) rfl (by kernel_rfl) (by kernel_rfl) (by kernel_rfl) (fun _ _ _ h => h) (Or.inr ⟨by kernel_rfl, rfl⟩) (by assumption) ?_
          (try simp only [Act.put, List.setIfInBounds_toArray, List.set_cons_zero, List.set_cons_succ])
          refine wpAnyH_take (i := 14) (oi := ⟨some 56, _, _, _, _, _⟩) (v := undef) rfl (by kernel_rfl) (by kernel_rfl) (by kernel_rfl) (fun _ _ _ h => h) (Or.inr ⟨by kernel_rfl, rfl⟩) (by assumption) ?_
          (try simp only [Act.put, List.setIfInBounds_toArray, List.set_cons_zero, List.set_cons_succ])
          refine wpAnyH_take (i := 15) (oi := ⟨some 57, _, _, _, _, _⟩) (v := undef) rfl (by kernel_rfl) (by kernel_rfl) (by kernel_rfl) (fun _ _ _ h => h) (Or.inr ⟨by kernel_rfl, rfl⟩) (by assumption) ?_
          (try simp only [Act.put, List.setIfInBounds_toArray, List.set_cons_zero, List.set_cons_succ])
          refine wpAnyH_take (i := 16) (oi := ⟨some 58, _, _, _, _, _⟩) (v := undef) rfl (by kernel_rfl) (by kernel_rfl) (by kernel_rfl) (fun _ _ _ h => h) (Or.inr ⟨by kernel_rfl, rfl⟩) (by assumption) ?_
          (try simp only [Act.put, List.setIfInBounds_toArray, List.set_cons_zero, List.set_cons_succ])
          refine wpAnyH_take (i := 17) (oi := ⟨some 59, _, _, _, _, _⟩) (v := .bool false) rfl (by kernel_rfl) (by kernel_rfl) (by kernel_rfl) (fun _ _ _ h => h) (Or.inl ⟨by kernel_rfl, by intro WW hSw; skip; go_simp⟩) (by assumption) ?_
          (try simp only [Act.put, List.setIfInBounds_toArray, List.set_cons_zero, List.set_cons_succ])
          refine wpAnyH_done (by kernel_rfl) ?_ _
          unfold NoPanic
          clear hHeld
          have HM : Hid ((if x.k = 1 ∧ wd2 s.nl x.a = true then prs r.L ++ [(x.a, x.v)] else prs r.L) = prs r.L) := Lib.hid (if_neg (fun q => K1.out q.1))
          have HQ := Lib.hid (HP.out.below (drew_below _))
          have hcs := HCS.out _ HQ.out.low
          obtain ⟨p0, p1, p2, p3, p4, p5⟩ := hcs
          clear c0 c1 c2 c3 c4 c5
          have HST := Lib.hid (HQ.out.act hnl8 (by omega) K6.out HM.out HKP.out H2.out hax.1 hax.2)
          unfold actA at HST
          clear HQ
          go_wp2_with fail
          refine HST.out.mono ?_
          rintro e w6 ⟨rfl, s', r', hF6, hM6⟩
          have HF6 : Hid (Fr w gg nl F0 (i + 1) (.slice AM (prs r.L).length cM) (prs r'.L) w6 s' r') := Lib.hid (hM6.symm ▸ hF6)
          clear hF6 hM6 HST
          go_wp2
          go_roundg (n2 - (i + 1))
          case measure => omega
          case rel => exact ⟨i + 1, s', r', by go_num, by omega, by omega, HF6.out⟩
    · have hje : i = n2 := by omega
      have hdj : decide ((i : Int) < (n2 : Int)) = false := by simp; omega
      obtain ⟨yg, hLK⟩ := HP.out.gs.looks HP.out.rel
      have HLK := Lib.hid hLK
      have EGI := Lib.hid (enters_of Try.func16 (by kernel_rfl) rfl)
      have EGV := Lib.hid (enters_of Try.func17 (by kernel_rfl) rfl)
      have EGS := Lib.hid (enters_of Try.func18 (by kernel_rfl) rfl)
      clear hLK
      go_upto_region 15 with (fail)
      refine wp_region_noPanic ?_
      refine wp_region_held_drew (S := (fun WW => WW.cell? ⟨gg, 0, none⟩ = some (.pointer (some ⟨yg, 0, none⟩)))) (by kernel_rfl) ((HLK.out _ (drew_below _)).c0) (fun hHeld => ?_)
      refine wpAnyH_take (i := 0) (oi := ⟨some 81, _, _, _, _, _⟩) (v := .pointer (some ⟨gg, 0, none⟩)) rfl (by kernel_rfl) (by kernel_rfl) (by kernel_rfl) (fun _ _ _ h => h) (Or.inl ⟨by kernel_rfl, by intro WW hSw; skip; go_simp⟩) (by assumption) ?_
      (try simp only [Act.put, List.setIfInBounds_toArray, List.set_cons_zero, List.set_cons_succ])
      refine wpAnyH_take (i := 1) (oi := ⟨some 82, _, _, _, _, _⟩) (v := .pointer (some ⟨gg, 0, none⟩)) rfl (by kernel_rfl) (by kernel_rfl) (by kernel_rfl) (fun _ _ _ h => h) (Or.inl ⟨by kernel_rfl, by intro WW hSw; skip; go_simp⟩) (by assumption) ?_
      (try simp only [Act.put, List.setIfInBounds_toArray, List.set_cons_zero, List.set_cons_succ])
      refine wpAnyH_take (i := 2) (oi := ⟨some 83, _, _, _, _, _⟩) (v := .pointer (some ⟨gg, 0, none⟩)) rfl (by kernel_rfl) (by kernel_rfl) (by kernel_rfl) (fun _ _ _ h => h) (Or.inl ⟨by kernel_rfl, by intro WW hSw; skip; go_simp⟩) (by assumption) ?_
      (try simp only [Act.put, List.setIfInBounds_toArray, List.set_cons_zero, List.set_cons_succ])
      refine wpAnyH_take (i := 3) (oi := ⟨some 84, _, _, _, _, _⟩) (v := .pointer (some ⟨yg, 0, none⟩)) rfl (by kernel_rfl) (by kernel_rfl) (by kernel_rfl) (fun _ _ _ h => h) (Or.inl ⟨by kernel_rfl, by intro WW hSw; skip; go_simp⟩) (by assumption) ?_
      (try simp only [Act.put, List.setIfInBounds_toArray, List.set_cons_zero, List.set_cons_succ])
      refine wpAnyH_take (i := 5) (oi := ⟨some 86, _, _, _, _, _⟩) (v := .pointer (some ⟨gg, 0, none⟩)) rfl (by kernel_rfl) (by kernel_rfl) (by kernel_rfl) (fun _ _ _ h => h) (Or.inl ⟨by kernel_rfl, by intro WW hSw; skip; go_simp⟩) (by assumption) ?_
      (try simp only [Act.put, List.setIfInBounds_toArray, List.set_cons_zero, List.set_cons_succ])
      refine wpAnyH_take (i := 6) (oi := ⟨some 87, _, _, _, _, _⟩) (v := .pointer (some ⟨gg, 0, none⟩)) rfl (by kernel_rfl) (by kernel_rfl) (by kernel_rfl) (fun _ _ _ h => h) (Or.inl ⟨by kernel_rfl, by intro WW hSw; skip; go_simp⟩) (by assumption) ?_
      (try simp only [Act.put, List.setIfInBounds_toArray, List.set_cons_zero, List.set_cons_succ])
      refine wpAnyH_take (i := 7) (oi := ⟨some 88, _, _, _, _, _⟩) (v := .pointer (some ⟨gg, 0, none⟩)) rfl (by kernel_rfl) (by kernel_rfl) (by kernel_rfl) (fun _ _ _ h => h) (Or.inl ⟨by kernel_rfl, by intro WW hSw; skip; go_simp⟩) (by assumption) ?_
      (try simp only [Act.put, List.setIfInBounds_toArray, List.set_cons_zero, List.set_cons_succ])
      refine wpAnyH_take (i := 8) (oi := ⟨some 89, _, _, _, _, _⟩) (v := .pointer (some ⟨yg, 0, none⟩)) rfl (by kernel_rfl) (by kernel_rfl) (by kernel_rfl) (fun _ _ _ h => h) (Or.inl ⟨by kernel_rfl, by intro WW hSw; skip; go_simp⟩) (by assumption) ?_
      (try simp only [Act.put, List.setIfInBounds_toArray, List.set_cons_zero, List.set_cons_succ])
      refine wpAnyH_one (i := 4) (oi := ⟨_, _, _, _, _, _⟩) rfl (by kernel_rfl) (fun K hK => ?_)
      refine step_calls (by rfl) 16 EGI.out [.tmp 84] _ rfl [.pointer (some ⟨yg, 0, none⟩)] rfl (HLK.out _ (drew_below _)).image ?_
      rintro e x1 ⟨⟨vI, rfl, oI⟩, b1⟩
      have B1 := Lib.hid (Below.and (drew_below wr) b1)
      refine ⟨_, rfl, hK _ _ (HLK.out _ B1.out).c0 (fun _ => ?_)⟩
      clear hHeld
      have hHeld := (HLK.out _ B1.out).c0
      have OI := Lib.hid oI
      clear hK K oI b1
      (try simp only [Act.put, List.setIfInBounds_toArray, List.set_cons_zero, List.set_cons_succ])
      refine wpAnyH_one (i := 9) (oi := ⟨_, _, _, _, _, _⟩) rfl (by kernel_rfl) (fun K hK => ?_)
      refine step_calls (by rfl) 17 EGV.out [.tmp 89] _ rfl [.pointer (some ⟨yg, 0, none⟩)] rfl (HLK.out _ B1.out).view ?_
      rintro e x2 ⟨⟨vV, rfl, oV⟩, b2⟩
      have B2 := Lib.hid (Below.and B1.out b2)
      refine ⟨_, rfl, hK _ _ (HLK.out _ B2.out).c0 (fun _ => ?_)⟩
      clear hHeld
      have hHeld := (HLK.out _ B2.out).c0
      have OV := Lib.hid oV
      have OI2 := Lib.hid (own2_below OI.out b2)
      clear hK K oV b2 OI
      (try simp only [Act.put, List.setIfInBounds_toArray, List.set_cons_zero, List.set_cons_succ])
      refine wpAnyH_take (i := 10) (oi := ⟨some 8, _, _, _, _, _⟩) (v := vI) rfl (by kernel_rfl) (by kernel_rfl) (by kernel_rfl) (fun _ _ _ h => h) (Or.inl ⟨by kernel_rfl, by intro WW hSw; skip; go_simp⟩) (by assumption) ?_
      (try simp only [Act.put, List.setIfInBounds_toArray, List.set_cons_zero, List.set_cons_succ])
      refine wpAnyH_take (i := 11) (oi := ⟨some 9, _, _, _, _, _⟩) (v := vV) rfl (by kernel_rfl) (by kernel_rfl) (by kernel_rfl) (fun _ _ _ h => h) (Or.inl ⟨by kernel_rfl, by intro WW hSw; skip; go_simp⟩) (by assumption) ?_
      (try simp only [Act.put, List.setIfInBounds_toArray, List.set_cons_zero, List.set_cons_succ])
      refine wpAnyH_done (by kernel_rfl) ?_ _
      unfold NoPanic
      clear hHeld
      obtain ⟨IM, hIM⟩ : ∃ IM, IM = s.lasted := ⟨_, rfl⟩
      obtain ⟨VW, hVW⟩ : ∃ VW, VW = s.view := ⟨_, rfl⟩
      obtain ⟨M, hM⟩ : ∃ M, M = prs r.L := ⟨_, rfl⟩
      have hIMl : IM.length = 8 * nl := by rw [hIM, HP.out.rel.ll, HP.out.nl]
      have hVWl : VW.length = 8 * nl := by rw [hVW, HP.out.rel.vl, HP.out.nl]
      have HFRONT := Lib.hid (fun j (hj : j < nl) => (show ∃ t, t ≤ M.length ∧ lineB (lastW F0 (M.take t)) j = lineB IM j by
        have := front_at HP.out.rel (j := j) (by rw [HP.out.nl]; exact hj)
        rw [HP.out.F, ← hM, ← hIM] at this
        exact this))
      have HALL := Lib.hid (show lastW F0 M = VW by rw [hVW, HP.out.rel.view, HP.out.F, hM])
      have HPUT := Lib.hid (fun (t : Nat) (p : Nat × Nat) (hp : M[t]? = some p) => (show p.1 % 8 = 0 ∧ p.1 < 64 * nl ∧ p.2 < 18446744073709551616 by
        rw [hM] at hp
        obtain ⟨y, hy, rfl⟩ := List.mem_map.1 (List.mem_of_getElem? hp)
        have := HP.out.rel.ad y hy
        rw [HP.out.nl] at this
        exact this))
      have hM60 : M.length ≤ 1000 := by
        have h1 := HP.out.sm.l
        rw [hM, prs_len]; omega
      have HOM := Lib.hid (own2_below HP.out.own B2.out)
      have HLW := Lib.hid (belowT HP.out.low (belowB B2.out HP.out.low.size))
      rw [← hM] at HOM
      have hbI : (bytesL IM).length = n := by rw [bytesL_len, hIMl, HNL.out]; omega
      have hbV : (bytesL VW).length = n := by rw [bytesL_len, hVWl, HNL.out]; omega
      have OI3 := OI2.out
      have OV3 := OV.out
      rw [← hIM, hbI] at OI3
      rw [← hVW, hbV] at OV3
      have hn0 : 0 < n := by have := HNL.out; omega
      obtain ⟨gi, ki, _, hvI, hki, _, _, _⟩ := own4_shape OI3 hn0
      obtain ⟨gv, kv, _, hvV, hkv, _, _, _⟩ := own4_shape OV3 hn0
      subst hvI hvV
      have HOI := Lib.hid OI3
      have HOV := Lib.hid OV3
      have HIL := Lib.hid hIMl
      have HVL := Lib.hid hVWl
      rw [← hM]
      obtain ⟨gas, hgas⟩ : ∃ q, q = M.length := ⟨_, rfl⟩
      have HGAS := Lib.hid hgas
      rw [← hgas] at hM60 HOM ⊢
      clear OI2 OV OI3 OV3 hIM hVW hM hIMl hVWl hbI hbV HLK HP B1 B2 hdj hje hgas EGI EGV
      go_wp2
      go_loopg [10] nl (fun k v wr => ∃ (j : Nat), v = .int .i64 ((64 * j : Nat) : Int) ∧ j ≤ nl ∧ nl - j ≤ k ∧ Below x2.heap.size x2 wr)
      case atStart => exact ⟨0, rfl, by omega, by omega, Below.refl _ _⟩
      case round =>
        obtain ⟨j, rfl, hjn, hk, hlow⟩ := hrel
        rename World => wa
        have HLA := Lib.hid hlow
        clear hlow
        obtain ⟨f, hf⟩ : ∃ f, f = 64 * j := ⟨_, rfl⟩
        rw [← hf]
        have HF := Lib.hid hf
        by_cases hlt : j < nl
        · have hfn : f < n := by have := HNL.out; omega
          have hfnI : decide ((f : Int) < (n : Int)) = true := by simp; omega
          have hf64 : f + 64 ≤ n := by have := HNL.out; omega
          have hwf : IntKind.i64.wrap ((f : Int) + 64) = (f : Int) + 64 := by rw [IntKind.wrap_i64]; omega
          have HNX : Hid ((f : Int) + 64 = ((64 * (j + 1) : Nat) : Int)) := Lib.hid (by omega)
          have HLWA := Lib.hid (belowT HLW.out (belowB HLA.out HLW.out.size))
          have HOF := Lib.hid (show Calls Try.prog 11 #[.slice A n cap] wa (MadeMem wa (St.ofBytes nl bs)) by rw [HNL.out]; exact pOf_yes (HBS.out.len.trans HNL.out) (HBS.out.below HLWA.out).sl HBS.out.b hnl0 (by omega))
          have HFJ := Lib.hid (lineB_len HIL.out hlt)
          have HVJ := Lib.hid (lineB_len HVL.out hlt)
          have HF0L : Hid (F0.length = 8 * nl) := Lib.hid (by rw [HF0.out, wordsK_len])
          obtain ⟨TI, hTI⟩ : ∃ T, T = strOf (lineB IM j) := ⟨_, rfl⟩
          obtain ⟨TV, hTV⟩ : ∃ T, T = strOf (lineB VW j) := ⟨_, rfl⟩
          have HTI := Lib.hid hTI
          have HTV := Lib.hid hTV
          have HCI := Lib.hid (fun (W : World) (hb : Below x2.heap.size x2 W) => (show (convert 22 9 (.slice (some ⟨gi, f, none⟩) 64 (ki - f))).run Try.prog W = .ok (.string TI) W by
            have := line_conv (j := j) (own2_below HOI.out hb) HFJ.out
            rw [← HF.out, ← HTI.out] at this
            exact this))
          have HCV := Lib.hid (fun (W : World) (hb : Below x2.heap.size x2 W) => (show (convert 22 9 (.slice (some ⟨gv, f, none⟩) 64 (kv - f))).run Try.prog W = .ok (.string TV) W by
            have := line_conv (j := j) (own2_below HOV.out hb) HVJ.out
            rw [← HF.out, ← HTV.out] at this
            exact this))
          have hslI := sl64 ⟨gi, 0, none⟩ f n ki (by omega)
          have hslV := sl64 ⟨gv, 0, none⟩ f n kv (by omega)
          rw [Addr.add_lit, Nat.zero_add] at hslI hslV
          clear hf hTI hTV
          go_wp2_with fail
          refine HOF.out.mono ?_
          rintro e w4 ⟨y4, rfl, hm4, hf4, hb4⟩
          have HFM : Hid (FmI wa y4.g nl F0 M 0 w4) := Lib.hid ⟨y4, _, hm4, rfl, hf4, by rw [HF0.out]; exact StG.zero HBS.out.b M, hb4⟩
          obtain ⟨mg, hmg⟩ : ∃ q, q = y4.g := ⟨_, rfl⟩
          rw [← hmg] at HFM ⊢
          clear hm4 hf4 hb4 hmg HOF
          go_wp2
          go_loopg [11, 12, 15] (gas + 1) (fun k uf uw v wr => ∃ (i : Nat) (fnd whl : Bool), v = .int .i64 (i : Int) ∧ uf = .bool fnd ∧ uw = .bool whl ∧ i ≤ gas + 1 ∧ gas + 1 - i ≤ k ∧ FmI wa mg nl F0 M (min i gas) wr ∧ (∀ t, t < i → lineB (lastW F0 (M.take t)) j = lineB IM j → fnd = true) ∧ (i = gas + 1 → whl = true))
          case atStart => exact ⟨0, false, false, rfl, rfl, rfl, by omega, by omega, by rw [Nat.zero_min]; exact HFM.out, fun t ht => by omega, fun e => by omega⟩
          case round =>
            obtain ⟨i4, fnd, whl, rfl, rfl, rfl, hin4, hk4, hFM, hfnd, hwhl⟩ := hrel
            rename World => wc
            have HFM4 := Lib.hid hFM
            have HFND := Lib.hid hfnd
            have HWHL := Lib.hid hwhl
            clear hFM hfnd hwhl HFM
            by_cases hle : i4 ≤ gas
            · have hleI : decide ((i4 : Int) ≤ (gas : Int)) = true := by simp; omega
              have HFM5 : Hid (FmI wa mg nl F0 M i4 wc) := Lib.hid (by have := HFM4.out; rwa [Nat.min_eq_left hle] at this)
              have HVC := Lib.hid HFM5.out.view
              clear HFM4 HWHL
              go_wp2_with fail
              refine HVC.out.mono ?_
              rintro e x4 ⟨⟨vN, rfl, oN⟩, bN⟩
              have HNWl : Hid ((lastW F0 (M.take i4)).length = 8 * nl) := Lib.hid (by rw [lastW_length, HF0L.out])
              have hbN : (bytesL (lastW F0 (M.take i4))).length = n := by rw [bytesL_len, HNWl.out, HNL.out]; omega
              rw [hbN] at oN
              obtain ⟨gn, kn, _, hvN, hkn, _, _, _⟩ := own4_shape oN hn0
              subst hvN
              have HFM6 := Lib.hid (HFM5.out.below bN)
              have HXL : Hid (Below x2.heap.size x2 x4) := Lib.hid (by obtain ⟨_, _, _, _, _, _, q⟩ := HFM6.out; exact belowT HLA.out (belowB q HLA.out.size))
              obtain ⟨TN, hTN⟩ : ∃ T, T = strOf (lineB (lastW F0 (M.take i4)) j) := ⟨_, rfl⟩
              have HTN := Lib.hid hTN
              have hslN := sl64 ⟨gn, 0, none⟩ f n kn (by omega)
              rw [Addr.add_lit, Nat.zero_add] at hslN
              have ON := Lib.hid oN
              have HCN := Lib.hid (fun (W : World) (hb : Below x4.heap.size x4 W) => (show (convert 22 9 (.slice (some ⟨gn, f, none⟩) 64 (kn - f))).run Try.prog W = .ok (.string TN) W by
                have := line_conv (j := j) (own2_below ON.out hb) (lineB_len HNWl.out hlt)
                rw [← HF.out, ← HTN.out] at this
                exact this))
              obtain ⟨b1, hb1⟩ : ∃ b, (TN.toList == TI.toList) = b := ⟨_, rfl⟩
              obtain ⟨b2, hb2⟩ : ∃ b, (TN.toList == TV.toList) = b := ⟨_, rfl⟩
              have HB1 : Hid (lineB (lastW F0 (M.take i4)) j = lineB IM j → b1 = true) := Lib.hid (fun q => by rw [← hb1, hTN, HTI.out, q]; simp)
              have HB2 : Hid (i4 = gas → b2 = true) := Lib.hid (fun q => by
                rw [← hb2, hTN, HTV.out, q, HGAS.out, List.take_length, HALL.out]; simp)
              clear oN bN hTN HFM5 HVC hbN
              cases fnd
              case false =>
                have hcN := HCN.out x4.drew (drew_below _)
                have hcI := HCI.out x4.drew (belowT HXL.out (belowB (drew_below _) HXL.out.size))
                go_upto_region 27 with (fail)
                refine wp_region_noPanic ?_
                refine wp_region_held_drew (S := (fun WW => WW = x4.drew)) (by kernel_rfl) (rfl) (fun hHeld => ?_)
                refine wpAnyH_take (i := 0) (oi := ⟨some 116, _, _, _, _, _⟩) (v := .bool false) rfl (by kernel_rfl) (by kernel_rfl) (by kernel_rfl) (fun _ _ _ h => h) (Or.inl ⟨by kernel_rfl, by intro WW hSw; skip; go_simp⟩) (by assumption) ?_
                (try simp only [Act.put, List.setIfInBounds_toArray, List.set_cons_zero, List.set_cons_succ])
                refine wpAnyH_take (i := 1) (oi := ⟨some 117, _, _, _, _, _⟩) (v := .bool false) rfl (by kernel_rfl) (by kernel_rfl) (by kernel_rfl) (fun _ _ _ h => h) (Or.inl ⟨by kernel_rfl, by intro WW hSw; skip; go_simp⟩) (by assumption) ?_
                (try simp only [Act.put, List.setIfInBounds_toArray, List.set_cons_zero, List.set_cons_succ])
                refine wpAnyH_take (i := 2) (oi := ⟨some 118, _, _, _, _, _⟩) (v := .slice (some ⟨gn, 0, none⟩) n kn) rfl (by kernel_rfl) (by kernel_rfl) (by kernel_rfl) (fun _ _ _ h => h) (Or.inl ⟨by kernel_rfl, by intro WW hSw; skip; go_simp⟩) (by assumption) ?_
                (try simp only [Act.put, List.setIfInBounds_toArray, List.set_cons_zero, List.set_cons_succ])
                refine wpAnyH_take (i := 3) (oi := ⟨some 119, _, _, _, _, _⟩) (v := .int .i64 (f : Int)) rfl (by kernel_rfl) (by kernel_rfl) (by kernel_rfl) (fun _ _ _ h => h) (Or.inl ⟨by kernel_rfl, by intro WW hSw; skip; go_simp⟩) (by assumption) ?_
                (try simp only [Act.put, List.setIfInBounds_toArray, List.set_cons_zero, List.set_cons_succ])
                refine wpAnyH_take (i := 4) (oi := ⟨some 120, _, _, _, _, _⟩) (v := .int .i64 (f : Int)) rfl (by kernel_rfl) (by kernel_rfl) (by kernel_rfl) (fun _ _ _ h => h) (Or.inl ⟨by kernel_rfl, by intro WW hSw; skip; go_simp⟩) (by assumption) ?_
                (try simp only [Act.put, List.setIfInBounds_toArray, List.set_cons_zero, List.set_cons_succ])
                refine wpAnyH_take (i := 5) (oi := ⟨some 121, _, _, _, _, _⟩) (v := .int .i64 ((f : Int) + 64)) rfl (by kernel_rfl) (by kernel_rfl) (by kernel_rfl) (fun _ _ _ h => h) (Or.inl ⟨by kernel_rfl, by intro WW hSw; skip; go_simp⟩) (by assumption) ?_
                (try simp only [Act.put, List.setIfInBounds_toArray, List.set_cons_zero, List.set_cons_succ])
                refine wpAnyH_take (i := 6) (oi := ⟨some 122, _, _, _, _, _⟩) (v := .slice (some ⟨gn, f, none⟩) 64 (kn - f)) rfl (by kernel_rfl) (by kernel_rfl) (by kernel_rfl) (fun _ _ _ h => h) (Or.inl ⟨by kernel_rfl, by intro WW hSw; skip; go_simp⟩) (by assumption) ?_
                (try simp only [Act.put, List.setIfInBounds_toArray, List.set_cons_zero, List.set_cons_succ])
                refine wpAnyH_take (i := 7) (oi := ⟨some 123, _, _, _, _, _⟩) (v := .string TN) rfl (by kernel_rfl) (by kernel_rfl) (by kernel_rfl) (fun _ _ _ h => h) (Or.inl ⟨by kernel_rfl, by intro WW hSw; subst hSw; go_simp⟩) (by assumption) ?_
                (try simp only [Act.put, List.setIfInBounds_toArray, List.set_cons_zero, List.set_cons_succ])
                refine wpAnyH_take (i := 8) (oi := ⟨some 124, _, _, _, _, _⟩) (v := .slice (some ⟨gi, 0, none⟩) n ki) rfl (by kernel_rfl) (by kernel_rfl) (by kernel_rfl) (fun _ _ _ h => h) (Or.inl ⟨by kernel_rfl, by intro WW hSw; skip; go_simp⟩) (by assumption) ?_
                (try simp only [Act.put, List.setIfInBounds_toArray, List.set_cons_zero, List.set_cons_succ])
                refine wpAnyH_take (i := 9) (oi := ⟨some 125, _, _, _, _, _⟩) (v := .int .i64 (f : Int)) rfl (by kernel_rfl) (by kernel_rfl) (by kernel_rfl) (fun _ _ _ h => h) (Or.inl ⟨by kernel_rfl, by intro WW hSw; skip; go_simp⟩) (by assumption) ?_
                (try simp only [Act.put, List.setIfInBounds_toArray, List.set_cons_zero, List.set_cons_succ])
                refine wpAnyH_take (i := 10) (oi := ⟨some 126, _, _, _, _, _⟩) (v := .int .i64 (f : Int)) rfl (by kernel_rfl) (by kernel_rfl) (by kernel_rfl) (fun _ _ _ h => h) (Or.inl ⟨by kernel_rfl, by intro WW hSw; skip; go_simp⟩) (by assumption) ?_
                (try simp only [Act.put, List.setIfInBounds_toArray, List.set_cons_zero, List.set_cons_succ])
                refine wpAnyH_take (i := 11) (oi := ⟨some 127, _, _, _, _, _⟩) (v := .int .i64 ((f : Int) + 64)) rfl (by kernel_rfl) (by kernel_rfl) (by kernel_rfl) (fun _ _ _ h => h) (Or.inl ⟨by kernel_rfl, by intro WW hSw; skip; go_simp⟩) (by assumption) ?_
                (try simp only [Act.put, List.setIfInBounds_toArray, List.set_cons_zero, List.set_cons_succ])
                refine wpAnyH_take (i := 12) (oi := ⟨some 128, _, _, _, _, _⟩) (v := .slice (some ⟨gi, f, none⟩) 64 (ki - f)) rfl (by kernel_rfl) (by kernel_rfl) (by kernel_rfl) (fun _ _ _ h => h) (Or.inl ⟨by kernel_rfl, by intro WW hSw; skip; go_simp⟩) (by assumption) ?_
                (try simp only [Act.put, List.setIfInBounds_toArray, List.set_cons_zero, List.set_cons_succ])
                refine wpAnyH_take (i := 13) (oi := ⟨some 129, _, _, _, _, _⟩) (v := .string TI) rfl (by kernel_rfl) (by kernel_rfl) (by kernel_rfl) (fun _ _ _ h => h) (Or.inl ⟨by kernel_rfl, by intro WW hSw; subst hSw; go_simp⟩) (by assumption) ?_
                (try simp only [Act.put, List.setIfInBounds_toArray, List.set_cons_zero, List.set_cons_succ])
                refine wpAnyH_take (i := 14) (oi := ⟨some 130, _, _, _, _, _⟩) (v := .bool b1) rfl (by kernel_rfl) (by kernel_rfl) (by kernel_rfl) (fun _ _ _ h => h) (Or.inl ⟨by kernel_rfl, by intro WW hSw; skip; go_simp⟩) (by assumption) ?_
                (try simp only [Act.put, List.setIfInBounds_toArray, List.set_cons_zero, List.set_cons_succ])
                refine wpAnyH_take (i := 15) (oi := ⟨some 131, _, _, _, _, _⟩) (v := .bool b1) rfl (by kernel_rfl) (by kernel_rfl) (by kernel_rfl) (fun _ _ _ h => h) (Or.inl ⟨by kernel_rfl, by intro WW hSw; skip; go_simp⟩) (by assumption) ?_
                (try simp only [Act.put, List.setIfInBounds_toArray, List.set_cons_zero, List.set_cons_succ])
                refine wpAnyH_take (i := 16) (oi := ⟨some 11, _, _, _, _, _⟩) (v := .bool b1) rfl (by kernel_rfl) (by kernel_rfl) (by kernel_rfl) (fun _ _ _ h => h) (Or.inl ⟨by kernel_rfl, by intro WW hSw; skip; go_simp⟩) (by assumption) ?_
                (try simp only [Act.put, List.setIfInBounds_toArray, List.set_cons_zero, List.set_cons_succ])
                refine wpAnyH_done (by kernel_rfl) ?_ _
                unfold NoPanic
                clear hHeld
                clear hcN hcI
                have hcN := HCN.out x4.drew.drew (Below.and (drew_below _) (drew_below _))
                have hcV := HCV.out x4.drew.drew (belowT HXL.out (belowB (Below.and (drew_below _) (drew_below _)) HXL.out.size))
                go_upto_region 28 with (fail)
                refine wp_region_noPanic ?_
                refine wp_region_held_drew (S := (fun WW => WW = x4.drew.drew)) (by kernel_rfl) (rfl) (fun hHeld => ?_)
                refine wpAnyH_take (i := 0) (oi := ⟨some 132, _, _, _, _, _⟩) (v := .slice (some ⟨gn, 0, none⟩) n kn) rfl (by kernel_rfl) (by kernel_rfl) (by kernel_rfl) (fun _ _ _ h => h) (Or.inl ⟨by kernel_rfl, by intro WW hSw; skip; go_simp⟩) (by assumption) ?_
                (try simp only [Act.put, List.setIfInBounds_toArray, List.set_cons_zero, List.set_cons_succ])
                refine wpAnyH_take (i := 1) (oi := ⟨some 133, _, _, _, _, _⟩) (v := .int .i64 (f : Int)) rfl (by kernel_rfl) (by kernel_rfl) (by kernel_rfl) (fun _ _ _ h => h) (Or.inl ⟨by kernel_rfl, by intro WW hSw; skip; go_simp⟩) (by assumption) ?_
                (try simp only [Act.put, List.setIfInBounds_toArray, List.set_cons_zero, List.set_cons_succ])
                refine wpAnyH_take (i := 2) (oi := ⟨some 134, _, _, _, _, _⟩) (v := .int .i64 (f : Int)) rfl (by kernel_rfl) (by kernel_rfl) (by kernel_rfl) (fun _ _ _ h => h) (Or.inl ⟨by kernel_rfl, by intro WW hSw; skip; go_simp⟩) (by assumption) ?_
                (try simp only [Act.put, List.setIfInBounds_toArray, List.set_cons_zero, List.set_cons_succ])
                refine wpAnyH_take (i := 3) (oi := ⟨some 135, _, _, _, _, _⟩) (v := .int .i64 ((f : Int) + 64)) rfl (by kernel_rfl) (by kernel_rfl) (by kernel_rfl) (fun _ _ _ h => h) (Or.inl ⟨by kernel_rfl, by intro WW hSw; skip; go_simp⟩) (by assumption) ?_
                (try simp only [Act.put, List.setIfInBounds_toArray, List.set_cons_zero, List.set_cons_succ])
                refine wpAnyH_take (i := 4) (oi := ⟨some 136, _, _, _, _, _⟩) (v := .slice (some ⟨gn, f, none⟩) 64 (kn - f)) rfl (by kernel_rfl) (by kernel_rfl) (by kernel_rfl) (fun _ _ _ h => h) (Or.inl ⟨by kernel_rfl, by intro WW hSw; skip; go_simp⟩) (by assumption) ?_
                (try simp only [Act.put, List.setIfInBounds_toArray, List.set_cons_zero, List.set_cons_succ])
                refine wpAnyH_take (i := 5) (oi := ⟨some 137, _, _, _, _, _⟩) (v := .string TN) rfl (by kernel_rfl) (by kernel_rfl) (by kernel_rfl) (fun _ _ _ h => h) (Or.inl ⟨by kernel_rfl, by intro WW hSw; subst hSw; go_simp⟩) (by assumption) ?_
                (try simp only [Act.put, List.setIfInBounds_toArray, List.set_cons_zero, List.set_cons_succ])
                refine wpAnyH_take (i := 6) (oi := ⟨some 138, _, _, _, _, _⟩) (v := .slice (some ⟨gv, 0, none⟩) n kv) rfl (by kernel_rfl) (by kernel_rfl) (by kernel_rfl) (fun _ _ _ h => h) (Or.inl ⟨by kernel_rfl, by intro WW hSw; skip; go_simp⟩) (by assumption) ?_
                (try simp only [Act.put, List.setIfInBounds_toArray, List.set_cons_zero, List.set_cons_succ])
                refine wpAnyH_take (i := 7) (oi := ⟨some 139, _, _, _, _, _⟩) (v := .int .i64 (f : Int)) rfl (by kernel_rfl) (by kernel_rfl) (by kernel_rfl) (fun _ _ _ h => h) (Or.inl ⟨by kernel_rfl, by intro WW hSw; skip; go_simp⟩) (by assumption) ?_
                (try simp only [Act.put, List.setIfInBounds_toArray, List.set_cons_zero, List.set_cons_succ])
                refine wpAnyH_take (i := 8) (oi := ⟨some 140, _, _, _, _, _⟩) (v := .int .i64 (f : Int)) rfl (by kernel_rfl) (by kernel_rfl) (by kernel_rfl) (fun _ _ _ h => h) (Or.inl ⟨by kernel_rfl, by intro WW hSw; skip; go_simp⟩) (by assumption) ?_
                (try simp only [Act.put, List.setIfInBounds_toArray, List.set_cons_zero, List.set_cons_succ])
                refine wpAnyH_take (i := 9) (oi := ⟨some 141, _, _, _, _, _⟩) (v := .int .i64 ((f : Int) + 64)) rfl (by kernel_rfl) (by kernel_rfl) (by kernel_rfl) (fun _ _ _ h => h) (Or.inl ⟨by kernel_rfl, by intro WW hSw; skip; go_simp⟩) (by assumption) ?_
                (try simp only [Act.put, List.setIfInBounds_toArray, List.set_cons_zero, List.set_cons_succ])
                refine wpAnyH_take (i := 10) (oi := ⟨some 142, _, _, _, _, _⟩) (v := .slice (some ⟨gv, f, none⟩) 64 (kv - f)) rfl (by kernel_rfl) (by kernel_rfl) (by kernel_rfl) (fun _ _ _ h => h) (Or.inl ⟨by kernel_rfl, by intro WW hSw; skip; go_simp⟩) (by assumption) ?_
                (try simp only [Act.put, List.setIfInBounds_toArray, List.set_cons_zero, List.set_cons_succ])
                refine wpAnyH_take (i := 11) (oi := ⟨some 143, _, _, _, _, _⟩) (v := .string TV) rfl (by kernel_rfl) (by kernel_rfl) (by kernel_rfl) (fun _ _ _ h => h) (Or.inl ⟨by kernel_rfl, by intro WW hSw; subst hSw; go_simp⟩) (by assumption) ?_
                (try simp only [Act.put, List.setIfInBounds_toArray, List.set_cons_zero, List.set_cons_succ])
                refine wpAnyH_take (i := 12) (oi := ⟨some 144, _, _, _, _, _⟩) (v := .bool b2) rfl (by kernel_rfl) (by kernel_rfl) (by kernel_rfl) (fun _ _ _ h => h) (Or.inl ⟨by kernel_rfl, by intro WW hSw; skip; go_simp⟩) (by assumption) ?_
                (try simp only [Act.put, List.setIfInBounds_toArray, List.set_cons_zero, List.set_cons_succ])
                refine wpAnyH_take (i := 13) (oi := ⟨some 12, _, _, _, _, _⟩) (v := .bool b2) rfl (by kernel_rfl) (by kernel_rfl) (by kernel_rfl) (fun _ _ _ h => h) (Or.inl ⟨by kernel_rfl, by intro WW hSw; skip; go_simp⟩) (by assumption) ?_
                (try simp only [Act.put, List.setIfInBounds_toArray, List.set_cons_zero, List.set_cons_succ])
                refine wpAnyH_done (by kernel_rfl) ?_ _
                unfold NoPanic
                clear hHeld
                clear hcN hcV
                have HFM7 := Lib.hid (HFM6.out.below (Below.and (drew_below x4) (drew_below _)))
                by_cases hl4 : i4 < gas
                · have hl4I : decide ((i4 : Int) < (gas : Int)) = true := by simp; omega
                  obtain ⟨p, hp⟩ : ∃ p, M[i4]? = some p := ⟨_, List.getElem?_eq_getElem (by rw [← HGAS.out]; exact hl4)⟩
                  have hpb := HPUT.out i4 p hp
                  have HST := Lib.hid (fun (W : World) (h : FmI wa mg nl F0 M i4 W) => h.store (by omega) hp hpb.1 hpb.2.1 hpb.2.2)
                  obtain ⟨gm, cm, cur, hvm, hncm, _, hrm, hcur⟩ := own4_shape HOM.out (by omega)
                  simp only [Value.slice.injEq, true_and] at hvm
                  obtain ⟨rfl, rfl⟩ := hvm
                  obtain ⟨q1, q2⟩ := flat_get M i4 (by rw [← HGAS.out]; exact hl4)
                  have hpe : M[i4]'(by rw [← HGAS.out]; exact hl4) = p := by have := List.getElem?_eq_some_iff.1 hp; exact this.2
                  rw [hpe] at q1 q2
                  have HCM := Lib.hid (fun (W : World) (hb : Below x2.heap.size x2 W) => (show W.cell? ⟨gm, i4 * 2, none⟩ = some (.int .u64 (p.1 : Int)) ∧ W.cell? ⟨gm, i4 * 2 + 1, none⟩ = some (.int .u64 (p.2 : Int)) by
                    have hr := hrm.below hb hrm.lt
                    refine ⟨?_, ?_⟩
                    · rw [hr.cell, Nat.mul_comm]; exact hcur _ _ q1
                    · rw [hr.cell, Nat.mul_comm]; exact hcur _ _ q2))
                  have HX7 : Hid (Below x2.heap.size x2 x4.drew.drew) := Lib.hid (belowT HXL.out (belowB (Below.and (drew_below _) (drew_below _)) HXL.out.size))
                  clear hp hpb hrm hcur q1 q2 hpe hncm
                  go_upto_region 30 with (fail)
                  refine wp_region_noPanic ?_
                  refine wp_region_held_drew (S := (fun WW => WW.cell? ⟨gm, i4 * 2, none⟩ = some (.int .u64 (p.1 : Int)) ∧ WW.cell? ⟨gm, i4 * 2 + 1, none⟩ = some (.int .u64 (p.2 : Int)))) (by kernel_rfl) (HCM.out _ (belowT HX7.out (belowB (drew_below _) HX7.out.size))) (fun hHeld => ?_)
                  refine wpAnyH_take (i := 0) (oi := ⟨some 149, _, _, _, _, _⟩) (v := .pointer (some ⟨mg, 0, none⟩)) rfl (by kernel_rfl) (by kernel_rfl) (by kernel_rfl) (fun _ _ _ h => h) (Or.inl ⟨by kernel_rfl, by intro WW hSw; obtain ⟨s0, s1⟩ := hSw; go_simp⟩) (by assumption) ?_
                  (try simp only [Act.put, List.setIfInBounds_toArray, List.set_cons_zero, List.set_cons_succ])
                  refine wpAnyH_take (i := 1) (oi := ⟨some 150, _, _, _, _, _⟩) (v := .slice (some ⟨gm, 0, none⟩) gas cM) rfl (by kernel_rfl) (by kernel_rfl) (by kernel_rfl) (fun _ _ _ h => h) (Or.inl ⟨by kernel_rfl, by intro WW hSw; obtain ⟨s0, s1⟩ := hSw; go_simp⟩) (by assumption) ?_
                  (try simp only [Act.put, List.setIfInBounds_toArray, List.set_cons_zero, List.set_cons_succ])
                  refine wpAnyH_take (i := 2) (oi := ⟨some 151, _, _, _, _, _⟩) (v := .int .i64 (i4 : Int)) rfl (by kernel_rfl) (by kernel_rfl) (by kernel_rfl) (fun _ _ _ h => h) (Or.inl ⟨by kernel_rfl, by intro WW hSw; obtain ⟨s0, s1⟩ := hSw; go_simp⟩) (by assumption) ?_
                  (try simp only [Act.put, List.setIfInBounds_toArray, List.set_cons_zero, List.set_cons_succ])
                  refine wpAnyH_take (i := 3) (oi := ⟨some 152, _, _, _, _, _⟩) (v := .pointer (some ⟨gm, i4 * 2, none⟩)) rfl (by kernel_rfl) (by kernel_rfl) (by kernel_rfl) (fun _ _ _ h => h) (Or.inl ⟨by kernel_rfl, by intro WW hSw; obtain ⟨s0, s1⟩ := hSw; go_simp⟩) (by assumption) ?_
                  (try simp only [Act.put, List.setIfInBounds_toArray, List.set_cons_zero, List.set_cons_succ])
                  refine wpAnyH_take (i := 4) (oi := ⟨some 153, _, _, _, _, _⟩) (v := .pointer (some ⟨gm, i4 * 2, none⟩)) rfl (by kernel_rfl) (by kernel_rfl) (by kernel_rfl) (fun _ _ _ h => h) (Or.inl ⟨by kernel_rfl, by intro WW hSw; obtain ⟨s0, s1⟩ := hSw; go_simp⟩) (by assumption) ?_
                  (try simp only [Act.put, List.setIfInBounds_toArray, List.set_cons_zero, List.set_cons_succ])
                  refine wpAnyH_take (i := 5) (oi := ⟨some 154, _, _, _, _, _⟩) (v := .int .u64 (p.1 : Int)) rfl (by kernel_rfl) (by kernel_rfl) (by kernel_rfl) (fun _ _ _ h => h) (Or.inl ⟨by kernel_rfl, by intro WW hSw; obtain ⟨s0, s1⟩ := hSw; go_simp⟩) (by assumption) ?_
                  (try simp only [Act.put, List.setIfInBounds_toArray, List.set_cons_zero, List.set_cons_succ])
                  refine wpAnyH_take (i := 6) (oi := ⟨some 155, _, _, _, _, _⟩) (v := .slice (some ⟨gm, 0, none⟩) gas cM) rfl (by kernel_rfl) (by kernel_rfl) (by kernel_rfl) (fun _ _ _ h => h) (Or.inl ⟨by kernel_rfl, by intro WW hSw; obtain ⟨s0, s1⟩ := hSw; go_simp⟩) (by assumption) ?_
                  (try simp only [Act.put, List.setIfInBounds_toArray, List.set_cons_zero, List.set_cons_succ])
                  refine wpAnyH_take (i := 7) (oi := ⟨some 156, _, _, _, _, _⟩) (v := .int .i64 (i4 : Int)) rfl (by kernel_rfl) (by kernel_rfl) (by kernel_rfl) (fun _ _ _ h => h) (Or.inl ⟨by kernel_rfl, by intro WW hSw; obtain ⟨s0, s1⟩ := hSw; go_simp⟩) (by assumption) ?_
                  (try simp only [Act.put, List.setIfInBounds_toArray, List.set_cons_zero, List.set_cons_succ])
                  refine wpAnyH_take (i := 8) (oi := ⟨some 157, _, _, _, _, _⟩) (v := .pointer (some ⟨gm, i4 * 2, none⟩)) rfl (by kernel_rfl) (by kernel_rfl) (by kernel_rfl) (fun _ _ _ h => h) (Or.inl ⟨by kernel_rfl, by intro WW hSw; obtain ⟨s0, s1⟩ := hSw; go_simp⟩) (by assumption) ?_
                  (try simp only [Act.put, List.setIfInBounds_toArray, List.set_cons_zero, List.set_cons_succ])
                  refine wpAnyH_take (i := 9) (oi := ⟨some 158, _, _, _, _, _⟩) (v := .pointer (some ⟨gm, i4 * 2 + 1, none⟩)) rfl (by kernel_rfl) (by kernel_rfl) (by kernel_rfl) (fun _ _ _ h => h) (Or.inl ⟨by kernel_rfl, by intro WW hSw; obtain ⟨s0, s1⟩ := hSw; go_simp⟩) (by assumption) ?_
                  (try simp only [Act.put, List.setIfInBounds_toArray, List.set_cons_zero, List.set_cons_succ])
                  refine wpAnyH_take (i := 10) (oi := ⟨some 159, _, _, _, _, _⟩) (v := .int .u64 (p.2 : Int)) rfl (by kernel_rfl) (by kernel_rfl) (by kernel_rfl) (fun _ _ _ h => h) (Or.inl ⟨by kernel_rfl, by intro WW hSw; obtain ⟨s0, s1⟩ := hSw; go_simp⟩) (by assumption) ?_
                  (try simp only [Act.put, List.setIfInBounds_toArray, List.set_cons_zero, List.set_cons_succ])
                  refine wpAnyH_one (i := 11) (oi := ⟨_, _, _, _, _, _⟩) rfl (by kernel_rfl) (fun K hK => ?_)
                  refine step_calls (by rfl) 18 EGS.out [.tmp 149, .tmp 154, .tmp 159] _ rfl [.pointer (some ⟨mg, 0, none⟩), .int .u64 (p.1 : Int), .int .u64 (p.2 : Int)] rfl (HST.out _ (HFM7.out.below (drew_below _))) ?_
                  rintro e x7 ⟨rfl, hFM8⟩
                  have HFM8 := Lib.hid hFM8
                  refine ⟨_, rfl, hK _ _ (HCM.out _ (by obtain ⟨_, _, _, _, _, _, q⟩ := HFM8.out; exact belowT HLA.out (belowB q HLA.out.size))) (fun _ => ?_)⟩
                  clear hK K hFM8 hHeld
                  have hHeld := HCM.out x7 (by obtain ⟨_, _, _, _, _, _, q⟩ := HFM8.out; exact belowT HLA.out (belowB q HLA.out.size))
                  (try simp only [Act.put, List.setIfInBounds_toArray, List.set_cons_zero, List.set_cons_succ])
                  refine wpAnyH_done (by kernel_rfl) ?_ _
                  unfold NoPanic
                  clear hHeld
                  go_wp2
                  go_roundg (gas + 1 - (i4 + 1))
                  case measure => omega
                  case rel => exact ⟨i4 + 1, b1, b2, by go_num, rfl, rfl, by omega, by omega, by rw [Nat.min_eq_left (by omega)]; exact HFM8.out, fun t ht q => by rcases Nat.lt_or_ge t i4 with h | h; exact absurd (HFND.out t h q) (by decide); exact HB1.out (by rwa [show t = i4 from by omega] at q), fun e => by omega⟩
                · have hl4I : decide ((i4 : Int) < (gas : Int)) = false := by simp; omega
                  go_wp2
                  go_roundg (gas + 1 - (i4 + 1))
                  case measure => omega
                  case rel => exact ⟨i4 + 1, b1, b2, by go_num, rfl, rfl, by omega, by omega, by rw [Nat.min_eq_right (by omega)]; have := HFM7.out; rwa [show i4 = gas from by omega] at this, fun t ht q => by rcases Nat.lt_or_ge t i4 with h | h; exact absurd (HFND.out t h q) (by decide); exact HB1.out (by rwa [show t = i4 from by omega] at q), fun e => HB2.out (by omega)⟩
              case true =>
                have hcN := HCN.out x4.drew (drew_below _)
                have hcI := HCI.out x4.drew (belowT HXL.out (belowB (drew_below _) HXL.out.size))
                go_upto_region 27 with (fail)
                refine wp_region_noPanic ?_
                refine wp_region_held_drew (S := (fun WW => WW = x4.drew)) (by kernel_rfl) (rfl) (fun hHeld => ?_)
                refine wpAnyH_take (i := 0) (oi := ⟨some 116, _, _, _, _, _⟩) (v := .bool true) rfl (by kernel_rfl) (by kernel_rfl) (by kernel_rfl) (fun _ _ _ h => h) (Or.inl ⟨by kernel_rfl, by intro WW hSw; skip; go_simp⟩) (by assumption) ?_
                (try simp only [Act.put, List.setIfInBounds_toArray, List.set_cons_zero, List.set_cons_succ])
                refine wpAnyH_take (i := 1) (oi := ⟨some 117, _, _, _, _, _⟩) (v := .bool true) rfl (by kernel_rfl) (by kernel_rfl) (by kernel_rfl) (fun _ _ _ h => h) (Or.inl ⟨by kernel_rfl, by intro WW hSw; skip; go_simp⟩) (by assumption) ?_
                (try simp only [Act.put, List.setIfInBounds_toArray, List.set_cons_zero, List.set_cons_succ])
                refine wpAnyH_take (i := 2) (oi := ⟨some 118, _, _, _, _, _⟩) (v := undef) rfl (by kernel_rfl) (by kernel_rfl) (by kernel_rfl) (fun _ _ _ h => h) (Or.inr ⟨by kernel_rfl, rfl⟩) (by assumption) ?_
                (try simp only [Act.put, List.setIfInBounds_toArray, List.set_cons_zero, List.set_cons_succ])
                refine wpAnyH_take (i := 3) (oi := ⟨some 119, _, _, _, _, _⟩) (v := undef) rfl (by kernel_rfl) (by kernel_rfl) (by kernel_rfl) (fun _ _ _ h => h) (Or.inr ⟨by kernel_rfl, rfl⟩) (by assumption) ?_
                (try simp only [Act.put, List.setIfInBounds_toArray, List.set_cons_zero, List.set_cons_succ])
                refine wpAnyH_take (i := 4) (oi := ⟨some 120, _, _, _, _, _⟩) (v := undef) rfl (by kernel_rfl) (by kernel_rfl) (by kernel_rfl) (fun _ _ _ h => h) (Or.inr ⟨by kernel_rfl, rfl⟩) (by assumption) ?_
                (try simp only [Act.put, List.setIfInBounds_toArray, List.set_cons_zero, List.set_cons_succ])
                refine wpAnyH_take (i := 5) (oi := ⟨some 121, _, _, _, _, _⟩) (v := undef) rfl (by kernel_rfl) (by kernel_rfl) (by kernel_rfl) (fun _ _ _ h => h) (Or.inr ⟨by kernel_rfl, rfl⟩) (by assumption) ?_
                (try simp only [Act.put, List.setIfInBounds_toArray, List.set_cons_zero, List.set_cons_succ])
                refine wpAnyH_take (i := 6) (oi := ⟨some 122, _, _, _, _, _⟩) (v := undef) rfl (by kernel_rfl) (by kernel_rfl) (by kernel_rfl) (fun _ _ _ h => h) (Or.inr ⟨by kernel_rfl, rfl⟩) (by assumption) ?_
                (try simp only [Act.put, List.setIfInBounds_toArray, List.set_cons_zero, List.set_cons_succ])
                refine wpAnyH_take (i := 7) (oi := ⟨some 123, _, _, _, _, _⟩) (v := undef) rfl (by kernel_rfl) (by kernel_rfl) (by kernel_rfl) (fun _ _ _ h => h) (Or.inr ⟨by kernel_rfl, rfl⟩) (by assumption) ?_
                (try simp only [Act.put, List.setIfInBounds_toArray, List.set_cons_zero, List.set_cons_succ])
                refine wpAnyH_take (i := 8) (oi := ⟨some 124, _, _, _, _, _⟩) (v := undef) rfl (by kernel_rfl) (by kernel_rfl) (by kernel_rfl) (fun _ _ _ h => h) (Or.inr ⟨by kernel_rfl, rfl⟩) (by assumption) ?_
                (try simp only [Act.put, List.setIfInBounds_toArray, List.set_cons_zero, List.set_cons_succ])
                refine wpAnyH_take (i := 9) (oi := ⟨some 125, _, _, _, _, _⟩) (v := undef) rfl (by kernel_rfl) (by kernel_rfl) (by kernel_rfl) (fun _ _ _ h => h) (Or.inr ⟨by kernel_rfl, rfl⟩) (by assumption) ?_
                (try simp only [Act.put, List.setIfInBounds_toArray, List.set_cons_zero, List.set_cons_succ])
                refine wpAnyH_take (i := 10) (oi := ⟨some 126, _, _, _, _, _⟩) (v := undef) rfl (by kernel_rfl) (by kernel_rfl) (by kernel_rfl) (fun _ _ _ h => h) (Or.inr ⟨by kernel_rfl, rfl⟩) (by assumption) ?_
                (try simp only [Act.put, List.setIfInBounds_toArray, List.set_cons_zero, List.set_cons_succ])
                refine wpAnyH_take (i := 11) (oi := ⟨some 127, _, _, _, _, _⟩) (v := undef) rfl (by kernel_rfl) (by kernel_rfl) (by kernel_rfl) (fun _ _ _ h => h) (Or.inr ⟨by kernel_rfl, rfl⟩) (by assumption) ?_
                (try simp only [Act.put, List.setIfInBounds_toArray, List.set_cons_zero, List.set_cons_succ])
                refine wpAnyH_take (i := 12) (oi := ⟨some 128, _, _, _, _, _⟩) (v := undef) rfl (by kernel_rfl) (by kernel_rfl) (by kernel_rfl) (fun _ _ _ h => h) (Or.inr ⟨by kernel_rfl, rfl⟩) (by assumption) ?_
                (try simp only [Act.put, List.setIfInBounds_toArray, List.set_cons_zero, List.set_cons_succ])
                refine wpAnyH_take (i := 13) (oi := ⟨some 129, _, _, _, _, _⟩) (v := undef) rfl (by kernel_rfl) (by kernel_rfl) (by kernel_rfl) (fun _ _ _ h => h) (Or.inr ⟨by kernel_rfl, rfl⟩) (by assumption) ?_
                (try simp only [Act.put, List.setIfInBounds_toArray, List.set_cons_zero, List.set_cons_succ])
                refine wpAnyH_take (i := 14) (oi := ⟨some 130, _, _, _, _, _⟩) (v := undef) rfl (by kernel_rfl) (by kernel_rfl) (by kernel_rfl) (fun _ _ _ h => h) (Or.inr ⟨by kernel_rfl, rfl⟩) (by assumption) ?_
                (try simp only [Act.put, List.setIfInBounds_toArray, List.set_cons_zero, List.set_cons_succ])
                refine wpAnyH_take (i := 15) (oi := ⟨some 131, _, _, _, _, _⟩) (v := .bool true) rfl (by kernel_rfl) (by kernel_rfl) (by kernel_rfl) (fun _ _ _ h => h) (Or.inl ⟨by kernel_rfl, by intro WW hSw; skip; go_simp⟩) (by assumption) ?_
                (try simp only [Act.put, List.setIfInBounds_toArray, List.set_cons_zero, List.set_cons_succ])
                refine wpAnyH_take (i := 16) (oi := ⟨some 11, _, _, _, _, _⟩) (v := .bool true) rfl (by kernel_rfl) (by kernel_rfl) (by kernel_rfl) (fun _ _ _ h => h) (Or.inl ⟨by kernel_rfl, by intro WW hSw; skip; go_simp⟩) (by assumption) ?_
                (try simp only [Act.put, List.setIfInBounds_toArray, List.set_cons_zero, List.set_cons_succ])
                refine wpAnyH_done (by kernel_rfl) ?_ _
                unfold NoPanic
                clear hHeld
                clear hcN hcI
                have hcN := HCN.out x4.drew.drew (Below.and (drew_below _) (drew_below _))
                have hcV := HCV.out x4.drew.drew (belowT HXL.out (belowB (Below.and (drew_below _) (drew_below _)) HXL.out.size))
                go_upto_region 28 with (fail)
                refine wp_region_noPanic ?_
                refine wp_region_held_drew (S := (fun WW => WW = x4.drew.drew)) (by kernel_rfl) (rfl) (fun hHeld => ?_)
                refine wpAnyH_take (i := 0) (oi := ⟨some 132, _, _, _, _, _⟩) (v := .slice (some ⟨gn, 0, none⟩) n kn) rfl (by kernel_rfl) (by kernel_rfl) (by kernel_rfl) (fun _ _ _ h => h) (Or.inl ⟨by kernel_rfl, by intro WW hSw; skip; go_simp⟩) (by assumption) ?_
                (try simp only [Act.put, List.setIfInBounds_toArray, List.set_cons_zero, List.set_cons_succ])
                refine wpAnyH_take (i := 1) (oi := ⟨some 133, _, _, _, _, _⟩) (v := .int .i64 (f : Int)) rfl (by kernel_rfl) (by kernel_rfl) (by kernel_rfl) (fun _ _ _ h => h) (Or.inl ⟨by kernel_rfl, by intro WW hSw; skip; go_simp⟩) (by assumption) ?_
                (try simp only [Act.put, List.setIfInBounds_toArray, List.set_cons_zero, List.set_cons_succ])
                refine wpAnyH_take (i := 2) (oi := ⟨some 134, _, _, _, _, _⟩) (v := .int .i64 (f : Int)) rfl (by kernel_rfl) (by kernel_rfl) (by kernel_rfl) (fun _ _ _ h => h) (Or.inl ⟨by kernel_rfl, by intro WW hSw; skip; go_simp⟩) (by assumption) ?_
                (try simp only [Act.put, List.setIfInBounds_toArray, List.set_cons_zero, List.set_cons_succ])
                refine wpAnyH_take (i := 3) (oi := ⟨some 135, _, _, _, _, _⟩) (v := .int .i64 ((f : Int) + 64)) rfl (by kernel_rfl) (by kernel_rfl) (by kernel_rfl) (fun _ _ _ h => h) (Or.inl ⟨by kernel_rfl, by intro WW hSw; skip; go_simp⟩) (by assumption) ?_
                (try simp only [Act.put, List.setIfInBounds_toArray, List.set_cons_zero, List.set_cons_succ])
                refine wpAnyH_take (i := 4) (oi := ⟨some 136, _, _, _, _, _⟩) (v := .slice (some ⟨gn, f, none⟩) 64 (kn - f)) rfl (by kernel_rfl) (by kernel_rfl) (by kernel_rfl) (fun _ _ _ h => h) (Or.inl ⟨by kernel_rfl, by intro WW hSw; skip; go_simp⟩) (by assumption) ?_
                (try simp only [Act.put, List.setIfInBounds_toArray, List.set_cons_zero, List.set_cons_succ])
                refine wpAnyH_take (i := 5) (oi := ⟨some 137, _, _, _, _, _⟩) (v := .string TN) rfl (by kernel_rfl) (by kernel_rfl) (by kernel_rfl) (fun _ _ _ h => h) (Or.inl ⟨by kernel_rfl, by intro WW hSw; subst hSw; go_simp⟩) (by assumption) ?_
                (try simp only [Act.put, List.setIfInBounds_toArray, List.set_cons_zero, List.set_cons_succ])
                refine wpAnyH_take (i := 6) (oi := ⟨some 138, _, _, _, _, _⟩) (v := .slice (some ⟨gv, 0, none⟩) n kv) rfl (by kernel_rfl) (by kernel_rfl) (by kernel_rfl) (fun _ _ _ h => h) (Or.inl ⟨by kernel_rfl, by intro WW hSw; skip; go_simp⟩) (by assumption) ?_
                (try simp only [Act.put, List.setIfInBounds_toArray, List.set_cons_zero, List.set_cons_succ])
                refine wpAnyH_take (i := 7) (oi := ⟨some 139, _, _, _, _, _⟩) (v := .int .i64 (f : Int)) rfl (by kernel_rfl) (by kernel_rfl) (by kernel_rfl) (fun _ _ _ h => h) (Or.inl ⟨by kernel_rfl, by intro WW hSw; skip; go_simp⟩) (by assumption) ?_
                (try simp only [Act.put, List.setIfInBounds_toArray, List.set_cons_zero, List.set_cons_succ])
                refine wpAnyH_take (i := 8) (oi := ⟨some 140, _, _, _, _, _⟩) (v := .int .i64 (f : Int)) rfl (by kernel_rfl) (by kernel_rfl) (by kernel_rfl) (fun _ _ _ h => h) (Or.inl ⟨by kernel_rfl, by intro WW hSw; skip; go_simp⟩) (by assumption) ?_
                (try simp only [Act.put, List.setIfInBounds_toArray, List.set_cons_zero, List.set_cons_succ])
                refine wpAnyH_take (i := 9) (oi := ⟨some 141, _, _, _, _, _⟩) (v := .int .i64 ((f : Int) + 64)) rfl (by kernel_rfl) (by kernel_rfl) (by kernel_rfl) (fun _ _ _ h => h) (Or.inl ⟨by kernel_rfl, by intro WW hSw; skip; go_simp⟩) (by assumption) ?_
                (try simp only [Act.put, List.setIfInBounds_toArray, List.set_cons_zero, List.set_cons_succ])
                refine wpAnyH_take (i := 10) (oi := ⟨some 142, _, _, _, _, _⟩) (v := .slice (some ⟨gv, f, none⟩) 64 (kv - f)) rfl (by kernel_rfl) (by kernel_rfl) (by kernel_rfl) (fun _ _ _ h => h) (Or.inl ⟨by kernel_rfl, by intro WW hSw; skip; go_simp⟩) (by assumption) ?_
                (try simp only [Act.put, List.setIfInBounds_toArray, List.set_cons_zero, List.set_cons_succ])
                refine wpAnyH_take (i := 11) (oi := ⟨some 143, _, _, _, _, _⟩) (v := .string TV) rfl (by kernel_rfl) (by kernel_rfl) (by kernel_rfl) (fun _ _ _ h => h) (Or.inl ⟨by kernel_rfl, by intro WW hSw; subst hSw; go_simp⟩) (by assumption) ?_
                (try simp only [Act.put, List.setIfInBounds_toArray, List.set_cons_zero, List.set_cons_succ])
                refine wpAnyH_take (i := 12) (oi := ⟨some 144, _, _, _, _, _⟩) (v := .bool b2) rfl (by kernel_rfl) (by kernel_rfl) (by kernel_rfl) (fun _ _ _ h => h) (Or.inl ⟨by kernel_rfl, by intro WW hSw; skip; go_simp⟩) (by assumption) ?_
                (try simp only [Act.put, List.setIfInBounds_toArray, List.set_cons_zero, List.set_cons_succ])
                refine wpAnyH_take (i := 13) (oi := ⟨some 12, _, _, _, _, _⟩) (v := .bool b2) rfl (by kernel_rfl) (by kernel_rfl) (by kernel_rfl) (fun _ _ _ h => h) (Or.inl ⟨by kernel_rfl, by intro WW hSw; skip; go_simp⟩) (by assumption) ?_
                (try simp only [Act.put, List.setIfInBounds_toArray, List.set_cons_zero, List.set_cons_succ])
                refine wpAnyH_done (by kernel_rfl) ?_ _
                unfold NoPanic
                clear hHeld
                clear hcN hcV
                have HFM7 := Lib.hid (HFM6.out.below (Below.and (drew_below x4) (drew_below _)))
                by_cases hl4 : i4 < gas
                · have hl4I : decide ((i4 : Int) < (gas : Int)) = true := by simp; omega
                  obtain ⟨p, hp⟩ : ∃ p, M[i4]? = some p := ⟨_, List.getElem?_eq_getElem (by rw [← HGAS.out]; exact hl4)⟩
                  have hpb := HPUT.out i4 p hp
                  have HST := Lib.hid (fun (W : World) (h : FmI wa mg nl F0 M i4 W) => h.store (by omega) hp hpb.1 hpb.2.1 hpb.2.2)
                  obtain ⟨gm, cm, cur, hvm, hncm, _, hrm, hcur⟩ := own4_shape HOM.out (by omega)
                  simp only [Value.slice.injEq, true_and] at hvm
                  obtain ⟨rfl, rfl⟩ := hvm
                  obtain ⟨q1, q2⟩ := flat_get M i4 (by rw [← HGAS.out]; exact hl4)
                  have hpe : M[i4]'(by rw [← HGAS.out]; exact hl4) = p := by have := List.getElem?_eq_some_iff.1 hp; exact this.2
                  rw [hpe] at q1 q2
                  have HCM := Lib.hid (fun (W : World) (hb : Below x2.heap.size x2 W) => (show W.cell? ⟨gm, i4 * 2, none⟩ = some (.int .u64 (p.1 : Int)) ∧ W.cell? ⟨gm, i4 * 2 + 1, none⟩ = some (.int .u64 (p.2 : Int)) by
                    have hr := hrm.below hb hrm.lt
                    refine ⟨?_, ?_⟩
                    · rw [hr.cell, Nat.mul_comm]; exact hcur _ _ q1
                    · rw [hr.cell, Nat.mul_comm]; exact hcur _ _ q2))
                  have HX7 : Hid (Below x2.heap.size x2 x4.drew.drew) := Lib.hid (belowT HXL.out (belowB (Below.and (drew_below _) (drew_below _)) HXL.out.size))
                  clear hp hpb hrm hcur q1 q2 hpe hncm
                  go_upto_region 30 with (fail)
                  refine wp_region_noPanic ?_
                  refine wp_region_held_drew (S := (fun WW => WW.cell? ⟨gm, i4 * 2, none⟩ = some (.int .u64 (p.1 : Int)) ∧ WW.cell? ⟨gm, i4 * 2 + 1, none⟩ = some (.int .u64 (p.2 : Int)))) (by kernel_rfl) (HCM.out _ (belowT HX7.out (belowB (drew_below _) HX7.out.size))) (fun hHeld => ?_)
                  refine wpAnyH_take (i := 0) (oi := ⟨some 149, _, _, _, _, _⟩) (v := .pointer (some ⟨mg, 0, none⟩)) rfl (by kernel_rfl) (by kernel_rfl) (by kernel_rfl) (fun _ _ _ h => h) (Or.inl ⟨by kernel_rfl, by intro WW hSw; obtain ⟨s0, s1⟩ := hSw; go_simp⟩) (by assumption) ?_
                  (try simp only [Act.put, List.setIfInBounds_toArray, List.set_cons_zero, List.set_cons_succ])
                  refine wpAnyH_take (i := 1) (oi := ⟨some 150, _, _, _, _, _⟩) (v := .slice (some ⟨gm, 0, none⟩) gas cM) rfl (by kernel_rfl) (by kernel_rfl) (by kernel_rfl) (fun _ _ _ h => h) (Or.inl ⟨by kernel_rfl, by intro WW hSw; obtain ⟨s0, s1⟩ := hSw; go_simp⟩) (by assumption) ?_
                  (try simp only [Act.put, List.setIfInBounds_toArray, List.set_cons_zero, List.set_cons_succ])
                  refine wpAnyH_take (i := 2) (oi := ⟨some 151, _, _, _, _, _⟩) (v := .int .i64 (i4 : Int)) rfl (by kernel_rfl) (by kernel_rfl) (by kernel_rfl) (fun _ _ _ h => h) (Or.inl ⟨by kernel_rfl, by intro WW hSw; obtain ⟨s0, s1⟩ := hSw; go_simp⟩) (by assumption) ?_
                  (try simp only [Act.put, List.setIfInBounds_toArray, List.set_cons_zero, List.set_cons_succ])
                  refine wpAnyH_take (i := 3) (oi := ⟨some 152, _, _, _, _, _⟩) (v := .pointer (some ⟨gm, i4 * 2, none⟩)) rfl (by kernel_rfl) (by kernel_rfl) (by kernel_rfl) (fun _ _ _ h => h) (Or.inl ⟨by kernel_rfl, by intro WW hSw; obtain ⟨s0, s1⟩ := hSw; go_simp⟩) (by assumption) ?_
                  (try simp only [Act.put, List.setIfInBounds_toArray, List.set_cons_zero, List.set_cons_succ])
                  refine wpAnyH_take (i := 4) (oi := ⟨some 153, _, _, _, _, _⟩) (v := .pointer (some ⟨gm, i4 * 2, none⟩)) rfl (by kernel_rfl) (by kernel_rfl) (by kernel_rfl) (fun _ _ _ h => h) (Or.inl ⟨by kernel_rfl, by intro WW hSw; obtain ⟨s0, s1⟩ := hSw; go_simp⟩) (by assumption) ?_
                  (try simp only [Act.put, List.setIfInBounds_toArray, List.set_cons_zero, List.set_cons_succ])
                  refine wpAnyH_take (i := 5) (oi := ⟨some 154, _, _, _, _, _⟩) (v := .int .u64 (p.1 : Int)) rfl (by kernel_rfl) (by kernel_rfl) (by kernel_rfl) (fun _ _ _ h => h) (Or.inl ⟨by kernel_rfl, by intro WW hSw; obtain ⟨s0, s1⟩ := hSw; go_simp⟩) (by assumption) ?_
                  (try simp only [Act.put, List.setIfInBounds_toArray, List.set_cons_zero, List.set_cons_succ])
                  refine wpAnyH_take (i := 6) (oi := ⟨some 155, _, _, _, _, _⟩) (v := .slice (some ⟨gm, 0, none⟩) gas cM) rfl (by kernel_rfl) (by kernel_rfl) (by kernel_rfl) (fun _ _ _ h => h) (Or.inl ⟨by kernel_rfl, by intro WW hSw; obtain ⟨s0, s1⟩ := hSw; go_simp⟩) (by assumption) ?_
                  (try simp only [Act.put, List.setIfInBounds_toArray, List.set_cons_zero, List.set_cons_succ])
                  refine wpAnyH_take (i := 7) (oi := ⟨some 156, _, _, _, _, _⟩) (v := .int .i64 (i4 : Int)) rfl (by kernel_rfl) (by kernel_rfl) (by kernel_rfl) (fun _ _ _ h => h) (Or.inl ⟨by kernel_rfl, by intro WW hSw; obtain ⟨s0, s1⟩ := hSw; go_simp⟩) (by assumption) ?_
                  (try simp only [Act.put, List.setIfInBounds_toArray, List.set_cons_zero, List.set_cons_succ])
                  refine wpAnyH_take (i := 8) (oi := ⟨some 157, _, _, _, _, _⟩) (v := .pointer (some ⟨gm, i4 * 2, none⟩)) rfl (by kernel_rfl) (by kernel_rfl) (by kernel_rfl) (fun _ _ _ h => h) (Or.inl ⟨by kernel_rfl, by intro WW hSw; obtain ⟨s0, s1⟩ := hSw; go_simp⟩) (by assumption) ?_
                  (try simp only [Act.put, List.setIfInBounds_toArray, List.set_cons_zero, List.set_cons_succ])
                  refine wpAnyH_take (i := 9) (oi := ⟨some 158, _, _, _, _, _⟩) (v := .pointer (some ⟨gm, i4 * 2 + 1, none⟩)) rfl (by kernel_rfl) (by kernel_rfl) (by kernel_rfl) (fun _ _ _ h => h) (Or.inl ⟨by kernel_rfl, by intro WW hSw; obtain ⟨s0, s1⟩ := hSw; go_simp⟩) (by assumption) ?_
                  (try simp only [Act.put, List.setIfInBounds_toArray, List.set_cons_zero, List.set_cons_succ])
                  refine wpAnyH_take (i := 10) (oi := ⟨some 159, _, _, _, _, _⟩) (v := .int .u64 (p.2 : Int)) rfl (by kernel_rfl) (by kernel_rfl) (by kernel_rfl) (fun _ _ _ h => h) (Or.inl ⟨by kernel_rfl, by intro WW hSw; obtain ⟨s0, s1⟩ := hSw; go_simp⟩) (by assumption) ?_
                  (try simp only [Act.put, List.setIfInBounds_toArray, List.set_cons_zero, List.set_cons_succ])
                  refine wpAnyH_one (i := 11) (oi := ⟨_, _, _, _, _, _⟩) rfl (by kernel_rfl) (fun K hK => ?_)
                  refine step_calls (by rfl) 18 EGS.out [.tmp 149, .tmp 154, .tmp 159] _ rfl [.pointer (some ⟨mg, 0, none⟩), .int .u64 (p.1 : Int), .int .u64 (p.2 : Int)] rfl (HST.out _ (HFM7.out.below (drew_below _))) ?_
                  rintro e x7 ⟨rfl, hFM8⟩
                  have HFM8 := Lib.hid hFM8
                  refine ⟨_, rfl, hK _ _ (HCM.out _ (by obtain ⟨_, _, _, _, _, _, q⟩ := HFM8.out; exact belowT HLA.out (belowB q HLA.out.size))) (fun _ => ?_)⟩
                  clear hK K hFM8 hHeld
                  have hHeld := HCM.out x7 (by obtain ⟨_, _, _, _, _, _, q⟩ := HFM8.out; exact belowT HLA.out (belowB q HLA.out.size))
                  (try simp only [Act.put, List.setIfInBounds_toArray, List.set_cons_zero, List.set_cons_succ])
                  refine wpAnyH_done (by kernel_rfl) ?_ _
                  unfold NoPanic
                  clear hHeld
                  go_wp2
                  go_roundg (gas + 1 - (i4 + 1))
                  case measure => omega
                  case rel => exact ⟨i4 + 1, true, b2, by go_num, rfl, rfl, by omega, by omega, by rw [Nat.min_eq_left (by omega)]; exact HFM8.out, fun t ht q => rfl, fun e => by omega⟩
                · have hl4I : decide ((i4 : Int) < (gas : Int)) = false := by simp; omega
                  go_wp2
                  go_roundg (gas + 1 - (i4 + 1))
                  case measure => omega
                  case rel => exact ⟨i4 + 1, true, b2, by go_num, rfl, rfl, by omega, by omega, by rw [Nat.min_eq_right (by omega)]; have := HFM7.out; rwa [show i4 = gas from by omega] at this, fun t ht q => rfl, fun e => HB2.out (by omega)⟩
            · have hleI : decide ((i4 : Int) ≤ (gas : Int)) = false := by simp; omega
              have hw1 : whl = true := HWHL.out (by omega)
              have hf1 : fnd = true := by
                obtain ⟨t, ht, q⟩ := HFRONT.out j hlt
                exact HFND.out t (by have := HGAS.out; omega) q
              subst hw1 hf1
              have HB9 : Hid (Below x2.heap.size x2 wc) := Lib.hid (by obtain ⟨_, _, _, _, _, _, q⟩ := HFM4.out; exact belowT HLA.out (belowB q HLA.out.size))
              go_wp2
              go_roundg (nl - (j + 1))
              case measure => omega
              case rel => exact ⟨j + 1, by rw [HNX.out], by omega, by omega, HB9.out⟩
        · have hfn : ¬ f < n := by have := HNL.out; have := HF.out; omega
          have hfnI : decide ((f : Int) < (n : Int)) = false := by simp; omega
          have HLWA := Lib.hid (belowT HLW.out (belowB HLA.out HLW.out.size))
          go_wp2_with fail
          refine (known_any wa).mono ?_
          rintro e w9 ⟨rfl, hb9⟩
          have HE := Lib.hid (belowT HLWA.out (belowB hb9 HLWA.out.size))
          go_wp2
          go_ret
          exact ⟨rfl, HE.out⟩
end Go.Proofs.Ytkeajfedlhgejaa
