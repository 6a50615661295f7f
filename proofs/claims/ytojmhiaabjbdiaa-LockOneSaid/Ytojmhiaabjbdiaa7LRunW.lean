/- LockRuns returns true, whatever the numbers: the walk of its body. -/
import Derived.Test.Ytojmhiaabjbdiaa7LRuns
namespace Go.Proofs.Ytojmhiaabjbdiaa
open Go.RowKit
set_option linter.unusedVariables false
def LawEnd (w : World) (e : Ending) (w' : World) : Prop := e = .returned (.bool true) ∧ Below w.heap.size w w'
def L1 (w : World) (N g b g' b' : Nat) (v : Value) (wr : World) : Prop := ∃ (i : Nat) (s : Lk), v = .int .i64 (i : Int) ∧ 1 ≤ i ∧ i ≤ N ∧ StT s N i ∧ Two w wr g b s g' b' (lk0 N)
def L2 (w : World) (N g b g' b' : Nat) (s : Lk) (v : Value) (wr : World) : Prop := ∃ (i : Nat) (s' : Lk), v = .int .i64 (i : Int) ∧ i ≤ N ∧ StU s' N i ∧ Two w wr g b s g' b' s'
def L3 (w : World) (N c g b g' b' : Nat) (s : Lk) (v : Value) (wr : World) : Prop := ∃ (i : Nat) (s' : Lk), v = .int .i64 (i : Int) ∧ c ≤ i ∧ i + 1 ≤ N ∧ StV s' N c i ∧ Two w wr g b s g' b' s'
set_option maxRecDepth 100000 in
set_option maxHeartbeats 4000000 in
theorem lockRuns_out (z c : Int) (w : World) (h : z < 2 ∨ 64 < z ∨ c < 0 ∨ z ≤ c) : Calls Try.prog 5 #[.int .i64 z, .int .i64 c] w (LawEnd w) := by
  have HKn := Lib.hid (known7_any w)
  by_cases h1 : z < 2
  · clear h
    go_enter Try.func5, Try.ntmps5
    go_wp2_with fail
    refine HKn.out.mono ?_
    rintro e w1 ⟨rfl, hb⟩
    go_wp2
    go_ret
    exact ⟨rfl, hb⟩
  · have g1 : decide (z < 2) = false := by simpa using h1
    by_cases h2 : 64 < z
    · clear h
      go_enter Try.func5, Try.ntmps5
      go_wp2_with fail
      refine HKn.out.mono ?_
      rintro e w1 ⟨rfl, hb⟩
      go_wp2
      go_ret
      exact ⟨rfl, hb⟩
    · have g2 : decide (64 < z) = false := by simpa using h2
      by_cases h3 : c < 0
      · clear h
        go_enter Try.func5, Try.ntmps5
        go_wp2_with fail
        refine HKn.out.mono ?_
        rintro e w1 ⟨rfl, hb⟩
        go_wp2
        go_ret
        exact ⟨rfl, hb⟩
      · have g3 : decide (c < 0) = false := by simpa using h3
        have h4 : z ≤ c := by omega
        have g4 : decide (z ≤ c) = true := by simpa using h4
        clear h
        go_enter Try.func5, Try.ntmps5
        go_wp2_with fail
        refine HKn.out.mono ?_
        rintro e w1 ⟨rfl, hb⟩
        go_wp2
        go_ret
        exact ⟨rfl, hb⟩
set_option maxRecDepth 100000 in
set_option maxHeartbeats 8000000 in
theorem lockRuns_in {N c : Nat} (w : World) (h2 : 2 ≤ N) (h64 : N ≤ 64) (hc : c < N) : Calls Try.prog 5 #[.int .i64 (N : Int), .int .i64 (c : Int)] w (LawEnd w) := by
  have g1 : decide ((N : Int) < 2) = false := by simp; omega
  have g2 : decide (64 < (N : Int)) = false := by simp; omega
  have g4 : decide (N ≤ c) = false := by simp; omega
  have g4' : decide ((N : Int) ≤ (c : Int)) = false := by simp; omega
  go_enter Try.func5, Try.ntmps5
  go_wp2_with fail
  refine (knew_yes (n := N) _ (by omega) h64).mono ?_
  rintro e w1 ⟨g, b, rfl, hK, hg, hb, hB⟩
  have HO := Lib.hid (show OwnK w w1 g b (lk0 N) from ⟨hK, hg, hb, hB⟩)
  clear hK hg hb hB
  go_wp2_with fail
  refine (knew_yes (n := N) _ (by omega) h64).mono ?_
  rintro e w2 ⟨g', b', rfl, hK, hg, hb, hB⟩
  have HT : Hid (Two w w2 g b (lk0 N) g' b' (lk0 N)) := Lib.hid (by
    have h1 := HO.out.at_.row.lt
    have h2 := HO.out.at_.mp.lt
    have h3 := HO.out.bel.size
    refine ⟨HO.out.below hB, ⟨hK, by omega, by omega, HO.out.bel.trans (hB.mono h3)⟩, by omega, by omega, by omega, by omega⟩)
  clear hK hg hb hB HO
  go_wp2_with fail
  refine (try_any HT.out.t.at_ (c := 0) (id := 8) (by show 0 < N; omega) (by decide) (by decide) (by show 0 < 1000000; decide)).mono ?_
  rintro e w3 ⟨he, hK, hB⟩
  have HT3 := Lib.hid (HT.out.left hK hB)
  have HS3 := Lib.hid (stT_one (N := N)).2
  obtain rfl : e = .returned (.bool true) := he
  obtain ⟨s3, hs3⟩ : ∃ s, s = tryS (lk0 N) 0 8 := ⟨_, rfl⟩
  rw [← hs3] at HT3 HS3
  clear hK hB HT hs3
  go_wp2
  go_loopw [9] (fun v wr => L1 w N g b g' b' v wr) (fun v _ => N - (intOf v).toNat)
  case atStart => exact ⟨1, s3, rfl, by omega, by omega, HS3.out, HT3.out⟩
  case round =>
    obtain ⟨i, s, rfl, hi1, hiN, hS, hT⟩ := hrel
    rename World => wr
    have HS := Lib.hid hS
    have HT := Lib.hid hT
    clear hS hT
    by_cases hlt : i < N
    · obtain ⟨hf, hS'⟩ := stT_step HS.out hi1
      have HT' := Lib.hid (try_any HT.out.t.at_ (c := i) (id := 8) (by rw [HS.out.n]; exact hlt) (by decide) (by decide) (by have := HS.out.z; omega))
      rw [hf] at HT'
      have HS' := Lib.hid hS'
      clear hS' hf
      go_wp2_with fail
      refine HT'.out.mono ?_
      rintro e w4 ⟨rfl, hK, hB⟩
      have HE := Lib.hid (HT.out.left hK hB)
      clear hK hB
      go_wp2
      go_roundw
      case rel => exact ⟨i + 1, _, by go_num, by omega, by omega, HS'.out, HE.out⟩
      case measure => simp [intOf]; omega
    · obtain rfl : i = N := by omega
      have hd : decide (i < i) = false := by simp
      clear hlt
      go_wp2
      go_loopw [10] (fun v wr2 => L2 w i g b g' b' s v wr2) (fun v _ => i - (intOf v).toNat)
      case atStart => exact ⟨0, lk0 i, rfl, by omega, stU_zero, HT.out⟩
      case round =>
        obtain ⟨k, s', rfl, hkN, hU, hT2⟩ := hrel
        rename World => wr2
        have HU := Lib.hid hU
        have HT2 := Lib.hid hT2
        clear hU hT2
        by_cases hlt : k < i
        · obtain ⟨hf, hU'⟩ := stU_step HU.out
          have H := try_any HT2.out.u.at_ (c := k) (id := 8 * (k + 1)) (by rw [HU.out.n]; exact hlt) (by omega) (by omega) (by have := HU.out.z; omega)
          rw [hf, show ((8 * (k + 1) : Nat) : Int) = 8 * ((k : Int) + 1) from by omega] at H
          have HT' := Lib.hid H
          have HU' := Lib.hid hU'
          clear hU' hf H
          go_wp2_with fail
          refine HT'.out.mono ?_
          rintro e w4 ⟨rfl, hK, hB⟩
          have HE := Lib.hid (HT2.out.right hK hB)
          clear hK hB
          go_wp2
          go_roundw
          case rel => exact ⟨k + 1, _, by go_num, by omega, HU'.out, HE.out⟩
          case measure => simp [intOf]; omega
        · obtain rfl : k = i := by omega
          clear hlt
          have e1 : ((k - 1 : Nat) : Int) = (k : Int) - 1 := by omega
          have HE1 := Lib.hid e1
          clear e1
          go_wp2
          go_loopw [11] (fun v wr3 => L3 w k c g b g' b' s v wr3) (fun v _ => k - (intOf v).toNat)
          case atStart => exact ⟨c, s', rfl, Nat.le_refl _, by omega, stV_zero HU.out h64, HT2.out⟩
          case round =>
            obtain ⟨j, s4, rfl, hcj, hjN, hV, hT4⟩ := hrel
            rename World => wr3
            have HV := Lib.hid hV
            have HT4 := Lib.hid hT4
            clear hV hT4
            by_cases hlt : j + 1 < k
            · have g5 : decide ((j : Int) < (k : Int) - 1) = true := by simp; omega
              obtain ⟨hf, hV'⟩ := stV_step HV.out hcj hlt
              have H := try_any HT4.out.u.at_ (c := j) (id := 8 * (j + 2)) (by rw [HV.out.n]; omega) (by omega) (by omega) (by have := HV.out.z; omega)
              rw [hf, show ((8 * (j + 2) : Nat) : Int) = 8 * ((j : Int) + 2) from by omega] at H
              have HT' := Lib.hid H
              have HV' := Lib.hid hV'
              have e2 : ((j : Int) + 1 != (j : Int) + 1) = false := by simp
              clear hV' hf H
              go_wp2_with fail
              refine HT'.out.mono ?_
              rintro e w4 ⟨rfl, hK, hB⟩
              have HE := Lib.hid (HT4.out.right hK hB)
              clear hK hB
              go_wp2_with fail
              refine (runs_any HE.out.u.at_ (c := c) (by rw [HV'.out.n]; omega)).mono ?_
              intro e w5 hr
              obtain ⟨he, hB⟩ := runsPost_is (stV_runs HV'.out (by omega) (by omega)) hr
              have HE5 := Lib.hid (HE.out.below hB)
              rw [show ((j + 1 : Nat) : Int) = (j : Int) + 1 from by omega] at he
              subst he
              clear hB hr
              go_wp2
              go_roundw
              case rel => exact ⟨j + 1, _, by go_num, by omega, by omega, HV'.out, HE5.out⟩
              case measure => simp [intOf]; omega
            · have g5 : decide ((j : Int) < (k : Int) - 1) = false := by simp; omega
              obtain rfl : j = k - 1 := by omega
              obtain ⟨hf, hr1, hr2, hn⟩ := stV_last HV.out hc
              have H := try_any HT4.out.u.at_ (c := k - 1) (id := 8 * (c + 1)) (by rw [HV.out.n]; omega) (by omega) (by omega) (by have := HV.out.z; omega)
              rw [hf, show ((8 * (c + 1) : Nat) : Int) = 8 * ((c : Int) + 1) from by omega, HE1.out] at H
              have e3 : ((c : Int) == (k : Int) - 1) = decide (c = k - 1) := by
                rw [Bool.eq_iff_iff]
                simp
                omega
              have HT' := Lib.hid H
              obtain ⟨s5, hs5⟩ : ∃ s5, s5 = tryS s4 (k - 1) (8 * (c + 1)) := ⟨_, rfl⟩
              rw [← hs5] at hr1 hr2 hn HT'
              have HR1 := Lib.hid hr1
              have HR2 := Lib.hid hr2
              have HN5 := Lib.hid hn
              clear hr1 hr2 hn hf H hs5
              generalize decide (c = k - 1) = yy at *
              have HRT := Lib.hid (stT_runs HS.out hc)
              obtain ⟨hrb, hrr⟩ := stT_rel HS.out hc
              have HRB := Lib.hid hrb
              have HRR := Lib.hid hrr
              have HSn := Lib.hid HS.out.n
              clear hrb hrr g5 hlt hd
              cases yy
              all_goals
                go_wp2_with fail
                refine HT'.out.mono ?_
                rintro e w4 ⟨rfl, hK, hB⟩
                have HE := Lib.hid (HT4.out.right hK hB)
                clear hK hB
                go_wp2_with fail
                refine (runs_any HE.out.t.at_ (c := c) (by rw [HSn.out]; exact hc)).mono ?_
                intro e w5 hr
                obtain ⟨he, hB⟩ := runsPost_is HRT.out hr
                have HE5 := Lib.hid (HE.out.below hB)
                subst he
                clear hB hr HE
                go_wp2_with fail
                have HQ := runs_any HE5.out.u.at_ (c := k - 1) (by rw [HN5.out]; omega)
                rw [HE1.out] at HQ
                refine HQ.mono ?_
                intro e w6 hr
                obtain ⟨he, hB⟩ := runsPost_is HR1.out hr
                have HE6 := Lib.hid (HE5.out.below hB)
                subst he
                clear hB hr HE5 HQ
                go_wp2_with fail
                refine (runs_any HE6.out.u.at_ (c := c) (by rw [HN5.out]; exact hc)).mono ?_
                intro e w7 hr
                obtain ⟨he, hB⟩ := runsPost_is HR2.out hr
                have HE7 := Lib.hid (HE6.out.below hB)
                subst he
                clear hB hr HE6
                go_wp2_with fail
                refine (rel_any HE7.out.t.at_ (c := 0) (id := 8) (by rw [HSn.out]; omega) (by decide) (by decide)).mono ?_
                rintro e w8 ⟨he, hK, hB⟩
                have HE8 := Lib.hid (HE7.out.left hK hB)
                rw [HRB.out] at he
                subst he
                clear hK hB HE7
                go_wp2_with fail
                refine (runs_any HE8.out.t.at_ (c := c) (by show c < s.n; rw [HSn.out]; exact hc)).mono ?_
                intro e w9 hr
                obtain ⟨he, hB⟩ := runsPost_is HRR.out hr
                have HE9 := Lib.hid (HE8.out.below hB)
                subst he
                clear hB hr HE8
                go_wp2_with fail
                refine (known7_any _).mono ?_
                rintro e w10 ⟨rfl, hB⟩
                have HE10 := Lib.hid (HE9.out.below hB).t.bel
                clear hB HE9
                go_wp2
                go_ret
                exact ⟨rfl, HE10.out⟩
theorem lockRuns_any (z c : Int) (w : World) : Calls Try.prog 5 #[.int .i64 z, .int .i64 c] w (LawEnd w) := by
  by_cases h : z < 2 ∨ 64 < z ∨ c < 0 ∨ z ≤ c
  · exact lockRuns_out z c w h
  · obtain ⟨N, rfl⟩ : ∃ N : Nat, z = (N : Int) := ⟨z.toNat, by omega⟩
    obtain ⟨k, rfl⟩ : ∃ k : Nat, c = (k : Int) := ⟨c.toNat, by omega⟩
    exact lockRuns_in w (by omega) (by omega) (by omega)
theorem lockRuns_walk (z c : Int) (W : World) (w0 : (Lit.int .i64 z).wf = true) (w1 : (Lit.int .i64 c).wf = true) : Calls Try.prog 5 #[.int .i64 z, .int .i64 c] W fun e w' => e = .returned (.bool true) ∧ Below W.heap.size W w' := lockRuns_any z c W
end Go.Proofs.Ytojmhiaabjbdiaa
