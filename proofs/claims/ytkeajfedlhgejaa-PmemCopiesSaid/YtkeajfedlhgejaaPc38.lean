/- Texts of this claim, packed: R2D2. -/
import Derived.Test.YtkeajfedlhgejaaPc37
import Derived.Deep.QuietTactic
import Derived.Deep.DeepCutAuto
import Derived.Deep.CutBlock
/- game.do, a Load: both memories turn likewise, and look alike; for memories of at most eight lines. -/
namespace Go.Proofs.Ytkeajfedlhgejaa
open Go Go.RowKit
set_option linter.unusedVariables false
set_option maxRecDepth 100000 in
set_option maxHeartbeats 4000000 in
theorem gdo_2 {P : Nat → Prop} {w : World} {gg : Nat} {s s' : St} {r r' : Rf} (h : GSP P w gg s r) (hR : RelAt s' r') (hnl : s'.nl ≤ 8) (c : Int) (a v : Nat) (n : Int) (ks : Value) (ha : a < 18446744073709551616) {X E : Int} (hE : E = 0 ∨ E = 2 ∨ E = 3) (hP : PC 37 s [.int .u64 (a : Int)] (.tuple #[.int .u64 X, .int .i64 E]) s') (hQ : RC 38 r [.int .u64 (a : Int)] (.tuple #[.int .u64 X, .int .i64 E]) r') :
    Calls Try.prog 13 #[.pointer (some ⟨gg, 0, none⟩), .agg #[.int .i64 2, .int .i64 c, .int .u64 (a : Int), .int .u64 (v : Int), .int .i64 n, ks]] w (DoPost2 P gg s' r' w) := by
  obtain ⟨yg, g, hg⟩ := GY.start h 2 c a v n ks
  have H := Lib.hid hg
  have HR := Lib.hid hR
  have EGLoad := Lib.hid (enters_of Try.func37 (by kernel_rfl) rfl)
  have EGr2Load := Lib.hid (enters_of Try.func38 (by kernel_rfl) rfl)
  have EGPending := Lib.hid (enters_of Try.func19 (by kernel_rfl) rfl)
  have EGr2Pending := Lib.hid (enters_of Try.func35 (by kernel_rfl) rfl)
  have EGgsame := Lib.hid (enters_of Try.func12 (by kernel_rfl) rfl)
  have hpq : ((pcnt r' a : Int) == (pcnt r' a : Int)) = true := by simp
  have mixed : Try.prog.follows .mixedOrders = true := by kernel_rfl
  clear h hg hR
  have HPC := Lib.hid hP
  have HRC := Lib.hid hQ
  have hEE : (E != E) = false := by simp
  have hXX : (X != X) = false := by simp
  have hEw : IntKind.i64.wrap E = E := by rw [IntKind.wrap_i64]; omega
  clear hP hQ
  go_enter Try.func13, Try.ntmps13
  go_upto_region 6 with (fail)
  refine wp_region_noPanic ?_
  refine wp_region_held_drew (S := SG gg w.heap.size yg g 2 c a v n ks) (by kernel_rfl) H.out.drew.sg (fun hHeld => ?_)
  have H2 := Lib.hid H.out.drew
  clear H
  have H := H2
  clear H2
  refine wpAnyH_take (i := 0) (oi := ⟨some 39, _, _, _, _, _⟩) (v := .pointer (some ⟨gg, 0, none⟩)) rfl (by kernel_rfl) (by kernel_rfl) (by kernel_rfl) (fun _ _ _ h => h) (Or.inl ⟨by kernel_rfl, by intro WW hSw; obtain ⟨s0, s1, a0, a1, a2, a3, a4, a5⟩ := hSw; go_simp⟩) (by assumption) ?_
  (try simp only [Act.put, List.setIfInBounds_toArray, List.set_cons_zero, List.set_cons_succ])
  refine wpAnyH_take (i := 1) (oi := ⟨some 40, _, _, _, _, _⟩) (v := .pointer (some ⟨gg, 0, none⟩)) rfl (by kernel_rfl) (by kernel_rfl) (by kernel_rfl) (fun _ _ _ h => h) (Or.inl ⟨by kernel_rfl, by intro WW hSw; obtain ⟨s0, s1, a0, a1, a2, a3, a4, a5⟩ := hSw; go_simp⟩) (by assumption) ?_
  (try simp only [Act.put, List.setIfInBounds_toArray, List.set_cons_zero, List.set_cons_succ])
  refine wpAnyH_take (i := 2) (oi := ⟨some 41, _, _, _, _, _⟩) (v := .pointer (some ⟨gg, 0, none⟩)) rfl (by kernel_rfl) (by kernel_rfl) (by kernel_rfl) (fun _ _ _ h => h) (Or.inl ⟨by kernel_rfl, by intro WW hSw; obtain ⟨s0, s1, a0, a1, a2, a3, a4, a5⟩ := hSw; go_simp⟩) (by assumption) ?_
  (try simp only [Act.put, List.setIfInBounds_toArray, List.set_cons_zero, List.set_cons_succ])
  refine wpAnyH_take (i := 3) (oi := ⟨some 42, _, _, _, _, _⟩) (v := .pointer (some ⟨yg, 0, none⟩)) rfl (by kernel_rfl) (by kernel_rfl) (by kernel_rfl) (fun _ _ _ h => h) (Or.inl ⟨by kernel_rfl, by intro WW hSw; obtain ⟨s0, s1, a0, a1, a2, a3, a4, a5⟩ := hSw; go_simp⟩) (by assumption) ?_
  (try simp only [Act.put, List.setIfInBounds_toArray, List.set_cons_zero, List.set_cons_succ])
  refine wpAnyH_take (i := 4) (oi := ⟨some 43, _, _, _, _, _⟩) (v := .pointer (some ⟨w.heap.size, 2, none⟩)) rfl (by kernel_rfl) (by kernel_rfl) (by kernel_rfl) (fun _ _ _ h => h) (Or.inl ⟨by kernel_rfl, by intro WW hSw; obtain ⟨s0, s1, a0, a1, a2, a3, a4, a5⟩ := hSw; go_simp⟩) (by assumption) ?_
  (try simp only [Act.put, List.setIfInBounds_toArray, List.set_cons_zero, List.set_cons_succ])
  refine wpAnyH_take (i := 5) (oi := ⟨some 44, _, _, _, _, _⟩) (v := .int .u64 (a : Int)) rfl (by kernel_rfl) (by kernel_rfl) (by kernel_rfl) (fun _ _ _ h => h) (Or.inl ⟨by kernel_rfl, by intro WW hSw; obtain ⟨s0, s1, a0, a1, a2, a3, a4, a5⟩ := hSw; go_simp⟩) (by assumption) ?_
  (try simp only [Act.put, List.setIfInBounds_toArray, List.set_cons_zero, List.set_cons_succ])
  refine wpAnyH_one (i := 6) (oi := ⟨_, _, _, _, _, _⟩) rfl (by kernel_rfl) (fun K hK => ?_)
  refine step_calls (by rfl) 37 EGLoad.out [.tmp 42, .tmp 44] _ rfl [.pointer (some ⟨yg, 0, none⟩), .int .u64 (a : Int)] rfl (H.out.callP HPC.out) ?_
  rintro e x1 ⟨rfl, hH⟩
  refine ⟨_, rfl, hK _ _ hH.sg (fun _ => ?_)⟩
  have hHeld := hH.sg
  clear hK K H
  have H := Lib.hid hH
  clear hH
  (try simp only [Act.put, List.setIfInBounds_toArray, List.set_cons_zero, List.set_cons_succ])
  refine wpAnyH_take (i := 7) (oi := ⟨some 38, _, _, _, _, _⟩) (v := .tuple #[.int .u64 X, .int .i64 E]) rfl (by kernel_rfl) (by kernel_rfl) (by kernel_rfl) (fun _ _ _ h => h) (Or.inl ⟨by kernel_rfl, by intro WW hSw; obtain ⟨s0, s1, a0, a1, a2, a3, a4, a5⟩ := hSw; go_simp⟩) (by assumption) ?_
  (try simp only [Act.put, List.setIfInBounds_toArray, List.set_cons_zero, List.set_cons_succ])
  refine wpAnyH_take (i := 8) (oi := ⟨some 46, _, _, _, _, _⟩) (v := .int .u64 X) rfl (by kernel_rfl) (by kernel_rfl) (by kernel_rfl) (fun _ _ _ h => h) (Or.inl ⟨by kernel_rfl, by intro WW hSw; obtain ⟨s0, s1, a0, a1, a2, a3, a4, a5⟩ := hSw; go_simp⟩) (by assumption) ?_
  (try simp only [Act.put, List.setIfInBounds_toArray, List.set_cons_zero, List.set_cons_succ])
  refine wpAnyH_take (i := 9) (oi := ⟨some 47, _, _, _, _, _⟩) (v := .int .i64 E) rfl (by kernel_rfl) (by kernel_rfl) (by kernel_rfl) (fun _ _ _ h => h) (Or.inl ⟨by kernel_rfl, by intro WW hSw; obtain ⟨s0, s1, a0, a1, a2, a3, a4, a5⟩ := hSw; go_simp⟩) (by assumption) ?_
  (try simp only [Act.put, List.setIfInBounds_toArray, List.set_cons_zero, List.set_cons_succ])
  refine wpAnyH_take (i := 10) (oi := ⟨some 5, _, _, _, _, _⟩) (v := .int .u64 X) rfl (by kernel_rfl) (by kernel_rfl) (by kernel_rfl) (fun _ _ _ h => h) (Or.inl ⟨by kernel_rfl, by intro WW hSw; obtain ⟨s0, s1, a0, a1, a2, a3, a4, a5⟩ := hSw; go_simp⟩) (by assumption) ?_
  (try simp only [Act.put, List.setIfInBounds_toArray, List.set_cons_zero, List.set_cons_succ])
  refine wpAnyH_take (i := 11) (oi := ⟨some 6, _, _, _, _, _⟩) (v := .int .i64 E) rfl (by kernel_rfl) (by kernel_rfl) (by kernel_rfl) (fun _ _ _ h => h) (Or.inl ⟨by kernel_rfl, by intro WW hSw; obtain ⟨s0, s1, a0, a1, a2, a3, a4, a5⟩ := hSw; go_simp⟩) (by assumption) ?_
  (try simp only [Act.put, List.setIfInBounds_toArray, List.set_cons_zero, List.set_cons_succ])
  refine wpAnyH_done (by kernel_rfl) ?_ _
  unfold NoPanic
  clear hHeld
  go_wp2
  go_upto_region 7 with (fail)
  refine wp_region_noPanic ?_
  refine wp_region_held_drew (S := SG gg w.heap.size yg g 2 c a v n ks) (by kernel_rfl) H.out.drew.sg (fun hHeld => ?_)
  have H2 := Lib.hid H.out.drew
  clear H
  have H := H2
  clear H2
  refine wpAnyH_take (i := 0) (oi := ⟨some 49, _, _, _, _, _⟩) (v := .pointer (some ⟨gg, 0, none⟩)) rfl (by kernel_rfl) (by kernel_rfl) (by kernel_rfl) (fun _ _ _ h => h) (Or.inl ⟨by kernel_rfl, by intro WW hSw; obtain ⟨s0, s1, a0, a1, a2, a3, a4, a5⟩ := hSw; go_simp⟩) (by assumption) ?_
  (try simp only [Act.put, List.setIfInBounds_toArray, List.set_cons_zero, List.set_cons_succ])
  refine wpAnyH_take (i := 1) (oi := ⟨some 50, _, _, _, _, _⟩) (v := .pointer (some ⟨gg, 0, none⟩)) rfl (by kernel_rfl) (by kernel_rfl) (by kernel_rfl) (fun _ _ _ h => h) (Or.inl ⟨by kernel_rfl, by intro WW hSw; obtain ⟨s0, s1, a0, a1, a2, a3, a4, a5⟩ := hSw; go_simp⟩) (by assumption) ?_
  (try simp only [Act.put, List.setIfInBounds_toArray, List.set_cons_zero, List.set_cons_succ])
  refine wpAnyH_take (i := 2) (oi := ⟨some 51, _, _, _, _, _⟩) (v := .pointer (some ⟨gg, 1, none⟩)) rfl (by kernel_rfl) (by kernel_rfl) (by kernel_rfl) (fun _ _ _ h => h) (Or.inl ⟨by kernel_rfl, by intro WW hSw; obtain ⟨s0, s1, a0, a1, a2, a3, a4, a5⟩ := hSw; go_simp⟩) (by assumption) ?_
  (try simp only [Act.put, List.setIfInBounds_toArray, List.set_cons_zero, List.set_cons_succ])
  refine wpAnyH_take (i := 3) (oi := ⟨some 52, _, _, _, _, _⟩) (v := .pointer (some ⟨g, 0, none⟩)) rfl (by kernel_rfl) (by kernel_rfl) (by kernel_rfl) (fun _ _ _ h => h) (Or.inl ⟨by kernel_rfl, by intro WW hSw; obtain ⟨s0, s1, a0, a1, a2, a3, a4, a5⟩ := hSw; go_simp⟩) (by assumption) ?_
  (try simp only [Act.put, List.setIfInBounds_toArray, List.set_cons_zero, List.set_cons_succ])
  refine wpAnyH_take (i := 4) (oi := ⟨some 53, _, _, _, _, _⟩) (v := .pointer (some ⟨w.heap.size, 2, none⟩)) rfl (by kernel_rfl) (by kernel_rfl) (by kernel_rfl) (fun _ _ _ h => h) (Or.inl ⟨by kernel_rfl, by intro WW hSw; obtain ⟨s0, s1, a0, a1, a2, a3, a4, a5⟩ := hSw; go_simp⟩) (by assumption) ?_
  (try simp only [Act.put, List.setIfInBounds_toArray, List.set_cons_zero, List.set_cons_succ])
  refine wpAnyH_take (i := 5) (oi := ⟨some 54, _, _, _, _, _⟩) (v := .int .u64 (a : Int)) rfl (by kernel_rfl) (by kernel_rfl) (by kernel_rfl) (fun _ _ _ h => h) (Or.inl ⟨by kernel_rfl, by intro WW hSw; obtain ⟨s0, s1, a0, a1, a2, a3, a4, a5⟩ := hSw; go_simp⟩) (by assumption) ?_
  (try simp only [Act.put, List.setIfInBounds_toArray, List.set_cons_zero, List.set_cons_succ])
  refine wpAnyH_one (i := 6) (oi := ⟨_, _, _, _, _, _⟩) rfl (by kernel_rfl) (fun K hK => ?_)
  refine step_calls (by rfl) 38 EGr2Load.out [.tmp 52, .tmp 54] _ rfl [.pointer (some ⟨g, 0, none⟩), .int .u64 (a : Int)] rfl (H.out.callR HRC.out) ?_
  rintro e x2 ⟨rfl, hH⟩
  refine ⟨_, rfl, hK _ _ hH.sg (fun _ => ?_)⟩
  have hHeld := hH.sg
  clear hK K H
  have H := Lib.hid hH
  clear hH
  (try simp only [Act.put, List.setIfInBounds_toArray, List.set_cons_zero, List.set_cons_succ])
  refine wpAnyH_take (i := 7) (oi := ⟨some 48, _, _, _, _, _⟩) (v := .tuple #[.int .u64 X, .int .i64 E]) rfl (by kernel_rfl) (by kernel_rfl) (by kernel_rfl) (fun _ _ _ h => h) (Or.inl ⟨by kernel_rfl, by intro WW hSw; obtain ⟨s0, s1, a0, a1, a2, a3, a4, a5⟩ := hSw; go_simp⟩) (by assumption) ?_
  (try simp only [Act.put, List.setIfInBounds_toArray, List.set_cons_zero, List.set_cons_succ])
  refine wpAnyH_take (i := 8) (oi := ⟨some 56, _, _, _, _, _⟩) (v := .int .u64 X) rfl (by kernel_rfl) (by kernel_rfl) (by kernel_rfl) (fun _ _ _ h => h) (Or.inl ⟨by kernel_rfl, by intro WW hSw; obtain ⟨s0, s1, a0, a1, a2, a3, a4, a5⟩ := hSw; go_simp⟩) (by assumption) ?_
  (try simp only [Act.put, List.setIfInBounds_toArray, List.set_cons_zero, List.set_cons_succ])
  refine wpAnyH_take (i := 9) (oi := ⟨some 57, _, _, _, _, _⟩) (v := .int .i64 E) rfl (by kernel_rfl) (by kernel_rfl) (by kernel_rfl) (fun _ _ _ h => h) (Or.inl ⟨by kernel_rfl, by intro WW hSw; obtain ⟨s0, s1, a0, a1, a2, a3, a4, a5⟩ := hSw; go_simp⟩) (by assumption) ?_
  (try simp only [Act.put, List.setIfInBounds_toArray, List.set_cons_zero, List.set_cons_succ])
  refine wpAnyH_take (i := 10) (oi := ⟨some 7, _, _, _, _, _⟩) (v := .int .u64 X) rfl (by kernel_rfl) (by kernel_rfl) (by kernel_rfl) (fun _ _ _ h => h) (Or.inl ⟨by kernel_rfl, by intro WW hSw; obtain ⟨s0, s1, a0, a1, a2, a3, a4, a5⟩ := hSw; go_simp⟩) (by assumption) ?_
  (try simp only [Act.put, List.setIfInBounds_toArray, List.set_cons_zero, List.set_cons_succ])
  refine wpAnyH_take (i := 11) (oi := ⟨some 8, _, _, _, _, _⟩) (v := .int .i64 E) rfl (by kernel_rfl) (by kernel_rfl) (by kernel_rfl) (fun _ _ _ h => h) (Or.inl ⟨by kernel_rfl, by intro WW hSw; obtain ⟨s0, s1, a0, a1, a2, a3, a4, a5⟩ := hSw; go_simp⟩) (by assumption) ?_
  (try simp only [Act.put, List.setIfInBounds_toArray, List.set_cons_zero, List.set_cons_succ])
  refine wpAnyH_done (by kernel_rfl) ?_ _
  unfold NoPanic
  clear hHeld
  go_wp2
  go_upto_region 26 with (fail)
  refine wp_region_noPanic ?_
  refine wp_region_held_drew (S := SG gg w.heap.size yg g 2 c a v n ks) (by kernel_rfl) H.out.drew.sg (fun hHeld => ?_)
  have H2 := Lib.hid H.out.drew
  clear H
  have H := H2
  clear H2
  refine wpAnyH_take (i := 0) (oi := ⟨some 165, _, _, _, _, _⟩) (v := .pointer (some ⟨gg, 0, none⟩)) rfl (by kernel_rfl) (by kernel_rfl) (by kernel_rfl) (fun _ _ _ h => h) (Or.inl ⟨by kernel_rfl, by intro WW hSw; obtain ⟨s0, s1, a0, a1, a2, a3, a4, a5⟩ := hSw; go_simp⟩) (by assumption) ?_
  (try simp only [Act.put, List.setIfInBounds_toArray, List.set_cons_zero, List.set_cons_succ])
  refine wpAnyH_take (i := 1) (oi := ⟨some 166, _, _, _, _, _⟩) (v := .pointer (some ⟨gg, 0, none⟩)) rfl (by kernel_rfl) (by kernel_rfl) (by kernel_rfl) (fun _ _ _ h => h) (Or.inl ⟨by kernel_rfl, by intro WW hSw; obtain ⟨s0, s1, a0, a1, a2, a3, a4, a5⟩ := hSw; go_simp⟩) (by assumption) ?_
  (try simp only [Act.put, List.setIfInBounds_toArray, List.set_cons_zero, List.set_cons_succ])
  refine wpAnyH_take (i := 2) (oi := ⟨some 167, _, _, _, _, _⟩) (v := .pointer (some ⟨gg, 0, none⟩)) rfl (by kernel_rfl) (by kernel_rfl) (by kernel_rfl) (fun _ _ _ h => h) (Or.inl ⟨by kernel_rfl, by intro WW hSw; obtain ⟨s0, s1, a0, a1, a2, a3, a4, a5⟩ := hSw; go_simp⟩) (by assumption) ?_
  (try simp only [Act.put, List.setIfInBounds_toArray, List.set_cons_zero, List.set_cons_succ])
  refine wpAnyH_take (i := 3) (oi := ⟨some 168, _, _, _, _, _⟩) (v := .pointer (some ⟨yg, 0, none⟩)) rfl (by kernel_rfl) (by kernel_rfl) (by kernel_rfl) (fun _ _ _ h => h) (Or.inl ⟨by kernel_rfl, by intro WW hSw; obtain ⟨s0, s1, a0, a1, a2, a3, a4, a5⟩ := hSw; go_simp⟩) (by assumption) ?_
  (try simp only [Act.put, List.setIfInBounds_toArray, List.set_cons_zero, List.set_cons_succ])
  refine wpAnyH_take (i := 4) (oi := ⟨some 169, _, _, _, _, _⟩) (v := .bool true) rfl (by kernel_rfl) (by kernel_rfl) (by kernel_rfl) (fun _ _ _ h => h) (Or.inl ⟨by kernel_rfl, by intro WW hSw; obtain ⟨s0, s1, a0, a1, a2, a3, a4, a5⟩ := hSw; go_simp⟩) (by assumption) ?_
  (try simp only [Act.put, List.setIfInBounds_toArray, List.set_cons_zero, List.set_cons_succ])
  refine wpAnyH_take (i := 5) (oi := ⟨some 170, _, _, _, _, _⟩) (v := .bool true) rfl (by kernel_rfl) (by kernel_rfl) (by kernel_rfl) (fun _ _ _ h => h) (Or.inl ⟨by kernel_rfl, by intro WW hSw; obtain ⟨s0, s1, a0, a1, a2, a3, a4, a5⟩ := hSw; go_simp⟩) (by assumption) ?_
  (try simp only [Act.put, List.setIfInBounds_toArray, List.set_cons_zero, List.set_cons_succ])
  refine wpAnyH_take (i := 6) (oi := ⟨some 171, _, _, _, _, _⟩) (v := .pointer (some ⟨gg, 0, none⟩)) rfl (by kernel_rfl) (by kernel_rfl) (by kernel_rfl) (fun _ _ _ h => h) (Or.inl ⟨by kernel_rfl, by intro WW hSw; obtain ⟨s0, s1, a0, a1, a2, a3, a4, a5⟩ := hSw; go_simp⟩) (by assumption) ?_
  (try simp only [Act.put, List.setIfInBounds_toArray, List.set_cons_zero, List.set_cons_succ])
  refine wpAnyH_take (i := 7) (oi := ⟨some 172, _, _, _, _, _⟩) (v := .pointer (some ⟨gg, 0, none⟩)) rfl (by kernel_rfl) (by kernel_rfl) (by kernel_rfl) (fun _ _ _ h => h) (Or.inl ⟨by kernel_rfl, by intro WW hSw; obtain ⟨s0, s1, a0, a1, a2, a3, a4, a5⟩ := hSw; go_simp⟩) (by assumption) ?_
  (try simp only [Act.put, List.setIfInBounds_toArray, List.set_cons_zero, List.set_cons_succ])
  refine wpAnyH_take (i := 8) (oi := ⟨some 173, _, _, _, _, _⟩) (v := .pointer (some ⟨gg, 0, none⟩)) rfl (by kernel_rfl) (by kernel_rfl) (by kernel_rfl) (fun _ _ _ h => h) (Or.inl ⟨by kernel_rfl, by intro WW hSw; obtain ⟨s0, s1, a0, a1, a2, a3, a4, a5⟩ := hSw; go_simp⟩) (by assumption) ?_
  (try simp only [Act.put, List.setIfInBounds_toArray, List.set_cons_zero, List.set_cons_succ])
  refine wpAnyH_take (i := 9) (oi := ⟨some 174, _, _, _, _, _⟩) (v := .pointer (some ⟨yg, 0, none⟩)) rfl (by kernel_rfl) (by kernel_rfl) (by kernel_rfl) (fun _ _ _ h => h) (Or.inl ⟨by kernel_rfl, by intro WW hSw; obtain ⟨s0, s1, a0, a1, a2, a3, a4, a5⟩ := hSw; go_simp⟩) (by assumption) ?_
  (try simp only [Act.put, List.setIfInBounds_toArray, List.set_cons_zero, List.set_cons_succ])
  refine wpAnyH_take (i := 10) (oi := ⟨some 175, _, _, _, _, _⟩) (v := .pointer (some ⟨w.heap.size, 2, none⟩)) rfl (by kernel_rfl) (by kernel_rfl) (by kernel_rfl) (fun _ _ _ h => h) (Or.inl ⟨by kernel_rfl, by intro WW hSw; obtain ⟨s0, s1, a0, a1, a2, a3, a4, a5⟩ := hSw; go_simp⟩) (by assumption) ?_
  (try simp only [Act.put, List.setIfInBounds_toArray, List.set_cons_zero, List.set_cons_succ])
  refine wpAnyH_take (i := 11) (oi := ⟨some 176, _, _, _, _, _⟩) (v := .int .u64 (a : Int)) rfl (by kernel_rfl) (by kernel_rfl) (by kernel_rfl) (fun _ _ _ h => h) (Or.inl ⟨by kernel_rfl, by intro WW hSw; obtain ⟨s0, s1, a0, a1, a2, a3, a4, a5⟩ := hSw; go_simp⟩) (by assumption) ?_
  (try simp only [Act.put, List.setIfInBounds_toArray, List.set_cons_zero, List.set_cons_succ])
  refine wpAnyH_take (i := 13) (oi := ⟨some 178, _, _, _, _, _⟩) (v := .pointer (some ⟨gg, 0, none⟩)) rfl (by kernel_rfl) (by kernel_rfl) (by kernel_rfl) (fun _ _ _ h => h) (Or.inl ⟨by kernel_rfl, by intro WW hSw; obtain ⟨s0, s1, a0, a1, a2, a3, a4, a5⟩ := hSw; go_simp⟩) (by assumption) ?_
  (try simp only [Act.put, List.setIfInBounds_toArray, List.set_cons_zero, List.set_cons_succ])
  refine wpAnyH_take (i := 14) (oi := ⟨some 179, _, _, _, _, _⟩) (v := .pointer (some ⟨gg, 0, none⟩)) rfl (by kernel_rfl) (by kernel_rfl) (by kernel_rfl) (fun _ _ _ h => h) (Or.inl ⟨by kernel_rfl, by intro WW hSw; obtain ⟨s0, s1, a0, a1, a2, a3, a4, a5⟩ := hSw; go_simp⟩) (by assumption) ?_
  (try simp only [Act.put, List.setIfInBounds_toArray, List.set_cons_zero, List.set_cons_succ])
  refine wpAnyH_take (i := 15) (oi := ⟨some 180, _, _, _, _, _⟩) (v := .pointer (some ⟨gg, 1, none⟩)) rfl (by kernel_rfl) (by kernel_rfl) (by kernel_rfl) (fun _ _ _ h => h) (Or.inl ⟨by kernel_rfl, by intro WW hSw; obtain ⟨s0, s1, a0, a1, a2, a3, a4, a5⟩ := hSw; go_simp⟩) (by assumption) ?_
  (try simp only [Act.put, List.setIfInBounds_toArray, List.set_cons_zero, List.set_cons_succ])
  refine wpAnyH_take (i := 16) (oi := ⟨some 181, _, _, _, _, _⟩) (v := .pointer (some ⟨g, 0, none⟩)) rfl (by kernel_rfl) (by kernel_rfl) (by kernel_rfl) (fun _ _ _ h => h) (Or.inl ⟨by kernel_rfl, by intro WW hSw; obtain ⟨s0, s1, a0, a1, a2, a3, a4, a5⟩ := hSw; go_simp⟩) (by assumption) ?_
  (try simp only [Act.put, List.setIfInBounds_toArray, List.set_cons_zero, List.set_cons_succ])
  refine wpAnyH_take (i := 17) (oi := ⟨some 182, _, _, _, _, _⟩) (v := .pointer (some ⟨w.heap.size, 2, none⟩)) rfl (by kernel_rfl) (by kernel_rfl) (by kernel_rfl) (fun _ _ _ h => h) (Or.inl ⟨by kernel_rfl, by intro WW hSw; obtain ⟨s0, s1, a0, a1, a2, a3, a4, a5⟩ := hSw; go_simp⟩) (by assumption) ?_
  (try simp only [Act.put, List.setIfInBounds_toArray, List.set_cons_zero, List.set_cons_succ])
  refine wpAnyH_take (i := 18) (oi := ⟨some 183, _, _, _, _, _⟩) (v := .int .u64 (a : Int)) rfl (by kernel_rfl) (by kernel_rfl) (by kernel_rfl) (fun _ _ _ h => h) (Or.inl ⟨by kernel_rfl, by intro WW hSw; obtain ⟨s0, s1, a0, a1, a2, a3, a4, a5⟩ := hSw; go_simp⟩) (by assumption) ?_
  (try simp only [Act.put, List.setIfInBounds_toArray, List.set_cons_zero, List.set_cons_succ])
  refine wpAnyH_one (i := 12) (oi := ⟨_, _, _, _, _, _⟩) rfl (by kernel_rfl) (fun K hK => ?_)
  refine step_calls (by rfl) 19 EGPending.out [.tmp 174, .tmp 176] _ rfl [.pointer (some ⟨yg, 0, none⟩), .int .u64 (a : Int)] rfl (H.out.pendP HR.out) ?_
  rintro e x3 ⟨rfl, hH⟩
  refine ⟨_, rfl, hK _ _ hH.sg (fun _ => ?_)⟩
  have hHeld := hH.sg
  clear hK K H
  have H := Lib.hid hH
  clear hH
  (try simp only [Act.put, List.setIfInBounds_toArray, List.set_cons_zero, List.set_cons_succ])
  refine wpAnyH_one (i := 19) (oi := ⟨_, _, _, _, _, _⟩) rfl (by kernel_rfl) (fun K hK => ?_)
  refine step_calls (by rfl) 35 EGr2Pending.out [.tmp 181, .tmp 183] _ rfl [.pointer (some ⟨g, 0, none⟩), .int .u64 (a : Int)] rfl (H.out.pendR HR.out hnl ha) ?_
  rintro e x4 ⟨rfl, hH⟩
  refine ⟨_, rfl, hK _ _ hH.sg (fun _ => ?_)⟩
  have hHeld := hH.sg
  clear hK K H
  have H := Lib.hid hH
  clear hH
  (try simp only [Act.put, List.setIfInBounds_toArray, List.set_cons_zero, List.set_cons_succ])
  refine wpAnyH_take (i := 20) (oi := ⟨some 185, _, _, _, _, _⟩) (v := .bool true) rfl (by kernel_rfl) (by kernel_rfl) (by kernel_rfl) (fun _ _ _ h => h) (Or.inl ⟨by kernel_rfl, by intro WW hSw; obtain ⟨s0, s1, a0, a1, a2, a3, a4, a5⟩ := hSw; go_simp⟩) (by assumption) ?_
  (try simp only [Act.put, List.setIfInBounds_toArray, List.set_cons_zero, List.set_cons_succ])
  refine wpAnyH_take (i := 21) (oi := ⟨some 186, _, _, _, _, _⟩) (v := .bool true) rfl (by kernel_rfl) (by kernel_rfl) (by kernel_rfl) (fun _ _ _ h => h) (Or.inl ⟨by kernel_rfl, by intro WW hSw; obtain ⟨s0, s1, a0, a1, a2, a3, a4, a5⟩ := hSw; go_simp⟩) (by assumption) ?_
  (try simp only [Act.put, List.setIfInBounds_toArray, List.set_cons_zero, List.set_cons_succ])
  refine wpAnyH_take (i := 22) (oi := ⟨some 187, _, _, _, _, _⟩) (v := .bool true) rfl (by kernel_rfl) (by kernel_rfl) (by kernel_rfl) (fun _ _ _ h => h) (Or.inl ⟨by kernel_rfl, by intro WW hSw; obtain ⟨s0, s1, a0, a1, a2, a3, a4, a5⟩ := hSw; go_simp⟩) (by assumption) ?_
  (try simp only [Act.put, List.setIfInBounds_toArray, List.set_cons_zero, List.set_cons_succ])
  refine wpAnyH_take (i := 23) (oi := ⟨some 188, _, _, _, _, _⟩) (v := .pointer (some ⟨gg, 0, none⟩)) rfl (by kernel_rfl) (by kernel_rfl) (by kernel_rfl) (fun _ _ _ h => h) (Or.inl ⟨by kernel_rfl, by intro WW hSw; obtain ⟨s0, s1, a0, a1, a2, a3, a4, a5⟩ := hSw; go_simp⟩) (by assumption) ?_
  (try simp only [Act.put, List.setIfInBounds_toArray, List.set_cons_zero, List.set_cons_succ])
  refine wpAnyH_one (i := 24) (oi := ⟨_, _, _, _, _, _⟩) rfl (by kernel_rfl) (fun K hK => ?_)
  refine step_calls (by rfl) 12 EGgsame.out [.tmp 188] _ rfl [.pointer (some ⟨gg, 0, none⟩)] rfl (H.out.same HR.out hnl) ?_
  rintro e x5 ⟨rfl, hH⟩
  refine ⟨_, rfl, hK _ _ hH.sg (fun _ => ?_)⟩
  have hHeld := hH.sg
  clear hK K H
  have H := Lib.hid hH
  clear hH
  (try simp only [Act.put, List.setIfInBounds_toArray, List.set_cons_zero, List.set_cons_succ])
  refine wpAnyH_take (i := 25) (oi := ⟨some 190, _, _, _, _, _⟩) (v := .bool true) rfl (by kernel_rfl) (by kernel_rfl) (by kernel_rfl) (fun _ _ _ h => h) (Or.inl ⟨by kernel_rfl, by intro WW hSw; obtain ⟨s0, s1, a0, a1, a2, a3, a4, a5⟩ := hSw; go_simp⟩) (by assumption) ?_
  (try simp only [Act.put, List.setIfInBounds_toArray, List.set_cons_zero, List.set_cons_succ])
  refine wpAnyH_take (i := 26) (oi := ⟨some 4, _, _, _, _, _⟩) (v := .bool true) rfl (by kernel_rfl) (by kernel_rfl) (by kernel_rfl) (fun _ _ _ h => h) (Or.inl ⟨by kernel_rfl, by intro WW hSw; obtain ⟨s0, s1, a0, a1, a2, a3, a4, a5⟩ := hSw; go_simp⟩) (by assumption) ?_
  (try simp only [Act.put, List.setIfInBounds_toArray, List.set_cons_zero, List.set_cons_succ])
  refine wpAnyH_done (by kernel_rfl) ?_ _
  unfold NoPanic
  clear hHeld
  have HE := Lib.hid H.out.fin
  clear H
  go_wp2
  go_ret
  exact ⟨rfl, HE.out⟩
end Go.Proofs.Ytkeajfedlhgejaa
