/- Texts of this claim, packed: 6Sj, 6Do5, 6Do6, 6Do8, 6Dj, 6Beg. -/
import Derived.Test.YtahojhaeebmpoaaGreatDoorPm43
import Derived.Test.YtahojhaeebmpoaaGreatDoorPm40
import Derived.Test.YtahojhaeebmpoaaGreatDoorPm41
import Derived.Test.YtahojhaeebmpoaaGreatDoorPm42
import Derived.Test.YtahojhaeebmpoaaGreatDoorPm39
import Derived.Test.YtahojhaeebmpoaaGreatDoorPm25
import Derived.Test.YtahojhaeebmpoaaGreatDoorPm27
import Derived.Test.YtahojhaeebmpoaaGreatDoorPm34
import Derived.Deep.QuietTactic
import Derived.Deep.DeepCutAuto
import Derived.Deep.CutBlock
/- A step of the law's game: any number, any turns. -/
namespace Go.Proofs.YtahojhaeebmpoaaGreatDoor
open Go Go.RowKit Go.Sort
set_option linter.unusedVariables false
theorem gstep_any {w0 w : World} {P0 : Nat → Prop} {B size gg mg gs gw N : Nat} {z : S6} (G : GD w0 P0 B size gg mg gs gw (RQ z) w) (hI : Inv6 N z) (hN : N ≤ 800) (n : Int) :
    Calls Tryz.prog 55 #[.pointer (some ⟨gg, 0, none⟩), .int .i64 n] w (StP w0 P0 B size gg mg gs gw z) := by
  by_cases h0 : z.T = []
  · exact gstep_none G h0 n
  · have hl : 0 < z.T.length := List.length_pos_iff.2 h0
    have hU : 0 ≤ IntKind.u64.wrap n := by rw [IntKind.wrap_u64]; omega
    obtain ⟨q, hq⟩ : ∃ q : Nat, (q : Int) = IntKind.u64.wrap n % (z.T.length : Int) := ⟨(IntKind.u64.wrap n % (z.T.length : Int)).toNat, by have := Int.emod_nonneg (IntKind.u64.wrap n) (show (z.T.length : Int) ≠ 0 by omega); omega⟩
    have hqm : q < z.T.length := by have := Int.emod_lt_of_pos (IntKind.u64.wrap n) (show (0 : Int) < (z.T.length : Int) by omega); omega
    have ht := List.getElem?_eq_getElem hqm
    have hq2 : (q : Int) = (IntKind.u64.wrap n).tmod (z.T.length : Int) := by rw [Int.tmod_eq_emod_of_nonneg hU]; exact hq
    obtain ⟨x, hx, _, _, _, hk, _⟩ := hI.tn _ (List.mem_of_getElem? ht)
    by_cases h3 : (z.T[q]).k = 3
    · exact gstep_done G hI hN n ht hx hq2 h3
    · exact gstep_on G hI hN n ht hx hq2 (by omega)
end Go.Proofs.YtahojhaeebmpoaaGreatDoor
/- The law's game, an act: a step. -/
namespace Go.Proofs.YtahojhaeebmpoaaGreatDoor
open Go Go.RowKit Go.Sort
set_option linter.unusedVariables false
set_option maxRecDepth 100000 in
set_option maxHeartbeats 4000000 in
theorem gdo6_5 {w0 w : World} {P0 : Nat → Prop} {B size gg mg gs gw N : Nat} {z : S6} (G : GD w0 P0 B size gg mg gs gw (RQ z) w) (hI : Inv6 N z) (hN : N ≤ 700) (n : Int) (c : Int) (a : Nat) :
    Calls Tryz.prog 18 #[.pointer (some ⟨gg, 0, none⟩), .agg #[.int .i64 5, .int .i64 n, .int .u64 (a : Int), .int .i64 c]] w (Do6P w0 P0 B size gg mg gs gw z (fun z' => (z.T = [] ∧ z' = z) ∨ ∃ q t x, z.T[q]? = some t ∧ z.hs[t.i]? = some x ∧ z' = finT z q t x)) := by
  have hL := hI.ll
  obtain ⟨W1, P, hg, hA, hback⟩ := G.start 5 n c a
  have H := Lib.hid hg
  have HA := Lib.hid hA
  have HBK := Lib.hid hback
  have HI0 := Lib.hid hI
  have HOK := Lib.hid G.ok
  have EGsame6 := Lib.hid (enters_of Tryz.func11 (by kernel_rfl) rfl)
  have mixed : Tryz.prog.follows .mixedOrders = true := by kernel_rfl
  clear G hg hA hback hI
  clear hL
  obtain ⟨s0, s1, s2, s3, s4, s5⟩ := H.out.sg HA.out
  go_enter Tryz.func18, Tryz.ntmps18
  go_wp2_with fail
  refine (gstep_any H.out HI0.out (by omega) n).mono ?_
  rintro e y1 ⟨rfl, z1, hz, hH⟩
  have hst : Step6 z z1 := by
    rcases hz with ⟨_, rfl⟩ | ⟨q, t, x, ht, hx, rfl⟩
    · exact .stay z1
    · exact finT_step HI0.out ht hx
  clear s0 s1 s2 s3 s4 s5 H
  have H := Lib.hid hH
  have HS := Lib.hid hst
  have HZ := Lib.hid hz
  have HI := Lib.hid (HI0.out.step HOK.out.1 HOK.out.2.1 hst)
  clear hH hst hz
  go_upto_region 26 with (fail)
  refine wp_region_noPanic ?_
  refine wp_region_held_drew (S := SG6 gg w.heap.size mg gs gw n a c) (by kernel_rfl) (H.out.drew.sg HA.out) (fun hHeld => ?_)
  have H2 := Lib.hid H.out.drew
  clear H
  have H := H2
  clear H2
  refine wpAnyH_take (i := 0) (oi := ⟨some 163, _, _, _, _, _⟩) (v := .bool true) rfl (by kernel_rfl) (by kernel_rfl) (by kernel_rfl) (fun _ _ _ h => h) (Or.inl ⟨by kernel_rfl, by intro WW hSw; obtain ⟨s0, s1, s2, s3, s4, s5⟩ := hSw; go_simp⟩) (by assumption) ?_
  (try simp only [Act.put, List.setIfInBounds_toArray, List.set_cons_zero, List.set_cons_succ])
  refine wpAnyH_take (i := 1) (oi := ⟨some 164, _, _, _, _, _⟩) (v := .bool true) rfl (by kernel_rfl) (by kernel_rfl) (by kernel_rfl) (fun _ _ _ h => h) (Or.inl ⟨by kernel_rfl, by intro WW hSw; obtain ⟨s0, s1, s2, s3, s4, s5⟩ := hSw; go_simp⟩) (by assumption) ?_
  (try simp only [Act.put, List.setIfInBounds_toArray, List.set_cons_zero, List.set_cons_succ])
  refine wpAnyH_take (i := 2) (oi := ⟨some 165, _, _, _, _, _⟩) (v := .pointer (some ⟨gg, 0, none⟩)) rfl (by kernel_rfl) (by kernel_rfl) (by kernel_rfl) (fun _ _ _ h => h) (Or.inl ⟨by kernel_rfl, by intro WW hSw; obtain ⟨s0, s1, s2, s3, s4, s5⟩ := hSw; go_simp⟩) (by assumption) ?_
  (try simp only [Act.put, List.setIfInBounds_toArray, List.set_cons_zero, List.set_cons_succ])
  refine wpAnyH_take (i := 3) (oi := ⟨some 166, _, _, _, _, _⟩) (v := .pointer (some ⟨gg, 0, none⟩)) rfl (by kernel_rfl) (by kernel_rfl) (by kernel_rfl) (fun _ _ _ h => h) (Or.inl ⟨by kernel_rfl, by intro WW hSw; obtain ⟨s0, s1, s2, s3, s4, s5⟩ := hSw; go_simp⟩) (by assumption) ?_
  (try simp only [Act.put, List.setIfInBounds_toArray, List.set_cons_zero, List.set_cons_succ])
  refine wpAnyH_take (i := 4) (oi := ⟨some 167, _, _, _, _, _⟩) (v := .pointer (some ⟨gg, 1, none⟩)) rfl (by kernel_rfl) (by kernel_rfl) (by kernel_rfl) (fun _ _ _ h => h) (Or.inl ⟨by kernel_rfl, by intro WW hSw; obtain ⟨s0, s1, s2, s3, s4, s5⟩ := hSw; go_simp⟩) (by assumption) ?_
  (try simp only [Act.put, List.setIfInBounds_toArray, List.set_cons_zero, List.set_cons_succ])
  refine wpAnyH_take (i := 5) (oi := ⟨some 168, _, _, _, _, _⟩) (v := .pointer (some ⟨gs, 0, none⟩)) rfl (by kernel_rfl) (by kernel_rfl) (by kernel_rfl) (fun _ _ _ h => h) (Or.inl ⟨by kernel_rfl, by intro WW hSw; obtain ⟨s0, s1, s2, s3, s4, s5⟩ := hSw; go_simp⟩) (by assumption) ?_
  (try simp only [Act.put, List.setIfInBounds_toArray, List.set_cons_zero, List.set_cons_succ])
  refine wpAnyH_take (i := 6) (oi := ⟨some 169, _, _, _, _, _⟩) (v := .pointer (some ⟨gg, 0, none⟩)) rfl (by kernel_rfl) (by kernel_rfl) (by kernel_rfl) (fun _ _ _ h => h) (Or.inl ⟨by kernel_rfl, by intro WW hSw; obtain ⟨s0, s1, s2, s3, s4, s5⟩ := hSw; go_simp⟩) (by assumption) ?_
  (try simp only [Act.put, List.setIfInBounds_toArray, List.set_cons_zero, List.set_cons_succ])
  refine wpAnyH_take (i := 7) (oi := ⟨some 170, _, _, _, _, _⟩) (v := .pointer (some ⟨gg, 0, none⟩)) rfl (by kernel_rfl) (by kernel_rfl) (by kernel_rfl) (fun _ _ _ h => h) (Or.inl ⟨by kernel_rfl, by intro WW hSw; obtain ⟨s0, s1, s2, s3, s4, s5⟩ := hSw; go_simp⟩) (by assumption) ?_
  (try simp only [Act.put, List.setIfInBounds_toArray, List.set_cons_zero, List.set_cons_succ])
  refine wpAnyH_take (i := 8) (oi := ⟨some 171, _, _, _, _, _⟩) (v := .pointer (some ⟨gg, 2, none⟩)) rfl (by kernel_rfl) (by kernel_rfl) (by kernel_rfl) (fun _ _ _ h => h) (Or.inl ⟨by kernel_rfl, by intro WW hSw; obtain ⟨s0, s1, s2, s3, s4, s5⟩ := hSw; go_simp⟩) (by assumption) ?_
  (try simp only [Act.put, List.setIfInBounds_toArray, List.set_cons_zero, List.set_cons_succ])
  refine wpAnyH_take (i := 9) (oi := ⟨some 172, _, _, _, _, _⟩) (v := .pointer (some ⟨gw, 0, none⟩)) rfl (by kernel_rfl) (by kernel_rfl) (by kernel_rfl) (fun _ _ _ h => h) (Or.inl ⟨by kernel_rfl, by intro WW hSw; obtain ⟨s0, s1, s2, s3, s4, s5⟩ := hSw; go_simp⟩) (by assumption) ?_
  (try simp only [Act.put, List.setIfInBounds_toArray, List.set_cons_zero, List.set_cons_succ])
  refine wpAnyH_one (i := 10) (oi := ⟨_, _, _, _, _, _⟩) rfl (by kernel_rfl) (fun K hK => ?_)
  refine step_calls (by rfl) 11 EGsame6.out [.tmp 168, .tmp 172] _ rfl [.pointer (some ⟨gs, 0, none⟩), .pointer (some ⟨gw, 0, none⟩)] rfl (H.out.same HI.out (by omega)) ?_
  rintro e x1 ⟨rfl, hH⟩
  refine ⟨_, rfl, hK _ _ (hH.sg HA.out) (fun _ => ?_)⟩
  have hHeld := hH.sg HA.out
  clear hK K H
  have H := Lib.hid hH
  clear hH
  (try simp only [Act.put, List.setIfInBounds_toArray, List.set_cons_zero, List.set_cons_succ])
  refine wpAnyH_take (i := 11) (oi := ⟨some 174, _, _, _, _, _⟩) (v := .bool true) rfl (by kernel_rfl) (by kernel_rfl) (by kernel_rfl) (fun _ _ _ h => h) (Or.inl ⟨by kernel_rfl, by intro WW hSw; obtain ⟨s0, s1, s2, s3, s4, s5⟩ := hSw; go_simp⟩) (by assumption) ?_
  (try simp only [Act.put, List.setIfInBounds_toArray, List.set_cons_zero, List.set_cons_succ])
  refine wpAnyH_take (i := 12) (oi := ⟨some 4, _, _, _, _, _⟩) (v := .bool true) rfl (by kernel_rfl) (by kernel_rfl) (by kernel_rfl) (fun _ _ _ h => h) (Or.inl ⟨by kernel_rfl, by intro WW hSw; obtain ⟨s0, s1, s2, s3, s4, s5⟩ := hSw; go_simp⟩) (by assumption) ?_
  (try simp only [Act.put, List.setIfInBounds_toArray, List.set_cons_zero, List.set_cons_succ])
  refine wpAnyH_done (by kernel_rfl) ?_ _
  unfold NoPanic
  clear hHeld
  have HE := Lib.hid (HBK.out _ _ H.out)
  clear H
  go_wp2
  go_ret
  exact ⟨rfl, _, HS.out, HZ.out, HE.out⟩
end Go.Proofs.YtahojhaeebmpoaaGreatDoor
/- The law's game, an act: an eviction. -/
namespace Go.Proofs.YtahojhaeebmpoaaGreatDoor
open Go Go.RowKit Go.Sort
set_option linter.unusedVariables false
set_option maxRecDepth 100000 in
set_option maxHeartbeats 4000000 in
theorem gdo6_6 {w0 w : World} {P0 : Nat → Prop} {B size gg mg gs gw N : Nat} {z : S6} (G : GD w0 P0 B size gg mg gs gw (RQ z) w) (hI : Inv6 N z) (hN : N ≤ 700) (n : Int) (c : Int) (a : Nat) (ha : a < 18446744073709551616) :
    Calls Tryz.prog 18 #[.pointer (some ⟨gg, 0, none⟩), .agg #[.int .i64 6, .int .i64 n, .int .u64 (a : Int), .int .i64 c]] w (Do6P w0 P0 B size gg mg gs gw z (fun _ => True)) := by
  have hL := hI.ll
  obtain ⟨W1, P, hg, hA, hback⟩ := G.start 6 n c a
  have H := Lib.hid hg
  have HA := Lib.hid hA
  have HBK := Lib.hid hback
  have HI0 := Lib.hid hI
  have HOK := Lib.hid G.ok
  have EGEvict := Lib.hid (enters_of Tryz.func56 (by kernel_rfl) rfl)
  have EGsame6 := Lib.hid (enters_of Tryz.func11 (by kernel_rfl) rfl)
  have mixed : Tryz.prog.follows .mixedOrders = true := by kernel_rfl
  clear G hg hA hback hI
  obtain ⟨A, cap, hcell⟩ := GD.clsCell HI0.out.wis H.out.drew
  have hpos := GD.hpos H.out
  have hle := HOK.out.2.1
  have HEV := Lib.hid (show ∀ W, GD W1 P B size gg mg gs gw (RQ z) W → ∀ r, r < z.hs.length → ∀ K : Int, Calls Tryz.prog 56 #[.pointer (some ⟨mg, 0, none⟩), .int .u64 ((1024 * (1 + r) : Nat) : Int), .int .i64 K] W fun e w' => (∃ a b : Int, e = .returned (.tuple #[.int .i64 a, .int .i64 b])) ∧ (∀ u, W.cell? ⟨gw, 1, none⟩ = some u → w'.cell? ⟨gw, 1, none⟩ = some u) ∧ ∃ z', Step6 z z' ∧ GD W1 P B size gg mg gs gw (RQ z') w' from fun W hW r hr K => hW.evict r hr K)
  obtain ⟨m, hm⟩ : ∃ m, m = z.hs.length := ⟨_, rfl⟩
  rw [← hm] at hcell hpos hle HEV
  obtain ⟨r, hr⟩ : ∃ r : Nat, (r : Int) = (a : Int) % (m : Int) := ⟨((a : Int) % (m : Int)).toNat, by have := Int.emod_nonneg (a : Int) (show (m : Int) ≠ 0 by omega); omega⟩
  have hrm : r < m := by have := Int.emod_lt_of_pos (a : Int) (show (0 : Int) < (m : Int) by omega); omega
  have t3 : (a : Int).tmod (m : Int) = (r : Int) := by rw [Int.tmod_eq_emod_of_nonneg (by omega)]; exact hr.symm
  have t1 : IntKind.u64.wrap (m : Int) = (m : Int) := by rw [IntKind.wrap_u64]; omega
  have t4 : IntKind.i64.wrap (r : Int) = (r : Int) := by rw [IntKind.wrap_i64]; omega
  have t5 : IntKind.i64.wrap (1 + (r : Int)) = 1 + (r : Int) := by rw [IntKind.wrap_i64]; omega
  have t6 : IntKind.i64.wrap (1024 * (1 + (r : Int))) = 1024 * (1 + (r : Int)) := by rw [IntKind.wrap_i64]; omega
  have t7 : IntKind.u64.wrap (1024 * (1 + (r : Int))) = ((1024 * (1 + r) : Nat) : Int) := by rw [IntKind.wrap_u64]; omega
  have t9 : ¬ m = 0 := by omega
  have HRM := Lib.hid hrm
  have HCL := Lib.hid hcell
  clear hcell hm hr hL hpos hrm hle
  go_enter Tryz.func18, Tryz.ntmps18
  go_upto_region 25 with (fail)
  refine wp_region_noPanic ?_
  refine wp_region_held_drew (S := fun W => SG6 gg w.heap.size mg gs gw n a c W ∧ W.cell? ⟨gw, 1, none⟩ = some (.slice A m cap)) (by kernel_rfl) ⟨H.out.drew.sg HA.out, HCL.out⟩ (fun hHeld => ?_)
  have H2 := Lib.hid H.out.drew
  clear H
  have H := H2
  clear H2
  refine wpAnyH_take (i := 0) (oi := ⟨some 140, _, _, _, _, _⟩) (v := .pointer (some ⟨gg, 0, none⟩)) rfl (by kernel_rfl) (by kernel_rfl) (by kernel_rfl) (fun _ _ _ h => h) (Or.inl ⟨by kernel_rfl, by intro WW hSw; obtain ⟨⟨s0, s1, s2, s3, s4, s5⟩, s6⟩ := hSw; go_simp⟩) (by assumption) ?_
  (try simp only [Act.put, List.setIfInBounds_toArray, List.set_cons_zero, List.set_cons_succ])
  refine wpAnyH_take (i := 1) (oi := ⟨some 141, _, _, _, _, _⟩) (v := .pointer (some ⟨gg, 0, none⟩)) rfl (by kernel_rfl) (by kernel_rfl) (by kernel_rfl) (fun _ _ _ h => h) (Or.inl ⟨by kernel_rfl, by intro WW hSw; obtain ⟨⟨s0, s1, s2, s3, s4, s5⟩, s6⟩ := hSw; go_simp⟩) (by assumption) ?_
  (try simp only [Act.put, List.setIfInBounds_toArray, List.set_cons_zero, List.set_cons_succ])
  refine wpAnyH_take (i := 2) (oi := ⟨some 142, _, _, _, _, _⟩) (v := .pointer (some ⟨gg, 0, none⟩)) rfl (by kernel_rfl) (by kernel_rfl) (by kernel_rfl) (fun _ _ _ h => h) (Or.inl ⟨by kernel_rfl, by intro WW hSw; obtain ⟨⟨s0, s1, s2, s3, s4, s5⟩, s6⟩ := hSw; go_simp⟩) (by assumption) ?_
  (try simp only [Act.put, List.setIfInBounds_toArray, List.set_cons_zero, List.set_cons_succ])
  refine wpAnyH_take (i := 3) (oi := ⟨some 143, _, _, _, _, _⟩) (v := .pointer (some ⟨mg, 0, none⟩)) rfl (by kernel_rfl) (by kernel_rfl) (by kernel_rfl) (fun _ _ _ h => h) (Or.inl ⟨by kernel_rfl, by intro WW hSw; obtain ⟨⟨s0, s1, s2, s3, s4, s5⟩, s6⟩ := hSw; go_simp⟩) (by assumption) ?_
  (try simp only [Act.put, List.setIfInBounds_toArray, List.set_cons_zero, List.set_cons_succ])
  refine wpAnyH_take (i := 4) (oi := ⟨some 144, _, _, _, _, _⟩) (v := .pointer (some ⟨w.heap.size, 2, none⟩)) rfl (by kernel_rfl) (by kernel_rfl) (by kernel_rfl) (fun _ _ _ h => h) (Or.inl ⟨by kernel_rfl, by intro WW hSw; obtain ⟨⟨s0, s1, s2, s3, s4, s5⟩, s6⟩ := hSw; go_simp⟩) (by assumption) ?_
  (try simp only [Act.put, List.setIfInBounds_toArray, List.set_cons_zero, List.set_cons_succ])
  refine wpAnyH_take (i := 5) (oi := ⟨some 145, _, _, _, _, _⟩) (v := .int .u64 (a : Int)) rfl (by kernel_rfl) (by kernel_rfl) (by kernel_rfl) (fun _ _ _ h => h) (Or.inl ⟨by kernel_rfl, by intro WW hSw; obtain ⟨⟨s0, s1, s2, s3, s4, s5⟩, s6⟩ := hSw; go_simp⟩) (by assumption) ?_
  (try simp only [Act.put, List.setIfInBounds_toArray, List.set_cons_zero, List.set_cons_succ])
  refine wpAnyH_take (i := 6) (oi := ⟨some 146, _, _, _, _, _⟩) (v := .pointer (some ⟨gg, 0, none⟩)) rfl (by kernel_rfl) (by kernel_rfl) (by kernel_rfl) (fun _ _ _ h => h) (Or.inl ⟨by kernel_rfl, by intro WW hSw; obtain ⟨⟨s0, s1, s2, s3, s4, s5⟩, s6⟩ := hSw; go_simp⟩) (by assumption) ?_
  (try simp only [Act.put, List.setIfInBounds_toArray, List.set_cons_zero, List.set_cons_succ])
  refine wpAnyH_take (i := 7) (oi := ⟨some 147, _, _, _, _, _⟩) (v := .pointer (some ⟨gg, 0, none⟩)) rfl (by kernel_rfl) (by kernel_rfl) (by kernel_rfl) (fun _ _ _ h => h) (Or.inl ⟨by kernel_rfl, by intro WW hSw; obtain ⟨⟨s0, s1, s2, s3, s4, s5⟩, s6⟩ := hSw; go_simp⟩) (by assumption) ?_
  (try simp only [Act.put, List.setIfInBounds_toArray, List.set_cons_zero, List.set_cons_succ])
  refine wpAnyH_take (i := 8) (oi := ⟨some 148, _, _, _, _, _⟩) (v := .pointer (some ⟨gg, 2, none⟩)) rfl (by kernel_rfl) (by kernel_rfl) (by kernel_rfl) (fun _ _ _ h => h) (Or.inl ⟨by kernel_rfl, by intro WW hSw; obtain ⟨⟨s0, s1, s2, s3, s4, s5⟩, s6⟩ := hSw; go_simp⟩) (by assumption) ?_
  (try simp only [Act.put, List.setIfInBounds_toArray, List.set_cons_zero, List.set_cons_succ])
  refine wpAnyH_take (i := 9) (oi := ⟨some 149, _, _, _, _, _⟩) (v := .pointer (some ⟨gw, 0, none⟩)) rfl (by kernel_rfl) (by kernel_rfl) (by kernel_rfl) (fun _ _ _ h => h) (Or.inl ⟨by kernel_rfl, by intro WW hSw; obtain ⟨⟨s0, s1, s2, s3, s4, s5⟩, s6⟩ := hSw; go_simp⟩) (by assumption) ?_
  (try simp only [Act.put, List.setIfInBounds_toArray, List.set_cons_zero, List.set_cons_succ])
  refine wpAnyH_take (i := 10) (oi := ⟨some 150, _, _, _, _, _⟩) (v := .pointer (some ⟨gw, 0, none⟩)) rfl (by kernel_rfl) (by kernel_rfl) (by kernel_rfl) (fun _ _ _ h => h) (Or.inl ⟨by kernel_rfl, by intro WW hSw; obtain ⟨⟨s0, s1, s2, s3, s4, s5⟩, s6⟩ := hSw; go_simp⟩) (by assumption) ?_
  (try simp only [Act.put, List.setIfInBounds_toArray, List.set_cons_zero, List.set_cons_succ])
  refine wpAnyH_take (i := 11) (oi := ⟨some 151, _, _, _, _, _⟩) (v := .pointer (some ⟨gw, 1, none⟩)) rfl (by kernel_rfl) (by kernel_rfl) (by kernel_rfl) (fun _ _ _ h => h) (Or.inl ⟨by kernel_rfl, by intro WW hSw; obtain ⟨⟨s0, s1, s2, s3, s4, s5⟩, s6⟩ := hSw; go_simp⟩) (by assumption) ?_
  (try simp only [Act.put, List.setIfInBounds_toArray, List.set_cons_zero, List.set_cons_succ])
  refine wpAnyH_take (i := 12) (oi := ⟨some 152, _, _, _, _, _⟩) (v := .slice A m cap) rfl (by kernel_rfl) (by kernel_rfl) (by kernel_rfl) (fun _ _ _ h => h) (Or.inl ⟨by kernel_rfl, by intro WW hSw; obtain ⟨⟨s0, s1, s2, s3, s4, s5⟩, s6⟩ := hSw; go_simp⟩) (by assumption) ?_
  (try simp only [Act.put, List.setIfInBounds_toArray, List.set_cons_zero, List.set_cons_succ])
  refine wpAnyH_take (i := 13) (oi := ⟨some 153, _, _, _, _, _⟩) (v := .int .i64 (m : Int)) rfl (by kernel_rfl) (by kernel_rfl) (by kernel_rfl) (fun _ _ _ h => h) (Or.inl ⟨by kernel_rfl, by intro WW hSw; obtain ⟨⟨s0, s1, s2, s3, s4, s5⟩, s6⟩ := hSw; go_simp⟩) (by assumption) ?_
  (try simp only [Act.put, List.setIfInBounds_toArray, List.set_cons_zero, List.set_cons_succ])
  refine wpAnyH_take (i := 14) (oi := ⟨some 154, _, _, _, _, _⟩) (v := .int .u64 (m : Int)) rfl (by kernel_rfl) (by kernel_rfl) (by kernel_rfl) (fun _ _ _ h => h) (Or.inl ⟨by kernel_rfl, by intro WW hSw; obtain ⟨⟨s0, s1, s2, s3, s4, s5⟩, s6⟩ := hSw; go_simp⟩) (by assumption) ?_
  (try simp only [Act.put, List.setIfInBounds_toArray, List.set_cons_zero, List.set_cons_succ])
  refine wpAnyH_take (i := 15) (oi := ⟨some 155, _, _, _, _, _⟩) (v := .int .u64 (r : Int)) rfl (by kernel_rfl) (by kernel_rfl) (by kernel_rfl) (fun _ _ _ h => h) (Or.inl ⟨by kernel_rfl, by intro WW hSw; obtain ⟨⟨s0, s1, s2, s3, s4, s5⟩, s6⟩ := hSw; go_simp⟩) (by assumption) ?_
  (try simp only [Act.put, List.setIfInBounds_toArray, List.set_cons_zero, List.set_cons_succ])
  refine wpAnyH_take (i := 16) (oi := ⟨some 156, _, _, _, _, _⟩) (v := .int .i64 (r : Int)) rfl (by kernel_rfl) (by kernel_rfl) (by kernel_rfl) (fun _ _ _ h => h) (Or.inl ⟨by kernel_rfl, by intro WW hSw; obtain ⟨⟨s0, s1, s2, s3, s4, s5⟩, s6⟩ := hSw; go_simp⟩) (by assumption) ?_
  (try simp only [Act.put, List.setIfInBounds_toArray, List.set_cons_zero, List.set_cons_succ])
  refine wpAnyH_take (i := 17) (oi := ⟨some 157, _, _, _, _, _⟩) (v := .int .i64 (1 + (r : Int))) rfl (by kernel_rfl) (by kernel_rfl) (by kernel_rfl) (fun _ _ _ h => h) (Or.inl ⟨by kernel_rfl, by intro WW hSw; obtain ⟨⟨s0, s1, s2, s3, s4, s5⟩, s6⟩ := hSw; go_simp⟩) (by assumption) ?_
  (try simp only [Act.put, List.setIfInBounds_toArray, List.set_cons_zero, List.set_cons_succ])
  refine wpAnyH_take (i := 18) (oi := ⟨some 158, _, _, _, _, _⟩) (v := .int .i64 (1024 * (1 + (r : Int)))) rfl (by kernel_rfl) (by kernel_rfl) (by kernel_rfl) (fun _ _ _ h => h) (Or.inl ⟨by kernel_rfl, by intro WW hSw; obtain ⟨⟨s0, s1, s2, s3, s4, s5⟩, s6⟩ := hSw; go_simp⟩) (by assumption) ?_
  (try simp only [Act.put, List.setIfInBounds_toArray, List.set_cons_zero, List.set_cons_succ])
  refine wpAnyH_take (i := 19) (oi := ⟨some 159, _, _, _, _, _⟩) (v := .int .u64 ((1024 * (1 + r) : Nat) : Int)) rfl (by kernel_rfl) (by kernel_rfl) (by kernel_rfl) (fun _ _ _ h => h) (Or.inl ⟨by kernel_rfl, by intro WW hSw; obtain ⟨⟨s0, s1, s2, s3, s4, s5⟩, s6⟩ := hSw; go_simp⟩) (by assumption) ?_
  (try simp only [Act.put, List.setIfInBounds_toArray, List.set_cons_zero, List.set_cons_succ])
  refine wpAnyH_take (i := 20) (oi := ⟨some 160, _, _, _, _, _⟩) (v := .pointer (some ⟨w.heap.size, 1, none⟩)) rfl (by kernel_rfl) (by kernel_rfl) (by kernel_rfl) (fun _ _ _ h => h) (Or.inl ⟨by kernel_rfl, by intro WW hSw; obtain ⟨⟨s0, s1, s2, s3, s4, s5⟩, s6⟩ := hSw; go_simp⟩) (by assumption) ?_
  (try simp only [Act.put, List.setIfInBounds_toArray, List.set_cons_zero, List.set_cons_succ])
  refine wpAnyH_take (i := 21) (oi := ⟨some 161, _, _, _, _, _⟩) (v := .int .i64 n) rfl (by kernel_rfl) (by kernel_rfl) (by kernel_rfl) (fun _ _ _ h => h) (Or.inl ⟨by kernel_rfl, by intro WW hSw; obtain ⟨⟨s0, s1, s2, s3, s4, s5⟩, s6⟩ := hSw; go_simp⟩) (by assumption) ?_
  (try simp only [Act.put, List.setIfInBounds_toArray, List.set_cons_zero, List.set_cons_succ])
  refine wpAnyH_one (i := 22) (oi := ⟨_, _, _, _, _, _⟩) rfl (by kernel_rfl) (fun K hK => ?_)
  refine step_calls (by rfl) 56 EGEvict.out [.tmp 143, .tmp 159, .tmp 161] _ rfl [.pointer (some ⟨mg, 0, none⟩), .int .u64 ((1024 * (1 + r) : Nat) : Int), .int .i64 n] rfl (HEV.out _ H.out r HRM.out n) ?_
  rintro e x1 ⟨⟨r1, r2, rfl⟩, hkeep, z1, hst, hH⟩
  refine ⟨_, rfl, hK _ _ ⟨hH.sg HA.out, hkeep _ hHeld.2⟩ (fun _ => ?_)⟩
  clear hK K H hHeld hkeep
  have H := Lib.hid hH
  have HS := Lib.hid hst
  have HI := Lib.hid (HI0.out.step HOK.out.1 HOK.out.2.1 hst)
  clear hH hst
  (try simp only [Act.put, List.setIfInBounds_toArray, List.set_cons_zero, List.set_cons_succ])
  refine wpAnyH_done (by kernel_rfl) ?_ _
  unfold NoPanic
  go_wp2
  go_upto_region 26 with (fail)
  refine wp_region_noPanic ?_
  refine wp_region_held_drew (S := SG6 gg w.heap.size mg gs gw n a c) (by kernel_rfl) (H.out.drew.sg HA.out) (fun hHeld => ?_)
  have H2 := Lib.hid H.out.drew
  clear H
  have H := H2
  clear H2
  refine wpAnyH_take (i := 0) (oi := ⟨some 163, _, _, _, _, _⟩) (v := .bool true) rfl (by kernel_rfl) (by kernel_rfl) (by kernel_rfl) (fun _ _ _ h => h) (Or.inl ⟨by kernel_rfl, by intro WW hSw; obtain ⟨s0, s1, s2, s3, s4, s5⟩ := hSw; go_simp⟩) (by assumption) ?_
  (try simp only [Act.put, List.setIfInBounds_toArray, List.set_cons_zero, List.set_cons_succ])
  refine wpAnyH_take (i := 1) (oi := ⟨some 164, _, _, _, _, _⟩) (v := .bool true) rfl (by kernel_rfl) (by kernel_rfl) (by kernel_rfl) (fun _ _ _ h => h) (Or.inl ⟨by kernel_rfl, by intro WW hSw; obtain ⟨s0, s1, s2, s3, s4, s5⟩ := hSw; go_simp⟩) (by assumption) ?_
  (try simp only [Act.put, List.setIfInBounds_toArray, List.set_cons_zero, List.set_cons_succ])
  refine wpAnyH_take (i := 2) (oi := ⟨some 165, _, _, _, _, _⟩) (v := .pointer (some ⟨gg, 0, none⟩)) rfl (by kernel_rfl) (by kernel_rfl) (by kernel_rfl) (fun _ _ _ h => h) (Or.inl ⟨by kernel_rfl, by intro WW hSw; obtain ⟨s0, s1, s2, s3, s4, s5⟩ := hSw; go_simp⟩) (by assumption) ?_
  (try simp only [Act.put, List.setIfInBounds_toArray, List.set_cons_zero, List.set_cons_succ])
  refine wpAnyH_take (i := 3) (oi := ⟨some 166, _, _, _, _, _⟩) (v := .pointer (some ⟨gg, 0, none⟩)) rfl (by kernel_rfl) (by kernel_rfl) (by kernel_rfl) (fun _ _ _ h => h) (Or.inl ⟨by kernel_rfl, by intro WW hSw; obtain ⟨s0, s1, s2, s3, s4, s5⟩ := hSw; go_simp⟩) (by assumption) ?_
  (try simp only [Act.put, List.setIfInBounds_toArray, List.set_cons_zero, List.set_cons_succ])
  refine wpAnyH_take (i := 4) (oi := ⟨some 167, _, _, _, _, _⟩) (v := .pointer (some ⟨gg, 1, none⟩)) rfl (by kernel_rfl) (by kernel_rfl) (by kernel_rfl) (fun _ _ _ h => h) (Or.inl ⟨by kernel_rfl, by intro WW hSw; obtain ⟨s0, s1, s2, s3, s4, s5⟩ := hSw; go_simp⟩) (by assumption) ?_
  (try simp only [Act.put, List.setIfInBounds_toArray, List.set_cons_zero, List.set_cons_succ])
  refine wpAnyH_take (i := 5) (oi := ⟨some 168, _, _, _, _, _⟩) (v := .pointer (some ⟨gs, 0, none⟩)) rfl (by kernel_rfl) (by kernel_rfl) (by kernel_rfl) (fun _ _ _ h => h) (Or.inl ⟨by kernel_rfl, by intro WW hSw; obtain ⟨s0, s1, s2, s3, s4, s5⟩ := hSw; go_simp⟩) (by assumption) ?_
  (try simp only [Act.put, List.setIfInBounds_toArray, List.set_cons_zero, List.set_cons_succ])
  refine wpAnyH_take (i := 6) (oi := ⟨some 169, _, _, _, _, _⟩) (v := .pointer (some ⟨gg, 0, none⟩)) rfl (by kernel_rfl) (by kernel_rfl) (by kernel_rfl) (fun _ _ _ h => h) (Or.inl ⟨by kernel_rfl, by intro WW hSw; obtain ⟨s0, s1, s2, s3, s4, s5⟩ := hSw; go_simp⟩) (by assumption) ?_
  (try simp only [Act.put, List.setIfInBounds_toArray, List.set_cons_zero, List.set_cons_succ])
  refine wpAnyH_take (i := 7) (oi := ⟨some 170, _, _, _, _, _⟩) (v := .pointer (some ⟨gg, 0, none⟩)) rfl (by kernel_rfl) (by kernel_rfl) (by kernel_rfl) (fun _ _ _ h => h) (Or.inl ⟨by kernel_rfl, by intro WW hSw; obtain ⟨s0, s1, s2, s3, s4, s5⟩ := hSw; go_simp⟩) (by assumption) ?_
  (try simp only [Act.put, List.setIfInBounds_toArray, List.set_cons_zero, List.set_cons_succ])
  refine wpAnyH_take (i := 8) (oi := ⟨some 171, _, _, _, _, _⟩) (v := .pointer (some ⟨gg, 2, none⟩)) rfl (by kernel_rfl) (by kernel_rfl) (by kernel_rfl) (fun _ _ _ h => h) (Or.inl ⟨by kernel_rfl, by intro WW hSw; obtain ⟨s0, s1, s2, s3, s4, s5⟩ := hSw; go_simp⟩) (by assumption) ?_
  (try simp only [Act.put, List.setIfInBounds_toArray, List.set_cons_zero, List.set_cons_succ])
  refine wpAnyH_take (i := 9) (oi := ⟨some 172, _, _, _, _, _⟩) (v := .pointer (some ⟨gw, 0, none⟩)) rfl (by kernel_rfl) (by kernel_rfl) (by kernel_rfl) (fun _ _ _ h => h) (Or.inl ⟨by kernel_rfl, by intro WW hSw; obtain ⟨s0, s1, s2, s3, s4, s5⟩ := hSw; go_simp⟩) (by assumption) ?_
  (try simp only [Act.put, List.setIfInBounds_toArray, List.set_cons_zero, List.set_cons_succ])
  refine wpAnyH_one (i := 10) (oi := ⟨_, _, _, _, _, _⟩) rfl (by kernel_rfl) (fun K hK => ?_)
  refine step_calls (by rfl) 11 EGsame6.out [.tmp 168, .tmp 172] _ rfl [.pointer (some ⟨gs, 0, none⟩), .pointer (some ⟨gw, 0, none⟩)] rfl (H.out.same HI.out (by omega)) ?_
  rintro e x1 ⟨rfl, hH⟩
  refine ⟨_, rfl, hK _ _ (hH.sg HA.out) (fun _ => ?_)⟩
  have hHeld := hH.sg HA.out
  clear hK K H
  have H := Lib.hid hH
  clear hH
  (try simp only [Act.put, List.setIfInBounds_toArray, List.set_cons_zero, List.set_cons_succ])
  refine wpAnyH_take (i := 11) (oi := ⟨some 174, _, _, _, _, _⟩) (v := .bool true) rfl (by kernel_rfl) (by kernel_rfl) (by kernel_rfl) (fun _ _ _ h => h) (Or.inl ⟨by kernel_rfl, by intro WW hSw; obtain ⟨s0, s1, s2, s3, s4, s5⟩ := hSw; go_simp⟩) (by assumption) ?_
  (try simp only [Act.put, List.setIfInBounds_toArray, List.set_cons_zero, List.set_cons_succ])
  refine wpAnyH_take (i := 12) (oi := ⟨some 4, _, _, _, _, _⟩) (v := .bool true) rfl (by kernel_rfl) (by kernel_rfl) (by kernel_rfl) (fun _ _ _ h => h) (Or.inl ⟨by kernel_rfl, by intro WW hSw; obtain ⟨s0, s1, s2, s3, s4, s5⟩ := hSw; go_simp⟩) (by assumption) ?_
  (try simp only [Act.put, List.setIfInBounds_toArray, List.set_cons_zero, List.set_cons_succ])
  refine wpAnyH_done (by kernel_rfl) ?_ _
  unfold NoPanic
  clear hHeld
  have HE := Lib.hid (HBK.out _ _ H.out)
  clear H
  go_wp2
  go_ret
  exact ⟨rfl, _, HS.out, trivial, HE.out⟩
end Go.Proofs.YtahojhaeebmpoaaGreatDoor
/- The law's game, an act: one of no kind. -/
namespace Go.Proofs.YtahojhaeebmpoaaGreatDoor
open Go Go.RowKit Go.Sort
set_option linter.unusedVariables false
set_option maxRecDepth 100000 in
set_option maxHeartbeats 4000000 in
theorem gdo6_8 {w0 w : World} {P0 : Nat → Prop} {B size gg mg gs gw N : Nat} {z : S6} (G : GD w0 P0 B size gg mg gs gw (RQ z) w) (hI : Inv6 N z) (hN : N ≤ 700) (k : Int) (hk : k ≠ 1 ∧ k ≠ 2 ∧ k ≠ 3 ∧ k ≠ 4 ∧ k ≠ 5 ∧ k ≠ 6) (n : Int) (c : Int) (a : Nat) :
    Calls Tryz.prog 18 #[.pointer (some ⟨gg, 0, none⟩), .agg #[.int .i64 k, .int .i64 n, .int .u64 (a : Int), .int .i64 c]] w (Do6P w0 P0 B size gg mg gs gw z (fun z' => z' = z)) := by
  have hL := hI.ll
  obtain ⟨W1, P, hg, hA, hback⟩ := G.start k n c a
  have H := Lib.hid hg
  have HA := Lib.hid hA
  have HBK := Lib.hid hback
  have HI0 := Lib.hid hI
  have HOK := Lib.hid G.ok
  have EGsame6 := Lib.hid (enters_of Tryz.func11 (by kernel_rfl) rfl)
  have mixed : Tryz.prog.follows .mixedOrders = true := by kernel_rfl
  clear G hg hA hback hI
  obtain ⟨k1, k2, k3, k4, k5, k6⟩ := hk
  have d1 : (k == 1) = false := by simpa using k1
  have d2 : (k == 2) = false := by simpa using k2
  have d3 : (k == 3) = false := by simpa using k3
  have d4 : (k == 4) = false := by simpa using k4
  have d5 : (k == 5) = false := by simpa using k5
  have d6 : (k == 6) = false := by simpa using k6
  clear k1 k2 k3 k4 k5 k6
  have HI := Lib.hid (HI0.out.step HOK.out.1 HOK.out.2.1 (.stay z))
  have HS := Lib.hid (Step6.stay z)
  clear hL
  go_enter Tryz.func18, Tryz.ntmps18
  go_upto_region 26 with (fail)
  refine wp_region_noPanic ?_
  refine wp_region_held_drew (S := SG6 gg w.heap.size mg gs gw n a c) (by kernel_rfl) (H.out.drew.sg HA.out) (fun hHeld => ?_)
  have H2 := Lib.hid H.out.drew
  clear H
  have H := H2
  clear H2
  refine wpAnyH_take (i := 0) (oi := ⟨some 163, _, _, _, _, _⟩) (v := .bool true) rfl (by kernel_rfl) (by kernel_rfl) (by kernel_rfl) (fun _ _ _ h => h) (Or.inl ⟨by kernel_rfl, by intro WW hSw; obtain ⟨s0, s1, s2, s3, s4, s5⟩ := hSw; go_simp⟩) (by assumption) ?_
  (try simp only [Act.put, List.setIfInBounds_toArray, List.set_cons_zero, List.set_cons_succ])
  refine wpAnyH_take (i := 1) (oi := ⟨some 164, _, _, _, _, _⟩) (v := .bool true) rfl (by kernel_rfl) (by kernel_rfl) (by kernel_rfl) (fun _ _ _ h => h) (Or.inl ⟨by kernel_rfl, by intro WW hSw; obtain ⟨s0, s1, s2, s3, s4, s5⟩ := hSw; go_simp⟩) (by assumption) ?_
  (try simp only [Act.put, List.setIfInBounds_toArray, List.set_cons_zero, List.set_cons_succ])
  refine wpAnyH_take (i := 2) (oi := ⟨some 165, _, _, _, _, _⟩) (v := .pointer (some ⟨gg, 0, none⟩)) rfl (by kernel_rfl) (by kernel_rfl) (by kernel_rfl) (fun _ _ _ h => h) (Or.inl ⟨by kernel_rfl, by intro WW hSw; obtain ⟨s0, s1, s2, s3, s4, s5⟩ := hSw; go_simp⟩) (by assumption) ?_
  (try simp only [Act.put, List.setIfInBounds_toArray, List.set_cons_zero, List.set_cons_succ])
  refine wpAnyH_take (i := 3) (oi := ⟨some 166, _, _, _, _, _⟩) (v := .pointer (some ⟨gg, 0, none⟩)) rfl (by kernel_rfl) (by kernel_rfl) (by kernel_rfl) (fun _ _ _ h => h) (Or.inl ⟨by kernel_rfl, by intro WW hSw; obtain ⟨s0, s1, s2, s3, s4, s5⟩ := hSw; go_simp⟩) (by assumption) ?_
  (try simp only [Act.put, List.setIfInBounds_toArray, List.set_cons_zero, List.set_cons_succ])
  refine wpAnyH_take (i := 4) (oi := ⟨some 167, _, _, _, _, _⟩) (v := .pointer (some ⟨gg, 1, none⟩)) rfl (by kernel_rfl) (by kernel_rfl) (by kernel_rfl) (fun _ _ _ h => h) (Or.inl ⟨by kernel_rfl, by intro WW hSw; obtain ⟨s0, s1, s2, s3, s4, s5⟩ := hSw; go_simp⟩) (by assumption) ?_
  (try simp only [Act.put, List.setIfInBounds_toArray, List.set_cons_zero, List.set_cons_succ])
  refine wpAnyH_take (i := 5) (oi := ⟨some 168, _, _, _, _, _⟩) (v := .pointer (some ⟨gs, 0, none⟩)) rfl (by kernel_rfl) (by kernel_rfl) (by kernel_rfl) (fun _ _ _ h => h) (Or.inl ⟨by kernel_rfl, by intro WW hSw; obtain ⟨s0, s1, s2, s3, s4, s5⟩ := hSw; go_simp⟩) (by assumption) ?_
  (try simp only [Act.put, List.setIfInBounds_toArray, List.set_cons_zero, List.set_cons_succ])
  refine wpAnyH_take (i := 6) (oi := ⟨some 169, _, _, _, _, _⟩) (v := .pointer (some ⟨gg, 0, none⟩)) rfl (by kernel_rfl) (by kernel_rfl) (by kernel_rfl) (fun _ _ _ h => h) (Or.inl ⟨by kernel_rfl, by intro WW hSw; obtain ⟨s0, s1, s2, s3, s4, s5⟩ := hSw; go_simp⟩) (by assumption) ?_
  (try simp only [Act.put, List.setIfInBounds_toArray, List.set_cons_zero, List.set_cons_succ])
  refine wpAnyH_take (i := 7) (oi := ⟨some 170, _, _, _, _, _⟩) (v := .pointer (some ⟨gg, 0, none⟩)) rfl (by kernel_rfl) (by kernel_rfl) (by kernel_rfl) (fun _ _ _ h => h) (Or.inl ⟨by kernel_rfl, by intro WW hSw; obtain ⟨s0, s1, s2, s3, s4, s5⟩ := hSw; go_simp⟩) (by assumption) ?_
  (try simp only [Act.put, List.setIfInBounds_toArray, List.set_cons_zero, List.set_cons_succ])
  refine wpAnyH_take (i := 8) (oi := ⟨some 171, _, _, _, _, _⟩) (v := .pointer (some ⟨gg, 2, none⟩)) rfl (by kernel_rfl) (by kernel_rfl) (by kernel_rfl) (fun _ _ _ h => h) (Or.inl ⟨by kernel_rfl, by intro WW hSw; obtain ⟨s0, s1, s2, s3, s4, s5⟩ := hSw; go_simp⟩) (by assumption) ?_
  (try simp only [Act.put, List.setIfInBounds_toArray, List.set_cons_zero, List.set_cons_succ])
  refine wpAnyH_take (i := 9) (oi := ⟨some 172, _, _, _, _, _⟩) (v := .pointer (some ⟨gw, 0, none⟩)) rfl (by kernel_rfl) (by kernel_rfl) (by kernel_rfl) (fun _ _ _ h => h) (Or.inl ⟨by kernel_rfl, by intro WW hSw; obtain ⟨s0, s1, s2, s3, s4, s5⟩ := hSw; go_simp⟩) (by assumption) ?_
  (try simp only [Act.put, List.setIfInBounds_toArray, List.set_cons_zero, List.set_cons_succ])
  refine wpAnyH_one (i := 10) (oi := ⟨_, _, _, _, _, _⟩) rfl (by kernel_rfl) (fun K hK => ?_)
  refine step_calls (by rfl) 11 EGsame6.out [.tmp 168, .tmp 172] _ rfl [.pointer (some ⟨gs, 0, none⟩), .pointer (some ⟨gw, 0, none⟩)] rfl (H.out.same HI.out (by omega)) ?_
  rintro e x1 ⟨rfl, hH⟩
  refine ⟨_, rfl, hK _ _ (hH.sg HA.out) (fun _ => ?_)⟩
  have hHeld := hH.sg HA.out
  clear hK K H
  have H := Lib.hid hH
  clear hH
  (try simp only [Act.put, List.setIfInBounds_toArray, List.set_cons_zero, List.set_cons_succ])
  refine wpAnyH_take (i := 11) (oi := ⟨some 174, _, _, _, _, _⟩) (v := .bool true) rfl (by kernel_rfl) (by kernel_rfl) (by kernel_rfl) (fun _ _ _ h => h) (Or.inl ⟨by kernel_rfl, by intro WW hSw; obtain ⟨s0, s1, s2, s3, s4, s5⟩ := hSw; go_simp⟩) (by assumption) ?_
  (try simp only [Act.put, List.setIfInBounds_toArray, List.set_cons_zero, List.set_cons_succ])
  refine wpAnyH_take (i := 12) (oi := ⟨some 4, _, _, _, _, _⟩) (v := .bool true) rfl (by kernel_rfl) (by kernel_rfl) (by kernel_rfl) (fun _ _ _ h => h) (Or.inl ⟨by kernel_rfl, by intro WW hSw; obtain ⟨s0, s1, s2, s3, s4, s5⟩ := hSw; go_simp⟩) (by assumption) ?_
  (try simp only [Act.put, List.setIfInBounds_toArray, List.set_cons_zero, List.set_cons_succ])
  refine wpAnyH_done (by kernel_rfl) ?_ _
  unfold NoPanic
  clear hHeld
  have HE := Lib.hid (HBK.out _ _ H.out)
  clear H
  go_wp2
  go_ret
  exact ⟨rfl, _, HS.out, rfl, HE.out⟩
end Go.Proofs.YtahojhaeebmpoaaGreatDoor
/- The law's game, any act. -/
namespace Go.Proofs.YtahojhaeebmpoaaGreatDoor
open Go Go.RowKit Go.Sort
set_option linter.unusedVariables false
theorem Do6P.any {w0 : World} {P0 : Nat → Prop} {B size gg mg gs gw : Nat} {z : S6} {R : S6 → Prop} {e : Ending} {w' : World} (h : Do6P w0 P0 B size gg mg gs gw z R e w') : Do6P w0 P0 B size gg mg gs gw z (fun _ => True) e w' := by
  obtain ⟨he, z', h1, _, h2⟩ := h
  exact ⟨he, z', h1, trivial, h2⟩
theorem isAt_found {hs : List Hd} {a v : Nat} (h : isAt hs a v) (hv : v ≠ 0) : ∃ (i j : Nat) (x : Hd), hs[i]? = some x ∧ x.bl[j]? = some v ∧ adr x.no x.cls j = a := by
  rcases h with ⟨i, j, x, hx, _, ha, hb⟩ | ⟨_, h0⟩
  · exact ⟨i, j, x, hx, hb, ha⟩
  · exact absurd h0 hv
theorem gdo6_any {w0 w : World} {P0 : Nat → Prop} {B size gg mg gs gw N : Nat} {z : S6} (G : GD w0 P0 B size gg mg gs gw (RQ z) w) (hI : Inv6 N z) (hN : N ≤ 700) (k n c : Int) (a : Nat) (ha : a < 18446744073709551616) :
    Calls Tryz.prog 18 #[.pointer (some ⟨gg, 0, none⟩), .agg #[.int .i64 k, .int .i64 n, .int .u64 (a : Int), .int .i64 c]] w (Do6P w0 P0 B size gg mg gs gw z (fun _ => True)) := by
  obtain ⟨b, hb⟩ : ∃ b, blkOf z.L n a = b := ⟨_, rfl⟩
  obtain ⟨v, hv⟩ := isAt_some z.hs b
  by_cases h1 : k = 1
  · subst h1; exact (gdo6_1 G hI hN n c a).mono fun e w' h => h.any
  by_cases h2 : k = 2
  · subst h2; exact (gdo6_2 G hI hN n c a b hb).mono fun e w' h => h.any
  by_cases h3 : k = 3
  · subst h3
    by_cases hc : 0 ≤ c ∧ c ≤ 64
    · by_cases hv1 : v = 1
      · obtain ⟨i, j, x, hx, hj, had⟩ := isAt_found hv (by omega)
        rw [hv1] at hj
        obtain ⟨cl, rfl⟩ : ∃ cl : Nat, c = (cl : Int) := ⟨c.toNat, by omega⟩
        exact (gdo6_3_o G hI hN n cl a b hb (by omega) hx hj had).mono fun e w' h => h.any
      · exact (gdo6_3_s G hI hN n c a b hb hc hv hv1).mono fun e w' h => h.any
    · exact (gdo6_3_a G hI hN n c a b hb hc).mono fun e w' h => h.any
  by_cases h4 : k = 4
  · subst h4
    by_cases hc : 0 ≤ c ∧ c ≤ 64
    · by_cases hv1 : v = 2
      · obtain ⟨i, j, x, hx, hj, had⟩ := isAt_found hv (by omega)
        rw [hv1] at hj
        obtain ⟨cl, rfl⟩ : ∃ cl : Nat, c = (cl : Int) := ⟨c.toNat, by omega⟩
        exact (gdo6_4_o G hI hN n cl a b hb (by omega) hx hj had).mono fun e w' h => h.any
      · exact (gdo6_4_s G hI hN n c a b hb hc hv hv1).mono fun e w' h => h.any
    · exact (gdo6_4_a G hI hN n c a b hb hc).mono fun e w' h => h.any
  by_cases h5 : k = 5
  · subst h5; exact (gdo6_5 G hI hN n c a).mono fun e w' h => h.any
  by_cases h6 : k = 6
  · subst h6; exact (gdo6_6 G hI hN n c a ha).mono fun e w' h => h.any
  exact (gdo6_8 G hI hN k ⟨h1, h2, h3, h4, h5, h6⟩ n c a).mono fun e w' h => h.any
end Go.Proofs.YtahojhaeebmpoaaGreatDoor
/- The law's game begins: of an image that may be. -/
namespace Go.Proofs.YtahojhaeebmpoaaGreatDoor
open Go Go.RowKit Go.Sort
set_option linter.unusedVariables false
/-- What the game holds at first. -/
def ini6 (l : List Nat) (n : Nat) : S6 := ⟨St.ofBytes (16 * (n + 1)) l, hsK (hcW l) (hbW l) n n, clsK l n, LK l n, []⟩
theorem ini6_inv {l : List Nat} {n : Nat} (hb : ∀ x ∈ l, x < 256) (hn : n ≤ 4) (ok : okHeads l n) : Inv6 0 (ini6 l n) := by
  refine ⟨ini_is hb (by omega) ok, fun x hx => ?_, (fun t ht => by cases ht), List.Pairwise.nil, Nat.le_refl _, fun q hq => ?_, by have := LK_len l n; show (LK l n).length ≤ _; omega, Nat.le_refl _⟩
  · obtain ⟨q, hq⟩ := List.mem_iff_getElem?.1 hx
    have hq : (hsK (hcW l) (hbW l) n n)[q]? = some x := hq
    have hqn : q < n := by have := (List.getElem?_eq_some_iff.1 hq).1; rwa [hsK_len] at this
    rw [hsK_get hqn, if_pos hqn] at hq
    cases hq
    exact hbW_fit hb q
  · have hq : q ∈ List.replicate (16 * (n + 1)) ([] : List (Nat × Nat)) := hq
    rw [List.eq_of_mem_replicate hq]
    exact Nat.le_refl _
theorem W6At.less {w : World} {B C gw size : Nat} {cls : List Nat} {L : List (Nat × Nat)} {vc vl : Value} (h : W6At w C gw size cls L vc vl) (hB : B ≤ C) : W6At w B gw size cls L vc vl :=
  ⟨h.row, own_less h.cls hB, own_less h.bl hB, Nat.le_trans hB h.low⟩
set_option maxRecDepth 100000 in
set_option maxHeartbeats 1600000 in
theorem begin6_any {w : World} {gi cap n : Nat} {l : List Nat} (hl : l.length = 1024 * (n + 1)) (hr : Row w gi 5 (l.map bv).toArray) (hb : ∀ x ∈ l, x < 256) (h0 : 0 < n) (h4 : n ≤ 4) (R : Rms w) (hok : okHeads l n) :
    Calls Tryz.prog 17 #[.slice (some ⟨gi, 0, none⟩) (1024 * (n + 1)) cap] w fun e w' => ∃ gg mg gs gw, e = .returned (.pointer (some ⟨gg, 0, none⟩)) ∧ GD w (fun _ => False) w.heap.size l.length gg mg gs gw (RQ (ini6 l n)) w' := by
  have hrm : 0 < w.heap.size := by
    obtain ⟨tt, hR⟩ := R
    exact heap_lt hR
  have HM := pOf_yes (w := w) (A := some ⟨gi, 0, none⟩) (cap := cap) (nl := 16 * (n + 1)) (l := l) (by omega) (row_sl hr) hb (by omega) (by omega)
  rw [show 64 * (16 * (n + 1)) = 1024 * (n + 1) from by omega] at HM
  have HM := Lib.hid HM
  have HO := Lib.hid fun (W : World) (hW : Below w.heap.size w W) => slabOf_yes (w := W) (A := some ⟨gi, 0, none⟩) (cap := cap) (n := n) hl (row_sl (hr.below hW hr.lt)) hb h0 (by omega) (R.below hW)
  have HR6 := Lib.hid fun (W : World) (hW : Below w.heap.size w W) => r6Of_yes (w := W) (a := ⟨gi, 0, none⟩) (cap := cap) (n := n) hl (row_sl (hr.below hW hr.lt)) hb h0 (by omega)
  have HFIN := Lib.hid (show ∀ (w1 w2 w3 : World) (ym : Lay) (y : SLay) (gw : Nat) (vc vl : Value), MemAt w1 ym (St.ofBytes (16 * (n + 1)) l) → (∀ k, ym.fp k → w.heap.size ≤ k) → Below w.heap.size w w1 →
      SlabMem w2 y (hsK (hcW l) (hbW l) n n) (fsK (hcW l) (hbW l) n) → (∀ k, y.fp k → w1.heap.size ≤ k) → Below w1.heap.size w1 w2 → W6At w3 w2.heap.size gw l.length (clsK l n) (LK l n) vc vl → Below w2.heap.size w2 w3 →
      GD w (fun _ => False) w.heap.size l.length w3.heap.size ym.g y.gs gw (RQ (ini6 l n)) (w3.alloc (.cells #[fpt ym.g, fpt y.gs, fpt gw, .slice none 0 0] 51)) from by
    intro w1 w2 w3 ym y gw vc vl hm hmf hb1 hs hsf hb2 hw hb3
    have hal := alloc_below w3 (.cells #[fpt ym.g, fpt y.gs, fpt gw, .slice none 0 0] 51)
    have hB3 : Below w.heap.size w w3 := Below.and (Below.and hb1 hb2) hb3
    have hm3 := (hm.below hb2).below hb3
    have hs3 := hs.below hb3
    have hls : (hsK (hcW l) (hbW l) n n).length = n := hsK_len _ _ _ _
    refine ⟨⟨ym, y, w3.heap.size, gw, .slice none 0 0, vc, vl⟩, ini6 l n, 0, [], {
      row := Row.new _ _ _
      gm := ⟨_, ⟨hm3.below hal, ofBytes_Ok hb, hs3.below hal, hsK_ok _ _ _, fsK_ok _ _ _, ⟨R.below (Below.and hB3 hal), fun h => ?_⟩, fun h => ?_, ?_⟩⟩
      w6 := (hw.less (Nat.le_trans hb1.size hb2.size)).below hal
      tn := World.ownsRow_nil _ _ _ _
      ta := fun t ht => by cases ht
      gts := List.nodup_nil
      vcn := fun k hk h => ?_
      rb := hrm
      but := But.of_below (Below.and hB3 hal) _
      fp := fun k hk => ?_
      pb := fun k h => h.elim
      wb := Nat.le_refl _ }, rfl, rfl, rfl, rfl, rfl, rfl, rfl⟩
    · have := hsf _ h; have := hb1.size; omega
    · have := hmf _ h; omega
    · show 64 * (16 * (n + 1)) = 1024 * ((hsK (hcW l) (hbW l) n n).length + 1)
      rw [hls]; omega
    · have h1 : w2.heap.size ≤ k := own_base hw.cls hk
      have h2 := hs.lt h
      omega
    · right
      have hz := hB3.size
      rcases hk with h | h | h | h | h | h | ⟨t, ht, _⟩
      · exact hmf k h
      · have := hsf k h; have := hb1.size; omega
      · rw [h]; exact hz
      · rw [h]; have := hw.low; have := hb1.size; have := hb2.size; show w.heap.size ≤ gw; omega
      · cases h
      · have h1 : w2.heap.size ≤ k := own_base hw.cls h
        have := hb1.size; have := hb2.size; omega
      · cases ht)
  obtain ⟨Z, hZ⟩ : ∃ Z, Z = 1024 * (n + 1) := ⟨_, rfl⟩
  rw [← hZ] at HM HO HR6 ⊢
  have HOK := Lib.hid hok
  clear hl hr hb h0 h4 R hok hrm hZ
  go_enter Tryz.func17, Tryz.ntmps17
  go_wp2_with fail
  refine HM.out.mono ?_
  rintro e w1 ⟨ym, rfl, hm, hmf, hb1⟩
  have HO1 := Lib.hid (HO.out w1 hb1)
  have HF1 := Lib.hid (fun w2 w3 y gw vc vl => HFIN.out w1 w2 w3 ym y gw vc vl hm hmf hb1)
  have HB1 := Lib.hid hb1
  obtain ⟨mg, hmg⟩ : ∃ g, g = ym.g := ⟨_, rfl⟩
  rw [← hmg] at HF1 ⊢
  clear hm hmf hb1 HM HO HFIN hmg
  go_wp2_with fail
  refine HO1.out.mono ?_
  rintro e w2 (⟨_, y, rfl, hs, hsf, hb2⟩ | ⟨hno, _⟩)
  · have HR := Lib.hid (HR6.out w2 (Below.and HB1.out hb2))
    have HF2 := Lib.hid (fun w3 gw vc vl => HF1.out w2 w3 y gw vc vl hs hsf hb2)
    obtain ⟨gs, hgs⟩ : ∃ g, g = y.gs := ⟨_, rfl⟩
    rw [← hgs] at HF2
    unfold fpt at HF2 ⊢
    rw [← hgs]
    clear hs hsf hb2 HO1 HR6 HF1 hgs
    go_wp2_with fail
    refine HR.out.mono ?_
    rintro e w3 (⟨_, gw, vc, vl, rfl, hw, hb3⟩ | ⟨hno, _⟩)
    · have HE := Lib.hid (HF2.out w3 gw vc vl hw hb3)
      clear hw hb3 HF2 HR
      unfold fpt
      go_wp2
      go_ret
      exact ⟨_, _, _, _, rfl, HE.out⟩
    · exact absurd HOK.out hno
  · exact absurd HOK.out hno
end Go.Proofs.YtahojhaeebmpoaaGreatDoor
