/- Texts of this claim, packed: 6Do3a, 6Sj, 6Do5, 6Do8, 6Dj, 6Beg, 6La, 6Lb, 6Lc. -/
import Derived.Test.YtahojhaeebmpoaaGreatDoorPlQ
import Derived.Test.YtahojhaeebmpoaaGreatDoorPl38
import Derived.Test.YtahojhaeebmpoaaGreatDoorPl40
import Derived.Test.YtahojhaeebmpoaaGreatDoorPl39
import Derived.Test.YtahojhaeebmpoaaGreatDoorPl25
import Derived.Test.YtahojhaeebmpoaaGreatDoorPl27
import Derived.Test.YtahojhaeebmpoaaGreatDoorPl34
import Derived.Test.YtahojhaeebmpoaaGreatDoorPl23
import Derived.Deep.QuietTactic
import Derived.Deep.DeepCutAuto
import Derived.Deep.CutBlock
/- The law's game, an act: Publish. -/
namespace Go.Proofs.YtahojhaeebmpoaaGreatDoor
open Go Go.RowKit Go.Sort
set_option linter.unusedVariables false
set_option maxRecDepth 100000 in
set_option maxHeartbeats 4000000 in
theorem gdo6_3_a {w0 w : World} {P0 : Nat → Prop} {B size gg mg gs gw N : Nat} {z : S6} (G : GD w0 P0 B size gg mg gs gw (RQ z) w) (hI : Inv6 N z) (hN : N ≤ 700) (n : Int) (c : Int) (a : Nat) (b : Nat) (hb : blkOf z.L n a = b) (hc : ¬ (0 ≤ c ∧ c ≤ 64)) :
    Calls Tryz.prog 18 #[.pointer (some ⟨gg, 0, none⟩), .agg #[.int .i64 3, .int .i64 n, .int .u64 (a : Int), .int .i64 c]] w (Do6P w0 P0 B size gg mg gs gw z (fun z' => z' = z)) := by
  have hL := hI.ll
  obtain ⟨W1, P, hg, hA, hback⟩ := G.start 3 n c a
  have H := Lib.hid hg
  have HA := Lib.hid hA
  have HBK := Lib.hid hback
  have HI0 := Lib.hid hI
  have HOK := Lib.hid G.ok
  have EGsPublish := Lib.hid (enters_of Tryz.func31 (by kernel_rfl) rfl)
  have EGsame6 := Lib.hid (enters_of Tryz.func11 (by kernel_rfl) rfl)
  have mixed : Tryz.prog.follows .mixedOrders = true := by kernel_rfl
  clear G hg hA hback hI
  have HLL := Lib.hid (show z.L.length ≤ 1000000 by omega)
  clear hL
  have HC := Lib.hid hc
  clear hc
  have HI := Lib.hid (HI0.out.step HOK.out.1 HOK.out.2.1 (.stay z))
  have HS := Lib.hid (Step6.stay z)
  have hr0 : Row (w.alloc (.cells #[.int .i64 3, .int .i64 n, .int .u64 (a : Int), .int .i64 c] 45)) w.heap.size 45 #[.int .i64 3, .int .i64 n, .int .u64 (a : Int), .int .i64 c] := Row.new _ _ _
  have HROW := Lib.hid hr0
  have HBL := H.out.block HLL.out 3 n c a
  rw [hb] at HBL
  have HBL := Lib.hid HBL
  clear hr0 hb
  obtain ⟨s0, s1, s2, s3, s4, s5⟩ := H.out.sg HA.out
  go_enter Tryz.func18, Tryz.ntmps18
  go_wp2_with (refine wpList_load_row rfl 45 _ rfl w.heap.size rfl 45 _ _ _ HROW.out Tryz.underlying45 rfl (by kernel_rfl) ?_)
  refine HBL.out.mono ?_
  rintro e y0 ⟨rfl, hH⟩
  clear s0 s1 s2 s3 s4 s5 H HROW HBL
  have H := Lib.hid hH
  clear hH
  obtain ⟨s0, s1, s2, s3, s4, s5⟩ := H.out.sg HA.out
  clear s0 s1 s2 s3 s4 s5
  go_upto_region 16 with (fail)
  refine wp_region_noPanic ?_
  refine wp_region_held_drew (S := SG6 gg w.heap.size mg gs gw n a c) (by kernel_rfl) (H.out.drew.sg HA.out) (fun hHeld => ?_)
  have H2 := Lib.hid H.out.drew
  clear H
  have H := H2
  clear H2
  refine tkH (i := 0) (oi := ⟨some 84, _, _, _, _, _⟩) (v := .pointer (some ⟨gg, 0, none⟩)) rfl (Or.inl ⟨by kernel_rfl, by intro WW hSw; obtain ⟨s0, s1, s2, s3, s4, s5⟩ := hSw; go_simp⟩) (by assumption) ?_
  (try simp only [Act.put, q1, q2, q3])
  refine tkH (i := 1) (oi := ⟨some 85, _, _, _, _, _⟩) (v := .pointer (some ⟨gg, 0, none⟩)) rfl (Or.inl ⟨by kernel_rfl, by intro WW hSw; obtain ⟨s0, s1, s2, s3, s4, s5⟩ := hSw; go_simp⟩) (by assumption) ?_
  (try simp only [Act.put, q1, q2, q3])
  refine tkH (i := 2) (oi := ⟨some 86, _, _, _, _, _⟩) (v := .pointer (some ⟨gg, 1, none⟩)) rfl (Or.inl ⟨by kernel_rfl, by intro WW hSw; obtain ⟨s0, s1, s2, s3, s4, s5⟩ := hSw; go_simp⟩) (by assumption) ?_
  (try simp only [Act.put, q1, q2, q3])
  refine tkH (i := 3) (oi := ⟨some 87, _, _, _, _, _⟩) (v := .pointer (some ⟨gs, 0, none⟩)) rfl (Or.inl ⟨by kernel_rfl, by intro WW hSw; obtain ⟨s0, s1, s2, s3, s4, s5⟩ := hSw; go_simp⟩) (by assumption) ?_
  (try simp only [Act.put, q1, q2, q3])
  refine tkH (i := 4) (oi := ⟨some 88, _, _, _, _, _⟩) (v := .pointer (some ⟨gg, 0, none⟩)) rfl (Or.inl ⟨by kernel_rfl, by intro WW hSw; obtain ⟨s0, s1, s2, s3, s4, s5⟩ := hSw; go_simp⟩) (by assumption) ?_
  (try simp only [Act.put, q1, q2, q3])
  refine tkH (i := 5) (oi := ⟨some 89, _, _, _, _, _⟩) (v := .pointer (some ⟨gg, 0, none⟩)) rfl (Or.inl ⟨by kernel_rfl, by intro WW hSw; obtain ⟨s0, s1, s2, s3, s4, s5⟩ := hSw; go_simp⟩) (by assumption) ?_
  (try simp only [Act.put, q1, q2, q3])
  refine tkH (i := 6) (oi := ⟨some 90, _, _, _, _, _⟩) (v := .pointer (some ⟨gg, 0, none⟩)) rfl (Or.inl ⟨by kernel_rfl, by intro WW hSw; obtain ⟨s0, s1, s2, s3, s4, s5⟩ := hSw; go_simp⟩) (by assumption) ?_
  (try simp only [Act.put, q1, q2, q3])
  refine tkH (i := 7) (oi := ⟨some 91, _, _, _, _, _⟩) (v := .pointer (some ⟨mg, 0, none⟩)) rfl (Or.inl ⟨by kernel_rfl, by intro WW hSw; obtain ⟨s0, s1, s2, s3, s4, s5⟩ := hSw; go_simp⟩) (by assumption) ?_
  (try simp only [Act.put, q1, q2, q3])
  refine tkH (i := 8) (oi := ⟨some 92, _, _, _, _, _⟩) (v := .pointer (some ⟨w.heap.size, 3, none⟩)) rfl (Or.inl ⟨by kernel_rfl, by intro WW hSw; obtain ⟨s0, s1, s2, s3, s4, s5⟩ := hSw; go_simp⟩) (by assumption) ?_
  (try simp only [Act.put, q1, q2, q3])
  refine tkH (i := 9) (oi := ⟨some 93, _, _, _, _, _⟩) (v := .int .i64 c) rfl (Or.inl ⟨by kernel_rfl, by intro WW hSw; obtain ⟨s0, s1, s2, s3, s4, s5⟩ := hSw; go_simp⟩) (by assumption) ?_
  (try simp only [Act.put, q1, q2, q3])
  refine tkH (i := 10) (oi := ⟨some 94, _, _, _, _, _⟩) (v := .int .u64 (b : Int)) rfl (Or.inl ⟨by kernel_rfl, by intro WW hSw; obtain ⟨s0, s1, s2, s3, s4, s5⟩ := hSw; go_simp⟩) (by assumption) ?_
  (try simp only [Act.put, q1, q2, q3])
  refine wpAnyH_one (i := 11) (oi := ⟨_, _, _, _, _, _⟩) rfl (by kernel_rfl) (fun K hK => ?_)
  refine step_calls (by rfl) 31 EGsPublish.out [.tmp 87, .tmp 91, .tmp 93, .tmp 94] _ rfl [.pointer (some ⟨gs, 0, none⟩), .pointer (some ⟨mg, 0, none⟩), .int .i64 c, .int .u64 (b : Int)] rfl (H.out.pub_arg HC.out (b : Int)) ?_
  rintro e x1 ⟨rfl, hH⟩
  refine ⟨_, rfl, hK _ _ (hH.sg HA.out) (fun _ => ?_)⟩
  have hHeld := hH.sg HA.out
  clear hK K H
  have H := Lib.hid hH
  clear hH
  (try simp only [Act.put, q1, q2, q3])
  refine tkH (i := 12) (oi := ⟨some 83, _, _, _, _, _⟩) (v := .tuple #[.pointer none, .int .i64 2]) rfl (Or.inl ⟨by kernel_rfl, by intro WW hSw; obtain ⟨s0, s1, s2, s3, s4, s5⟩ := hSw; go_simp⟩) (by assumption) ?_
  (try simp only [Act.put, q1, q2, q3])
  refine tkH (i := 13) (oi := ⟨some 96, _, _, _, _, _⟩) (v := .pointer none) rfl (Or.inl ⟨by kernel_rfl, by intro WW hSw; obtain ⟨s0, s1, s2, s3, s4, s5⟩ := hSw; go_simp⟩) (by assumption) ?_
  (try simp only [Act.put, q1, q2, q3])
  refine tkH (i := 14) (oi := ⟨some 97, _, _, _, _, _⟩) (v := .int .i64 2) rfl (Or.inl ⟨by kernel_rfl, by intro WW hSw; obtain ⟨s0, s1, s2, s3, s4, s5⟩ := hSw; go_simp⟩) (by assumption) ?_
  (try simp only [Act.put, q1, q2, q3])
  refine tkH (i := 15) (oi := ⟨some 13, _, _, _, _, _⟩) (v := .pointer none) rfl (Or.inl ⟨by kernel_rfl, by intro WW hSw; obtain ⟨s0, s1, s2, s3, s4, s5⟩ := hSw; go_simp⟩) (by assumption) ?_
  (try simp only [Act.put, q1, q2, q3])
  refine tkH (i := 16) (oi := ⟨some 14, _, _, _, _, _⟩) (v := .int .i64 2) rfl (Or.inl ⟨by kernel_rfl, by intro WW hSw; obtain ⟨s0, s1, s2, s3, s4, s5⟩ := hSw; go_simp⟩) (by assumption) ?_
  (try simp only [Act.put, q1, q2, q3])
  refine wpAnyH_done (by kernel_rfl) ?_ _
  unfold NoPanic
  clear hHeld
  obtain ⟨s0, s1, s2, s3, s4, s5⟩ := H.out.sg HA.out
  go_wp2_with fail
  refine (GD.start_arg HC.out H.out b 1 4 2).mono ?_
  rintro e y2 ⟨rfl, hH⟩
  clear s0 s1 s2 s3 s4 s5 H
  have H := Lib.hid hH
  clear hH
  go_upto_region 26 with (fail)
  refine wp_region_noPanic ?_
  refine wp_region_held_drew (S := SG6 gg w.heap.size mg gs gw n a c) (by kernel_rfl) (H.out.drew.sg HA.out) (fun hHeld => ?_)
  have H2 := Lib.hid H.out.drew
  clear H
  have H := H2
  clear H2
  refine tkH (i := 0) (oi := ⟨some 163, _, _, _, _, _⟩) (v := .bool true) rfl (Or.inl ⟨by kernel_rfl, by intro WW hSw; obtain ⟨s0, s1, s2, s3, s4, s5⟩ := hSw; go_simp⟩) (by assumption) ?_
  (try simp only [Act.put, q1, q2, q3])
  refine tkH (i := 1) (oi := ⟨some 164, _, _, _, _, _⟩) (v := .bool true) rfl (Or.inl ⟨by kernel_rfl, by intro WW hSw; obtain ⟨s0, s1, s2, s3, s4, s5⟩ := hSw; go_simp⟩) (by assumption) ?_
  (try simp only [Act.put, q1, q2, q3])
  refine tkH (i := 2) (oi := ⟨some 165, _, _, _, _, _⟩) (v := .pointer (some ⟨gg, 0, none⟩)) rfl (Or.inl ⟨by kernel_rfl, by intro WW hSw; obtain ⟨s0, s1, s2, s3, s4, s5⟩ := hSw; go_simp⟩) (by assumption) ?_
  (try simp only [Act.put, q1, q2, q3])
  refine tkH (i := 3) (oi := ⟨some 166, _, _, _, _, _⟩) (v := .pointer (some ⟨gg, 0, none⟩)) rfl (Or.inl ⟨by kernel_rfl, by intro WW hSw; obtain ⟨s0, s1, s2, s3, s4, s5⟩ := hSw; go_simp⟩) (by assumption) ?_
  (try simp only [Act.put, q1, q2, q3])
  refine tkH (i := 4) (oi := ⟨some 167, _, _, _, _, _⟩) (v := .pointer (some ⟨gg, 1, none⟩)) rfl (Or.inl ⟨by kernel_rfl, by intro WW hSw; obtain ⟨s0, s1, s2, s3, s4, s5⟩ := hSw; go_simp⟩) (by assumption) ?_
  (try simp only [Act.put, q1, q2, q3])
  refine tkH (i := 5) (oi := ⟨some 168, _, _, _, _, _⟩) (v := .pointer (some ⟨gs, 0, none⟩)) rfl (Or.inl ⟨by kernel_rfl, by intro WW hSw; obtain ⟨s0, s1, s2, s3, s4, s5⟩ := hSw; go_simp⟩) (by assumption) ?_
  (try simp only [Act.put, q1, q2, q3])
  refine tkH (i := 6) (oi := ⟨some 169, _, _, _, _, _⟩) (v := .pointer (some ⟨gg, 0, none⟩)) rfl (Or.inl ⟨by kernel_rfl, by intro WW hSw; obtain ⟨s0, s1, s2, s3, s4, s5⟩ := hSw; go_simp⟩) (by assumption) ?_
  (try simp only [Act.put, q1, q2, q3])
  refine tkH (i := 7) (oi := ⟨some 170, _, _, _, _, _⟩) (v := .pointer (some ⟨gg, 0, none⟩)) rfl (Or.inl ⟨by kernel_rfl, by intro WW hSw; obtain ⟨s0, s1, s2, s3, s4, s5⟩ := hSw; go_simp⟩) (by assumption) ?_
  (try simp only [Act.put, q1, q2, q3])
  refine tkH (i := 8) (oi := ⟨some 171, _, _, _, _, _⟩) (v := .pointer (some ⟨gg, 2, none⟩)) rfl (Or.inl ⟨by kernel_rfl, by intro WW hSw; obtain ⟨s0, s1, s2, s3, s4, s5⟩ := hSw; go_simp⟩) (by assumption) ?_
  (try simp only [Act.put, q1, q2, q3])
  refine tkH (i := 9) (oi := ⟨some 172, _, _, _, _, _⟩) (v := .pointer (some ⟨gw, 0, none⟩)) rfl (Or.inl ⟨by kernel_rfl, by intro WW hSw; obtain ⟨s0, s1, s2, s3, s4, s5⟩ := hSw; go_simp⟩) (by assumption) ?_
  (try simp only [Act.put, q1, q2, q3])
  refine wpAnyH_one (i := 10) (oi := ⟨_, _, _, _, _, _⟩) rfl (by kernel_rfl) (fun K hK => ?_)
  refine step_calls (by rfl) 11 EGsame6.out [.tmp 168, .tmp 172] _ rfl [.pointer (some ⟨gs, 0, none⟩), .pointer (some ⟨gw, 0, none⟩)] rfl (H.out.same HI.out (by omega)) ?_
  rintro e x2 ⟨rfl, hH⟩
  refine ⟨_, rfl, hK _ _ (hH.sg HA.out) (fun _ => ?_)⟩
  have hHeld := hH.sg HA.out
  clear hK K H
  have H := Lib.hid hH
  clear hH
  (try simp only [Act.put, q1, q2, q3])
  refine tkH (i := 11) (oi := ⟨some 174, _, _, _, _, _⟩) (v := .bool true) rfl (Or.inl ⟨by kernel_rfl, by intro WW hSw; obtain ⟨s0, s1, s2, s3, s4, s5⟩ := hSw; go_simp⟩) (by assumption) ?_
  (try simp only [Act.put, q1, q2, q3])
  refine tkH (i := 12) (oi := ⟨some 4, _, _, _, _, _⟩) (v := .bool true) rfl (Or.inl ⟨by kernel_rfl, by intro WW hSw; obtain ⟨s0, s1, s2, s3, s4, s5⟩ := hSw; go_simp⟩) (by assumption) ?_
  (try simp only [Act.put, q1, q2, q3])
  refine wpAnyH_done (by kernel_rfl) ?_ _
  unfold NoPanic
  clear hHeld
  have HE := Lib.hid (HBK.out _ _ H.out)
  clear H
  go_wp2
  go_ret
  exact ⟨rfl, _, HS.out, rfl, HE.out⟩
end Go.Proofs.YtahojhaeebmpoaaGreatDoor
/- A step of the law's game: any number, any turns. -/
namespace Go.Proofs.YtahojhaeebmpoaaGreatDoor
open Go Go.RowKit Go.Sort
set_option linter.unusedVariables false
theorem gstep_any {w0 w : World} {P0 : Nat → Prop} {B size gg mg gs gw N : Nat} {z : S6} (G : GD w0 P0 B size gg mg gs gw (RQ z) w) (hI : Inv6 N z) (hN : N ≤ 800) (n : Int) :
    Calls Tryz.prog 55 #[.pointer (some ⟨gg, 0, none⟩), .int .i64 n] w (StP w0 P0 B size gg mg gs gw z) := by
  by_cases h0 : z.T = []
  · exact gstep_none G h0 n
  · have hl : 0 < z.T.length := List.length_pos_iff.2 h0
    have hU : 0 ≤ IntKind.u64.wrap n := by rw [IntKind.wrap_u64]; omega
    obtain ⟨q, hq⟩ : ∃ q : Nat, (q : Int) = IntKind.u64.wrap n % (z.T.length : Int) := ⟨(IntKind.u64.wrap n % (z.T.length : Int)).toNat, by have := Int.emod_nonneg (IntKind.u64.wrap n) (show (z.T.length : Int) ≠ 0 by omega); omega⟩
    have hqm : q < z.T.length := by have := Int.emod_lt_of_pos (IntKind.u64.wrap n) (show (0 : Int) < (z.T.length : Int) by omega); omega
    have ht := List.getElem?_eq_getElem hqm
    have hq2 : (q : Int) = (IntKind.u64.wrap n).tmod (z.T.length : Int) := by rw [Int.tmod_eq_emod_of_nonneg hU]; exact hq
    obtain ⟨x, hx, _, _, _, hk, _⟩ := hI.tn _ (List.mem_of_getElem? ht)
    by_cases h3 : (z.T[q]).k = 3
    · exact gstep_done G hI hN n ht hx hq2 h3
    · exact gstep_on G hI hN n ht hx hq2 (by omega)
end Go.Proofs.YtahojhaeebmpoaaGreatDoor
/- The law's game, an act: a step. -/
namespace Go.Proofs.YtahojhaeebmpoaaGreatDoor
open Go Go.RowKit Go.Sort
set_option linter.unusedVariables false
set_option maxRecDepth 100000 in
set_option maxHeartbeats 4000000 in
theorem gdo6_5 {w0 w : World} {P0 : Nat → Prop} {B size gg mg gs gw N : Nat} {z : S6} (G : GD w0 P0 B size gg mg gs gw (RQ z) w) (hI : Inv6 N z) (hN : N ≤ 700) (n : Int) (c : Int) (a : Nat) :
    Calls Tryz.prog 18 #[.pointer (some ⟨gg, 0, none⟩), .agg #[.int .i64 5, .int .i64 n, .int .u64 (a : Int), .int .i64 c]] w (Do6P w0 P0 B size gg mg gs gw z (fun z' => (z.T = [] ∧ z' = z) ∨ ∃ q t x, z.T[q]? = some t ∧ z.hs[t.i]? = some x ∧ z' = finT z q t x)) := by
  have hL := hI.ll
  obtain ⟨W1, P, hg, hA, hback⟩ := G.start 5 n c a
  have H := Lib.hid hg
  have HA := Lib.hid hA
  have HBK := Lib.hid hback
  have HI0 := Lib.hid hI
  have HOK := Lib.hid G.ok
  have EGsame6 := Lib.hid (enters_of Tryz.func11 (by kernel_rfl) rfl)
  have mixed : Tryz.prog.follows .mixedOrders = true := by kernel_rfl
  clear G hg hA hback hI
  clear hL
  obtain ⟨s0, s1, s2, s3, s4, s5⟩ := H.out.sg HA.out
  go_enter Tryz.func18, Tryz.ntmps18
  go_wp2_with fail
  refine (gstep_any H.out HI0.out (by omega) n).mono ?_
  rintro e y1 ⟨rfl, z1, hz, hH⟩
  have hst : Step6 z z1 := by
    rcases hz with ⟨_, rfl⟩ | ⟨q, t, x, ht, hx, rfl⟩
    · exact .stay z1
    · exact finT_step HI0.out ht hx
  clear s0 s1 s2 s3 s4 s5 H
  have H := Lib.hid hH
  have HS := Lib.hid hst
  have HZ := Lib.hid hz
  have HI := Lib.hid (HI0.out.step HOK.out.1 HOK.out.2.1 hst)
  clear hH hst hz
  go_upto_region 26 with (fail)
  refine wp_region_noPanic ?_
  refine wp_region_held_drew (S := SG6 gg w.heap.size mg gs gw n a c) (by kernel_rfl) (H.out.drew.sg HA.out) (fun hHeld => ?_)
  have H2 := Lib.hid H.out.drew
  clear H
  have H := H2
  clear H2
  refine tkH (i := 0) (oi := ⟨some 163, _, _, _, _, _⟩) (v := .bool true) rfl (Or.inl ⟨by kernel_rfl, by intro WW hSw; obtain ⟨s0, s1, s2, s3, s4, s5⟩ := hSw; go_simp⟩) (by assumption) ?_
  (try simp only [Act.put, q1, q2, q3])
  refine tkH (i := 1) (oi := ⟨some 164, _, _, _, _, _⟩) (v := .bool true) rfl (Or.inl ⟨by kernel_rfl, by intro WW hSw; obtain ⟨s0, s1, s2, s3, s4, s5⟩ := hSw; go_simp⟩) (by assumption) ?_
  (try simp only [Act.put, q1, q2, q3])
  refine tkH (i := 2) (oi := ⟨some 165, _, _, _, _, _⟩) (v := .pointer (some ⟨gg, 0, none⟩)) rfl (Or.inl ⟨by kernel_rfl, by intro WW hSw; obtain ⟨s0, s1, s2, s3, s4, s5⟩ := hSw; go_simp⟩) (by assumption) ?_
  (try simp only [Act.put, q1, q2, q3])
  refine tkH (i := 3) (oi := ⟨some 166, _, _, _, _, _⟩) (v := .pointer (some ⟨gg, 0, none⟩)) rfl (Or.inl ⟨by kernel_rfl, by intro WW hSw; obtain ⟨s0, s1, s2, s3, s4, s5⟩ := hSw; go_simp⟩) (by assumption) ?_
  (try simp only [Act.put, q1, q2, q3])
  refine tkH (i := 4) (oi := ⟨some 167, _, _, _, _, _⟩) (v := .pointer (some ⟨gg, 1, none⟩)) rfl (Or.inl ⟨by kernel_rfl, by intro WW hSw; obtain ⟨s0, s1, s2, s3, s4, s5⟩ := hSw; go_simp⟩) (by assumption) ?_
  (try simp only [Act.put, q1, q2, q3])
  refine tkH (i := 5) (oi := ⟨some 168, _, _, _, _, _⟩) (v := .pointer (some ⟨gs, 0, none⟩)) rfl (Or.inl ⟨by kernel_rfl, by intro WW hSw; obtain ⟨s0, s1, s2, s3, s4, s5⟩ := hSw; go_simp⟩) (by assumption) ?_
  (try simp only [Act.put, q1, q2, q3])
  refine tkH (i := 6) (oi := ⟨some 169, _, _, _, _, _⟩) (v := .pointer (some ⟨gg, 0, none⟩)) rfl (Or.inl ⟨by kernel_rfl, by intro WW hSw; obtain ⟨s0, s1, s2, s3, s4, s5⟩ := hSw; go_simp⟩) (by assumption) ?_
  (try simp only [Act.put, q1, q2, q3])
  refine tkH (i := 7) (oi := ⟨some 170, _, _, _, _, _⟩) (v := .pointer (some ⟨gg, 0, none⟩)) rfl (Or.inl ⟨by kernel_rfl, by intro WW hSw; obtain ⟨s0, s1, s2, s3, s4, s5⟩ := hSw; go_simp⟩) (by assumption) ?_
  (try simp only [Act.put, q1, q2, q3])
  refine tkH (i := 8) (oi := ⟨some 171, _, _, _, _, _⟩) (v := .pointer (some ⟨gg, 2, none⟩)) rfl (Or.inl ⟨by kernel_rfl, by intro WW hSw; obtain ⟨s0, s1, s2, s3, s4, s5⟩ := hSw; go_simp⟩) (by assumption) ?_
  (try simp only [Act.put, q1, q2, q3])
  refine tkH (i := 9) (oi := ⟨some 172, _, _, _, _, _⟩) (v := .pointer (some ⟨gw, 0, none⟩)) rfl (Or.inl ⟨by kernel_rfl, by intro WW hSw; obtain ⟨s0, s1, s2, s3, s4, s5⟩ := hSw; go_simp⟩) (by assumption) ?_
  (try simp only [Act.put, q1, q2, q3])
  refine wpAnyH_one (i := 10) (oi := ⟨_, _, _, _, _, _⟩) rfl (by kernel_rfl) (fun K hK => ?_)
  refine step_calls (by rfl) 11 EGsame6.out [.tmp 168, .tmp 172] _ rfl [.pointer (some ⟨gs, 0, none⟩), .pointer (some ⟨gw, 0, none⟩)] rfl (H.out.same HI.out (by omega)) ?_
  rintro e x1 ⟨rfl, hH⟩
  refine ⟨_, rfl, hK _ _ (hH.sg HA.out) (fun _ => ?_)⟩
  have hHeld := hH.sg HA.out
  clear hK K H
  have H := Lib.hid hH
  clear hH
  (try simp only [Act.put, q1, q2, q3])
  refine tkH (i := 11) (oi := ⟨some 174, _, _, _, _, _⟩) (v := .bool true) rfl (Or.inl ⟨by kernel_rfl, by intro WW hSw; obtain ⟨s0, s1, s2, s3, s4, s5⟩ := hSw; go_simp⟩) (by assumption) ?_
  (try simp only [Act.put, q1, q2, q3])
  refine tkH (i := 12) (oi := ⟨some 4, _, _, _, _, _⟩) (v := .bool true) rfl (Or.inl ⟨by kernel_rfl, by intro WW hSw; obtain ⟨s0, s1, s2, s3, s4, s5⟩ := hSw; go_simp⟩) (by assumption) ?_
  (try simp only [Act.put, q1, q2, q3])
  refine wpAnyH_done (by kernel_rfl) ?_ _
  unfold NoPanic
  clear hHeld
  have HE := Lib.hid (HBK.out _ _ H.out)
  clear H
  go_wp2
  go_ret
  exact ⟨rfl, _, HS.out, HZ.out, HE.out⟩
end Go.Proofs.YtahojhaeebmpoaaGreatDoor
/- The law's game, an act: one of no kind. -/
namespace Go.Proofs.YtahojhaeebmpoaaGreatDoor
open Go Go.RowKit Go.Sort
set_option linter.unusedVariables false
set_option maxRecDepth 100000 in
set_option maxHeartbeats 4000000 in
theorem gdo6_8 {w0 w : World} {P0 : Nat → Prop} {B size gg mg gs gw N : Nat} {z : S6} (G : GD w0 P0 B size gg mg gs gw (RQ z) w) (hI : Inv6 N z) (hN : N ≤ 700) (k : Int) (hk : k ≠ 1 ∧ k ≠ 2 ∧ k ≠ 3 ∧ k ≠ 4 ∧ k ≠ 5 ∧ k ≠ 6) (n : Int) (c : Int) (a : Nat) :
    Calls Tryz.prog 18 #[.pointer (some ⟨gg, 0, none⟩), .agg #[.int .i64 k, .int .i64 n, .int .u64 (a : Int), .int .i64 c]] w (Do6P w0 P0 B size gg mg gs gw z (fun z' => z' = z)) := by
  have hL := hI.ll
  obtain ⟨W1, P, hg, hA, hback⟩ := G.start k n c a
  have H := Lib.hid hg
  have HA := Lib.hid hA
  have HBK := Lib.hid hback
  have HI0 := Lib.hid hI
  have HOK := Lib.hid G.ok
  have EGsame6 := Lib.hid (enters_of Tryz.func11 (by kernel_rfl) rfl)
  have mixed : Tryz.prog.follows .mixedOrders = true := by kernel_rfl
  clear G hg hA hback hI
  obtain ⟨k1, k2, k3, k4, k5, k6⟩ := hk
  have d1 : (k == 1) = false := by simpa using k1
  have d2 : (k == 2) = false := by simpa using k2
  have d3 : (k == 3) = false := by simpa using k3
  have d4 : (k == 4) = false := by simpa using k4
  have d5 : (k == 5) = false := by simpa using k5
  have d6 : (k == 6) = false := by simpa using k6
  clear k1 k2 k3 k4 k5 k6
  have HI := Lib.hid (HI0.out.step HOK.out.1 HOK.out.2.1 (.stay z))
  have HS := Lib.hid (Step6.stay z)
  clear hL
  go_enter Tryz.func18, Tryz.ntmps18
  go_upto_region 26 with (fail)
  refine wp_region_noPanic ?_
  refine wp_region_held_drew (S := SG6 gg w.heap.size mg gs gw n a c) (by kernel_rfl) (H.out.drew.sg HA.out) (fun hHeld => ?_)
  have H2 := Lib.hid H.out.drew
  clear H
  have H := H2
  clear H2
  refine tkH (i := 0) (oi := ⟨some 163, _, _, _, _, _⟩) (v := .bool true) rfl (Or.inl ⟨by kernel_rfl, by intro WW hSw; obtain ⟨s0, s1, s2, s3, s4, s5⟩ := hSw; go_simp⟩) (by assumption) ?_
  (try simp only [Act.put, q1, q2, q3])
  refine tkH (i := 1) (oi := ⟨some 164, _, _, _, _, _⟩) (v := .bool true) rfl (Or.inl ⟨by kernel_rfl, by intro WW hSw; obtain ⟨s0, s1, s2, s3, s4, s5⟩ := hSw; go_simp⟩) (by assumption) ?_
  (try simp only [Act.put, q1, q2, q3])
  refine tkH (i := 2) (oi := ⟨some 165, _, _, _, _, _⟩) (v := .pointer (some ⟨gg, 0, none⟩)) rfl (Or.inl ⟨by kernel_rfl, by intro WW hSw; obtain ⟨s0, s1, s2, s3, s4, s5⟩ := hSw; go_simp⟩) (by assumption) ?_
  (try simp only [Act.put, q1, q2, q3])
  refine tkH (i := 3) (oi := ⟨some 166, _, _, _, _, _⟩) (v := .pointer (some ⟨gg, 0, none⟩)) rfl (Or.inl ⟨by kernel_rfl, by intro WW hSw; obtain ⟨s0, s1, s2, s3, s4, s5⟩ := hSw; go_simp⟩) (by assumption) ?_
  (try simp only [Act.put, q1, q2, q3])
  refine tkH (i := 4) (oi := ⟨some 167, _, _, _, _, _⟩) (v := .pointer (some ⟨gg, 1, none⟩)) rfl (Or.inl ⟨by kernel_rfl, by intro WW hSw; obtain ⟨s0, s1, s2, s3, s4, s5⟩ := hSw; go_simp⟩) (by assumption) ?_
  (try simp only [Act.put, q1, q2, q3])
  refine tkH (i := 5) (oi := ⟨some 168, _, _, _, _, _⟩) (v := .pointer (some ⟨gs, 0, none⟩)) rfl (Or.inl ⟨by kernel_rfl, by intro WW hSw; obtain ⟨s0, s1, s2, s3, s4, s5⟩ := hSw; go_simp⟩) (by assumption) ?_
  (try simp only [Act.put, q1, q2, q3])
  refine tkH (i := 6) (oi := ⟨some 169, _, _, _, _, _⟩) (v := .pointer (some ⟨gg, 0, none⟩)) rfl (Or.inl ⟨by kernel_rfl, by intro WW hSw; obtain ⟨s0, s1, s2, s3, s4, s5⟩ := hSw; go_simp⟩) (by assumption) ?_
  (try simp only [Act.put, q1, q2, q3])
  refine tkH (i := 7) (oi := ⟨some 170, _, _, _, _, _⟩) (v := .pointer (some ⟨gg, 0, none⟩)) rfl (Or.inl ⟨by kernel_rfl, by intro WW hSw; obtain ⟨s0, s1, s2, s3, s4, s5⟩ := hSw; go_simp⟩) (by assumption) ?_
  (try simp only [Act.put, q1, q2, q3])
  refine tkH (i := 8) (oi := ⟨some 171, _, _, _, _, _⟩) (v := .pointer (some ⟨gg, 2, none⟩)) rfl (Or.inl ⟨by kernel_rfl, by intro WW hSw; obtain ⟨s0, s1, s2, s3, s4, s5⟩ := hSw; go_simp⟩) (by assumption) ?_
  (try simp only [Act.put, q1, q2, q3])
  refine tkH (i := 9) (oi := ⟨some 172, _, _, _, _, _⟩) (v := .pointer (some ⟨gw, 0, none⟩)) rfl (Or.inl ⟨by kernel_rfl, by intro WW hSw; obtain ⟨s0, s1, s2, s3, s4, s5⟩ := hSw; go_simp⟩) (by assumption) ?_
  (try simp only [Act.put, q1, q2, q3])
  refine wpAnyH_one (i := 10) (oi := ⟨_, _, _, _, _, _⟩) rfl (by kernel_rfl) (fun K hK => ?_)
  refine step_calls (by rfl) 11 EGsame6.out [.tmp 168, .tmp 172] _ rfl [.pointer (some ⟨gs, 0, none⟩), .pointer (some ⟨gw, 0, none⟩)] rfl (H.out.same HI.out (by omega)) ?_
  rintro e x1 ⟨rfl, hH⟩
  refine ⟨_, rfl, hK _ _ (hH.sg HA.out) (fun _ => ?_)⟩
  have hHeld := hH.sg HA.out
  clear hK K H
  have H := Lib.hid hH
  clear hH
  (try simp only [Act.put, q1, q2, q3])
  refine tkH (i := 11) (oi := ⟨some 174, _, _, _, _, _⟩) (v := .bool true) rfl (Or.inl ⟨by kernel_rfl, by intro WW hSw; obtain ⟨s0, s1, s2, s3, s4, s5⟩ := hSw; go_simp⟩) (by assumption) ?_
  (try simp only [Act.put, q1, q2, q3])
  refine tkH (i := 12) (oi := ⟨some 4, _, _, _, _, _⟩) (v := .bool true) rfl (Or.inl ⟨by kernel_rfl, by intro WW hSw; obtain ⟨s0, s1, s2, s3, s4, s5⟩ := hSw; go_simp⟩) (by assumption) ?_
  (try simp only [Act.put, q1, q2, q3])
  refine wpAnyH_done (by kernel_rfl) ?_ _
  unfold NoPanic
  clear hHeld
  have HE := Lib.hid (HBK.out _ _ H.out)
  clear H
  go_wp2
  go_ret
  exact ⟨rfl, _, HS.out, rfl, HE.out⟩
end Go.Proofs.YtahojhaeebmpoaaGreatDoor
/- The law's game, any act. -/
namespace Go.Proofs.YtahojhaeebmpoaaGreatDoor
open Go Go.RowKit Go.Sort
set_option linter.unusedVariables false
theorem Do6P.any {w0 : World} {P0 : Nat → Prop} {B size gg mg gs gw : Nat} {z : S6} {R : S6 → Prop} {e : Ending} {w' : World} (h : Do6P w0 P0 B size gg mg gs gw z R e w') : Do6P w0 P0 B size gg mg gs gw z (fun _ => True) e w' := by
  obtain ⟨he, z', h1, _, h2⟩ := h
  exact ⟨he, z', h1, trivial, h2⟩
theorem isAt_found {hs : List Hd} {a v : Nat} (h : isAt hs a v) (hv : v ≠ 0) : ∃ (i j : Nat) (x : Hd), hs[i]? = some x ∧ x.bl[j]? = some v ∧ adr x.no x.cls j = a := by
  rcases h with ⟨i, j, x, hx, _, ha, hb⟩ | ⟨_, h0⟩
  · exact ⟨i, j, x, hx, hb, ha⟩
  · exact absurd h0 hv
theorem gdo6_any {w0 w : World} {P0 : Nat → Prop} {B size gg mg gs gw N : Nat} {z : S6} (G : GD w0 P0 B size gg mg gs gw (RQ z) w) (hI : Inv6 N z) (hN : N ≤ 700) (k n c : Int) (a : Nat) (ha : a < 18446744073709551616) :
    Calls Tryz.prog 18 #[.pointer (some ⟨gg, 0, none⟩), .agg #[.int .i64 k, .int .i64 n, .int .u64 (a : Int), .int .i64 c]] w (Do6P w0 P0 B size gg mg gs gw z (fun _ => True)) := by
  obtain ⟨b, hb⟩ : ∃ b, blkOf z.L n a = b := ⟨_, rfl⟩
  obtain ⟨v, hv⟩ := isAt_some z.hs b
  by_cases h1 : k = 1
  · subst h1; exact (gdo6_1 G hI hN n c a).mono fun e w' h => h.any
  by_cases h2 : k = 2
  · subst h2; exact (gdo6_2 G hI hN n c a b hb).mono fun e w' h => h.any
  by_cases h3 : k = 3
  · subst h3
    by_cases hc : 0 ≤ c ∧ c ≤ 64
    · by_cases hv1 : v = 1
      · obtain ⟨i, j, x, hx, hj, had⟩ := isAt_found hv (by omega)
        rw [hv1] at hj
        obtain ⟨cl, rfl⟩ : ∃ cl : Nat, c = (cl : Int) := ⟨c.toNat, by omega⟩
        exact (gdo6_3_o G hI hN n cl a b hb (by omega) hx hj had).mono fun e w' h => h.any
      · exact (gdo6_3_s G hI hN n c a b hb hc hv hv1).mono fun e w' h => h.any
    · exact (gdo6_3_a G hI hN n c a b hb hc).mono fun e w' h => h.any
  by_cases h4 : k = 4
  · subst h4
    by_cases hc : 0 ≤ c ∧ c ≤ 64
    · by_cases hv1 : v = 2
      · obtain ⟨i, j, x, hx, hj, had⟩ := isAt_found hv (by omega)
        rw [hv1] at hj
        obtain ⟨cl, rfl⟩ : ∃ cl : Nat, c = (cl : Int) := ⟨c.toNat, by omega⟩
        exact (gdo6_4_o G hI hN n cl a b hb (by omega) hx hj had).mono fun e w' h => h.any
      · exact (gdo6_4_s G hI hN n c a b hb hc hv hv1).mono fun e w' h => h.any
    · exact (gdo6_4_a G hI hN n c a b hb hc).mono fun e w' h => h.any
  by_cases h5 : k = 5
  · subst h5; exact (gdo6_5 G hI hN n c a).mono fun e w' h => h.any
  by_cases h6 : k = 6
  · subst h6; exact (gdo6_6 G hI hN n c a ha).mono fun e w' h => h.any
  exact (gdo6_8 G hI hN k ⟨h1, h2, h3, h4, h5, h6⟩ n c a).mono fun e w' h => h.any
end Go.Proofs.YtahojhaeebmpoaaGreatDoor
/- The law's game begins: of an image that may be. -/
namespace Go.Proofs.YtahojhaeebmpoaaGreatDoor
open Go Go.RowKit Go.Sort
set_option linter.unusedVariables false
def ini6 (l : List Nat) (n : Nat) : S6 := ⟨St.ofBytes (16 * (n + 1)) l, hsK (hcW l) (hbW l) n n, clsK l n, LK l n, []⟩
theorem ini6_inv {l : List Nat} {n : Nat} (hb : ∀ x ∈ l, x < 256) (hn : n ≤ 4) (ok : okHeads l n) : Inv6 0 (ini6 l n) := by
  refine ⟨ini_is hb (by omega) ok, fun x hx => ?_, (fun t ht => by cases ht), List.Pairwise.nil, Nat.le_refl _, fun q hq => ?_, by have := LK_len l n; show (LK l n).length ≤ _; omega, Nat.le_refl _⟩
  · obtain ⟨q, hq⟩ := List.mem_iff_getElem?.1 hx
    have hq : (hsK (hcW l) (hbW l) n n)[q]? = some x := hq
    have hqn : q < n := by have := (List.getElem?_eq_some_iff.1 hq).1; rwa [hsK_len] at this
    rw [hsK_get hqn, if_pos hqn] at hq
    cases hq
    exact hbW_fit hb q
  · have hq : q ∈ List.replicate (16 * (n + 1)) ([] : List (Nat × Nat)) := hq
    rw [List.eq_of_mem_replicate hq]
    exact Nat.le_refl _
theorem W6At.less {w : World} {B C gw size : Nat} {cls : List Nat} {L : List (Nat × Nat)} {vc vl : Value} (h : W6At w C gw size cls L vc vl) (hB : B ≤ C) : W6At w B gw size cls L vc vl :=
  ⟨h.row, own_less h.cls hB, own_less h.bl hB, Nat.le_trans hB h.low⟩
set_option maxRecDepth 100000 in
set_option maxHeartbeats 1600000 in
theorem begin6_any {w : World} {gi cap n : Nat} {l : List Nat} (hl : l.length = 1024 * (n + 1)) (hr : Row w gi 5 (l.map bv).toArray) (hb : ∀ x ∈ l, x < 256) (h0 : 0 < n) (h4 : n ≤ 4) (R : Rms w) (hok : okHeads l n) :
    Calls Tryz.prog 17 #[.slice (some ⟨gi, 0, none⟩) (1024 * (n + 1)) cap] w fun e w' => ∃ gg mg gs gw, e = .returned (.pointer (some ⟨gg, 0, none⟩)) ∧ GD w (fun _ => False) w.heap.size l.length gg mg gs gw (RQ (ini6 l n)) w' := by
  have hrm : 0 < w.heap.size := by
    obtain ⟨tt, hR⟩ := R
    exact heap_lt hR
  have HM := pOf_yes (w := w) (A := some ⟨gi, 0, none⟩) (cap := cap) (nl := 16 * (n + 1)) (l := l) (by omega) (row_sl hr) hb (by omega) (by omega)
  rw [show 64 * (16 * (n + 1)) = 1024 * (n + 1) from by omega] at HM
  have HM := Lib.hid HM
  have HO := Lib.hid fun (W : World) (hW : Below w.heap.size w W) => slabOf_yes (w := W) (A := some ⟨gi, 0, none⟩) (cap := cap) (n := n) hl (row_sl (hr.below hW hr.lt)) hb h0 (by omega) (R.below hW)
  have HR6 := Lib.hid fun (W : World) (hW : Below w.heap.size w W) => r6Of_yes (w := W) (a := ⟨gi, 0, none⟩) (cap := cap) (n := n) hl (row_sl (hr.below hW hr.lt)) hb h0 (by omega)
  have HFIN := Lib.hid (show ∀ (w1 w2 w3 : World) (ym : Lay) (y : SLay) (gw : Nat) (vc vl : Value), MemAt w1 ym (St.ofBytes (16 * (n + 1)) l) → (∀ k, ym.fp k → w.heap.size ≤ k) → Below w.heap.size w w1 →
      SlabMem w2 y (hsK (hcW l) (hbW l) n n) (fsK (hcW l) (hbW l) n) → (∀ k, y.fp k → w1.heap.size ≤ k) → Below w1.heap.size w1 w2 → W6At w3 w2.heap.size gw l.length (clsK l n) (LK l n) vc vl → Below w2.heap.size w2 w3 →
      GD w (fun _ => False) w.heap.size l.length w3.heap.size ym.g y.gs gw (RQ (ini6 l n)) (w3.alloc (.cells #[fpt ym.g, fpt y.gs, fpt gw, .slice none 0 0] 51)) from by
    intro w1 w2 w3 ym y gw vc vl hm hmf hb1 hs hsf hb2 hw hb3
    have hal := alloc_below w3 (.cells #[fpt ym.g, fpt y.gs, fpt gw, .slice none 0 0] 51)
    have hB3 : Below w.heap.size w w3 := Below.and (Below.and hb1 hb2) hb3
    have hm3 := (hm.below hb2).below hb3
    have hs3 := hs.below hb3
    have hls : (hsK (hcW l) (hbW l) n n).length = n := hsK_len _ _ _ _
    refine ⟨⟨ym, y, w3.heap.size, gw, .slice none 0 0, vc, vl⟩, ini6 l n, 0, [], {
      row := Row.new _ _ _
      gm := ⟨_, ⟨hm3.below hal, ofBytes_Ok hb, hs3.below hal, hsK_ok _ _ _, fsK_ok _ _ _, ⟨R.below (Below.and hB3 hal), fun h => ?_⟩, fun h => ?_, ?_⟩⟩
      w6 := (hw.less (Nat.le_trans hb1.size hb2.size)).below hal
      tn := World.ownsRow_nil _ _ _ _
      ta := fun t ht => by cases ht
      gts := List.nodup_nil
      vcn := fun k hk h => ?_
      rb := hrm
      but := But.of_below (Below.and hB3 hal) _
      fp := fun k hk => ?_
      pb := fun k h => h.elim
      wb := Nat.le_refl _ }, rfl, rfl, rfl, rfl, rfl, rfl, rfl⟩
    · have := hsf _ h; have := hb1.size; omega
    · have := hmf _ h; omega
    · show 64 * (16 * (n + 1)) = 1024 * ((hsK (hcW l) (hbW l) n n).length + 1)
      rw [hls]; omega
    · have h1 : w2.heap.size ≤ k := own_base hw.cls hk
      have h2 := hs.lt h
      omega
    · right
      have hz := hB3.size
      rcases hk with h | h | h | h | h | h | ⟨t, ht, _⟩
      · exact hmf k h
      · have := hsf k h; have := hb1.size; omega
      · rw [h]; exact hz
      · rw [h]; have := hw.low; have := hb1.size; have := hb2.size; show w.heap.size ≤ gw; omega
      · cases h
      · have h1 : w2.heap.size ≤ k := own_base hw.cls h
        have := hb1.size; have := hb2.size; omega
      · cases ht)
  obtain ⟨Z, hZ⟩ : ∃ Z, Z = 1024 * (n + 1) := ⟨_, rfl⟩
  rw [← hZ] at HM HO HR6 ⊢
  have HOK := Lib.hid hok
  clear hl hr hb h0 h4 R hok hrm hZ
  go_enter Tryz.func17, Tryz.ntmps17
  go_wp2_with fail
  refine HM.out.mono ?_
  rintro e w1 ⟨ym, rfl, hm, hmf, hb1⟩
  have HO1 := Lib.hid (HO.out w1 hb1)
  have HF1 := Lib.hid (fun w2 w3 y gw vc vl => HFIN.out w1 w2 w3 ym y gw vc vl hm hmf hb1)
  have HB1 := Lib.hid hb1
  obtain ⟨mg, hmg⟩ : ∃ g, g = ym.g := ⟨_, rfl⟩
  rw [← hmg] at HF1 ⊢
  clear hm hmf hb1 HM HO HFIN hmg
  go_wp2_with fail
  refine HO1.out.mono ?_
  rintro e w2 (⟨_, y, rfl, hs, hsf, hb2⟩ | ⟨hno, _⟩)
  · have HR := Lib.hid (HR6.out w2 (Below.and HB1.out hb2))
    have HF2 := Lib.hid (fun w3 gw vc vl => HF1.out w2 w3 y gw vc vl hs hsf hb2)
    obtain ⟨gs, hgs⟩ : ∃ g, g = y.gs := ⟨_, rfl⟩
    rw [← hgs] at HF2
    unfold fpt at HF2 ⊢
    rw [← hgs]
    clear hs hsf hb2 HO1 HR6 HF1 hgs
    go_wp2_with fail
    refine HR.out.mono ?_
    rintro e w3 (⟨_, gw, vc, vl, rfl, hw, hb3⟩ | ⟨hno, _⟩)
    · have HE := Lib.hid (HF2.out w3 gw vc vl hw hb3)
      clear hw hb3 HF2 HR
      unfold fpt
      go_wp2
      go_ret
      exact ⟨_, _, _, _, rfl, HE.out⟩
    · exact absurd HOK.out hno
  · exact absurd HOK.out hno
end Go.Proofs.YtahojhaeebmpoaaGreatDoor
/- What of the headers' lines may have lasted, in the law's game: plain facts. -/
namespace Go.Proofs.YtahojhaeebmpoaaGreatDoor
open Go.RowKit Go.Sort
set_option linter.unusedVariables false
theorem bitV_bit {v b j : Nat} (hb : b < 18446744073709551616) (hj : j < 64) (k : Nat) : (bitV v b j).testBit k = if j = k then decide (v = 4) else b.testBit k := by
  have hjj : 0 ≤ (j : Int) ∧ (j : Int) ≤ 63 := ⟨by omega, by omega⟩
  have e1 : mk (j : Int) = 2 ^ j := by rw [mk_in hjj]; rfl
  unfold bitV
  by_cases hv : v = 4
  · rw [if_pos hv, ← or_mk hb, e1, Nat.testBit_or, Nat.testBit_two_pow]
    by_cases e : j = k
    · simp [e, hv]
    · simp [e]
  · rw [if_neg hv, ← andn_mk hb, e1, Nat.testBit_and, not_bit hj]
    by_cases e : j = k
    · simp [e, hv]
    · by_cases hk : b.testBit k = true
      · simp [e, hk, bit_lt hb hk]
      · simp [e, Bool.not_eq_true _ ▸ hk]
def fr (s : St) (i m : Nat) : Nat × Nat := ((lastW s.lasted ((s.pend.getD (16 * (i + 1)) []).take m)).getD (128 * (i + 1)) 0, (lastW s.lasted ((s.pend.getD (16 * (i + 1)) []).take m)).getD (128 * (i + 1) + 1) 0)
def pl (s : St) (i : Nat) : Nat := (s.pend.getD (16 * (i + 1)) []).length
structure Sh (s s' : St) (i m : Nat) : Prop where
  le : m ≤ pl s i
  len : pl s' i = pl s i - m
  fr : ∀ q, fr s' i q = fr s i (m + q)
  mks : ∀ c, s'.mm (16 * (i + 1)) c = s.mm (16 * (i + 1)) c - m
theorem getD_opt {l l' : List Nat} {k : Nat} (h : l[k]? = l'[k]?) : l.getD k 0 = l'.getD k 0 := by rw [List.getD_eq_getElem?_getD, List.getD_eq_getElem?_getD, h]
theorem lastW_two (las : List Nat) (a b : List (Nat × Nat)) : lastW las (a ++ b) = lastW (lastW las a) b := by simp [lastW]
theorem take_two {α : Type} (l : List α) (m q : Nat) : l.take (m + q) = l.take m ++ (l.drop m).take q := by rw [List.take_add]
theorem sh_last {s : St} (ok : s.Ok) {i j m : Nat} (hj : j < s.pend.length) (hm : m ≤ (s.pend.getD j []).length) : ∃ m', Sh s (s.last j m) i m' := by
  have hpl : ∀ k, (s.last j m).pend.getD k [] = if j = k then (s.pend.getD j []).drop m else s.pend.getD k [] := fun k => by
    show (s.pend.set j ((s.pend.getD j []).drop m)).getD k [] = _
    rw [List.getD_eq_getElem?_getD, List.getElem?_set]
    by_cases e : j = k
    · subst e; rw [if_pos rfl, if_pos hj, if_pos rfl]; rfl
    · rw [if_neg e, if_neg e, ← List.getD_eq_getElem?_getD]
  by_cases e : j = 16 * (i + 1)
  · subst e
    refine ⟨m, hm, ?_, fun q => ?_, fun c => ?_⟩
    · unfold pl
      rw [hpl, if_pos rfl, List.length_drop]
    · unfold fr
      rw [hpl, if_pos rfl]
      show ((lastW (lastW s.lasted ((s.pend.getD (16 * (i + 1)) []).take m)) _).getD _ 0, (lastW (lastW s.lasted ((s.pend.getD (16 * (i + 1)) []).take m)) _).getD _ 0) = _
      rw [take_two, lastW_two]
    · show umk s.mm (16 * (i + 1)) m (16 * (i + 1)) c = _
      rw [umk_at]
  · refine ⟨0, Nat.zero_le _, ?_, fun q => ?_, fun c => ?_⟩
    · unfold pl
      rw [hpl, if_neg e]; omega
    · have hloc : ∀ k, k / 8 = 16 * (i + 1) → (lastW (s.last j m).lasted ((s.pend.getD (16 * (i + 1)) []).take q)).getD k 0 = (lastW s.lasted ((s.pend.getD (16 * (i + 1)) []).take (0 + q))).getD k 0 := fun k hk => by
        rw [Nat.zero_add]
        refine getD_opt (lastW_local _ (lastW_length _ _) ?_)
        show (lastW s.lasted ((s.pend.getD j []).take m))[k]? = _
        refine lastW_far fun p hp => ?_
        have h1 := List.mem_of_mem_take hp
        rw [List.getD_eq_getElem?_getD] at h1
        cases hg : s.pend[j]? with
        | none => rw [hg] at h1; cases h1
        | some l =>
          rw [hg] at h1
          have h2 := ok.put j l hg p h1
          omega
      unfold fr
      rw [hpl, if_neg e, hloc _ (by omega), hloc _ (by omega)]
    · show umk s.mm j m (16 * (i + 1)) c = _
      rw [umk_far (fun h => e h.symm)]
      omega
theorem sh_fence {s : St} (ok : s.Ok) (hp : s.pend.length = s.nl) (hl : s.lasted.length = 8 * s.nl) {i c : Nat} (hi : 16 * (i + 1) < s.nl) : Sh s (s.fence c) i (s.mm (16 * (i + 1)) c) := by
  have hpl : (s.fence c).pend.getD (16 * (i + 1)) [] = (s.pend.getD (16 * (i + 1)) []).drop (s.mm (16 * (i + 1)) c) := by
    simp [St.fence, St.fenV, List.getD_eq_getElem?_getD, List.getElem?_mapIdx]
    rw [List.getElem?_eq_getElem (by omega)]
    simp
  have hla : ∀ k, k / 8 = 16 * (i + 1) → (s.fence c).lasted[k]? = (lastW s.lasted ((s.pend.getD (16 * (i + 1)) []).take (s.mm (16 * (i + 1)) c)))[k]? := fun k hk => by
    have hkl : k < s.lasted.length := by omega
    have h2 : k < (lastW s.lasted ((s.pend.getD (16 * (i + 1)) []).take (s.mm (16 * (i + 1)) c))).length := by rw [lastW_length]; exact hkl
    rw [List.getElem?_eq_getElem h2]
    have : (s.fence c).lasted[k]? = some ((lastW s.lasted ((s.pend.getD (k / 8) []).take (s.mm (k / 8) c))).getD k 0) := by
      simp [St.fence, St.fenV, List.getElem?_mapIdx, List.getElem?_eq_getElem hkl]
    rw [this, hk, List.getD_eq_getElem?_getD, List.getElem?_eq_getElem h2]
    rfl
  refine ⟨ok.mks _ _, ?_, fun q => ?_, fun c' => ?_⟩
  · unfold pl
    rw [hpl, List.length_drop]
  · have hloc : ∀ k, k / 8 = 16 * (i + 1) → (lastW (s.fence c).lasted (((s.pend.getD (16 * (i + 1)) []).drop (s.mm (16 * (i + 1)) c)).take q)).getD k 0 = (lastW s.lasted ((s.pend.getD (16 * (i + 1)) []).take (s.mm (16 * (i + 1)) c + q))).getD k 0 := fun k hk => by
      rw [take_two, lastW_two]
      refine getD_opt (lastW_local _ ?_ (hla k hk))
      rw [lastW_length]
      simp [St.fence, St.fenV]
    unfold fr
    rw [hpl, hloc _ (by omega), hloc _ (by omega)]
  · simp [St.fence, St.fenV]
theorem fr_store {s : St} (hp : s.pend.length = s.nl) (hl : s.lasted.length = 8 * s.nl) {i e v : Nat} (he : e < 2) (hi : 16 * (i + 1) < s.nl) :
    pl (s.store (1024 * (i + 1) + 8 * e) v) i = pl s i + 1 ∧ (∀ m, m ≤ pl s i → fr (s.store (1024 * (i + 1) + 8 * e) v) i m = fr s i m) ∧
    fr (s.store (1024 * (i + 1) + 8 * e) v) i (pl s i + 1) = (if e = 0 then v else (fr s i (pl s i)).1, if e = 0 then (fr s i (pl s i)).2 else v) := by
  have ha : (1024 * (i + 1) + 8 * e) / 64 = 16 * (i + 1) := by omega
  have ha8 : (1024 * (i + 1) + 8 * e) / 8 = 128 * (i + 1) + e := by omega
  have hpl : (s.store (1024 * (i + 1) + 8 * e) v).pend.getD (16 * (i + 1)) [] = s.pend.getD (16 * (i + 1)) [] ++ [(1024 * (i + 1) + 8 * e, v)] := by
    show (s.pend.set ((1024 * (i + 1) + 8 * e) / 64) (s.pend.getD ((1024 * (i + 1) + 8 * e) / 64) [] ++ [(1024 * (i + 1) + 8 * e, v)])).getD (16 * (i + 1)) [] = _
    rw [ha, List.getD_eq_getElem?_getD, List.getElem?_set, if_pos rfl, if_pos (by omega)]
    rfl
  refine ⟨by unfold pl; rw [hpl, List.length_append]; rfl, fun m hm => ?_, ?_⟩
  · unfold fr
    rw [hpl, List.take_append_of_le_length hm]
    rfl
  · have hfull : ∀ k, (lastW s.lasted ((s.pend.getD (16 * (i + 1)) []).take (pl s i))).getD k 0 = (lastW s.lasted (s.pend.getD (16 * (i + 1)) [])).getD k 0 := fun k => by unfold pl; rw [List.take_length]
    have hlen : (lastW s.lasted (s.pend.getD (16 * (i + 1)) [])).length = 8 * s.nl := by rw [lastW_length, hl]
    have hst : ∀ k, k < 8 * s.nl → (lastW (s.store (1024 * (i + 1) + 8 * e) v).lasted (((s.store (1024 * (i + 1) + 8 * e) v).pend.getD (16 * (i + 1)) []).take (pl s i + 1))).getD k 0 = if 128 * (i + 1) + e = k then v else (lastW s.lasted (s.pend.getD (16 * (i + 1)) [])).getD k 0 := fun k hk => by
      rw [hpl, List.take_of_length_le (by unfold pl; rw [List.length_append]; exact Nat.le_refl _), lastW_snoc, ha8, List.getD_eq_getElem?_getD, List.getElem?_set, show (s.store (1024 * (i + 1) + 8 * e) v).lasted = s.lasted from rfl]
      by_cases e2 : 128 * (i + 1) + e = k
      · rw [if_pos e2, if_pos e2, if_pos (by rw [hlen]; omega)]; rfl
      · rw [if_neg e2, if_neg e2, ← List.getD_eq_getElem?_getD]
    unfold fr
    rw [hst _ (by omega), hst _ (by omega), hfull, hfull]
    by_cases h0 : e = 0
    · subst h0; simp
    · obtain rfl : e = 1 := by omega
      simp
theorem fr_other {s : St} {i i' e v : Nat} (he : e < 2) (hn : i' ≠ i) : pl (s.store (1024 * (i + 1) + 8 * e) v) i' = pl s i' ∧ ∀ m, fr (s.store (1024 * (i + 1) + 8 * e) v) i' m = fr s i' m := by
  have hpl : (s.store (1024 * (i + 1) + 8 * e) v).pend.getD (16 * (i' + 1)) [] = s.pend.getD (16 * (i' + 1)) [] := by
    show (s.pend.set ((1024 * (i + 1) + 8 * e) / 64) _).getD (16 * (i' + 1)) [] = _
    rw [List.getD_eq_getElem?_getD, List.getElem?_set, if_neg (by omega), ← List.getD_eq_getElem?_getD]
  exact ⟨by unfold pl; rw [hpl], fun m => by unfold fr; rw [hpl]; rfl⟩
def okF (x : Hd) (p : Nat × Nat) : Prop := (p.1 = x.cls ∨ p.1 = 0 ∧ p.2 = 0) ∧ (∀ k, p.2.testBit k = true → ∃ v, x.bl[k]? = some v ∧ (v = 2 ∨ v = 3 ∨ v = 4)) ∧ ∀ k, x.bl[k]? = some 2 → p.2.testBit k = true
structure La6 (z : S6) : Prop where
  f : ∀ i x, z.hs[i]? = some x → ∀ m, m ≤ pl z.s i → okF x (fr z.s i m)
  b : ∀ i x, z.hs[i]? = some x → x.bits = (fr z.s i (pl z.s i)).2
  t1 : ∀ t ∈ z.T, ∀ x, z.hs[t.i]? = some x → 1 ≤ t.k → (fr z.s t.i (pl z.s t.i)).1 = x.cls
  t2 : ∀ t ∈ z.T, t.k = 2 → (fr z.s t.i (pl z.s t.i)).2.testBit t.j = decide (t.v = 4)
  t3 : ∀ t ∈ z.T, t.k = 3 → ∀ m, z.s.mm (16 * (t.i + 1)) t.cl ≤ m → m ≤ pl z.s t.i → (fr z.s t.i m).2.testBit t.j = decide (t.v = 4)
end Go.Proofs.YtahojhaeebmpoaaGreatDoor
/- What of the headers' lines may have lasted: so it stays, whatever the law's game does; plain facts. -/
namespace Go.Proofs.YtahojhaeebmpoaaGreatDoor
open Go.RowKit Go.Sort
set_option linter.unusedVariables false
theorem TnOk.lt {hs : List Hd} {t : Tu} (h : TnOk hs t) : t.i < hs.length := by
  obtain ⟨x, hx, _⟩ := h
  exact (List.getElem?_eq_some_iff.1 hx).1
theorem La6.shift {z : S6} (L : La6 z) (ht : ∀ t ∈ z.T, TnOk z.hs t) {s' : St} (h : ∀ i, i < z.hs.length → ∃ m, Sh z.s s' i m) : La6 ⟨s', z.hs, z.cls, z.L, z.T⟩ := by
  refine ⟨fun i x hx m hm => ?_, fun i x hx => ?_, fun t htm x hx hk => ?_, fun t htm hk => ?_, fun t htm hk m h1 h2 => ?_⟩
  · obtain ⟨m0, hs⟩ := h i (List.getElem?_eq_some_iff.1 hx).1
    show okF x (fr s' i m)
    rw [hs.fr]
    have hm' : m ≤ pl s' i := hm
    rw [hs.len] at hm'
    exact L.f i x hx _ (by have := hs.le; omega)
  · obtain ⟨m0, hs⟩ := h i (List.getElem?_eq_some_iff.1 hx).1
    show x.bits = (fr s' i (pl s' i)).2
    rw [hs.fr, hs.len, show m0 + (pl z.s i - m0) = pl z.s i from by have := hs.le; omega]
    exact L.b i x hx
  · obtain ⟨m0, hs⟩ := h t.i (ht t htm).lt
    show (fr s' t.i (pl s' t.i)).1 = _
    rw [hs.fr, hs.len, show m0 + (pl z.s t.i - m0) = pl z.s t.i from by have := hs.le; omega]
    exact L.t1 t htm x hx hk
  · obtain ⟨m0, hs⟩ := h t.i (ht t htm).lt
    show (fr s' t.i (pl s' t.i)).2.testBit t.j = _
    rw [hs.fr, hs.len, show m0 + (pl z.s t.i - m0) = pl z.s t.i from by have := hs.le; omega]
    exact L.t2 t htm hk
  · obtain ⟨m0, hs⟩ := h t.i (ht t htm).lt
    show (fr s' t.i m).2.testBit t.j = _
    have h1' : s'.mm (16 * (t.i + 1)) t.cl ≤ m := h1
    have h2' : m ≤ pl s' t.i := h2
    rw [hs.mks] at h1'
    rw [hs.len] at h2'
    rw [hs.fr]
    exact L.t3 t htm hk _ (by omega) (by have := hs.le; omega)
theorem okF.set {x : Hd} {p : Nat × Nat} (h : okF x p) {j v : Nat} (hj : j < x.bl.length) (h1 : v = 2 → p.2.testBit j = true) (h2 : p.2.testBit j = true → v = 2 ∨ v = 3 ∨ v = 4) : okF { x with bl := x.bl.set j v } p := by
  refine ⟨h.1, fun k hk => ?_, fun k hk => ?_⟩
  · show ∃ u, (x.bl.set j v)[k]? = some u ∧ _
    rw [List.getElem?_set]
    by_cases e : j = k
    · subst e; rw [if_pos rfl, if_pos hj]; exact ⟨v, rfl, h2 hk⟩
    · rw [if_neg e]; exact h.2.1 k hk
  · have hk' : (x.bl.set j v)[k]? = some 2 := hk
    rw [List.getElem?_set] at hk'
    by_cases e : j = k
    · subst e; rw [if_pos rfl, if_pos hj] at hk'; exact h1 (Option.some.inj hk')
    · rw [if_neg e] at hk'; exact h.2.2 k hk'
theorem set_cases {hs : List Hd} {i k : Nat} {y z : Hd} (hi : i < hs.length) (hz : (hs.set i y)[k]? = some z) : (k = i ∧ z = y) ∨ (k ≠ i ∧ hs[k]? = some z) := by
  rw [List.getElem?_set] at hz
  by_cases e : i = k
  · subst e; rw [if_pos rfl, if_pos hi] at hz; exact .inl ⟨rfl, (Option.some.inj hz).symm⟩
  · rw [if_neg e] at hz; exact .inr ⟨fun h => e h.symm, hz⟩
theorem La6.set_bl {z : S6} (L : La6 z) {i j v : Nat} {x : Hd} {cls' : List Nat} {L' : List (Nat × Nat)} {T' : List Tu} (hx : z.hs[i]? = some x) (hj : j < x.bl.length)
    (h1 : v = 2 → ∀ m, m ≤ pl z.s i → (fr z.s i m).2.testBit j = true) (h2 : ¬ (v = 2 ∨ v = 3 ∨ v = 4) → ∀ m, m ≤ pl z.s i → (fr z.s i m).2.testBit j = false) (hT : ∀ t ∈ T', t ∈ z.T ∨ t.k = 0) :
    La6 ⟨z.s, z.hs.set i { x with bl := x.bl.set j v }, cls', L', T'⟩ := by
  have hi := (List.getElem?_eq_some_iff.1 hx).1
  refine ⟨fun k y hy m hm => ?_, fun k y hy => ?_, fun t ht y hy hk => ?_, fun t ht hk => ?_, fun t ht hk => ?_⟩
  · rcases set_cases hi hy with ⟨rfl, rfl⟩ | ⟨_, hy⟩
    · refine (L.f k x hx m hm).set hj (fun e => h1 e m hm) fun hb => Decidable.byContradiction fun hn => ?_
      rw [h2 hn m hm] at hb
      cases hb
    · exact L.f k y hy m hm
  · rcases set_cases hi hy with ⟨rfl, rfl⟩ | ⟨_, hy⟩
    · exact L.b k x hx
    · exact L.b k y hy
  · rcases hT t ht with h | h
    · rcases set_cases hi hy with ⟨e, rfl⟩ | ⟨_, hy⟩
      · rw [← e] at hx; exact L.t1 t h x hx hk
      · exact L.t1 t h y hy hk
    · omega
  · rcases hT t ht with h | h
    · exact L.t2 t h hk
    · omega
  · rcases hT t ht with h | h
    · exact L.t3 t h hk
    · omega
theorem no_bits {b : Nat} (h : ∀ k, b.testBit k = true → False) : b = 0 := Nat.eq_of_testBit_eq fun k => by
  rw [Nat.zero_testBit]
  cases hb : b.testBit k with
  | false => rfl
  | true => exact (h k hb).elim
theorem La6.claim {z : S6} (L : La6 z) (ok : HsOk z.hs) (ht : ∀ t ∈ z.T, TnOk z.hs t) {i c : Nat} {x : Hd} (hx : z.hs[i]? = some x) (h0 : x.cls = 0) :
    La6 ⟨z.s, z.hs.set i ⟨x.no, c, 0, blK (blN c) 0 (blN c)⟩, z.cls, z.L, z.T⟩ := by
  have hi := (List.getElem?_eq_some_iff.1 hx).1
  have hl := (ok i x hx).2
  rw [h0] at hl
  have hbl : x.bl = [] := List.eq_nil_of_length_eq_zero hl
  have hz : ∀ m, m ≤ pl z.s i → (fr z.s i m).1 = 0 ∧ (fr z.s i m).2 = 0 := fun m hm => by
    have h := L.f i x hx m hm
    have hb : (fr z.s i m).2 = 0 := no_bits fun k hk => by
      obtain ⟨v, hv, _⟩ := h.2.1 k hk
      rw [hbl] at hv
      simp at hv
    refine ⟨?_, hb⟩
    rcases h.1 with h1 | ⟨h1, _⟩
    · rw [h1, h0]
    · exact h1
  have hne : ∀ t ∈ z.T, t.i ≠ i := fun t htm e => by
    obtain ⟨y, hy, hb, _⟩ := ht t htm
    rw [e, hx] at hy
    cases hy
    rw [hbl] at hb
    simp at hb
  refine ⟨fun k y hy m hm => ?_, fun k y hy => ?_, fun t htm y hy hk => ?_, L.t2, L.t3⟩
  · rcases set_cases hi hy with ⟨rfl, rfl⟩ | ⟨_, hy⟩
    · obtain ⟨h1, h2⟩ := hz m hm
      refine ⟨.inr ⟨h1, h2⟩, fun q hq => ?_, fun q hq => ?_⟩
      · have hq' : (fr z.s k m).2.testBit q = true := hq
        rw [h2, Nat.zero_testBit] at hq'
        cases hq'
      · have hq' : (blK (blN c) 0 (blN c))[q]? = some 2 := hq
        have := (List.getElem?_eq_some_iff.1 hq').1
        rw [blK_len] at this
        rw [blK_val this] at hq'
        simp at hq'
    · exact L.f k y hy m hm
  · rcases set_cases hi hy with ⟨rfl, rfl⟩ | ⟨_, hy⟩
    · exact (hz _ (Nat.le_refl _)).2.symm
    · exact L.b k y hy
  · rcases set_cases hi hy with ⟨e, rfl⟩ | ⟨_, hy⟩
    · exact absurd e (hne t htm)
    · exact L.t1 t htm y hy hk
theorem set_mem {T : List Tu} {q : Nat} {t u : Tu} {t' : Tu} (h2 : T.Pairwise fun t u => t.a ≠ u.a) (ht : T[q]? = some t) (hu : u ∈ T.set q t') : u = t' ∨ (u ∈ T ∧ u.a ≠ t.a) := by
  obtain ⟨p, hp⟩ := List.mem_iff_getElem?.1 hu
  rw [List.getElem?_set] at hp
  by_cases e : q = p
  · subst e
    rw [if_pos rfl, if_pos (List.getElem?_eq_some_iff.1 ht).1] at hp
    exact .inl (Option.some.inj hp).symm
  · rw [if_neg e] at hp
    exact .inr (erase_mem h2 ht (List.mem_eraseIdx_iff_getElem?.2 ⟨p, fun h => e h.symm, hp⟩))
theorem okF.free {x : Hd} {p : Nat × Nat} (h : okF x p) {j u : Nat} (hu : x.bl[j]? = some u) (hn : ¬ (u = 2 ∨ u = 3 ∨ u = 4)) : p.2.testBit j = false := by
  cases hb : p.2.testBit j with
  | false => rfl
  | true =>
    obtain ⟨v, hv, h3⟩ := h.2.1 j hb
    rw [hu] at hv
    cases hv
    exact absurd h3 hn
theorem ne_ij {hs : List Hd} {t u : Tu} (h : TnOk hs t) (h2 : TnOk hs u) (hn : t.a ≠ u.a) (hi : t.i = u.i) : t.j ≠ u.j := fun hj => h.ne_a h2 hn ⟨hi, hj⟩
theorem La6.step {n : Nat} {z z' : S6} (L : La6 z) (I : Inv6 n z) (ok : HsOk z.hs) (sok : z.s.Ok) (hp : z.s.pend.length = z.s.nl) (hl : z.s.lasted.length = 8 * z.s.nl) (hsz : 64 * z.s.nl = 1024 * (z.hs.length + 1)) (st : Step6 z z') : La6 z' := by
  have hnl : z.s.nl = 16 * (z.hs.length + 1) := by omega
  cases st with
  | stay => exact L
  | res hs1 hs' cls' L' c e hc1 hc3 hcl htk hw hlen =>
    have L1 : La6 ⟨z.s, hs1, z.cls, z.L, z.T⟩ := by
      rcases hcl with ⟨_, rfl⟩ | ⟨_, ⟨i, x, hz, hx, rfl⟩ | ⟨_, rfl⟩⟩
      · exact L
      · obtain ⟨⟨y, hy, h0⟩, _⟩ := hz
        rw [hx] at hy
        cases hy
        exact L.claim ok I.tn hx h0
      · exact L
    rcases htk with ⟨i, j, x, hx, _, hb, _, rfl, _⟩ | ⟨_, rfl, _⟩
    · exact L1.set_bl hx (List.getElem?_eq_some_iff.1 hb).1 (fun h => by omega) (fun _ m hm => (L1.f i x hx m hm).free hb (by omega)) (fun t ht => .inl ht)
    · exact ⟨L1.f, L1.b, L1.t1, L1.t2, L1.t3⟩
  | rel i j x hx hb => exact L.set_bl hx (List.getElem?_eq_some_iff.1 hb).1 (fun h => by omega) (fun _ m hm => (L.f i x hx m hm).free hb (by omega)) (fun t ht => .inl ht)
  | start i j x u v gt cl hx hb huv hcl =>
    refine L.set_bl hx (List.getElem?_eq_some_iff.1 hb).1 (fun h => by omega) (fun h => by omega) (fun t ht => ?_)
    rcases List.mem_append.1 ht with h | h
    · exact .inl h
    · rw [List.mem_singleton.1 h]; exact .inr rfl
  | t0 q t x ht hk hx =>
    have htm := List.mem_of_getElem? ht
    have hno := (ok t.i x hx).1
    have hi := (List.getElem?_eq_some_iff.1 hx).1
    obtain ⟨f1, f2, f3⟩ := fr_store hp hl (v := x.cls) (e := 0) (i := t.i) (by decide) (by omega)
    rw [Nat.mul_zero, Nat.add_zero, ← hno] at f1 f2 f3
    have fo := fun i' (h : i' ≠ t.i) => by
      have := fr_other (s := z.s) (i := t.i) (i' := i') (e := 0) (v := x.cls) (by decide) h
      rw [Nat.mul_zero, Nat.add_zero, ← hno] at this
      exact this
    simp only [if_pos] at f3
    have hold : ∀ u ∈ z.T.set q { t with k := 1 }, (u = { t with k := 1 }) ∨ u ∈ z.T := fun u hu => by
      rcases set_mem I.two ht hu with h | h
      · exact .inl h
      · exact .inr h.1
    refine ⟨fun k y hy m hm => ?_, fun k y hy => ?_, fun u hu y hy hk1 => ?_, fun u hu hk2 => ?_, fun u hu hk3 m h1 h2 => ?_⟩
    · by_cases e : k = t.i
      · subst e
        have hy : z.hs[t.i]? = some y := hy
        rw [hx] at hy
        cases hy
        have hm : m ≤ pl (z.s.store (1024 * x.no) x.cls) t.i := hm
        rw [f1] at hm
        show okF x (fr (z.s.store (1024 * x.no) x.cls) t.i m)
        by_cases e2 : m ≤ pl z.s t.i
        · rw [f2 m e2]; exact L.f t.i x hx m e2
        · rw [show m = pl z.s t.i + 1 from by omega, f3]
          have := L.f t.i x hx _ (Nat.le_refl _)
          exact ⟨.inl rfl, this.2.1, this.2.2⟩
      · obtain ⟨g1, g2⟩ := fo k e
        have hm : m ≤ pl (z.s.store (1024 * x.no) x.cls) k := hm
        rw [g1] at hm
        show okF y (fr (z.s.store (1024 * x.no) x.cls) k m)
        rw [g2]
        exact L.f k y hy m hm
    · show y.bits = (fr (z.s.store (1024 * x.no) x.cls) k (pl (z.s.store (1024 * x.no) x.cls) k)).2
      by_cases e : k = t.i
      · subst e; rw [f1, f3]; exact L.b t.i y hy
      · obtain ⟨g1, g2⟩ := fo k e
        rw [g1, g2]; exact L.b k y hy
    · show (fr (z.s.store (1024 * x.no) x.cls) u.i (pl (z.s.store (1024 * x.no) x.cls) u.i)).1 = y.cls
      by_cases e : u.i = t.i
      · rw [e, f1, f3]
        have hy : z.hs[u.i]? = some y := hy
        rw [e, hx] at hy
        cases hy
        rfl
      · obtain ⟨g1, g2⟩ := fo u.i e
        rw [g1, g2]
        rcases hold u hu with rfl | h
        · exact absurd rfl e
        · exact L.t1 u h y hy hk1
    · show (fr (z.s.store (1024 * x.no) x.cls) u.i (pl (z.s.store (1024 * x.no) x.cls) u.i)).2.testBit u.j = _
      rcases hold u hu with rfl | h
      · exact absurd (show (1 : Nat) = 2 from hk2) (by decide)
      · by_cases e : u.i = t.i
        · rw [e, f1, f3, ← e]; exact L.t2 u h hk2
        · obtain ⟨g1, g2⟩ := fo u.i e
          rw [g1, g2]; exact L.t2 u h hk2
    · show (fr (z.s.store (1024 * x.no) x.cls) u.i m).2.testBit u.j = _
      have h1 : z.s.mm (16 * (u.i + 1)) u.cl ≤ m := h1
      have h2 : m ≤ pl (z.s.store (1024 * x.no) x.cls) u.i := h2
      rcases hold u hu with rfl | h
      · exact absurd (show (1 : Nat) = 3 from hk3) (by decide)
      · by_cases e : u.i = t.i
        · rw [e, f1] at h2
          rw [e]
          by_cases e2 : m ≤ pl z.s t.i
          · rw [f2 m e2, ← e]; exact L.t3 u h hk3 m h1 (by rw [e]; exact e2)
          · rw [show m = pl z.s t.i + 1 from by omega, f3, ← e]
            exact L.t3 u h hk3 _ (sok.mks _ _) (Nat.le_refl _)
        · obtain ⟨g1, g2⟩ := fo u.i e
          rw [g1] at h2
          rw [g2]; exact L.t3 u h hk3 m h1 h2
  | t1 q t x ht hk hx =>
    have htm := List.mem_of_getElem? ht
    obtain ⟨x', hx', hv, _, h34, _, _⟩ := I.tn t htm
    rw [hx] at hx'
    cases hx'
    have hno := (ok t.i x hx).1
    have hi := (List.getElem?_eq_some_iff.1 hx).1
    have hjl := (List.getElem?_eq_some_iff.1 hv).1
    have hj64 : t.j < 64 := by have := (ok t.i x hx).2; have := blN_le x.cls; omega
    have hbb := bits_mem I.bits hx
    have hbit := bitV_bit (v := t.v) hbb hj64
    have hb0 := L.b t.i x hx
    have hcl := L.t1 t htm x hx (by omega)
    obtain ⟨W, hW⟩ : ∃ W, W = bitV t.v x.bits t.j := ⟨_, rfl⟩
    rw [← hW] at hbit ⊢
    obtain ⟨f1, f2, f3⟩ := fr_store hp hl (v := W) (e := 1) (i := t.i) (by decide) (by omega)
    rw [Nat.mul_one, ← hno] at f1 f2 f3
    have fo := fun i' (h : i' ≠ t.i) => by
      have := fr_other (s := z.s) (i := t.i) (i' := i') (e := 1) (v := W) (by decide) h
      rw [Nat.mul_one, ← hno] at this
      exact this
    have hone : ¬ ((1 : Nat) = 0) := by decide
    simp only [if_neg hone] at f3
    have hold : ∀ u ∈ z.T.set q { t with k := 2 }, (u = { t with k := 2 }) ∨ (u ∈ z.T ∧ u.a ≠ t.a) := fun u hu => set_mem I.two ht hu
    have hfull : okF x ((fr z.s t.i (pl z.s t.i)).1, W) := by
      have h := L.f t.i x hx _ (Nat.le_refl _)
      refine ⟨.inl hcl, fun k hk2 => ?_, fun k hk2 => ?_⟩
      · have hk2 : W.testBit k = true := hk2
        rw [hbit] at hk2
        by_cases e : t.j = k
        · subst e; exact ⟨t.v, hv, by omega⟩
        · rw [if_neg e, hb0] at hk2; exact h.2.1 k hk2
      · show W.testBit k = true
        rw [hbit]
        by_cases e : t.j = k
        · subst e; rw [hv] at hk2; have := Option.some.inj hk2; exfalso; omega
        · rw [if_neg e, hb0]; exact h.2.2 k hk2
    have bits : ∀ (u : Tu), u ∈ z.T → u.a ≠ t.a → u.i = t.i → W.testBit u.j = (fr z.s t.i (pl z.s t.i)).2.testBit u.j := fun u hu hua e => by
      rw [hbit, if_neg (fun h => ne_ij (I.tn u hu) (I.tn t htm) hua e h.symm), hb0]
    refine ⟨fun k y hy m hm => ?_, fun k y hy => ?_, fun u hu y hy hk1 => ?_, fun u hu hk2 => ?_, fun u hu hk3 m h1 h2 => ?_⟩
    · have hm : m ≤ pl (z.s.store (1024 * x.no + 8) W) k := hm
      show okF y (fr (z.s.store (1024 * x.no + 8) W) k m)
      rcases set_cases hi hy with ⟨rfl, rfl⟩ | ⟨e, hy⟩
      · rw [f1] at hm
        by_cases e2 : m ≤ pl z.s t.i
        · rw [f2 m e2]; exact L.f t.i x hx m e2
        · rw [show m = pl z.s t.i + 1 from by omega, f3]; exact hfull
      · obtain ⟨g1, g2⟩ := fo k e
        rw [g1] at hm
        rw [g2]
        exact L.f k y hy m hm
    · show y.bits = (fr (z.s.store (1024 * x.no + 8) W) k (pl (z.s.store (1024 * x.no + 8) W) k)).2
      rcases set_cases hi hy with ⟨rfl, rfl⟩ | ⟨e, hy⟩
      · rw [f1, f3]
      · obtain ⟨g1, g2⟩ := fo k e
        rw [g1, g2]; exact L.b k y hy
    · show (fr (z.s.store (1024 * x.no + 8) W) u.i (pl (z.s.store (1024 * x.no + 8) W) u.i)).1 = y.cls
      rcases set_cases hi hy with ⟨e, rfl⟩ | ⟨e, hy⟩
      · rw [e, f1, f3]; exact hcl
      · obtain ⟨g1, g2⟩ := fo u.i e
        rw [g1, g2]
        rcases hold u hu with rfl | ⟨h, _⟩
        · exact absurd rfl e
        · exact L.t1 u h y hy hk1
    · show (fr (z.s.store (1024 * x.no + 8) W) u.i (pl (z.s.store (1024 * x.no + 8) W) u.i)).2.testBit u.j = _
      rcases hold u hu with rfl | ⟨h, hua⟩
      · show (fr (z.s.store (1024 * x.no + 8) W) t.i (pl (z.s.store (1024 * x.no + 8) W) t.i)).2.testBit t.j = decide (t.v = 4)
        rw [f1, f3]
        show W.testBit t.j = _
        rw [hbit, if_pos rfl]
      · by_cases e : u.i = t.i
        · rw [e, f1, f3]
          show W.testBit u.j = _
          rw [bits u h hua e, ← e]; exact L.t2 u h hk2
        · obtain ⟨g1, g2⟩ := fo u.i e
          rw [g1, g2]; exact L.t2 u h hk2
    · show (fr (z.s.store (1024 * x.no + 8) W) u.i m).2.testBit u.j = _
      have h1 : z.s.mm (16 * (u.i + 1)) u.cl ≤ m := h1
      have h2 : m ≤ pl (z.s.store (1024 * x.no + 8) W) u.i := h2
      rcases hold u hu with rfl | ⟨h, hua⟩
      · exact absurd (show (2 : Nat) = 3 from hk3) (by decide)
      · by_cases e : u.i = t.i
        · rw [e, f1] at h2
          rw [e]
          by_cases e2 : m ≤ pl z.s t.i
          · rw [f2 m e2, ← e]; exact L.t3 u h hk3 m h1 (by rw [e]; exact e2)
          · rw [show m = pl z.s t.i + 1 from by omega, f3]
            show W.testBit u.j = _
            rw [bits u h hua e, ← e]
            exact L.t3 u h hk3 _ (sok.mks _ _) (Nat.le_refl _)
        · obtain ⟨g1, g2⟩ := fo u.i e
          rw [g1] at h2
          rw [g2]; exact L.t3 u h hk3 m h1 h2
  | t2 q t x ht hk hx =>
    have htm := List.mem_of_getElem? ht
    have hno := (ok t.i x hx).1
    have ha : 1024 * x.no / 64 = 16 * (t.i + 1) := by rw [hno]; omega
    have hmm : ∀ l c, (z.s.flush t.cl (1024 * x.no)).mm l c = if (z.s.pend.getD (16 * (t.i + 1)) []).length = 0 then z.s.mm l c else if l = 16 * (t.i + 1) then (if c = t.cl then (z.s.pend.getD (16 * (t.i + 1)) []).length else z.s.mm l c) else z.s.mm l c := fun l c => by
      show (if (z.s.pend.getD (1024 * x.no / 64) []).length = 0 then z.s.mm else upd z.s.mm (1024 * x.no / 64) fun k => if k = t.cl then (z.s.pend.getD (1024 * x.no / 64) []).length else z.s.mm (1024 * x.no / 64) k) l c = _
      rw [ha]
      by_cases e : (z.s.pend.getD (16 * (t.i + 1)) []).length = 0
      · rw [if_pos e, if_pos e]
      · rw [if_neg e, if_neg e]
        unfold upd
        by_cases e2 : l = 16 * (t.i + 1)
        · subst e2; simp
        · simp [e2]
    refine ⟨L.f, L.b, fun u hu y hy hk1 => ?_, fun u hu hk2 => ?_, fun u hu hk3 m h1 h2 => ?_⟩
    · rcases set_mem I.two ht hu with rfl | ⟨h, _⟩
      · exact L.t1 t htm y hy (by omega)
      · exact L.t1 u h y hy hk1
    · rcases set_mem I.two ht hu with rfl | ⟨h, _⟩
      · exact absurd (show (3 : Nat) = 2 from hk2) (by decide)
      · exact L.t2 u h hk2
    · have h1 : (z.s.flush t.cl (1024 * x.no)).mm (16 * (u.i + 1)) u.cl ≤ m := h1
      have h2 : m ≤ pl z.s u.i := h2
      show (fr z.s u.i m).2.testBit u.j = _
      rw [hmm] at h1
      rcases set_mem I.two ht hu with rfl | ⟨h, _⟩
      · show (fr z.s t.i m).2.testBit t.j = decide (t.v = 4)
        have h2 : m ≤ pl z.s t.i := h2
        have hm : m = pl z.s t.i := by
          by_cases e : (z.s.pend.getD (16 * (t.i + 1)) []).length = 0
          · unfold pl at h2 ⊢; omega
          · rw [if_neg e, if_pos rfl, if_pos rfl] at h1
            unfold pl at h2 ⊢; omega
        rw [hm]
        exact L.t2 t htm hk
      · refine L.t3 u h hk3 m ?_ h2
        by_cases e : (z.s.pend.getD (16 * (t.i + 1)) []).length = 0
        · rw [if_pos e] at h1; exact h1
        · rw [if_neg e] at h1
          by_cases e2 : 16 * (u.i + 1) = 16 * (t.i + 1)
          · rw [if_pos e2] at h1
            by_cases e3 : u.cl = t.cl
            · rw [if_pos e3] at h1
              have := sok.mks (16 * (u.i + 1)) u.cl
              rw [e2] at this ⊢
              omega
            · rw [if_neg e3] at h1; exact h1
          · rw [if_neg e2] at h1; exact h1
  | t3 q t x ht hk hx =>
    have htm := List.mem_of_getElem? ht
    obtain ⟨x', hx', hv, _, h34, _, _⟩ := I.tn t htm
    rw [hx] at hx'
    cases hx'
    have hi := (List.getElem?_eq_some_iff.1 hx).1
    have hsh := fun i (h : i < z.hs.length) => sh_fence (i := i) (c := t.cl) sok hp hl (by omega)
    have L1 := L.shift I.tn (fun i h => ⟨_, hsh i h⟩)
    have hall : ∀ m, m ≤ pl (z.s.fence t.cl) t.i → (fr (z.s.fence t.cl) t.i m).2.testBit t.j = decide (t.v = 4) := fun m hm => by
      have h := hsh t.i hi
      rw [h.len] at hm
      rw [h.fr]
      exact L.t3 t htm hk _ (Nat.le_add_right _ _) (by have := h.le; omega)
    refine L1.set_bl hx (List.getElem?_eq_some_iff.1 hv).1 (fun h2 m hm => ?_) (fun h2 m hm => ?_) (fun u hu => .inl (erase_mem I.two ht hu).1)
    · rw [hall m hm]
      unfold settled at h2
      by_cases e : t.v = 4
      · simp [e]
      · rw [if_neg e] at h2; omega
    · rw [hall m hm]
      unfold settled at h2
      by_cases e : t.v = 4
      · rw [if_pos e] at h2; omega
      · simp [e]
  | ev i m hi hm2 => exact L.shift I.tn (fun k hk => sh_last sok (by omega) hm2)
end Go.Proofs.YtahojhaeebmpoaaGreatDoor
/- What an image of what has lasted says of the blocks, in the law's game; plain facts. -/
namespace Go.Proofs.YtahojhaeebmpoaaGreatDoor
open Go.RowKit Go.Sort
set_option linter.unusedVariables false
def FrS (s s' : St) (i : Nat) : Prop := ∀ q, q ≤ pl s' i → ∃ m, m ≤ pl s i ∧ fr s' i q = fr s i m
theorem FrS.refl (s : St) (i : Nat) : FrS s s i := fun q h => ⟨q, h, rfl⟩
theorem FrS.trans {s s1 s2 : St} {i : Nat} (h : FrS s s1 i) (h2 : FrS s1 s2 i) : FrS s s2 i := fun q hq => by
  obtain ⟨m, hm, e⟩ := h2 q hq
  obtain ⟨m2, hm2, e2⟩ := h m hm
  exact ⟨m2, hm2, e.trans e2⟩
theorem Sh.frs {s s' : St} {i m : Nat} (h : Sh s s' i m) : FrS s s' i := fun q hq => by
  rw [h.len] at hq
  exact ⟨m + q, by have := h.le; omega, h.fr q⟩
theorem frs_lose (s : St) (j i : Nat) : FrS s (s.lose j) i := fun q hq => by
  have hpl : (s.lose j).pend.getD (16 * (i + 1)) [] = s.pend.getD (16 * (i + 1)) [] ∨ (s.lose j).pend.getD (16 * (i + 1)) [] = [] := by
    show (s.pend.set j []).getD (16 * (i + 1)) [] = _ ∨ (s.pend.set j []).getD (16 * (i + 1)) [] = []
    rw [List.getD_eq_getElem?_getD, List.getElem?_set]
    by_cases e : j = 16 * (i + 1)
    · right
      rw [if_pos e]
      split <;> rfl
    · left
      rw [if_neg e, ← List.getD_eq_getElem?_getD]
  rcases hpl with h | h
  · refine ⟨q, ?_, ?_⟩
    · unfold pl at hq ⊢; rw [h] at hq; exact hq
    · unfold fr; rw [h]; rfl
  · refine ⟨0, Nat.zero_le _, ?_⟩
    unfold fr
    rw [h, List.take_nil, List.take_zero]
    rfl
theorem frs_crashTo {keep : List Int} {i : Nat} : ∀ (xs : List (Nat × Nat)) (s : St), s.Ok → (∀ x ∈ xs, x.2 < s.pend.length) → FrS s (s.crashTo keep xs) i
  | [], s, _, _ => FrS.refl s i
  | x :: t, s, ok, h => by
    have hx := h x (by simp)
    have hk := keptN_le keep x.1 (s.pend.getD x.2 []).length
    obtain ⟨m, hsh⟩ := sh_last (i := i) ok hx hk
    have ok1 := last_Ok ok hx hk
    have hl1 : (s.last x.2 (keptN keep x.1 (s.pend.getD x.2 []).length)).pend.length = s.pend.length := by simp [St.last]
    have ok2 : (s.crash1 keep x).Ok := lose_Ok ok1 (by rw [hl1]; exact hx)
    have hl2 : (s.crash1 keep x).pend.length = s.pend.length := by simp [St.crash1, St.lose, St.last]
    exact (hsh.frs.trans (frs_lose _ x.2 i)).trans (frs_crashTo t (s.crash1 keep x) ok2 (fun q hq => by rw [hl2]; exact h q (by simp [hq])))
theorem frs_crash {s : St} (ok : s.Ok) (keep : List Int) (i : Nat) : FrS s (s.crash keep) i := frs_crashTo (nz s.pend) s ok fun x hx => by
  have := nzFrom_bound s.pend 0 0 x hx
  omega
theorem crash_las {s : St} (keep : List Int) : (s.crash keep).lasted.length = s.lasted.length := by
  unfold St.crash
  have : ∀ (xs : List (Nat × Nat)) (s : St), (s.crashTo keep xs).lasted.length = s.lasted.length := by
    intro xs
    induction xs with
    | nil => intro s; rfl
    | cons x t ih =>
      intro s
      rw [show s.crashTo keep (x :: t) = (s.crash1 keep x).crashTo keep t from rfl, ih]
      show (lastW s.lasted _).length = _
      rw [lastW_length]
  exact this _ _
theorem ofB_wbytes6 {n : Nat} (h : n < 18446744073709551616) : ofB (wbytes n) = n := by
  have e : wbytes n = [wbyt n 0, wbyt n 1, wbyt n 2, wbyt n 3, wbyt n 4, wbyt n 5, wbyt n 6, wbyt n 7] := rfl
  rw [e]
  simp only [ofB, wbyt, Nat.pow_zero, Nat.div_one, Nat.reducePow]
  omega
theorem bytesL_word6 : ∀ (ws : List Nat) (i : Nat) (hi : i < ws.length), ((bytesL ws).drop (8 * i)).take 8 = wbytes ws[i]
  | a :: t, 0, _ => by
    show (wbytes a ++ bytesL t).take 8 = wbytes a
    rw [List.take_append_of_le_length (by rw [wbytes_length]; exact Nat.le_refl _), List.take_of_length_le (by rw [wbytes_length]; exact Nat.le_refl _)]
  | a :: t, i + 1, hi => by
    show ((wbytes a ++ bytesL t).drop (8 * (i + 1))).take 8 = _
    rw [show 8 * (i + 1) = (wbytes a).length + 8 * i by rw [wbytes_length]; omega, List.drop_append, List.drop_of_length_le (by omega), List.nil_append, Nat.add_sub_cancel_left]
    exact bytesL_word6 t i (by simpa using hi)
theorem pw_words6 {ws : List Nat} (hb : ∀ x ∈ ws, x < 18446744073709551616) {i : Nat} (hi : i < ws.length) : pw (bytesL ws) (bytesL ws).length i = ws.getD i 0 := by
  unfold pw
  rw [List.take_length, bytesL_word6 ws i hi, ofB_wbytes6 (hb _ (List.getElem_mem hi)), List.getD_eq_getElem?_getD, List.getElem?_eq_getElem hi]
  rfl
theorem heads_of {s : St} (ok : s.Ok) {i : Nat} (hi : 128 * (i + 1) + 1 < s.lasted.length) : (hcW (bytesL s.lasted) i, hbW (bytesL s.lasted) i) = fr s i 0 := by
  unfold hcW hbW fr
  rw [pw_words6 ok.las (by omega), pw_words6 ok.las hi, List.take_zero]
  rfl
theorem mayS_of {b n : Nat} (h : ∀ k, b.testBit k = true → k < n) : mayS b (n : Int) = true := by
  unfold mayS
  refine decide_eq_true fun x hx => ?_
  have := h x (List.mem_filter.1 hx).2
  omega
theorem okF.head {x : Hd} {p : Nat × Nat} (h : okF x p) (hl : x.bl.length = blN x.cls) (h3 : x.cls ≤ 3) : okHead p.1 p.2 = true := by
  unfold okHead
  have hk : ∀ k, p.2.testBit k = true → k < blN x.cls := fun k hk => by
    obtain ⟨v, hv, _⟩ := h.2.1 k hk
    rw [← hl]
    exact (List.getElem?_eq_some_iff.1 hv).1
  rw [Bool.and_eq_true]
  rcases h.1 with h1 | ⟨h1, h2⟩
  · rw [h1]; exact ⟨decide_eq_true h3, mayS_of hk⟩
  · rw [h1, h2]; exact ⟨rfl, mayS_of fun k hk => by rw [Nat.zero_testBit] at hk; cases hk⟩
theorem fits_plain {z : S6} (L : La6 z) (W : W6Is z.hs z.cls z.L) (ok : HsOk z.hs) (hm : z.hs.length ≤ 64) (h3 : ∀ x ∈ z.hs, x.cls ≤ 3) {l : List Nat} (hb : ∀ x ∈ l, x < 256) (hd : ∀ i, i < z.hs.length → ∃ m, m ≤ pl z.s i ∧ (hcW l i, hbW l i) = fr z.s i m) :
    okHeads l z.hs.length ∧ (∀ p ∈ LK l z.hs.length, isL z.L p.1 = 2 ∨ isL z.L p.1 = 3 ∨ isL z.L p.1 = 4) ∧ (∀ p ∈ z.L, p.2 = 2 → isL (LK l z.hs.length) p.1 = 2) ∧ (∀ i, i < z.hs.length → hcW l i ≠ 0 → z.cls[i]? = some (hcW l i)) := by
  have hF : ∀ i x, z.hs[i]? = some x → okF x (hcW l i, hbW l i) := fun i x hx => by
    obtain ⟨m, h1, h2⟩ := hd i (List.getElem?_eq_some_iff.1 hx).1
    rw [h2]
    exact L.f i x hx m h1
  have hok : okHeads l z.hs.length := fun q hq => (hF q _ (List.getElem?_eq_getElem hq)).head (ok q _ (List.getElem?_eq_getElem hq)).2 (h3 _ (List.getElem_mem hq))
  have hini := ini_is hb hm hok
  refine ⟨hok, fun p hp => ?_, fun p hp h2 => ?_, fun i hi hc => ?_⟩
  · obtain ⟨q, k, hq, _, hbit, rfl⟩ := LK_mem.1 hp
    have hx := List.getElem?_eq_getElem hq
    have h := hF q _ hx
    obtain ⟨v, hv, hv2⟩ := h.2.1 k hbit
    have hkl := (List.getElem?_eq_some_iff.1 hv).1
    have hcls : hcW l q = (z.hs[q]).cls := by
      rcases h.1 with h1 | ⟨_, h1⟩
      · exact h1
      · have h1 : hbW l q = 0 := h1
        rw [h1, Nat.zero_testBit] at hbit
        cases hbit
    have := W.at_ (adr (q + 1) (hcW l q) k) v (.inl ⟨q, k, _, hx, hkl, by rw [(ok q _ hx).1, hcls], hv⟩)
    show isL z.L (adr (q + 1) (hcW l q) k) = 2 ∨ _ ∨ _
    rw [this]
    exact hv2
  · obtain ⟨v, hv⟩ := isAt_some z.hs p.1
    have h4 := W.at_ p.1 v hv
    have h5 := isL_mem W.nd hp
    rw [h4, h2] at h5
    subst h5
    rcases hv with ⟨i, j, x, hx, hj, ha, hbl⟩ | ⟨_, h0⟩
    · have h := hF i x hx
      have hbit := h.2.2 j hbl
      have hi := (List.getElem?_eq_some_iff.1 hx).1
      have hcls : hcW l i = x.cls := by
        rcases h.1 with h1 | ⟨_, h1⟩
        · exact h1
        · have h1 : hbW l i = 0 := h1
          have hbit : (hbW l i).testBit j = true := hbit
          rw [h1, Nat.zero_testBit] at hbit
          cases hbit
      have hjn : j < blN (hcW l i) := by rw [hcls, ← (ok i x hx).2]; exact hj
      refine hini.at_ p.1 2 (.inl ⟨i, j, hdOf (hcW l) (hbW l) i, by rw [hsK_get hi, if_pos hi], ?_, ?_, ?_⟩)
      · show j < (blK _ _ _).length
        rw [blK_len]; exact hjn
      · show adr (i + 1) (hcW l i) j = p.1
        rw [hcls, ← (ok i x hx).1]; exact ha
      · show (blK (blN (hcW l i)) (hbW l i) (blN (hcW l i)))[j]? = some 2
        rw [blK_val hjn, if_pos hbit]
    · cases h0
  · have hx := List.getElem?_eq_getElem hi
    have h := hF i _ hx
    rw [W.cls, List.getElem?_map, hx]
    rcases h.1 with h1 | ⟨h1, _⟩
    · have h1 : hcW l i = _ := h1
      rw [h1]; rfl
    · exact absurd h1 hc
theorem ini6_la {l : List Nat} {n : Nat} (hl : l.length = 1024 * (n + 1)) (hb : ∀ x ∈ l, x < 256) (ok : okHeads l n) : La6 (ini6 l n) := by
  have hpl : ∀ i, (ini6 l n).s.pend.getD (16 * (i + 1)) [] = [] := fun i => by
    show (List.replicate (16 * (n + 1)) ([] : List (Nat × Nat))).getD _ [] = []
    rw [List.getD_eq_getElem?_getD, List.getElem?_replicate]
    split <;> rfl
  have hpl0 : ∀ i, pl (ini6 l n).s i = 0 := fun i => by unfold pl; rw [hpl]; rfl
  have hfr : ∀ i m, i < n → fr (ini6 l n).s i m = (hcW l i, hbW l i) := fun i m hi => by
    have hw : ∀ k, k < 8 * (16 * (n + 1)) → (ini6 l n).s.lasted.getD k 0 = pw l l.length k := fun k hk => by
      show (wordsK l (64 * (16 * (n + 1))) (8 * (16 * (n + 1)))).getD k 0 = _
      rw [List.getD_eq_getElem?_getD, wordsK_get hk, show 64 * (16 * (n + 1)) = l.length from by omega]
      rfl
    unfold fr
    rw [hpl, List.take_nil]
    show ((ini6 l n).s.lasted.getD _ 0, (ini6 l n).s.lasted.getD _ 0) = _
    rw [hw _ (by omega), hw _ (by omega)]
    rfl
  have hget : ∀ i x, (ini6 l n).hs[i]? = some x → i < n ∧ x = hdOf (hcW l) (hbW l) i := fun i x hx => by
    have hx : (hsK (hcW l) (hbW l) n n)[i]? = some x := hx
    have hi : i < n := by have := (List.getElem?_eq_some_iff.1 hx).1; rwa [hsK_len] at this
    rw [hsK_get hi, if_pos hi] at hx
    exact ⟨hi, (Option.some.inj hx).symm⟩
  refine ⟨fun i x hx m _ => ?_, fun i x hx => ?_, fun t ht => (by cases ht), fun t ht => (by cases ht), fun t ht => (by cases ht)⟩
  · obtain ⟨hi, rfl⟩ := hget i x hx
    rw [hfr i m hi]
    have hbits := okHead_bits (ok i hi) (hbW_fit hb i)
    refine ⟨.inl rfl, fun k hk => ?_, fun k hk => ?_⟩
    · have hk : (hbW l i).testBit k = true := hk
      refine ⟨2, ?_, .inl rfl⟩
      show (blK (blN (hcW l i)) (hbW l i) (blN (hcW l i)))[k]? = some 2
      rw [blK_val (hbits.2 k hk), if_pos hk]
    · have hk : (blK (blN (hcW l i)) (hbW l i) (blN (hcW l i)))[k]? = some 2 := hk
      have hkn := (List.getElem?_eq_some_iff.1 hk).1
      rw [blK_len] at hkn
      rw [blK_val hkn] at hk
      show (hbW l i).testBit k = true
      by_cases e : (hbW l i).testBit k = true
      · exact e
      · rw [if_neg e] at hk; simp at hk
  · obtain ⟨hi, rfl⟩ := hget i x hx
    rw [hfr i _ hi]
    rfl
end Go.Proofs.YtahojhaeebmpoaaGreatDoor
