/- Texts of this claim, packed: 6Do2, 6Do3o, 6Do4s, 6Do4o. -/
import Derived.Test.YtahojhaeebmpoaaGreatDoorPq40
import Derived.Deep.QuietTactic
import Derived.Deep.DeepCutAuto
import Derived.Deep.CutBlock
/- The law's game, an act: Release. -/
namespace Go.Proofs.YtahojhaeebmpoaaGreatDoor
open Go Go.RowKit Go.Sort
set_option linter.unusedVariables false
end Go.Proofs.YtahojhaeebmpoaaGreatDoor
/- The law's game, an act: Publish. -/
namespace Go.Proofs.YtahojhaeebmpoaaGreatDoor
open Go Go.RowKit Go.Sort
set_option linter.unusedVariables false
set_option maxRecDepth 100000 in
set_option maxHeartbeats 4000000 in
theorem gdo6_3_o {w0 w : World} {P0 : Nat → Prop} {B size gg mg gs gw N : Nat} {z : S6} (G : GD w0 P0 B size gg mg gs gw (RQ z) w) (hI : Inv6 N z) (hN : N ≤ 700) (n : Int) (cl : Nat) (a : Nat) (b : Nat) (hb : blkOf z.L n a = b) (hc : cl ≤ 64) {i j : Nat} {x : Hd} (hx : z.hs[i]? = some x) (hj : x.bl[j]? = some 1) (ha : adr x.no x.cls j = b) :
    Calls Tryz.prog 18 #[.pointer (some ⟨gg, 0, none⟩), .agg #[.int .i64 3, .int .i64 n, .int .u64 (a : Int), .int .i64 (cl : Int)]] w (Do6P w0 P0 B size gg mg gs gw z (fun z' => ∃ gt, z' = ⟨z.s, z.hs.set i { x with bl := x.bl.set j 4 }, z.cls, setL z.L b 4, z.T ++ [⟨gt, i, j, b, cl, 0, 4⟩]⟩)) := by
  have hL := hI.ll
  obtain ⟨W1, P, hg, hA, hback⟩ := G.start 3 n (cl : Int) a
  have H := Lib.hid hg
  have HA := Lib.hid hA
  have HBK := Lib.hid hback
  have HI0 := Lib.hid hI
  have HOK := Lib.hid G.ok
  have EGsPublish := Lib.hid (enters_of Tryz.func31 (by kernel_rfl) rfl)
  have EGsame6 := Lib.hid (enters_of Tryz.func11 (by kernel_rfl) rfl)
  have mixed : Tryz.prog.follows .mixedOrders = true := by kernel_rfl
  clear G hg hA hback hI
  have HLL := Lib.hid (show z.L.length ≤ 1000000 by omega)
  clear hL
  have HC := Lib.hid hc
  have HX := Lib.hid hx
  have HJ := Lib.hid hj
  have HAD := Lib.hid ha
  clear hc hx hj ha
  have hr0 : Row (w.alloc (.cells #[.int .i64 3, .int .i64 n, .int .u64 (a : Int), .int .i64 (cl : Int)] 45)) w.heap.size 45 #[.int .i64 3, .int .i64 n, .int .u64 (a : Int), .int .i64 (cl : Int)] := Row.new _ _ _
  have HROW := Lib.hid hr0
  have HBL := H.out.block HLL.out 3 n (cl : Int) a
  rw [hb] at HBL
  have HBL := Lib.hid HBL
  clear hr0 hb
  obtain ⟨s0, s1, s2, s3, s4, s5⟩ := H.out.sg HA.out
  go_enter Tryz.func18, Tryz.ntmps18
  go_wp2_with (refine wpList_load_row rfl 45 _ rfl w.heap.size rfl 45 _ _ _ HROW.out Tryz.underlying45 rfl (by kernel_rfl) ?_)
  refine HBL.out.mono ?_
  rintro e y0 ⟨rfl, hH⟩
  clear s0 s1 s2 s3 s4 s5 H HROW HBL
  have H := Lib.hid hH
  clear hH
  obtain ⟨s0, s1, s2, s3, s4, s5⟩ := H.out.sg HA.out
  clear s0 s1 s2 s3 s4 s5
  go_upto_region 16 with (fail)
  refine wp_region_noPanic ?_
  refine wp_region_held_drew (S := SG6 gg w.heap.size mg gs gw n a (cl : Int)) (by kernel_rfl) (H.out.drew.sg HA.out) (fun hHeld => ?_)
  have H2 := Lib.hid H.out.drew
  clear H
  have H := H2
  clear H2
  refine wpAnyH_take (i := 0) (oi := ⟨some 84, _, _, _, _, _⟩) (v := .pointer (some ⟨gg, 0, none⟩)) rfl (by kernel_rfl) (by kernel_rfl) (by kernel_rfl) (fun _ _ _ h => h) (Or.inl ⟨by kernel_rfl, by intro WW hSw; obtain ⟨s0, s1, s2, s3, s4, s5⟩ := hSw; go_simp⟩) (by assumption) ?_
  (try simp only [Act.put, List.setIfInBounds_toArray, List.set_cons_zero, List.set_cons_succ])
  refine wpAnyH_take (i := 1) (oi := ⟨some 85, _, _, _, _, _⟩) (v := .pointer (some ⟨gg, 0, none⟩)) rfl (by kernel_rfl) (by kernel_rfl) (by kernel_rfl) (fun _ _ _ h => h) (Or.inl ⟨by kernel_rfl, by intro WW hSw; obtain ⟨s0, s1, s2, s3, s4, s5⟩ := hSw; go_simp⟩) (by assumption) ?_
  (try simp only [Act.put, List.setIfInBounds_toArray, List.set_cons_zero, List.set_cons_succ])
  refine wpAnyH_take (i := 2) (oi := ⟨some 86, _, _, _, _, _⟩) (v := .pointer (some ⟨gg, 1, none⟩)) rfl (by kernel_rfl) (by kernel_rfl) (by kernel_rfl) (fun _ _ _ h => h) (Or.inl ⟨by kernel_rfl, by intro WW hSw; obtain ⟨s0, s1, s2, s3, s4, s5⟩ := hSw; go_simp⟩) (by assumption) ?_
  (try simp only [Act.put, List.setIfInBounds_toArray, List.set_cons_zero, List.set_cons_succ])
  refine wpAnyH_take (i := 3) (oi := ⟨some 87, _, _, _, _, _⟩) (v := .pointer (some ⟨gs, 0, none⟩)) rfl (by kernel_rfl) (by kernel_rfl) (by kernel_rfl) (fun _ _ _ h => h) (Or.inl ⟨by kernel_rfl, by intro WW hSw; obtain ⟨s0, s1, s2, s3, s4, s5⟩ := hSw; go_simp⟩) (by assumption) ?_
  (try simp only [Act.put, List.setIfInBounds_toArray, List.set_cons_zero, List.set_cons_succ])
  refine wpAnyH_take (i := 4) (oi := ⟨some 88, _, _, _, _, _⟩) (v := .pointer (some ⟨gg, 0, none⟩)) rfl (by kernel_rfl) (by kernel_rfl) (by kernel_rfl) (fun _ _ _ h => h) (Or.inl ⟨by kernel_rfl, by intro WW hSw; obtain ⟨s0, s1, s2, s3, s4, s5⟩ := hSw; go_simp⟩) (by assumption) ?_
  (try simp only [Act.put, List.setIfInBounds_toArray, List.set_cons_zero, List.set_cons_succ])
  refine wpAnyH_take (i := 5) (oi := ⟨some 89, _, _, _, _, _⟩) (v := .pointer (some ⟨gg, 0, none⟩)) rfl (by kernel_rfl) (by kernel_rfl) (by kernel_rfl) (fun _ _ _ h => h) (Or.inl ⟨by kernel_rfl, by intro WW hSw; obtain ⟨s0, s1, s2, s3, s4, s5⟩ := hSw; go_simp⟩) (by assumption) ?_
  (try simp only [Act.put, List.setIfInBounds_toArray, List.set_cons_zero, List.set_cons_succ])
  refine wpAnyH_take (i := 6) (oi := ⟨some 90, _, _, _, _, _⟩) (v := .pointer (some ⟨gg, 0, none⟩)) rfl (by kernel_rfl) (by kernel_rfl) (by kernel_rfl) (fun _ _ _ h => h) (Or.inl ⟨by kernel_rfl, by intro WW hSw; obtain ⟨s0, s1, s2, s3, s4, s5⟩ := hSw; go_simp⟩) (by assumption) ?_
  (try simp only [Act.put, List.setIfInBounds_toArray, List.set_cons_zero, List.set_cons_succ])
  refine wpAnyH_take (i := 7) (oi := ⟨some 91, _, _, _, _, _⟩) (v := .pointer (some ⟨mg, 0, none⟩)) rfl (by kernel_rfl) (by kernel_rfl) (by kernel_rfl) (fun _ _ _ h => h) (Or.inl ⟨by kernel_rfl, by intro WW hSw; obtain ⟨s0, s1, s2, s3, s4, s5⟩ := hSw; go_simp⟩) (by assumption) ?_
  (try simp only [Act.put, List.setIfInBounds_toArray, List.set_cons_zero, List.set_cons_succ])
  refine wpAnyH_take (i := 8) (oi := ⟨some 92, _, _, _, _, _⟩) (v := .pointer (some ⟨w.heap.size, 3, none⟩)) rfl (by kernel_rfl) (by kernel_rfl) (by kernel_rfl) (fun _ _ _ h => h) (Or.inl ⟨by kernel_rfl, by intro WW hSw; obtain ⟨s0, s1, s2, s3, s4, s5⟩ := hSw; go_simp⟩) (by assumption) ?_
  (try simp only [Act.put, List.setIfInBounds_toArray, List.set_cons_zero, List.set_cons_succ])
  refine wpAnyH_take (i := 9) (oi := ⟨some 93, _, _, _, _, _⟩) (v := .int .i64 (cl : Int)) rfl (by kernel_rfl) (by kernel_rfl) (by kernel_rfl) (fun _ _ _ h => h) (Or.inl ⟨by kernel_rfl, by intro WW hSw; obtain ⟨s0, s1, s2, s3, s4, s5⟩ := hSw; go_simp⟩) (by assumption) ?_
  (try simp only [Act.put, List.setIfInBounds_toArray, List.set_cons_zero, List.set_cons_succ])
  refine wpAnyH_take (i := 10) (oi := ⟨some 94, _, _, _, _, _⟩) (v := .int .u64 (b : Int)) rfl (by kernel_rfl) (by kernel_rfl) (by kernel_rfl) (fun _ _ _ h => h) (Or.inl ⟨by kernel_rfl, by intro WW hSw; obtain ⟨s0, s1, s2, s3, s4, s5⟩ := hSw; go_simp⟩) (by assumption) ?_
  (try simp only [Act.put, List.setIfInBounds_toArray, List.set_cons_zero, List.set_cons_succ])
  refine wpAnyH_one (i := 11) (oi := ⟨_, _, _, _, _, _⟩) rfl (by kernel_rfl) (fun K hK => ?_)
  refine step_calls (by rfl) 31 EGsPublish.out [.tmp 87, .tmp 91, .tmp 93, .tmp 94] _ rfl [.pointer (some ⟨gs, 0, none⟩), .pointer (some ⟨mg, 0, none⟩), .int .i64 (cl : Int), .int .u64 (b : Int)] rfl (H.out.pub_ok HC.out HX.out HJ.out HAD.out) ?_
  rintro e x1 ⟨gt, rfl, hH⟩
  refine ⟨_, rfl, hK _ _ (hH.sg HA.out) (fun _ => ?_)⟩
  have hHeld := hH.sg HA.out
  clear hK K H
  have H := Lib.hid hH
  clear hH
  (try simp only [Act.put, List.setIfInBounds_toArray, List.set_cons_zero, List.set_cons_succ])
  refine wpAnyH_take (i := 12) (oi := ⟨some 83, _, _, _, _, _⟩) (v := .tuple #[.pointer (some ⟨gt, 0, none⟩), .int .i64 0]) rfl (by kernel_rfl) (by kernel_rfl) (by kernel_rfl) (fun _ _ _ h => h) (Or.inl ⟨by kernel_rfl, by intro WW hSw; obtain ⟨s0, s1, s2, s3, s4, s5⟩ := hSw; go_simp⟩) (by assumption) ?_
  (try simp only [Act.put, List.setIfInBounds_toArray, List.set_cons_zero, List.set_cons_succ])
  refine wpAnyH_take (i := 13) (oi := ⟨some 96, _, _, _, _, _⟩) (v := .pointer (some ⟨gt, 0, none⟩)) rfl (by kernel_rfl) (by kernel_rfl) (by kernel_rfl) (fun _ _ _ h => h) (Or.inl ⟨by kernel_rfl, by intro WW hSw; obtain ⟨s0, s1, s2, s3, s4, s5⟩ := hSw; go_simp⟩) (by assumption) ?_
  (try simp only [Act.put, List.setIfInBounds_toArray, List.set_cons_zero, List.set_cons_succ])
  refine wpAnyH_take (i := 14) (oi := ⟨some 97, _, _, _, _, _⟩) (v := .int .i64 0) rfl (by kernel_rfl) (by kernel_rfl) (by kernel_rfl) (fun _ _ _ h => h) (Or.inl ⟨by kernel_rfl, by intro WW hSw; obtain ⟨s0, s1, s2, s3, s4, s5⟩ := hSw; go_simp⟩) (by assumption) ?_
  (try simp only [Act.put, List.setIfInBounds_toArray, List.set_cons_zero, List.set_cons_succ])
  refine wpAnyH_take (i := 15) (oi := ⟨some 13, _, _, _, _, _⟩) (v := .pointer (some ⟨gt, 0, none⟩)) rfl (by kernel_rfl) (by kernel_rfl) (by kernel_rfl) (fun _ _ _ h => h) (Or.inl ⟨by kernel_rfl, by intro WW hSw; obtain ⟨s0, s1, s2, s3, s4, s5⟩ := hSw; go_simp⟩) (by assumption) ?_
  (try simp only [Act.put, List.setIfInBounds_toArray, List.set_cons_zero, List.set_cons_succ])
  refine wpAnyH_take (i := 16) (oi := ⟨some 14, _, _, _, _, _⟩) (v := .int .i64 0) rfl (by kernel_rfl) (by kernel_rfl) (by kernel_rfl) (fun _ _ _ h => h) (Or.inl ⟨by kernel_rfl, by intro WW hSw; obtain ⟨s0, s1, s2, s3, s4, s5⟩ := hSw; go_simp⟩) (by assumption) ?_
  (try simp only [Act.put, List.setIfInBounds_toArray, List.set_cons_zero, List.set_cons_succ])
  refine wpAnyH_done (by kernel_rfl) ?_ _
  unfold NoPanic
  clear hHeld
  obtain ⟨s0, s1, s2, s3, s4, s5⟩ := H.out.sg HA.out
  go_wp2_with fail
  refine (H.out.start HI0.out (by omega) HC.out HX.out HJ.out HAD.out (u := 1) (v := 4) (by decide)).mono ?_
  rintro e y2 ⟨rfl, z1, hst, hz, hH⟩
  clear s0 s1 s2 s3 s4 s5 H
  have HS := Lib.hid hst
  have HZ := Lib.hid (show ∃ gt, z1 = ⟨z.s, z.hs.set i { x with bl := x.bl.set j 4 }, z.cls, setL z.L b 4, z.T ++ [⟨gt, i, j, b, cl, 0, 4⟩]⟩ from ⟨gt, hz⟩)
  have HI := Lib.hid (HI0.out.step HOK.out.1 HOK.out.2.1 hst)
  have H := Lib.hid hH
  clear hst hz hH
  go_upto_region 26 with (fail)
  refine wp_region_noPanic ?_
  refine wp_region_held_drew (S := SG6 gg w.heap.size mg gs gw n a (cl : Int)) (by kernel_rfl) (H.out.drew.sg HA.out) (fun hHeld => ?_)
  have H2 := Lib.hid H.out.drew
  clear H
  have H := H2
  clear H2
  refine wpAnyH_take (i := 0) (oi := ⟨some 163, _, _, _, _, _⟩) (v := .bool true) rfl (by kernel_rfl) (by kernel_rfl) (by kernel_rfl) (fun _ _ _ h => h) (Or.inl ⟨by kernel_rfl, by intro WW hSw; obtain ⟨s0, s1, s2, s3, s4, s5⟩ := hSw; go_simp⟩) (by assumption) ?_
  (try simp only [Act.put, List.setIfInBounds_toArray, List.set_cons_zero, List.set_cons_succ])
  refine wpAnyH_take (i := 1) (oi := ⟨some 164, _, _, _, _, _⟩) (v := .bool true) rfl (by kernel_rfl) (by kernel_rfl) (by kernel_rfl) (fun _ _ _ h => h) (Or.inl ⟨by kernel_rfl, by intro WW hSw; obtain ⟨s0, s1, s2, s3, s4, s5⟩ := hSw; go_simp⟩) (by assumption) ?_
  (try simp only [Act.put, List.setIfInBounds_toArray, List.set_cons_zero, List.set_cons_succ])
  refine wpAnyH_take (i := 2) (oi := ⟨some 165, _, _, _, _, _⟩) (v := .pointer (some ⟨gg, 0, none⟩)) rfl (by kernel_rfl) (by kernel_rfl) (by kernel_rfl) (fun _ _ _ h => h) (Or.inl ⟨by kernel_rfl, by intro WW hSw; obtain ⟨s0, s1, s2, s3, s4, s5⟩ := hSw; go_simp⟩) (by assumption) ?_
  (try simp only [Act.put, List.setIfInBounds_toArray, List.set_cons_zero, List.set_cons_succ])
  refine wpAnyH_take (i := 3) (oi := ⟨some 166, _, _, _, _, _⟩) (v := .pointer (some ⟨gg, 0, none⟩)) rfl (by kernel_rfl) (by kernel_rfl) (by kernel_rfl) (fun _ _ _ h => h) (Or.inl ⟨by kernel_rfl, by intro WW hSw; obtain ⟨s0, s1, s2, s3, s4, s5⟩ := hSw; go_simp⟩) (by assumption) ?_
  (try simp only [Act.put, List.setIfInBounds_toArray, List.set_cons_zero, List.set_cons_succ])
  refine wpAnyH_take (i := 4) (oi := ⟨some 167, _, _, _, _, _⟩) (v := .pointer (some ⟨gg, 1, none⟩)) rfl (by kernel_rfl) (by kernel_rfl) (by kernel_rfl) (fun _ _ _ h => h) (Or.inl ⟨by kernel_rfl, by intro WW hSw; obtain ⟨s0, s1, s2, s3, s4, s5⟩ := hSw; go_simp⟩) (by assumption) ?_
  (try simp only [Act.put, List.setIfInBounds_toArray, List.set_cons_zero, List.set_cons_succ])
  refine wpAnyH_take (i := 5) (oi := ⟨some 168, _, _, _, _, _⟩) (v := .pointer (some ⟨gs, 0, none⟩)) rfl (by kernel_rfl) (by kernel_rfl) (by kernel_rfl) (fun _ _ _ h => h) (Or.inl ⟨by kernel_rfl, by intro WW hSw; obtain ⟨s0, s1, s2, s3, s4, s5⟩ := hSw; go_simp⟩) (by assumption) ?_
  (try simp only [Act.put, List.setIfInBounds_toArray, List.set_cons_zero, List.set_cons_succ])
  refine wpAnyH_take (i := 6) (oi := ⟨some 169, _, _, _, _, _⟩) (v := .pointer (some ⟨gg, 0, none⟩)) rfl (by kernel_rfl) (by kernel_rfl) (by kernel_rfl) (fun _ _ _ h => h) (Or.inl ⟨by kernel_rfl, by intro WW hSw; obtain ⟨s0, s1, s2, s3, s4, s5⟩ := hSw; go_simp⟩) (by assumption) ?_
  (try simp only [Act.put, List.setIfInBounds_toArray, List.set_cons_zero, List.set_cons_succ])
  refine wpAnyH_take (i := 7) (oi := ⟨some 170, _, _, _, _, _⟩) (v := .pointer (some ⟨gg, 0, none⟩)) rfl (by kernel_rfl) (by kernel_rfl) (by kernel_rfl) (fun _ _ _ h => h) (Or.inl ⟨by kernel_rfl, by intro WW hSw; obtain ⟨s0, s1, s2, s3, s4, s5⟩ := hSw; go_simp⟩) (by assumption) ?_
  (try simp only [Act.put, List.setIfInBounds_toArray, List.set_cons_zero, List.set_cons_succ])
  refine wpAnyH_take (i := 8) (oi := ⟨some 171, _, _, _, _, _⟩) (v := .pointer (some ⟨gg, 2, none⟩)) rfl (by kernel_rfl) (by kernel_rfl) (by kernel_rfl) (fun _ _ _ h => h) (Or.inl ⟨by kernel_rfl, by intro WW hSw; obtain ⟨s0, s1, s2, s3, s4, s5⟩ := hSw; go_simp⟩) (by assumption) ?_
  (try simp only [Act.put, List.setIfInBounds_toArray, List.set_cons_zero, List.set_cons_succ])
  refine wpAnyH_take (i := 9) (oi := ⟨some 172, _, _, _, _, _⟩) (v := .pointer (some ⟨gw, 0, none⟩)) rfl (by kernel_rfl) (by kernel_rfl) (by kernel_rfl) (fun _ _ _ h => h) (Or.inl ⟨by kernel_rfl, by intro WW hSw; obtain ⟨s0, s1, s2, s3, s4, s5⟩ := hSw; go_simp⟩) (by assumption) ?_
  (try simp only [Act.put, List.setIfInBounds_toArray, List.set_cons_zero, List.set_cons_succ])
  refine wpAnyH_one (i := 10) (oi := ⟨_, _, _, _, _, _⟩) rfl (by kernel_rfl) (fun K hK => ?_)
  refine step_calls (by rfl) 11 EGsame6.out [.tmp 168, .tmp 172] _ rfl [.pointer (some ⟨gs, 0, none⟩), .pointer (some ⟨gw, 0, none⟩)] rfl (H.out.same HI.out (by omega)) ?_
  rintro e x2 ⟨rfl, hH⟩
  refine ⟨_, rfl, hK _ _ (hH.sg HA.out) (fun _ => ?_)⟩
  have hHeld := hH.sg HA.out
  clear hK K H
  have H := Lib.hid hH
  clear hH
  (try simp only [Act.put, List.setIfInBounds_toArray, List.set_cons_zero, List.set_cons_succ])
  refine wpAnyH_take (i := 11) (oi := ⟨some 174, _, _, _, _, _⟩) (v := .bool true) rfl (by kernel_rfl) (by kernel_rfl) (by kernel_rfl) (fun _ _ _ h => h) (Or.inl ⟨by kernel_rfl, by intro WW hSw; obtain ⟨s0, s1, s2, s3, s4, s5⟩ := hSw; go_simp⟩) (by assumption) ?_
  (try simp only [Act.put, List.setIfInBounds_toArray, List.set_cons_zero, List.set_cons_succ])
  refine wpAnyH_take (i := 12) (oi := ⟨some 4, _, _, _, _, _⟩) (v := .bool true) rfl (by kernel_rfl) (by kernel_rfl) (by kernel_rfl) (fun _ _ _ h => h) (Or.inl ⟨by kernel_rfl, by intro WW hSw; obtain ⟨s0, s1, s2, s3, s4, s5⟩ := hSw; go_simp⟩) (by assumption) ?_
  (try simp only [Act.put, List.setIfInBounds_toArray, List.set_cons_zero, List.set_cons_succ])
  refine wpAnyH_done (by kernel_rfl) ?_ _
  unfold NoPanic
  clear hHeld
  have HE := Lib.hid (HBK.out _ _ H.out)
  clear H
  go_wp2
  go_ret
  exact ⟨rfl, _, HS.out, HZ.out, HE.out⟩
end Go.Proofs.YtahojhaeebmpoaaGreatDoor
/- The law's game, an act: Free. -/
namespace Go.Proofs.YtahojhaeebmpoaaGreatDoor
open Go Go.RowKit Go.Sort
set_option linter.unusedVariables false
end Go.Proofs.YtahojhaeebmpoaaGreatDoor
/- The law's game, an act: Free. -/
namespace Go.Proofs.YtahojhaeebmpoaaGreatDoor
open Go Go.RowKit Go.Sort
set_option linter.unusedVariables false
set_option maxRecDepth 100000 in
set_option maxHeartbeats 4000000 in
theorem gdo6_4_o {w0 w : World} {P0 : Nat → Prop} {B size gg mg gs gw N : Nat} {z : S6} (G : GD w0 P0 B size gg mg gs gw (RQ z) w) (hI : Inv6 N z) (hN : N ≤ 700) (n : Int) (cl : Nat) (a : Nat) (b : Nat) (hb : blkOf z.L n a = b) (hc : cl ≤ 64) {i j : Nat} {x : Hd} (hx : z.hs[i]? = some x) (hj : x.bl[j]? = some 2) (ha : adr x.no x.cls j = b) :
    Calls Tryz.prog 18 #[.pointer (some ⟨gg, 0, none⟩), .agg #[.int .i64 4, .int .i64 n, .int .u64 (a : Int), .int .i64 (cl : Int)]] w (Do6P w0 P0 B size gg mg gs gw z (fun z' => ∃ gt, z' = ⟨z.s, z.hs.set i { x with bl := x.bl.set j 3 }, z.cls, setL z.L b 3, z.T ++ [⟨gt, i, j, b, cl, 0, 3⟩]⟩)) := by
  have hL := hI.ll
  obtain ⟨W1, P, hg, hA, hback⟩ := G.start 4 n (cl : Int) a
  have H := Lib.hid hg
  have HA := Lib.hid hA
  have HBK := Lib.hid hback
  have HI0 := Lib.hid hI
  have HOK := Lib.hid G.ok
  have EGsFree := Lib.hid (enters_of Tryz.func54 (by kernel_rfl) rfl)
  have EGsame6 := Lib.hid (enters_of Tryz.func11 (by kernel_rfl) rfl)
  have mixed : Tryz.prog.follows .mixedOrders = true := by kernel_rfl
  clear G hg hA hback hI
  have HLL := Lib.hid (show z.L.length ≤ 1000000 by omega)
  clear hL
  have HC := Lib.hid hc
  have HX := Lib.hid hx
  have HJ := Lib.hid hj
  have HAD := Lib.hid ha
  clear hc hx hj ha
  have hr0 : Row (w.alloc (.cells #[.int .i64 4, .int .i64 n, .int .u64 (a : Int), .int .i64 (cl : Int)] 45)) w.heap.size 45 #[.int .i64 4, .int .i64 n, .int .u64 (a : Int), .int .i64 (cl : Int)] := Row.new _ _ _
  have HROW := Lib.hid hr0
  have HBL := H.out.block HLL.out 4 n (cl : Int) a
  rw [hb] at HBL
  have HBL := Lib.hid HBL
  clear hr0 hb
  obtain ⟨s0, s1, s2, s3, s4, s5⟩ := H.out.sg HA.out
  go_enter Tryz.func18, Tryz.ntmps18
  go_wp2_with (refine wpList_load_row rfl 45 _ rfl w.heap.size rfl 45 _ _ _ HROW.out Tryz.underlying45 rfl (by kernel_rfl) ?_)
  refine HBL.out.mono ?_
  rintro e y0 ⟨rfl, hH⟩
  clear s0 s1 s2 s3 s4 s5 H HROW HBL
  have H := Lib.hid hH
  clear hH
  obtain ⟨s0, s1, s2, s3, s4, s5⟩ := H.out.sg HA.out
  clear s0 s1 s2 s3 s4 s5
  go_upto_region 20 with (fail)
  refine wp_region_noPanic ?_
  refine wp_region_held_drew (S := SG6 gg w.heap.size mg gs gw n a (cl : Int)) (by kernel_rfl) (H.out.drew.sg HA.out) (fun hHeld => ?_)
  have H2 := Lib.hid H.out.drew
  clear H
  have H := H2
  clear H2
  refine wpAnyH_take (i := 0) (oi := ⟨some 111, _, _, _, _, _⟩) (v := .pointer (some ⟨gg, 0, none⟩)) rfl (by kernel_rfl) (by kernel_rfl) (by kernel_rfl) (fun _ _ _ h => h) (Or.inl ⟨by kernel_rfl, by intro WW hSw; obtain ⟨s0, s1, s2, s3, s4, s5⟩ := hSw; go_simp⟩) (by assumption) ?_
  (try simp only [Act.put, List.setIfInBounds_toArray, List.set_cons_zero, List.set_cons_succ])
  refine wpAnyH_take (i := 1) (oi := ⟨some 112, _, _, _, _, _⟩) (v := .pointer (some ⟨gg, 0, none⟩)) rfl (by kernel_rfl) (by kernel_rfl) (by kernel_rfl) (fun _ _ _ h => h) (Or.inl ⟨by kernel_rfl, by intro WW hSw; obtain ⟨s0, s1, s2, s3, s4, s5⟩ := hSw; go_simp⟩) (by assumption) ?_
  (try simp only [Act.put, List.setIfInBounds_toArray, List.set_cons_zero, List.set_cons_succ])
  refine wpAnyH_take (i := 2) (oi := ⟨some 113, _, _, _, _, _⟩) (v := .pointer (some ⟨gg, 1, none⟩)) rfl (by kernel_rfl) (by kernel_rfl) (by kernel_rfl) (fun _ _ _ h => h) (Or.inl ⟨by kernel_rfl, by intro WW hSw; obtain ⟨s0, s1, s2, s3, s4, s5⟩ := hSw; go_simp⟩) (by assumption) ?_
  (try simp only [Act.put, List.setIfInBounds_toArray, List.set_cons_zero, List.set_cons_succ])
  refine wpAnyH_take (i := 3) (oi := ⟨some 114, _, _, _, _, _⟩) (v := .pointer (some ⟨gs, 0, none⟩)) rfl (by kernel_rfl) (by kernel_rfl) (by kernel_rfl) (fun _ _ _ h => h) (Or.inl ⟨by kernel_rfl, by intro WW hSw; obtain ⟨s0, s1, s2, s3, s4, s5⟩ := hSw; go_simp⟩) (by assumption) ?_
  (try simp only [Act.put, List.setIfInBounds_toArray, List.set_cons_zero, List.set_cons_succ])
  refine wpAnyH_take (i := 4) (oi := ⟨some 115, _, _, _, _, _⟩) (v := .pointer (some ⟨gg, 0, none⟩)) rfl (by kernel_rfl) (by kernel_rfl) (by kernel_rfl) (fun _ _ _ h => h) (Or.inl ⟨by kernel_rfl, by intro WW hSw; obtain ⟨s0, s1, s2, s3, s4, s5⟩ := hSw; go_simp⟩) (by assumption) ?_
  (try simp only [Act.put, List.setIfInBounds_toArray, List.set_cons_zero, List.set_cons_succ])
  refine wpAnyH_take (i := 5) (oi := ⟨some 116, _, _, _, _, _⟩) (v := .pointer (some ⟨gg, 0, none⟩)) rfl (by kernel_rfl) (by kernel_rfl) (by kernel_rfl) (fun _ _ _ h => h) (Or.inl ⟨by kernel_rfl, by intro WW hSw; obtain ⟨s0, s1, s2, s3, s4, s5⟩ := hSw; go_simp⟩) (by assumption) ?_
  (try simp only [Act.put, List.setIfInBounds_toArray, List.set_cons_zero, List.set_cons_succ])
  refine wpAnyH_take (i := 6) (oi := ⟨some 117, _, _, _, _, _⟩) (v := .pointer (some ⟨gg, 0, none⟩)) rfl (by kernel_rfl) (by kernel_rfl) (by kernel_rfl) (fun _ _ _ h => h) (Or.inl ⟨by kernel_rfl, by intro WW hSw; obtain ⟨s0, s1, s2, s3, s4, s5⟩ := hSw; go_simp⟩) (by assumption) ?_
  (try simp only [Act.put, List.setIfInBounds_toArray, List.set_cons_zero, List.set_cons_succ])
  refine wpAnyH_take (i := 7) (oi := ⟨some 118, _, _, _, _, _⟩) (v := .pointer (some ⟨mg, 0, none⟩)) rfl (by kernel_rfl) (by kernel_rfl) (by kernel_rfl) (fun _ _ _ h => h) (Or.inl ⟨by kernel_rfl, by intro WW hSw; obtain ⟨s0, s1, s2, s3, s4, s5⟩ := hSw; go_simp⟩) (by assumption) ?_
  (try simp only [Act.put, List.setIfInBounds_toArray, List.set_cons_zero, List.set_cons_succ])
  refine wpAnyH_take (i := 8) (oi := ⟨some 119, _, _, _, _, _⟩) (v := .pointer (some ⟨w.heap.size, 3, none⟩)) rfl (by kernel_rfl) (by kernel_rfl) (by kernel_rfl) (fun _ _ _ h => h) (Or.inl ⟨by kernel_rfl, by intro WW hSw; obtain ⟨s0, s1, s2, s3, s4, s5⟩ := hSw; go_simp⟩) (by assumption) ?_
  (try simp only [Act.put, List.setIfInBounds_toArray, List.set_cons_zero, List.set_cons_succ])
  refine wpAnyH_take (i := 9) (oi := ⟨some 120, _, _, _, _, _⟩) (v := .int .i64 (cl : Int)) rfl (by kernel_rfl) (by kernel_rfl) (by kernel_rfl) (fun _ _ _ h => h) (Or.inl ⟨by kernel_rfl, by intro WW hSw; obtain ⟨s0, s1, s2, s3, s4, s5⟩ := hSw; go_simp⟩) (by assumption) ?_
  (try simp only [Act.put, List.setIfInBounds_toArray, List.set_cons_zero, List.set_cons_succ])
  refine wpAnyH_take (i := 10) (oi := ⟨some 121, _, _, _, _, _⟩) (v := .int .u64 (b : Int)) rfl (by kernel_rfl) (by kernel_rfl) (by kernel_rfl) (fun _ _ _ h => h) (Or.inl ⟨by kernel_rfl, by intro WW hSw; obtain ⟨s0, s1, s2, s3, s4, s5⟩ := hSw; go_simp⟩) (by assumption) ?_
  (try simp only [Act.put, List.setIfInBounds_toArray, List.set_cons_zero, List.set_cons_succ])
  refine wpAnyH_one (i := 11) (oi := ⟨_, _, _, _, _, _⟩) rfl (by kernel_rfl) (fun K hK => ?_)
  refine step_calls (by rfl) 54 EGsFree.out [.tmp 114, .tmp 118, .tmp 120, .tmp 121] _ rfl [.pointer (some ⟨gs, 0, none⟩), .pointer (some ⟨mg, 0, none⟩), .int .i64 (cl : Int), .int .u64 (b : Int)] rfl (H.out.free_ok HC.out HX.out HJ.out HAD.out) ?_
  rintro e x1 ⟨gt, rfl, hH⟩
  refine ⟨_, rfl, hK _ _ (hH.sg HA.out) (fun _ => ?_)⟩
  have hHeld := hH.sg HA.out
  clear hK K H
  have H := Lib.hid hH
  clear hH
  (try simp only [Act.put, List.setIfInBounds_toArray, List.set_cons_zero, List.set_cons_succ])
  refine wpAnyH_take (i := 12) (oi := ⟨some 110, _, _, _, _, _⟩) (v := .tuple #[.pointer (some ⟨gt, 0, none⟩), .int .i64 0]) rfl (by kernel_rfl) (by kernel_rfl) (by kernel_rfl) (fun _ _ _ h => h) (Or.inl ⟨by kernel_rfl, by intro WW hSw; obtain ⟨s0, s1, s2, s3, s4, s5⟩ := hSw; go_simp⟩) (by assumption) ?_
  (try simp only [Act.put, List.setIfInBounds_toArray, List.set_cons_zero, List.set_cons_succ])
  refine wpAnyH_take (i := 13) (oi := ⟨some 123, _, _, _, _, _⟩) (v := .pointer (some ⟨gt, 0, none⟩)) rfl (by kernel_rfl) (by kernel_rfl) (by kernel_rfl) (fun _ _ _ h => h) (Or.inl ⟨by kernel_rfl, by intro WW hSw; obtain ⟨s0, s1, s2, s3, s4, s5⟩ := hSw; go_simp⟩) (by assumption) ?_
  (try simp only [Act.put, List.setIfInBounds_toArray, List.set_cons_zero, List.set_cons_succ])
  refine wpAnyH_take (i := 14) (oi := ⟨some 124, _, _, _, _, _⟩) (v := .int .i64 0) rfl (by kernel_rfl) (by kernel_rfl) (by kernel_rfl) (fun _ _ _ h => h) (Or.inl ⟨by kernel_rfl, by intro WW hSw; obtain ⟨s0, s1, s2, s3, s4, s5⟩ := hSw; go_simp⟩) (by assumption) ?_
  (try simp only [Act.put, List.setIfInBounds_toArray, List.set_cons_zero, List.set_cons_succ])
  refine wpAnyH_take (i := 15) (oi := ⟨some 16, _, _, _, _, _⟩) (v := .pointer (some ⟨gt, 0, none⟩)) rfl (by kernel_rfl) (by kernel_rfl) (by kernel_rfl) (fun _ _ _ h => h) (Or.inl ⟨by kernel_rfl, by intro WW hSw; obtain ⟨s0, s1, s2, s3, s4, s5⟩ := hSw; go_simp⟩) (by assumption) ?_
  (try simp only [Act.put, List.setIfInBounds_toArray, List.set_cons_zero, List.set_cons_succ])
  refine wpAnyH_take (i := 16) (oi := ⟨some 17, _, _, _, _, _⟩) (v := .int .i64 0) rfl (by kernel_rfl) (by kernel_rfl) (by kernel_rfl) (fun _ _ _ h => h) (Or.inl ⟨by kernel_rfl, by intro WW hSw; obtain ⟨s0, s1, s2, s3, s4, s5⟩ := hSw; go_simp⟩) (by assumption) ?_
  (try simp only [Act.put, List.setIfInBounds_toArray, List.set_cons_zero, List.set_cons_succ])
  refine wpAnyH_done (by kernel_rfl) ?_ _
  unfold NoPanic
  clear hHeld
  obtain ⟨s0, s1, s2, s3, s4, s5⟩ := H.out.sg HA.out
  go_wp2_with fail
  refine (H.out.start HI0.out (by omega) HC.out HX.out HJ.out HAD.out (u := 2) (v := 3) (by decide)).mono ?_
  rintro e y2 ⟨rfl, z1, hst, hz, hH⟩
  clear s0 s1 s2 s3 s4 s5 H
  have HS := Lib.hid hst
  have HZ := Lib.hid (show ∃ gt, z1 = ⟨z.s, z.hs.set i { x with bl := x.bl.set j 3 }, z.cls, setL z.L b 3, z.T ++ [⟨gt, i, j, b, cl, 0, 3⟩]⟩ from ⟨gt, hz⟩)
  have HI := Lib.hid (HI0.out.step HOK.out.1 HOK.out.2.1 hst)
  have H := Lib.hid hH
  clear hst hz hH
  go_upto_region 26 with (fail)
  refine wp_region_noPanic ?_
  refine wp_region_held_drew (S := SG6 gg w.heap.size mg gs gw n a (cl : Int)) (by kernel_rfl) (H.out.drew.sg HA.out) (fun hHeld => ?_)
  have H2 := Lib.hid H.out.drew
  clear H
  have H := H2
  clear H2
  refine wpAnyH_take (i := 0) (oi := ⟨some 163, _, _, _, _, _⟩) (v := .bool true) rfl (by kernel_rfl) (by kernel_rfl) (by kernel_rfl) (fun _ _ _ h => h) (Or.inl ⟨by kernel_rfl, by intro WW hSw; obtain ⟨s0, s1, s2, s3, s4, s5⟩ := hSw; go_simp⟩) (by assumption) ?_
  (try simp only [Act.put, List.setIfInBounds_toArray, List.set_cons_zero, List.set_cons_succ])
  refine wpAnyH_take (i := 1) (oi := ⟨some 164, _, _, _, _, _⟩) (v := .bool true) rfl (by kernel_rfl) (by kernel_rfl) (by kernel_rfl) (fun _ _ _ h => h) (Or.inl ⟨by kernel_rfl, by intro WW hSw; obtain ⟨s0, s1, s2, s3, s4, s5⟩ := hSw; go_simp⟩) (by assumption) ?_
  (try simp only [Act.put, List.setIfInBounds_toArray, List.set_cons_zero, List.set_cons_succ])
  refine wpAnyH_take (i := 2) (oi := ⟨some 165, _, _, _, _, _⟩) (v := .pointer (some ⟨gg, 0, none⟩)) rfl (by kernel_rfl) (by kernel_rfl) (by kernel_rfl) (fun _ _ _ h => h) (Or.inl ⟨by kernel_rfl, by intro WW hSw; obtain ⟨s0, s1, s2, s3, s4, s5⟩ := hSw; go_simp⟩) (by assumption) ?_
  (try simp only [Act.put, List.setIfInBounds_toArray, List.set_cons_zero, List.set_cons_succ])
  refine wpAnyH_take (i := 3) (oi := ⟨some 166, _, _, _, _, _⟩) (v := .pointer (some ⟨gg, 0, none⟩)) rfl (by kernel_rfl) (by kernel_rfl) (by kernel_rfl) (fun _ _ _ h => h) (Or.inl ⟨by kernel_rfl, by intro WW hSw; obtain ⟨s0, s1, s2, s3, s4, s5⟩ := hSw; go_simp⟩) (by assumption) ?_
  (try simp only [Act.put, List.setIfInBounds_toArray, List.set_cons_zero, List.set_cons_succ])
  refine wpAnyH_take (i := 4) (oi := ⟨some 167, _, _, _, _, _⟩) (v := .pointer (some ⟨gg, 1, none⟩)) rfl (by kernel_rfl) (by kernel_rfl) (by kernel_rfl) (fun _ _ _ h => h) (Or.inl ⟨by kernel_rfl, by intro WW hSw; obtain ⟨s0, s1, s2, s3, s4, s5⟩ := hSw; go_simp⟩) (by assumption) ?_
  (try simp only [Act.put, List.setIfInBounds_toArray, List.set_cons_zero, List.set_cons_succ])
  refine wpAnyH_take (i := 5) (oi := ⟨some 168, _, _, _, _, _⟩) (v := .pointer (some ⟨gs, 0, none⟩)) rfl (by kernel_rfl) (by kernel_rfl) (by kernel_rfl) (fun _ _ _ h => h) (Or.inl ⟨by kernel_rfl, by intro WW hSw; obtain ⟨s0, s1, s2, s3, s4, s5⟩ := hSw; go_simp⟩) (by assumption) ?_
  (try simp only [Act.put, List.setIfInBounds_toArray, List.set_cons_zero, List.set_cons_succ])
  refine wpAnyH_take (i := 6) (oi := ⟨some 169, _, _, _, _, _⟩) (v := .pointer (some ⟨gg, 0, none⟩)) rfl (by kernel_rfl) (by kernel_rfl) (by kernel_rfl) (fun _ _ _ h => h) (Or.inl ⟨by kernel_rfl, by intro WW hSw; obtain ⟨s0, s1, s2, s3, s4, s5⟩ := hSw; go_simp⟩) (by assumption) ?_
  (try simp only [Act.put, List.setIfInBounds_toArray, List.set_cons_zero, List.set_cons_succ])
  refine wpAnyH_take (i := 7) (oi := ⟨some 170, _, _, _, _, _⟩) (v := .pointer (some ⟨gg, 0, none⟩)) rfl (by kernel_rfl) (by kernel_rfl) (by kernel_rfl) (fun _ _ _ h => h) (Or.inl ⟨by kernel_rfl, by intro WW hSw; obtain ⟨s0, s1, s2, s3, s4, s5⟩ := hSw; go_simp⟩) (by assumption) ?_
  (try simp only [Act.put, List.setIfInBounds_toArray, List.set_cons_zero, List.set_cons_succ])
  refine wpAnyH_take (i := 8) (oi := ⟨some 171, _, _, _, _, _⟩) (v := .pointer (some ⟨gg, 2, none⟩)) rfl (by kernel_rfl) (by kernel_rfl) (by kernel_rfl) (fun _ _ _ h => h) (Or.inl ⟨by kernel_rfl, by intro WW hSw; obtain ⟨s0, s1, s2, s3, s4, s5⟩ := hSw; go_simp⟩) (by assumption) ?_
  (try simp only [Act.put, List.setIfInBounds_toArray, List.set_cons_zero, List.set_cons_succ])
  refine wpAnyH_take (i := 9) (oi := ⟨some 172, _, _, _, _, _⟩) (v := .pointer (some ⟨gw, 0, none⟩)) rfl (by kernel_rfl) (by kernel_rfl) (by kernel_rfl) (fun _ _ _ h => h) (Or.inl ⟨by kernel_rfl, by intro WW hSw; obtain ⟨s0, s1, s2, s3, s4, s5⟩ := hSw; go_simp⟩) (by assumption) ?_
  (try simp only [Act.put, List.setIfInBounds_toArray, List.set_cons_zero, List.set_cons_succ])
  refine wpAnyH_one (i := 10) (oi := ⟨_, _, _, _, _, _⟩) rfl (by kernel_rfl) (fun K hK => ?_)
  refine step_calls (by rfl) 11 EGsame6.out [.tmp 168, .tmp 172] _ rfl [.pointer (some ⟨gs, 0, none⟩), .pointer (some ⟨gw, 0, none⟩)] rfl (H.out.same HI.out (by omega)) ?_
  rintro e x2 ⟨rfl, hH⟩
  refine ⟨_, rfl, hK _ _ (hH.sg HA.out) (fun _ => ?_)⟩
  have hHeld := hH.sg HA.out
  clear hK K H
  have H := Lib.hid hH
  clear hH
  (try simp only [Act.put, List.setIfInBounds_toArray, List.set_cons_zero, List.set_cons_succ])
  refine wpAnyH_take (i := 11) (oi := ⟨some 174, _, _, _, _, _⟩) (v := .bool true) rfl (by kernel_rfl) (by kernel_rfl) (by kernel_rfl) (fun _ _ _ h => h) (Or.inl ⟨by kernel_rfl, by intro WW hSw; obtain ⟨s0, s1, s2, s3, s4, s5⟩ := hSw; go_simp⟩) (by assumption) ?_
  (try simp only [Act.put, List.setIfInBounds_toArray, List.set_cons_zero, List.set_cons_succ])
  refine wpAnyH_take (i := 12) (oi := ⟨some 4, _, _, _, _, _⟩) (v := .bool true) rfl (by kernel_rfl) (by kernel_rfl) (by kernel_rfl) (fun _ _ _ h => h) (Or.inl ⟨by kernel_rfl, by intro WW hSw; obtain ⟨s0, s1, s2, s3, s4, s5⟩ := hSw; go_simp⟩) (by assumption) ?_
  (try simp only [Act.put, List.setIfInBounds_toArray, List.set_cons_zero, List.set_cons_succ])
  refine wpAnyH_done (by kernel_rfl) ?_ _
  unfold NoPanic
  clear hHeld
  have HE := Lib.hid (HBK.out _ _ H.out)
  clear H
  go_wp2
  go_ret
  exact ⟨rfl, _, HS.out, HZ.out, HE.out⟩
end Go.Proofs.YtahojhaeebmpoaaGreatDoor
