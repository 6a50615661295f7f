/- Texts of this claim, packed: 6Blk, 6Fit. -/
import Derived.Test.YtahojhaeebmpoaaGreatDoorPlQ
import Derived.Test.YtahojhaeebmpoaaGreatDoorPl35
import Derived.Test.YtahojhaeebmpoaaGreatDoorPl34
import Derived.Deep.QuietTactic
import Derived.Deep.DeepCutAuto
import Derived.Deep.CutBlock
/- Which block an act of the law's game is of. -/
namespace Go.Proofs.YtahojhaeebmpoaaGreatDoor
open Go Go.RowKit
set_option linter.unusedVariables false
def blkOf (L : List (Nat × Nat)) (n : Int) (a : Nat) : Nat := if 0 ≤ n ∧ n < (L.length : Int) then (L.getD n.toNat (0, 0)).1 else a
set_option maxRecDepth 100000 in
set_option maxHeartbeats 1600000 in
theorem block6_any {w : World} {gg B gw size : Nat} {cls : List Nat} {L : List (Nat × Nat)} {vm vs vt vc vl : Value} (hr : Row w gg 51 #[vm, vs, fpt gw, vt]) (h : W6At w B gw size cls L vc vl) (hL : L.length ≤ 1000000) (k n c : Int) (a : Nat) :
    Calls Tryz.prog 50 #[fpt gg, .agg #[.int .i64 k, .int .i64 n, wv a, .int .i64 c]] w fun e w' => e = .returned (wv (blkOf L n a)) ∧ Below w.heap.size w w' := by
  obtain ⟨A, cap, rfl⟩ := own_at6 h.bl
  obtain ⟨m, hm⟩ : ∃ m, m = L.length := ⟨_, rfl⟩
  rw [← hm] at h hL
  have HC0 := Lib.hid (fun (W : World) (hb : Below w.heap.size w W) => (show W.cell? ⟨gg, 2, none⟩ = some (.pointer (some ⟨gw, 0, none⟩)) by
    have c0 := (hr.below hb hr.lt).cell 2
    simp only [List.getElem?_toArray, List.getElem?_cons_succ, List.getElem?_cons_zero] at c0
    exact c0))
  have HC2 := Lib.hid (fun (W : World) (hb : Below w.heap.size w W) => (show W.cell? ⟨gw, 2, none⟩ = some (.slice A m cap) by
    have c2 := (h.below hb).row.cell 2
    simp only [List.getElem?_toArray, List.getElem?_cons_succ, List.getElem?_cons_zero] at c2
    exact c2))
  have HBK := Lib.hid (fun (W : World) (hb : Below w.heap.size w W) (i : Nat) (p : Nat × Nat) (hp : L[i]? = some p) => (h.below hb).blk hp)
  have HBK0 := Lib.hid (fun (i : Nat) (p : Nat × Nat) (hp : L[i]? = some p) => h.blk hp)
  have mixed : Tryz.prog.follows .mixedOrders = true := by kernel_rfl
  obtain ⟨z, hz⟩ : ∃ z, z = blkOf L n a := ⟨_, rfl⟩
  rw [← hz]
  unfold wv jv at HBK HBK0
  have HM := Lib.hid hm
  by_cases h0 : m = 0
  · have hza : a = z := by rw [hz]; unfold blkOf; rw [if_neg (by omega)]
    have e0 : ((m : Int) == 0) = true := by simp; omega
    subst hza
    clear h hr hz hm
    unfold fpt wv at *
    go_enter Tryz.func50, Tryz.ntmps50
    go_upto_region 1 with (fail)
    obtain ⟨ga, hga⟩ : ∃ ga, ga = w.heap.size := ⟨_, rfl⟩
    rw [← hga]
    have HGA := Lib.hid hga
    generalize hW0 : w.alloc _ = W0
    have hb0 : Below w.heap.size w W0 := by rw [← hW0]; exact alloc_below _ _
    have hrow0 : Row W0 ga 45 #[.int .i64 k, .int .i64 n, .int .u64 (a : Int), .int .i64 c] := by rw [← hW0, hga]; exact Row.new _ _ _
    have HB0 := Lib.hid hb0
    have HST := Lib.hid (fun (WW : World) (hb : Below W0.heap.size W0 WW) => (show WW.cell? ⟨gg, 2, none⟩ = some (.pointer (some ⟨gw, 0, none⟩)) ∧ WW.cell? ⟨gw, 2, none⟩ = some (.slice A m cap) ∧ WW.cell? ⟨ga, 1, none⟩ = some (.int .i64 n) ∧ WW.cell? ⟨ga, 2, none⟩ = some (.int .u64 (a : Int)) from ⟨HC0.out WW (Below.and hb0 hb), HC2.out WW (Below.and hb0 hb), by simpa using (hrow0.below hb hrow0.lt).cell 1, by simpa using (hrow0.below hb hrow0.lt).cell 2⟩))
    clear hga hW0 hb0 hrow0
    refine wp_region_noPanic ?_
    refine wp_region_held_drew (S := fun WW => WW.cell? ⟨gg, 2, none⟩ = some (.pointer (some ⟨gw, 0, none⟩)) ∧ WW.cell? ⟨gw, 2, none⟩ = some (.slice A m cap) ∧ WW.cell? ⟨ga, 1, none⟩ = some (.int .i64 n) ∧ WW.cell? ⟨ga, 2, none⟩ = some (.int .u64 (a : Int))) (by kernel_rfl) (HST.out _ (drew_below _)) (fun hHeld => ?_)
    refine tkH (i := 0) (oi := ⟨some 5, _, _, _, _, _⟩) (v := .pointer (some ⟨gg, 0, none⟩)) rfl (Or.inl ⟨by kernel_rfl, by intro WW hSw; obtain ⟨s0, s1, s2, s3⟩ := hSw; go_simp⟩) (by assumption) ?_
    (try simp only [Act.put, q1, q2, q3])
    refine tkH (i := 1) (oi := ⟨some 6, _, _, _, _, _⟩) (v := .pointer (some ⟨gg, 0, none⟩)) rfl (Or.inl ⟨by kernel_rfl, by intro WW hSw; obtain ⟨s0, s1, s2, s3⟩ := hSw; go_simp⟩) (by assumption) ?_
    (try simp only [Act.put, q1, q2, q3])
    refine tkH (i := 2) (oi := ⟨some 7, _, _, _, _, _⟩) (v := .pointer (some ⟨gg, 2, none⟩)) rfl (Or.inl ⟨by kernel_rfl, by intro WW hSw; obtain ⟨s0, s1, s2, s3⟩ := hSw; go_simp⟩) (by assumption) ?_
    (try simp only [Act.put, q1, q2, q3])
    refine tkH (i := 3) (oi := ⟨some 8, _, _, _, _, _⟩) (v := .pointer (some ⟨gw, 0, none⟩)) rfl (Or.inl ⟨by kernel_rfl, by intro WW hSw; obtain ⟨s0, s1, s2, s3⟩ := hSw; go_simp⟩) (by assumption) ?_
    (try simp only [Act.put, q1, q2, q3])
    refine tkH (i := 4) (oi := ⟨some 9, _, _, _, _, _⟩) (v := .pointer (some ⟨gw, 0, none⟩)) rfl (Or.inl ⟨by kernel_rfl, by intro WW hSw; obtain ⟨s0, s1, s2, s3⟩ := hSw; go_simp⟩) (by assumption) ?_
    (try simp only [Act.put, q1, q2, q3])
    refine tkH (i := 5) (oi := ⟨some 10, _, _, _, _, _⟩) (v := .pointer (some ⟨gw, 2, none⟩)) rfl (Or.inl ⟨by kernel_rfl, by intro WW hSw; obtain ⟨s0, s1, s2, s3⟩ := hSw; go_simp⟩) (by assumption) ?_
    (try simp only [Act.put, q1, q2, q3])
    refine tkH (i := 6) (oi := ⟨some 11, _, _, _, _, _⟩) (v := .slice A m cap) rfl (Or.inl ⟨by kernel_rfl, by intro WW hSw; obtain ⟨s0, s1, s2, s3⟩ := hSw; go_simp⟩) (by assumption) ?_
    (try simp only [Act.put, q1, q2, q3])
    refine tkH (i := 7) (oi := ⟨some 12, _, _, _, _, _⟩) (v := .int .i64 (m : Int)) rfl (Or.inl ⟨by kernel_rfl, by intro WW hSw; obtain ⟨s0, s1, s2, s3⟩ := hSw; go_simp⟩) (by assumption) ?_
    (try simp only [Act.put, q1, q2, q3])
    refine tkH (i := 8) (oi := ⟨some 13, _, _, _, _, _⟩) (v := .bool true) rfl (Or.inl ⟨by kernel_rfl, by intro WW hSw; obtain ⟨s0, s1, s2, s3⟩ := hSw; go_simp⟩) (by assumption) ?_
    (try simp only [Act.put, q1, q2, q3])
    refine tkH (i := 9) (oi := ⟨some 14, _, _, _, _, _⟩) (v := .bool true) rfl (Or.inl ⟨by kernel_rfl, by intro WW hSw; obtain ⟨s0, s1, s2, s3⟩ := hSw; go_simp⟩) (by assumption) ?_
    (try simp only [Act.put, q1, q2, q3])
    refine tkH (i := 10) (oi := ⟨some 15, _, _, _, _, _⟩) (v := undef) rfl (Or.inr ⟨by kernel_rfl, rfl⟩) (by assumption) ?_
    (try simp only [Act.put, q1, q2, q3])
    refine tkH (i := 11) (oi := ⟨some 16, _, _, _, _, _⟩) (v := undef) rfl (Or.inr ⟨by kernel_rfl, rfl⟩) (by assumption) ?_
    (try simp only [Act.put, q1, q2, q3])
    refine tkH (i := 12) (oi := ⟨some 17, _, _, _, _, _⟩) (v := undef) rfl (Or.inr ⟨by kernel_rfl, rfl⟩) (by assumption) ?_
    (try simp only [Act.put, q1, q2, q3])
    refine tkH (i := 13) (oi := ⟨some 18, _, _, _, _, _⟩) (v := .bool true) rfl (Or.inl ⟨by kernel_rfl, by intro WW hSw; obtain ⟨s0, s1, s2, s3⟩ := hSw; go_simp⟩) (by assumption) ?_
    (try simp only [Act.put, q1, q2, q3])
    refine tkH (i := 14) (oi := ⟨some 19, _, _, _, _, _⟩) (v := .bool true) rfl (Or.inl ⟨by kernel_rfl, by intro WW hSw; obtain ⟨s0, s1, s2, s3⟩ := hSw; go_simp⟩) (by assumption) ?_
    (try simp only [Act.put, q1, q2, q3])
    refine tkH (i := 15) (oi := ⟨some 20, _, _, _, _, _⟩) (v := undef) rfl (Or.inr ⟨by kernel_rfl, rfl⟩) (by assumption) ?_
    (try simp only [Act.put, q1, q2, q3])
    refine tkH (i := 16) (oi := ⟨some 21, _, _, _, _, _⟩) (v := undef) rfl (Or.inr ⟨by kernel_rfl, rfl⟩) (by assumption) ?_
    (try simp only [Act.put, q1, q2, q3])
    refine tkH (i := 17) (oi := ⟨some 22, _, _, _, _, _⟩) (v := undef) rfl (Or.inr ⟨by kernel_rfl, rfl⟩) (by assumption) ?_
    (try simp only [Act.put, q1, q2, q3])
    refine tkH (i := 18) (oi := ⟨some 23, _, _, _, _, _⟩) (v := undef) rfl (Or.inr ⟨by kernel_rfl, rfl⟩) (by assumption) ?_
    (try simp only [Act.put, q1, q2, q3])
    refine tkH (i := 19) (oi := ⟨some 24, _, _, _, _, _⟩) (v := undef) rfl (Or.inr ⟨by kernel_rfl, rfl⟩) (by assumption) ?_
    (try simp only [Act.put, q1, q2, q3])
    refine tkH (i := 20) (oi := ⟨some 25, _, _, _, _, _⟩) (v := undef) rfl (Or.inr ⟨by kernel_rfl, rfl⟩) (by assumption) ?_
    (try simp only [Act.put, q1, q2, q3])
    refine tkH (i := 21) (oi := ⟨some 26, _, _, _, _, _⟩) (v := undef) rfl (Or.inr ⟨by kernel_rfl, rfl⟩) (by assumption) ?_
    (try simp only [Act.put, q1, q2, q3])
    refine tkH (i := 22) (oi := ⟨some 27, _, _, _, _, _⟩) (v := undef) rfl (Or.inr ⟨by kernel_rfl, rfl⟩) (by assumption) ?_
    (try simp only [Act.put, q1, q2, q3])
    refine tkH (i := 23) (oi := ⟨some 28, _, _, _, _, _⟩) (v := undef) rfl (Or.inr ⟨by kernel_rfl, rfl⟩) (by assumption) ?_
    (try simp only [Act.put, q1, q2, q3])
    refine tkH (i := 24) (oi := ⟨some 29, _, _, _, _, _⟩) (v := undef) rfl (Or.inr ⟨by kernel_rfl, rfl⟩) (by assumption) ?_
    (try simp only [Act.put, q1, q2, q3])
    refine tkH (i := 25) (oi := ⟨some 30, _, _, _, _, _⟩) (v := undef) rfl (Or.inr ⟨by kernel_rfl, rfl⟩) (by assumption) ?_
    (try simp only [Act.put, q1, q2, q3])
    refine tkH (i := 26) (oi := ⟨some 31, _, _, _, _, _⟩) (v := .bool true) rfl (Or.inl ⟨by kernel_rfl, by intro WW hSw; obtain ⟨s0, s1, s2, s3⟩ := hSw; go_simp⟩) (by assumption) ?_
    (try simp only [Act.put, q1, q2, q3])
    refine wpAnyH_done (by kernel_rfl) ?_ _
    unfold NoPanic
    clear hHeld
    have c3 := (HST.out _ (drew_below _)).2.2.2
    have HE := Lib.hid (Below.and HB0.out (drew_below W0))
    go_wp2
    go_ret
    exact ⟨rfl, HE.out⟩
  · have e0 : ((m : Int) == 0) = false := by simp; omega
    by_cases h1 : n < 0
    · have hza : a = z := by rw [hz]; unfold blkOf; rw [if_neg (by omega)]
      have e1 : decide (n < 0) = true := by simp; omega
      subst hza
      clear h hr hz hm
      unfold fpt wv at *
      go_enter Tryz.func50, Tryz.ntmps50
      go_upto_region 1 with (fail)
      obtain ⟨ga, hga⟩ : ∃ ga, ga = w.heap.size := ⟨_, rfl⟩
      rw [← hga]
      have HGA := Lib.hid hga
      generalize hW0 : w.alloc _ = W0
      have hb0 : Below w.heap.size w W0 := by rw [← hW0]; exact alloc_below _ _
      have hrow0 : Row W0 ga 45 #[.int .i64 k, .int .i64 n, .int .u64 (a : Int), .int .i64 c] := by rw [← hW0, hga]; exact Row.new _ _ _
      have HB0 := Lib.hid hb0
      have HST := Lib.hid (fun (WW : World) (hb : Below W0.heap.size W0 WW) => (show WW.cell? ⟨gg, 2, none⟩ = some (.pointer (some ⟨gw, 0, none⟩)) ∧ WW.cell? ⟨gw, 2, none⟩ = some (.slice A m cap) ∧ WW.cell? ⟨ga, 1, none⟩ = some (.int .i64 n) ∧ WW.cell? ⟨ga, 2, none⟩ = some (.int .u64 (a : Int)) from ⟨HC0.out WW (Below.and hb0 hb), HC2.out WW (Below.and hb0 hb), by simpa using (hrow0.below hb hrow0.lt).cell 1, by simpa using (hrow0.below hb hrow0.lt).cell 2⟩))
      clear hga hW0 hb0 hrow0
      refine wp_region_noPanic ?_
      refine wp_region_held_drew (S := fun WW => WW.cell? ⟨gg, 2, none⟩ = some (.pointer (some ⟨gw, 0, none⟩)) ∧ WW.cell? ⟨gw, 2, none⟩ = some (.slice A m cap) ∧ WW.cell? ⟨ga, 1, none⟩ = some (.int .i64 n) ∧ WW.cell? ⟨ga, 2, none⟩ = some (.int .u64 (a : Int))) (by kernel_rfl) (HST.out _ (drew_below _)) (fun hHeld => ?_)
      refine tkH (i := 0) (oi := ⟨some 5, _, _, _, _, _⟩) (v := .pointer (some ⟨gg, 0, none⟩)) rfl (Or.inl ⟨by kernel_rfl, by intro WW hSw; obtain ⟨s0, s1, s2, s3⟩ := hSw; go_simp⟩) (by assumption) ?_
      (try simp only [Act.put, q1, q2, q3])
      refine tkH (i := 1) (oi := ⟨some 6, _, _, _, _, _⟩) (v := .pointer (some ⟨gg, 0, none⟩)) rfl (Or.inl ⟨by kernel_rfl, by intro WW hSw; obtain ⟨s0, s1, s2, s3⟩ := hSw; go_simp⟩) (by assumption) ?_
      (try simp only [Act.put, q1, q2, q3])
      refine tkH (i := 2) (oi := ⟨some 7, _, _, _, _, _⟩) (v := .pointer (some ⟨gg, 2, none⟩)) rfl (Or.inl ⟨by kernel_rfl, by intro WW hSw; obtain ⟨s0, s1, s2, s3⟩ := hSw; go_simp⟩) (by assumption) ?_
      (try simp only [Act.put, q1, q2, q3])
      refine tkH (i := 3) (oi := ⟨some 8, _, _, _, _, _⟩) (v := .pointer (some ⟨gw, 0, none⟩)) rfl (Or.inl ⟨by kernel_rfl, by intro WW hSw; obtain ⟨s0, s1, s2, s3⟩ := hSw; go_simp⟩) (by assumption) ?_
      (try simp only [Act.put, q1, q2, q3])
      refine tkH (i := 4) (oi := ⟨some 9, _, _, _, _, _⟩) (v := .pointer (some ⟨gw, 0, none⟩)) rfl (Or.inl ⟨by kernel_rfl, by intro WW hSw; obtain ⟨s0, s1, s2, s3⟩ := hSw; go_simp⟩) (by assumption) ?_
      (try simp only [Act.put, q1, q2, q3])
      refine tkH (i := 5) (oi := ⟨some 10, _, _, _, _, _⟩) (v := .pointer (some ⟨gw, 2, none⟩)) rfl (Or.inl ⟨by kernel_rfl, by intro WW hSw; obtain ⟨s0, s1, s2, s3⟩ := hSw; go_simp⟩) (by assumption) ?_
      (try simp only [Act.put, q1, q2, q3])
      refine tkH (i := 6) (oi := ⟨some 11, _, _, _, _, _⟩) (v := .slice A m cap) rfl (Or.inl ⟨by kernel_rfl, by intro WW hSw; obtain ⟨s0, s1, s2, s3⟩ := hSw; go_simp⟩) (by assumption) ?_
      (try simp only [Act.put, q1, q2, q3])
      refine tkH (i := 7) (oi := ⟨some 12, _, _, _, _, _⟩) (v := .int .i64 (m : Int)) rfl (Or.inl ⟨by kernel_rfl, by intro WW hSw; obtain ⟨s0, s1, s2, s3⟩ := hSw; go_simp⟩) (by assumption) ?_
      (try simp only [Act.put, q1, q2, q3])
      refine tkH (i := 8) (oi := ⟨some 13, _, _, _, _, _⟩) (v := .bool false) rfl (Or.inl ⟨by kernel_rfl, by intro WW hSw; obtain ⟨s0, s1, s2, s3⟩ := hSw; go_simp⟩) (by assumption) ?_
      (try simp only [Act.put, q1, q2, q3])
      refine tkH (i := 9) (oi := ⟨some 14, _, _, _, _, _⟩) (v := .bool false) rfl (Or.inl ⟨by kernel_rfl, by intro WW hSw; obtain ⟨s0, s1, s2, s3⟩ := hSw; go_simp⟩) (by assumption) ?_
      (try simp only [Act.put, q1, q2, q3])
      refine tkH (i := 10) (oi := ⟨some 15, _, _, _, _, _⟩) (v := .pointer (some ⟨ga, 1, none⟩)) rfl (Or.inl ⟨by kernel_rfl, by intro WW hSw; obtain ⟨s0, s1, s2, s3⟩ := hSw; go_simp⟩) (by assumption) ?_
      (try simp only [Act.put, q1, q2, q3])
      refine tkH (i := 11) (oi := ⟨some 16, _, _, _, _, _⟩) (v := .int .i64 n) rfl (Or.inl ⟨by kernel_rfl, by intro WW hSw; obtain ⟨s0, s1, s2, s3⟩ := hSw; go_simp⟩) (by assumption) ?_
      (try simp only [Act.put, q1, q2, q3])
      refine tkH (i := 12) (oi := ⟨some 17, _, _, _, _, _⟩) (v := .bool true) rfl (Or.inl ⟨by kernel_rfl, by intro WW hSw; obtain ⟨s0, s1, s2, s3⟩ := hSw; go_simp⟩) (by assumption) ?_
      (try simp only [Act.put, q1, q2, q3])
      refine tkH (i := 13) (oi := ⟨some 18, _, _, _, _, _⟩) (v := .bool true) rfl (Or.inl ⟨by kernel_rfl, by intro WW hSw; obtain ⟨s0, s1, s2, s3⟩ := hSw; go_simp⟩) (by assumption) ?_
      (try simp only [Act.put, q1, q2, q3])
      refine tkH (i := 14) (oi := ⟨some 19, _, _, _, _, _⟩) (v := .bool true) rfl (Or.inl ⟨by kernel_rfl, by intro WW hSw; obtain ⟨s0, s1, s2, s3⟩ := hSw; go_simp⟩) (by assumption) ?_
      (try simp only [Act.put, q1, q2, q3])
      refine tkH (i := 15) (oi := ⟨some 20, _, _, _, _, _⟩) (v := undef) rfl (Or.inr ⟨by kernel_rfl, rfl⟩) (by assumption) ?_
      (try simp only [Act.put, q1, q2, q3])
      refine tkH (i := 16) (oi := ⟨some 21, _, _, _, _, _⟩) (v := undef) rfl (Or.inr ⟨by kernel_rfl, rfl⟩) (by assumption) ?_
      (try simp only [Act.put, q1, q2, q3])
      refine tkH (i := 17) (oi := ⟨some 22, _, _, _, _, _⟩) (v := undef) rfl (Or.inr ⟨by kernel_rfl, rfl⟩) (by assumption) ?_
      (try simp only [Act.put, q1, q2, q3])
      refine tkH (i := 18) (oi := ⟨some 23, _, _, _, _, _⟩) (v := undef) rfl (Or.inr ⟨by kernel_rfl, rfl⟩) (by assumption) ?_
      (try simp only [Act.put, q1, q2, q3])
      refine tkH (i := 19) (oi := ⟨some 24, _, _, _, _, _⟩) (v := undef) rfl (Or.inr ⟨by kernel_rfl, rfl⟩) (by assumption) ?_
      (try simp only [Act.put, q1, q2, q3])
      refine tkH (i := 20) (oi := ⟨some 25, _, _, _, _, _⟩) (v := undef) rfl (Or.inr ⟨by kernel_rfl, rfl⟩) (by assumption) ?_
      (try simp only [Act.put, q1, q2, q3])
      refine tkH (i := 21) (oi := ⟨some 26, _, _, _, _, _⟩) (v := undef) rfl (Or.inr ⟨by kernel_rfl, rfl⟩) (by assumption) ?_
      (try simp only [Act.put, q1, q2, q3])
      refine tkH (i := 22) (oi := ⟨some 27, _, _, _, _, _⟩) (v := undef) rfl (Or.inr ⟨by kernel_rfl, rfl⟩) (by assumption) ?_
      (try simp only [Act.put, q1, q2, q3])
      refine tkH (i := 23) (oi := ⟨some 28, _, _, _, _, _⟩) (v := undef) rfl (Or.inr ⟨by kernel_rfl, rfl⟩) (by assumption) ?_
      (try simp only [Act.put, q1, q2, q3])
      refine tkH (i := 24) (oi := ⟨some 29, _, _, _, _, _⟩) (v := undef) rfl (Or.inr ⟨by kernel_rfl, rfl⟩) (by assumption) ?_
      (try simp only [Act.put, q1, q2, q3])
      refine tkH (i := 25) (oi := ⟨some 30, _, _, _, _, _⟩) (v := undef) rfl (Or.inr ⟨by kernel_rfl, rfl⟩) (by assumption) ?_
      (try simp only [Act.put, q1, q2, q3])
      refine tkH (i := 26) (oi := ⟨some 31, _, _, _, _, _⟩) (v := .bool true) rfl (Or.inl ⟨by kernel_rfl, by intro WW hSw; obtain ⟨s0, s1, s2, s3⟩ := hSw; go_simp⟩) (by assumption) ?_
      (try simp only [Act.put, q1, q2, q3])
      refine wpAnyH_done (by kernel_rfl) ?_ _
      unfold NoPanic
      clear hHeld
      have c3 := (HST.out _ (drew_below _)).2.2.2
      have HE := Lib.hid (Below.and HB0.out (drew_below W0))
      go_wp2
      go_ret
      exact ⟨rfl, HE.out⟩
    · have e1 : decide (n < 0) = false := by simp; omega
      by_cases h2 : n < (m : Int)
      · obtain ⟨i, rfl⟩ : ∃ i : Nat, n = (i : Int) := ⟨n.toNat, by omega⟩
        have e2 : decide ((m : Int) ≤ (i : Int)) = false := by simp; omega
        have hi : i < L.length := by omega
        have hza : z = (L[i]).1 := by rw [hz]; unfold blkOf; rw [if_pos (by omega), Int.toNat_natCast, List.getD_eq_getElem?_getD, List.getElem?_eq_getElem hi]; rfl
        obtain ⟨g, hAg, _, _⟩ := HBK0.out i _ (List.getElem?_eq_getElem hi)
        subst hAg
        have HQ := Lib.hid (fun (W : World) (hb : Below w.heap.size w W) => (show W.cell? ⟨g, i * 2, none⟩ = some (.int .u64 (z : Int)) by
          obtain ⟨g2, e2, q1, _⟩ := HBK.out W hb i _ (List.getElem?_eq_getElem hi)
          cases e2
          rw [hza]
          exact q1))
        have him : (i : Int) < (m : Int) := h2
        have h2n : i < m := by omega
        clear h hr hz hm hza
        unfold fpt wv at *
        go_enter Tryz.func50, Tryz.ntmps50
        go_upto_region 1 with (fail)
        obtain ⟨ga, hga⟩ : ∃ ga, ga = w.heap.size := ⟨_, rfl⟩
        rw [← hga]
        have HGA := Lib.hid hga
        generalize hW0 : w.alloc _ = W0
        have hb0 : Below w.heap.size w W0 := by rw [← hW0]; exact alloc_below _ _
        have hrow0 : Row W0 ga 45 #[.int .i64 k, .int .i64 (i : Int), .int .u64 (a : Int), .int .i64 c] := by rw [← hW0, hga]; exact Row.new _ _ _
        have HB0 := Lib.hid hb0
        have HST := Lib.hid (fun (WW : World) (hb : Below W0.heap.size W0 WW) => (show WW.cell? ⟨gg, 2, none⟩ = some (.pointer (some ⟨gw, 0, none⟩)) ∧ WW.cell? ⟨gw, 2, none⟩ = some (.slice (some ⟨g, 0, none⟩) m cap) ∧ WW.cell? ⟨ga, 1, none⟩ = some (.int .i64 (i : Int)) ∧ WW.cell? ⟨ga, 2, none⟩ = some (.int .u64 (a : Int)) from ⟨HC0.out WW (Below.and hb0 hb), HC2.out WW (Below.and hb0 hb), by simpa using (hrow0.below hb hrow0.lt).cell 1, by simpa using (hrow0.below hb hrow0.lt).cell 2⟩))
        clear hga hW0 hb0 hrow0
        refine wp_region_noPanic ?_
        refine wp_region_held_drew (S := fun WW => WW.cell? ⟨gg, 2, none⟩ = some (.pointer (some ⟨gw, 0, none⟩)) ∧ WW.cell? ⟨gw, 2, none⟩ = some (.slice (some ⟨g, 0, none⟩) m cap) ∧ WW.cell? ⟨ga, 1, none⟩ = some (.int .i64 (i : Int)) ∧ WW.cell? ⟨ga, 2, none⟩ = some (.int .u64 (a : Int))) (by kernel_rfl) (HST.out _ (drew_below _)) (fun hHeld => ?_)
        refine tkH (i := 0) (oi := ⟨some 5, _, _, _, _, _⟩) (v := .pointer (some ⟨gg, 0, none⟩)) rfl (Or.inl ⟨by kernel_rfl, by intro WW hSw; obtain ⟨s0, s1, s2, s3⟩ := hSw; go_simp⟩) (by assumption) ?_
        (try simp only [Act.put, q1, q2, q3])
        refine tkH (i := 1) (oi := ⟨some 6, _, _, _, _, _⟩) (v := .pointer (some ⟨gg, 0, none⟩)) rfl (Or.inl ⟨by kernel_rfl, by intro WW hSw; obtain ⟨s0, s1, s2, s3⟩ := hSw; go_simp⟩) (by assumption) ?_
        (try simp only [Act.put, q1, q2, q3])
        refine tkH (i := 2) (oi := ⟨some 7, _, _, _, _, _⟩) (v := .pointer (some ⟨gg, 2, none⟩)) rfl (Or.inl ⟨by kernel_rfl, by intro WW hSw; obtain ⟨s0, s1, s2, s3⟩ := hSw; go_simp⟩) (by assumption) ?_
        (try simp only [Act.put, q1, q2, q3])
        refine tkH (i := 3) (oi := ⟨some 8, _, _, _, _, _⟩) (v := .pointer (some ⟨gw, 0, none⟩)) rfl (Or.inl ⟨by kernel_rfl, by intro WW hSw; obtain ⟨s0, s1, s2, s3⟩ := hSw; go_simp⟩) (by assumption) ?_
        (try simp only [Act.put, q1, q2, q3])
        refine tkH (i := 4) (oi := ⟨some 9, _, _, _, _, _⟩) (v := .pointer (some ⟨gw, 0, none⟩)) rfl (Or.inl ⟨by kernel_rfl, by intro WW hSw; obtain ⟨s0, s1, s2, s3⟩ := hSw; go_simp⟩) (by assumption) ?_
        (try simp only [Act.put, q1, q2, q3])
        refine tkH (i := 5) (oi := ⟨some 10, _, _, _, _, _⟩) (v := .pointer (some ⟨gw, 2, none⟩)) rfl (Or.inl ⟨by kernel_rfl, by intro WW hSw; obtain ⟨s0, s1, s2, s3⟩ := hSw; go_simp⟩) (by assumption) ?_
        (try simp only [Act.put, q1, q2, q3])
        refine tkH (i := 6) (oi := ⟨some 11, _, _, _, _, _⟩) (v := .slice (some ⟨g, 0, none⟩) m cap) rfl (Or.inl ⟨by kernel_rfl, by intro WW hSw; obtain ⟨s0, s1, s2, s3⟩ := hSw; go_simp⟩) (by assumption) ?_
        (try simp only [Act.put, q1, q2, q3])
        refine tkH (i := 7) (oi := ⟨some 12, _, _, _, _, _⟩) (v := .int .i64 (m : Int)) rfl (Or.inl ⟨by kernel_rfl, by intro WW hSw; obtain ⟨s0, s1, s2, s3⟩ := hSw; go_simp⟩) (by assumption) ?_
        (try simp only [Act.put, q1, q2, q3])
        refine tkH (i := 8) (oi := ⟨some 13, _, _, _, _, _⟩) (v := .bool false) rfl (Or.inl ⟨by kernel_rfl, by intro WW hSw; obtain ⟨s0, s1, s2, s3⟩ := hSw; go_simp⟩) (by assumption) ?_
        (try simp only [Act.put, q1, q2, q3])
        refine tkH (i := 9) (oi := ⟨some 14, _, _, _, _, _⟩) (v := .bool false) rfl (Or.inl ⟨by kernel_rfl, by intro WW hSw; obtain ⟨s0, s1, s2, s3⟩ := hSw; go_simp⟩) (by assumption) ?_
        (try simp only [Act.put, q1, q2, q3])
        refine tkH (i := 10) (oi := ⟨some 15, _, _, _, _, _⟩) (v := .pointer (some ⟨ga, 1, none⟩)) rfl (Or.inl ⟨by kernel_rfl, by intro WW hSw; obtain ⟨s0, s1, s2, s3⟩ := hSw; go_simp⟩) (by assumption) ?_
        (try simp only [Act.put, q1, q2, q3])
        refine tkH (i := 11) (oi := ⟨some 16, _, _, _, _, _⟩) (v := .int .i64 (i : Int)) rfl (Or.inl ⟨by kernel_rfl, by intro WW hSw; obtain ⟨s0, s1, s2, s3⟩ := hSw; go_simp⟩) (by assumption) ?_
        (try simp only [Act.put, q1, q2, q3])
        refine tkH (i := 12) (oi := ⟨some 17, _, _, _, _, _⟩) (v := .bool false) rfl (Or.inl ⟨by kernel_rfl, by intro WW hSw; obtain ⟨s0, s1, s2, s3⟩ := hSw; go_simp⟩) (by assumption) ?_
        (try simp only [Act.put, q1, q2, q3])
        refine tkH (i := 13) (oi := ⟨some 18, _, _, _, _, _⟩) (v := .bool false) rfl (Or.inl ⟨by kernel_rfl, by intro WW hSw; obtain ⟨s0, s1, s2, s3⟩ := hSw; go_simp⟩) (by assumption) ?_
        (try simp only [Act.put, q1, q2, q3])
        refine tkH (i := 14) (oi := ⟨some 19, _, _, _, _, _⟩) (v := .bool false) rfl (Or.inl ⟨by kernel_rfl, by intro WW hSw; obtain ⟨s0, s1, s2, s3⟩ := hSw; go_simp⟩) (by assumption) ?_
        (try simp only [Act.put, q1, q2, q3])
        refine tkH (i := 15) (oi := ⟨some 20, _, _, _, _, _⟩) (v := .pointer (some ⟨ga, 1, none⟩)) rfl (Or.inl ⟨by kernel_rfl, by intro WW hSw; obtain ⟨s0, s1, s2, s3⟩ := hSw; go_simp⟩) (by assumption) ?_
        (try simp only [Act.put, q1, q2, q3])
        refine tkH (i := 16) (oi := ⟨some 21, _, _, _, _, _⟩) (v := .int .i64 (i : Int)) rfl (Or.inl ⟨by kernel_rfl, by intro WW hSw; obtain ⟨s0, s1, s2, s3⟩ := hSw; go_simp⟩) (by assumption) ?_
        (try simp only [Act.put, q1, q2, q3])
        refine tkH (i := 17) (oi := ⟨some 22, _, _, _, _, _⟩) (v := .pointer (some ⟨gg, 0, none⟩)) rfl (Or.inl ⟨by kernel_rfl, by intro WW hSw; obtain ⟨s0, s1, s2, s3⟩ := hSw; go_simp⟩) (by assumption) ?_
        (try simp only [Act.put, q1, q2, q3])
        refine tkH (i := 18) (oi := ⟨some 23, _, _, _, _, _⟩) (v := .pointer (some ⟨gg, 0, none⟩)) rfl (Or.inl ⟨by kernel_rfl, by intro WW hSw; obtain ⟨s0, s1, s2, s3⟩ := hSw; go_simp⟩) (by assumption) ?_
        (try simp only [Act.put, q1, q2, q3])
        refine tkH (i := 19) (oi := ⟨some 24, _, _, _, _, _⟩) (v := .pointer (some ⟨gg, 2, none⟩)) rfl (Or.inl ⟨by kernel_rfl, by intro WW hSw; obtain ⟨s0, s1, s2, s3⟩ := hSw; go_simp⟩) (by assumption) ?_
        (try simp only [Act.put, q1, q2, q3])
        refine tkH (i := 20) (oi := ⟨some 25, _, _, _, _, _⟩) (v := .pointer (some ⟨gw, 0, none⟩)) rfl (Or.inl ⟨by kernel_rfl, by intro WW hSw; obtain ⟨s0, s1, s2, s3⟩ := hSw; go_simp⟩) (by assumption) ?_
        (try simp only [Act.put, q1, q2, q3])
        refine tkH (i := 21) (oi := ⟨some 26, _, _, _, _, _⟩) (v := .pointer (some ⟨gw, 0, none⟩)) rfl (Or.inl ⟨by kernel_rfl, by intro WW hSw; obtain ⟨s0, s1, s2, s3⟩ := hSw; go_simp⟩) (by assumption) ?_
        (try simp only [Act.put, q1, q2, q3])
        refine tkH (i := 22) (oi := ⟨some 27, _, _, _, _, _⟩) (v := .pointer (some ⟨gw, 2, none⟩)) rfl (Or.inl ⟨by kernel_rfl, by intro WW hSw; obtain ⟨s0, s1, s2, s3⟩ := hSw; go_simp⟩) (by assumption) ?_
        (try simp only [Act.put, q1, q2, q3])
        refine tkH (i := 23) (oi := ⟨some 28, _, _, _, _, _⟩) (v := .slice (some ⟨g, 0, none⟩) m cap) rfl (Or.inl ⟨by kernel_rfl, by intro WW hSw; obtain ⟨s0, s1, s2, s3⟩ := hSw; go_simp⟩) (by assumption) ?_
        (try simp only [Act.put, q1, q2, q3])
        refine tkH (i := 24) (oi := ⟨some 29, _, _, _, _, _⟩) (v := .int .i64 (m : Int)) rfl (Or.inl ⟨by kernel_rfl, by intro WW hSw; obtain ⟨s0, s1, s2, s3⟩ := hSw; go_simp⟩) (by assumption) ?_
        (try simp only [Act.put, q1, q2, q3])
        refine tkH (i := 25) (oi := ⟨some 30, _, _, _, _, _⟩) (v := .bool false) rfl (Or.inl ⟨by kernel_rfl, by intro WW hSw; obtain ⟨s0, s1, s2, s3⟩ := hSw; go_simp⟩) (by assumption) ?_
        (try simp only [Act.put, q1, q2, q3])
        refine tkH (i := 26) (oi := ⟨some 31, _, _, _, _, _⟩) (v := .bool false) rfl (Or.inl ⟨by kernel_rfl, by intro WW hSw; obtain ⟨s0, s1, s2, s3⟩ := hSw; go_simp⟩) (by assumption) ?_
        (try simp only [Act.put, q1, q2, q3])
        refine wpAnyH_done (by kernel_rfl) ?_ _
        unfold NoPanic
        clear hHeld
        have HST3 := Lib.hid (fun (WW : World) (hb : Below W0.drew.heap.size W0.drew WW) => And.intro (HST.out WW (Below.and (drew_below W0) hb)) (HQ.out WW (Below.and (Below.and HB0.out (drew_below W0)) hb)))
        have HE := Lib.hid (Below.and (Below.and HB0.out (drew_below W0)) (drew_below W0.drew))
        go_upto_region 3 with (fail)
        refine wp_region_noPanic ?_
        refine wp_region_held_drew (S := fun WW => (WW.cell? ⟨gg, 2, none⟩ = some (.pointer (some ⟨gw, 0, none⟩)) ∧ WW.cell? ⟨gw, 2, none⟩ = some (.slice (some ⟨g, 0, none⟩) m cap) ∧ WW.cell? ⟨ga, 1, none⟩ = some (.int .i64 (i : Int)) ∧ WW.cell? ⟨ga, 2, none⟩ = some (.int .u64 (a : Int))) ∧ WW.cell? ⟨g, i * 2, none⟩ = some (.int .u64 (z : Int))) (by kernel_rfl) (HST3.out _ (drew_below _)) (fun hHeld => ?_)
        refine tkH (i := 0) (oi := ⟨some 34, _, _, _, _, _⟩) (v := .pointer (some ⟨gg, 0, none⟩)) rfl (Or.inl ⟨by kernel_rfl, by intro WW hSw; obtain ⟨⟨s0, s1, s2, s3⟩, s4⟩ := hSw; go_simp⟩) (by assumption) ?_
        (try simp only [Act.put, q1, q2, q3])
        refine tkH (i := 1) (oi := ⟨some 35, _, _, _, _, _⟩) (v := .pointer (some ⟨gg, 0, none⟩)) rfl (Or.inl ⟨by kernel_rfl, by intro WW hSw; obtain ⟨⟨s0, s1, s2, s3⟩, s4⟩ := hSw; go_simp⟩) (by assumption) ?_
        (try simp only [Act.put, q1, q2, q3])
        refine tkH (i := 2) (oi := ⟨some 36, _, _, _, _, _⟩) (v := .pointer (some ⟨gg, 2, none⟩)) rfl (Or.inl ⟨by kernel_rfl, by intro WW hSw; obtain ⟨⟨s0, s1, s2, s3⟩, s4⟩ := hSw; go_simp⟩) (by assumption) ?_
        (try simp only [Act.put, q1, q2, q3])
        refine tkH (i := 3) (oi := ⟨some 37, _, _, _, _, _⟩) (v := .pointer (some ⟨gw, 0, none⟩)) rfl (Or.inl ⟨by kernel_rfl, by intro WW hSw; obtain ⟨⟨s0, s1, s2, s3⟩, s4⟩ := hSw; go_simp⟩) (by assumption) ?_
        (try simp only [Act.put, q1, q2, q3])
        refine tkH (i := 4) (oi := ⟨some 38, _, _, _, _, _⟩) (v := .pointer (some ⟨gw, 0, none⟩)) rfl (Or.inl ⟨by kernel_rfl, by intro WW hSw; obtain ⟨⟨s0, s1, s2, s3⟩, s4⟩ := hSw; go_simp⟩) (by assumption) ?_
        (try simp only [Act.put, q1, q2, q3])
        refine tkH (i := 5) (oi := ⟨some 39, _, _, _, _, _⟩) (v := .pointer (some ⟨gw, 2, none⟩)) rfl (Or.inl ⟨by kernel_rfl, by intro WW hSw; obtain ⟨⟨s0, s1, s2, s3⟩, s4⟩ := hSw; go_simp⟩) (by assumption) ?_
        (try simp only [Act.put, q1, q2, q3])
        refine tkH (i := 6) (oi := ⟨some 40, _, _, _, _, _⟩) (v := .slice (some ⟨g, 0, none⟩) m cap) rfl (Or.inl ⟨by kernel_rfl, by intro WW hSw; obtain ⟨⟨s0, s1, s2, s3⟩, s4⟩ := hSw; go_simp⟩) (by assumption) ?_
        (try simp only [Act.put, q1, q2, q3])
        refine tkH (i := 7) (oi := ⟨some 41, _, _, _, _, _⟩) (v := .pointer (some ⟨ga, 1, none⟩)) rfl (Or.inl ⟨by kernel_rfl, by intro WW hSw; obtain ⟨⟨s0, s1, s2, s3⟩, s4⟩ := hSw; go_simp⟩) (by assumption) ?_
        (try simp only [Act.put, q1, q2, q3])
        refine tkH (i := 8) (oi := ⟨some 42, _, _, _, _, _⟩) (v := .int .i64 (i : Int)) rfl (Or.inl ⟨by kernel_rfl, by intro WW hSw; obtain ⟨⟨s0, s1, s2, s3⟩, s4⟩ := hSw; go_simp⟩) (by assumption) ?_
        (try simp only [Act.put, q1, q2, q3])
        refine tkH (i := 9) (oi := ⟨some 43, _, _, _, _, _⟩) (v := .pointer (some ⟨g, i * 2, none⟩)) rfl (Or.inl ⟨by kernel_rfl, by intro WW hSw; obtain ⟨⟨s0, s1, s2, s3⟩, s4⟩ := hSw; go_simp⟩) (by assumption) ?_
        (try simp only [Act.put, q1, q2, q3])
        refine tkH (i := 10) (oi := ⟨some 44, _, _, _, _, _⟩) (v := .pointer (some ⟨g, i * 2, none⟩)) rfl (Or.inl ⟨by kernel_rfl, by intro WW hSw; obtain ⟨⟨s0, s1, s2, s3⟩, s4⟩ := hSw; go_simp⟩) (by assumption) ?_
        (try simp only [Act.put, q1, q2, q3])
        refine tkH (i := 11) (oi := ⟨some 45, _, _, _, _, _⟩) (v := .int .u64 (z : Int)) rfl (Or.inl ⟨by kernel_rfl, by intro WW hSw; obtain ⟨⟨s0, s1, s2, s3⟩, s4⟩ := hSw; go_simp⟩) (by assumption) ?_
        (try simp only [Act.put, q1, q2, q3])
        refine tkH (i := 12) (oi := ⟨some 4, _, _, _, _, _⟩) (v := .int .u64 (z : Int)) rfl (Or.inl ⟨by kernel_rfl, by intro WW hSw; obtain ⟨⟨s0, s1, s2, s3⟩, s4⟩ := hSw; go_simp⟩) (by assumption) ?_
        (try simp only [Act.put, q1, q2, q3])
        refine wpAnyH_done (by kernel_rfl) ?_ _
        unfold NoPanic
        clear hHeld
        go_wp2
        go_ret
        exact ⟨rfl, HE.out⟩
      · have hza : a = z := by rw [hz]; unfold blkOf; rw [if_neg (by omega)]
        have e2 : decide ((m : Int) ≤ n) = true := by simp; omega
        subst hza
        clear h hr hz hm
        unfold fpt wv at *
        go_enter Tryz.func50, Tryz.ntmps50
        go_upto_region 1 with (fail)
        obtain ⟨ga, hga⟩ : ∃ ga, ga = w.heap.size := ⟨_, rfl⟩
        rw [← hga]
        have HGA := Lib.hid hga
        generalize hW0 : w.alloc _ = W0
        have hb0 : Below w.heap.size w W0 := by rw [← hW0]; exact alloc_below _ _
        have hrow0 : Row W0 ga 45 #[.int .i64 k, .int .i64 n, .int .u64 (a : Int), .int .i64 c] := by rw [← hW0, hga]; exact Row.new _ _ _
        have HB0 := Lib.hid hb0
        have HST := Lib.hid (fun (WW : World) (hb : Below W0.heap.size W0 WW) => (show WW.cell? ⟨gg, 2, none⟩ = some (.pointer (some ⟨gw, 0, none⟩)) ∧ WW.cell? ⟨gw, 2, none⟩ = some (.slice A m cap) ∧ WW.cell? ⟨ga, 1, none⟩ = some (.int .i64 n) ∧ WW.cell? ⟨ga, 2, none⟩ = some (.int .u64 (a : Int)) from ⟨HC0.out WW (Below.and hb0 hb), HC2.out WW (Below.and hb0 hb), by simpa using (hrow0.below hb hrow0.lt).cell 1, by simpa using (hrow0.below hb hrow0.lt).cell 2⟩))
        clear hga hW0 hb0 hrow0
        refine wp_region_noPanic ?_
        refine wp_region_held_drew (S := fun WW => WW.cell? ⟨gg, 2, none⟩ = some (.pointer (some ⟨gw, 0, none⟩)) ∧ WW.cell? ⟨gw, 2, none⟩ = some (.slice A m cap) ∧ WW.cell? ⟨ga, 1, none⟩ = some (.int .i64 n) ∧ WW.cell? ⟨ga, 2, none⟩ = some (.int .u64 (a : Int))) (by kernel_rfl) (HST.out _ (drew_below _)) (fun hHeld => ?_)
        refine tkH (i := 0) (oi := ⟨some 5, _, _, _, _, _⟩) (v := .pointer (some ⟨gg, 0, none⟩)) rfl (Or.inl ⟨by kernel_rfl, by intro WW hSw; obtain ⟨s0, s1, s2, s3⟩ := hSw; go_simp⟩) (by assumption) ?_
        (try simp only [Act.put, q1, q2, q3])
        refine tkH (i := 1) (oi := ⟨some 6, _, _, _, _, _⟩) (v := .pointer (some ⟨gg, 0, none⟩)) rfl (Or.inl ⟨by kernel_rfl, by intro WW hSw; obtain ⟨s0, s1, s2, s3⟩ := hSw; go_simp⟩) (by assumption) ?_
        (try simp only [Act.put, q1, q2, q3])
        refine tkH (i := 2) (oi := ⟨some 7, _, _, _, _, _⟩) (v := .pointer (some ⟨gg, 2, none⟩)) rfl (Or.inl ⟨by kernel_rfl, by intro WW hSw; obtain ⟨s0, s1, s2, s3⟩ := hSw; go_simp⟩) (by assumption) ?_
        (try simp only [Act.put, q1, q2, q3])
        refine tkH (i := 3) (oi := ⟨some 8, _, _, _, _, _⟩) (v := .pointer (some ⟨gw, 0, none⟩)) rfl (Or.inl ⟨by kernel_rfl, by intro WW hSw; obtain ⟨s0, s1, s2, s3⟩ := hSw; go_simp⟩) (by assumption) ?_
        (try simp only [Act.put, q1, q2, q3])
        refine tkH (i := 4) (oi := ⟨some 9, _, _, _, _, _⟩) (v := .pointer (some ⟨gw, 0, none⟩)) rfl (Or.inl ⟨by kernel_rfl, by intro WW hSw; obtain ⟨s0, s1, s2, s3⟩ := hSw; go_simp⟩) (by assumption) ?_
        (try simp only [Act.put, q1, q2, q3])
        refine tkH (i := 5) (oi := ⟨some 10, _, _, _, _, _⟩) (v := .pointer (some ⟨gw, 2, none⟩)) rfl (Or.inl ⟨by kernel_rfl, by intro WW hSw; obtain ⟨s0, s1, s2, s3⟩ := hSw; go_simp⟩) (by assumption) ?_
        (try simp only [Act.put, q1, q2, q3])
        refine tkH (i := 6) (oi := ⟨some 11, _, _, _, _, _⟩) (v := .slice A m cap) rfl (Or.inl ⟨by kernel_rfl, by intro WW hSw; obtain ⟨s0, s1, s2, s3⟩ := hSw; go_simp⟩) (by assumption) ?_
        (try simp only [Act.put, q1, q2, q3])
        refine tkH (i := 7) (oi := ⟨some 12, _, _, _, _, _⟩) (v := .int .i64 (m : Int)) rfl (Or.inl ⟨by kernel_rfl, by intro WW hSw; obtain ⟨s0, s1, s2, s3⟩ := hSw; go_simp⟩) (by assumption) ?_
        (try simp only [Act.put, q1, q2, q3])
        refine tkH (i := 8) (oi := ⟨some 13, _, _, _, _, _⟩) (v := .bool false) rfl (Or.inl ⟨by kernel_rfl, by intro WW hSw; obtain ⟨s0, s1, s2, s3⟩ := hSw; go_simp⟩) (by assumption) ?_
        (try simp only [Act.put, q1, q2, q3])
        refine tkH (i := 9) (oi := ⟨some 14, _, _, _, _, _⟩) (v := .bool false) rfl (Or.inl ⟨by kernel_rfl, by intro WW hSw; obtain ⟨s0, s1, s2, s3⟩ := hSw; go_simp⟩) (by assumption) ?_
        (try simp only [Act.put, q1, q2, q3])
        refine tkH (i := 10) (oi := ⟨some 15, _, _, _, _, _⟩) (v := .pointer (some ⟨ga, 1, none⟩)) rfl (Or.inl ⟨by kernel_rfl, by intro WW hSw; obtain ⟨s0, s1, s2, s3⟩ := hSw; go_simp⟩) (by assumption) ?_
        (try simp only [Act.put, q1, q2, q3])
        refine tkH (i := 11) (oi := ⟨some 16, _, _, _, _, _⟩) (v := .int .i64 n) rfl (Or.inl ⟨by kernel_rfl, by intro WW hSw; obtain ⟨s0, s1, s2, s3⟩ := hSw; go_simp⟩) (by assumption) ?_
        (try simp only [Act.put, q1, q2, q3])
        refine tkH (i := 12) (oi := ⟨some 17, _, _, _, _, _⟩) (v := .bool false) rfl (Or.inl ⟨by kernel_rfl, by intro WW hSw; obtain ⟨s0, s1, s2, s3⟩ := hSw; go_simp⟩) (by assumption) ?_
        (try simp only [Act.put, q1, q2, q3])
        refine tkH (i := 13) (oi := ⟨some 18, _, _, _, _, _⟩) (v := .bool false) rfl (Or.inl ⟨by kernel_rfl, by intro WW hSw; obtain ⟨s0, s1, s2, s3⟩ := hSw; go_simp⟩) (by assumption) ?_
        (try simp only [Act.put, q1, q2, q3])
        refine tkH (i := 14) (oi := ⟨some 19, _, _, _, _, _⟩) (v := .bool false) rfl (Or.inl ⟨by kernel_rfl, by intro WW hSw; obtain ⟨s0, s1, s2, s3⟩ := hSw; go_simp⟩) (by assumption) ?_
        (try simp only [Act.put, q1, q2, q3])
        refine tkH (i := 15) (oi := ⟨some 20, _, _, _, _, _⟩) (v := .pointer (some ⟨ga, 1, none⟩)) rfl (Or.inl ⟨by kernel_rfl, by intro WW hSw; obtain ⟨s0, s1, s2, s3⟩ := hSw; go_simp⟩) (by assumption) ?_
        (try simp only [Act.put, q1, q2, q3])
        refine tkH (i := 16) (oi := ⟨some 21, _, _, _, _, _⟩) (v := .int .i64 n) rfl (Or.inl ⟨by kernel_rfl, by intro WW hSw; obtain ⟨s0, s1, s2, s3⟩ := hSw; go_simp⟩) (by assumption) ?_
        (try simp only [Act.put, q1, q2, q3])
        refine tkH (i := 17) (oi := ⟨some 22, _, _, _, _, _⟩) (v := .pointer (some ⟨gg, 0, none⟩)) rfl (Or.inl ⟨by kernel_rfl, by intro WW hSw; obtain ⟨s0, s1, s2, s3⟩ := hSw; go_simp⟩) (by assumption) ?_
        (try simp only [Act.put, q1, q2, q3])
        refine tkH (i := 18) (oi := ⟨some 23, _, _, _, _, _⟩) (v := .pointer (some ⟨gg, 0, none⟩)) rfl (Or.inl ⟨by kernel_rfl, by intro WW hSw; obtain ⟨s0, s1, s2, s3⟩ := hSw; go_simp⟩) (by assumption) ?_
        (try simp only [Act.put, q1, q2, q3])
        refine tkH (i := 19) (oi := ⟨some 24, _, _, _, _, _⟩) (v := .pointer (some ⟨gg, 2, none⟩)) rfl (Or.inl ⟨by kernel_rfl, by intro WW hSw; obtain ⟨s0, s1, s2, s3⟩ := hSw; go_simp⟩) (by assumption) ?_
        (try simp only [Act.put, q1, q2, q3])
        refine tkH (i := 20) (oi := ⟨some 25, _, _, _, _, _⟩) (v := .pointer (some ⟨gw, 0, none⟩)) rfl (Or.inl ⟨by kernel_rfl, by intro WW hSw; obtain ⟨s0, s1, s2, s3⟩ := hSw; go_simp⟩) (by assumption) ?_
        (try simp only [Act.put, q1, q2, q3])
        refine tkH (i := 21) (oi := ⟨some 26, _, _, _, _, _⟩) (v := .pointer (some ⟨gw, 0, none⟩)) rfl (Or.inl ⟨by kernel_rfl, by intro WW hSw; obtain ⟨s0, s1, s2, s3⟩ := hSw; go_simp⟩) (by assumption) ?_
        (try simp only [Act.put, q1, q2, q3])
        refine tkH (i := 22) (oi := ⟨some 27, _, _, _, _, _⟩) (v := .pointer (some ⟨gw, 2, none⟩)) rfl (Or.inl ⟨by kernel_rfl, by intro WW hSw; obtain ⟨s0, s1, s2, s3⟩ := hSw; go_simp⟩) (by assumption) ?_
        (try simp only [Act.put, q1, q2, q3])
        refine tkH (i := 23) (oi := ⟨some 28, _, _, _, _, _⟩) (v := .slice A m cap) rfl (Or.inl ⟨by kernel_rfl, by intro WW hSw; obtain ⟨s0, s1, s2, s3⟩ := hSw; go_simp⟩) (by assumption) ?_
        (try simp only [Act.put, q1, q2, q3])
        refine tkH (i := 24) (oi := ⟨some 29, _, _, _, _, _⟩) (v := .int .i64 (m : Int)) rfl (Or.inl ⟨by kernel_rfl, by intro WW hSw; obtain ⟨s0, s1, s2, s3⟩ := hSw; go_simp⟩) (by assumption) ?_
        (try simp only [Act.put, q1, q2, q3])
        refine tkH (i := 25) (oi := ⟨some 30, _, _, _, _, _⟩) (v := .bool true) rfl (Or.inl ⟨by kernel_rfl, by intro WW hSw; obtain ⟨s0, s1, s2, s3⟩ := hSw; go_simp⟩) (by assumption) ?_
        (try simp only [Act.put, q1, q2, q3])
        refine tkH (i := 26) (oi := ⟨some 31, _, _, _, _, _⟩) (v := .bool true) rfl (Or.inl ⟨by kernel_rfl, by intro WW hSw; obtain ⟨s0, s1, s2, s3⟩ := hSw; go_simp⟩) (by assumption) ?_
        (try simp only [Act.put, q1, q2, q3])
        refine wpAnyH_done (by kernel_rfl) ?_ _
        unfold NoPanic
        clear hHeld
        have c3 := (HST.out _ (drew_below _)).2.2.2
        have HE := Lib.hid (Below.and HB0.out (drew_below W0))
        go_wp2
        go_ret
        exact ⟨rfl, HE.out⟩
end Go.Proofs.YtahojhaeebmpoaaGreatDoor
/- Fits of the document's blocks: yes, where an image's blocks may be the world's. -/
namespace Go.Proofs.YtahojhaeebmpoaaGreatDoor
open Go Go.RowKit
set_option linter.unusedVariables false
theorem own_cells1 {w : World} {B n m g : Nat} {e : TypeId} {c : Nat} {xs : List Value} (h : w.ownsRow B e 1 (.slice (some ⟨g, 0, none⟩) m c) n xs) {j : Nat} {u : Value} (hj : xs[j]? = some u) : w.cell? ⟨g, j, none⟩ = some u := by
  have := h.cells (g := g) rfl j u hj
  rwa [Addr.add_lit, Nat.zero_add] at this
set_option maxRecDepth 100000 in
set_option maxHeartbeats 3200000 in
theorem r6Fits_any {w : World} {B gw : Nat} {cls : List Nat} {L : List (Nat × Nat)} {vc vl : Value} {l : List Nat} (h : W6At w B gw l.length cls L vc vl) (hL : L.length ≤ 1000000) {a : Addr} {cap n : Nat} (hl : l.length = 1024 * (n + 1)) (hA : Sl w (some a) (l.map bv)) (hb : ∀ x ∈ l, x < 256) (h0 : 0 < n) (h1 : n ≤ 64) (hok : okHeads l n) (hn : cls.length = n)
    (p1 : ∀ p ∈ LK l n, isL L p.1 = 2 ∨ isL L p.1 = 3 ∨ isL L p.1 = 4) (p2 : ∀ p ∈ L, p.2 = 2 → isL (LK l n) p.1 = 2) (p3 : ∀ i, i < n → hcW l i ≠ 0 → cls[i]? = some (hcW l i)) :
    Calls Tryz.prog 21 #[.pointer (some ⟨gw, 0, none⟩), .slice (some a) (1024 * (n + 1)) cap] w fun e w' => e = .returned (.bool true) ∧ Below w.heap.size w w' := by
  have mixed : Tryz.prog.follows .mixedOrders = true := by kernel_rfl
  have HO := Lib.hid (r6Of_yes (cap := cap) hl hA hb h0 h1)
  have HH := Lib.hid (fun (W : World) (hW : Below w.heap.size w W) => h.below hW)
  have HP1 := Lib.hid p1
  have HP2 := Lib.hid p2
  have HP3 := Lib.hid p3
  have HOK := Lib.hid hok
  have hLK := LK_len l n
  obtain ⟨Z, hZ⟩ : ∃ Z, Z = 1024 * (n + 1) := ⟨_, rfl⟩
  rw [← hZ] at HO ⊢
  obtain ⟨sz, hsz⟩ : ∃ sz, sz = l.length := ⟨_, rfl⟩
  have HSZ := Lib.hid hsz
  have HN := Lib.hid hn
  clear h hl hA hb hok p1 p2 p3 hZ hsz hn
  go_enter Tryz.func21, Tryz.ntmps21
  go_wp2_with fail
  refine HO.out.mono ?_
  rintro e w1 (⟨_, go, vo, lo, rfl, hW, hb1⟩ | ⟨hno, _⟩)
  case inr => exact absurd HOK.out hno
  obtain ⟨Ac, cc, rfl, _⟩ := own_some hW.cls (by rw [clsK_len]; exact h0)
  obtain ⟨Ao, co, rfl⟩ := own_at6 hW.bl
  have hw1 := HH.out w1 hb1
  obtain ⟨Ad, cd, rfl, _⟩ := own_some hw1.cls (by rw [HN.out]; exact h0)
  obtain ⟨Al, cl, rfl⟩ := own_at6 hw1.bl
  obtain ⟨m, hm⟩ : ∃ m, m = (LK l n).length := ⟨_, rfl⟩
  obtain ⟨q, hq⟩ : ∃ q, q = L.length := ⟨_, rfl⟩
  rw [clsK_len, ← hm, ← HSZ.out] at hW
  have HNN := HN.out
  rw [HNN, ← hq, ← HSZ.out] at hw1
  have hm9 : m ≤ 10000 := by omega
  have hq9 : q ≤ 1000000 := by omega
  have HM := Lib.hid hm
  have HQ := Lib.hid hq
  have HB1 := Lib.hid hb1
  have HC := Lib.hid (show ∀ W, Below w1.heap.size w1 W → W.cell? ⟨gw, 0, none⟩ = some (.int .i64 (sz : Int)) ∧ W.cell? ⟨gw, 1, none⟩ = some (.slice (some ⟨Ad, 0, none⟩) n cd) ∧ W.cell? ⟨gw, 2, none⟩ = some (.slice Al q cl) ∧ W.cell? ⟨go, 0, none⟩ = some (.int .i64 (sz : Int)) ∧ W.cell? ⟨go, 1, none⟩ = some (.slice (some ⟨Ac, 0, none⟩) n cc) ∧ W.cell? ⟨go, 2, none⟩ = some (.slice Ao m co) from fun W hW2 => by
    have r1 := (hw1.below hW2).row
    have r2 := (hW.below hW2).row
    refine ⟨?_, ?_, ?_, ?_, ?_, ?_⟩
    · rw [r1.cell]; rfl
    · rw [r1.cell]; rfl
    · rw [r1.cell]; rfl
    · rw [r2.cell]; rfl
    · rw [r2.cell]; rfl
    · rw [r2.cell]; rfl)
  have HBO := Lib.hid (show ∀ W, Below w1.heap.size w1 W → ∀ (i : Nat) (p : Nat × Nat), (LK l n)[i]? = some p → ∃ g, Ao = some ⟨g, 0, none⟩ ∧ W.cell? ⟨g, i * 2, none⟩ = some (wv p.1) ∧ W.cell? ⟨g, i * 2 + 1, none⟩ = some (jv p.2) from fun W hW2 i p hp => (hW.below hW2).blk hp)
  have HBL := Lib.hid (show ∀ W, Below w1.heap.size w1 W → ∀ (i : Nat) (p : Nat × Nat), L[i]? = some p → ∃ g, Al = some ⟨g, 0, none⟩ ∧ W.cell? ⟨g, i * 2, none⟩ = some (wv p.1) ∧ W.cell? ⟨g, i * 2 + 1, none⟩ = some (jv p.2) from fun W hW2 i p hp => (hw1.below hW2).blk hp)
  have HCC := Lib.hid (show ∀ W, Below w1.heap.size w1 W → ∀ i, i < n → ∃ c d, hcW l i = c ∧ cls[i]? = some d ∧ W.cell? ⟨Ac, i, none⟩ = some (.int .i64 (c : Int)) ∧ W.cell? ⟨Ad, i, none⟩ = some (.int .i64 (d : Int)) from fun W hW2 i hi => by
    have hi2 : i < cls.length := by rw [HNN]; exact hi
    have e1 := own_cells1 (xs := (clsK l n).map jv) (hW.below hW2).cls (j := i) (u := jv (hcW l i)) (by unfold clsK; rw [List.map_map, List.getElem?_map, List.getElem?_range hi]; rfl)
    have e2 := own_cells1 (xs := cls.map jv) (hw1.below hW2).cls (j := i) (u := jv cls[i]) (by rw [List.getElem?_map, List.getElem?_eq_getElem hi2]; rfl)
    exact ⟨_, _, rfl, List.getElem?_eq_getElem hi2, e1, e2⟩)
  have HISL := Lib.hid (show ∀ W, Below w1.heap.size w1 W → ∀ a : Nat, Calls Tryz.prog 13 #[.pointer (some ⟨gw, 0, none⟩), .int .u64 (a : Int)] W fun e w' => e = .returned (.int .i64 (isL L a : Nat)) ∧ W = w' from fun W hW2 a => r6Is_any (hw1.below hW2) hL a)
  have HISO := Lib.hid (show ∀ W, Below w1.heap.size w1 W → ∀ a : Nat, Calls Tryz.prog 13 #[.pointer (some ⟨go, 0, none⟩), .int .u64 (a : Int)] W fun e w' => e = .returned (.int .i64 (isL (LK l n) a : Nat)) ∧ W = w' from fun W hW2 a => r6Is_any (hW.below hW2) (by omega) a)
  clear hW hw1 hb1 hm hq HO HH HNN hLK hL
  unfold fpt wv jv at *
  go_upto_region 2 with (fail)
  refine wp_region_noPanic ?_
  refine wp_region_held_drew (S := fun W => W.cell? ⟨gw, 0, none⟩ = some (.int .i64 (sz : Int)) ∧ W.cell? ⟨go, 0, none⟩ = some (.int .i64 (sz : Int))) (by kernel_rfl) ⟨(HC.out _ (drew_below _)).1, (HC.out _ (drew_below _)).2.2.2.1⟩ (fun hHeld => ?_)
  refine tkH (i := 0) (oi := ⟨some 16, _, _, _, _, _⟩) (v := .int .i64 0) rfl (Or.inl ⟨by kernel_rfl, by intro WW hSw; obtain ⟨s0, s1⟩ := hSw; go_simp⟩) (by assumption) ?_
  (try simp only [Act.put, q1, q2, q3])
  refine tkH (i := 1) (oi := ⟨some 17, _, _, _, _, _⟩) (v := .bool false) rfl (Or.inl ⟨by kernel_rfl, by intro WW hSw; obtain ⟨s0, s1⟩ := hSw; go_simp⟩) (by assumption) ?_
  (try simp only [Act.put, q1, q2, q3])
  refine tkH (i := 2) (oi := ⟨some 18, _, _, _, _, _⟩) (v := .bool false) rfl (Or.inl ⟨by kernel_rfl, by intro WW hSw; obtain ⟨s0, s1⟩ := hSw; go_simp⟩) (by assumption) ?_
  (try simp only [Act.put, q1, q2, q3])
  refine tkH (i := 3) (oi := ⟨some 19, _, _, _, _, _⟩) (v := .pointer (some ⟨go, 0, none⟩)) rfl (Or.inl ⟨by kernel_rfl, by intro WW hSw; obtain ⟨s0, s1⟩ := hSw; go_simp⟩) (by assumption) ?_
  (try simp only [Act.put, q1, q2, q3])
  refine tkH (i := 4) (oi := ⟨some 20, _, _, _, _, _⟩) (v := .pointer (some ⟨go, 0, none⟩)) rfl (Or.inl ⟨by kernel_rfl, by intro WW hSw; obtain ⟨s0, s1⟩ := hSw; go_simp⟩) (by assumption) ?_
  (try simp only [Act.put, q1, q2, q3])
  refine tkH (i := 5) (oi := ⟨some 21, _, _, _, _, _⟩) (v := .pointer (some ⟨go, 0, none⟩)) rfl (Or.inl ⟨by kernel_rfl, by intro WW hSw; obtain ⟨s0, s1⟩ := hSw; go_simp⟩) (by assumption) ?_
  (try simp only [Act.put, q1, q2, q3])
  refine tkH (i := 6) (oi := ⟨some 22, _, _, _, _, _⟩) (v := .int .i64 (sz : Int)) rfl (Or.inl ⟨by kernel_rfl, by intro WW hSw; obtain ⟨s0, s1⟩ := hSw; go_simp⟩) (by assumption) ?_
  (try simp only [Act.put, q1, q2, q3])
  refine tkH (i := 7) (oi := ⟨some 23, _, _, _, _, _⟩) (v := .pointer (some ⟨gw, 0, none⟩)) rfl (Or.inl ⟨by kernel_rfl, by intro WW hSw; obtain ⟨s0, s1⟩ := hSw; go_simp⟩) (by assumption) ?_
  (try simp only [Act.put, q1, q2, q3])
  refine tkH (i := 8) (oi := ⟨some 24, _, _, _, _, _⟩) (v := .pointer (some ⟨gw, 0, none⟩)) rfl (Or.inl ⟨by kernel_rfl, by intro WW hSw; obtain ⟨s0, s1⟩ := hSw; go_simp⟩) (by assumption) ?_
  (try simp only [Act.put, q1, q2, q3])
  refine tkH (i := 9) (oi := ⟨some 25, _, _, _, _, _⟩) (v := .pointer (some ⟨gw, 0, none⟩)) rfl (Or.inl ⟨by kernel_rfl, by intro WW hSw; obtain ⟨s0, s1⟩ := hSw; go_simp⟩) (by assumption) ?_
  (try simp only [Act.put, q1, q2, q3])
  refine tkH (i := 10) (oi := ⟨some 26, _, _, _, _, _⟩) (v := .int .i64 (sz : Int)) rfl (Or.inl ⟨by kernel_rfl, by intro WW hSw; obtain ⟨s0, s1⟩ := hSw; go_simp⟩) (by assumption) ?_
  (try simp only [Act.put, q1, q2, q3])
  refine tkH (i := 11) (oi := ⟨some 27, _, _, _, _, _⟩) (v := .bool false) rfl (Or.inl ⟨by kernel_rfl, by intro WW hSw; obtain ⟨s0, s1⟩ := hSw; go_simp⟩) (by assumption) ?_
  (try simp only [Act.put, q1, q2, q3])
  refine tkH (i := 12) (oi := ⟨some 28, _, _, _, _, _⟩) (v := .bool false) rfl (Or.inl ⟨by kernel_rfl, by intro WW hSw; obtain ⟨s0, s1⟩ := hSw; go_simp⟩) (by assumption) ?_
  (try simp only [Act.put, q1, q2, q3])
  refine wpAnyH_done (by kernel_rfl) ?_ _
  unfold NoPanic
  clear hHeld
  obtain ⟨c0, c1, c2, d0, d1, d2⟩ := HC.out _ (drew_below w1)
  have HDR := Lib.hid (drew_below w1)
  go_wp2
  go_loopw [7] (fun v wr => ∃ k : Nat, k ≤ m ∧ v = .int .i64 (k : Int) ∧ Below w1.heap.size w1 wr) (fun v _ => m - (intOf v).toNat)
  case atStart => exact ⟨0, Nat.zero_le _, rfl, HDR.out⟩
  case round =>
    obtain ⟨k, hk, rfl, hbr⟩ := hrel
    rename World => wr
    clear c0 c1 c2 d0 d1 d2 HDR
    obtain ⟨c0, c1, c2, d0, d1, d2⟩ := HC.out wr hbr
    have HBR := Lib.hid hbr
    clear hbr
    by_cases hlt : k < m
    · have e1 : decide ((k : Int) < (m : Int)) = true := by simp; omega
      have hk2 : k < (LK l n).length := by rw [← HM.out]; exact hlt
      obtain ⟨g, hg, k0, kx⟩ := HBO.out wr HBR.out k _ (List.getElem?_eq_getElem hk2)
      subst hg
      have hv := HP1.out _ (List.getElem_mem hk2)
      have HIS := Lib.hid (HISL.out wr HBR.out ((LK l n)[k]).1)
      obtain ⟨x, hx⟩ : ∃ x, x = ((LK l n)[k]).1 := ⟨_, rfl⟩
      rw [← hx] at k0 hv HIS
      obtain ⟨y, hy⟩ : ∃ y, y = isL L x := ⟨_, rfl⟩
      rw [← hy] at hv HIS
      clear kx
      clear hx hy hk2
      go_wp2_with fail
      refine HIS.out.mono ?_
      rintro e w2 ⟨rfl, rfl⟩
      clear c0 c1 c2 d0 d1 d2 k0 HIS
      have hrel2 : (∃ k2 : Nat, k2 ≤ m ∧ Value.int .i64 ((k : Int) + 1) = .int .i64 (k2 : Int) ∧ Below w1.heap.size w1 wr) ∧ m - (intOf (Value.int .i64 ((k : Int) + 1))).toNat < m - (intOf (Value.int .i64 (k : Int))).toNat := ⟨⟨k + 1, by omega, by go_num, HBR.out⟩, by show m - ((k : Int) + 1).toNat < m - (k : Int).toNat; omega⟩
      have HREL := Lib.hid hrel2
      clear hrel2
      rcases hv with rfl | rfl | rfl
      all_goals go_wp2
      all_goals exact HREL.out
    · have e1 : decide ((k : Int) < (m : Int)) = false := by simp; omega
      go_wp2
      go_loopw [9] (fun v wr => ∃ k : Nat, k ≤ q ∧ v = .int .i64 (k : Int) ∧ Below w1.heap.size w1 wr) (fun v _ => q - (intOf v).toNat)
      case atStart => exact ⟨0, Nat.zero_le _, rfl, HBR.out⟩
      case round =>
        obtain ⟨j, hj, rfl, hbr⟩ := hrel
        rename World => wr2
        clear c0 c1 c2 d0 d1 d2 HBR
        obtain ⟨c0, c1, c2, d0, d1, d2⟩ := HC.out wr2 hbr
        have HBR := Lib.hid hbr
        clear hbr
        by_cases hlt2 : j < q
        · have e2 : decide ((j : Int) < (q : Int)) = true := by simp; omega
          have hj2 : j < L.length := by rw [← HQ.out]; exact hlt2
          obtain ⟨g, hg, k0, k1⟩ := HBL.out wr2 HBR.out j _ (List.getElem?_eq_getElem hj2)
          subst hg
          have hv := HP2.out _ (List.getElem_mem hj2)
          have HIS := Lib.hid (HISO.out wr2 HBR.out (L[j]).1)
          obtain ⟨x, hx⟩ : ∃ x, x = (L[j]).1 := ⟨_, rfl⟩
          obtain ⟨z, hz⟩ : ∃ z, z = (L[j]).2 := ⟨_, rfl⟩
          rw [← hx] at k0 hv HIS
          rw [← hz] at k1 hv
          obtain ⟨y, hy⟩ : ∃ y, y = isL (LK l n) x := ⟨_, rfl⟩
          rw [← hy] at hv HIS
          clear hx hy hz hj2
          have hrel2 : (∃ k2 : Nat, k2 ≤ q ∧ Value.int .i64 ((j : Int) + 1) = .int .i64 (k2 : Int) ∧ Below w1.heap.size w1 wr2) ∧ q - (intOf (Value.int .i64 ((j : Int) + 1))).toNat < q - (intOf (Value.int .i64 (j : Int))).toNat := ⟨⟨j + 1, by omega, by go_num, HBR.out⟩, by show q - ((j : Int) + 1).toNat < q - (j : Int).toNat; omega⟩
          have HREL := Lib.hid hrel2
          clear hrel2
          by_cases hz2 : z = 2
          · have hy2 := hv hz2
            subst hz2 hy2
            clear hv
            go_wp2_with fail
            refine HIS.out.mono ?_
            rintro e w2 ⟨rfl, rfl⟩
            go_wp2
            exact HREL.out
          · have e3 : ((z : Int) == 2) = false := by simp; omega
            clear hv hz2
            go_wp2
            exact HREL.out
        · have e2 : decide ((j : Int) < (q : Int)) = false := by simp; omega
          go_wp2
          go_loopw [10] (fun v wr => ∃ k : Nat, k ≤ n ∧ v = .int .i64 (k : Int) ∧ Below w1.heap.size w1 wr) (fun v _ => n - (intOf v).toNat)
          case atStart => exact ⟨0, Nat.zero_le _, rfl, HBR.out⟩
          case round =>
            obtain ⟨i, hi, rfl, hbr⟩ := hrel
            rename World => wr3
            clear c0 c1 c2 d0 d1 d2 HBR
            obtain ⟨c0, c1, c2, d0, d1, d2⟩ := HC.out wr3 hbr
            have HBR := Lib.hid hbr
            clear hbr
            by_cases hlt3 : i < n
            · have e4 : decide ((i : Int) < (n : Int)) = true := by simp; omega
              obtain ⟨c, d, hc, hd, _, _⟩ := HCC.out wr3 HBR.out i hlt3
              have hin : (i : Int) < (n : Int) := by omega
              have HST := Lib.hid (show ∀ W, Below wr3.heap.size wr3 W → W.cell? ⟨gw, 1, none⟩ = some (.slice (some ⟨Ad, 0, none⟩) n cd) ∧ W.cell? ⟨go, 1, none⟩ = some (.slice (some ⟨Ac, 0, none⟩) n cc) ∧ W.cell? ⟨Ac, i, none⟩ = some (.int .i64 (c : Int)) ∧ W.cell? ⟨Ad, i, none⟩ = some (.int .i64 (d : Int)) from fun W hW2 => by
                have hb := Below.and HBR.out hW2
                obtain ⟨_, q1, _, _, q2, _⟩ := HC.out W hb
                obtain ⟨c2, d2, h1, h2, h3, h4⟩ := HCC.out W hb i hlt3
                rw [hc] at h1
                rw [hd] at h2
                cases h1
                cases h2
                exact ⟨q1, q2, h3, h4⟩)
              have hcd : c ≠ 0 → c = d := fun h => by
                have := HP3.out i hlt3 (by rw [hc]; exact h)
                rw [hd, hc] at this
                exact (Option.some.inj this).symm
              have hrel2 : (∃ k2 : Nat, k2 ≤ n ∧ Value.int .i64 ((i : Int) + 1) = .int .i64 (k2 : Int) ∧ Below w1.heap.size w1 wr3.drew) ∧ n - (intOf (Value.int .i64 ((i : Int) + 1))).toNat < n - (intOf (Value.int .i64 (i : Int))).toNat := ⟨⟨i + 1, by omega, by go_num, Below.and HBR.out (drew_below _)⟩, by show n - ((i : Int) + 1).toNat < n - (i : Int).toNat; omega⟩
              have HREL := Lib.hid hrel2
              clear hrel2 hc hd
              by_cases hc0 : c = 0
              · subst hc0
                clear hcd
                go_upto_region 18 with (fail)
                refine wp_region_noPanic ?_
                refine wp_region_held_drew (S := fun W => W.cell? ⟨gw, 1, none⟩ = some (.slice (some ⟨Ad, 0, none⟩) n cd) ∧ W.cell? ⟨go, 1, none⟩ = some (.slice (some ⟨Ac, 0, none⟩) n cc) ∧ W.cell? ⟨Ac, i, none⟩ = some (.int .i64 (0 : Int)) ∧ W.cell? ⟨Ad, i, none⟩ = some (.int .i64 (d : Int))) (by kernel_rfl) (HST.out _ (drew_below _)) (fun hHeld => ?_)
                refine tkH (i := 0) (oi := ⟨some 98, _, _, _, _, _⟩) (v := .pointer (some ⟨go, 0, none⟩)) rfl (Or.inl ⟨by kernel_rfl, by intro WW hSw; obtain ⟨s0, s1, s2, s3⟩ := hSw; go_simp⟩) (by assumption) ?_
                (try simp only [Act.put, q1, q2, q3])
                refine tkH (i := 1) (oi := ⟨some 99, _, _, _, _, _⟩) (v := .pointer (some ⟨go, 0, none⟩)) rfl (Or.inl ⟨by kernel_rfl, by intro WW hSw; obtain ⟨s0, s1, s2, s3⟩ := hSw; go_simp⟩) (by assumption) ?_
                (try simp only [Act.put, q1, q2, q3])
                refine tkH (i := 2) (oi := ⟨some 100, _, _, _, _, _⟩) (v := .pointer (some ⟨go, 1, none⟩)) rfl (Or.inl ⟨by kernel_rfl, by intro WW hSw; obtain ⟨s0, s1, s2, s3⟩ := hSw; go_simp⟩) (by assumption) ?_
                (try simp only [Act.put, q1, q2, q3])
                refine tkH (i := 3) (oi := ⟨some 101, _, _, _, _, _⟩) (v := .slice (some ⟨Ac, 0, none⟩) n cc) rfl (Or.inl ⟨by kernel_rfl, by intro WW hSw; obtain ⟨s0, s1, s2, s3⟩ := hSw; go_simp⟩) (by assumption) ?_
                (try simp only [Act.put, q1, q2, q3])
                refine tkH (i := 4) (oi := ⟨some 102, _, _, _, _, _⟩) (v := .int .i64 (i : Int)) rfl (Or.inl ⟨by kernel_rfl, by intro WW hSw; obtain ⟨s0, s1, s2, s3⟩ := hSw; go_simp⟩) (by assumption) ?_
                (try simp only [Act.put, q1, q2, q3])
                refine tkH (i := 5) (oi := ⟨some 103, _, _, _, _, _⟩) (v := .pointer (some ⟨Ac, i, none⟩)) rfl (Or.inl ⟨by kernel_rfl, by intro WW hSw; obtain ⟨s0, s1, s2, s3⟩ := hSw; go_simp⟩) (by assumption) ?_
                (try simp only [Act.put, q1, q2, q3])
                refine tkH (i := 6) (oi := ⟨some 104, _, _, _, _, _⟩) (v := .int .i64 0) rfl (Or.inl ⟨by kernel_rfl, by intro WW hSw; obtain ⟨s0, s1, s2, s3⟩ := hSw; go_simp⟩) (by assumption) ?_
                (try simp only [Act.put, q1, q2, q3])
                refine tkH (i := 7) (oi := ⟨some 105, _, _, _, _, _⟩) (v := .bool false) rfl (Or.inl ⟨by kernel_rfl, by intro WW hSw; obtain ⟨s0, s1, s2, s3⟩ := hSw; go_simp⟩) (by assumption) ?_
                (try simp only [Act.put, q1, q2, q3])
                refine tkH (i := 8) (oi := ⟨some 106, _, _, _, _, _⟩) (v := .bool false) rfl (Or.inl ⟨by kernel_rfl, by intro WW hSw; obtain ⟨s0, s1, s2, s3⟩ := hSw; go_simp⟩) (by assumption) ?_
                (try simp only [Act.put, q1, q2, q3])
                refine tkH (i := 9) (oi := ⟨some 107, _, _, _, _, _⟩) (v := undef) rfl (Or.inr ⟨by kernel_rfl, rfl⟩) (by assumption) ?_
                (try simp only [Act.put, q1, q2, q3])
                refine tkH (i := 10) (oi := ⟨some 108, _, _, _, _, _⟩) (v := undef) rfl (Or.inr ⟨by kernel_rfl, rfl⟩) (by assumption) ?_
                (try simp only [Act.put, q1, q2, q3])
                refine tkH (i := 11) (oi := ⟨some 109, _, _, _, _, _⟩) (v := undef) rfl (Or.inr ⟨by kernel_rfl, rfl⟩) (by assumption) ?_
                (try simp only [Act.put, q1, q2, q3])
                refine tkH (i := 12) (oi := ⟨some 110, _, _, _, _, _⟩) (v := undef) rfl (Or.inr ⟨by kernel_rfl, rfl⟩) (by assumption) ?_
                (try simp only [Act.put, q1, q2, q3])
                refine tkH (i := 13) (oi := ⟨some 111, _, _, _, _, _⟩) (v := undef) rfl (Or.inr ⟨by kernel_rfl, rfl⟩) (by assumption) ?_
                (try simp only [Act.put, q1, q2, q3])
                refine tkH (i := 14) (oi := ⟨some 112, _, _, _, _, _⟩) (v := undef) rfl (Or.inr ⟨by kernel_rfl, rfl⟩) (by assumption) ?_
                (try simp only [Act.put, q1, q2, q3])
                refine tkH (i := 15) (oi := ⟨some 113, _, _, _, _, _⟩) (v := undef) rfl (Or.inr ⟨by kernel_rfl, rfl⟩) (by assumption) ?_
                (try simp only [Act.put, q1, q2, q3])
                refine tkH (i := 16) (oi := ⟨some 114, _, _, _, _, _⟩) (v := undef) rfl (Or.inr ⟨by kernel_rfl, rfl⟩) (by assumption) ?_
                (try simp only [Act.put, q1, q2, q3])
                refine tkH (i := 17) (oi := ⟨some 115, _, _, _, _, _⟩) (v := undef) rfl (Or.inr ⟨by kernel_rfl, rfl⟩) (by assumption) ?_
                (try simp only [Act.put, q1, q2, q3])
                refine tkH (i := 18) (oi := ⟨some 116, _, _, _, _, _⟩) (v := undef) rfl (Or.inr ⟨by kernel_rfl, rfl⟩) (by assumption) ?_
                (try simp only [Act.put, q1, q2, q3])
                refine tkH (i := 19) (oi := ⟨some 117, _, _, _, _, _⟩) (v := undef) rfl (Or.inr ⟨by kernel_rfl, rfl⟩) (by assumption) ?_
                (try simp only [Act.put, q1, q2, q3])
                refine tkH (i := 20) (oi := ⟨some 118, _, _, _, _, _⟩) (v := undef) rfl (Or.inr ⟨by kernel_rfl, rfl⟩) (by assumption) ?_
                (try simp only [Act.put, q1, q2, q3])
                refine tkH (i := 21) (oi := ⟨some 119, _, _, _, _, _⟩) (v := undef) rfl (Or.inr ⟨by kernel_rfl, rfl⟩) (by assumption) ?_
                (try simp only [Act.put, q1, q2, q3])
                refine tkH (i := 22) (oi := ⟨some 120, _, _, _, _, _⟩) (v := undef) rfl (Or.inr ⟨by kernel_rfl, rfl⟩) (by assumption) ?_
                (try simp only [Act.put, q1, q2, q3])
                refine tkH (i := 23) (oi := ⟨some 121, _, _, _, _, _⟩) (v := undef) rfl (Or.inr ⟨by kernel_rfl, rfl⟩) (by assumption) ?_
                (try simp only [Act.put, q1, q2, q3])
                refine tkH (i := 24) (oi := ⟨some 122, _, _, _, _, _⟩) (v := .bool false) rfl (Or.inl ⟨by kernel_rfl, by intro WW hSw; obtain ⟨s0, s1, s2, s3⟩ := hSw; go_simp⟩) (by assumption) ?_
                (try simp only [Act.put, q1, q2, q3])
                refine wpAnyH_done (by kernel_rfl) ?_ _
                unfold NoPanic
                clear hHeld
                go_wp2
                exact HREL.out
              · obtain rfl := hcd hc0
                have hce : ((c : Int) == 0) = false := by simp; omega
                have hcn : ((c : Int) != 0) = true := by simp; omega
                have hcc : ((c : Int) != (c : Int)) = false := by simp
                clear hcd hc0
                go_upto_region 18 with (fail)
                refine wp_region_noPanic ?_
                refine wp_region_held_drew (S := fun W => W.cell? ⟨gw, 1, none⟩ = some (.slice (some ⟨Ad, 0, none⟩) n cd) ∧ W.cell? ⟨go, 1, none⟩ = some (.slice (some ⟨Ac, 0, none⟩) n cc) ∧ W.cell? ⟨Ac, i, none⟩ = some (.int .i64 (c : Int)) ∧ W.cell? ⟨Ad, i, none⟩ = some (.int .i64 (c : Int))) (by kernel_rfl) (HST.out _ (drew_below _)) (fun hHeld => ?_)
                refine tkH (i := 0) (oi := ⟨some 98, _, _, _, _, _⟩) (v := .pointer (some ⟨go, 0, none⟩)) rfl (Or.inl ⟨by kernel_rfl, by intro WW hSw; obtain ⟨s0, s1, s2, s3⟩ := hSw; go_simp⟩) (by assumption) ?_
                (try simp only [Act.put, q1, q2, q3])
                refine tkH (i := 1) (oi := ⟨some 99, _, _, _, _, _⟩) (v := .pointer (some ⟨go, 0, none⟩)) rfl (Or.inl ⟨by kernel_rfl, by intro WW hSw; obtain ⟨s0, s1, s2, s3⟩ := hSw; go_simp⟩) (by assumption) ?_
                (try simp only [Act.put, q1, q2, q3])
                refine tkH (i := 2) (oi := ⟨some 100, _, _, _, _, _⟩) (v := .pointer (some ⟨go, 1, none⟩)) rfl (Or.inl ⟨by kernel_rfl, by intro WW hSw; obtain ⟨s0, s1, s2, s3⟩ := hSw; go_simp⟩) (by assumption) ?_
                (try simp only [Act.put, q1, q2, q3])
                refine tkH (i := 3) (oi := ⟨some 101, _, _, _, _, _⟩) (v := .slice (some ⟨Ac, 0, none⟩) n cc) rfl (Or.inl ⟨by kernel_rfl, by intro WW hSw; obtain ⟨s0, s1, s2, s3⟩ := hSw; go_simp⟩) (by assumption) ?_
                (try simp only [Act.put, q1, q2, q3])
                refine tkH (i := 4) (oi := ⟨some 102, _, _, _, _, _⟩) (v := .int .i64 (i : Int)) rfl (Or.inl ⟨by kernel_rfl, by intro WW hSw; obtain ⟨s0, s1, s2, s3⟩ := hSw; go_simp⟩) (by assumption) ?_
                (try simp only [Act.put, q1, q2, q3])
                refine tkH (i := 5) (oi := ⟨some 103, _, _, _, _, _⟩) (v := .pointer (some ⟨Ac, i, none⟩)) rfl (Or.inl ⟨by kernel_rfl, by intro WW hSw; obtain ⟨s0, s1, s2, s3⟩ := hSw; go_simp⟩) (by assumption) ?_
                (try simp only [Act.put, q1, q2, q3])
                refine tkH (i := 6) (oi := ⟨some 104, _, _, _, _, _⟩) (v := .int .i64 (c : Int)) rfl (Or.inl ⟨by kernel_rfl, by intro WW hSw; obtain ⟨s0, s1, s2, s3⟩ := hSw; go_simp⟩) (by assumption) ?_
                (try simp only [Act.put, q1, q2, q3])
                refine tkH (i := 7) (oi := ⟨some 105, _, _, _, _, _⟩) (v := .bool true) rfl (Or.inl ⟨by kernel_rfl, by intro WW hSw; obtain ⟨s0, s1, s2, s3⟩ := hSw; go_simp⟩) (by assumption) ?_
                (try simp only [Act.put, q1, q2, q3])
                refine tkH (i := 8) (oi := ⟨some 106, _, _, _, _, _⟩) (v := .bool true) rfl (Or.inl ⟨by kernel_rfl, by intro WW hSw; obtain ⟨s0, s1, s2, s3⟩ := hSw; go_simp⟩) (by assumption) ?_
                (try simp only [Act.put, q1, q2, q3])
                refine tkH (i := 9) (oi := ⟨some 107, _, _, _, _, _⟩) (v := .pointer (some ⟨go, 0, none⟩)) rfl (Or.inl ⟨by kernel_rfl, by intro WW hSw; obtain ⟨s0, s1, s2, s3⟩ := hSw; go_simp⟩) (by assumption) ?_
                (try simp only [Act.put, q1, q2, q3])
                refine tkH (i := 10) (oi := ⟨some 108, _, _, _, _, _⟩) (v := .pointer (some ⟨go, 0, none⟩)) rfl (Or.inl ⟨by kernel_rfl, by intro WW hSw; obtain ⟨s0, s1, s2, s3⟩ := hSw; go_simp⟩) (by assumption) ?_
                (try simp only [Act.put, q1, q2, q3])
                refine tkH (i := 11) (oi := ⟨some 109, _, _, _, _, _⟩) (v := .pointer (some ⟨go, 1, none⟩)) rfl (Or.inl ⟨by kernel_rfl, by intro WW hSw; obtain ⟨s0, s1, s2, s3⟩ := hSw; go_simp⟩) (by assumption) ?_
                (try simp only [Act.put, q1, q2, q3])
                refine tkH (i := 12) (oi := ⟨some 110, _, _, _, _, _⟩) (v := .slice (some ⟨Ac, 0, none⟩) n cc) rfl (Or.inl ⟨by kernel_rfl, by intro WW hSw; obtain ⟨s0, s1, s2, s3⟩ := hSw; go_simp⟩) (by assumption) ?_
                (try simp only [Act.put, q1, q2, q3])
                refine tkH (i := 13) (oi := ⟨some 111, _, _, _, _, _⟩) (v := .int .i64 (i : Int)) rfl (Or.inl ⟨by kernel_rfl, by intro WW hSw; obtain ⟨s0, s1, s2, s3⟩ := hSw; go_simp⟩) (by assumption) ?_
                (try simp only [Act.put, q1, q2, q3])
                refine tkH (i := 14) (oi := ⟨some 112, _, _, _, _, _⟩) (v := .pointer (some ⟨Ac, i, none⟩)) rfl (Or.inl ⟨by kernel_rfl, by intro WW hSw; obtain ⟨s0, s1, s2, s3⟩ := hSw; go_simp⟩) (by assumption) ?_
                (try simp only [Act.put, q1, q2, q3])
                refine tkH (i := 15) (oi := ⟨some 113, _, _, _, _, _⟩) (v := .int .i64 (c : Int)) rfl (Or.inl ⟨by kernel_rfl, by intro WW hSw; obtain ⟨s0, s1, s2, s3⟩ := hSw; go_simp⟩) (by assumption) ?_
                (try simp only [Act.put, q1, q2, q3])
                refine tkH (i := 16) (oi := ⟨some 114, _, _, _, _, _⟩) (v := .pointer (some ⟨gw, 0, none⟩)) rfl (Or.inl ⟨by kernel_rfl, by intro WW hSw; obtain ⟨s0, s1, s2, s3⟩ := hSw; go_simp⟩) (by assumption) ?_
                (try simp only [Act.put, q1, q2, q3])
                refine tkH (i := 17) (oi := ⟨some 115, _, _, _, _, _⟩) (v := .pointer (some ⟨gw, 0, none⟩)) rfl (Or.inl ⟨by kernel_rfl, by intro WW hSw; obtain ⟨s0, s1, s2, s3⟩ := hSw; go_simp⟩) (by assumption) ?_
                (try simp only [Act.put, q1, q2, q3])
                refine tkH (i := 18) (oi := ⟨some 116, _, _, _, _, _⟩) (v := .pointer (some ⟨gw, 1, none⟩)) rfl (Or.inl ⟨by kernel_rfl, by intro WW hSw; obtain ⟨s0, s1, s2, s3⟩ := hSw; go_simp⟩) (by assumption) ?_
                (try simp only [Act.put, q1, q2, q3])
                refine tkH (i := 19) (oi := ⟨some 117, _, _, _, _, _⟩) (v := .slice (some ⟨Ad, 0, none⟩) n cd) rfl (Or.inl ⟨by kernel_rfl, by intro WW hSw; obtain ⟨s0, s1, s2, s3⟩ := hSw; go_simp⟩) (by assumption) ?_
                (try simp only [Act.put, q1, q2, q3])
                refine tkH (i := 20) (oi := ⟨some 118, _, _, _, _, _⟩) (v := .int .i64 (i : Int)) rfl (Or.inl ⟨by kernel_rfl, by intro WW hSw; obtain ⟨s0, s1, s2, s3⟩ := hSw; go_simp⟩) (by assumption) ?_
                (try simp only [Act.put, q1, q2, q3])
                refine tkH (i := 21) (oi := ⟨some 119, _, _, _, _, _⟩) (v := .pointer (some ⟨Ad, i, none⟩)) rfl (Or.inl ⟨by kernel_rfl, by intro WW hSw; obtain ⟨s0, s1, s2, s3⟩ := hSw; go_simp⟩) (by assumption) ?_
                (try simp only [Act.put, q1, q2, q3])
                refine tkH (i := 22) (oi := ⟨some 120, _, _, _, _, _⟩) (v := .int .i64 (c : Int)) rfl (Or.inl ⟨by kernel_rfl, by intro WW hSw; obtain ⟨s0, s1, s2, s3⟩ := hSw; go_simp⟩) (by assumption) ?_
                (try simp only [Act.put, q1, q2, q3])
                refine tkH (i := 23) (oi := ⟨some 121, _, _, _, _, _⟩) (v := .bool false) rfl (Or.inl ⟨by kernel_rfl, by intro WW hSw; obtain ⟨s0, s1, s2, s3⟩ := hSw; go_simp⟩) (by assumption) ?_
                (try simp only [Act.put, q1, q2, q3])
                refine tkH (i := 24) (oi := ⟨some 122, _, _, _, _, _⟩) (v := .bool false) rfl (Or.inl ⟨by kernel_rfl, by intro WW hSw; obtain ⟨s0, s1, s2, s3⟩ := hSw; go_simp⟩) (by assumption) ?_
                (try simp only [Act.put, q1, q2, q3])
                refine wpAnyH_done (by kernel_rfl) ?_ _
                unfold NoPanic
                clear hHeld
                go_wp2
                exact HREL.out
            · have e4 : decide ((i : Int) < (n : Int)) = false := by simp; omega
              have HE := Lib.hid (Below.and HB1.out HBR.out)
              go_wp2
              go_ret
              exact ⟨rfl, HE.out⟩
end Go.Proofs.YtahojhaeebmpoaaGreatDoor
