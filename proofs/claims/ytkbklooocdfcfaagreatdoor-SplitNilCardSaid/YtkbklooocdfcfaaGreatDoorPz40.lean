/- Texts of this claim, packed: ArV. -/
import Derived.Test.YtkbklooocdfcfaaGreatDoorPz31
import Derived.Test.YtkbklooocdfcfaaGreatDoorPz03
import Derived.Deep.DeepCutAuto
set_option linter.unusedVariables false
set_option maxRecDepth 100000
set_option maxHeartbeats 6400000
namespace Go.Proofs.YtkbklooocdfcfaaGreatDoor
open Go.RowKit
theorem arNewValue_any {w : World} {g gb : Nat} {LV : Value} {A : Ar} (h : ArAt w g gb LV A) (ok : A.Ok) :
  Calls Tryz.prog 47 #[.pointer (some ⟨g, 0, none⟩)] w fun e w' => e = .returned (.int .i64 (A.newValue.1 : Int)) /\ ArT w g gb LV A.newValue.2 w' := by
 have mixed : Tryz.prog.follows .mixedOrders = true := by kernel_rfl
 have a3 : w.cell? ⟨g, 3, none⟩ = some (.int .i64 (A.value : Int)) := h.row.cell 3
 have a4 : w.cell? ⟨g, 4, none⟩ = some (.int .i64 (A.values : Int)) := h.row.cell 4
 have q3 := ok.value
 have q4 := ok.used
 have q5 := ok.n
 have q6 := ok.values
 have q7 := ok.node
 have q8 := ok.nodes
 by_cases z0 : A.value = 0
 ·have e0 : A.newV0 = { (A.slab 1).2 with value := (A.slab 1).1, values := 0 } := if_pos (.inl z0)
  have HS := Lib.hid (arSlab_any (c := 1) h ok (by decide))
  obtain ⟨S, hS⟩ : ∃ S, S = (A.slab 1).1 := ⟨_, rfl⟩
  rw [<- hS] at HS e0
  have HE := Lib.hid e0
  have OK := Lib.hid ok
  have hSb : S <= 64 := by have h5 := (Ar.slab_ok ok 1); have := h5.1.used; have := h5.1.n; omega
  have d1 : (A.value == 0) = true := by simpa using z0
  have d2 : ((A.value : Int) == 0) = true := by simp; omega
  clear z0
  clear h e0 hS ok
  go_enter Tryz.func47, Tryz.ntmps47
  go_wp2_with fail
  refine HS.out.mono ?_
  rintro e w1 ⟨rfl, h1, hb1⟩
  obtain ⟨g2, hb2⟩ := h1.value S
  obtain ⟨g3, hb3⟩ := g2.values 0
  have f3 := h1.row.free 3
  have f4 := h1.row.free 4
  have t3 := h1.row.cell 3
  have t4 := h1.row.cell 4
  obtain ⟨W2, hW2⟩ : ∃ W2, W2 = (w1.setCell ⟨g, 3, none⟩ (.int .i64 (S : Int))).setCell ⟨g, 4, none⟩ (.int .i64 0) := ⟨_, rfl⟩
  have h2 : ArT w g gb LV A.newV0 W2 := by
   rw [HE.out, hW2]
   exact ⟨g3, (hb1.trans hb2 fun k hk => .inl hk).trans hb3 fun k hk => .inl hk⟩
  have HW2 := Lib.hid hW2
  have H2' := Lib.hid h2
  clear h1 hb1 g2 hb2 g3 hb3 HS hW2 h2
  go_upto_region 4 with (fail)
  rw [<- HW2.out]
  have h2 := H2'.out
  have ok := OK.out
  clear a3 a4 f3 f4 t3 t4 q3 q4 q5 q6 q7 q8 H2' HW2 OK HE hSb d1 d2
  have ok2 := (Ar.newV0_ok ok).1
  have n2 := (Ar.newV0_ok ok).2.1
  have v2 := (Ar.newV0_ok ok).2.2
  have E2 := Lib.hid (show A.newValue = if A.newV0.value = 0 then (0, A.newV0) else (1024 * A.newV0.value + 64 * (A.newV0.values + 1), { A.newV0.taken A.newV0.value A.newV0.values with values := A.newV0.values + 1 }) from rfl)
  obtain ⟨B, hB⟩ : ∃ B, B = A.newV0 := ⟨_, rfl⟩
  rw [<- hB] at ok2 n2 v2 E2 h2
  have x2 := ok2.used
  have x3 := ok2.value
  have x4 := ok2.n
  clear hB
  by_cases z : B.value = 0
  ·have d5 : (B.value == 0) = true := by simpa using z
   have d6 : ((B.value : Int) == 0) = true := by simp; omega
   have c3 : W2.cell? ⟨g, 3, none⟩ = some (.int .i64 (B.value : Int)) := h2.1.row.cell 3
   have R := Lib.hid (E2.out.trans (if_pos z))
   have H2 := Lib.hid h2
   clear h2 v2 z
   go_wp2
   go_ret
   rw [R.out]
   exact ⟨rfl, H2.out⟩
  ·have d5 : (B.value == 0) = false := by simpa using z
   have d6 : ((B.value : Int) == 0) = false := by rw [Bool.eq_false_iff]; intro k; have := beq_iff_eq.1 k; omega
   have hv := v2 z
   have c3 : W2.cell? ⟨g, 3, none⟩ = some (.int .i64 (B.value : Int)) := h2.1.row.cell 3
   have cp3 := fun p : LowBy W2 => LowBy.cell c3 p
   have cp4 := fun p : LowBy W2 => LowBy.cell (show W2.cell? ⟨g, 4, none⟩ = some (.int .i64 (B.values : Int)) from h2.1.row.cell 4) p
   have R := Lib.hid (E2.out.trans (if_neg z))
   have HT := Lib.hid fun p : LowBy W2 => arTaken_any (s := B.value) (j := B.values) (h2.1.below p.low) ok2 (by omega) (by omega)
   have H2 := Lib.hid h2
   have hs64 : B.value <= 64 := by omega
   have hj15 : B.values <= 15 := by omega
   have hjI : (B.values : Int) + 1 = ((B.values + 1 : Nat) : Int) := by omega
   clear h2 v2 z hv ok2 x3
   go_wp2_with fail
   refine wp_region_low_tail 9 (by assumption) (by kernel_rfl) ?_
   simp only [List.take_succ_cons, List.take_zero, List.drop_succ_cons, List.drop_zero]
   repeat (go_big_quiet_step (fail))
   refine wpQuiet_nil ?_
   intro _ hw'
   obtain ⟨p, hw''⟩ := hw'
   subst hw''
   go_wp2_with fail
   refine (HT.out p).mono ?_
   rintro e w3 ⟨rfl, h3, hb3⟩
   have c4 : w3.cell? ⟨g, 4, none⟩ = some (.int .i64 (B.values : Int)) := h3.row.cell 4
   have f4 := h3.row.free 4
   obtain ⟨h4, hb4⟩ := h3.values (B.values + 1)
   have H4 := Lib.hid h4
   have HB4 := Lib.hid (((But.of_below p.low (fun k => k = g \/ k = gb)).trans hb3 fun k hk => .inl hk).trans hb4 fun k hk => .inl hk)
   obtain ⟨W5, hW5⟩ : ∃ W5, W5 = w3.setCell ⟨g, 4, none⟩ (.int .i64 ((B.values : Int) + 1)) := ⟨_, rfl⟩
   rw [hjI] at hW5
   rw [<- hW5] at H4 HB4
   have k3 : W5.cell? ⟨g, 3, none⟩ = some (.int .i64 (B.value : Int)) := H4.out.row.cell 3
   have k4 : W5.cell? ⟨g, 4, none⟩ = some (.int .i64 ((B.values : Int) + 1)) := by rw [hjI]; exact H4.out.row.cell 4
   rw [<- hjI] at hW5
   have HW5 := Lib.hid hW5
   clear h3 hb3 h4 hb4 HT cp3 cp4 c3 hjI hW5
   go_upto_region 8 with (fail)
   rw [<- HW5.out]
   clear c4 f4
   go_quiet (fail)
   go_wp2
   go_ret
   rw [R.out]
   refine ⟨?_, (H4.out.below (drewN_below _ _)), (H2.out.2.trans HB4.out fun k hk => .inl hk).trans (But.of_below (drewN_below _ _) _) fun k hk => .inl hk⟩
   congr 2
 ·by_cases z1 : A.values = 15
  ·have e0 : A.newV0 = { (A.slab 1).2 with value := (A.slab 1).1, values := 0 } := if_pos (.inr z1)
   have HS := Lib.hid (arSlab_any (c := 1) h ok (by decide))
   obtain ⟨S, hS⟩ : ∃ S, S = (A.slab 1).1 := ⟨_, rfl⟩
   rw [<- hS] at HS e0
   have HE := Lib.hid e0
   have OK := Lib.hid ok
   have hSb : S <= 64 := by have h5 := (Ar.slab_ok ok 1); have := h5.1.used; have := h5.1.n; omega
   have d1 : (A.value == 0) = false := by simpa using z0
   have d2 : ((A.value : Int) == 0) = false := by rw [Bool.eq_false_iff]; intro k; have := beq_iff_eq.1 k; omega
   have d3 : (A.values == 15) = true := by simpa using z1
   have d4 : ((A.values : Int) == 15) = true := by simp; omega
   clear z0 z1
   clear h e0 hS ok
   go_enter Tryz.func47, Tryz.ntmps47
   go_wp2_with fail
   refine HS.out.mono ?_
   rintro e w1 ⟨rfl, h1, hb1⟩
   obtain ⟨g2, hb2⟩ := h1.value S
   obtain ⟨g3, hb3⟩ := g2.values 0
   have f3 := h1.row.free 3
   have f4 := h1.row.free 4
   have t3 := h1.row.cell 3
   have t4 := h1.row.cell 4
   obtain ⟨W2, hW2⟩ : ∃ W2, W2 = (w1.setCell ⟨g, 3, none⟩ (.int .i64 (S : Int))).setCell ⟨g, 4, none⟩ (.int .i64 0) := ⟨_, rfl⟩
   have h2 : ArT w g gb LV A.newV0 W2 := by
    rw [HE.out, hW2]
    exact ⟨g3, (hb1.trans hb2 fun k hk => .inl hk).trans hb3 fun k hk => .inl hk⟩
   have HW2 := Lib.hid hW2
   have H2' := Lib.hid h2
   clear h1 hb1 g2 hb2 g3 hb3 HS hW2 h2
   go_upto_region 4 with (fail)
   rw [<- HW2.out]
   have h2 := H2'.out
   have ok := OK.out
   clear a3 a4 f3 f4 t3 t4 q3 q4 q5 q6 q7 q8 H2' HW2 OK HE hSb d1 d2 d3 d4
   have ok2 := (Ar.newV0_ok ok).1
   have n2 := (Ar.newV0_ok ok).2.1
   have v2 := (Ar.newV0_ok ok).2.2
   have E2 := Lib.hid (show A.newValue = if A.newV0.value = 0 then (0, A.newV0) else (1024 * A.newV0.value + 64 * (A.newV0.values + 1), { A.newV0.taken A.newV0.value A.newV0.values with values := A.newV0.values + 1 }) from rfl)
   obtain ⟨B, hB⟩ : ∃ B, B = A.newV0 := ⟨_, rfl⟩
   rw [<- hB] at ok2 n2 v2 E2 h2
   have x2 := ok2.used
   have x3 := ok2.value
   have x4 := ok2.n
   clear hB
   by_cases z : B.value = 0
   ·have d5 : (B.value == 0) = true := by simpa using z
    have d6 : ((B.value : Int) == 0) = true := by simp; omega
    have c3 : W2.cell? ⟨g, 3, none⟩ = some (.int .i64 (B.value : Int)) := h2.1.row.cell 3
    have R := Lib.hid (E2.out.trans (if_pos z))
    have H2 := Lib.hid h2
    clear h2 v2 z
    go_wp2
    go_ret
    rw [R.out]
    exact ⟨rfl, H2.out⟩
   ·have d5 : (B.value == 0) = false := by simpa using z
    have d6 : ((B.value : Int) == 0) = false := by rw [Bool.eq_false_iff]; intro k; have := beq_iff_eq.1 k; omega
    have hv := v2 z
    have c3 : W2.cell? ⟨g, 3, none⟩ = some (.int .i64 (B.value : Int)) := h2.1.row.cell 3
    have cp3 := fun p : LowBy W2 => LowBy.cell c3 p
    have cp4 := fun p : LowBy W2 => LowBy.cell (show W2.cell? ⟨g, 4, none⟩ = some (.int .i64 (B.values : Int)) from h2.1.row.cell 4) p
    have R := Lib.hid (E2.out.trans (if_neg z))
    have HT := Lib.hid fun p : LowBy W2 => arTaken_any (s := B.value) (j := B.values) (h2.1.below p.low) ok2 (by omega) (by omega)
    have H2 := Lib.hid h2
    have hs64 : B.value <= 64 := by omega
    have hj15 : B.values <= 15 := by omega
    have hjI : (B.values : Int) + 1 = ((B.values + 1 : Nat) : Int) := by omega
    clear h2 v2 z hv ok2 x3
    go_wp2_with fail
    refine wp_region_low_tail 9 (by assumption) (by kernel_rfl) ?_
    simp only [List.take_succ_cons, List.take_zero, List.drop_succ_cons, List.drop_zero]
    repeat (go_big_quiet_step (fail))
    refine wpQuiet_nil ?_
    intro _ hw'
    obtain ⟨p, hw''⟩ := hw'
    subst hw''
    go_wp2_with fail
    refine (HT.out p).mono ?_
    rintro e w3 ⟨rfl, h3, hb3⟩
    have c4 : w3.cell? ⟨g, 4, none⟩ = some (.int .i64 (B.values : Int)) := h3.row.cell 4
    have f4 := h3.row.free 4
    obtain ⟨h4, hb4⟩ := h3.values (B.values + 1)
    have H4 := Lib.hid h4
    have HB4 := Lib.hid (((But.of_below p.low (fun k => k = g \/ k = gb)).trans hb3 fun k hk => .inl hk).trans hb4 fun k hk => .inl hk)
    obtain ⟨W5, hW5⟩ : ∃ W5, W5 = w3.setCell ⟨g, 4, none⟩ (.int .i64 ((B.values : Int) + 1)) := ⟨_, rfl⟩
    rw [hjI] at hW5
    rw [<- hW5] at H4 HB4
    have k3 : W5.cell? ⟨g, 3, none⟩ = some (.int .i64 (B.value : Int)) := H4.out.row.cell 3
    have k4 : W5.cell? ⟨g, 4, none⟩ = some (.int .i64 ((B.values : Int) + 1)) := by rw [hjI]; exact H4.out.row.cell 4
    rw [<- hjI] at hW5
    have HW5 := Lib.hid hW5
    clear h3 hb3 h4 hb4 HT cp3 cp4 c3 hjI hW5
    go_upto_region 8 with (fail)
    rw [<- HW5.out]
    clear c4 f4
    go_quiet (fail)
    go_wp2
    go_ret
    rw [R.out]
    refine ⟨?_, (H4.out.below (drewN_below _ _)), (H2.out.2.trans HB4.out fun k hk => .inl hk).trans (But.of_below (drewN_below _ _) _) fun k hk => .inl hk⟩
    congr 2
  ·have e0 : A.newV0 = A := if_neg (fun k => k.elim z0 z1)
   have d1 : (A.value == 0) = false := by simpa using z0
   have d2 : ((A.value : Int) == 0) = false := by rw [Bool.eq_false_iff]; intro k; have := beq_iff_eq.1 k; omega
   have d3 : (A.values == 15) = false := by simpa using z1
   have d4 : ((A.values : Int) == 15) = false := by rw [Bool.eq_false_iff]; intro k; have := beq_iff_eq.1 k; omega
   have H2' := Lib.hid (show ArT w g gb LV A.newV0 w by rw [e0]; exact ⟨h, But.refl _ _⟩)
   have OK := Lib.hid ok
   clear h e0 ok z0 z1
   go_enter Tryz.func47, Tryz.ntmps47
   go_upto_region 4 with (fail)
   have h2 := H2'.out
   have ok := OK.out
   clear a3 a4 q3 q4 q5 q6 q7 q8 H2' OK d1 d2 d3 d4
   have ok2 := (Ar.newV0_ok ok).1
   have n2 := (Ar.newV0_ok ok).2.1
   have v2 := (Ar.newV0_ok ok).2.2
   have E2 := Lib.hid (show A.newValue = if A.newV0.value = 0 then (0, A.newV0) else (1024 * A.newV0.value + 64 * (A.newV0.values + 1), { A.newV0.taken A.newV0.value A.newV0.values with values := A.newV0.values + 1 }) from rfl)
   obtain ⟨B, hB⟩ : ∃ B, B = A.newV0 := ⟨_, rfl⟩
   rw [<- hB] at ok2 n2 v2 E2 h2
   have x2 := ok2.used
   have x3 := ok2.value
   have x4 := ok2.n
   clear hB
   by_cases z : B.value = 0
   ·have d5 : (B.value == 0) = true := by simpa using z
    have d6 : ((B.value : Int) == 0) = true := by simp; omega
    have c3 : w.cell? ⟨g, 3, none⟩ = some (.int .i64 (B.value : Int)) := h2.1.row.cell 3
    have R := Lib.hid (E2.out.trans (if_pos z))
    have H2 := Lib.hid h2
    clear h2 v2 z
    go_wp2
    go_ret
    rw [R.out]
    exact ⟨rfl, H2.out⟩
   ·have d5 : (B.value == 0) = false := by simpa using z
    have d6 : ((B.value : Int) == 0) = false := by rw [Bool.eq_false_iff]; intro k; have := beq_iff_eq.1 k; omega
    have hv := v2 z
    have c3 : w.cell? ⟨g, 3, none⟩ = some (.int .i64 (B.value : Int)) := h2.1.row.cell 3
    have cp3 := fun p : LowBy w => LowBy.cell c3 p
    have cp4 := fun p : LowBy w => LowBy.cell (show w.cell? ⟨g, 4, none⟩ = some (.int .i64 (B.values : Int)) from h2.1.row.cell 4) p
    have R := Lib.hid (E2.out.trans (if_neg z))
    have HT := Lib.hid fun p : LowBy w => arTaken_any (s := B.value) (j := B.values) (h2.1.below p.low) ok2 (by omega) (by omega)
    have H2 := Lib.hid h2
    have hs64 : B.value <= 64 := by omega
    have hj15 : B.values <= 15 := by omega
    have hjI : (B.values : Int) + 1 = ((B.values + 1 : Nat) : Int) := by omega
    clear h2 v2 z hv ok2 x3
    go_wp2_with fail
    refine wp_region_low_tail 9 (by assumption) (by kernel_rfl) ?_
    simp only [List.take_succ_cons, List.take_zero, List.drop_succ_cons, List.drop_zero]
    repeat (go_big_quiet_step (fail))
    refine wpQuiet_nil ?_
    intro _ hw'
    obtain ⟨p, hw''⟩ := hw'
    subst hw''
    go_wp2_with fail
    refine (HT.out p).mono ?_
    rintro e w3 ⟨rfl, h3, hb3⟩
    have c4 : w3.cell? ⟨g, 4, none⟩ = some (.int .i64 (B.values : Int)) := h3.row.cell 4
    have f4 := h3.row.free 4
    obtain ⟨h4, hb4⟩ := h3.values (B.values + 1)
    have H4 := Lib.hid h4
    have HB4 := Lib.hid (((But.of_below p.low (fun k => k = g \/ k = gb)).trans hb3 fun k hk => .inl hk).trans hb4 fun k hk => .inl hk)
    obtain ⟨W5, hW5⟩ : ∃ W5, W5 = w3.setCell ⟨g, 4, none⟩ (.int .i64 ((B.values : Int) + 1)) := ⟨_, rfl⟩
    rw [hjI] at hW5
    rw [<- hW5] at H4 HB4
    have k3 : W5.cell? ⟨g, 3, none⟩ = some (.int .i64 (B.value : Int)) := H4.out.row.cell 3
    have k4 : W5.cell? ⟨g, 4, none⟩ = some (.int .i64 ((B.values : Int) + 1)) := by rw [hjI]; exact H4.out.row.cell 4
    rw [<- hjI] at hW5
    have HW5 := Lib.hid hW5
    clear h3 hb3 h4 hb4 HT cp3 cp4 c3 hjI hW5
    go_upto_region 8 with (fail)
    rw [<- HW5.out]
    clear c4 f4
    go_quiet (fail)
    go_wp2
    go_ret
    rw [R.out]
    refine ⟨?_, (H4.out.below (drewN_below _ _)), (H2.out.2.trans HB4.out fun k hk => .inl hk).trans (But.of_below (drewN_below _ _) _) fun k hk => .inl hk⟩
    congr 2
theorem arNewNode_any {w : World} {g gb : Nat} {LV : Value} {A : Ar} (h : ArAt w g gb LV A) (ok : A.Ok) :
  Calls Tryz.prog 88 #[.pointer (some ⟨g, 0, none⟩)] w fun e w' => e = .returned (.int .i64 (A.newNode.1 : Int)) /\ ArT w g gb LV A.newNode.2 w' := by
 have mixed : Tryz.prog.follows .mixedOrders = true := by kernel_rfl
 have a3 : w.cell? ⟨g, 5, none⟩ = some (.int .i64 (A.node : Int)) := h.row.cell 5
 have a4 : w.cell? ⟨g, 6, none⟩ = some (.int .i64 (A.nodes : Int)) := h.row.cell 6
 have q3 := ok.value
 have q4 := ok.used
 have q5 := ok.n
 have q6 := ok.values
 have q7 := ok.node
 have q8 := ok.nodes
 by_cases z0 : A.node = 0
 ·have e0 : A.newN0 = { (A.slab 3).2 with node := (A.slab 3).1, nodes := 0 } := if_pos (.inl z0)
  have HS := Lib.hid (arSlab_any (c := 3) h ok (by decide))
  obtain ⟨S, hS⟩ : ∃ S, S = (A.slab 3).1 := ⟨_, rfl⟩
  rw [<- hS] at HS e0
  have HE := Lib.hid e0
  have OK := Lib.hid ok
  have hSb : S <= 64 := by have h5 := (Ar.slab_ok ok 3); have := h5.1.used; have := h5.1.n; omega
  have d1 : (A.node == 0) = true := by simpa using z0
  have d2 : ((A.node : Int) == 0) = true := by simp; omega
  clear z0
  clear h e0 hS ok
  go_enter Tryz.func88, Tryz.ntmps88
  go_wp2_with fail
  refine HS.out.mono ?_
  rintro e w1 ⟨rfl, h1, hb1⟩
  obtain ⟨g2, hb2⟩ := h1.node S
  obtain ⟨g3, hb3⟩ := g2.nodes 0
  have f3 := h1.row.free 5
  have f4 := h1.row.free 6
  have t3 := h1.row.cell 5
  have t4 := h1.row.cell 6
  obtain ⟨W2, hW2⟩ : ∃ W2, W2 = (w1.setCell ⟨g, 5, none⟩ (.int .i64 (S : Int))).setCell ⟨g, 6, none⟩ (.int .i64 0) := ⟨_, rfl⟩
  have h2 : ArT w g gb LV A.newN0 W2 := by
   rw [HE.out, hW2]
   exact ⟨g3, (hb1.trans hb2 fun k hk => .inl hk).trans hb3 fun k hk => .inl hk⟩
  have HW2 := Lib.hid hW2
  have H2' := Lib.hid h2
  clear h1 hb1 g2 hb2 g3 hb3 HS hW2 h2
  go_upto_region 4 with (fail)
  rw [<- HW2.out]
  have h2 := H2'.out
  have ok := OK.out
  clear a3 a4 f3 f4 t3 t4 q3 q4 q5 q6 q7 q8 H2' HW2 OK HE hSb d1 d2
  have ok2 := (Ar.newN0_ok ok).1
  have n2 := (Ar.newN0_ok ok).2.1
  have v2 := (Ar.newN0_ok ok).2.2
  have E2 := Lib.hid (show A.newNode = if A.newN0.node = 0 then (0, A.newN0) else (1024 * A.newN0.node + 64 + 192 * A.newN0.nodes, { A.newN0.taken A.newN0.node A.newN0.nodes with nodes := A.newN0.nodes + 1 }) from rfl)
  obtain ⟨B, hB⟩ : ∃ B, B = A.newN0 := ⟨_, rfl⟩
  rw [<- hB] at ok2 n2 v2 E2 h2
  have x2 := ok2.used
  have x3 := ok2.node
  have x4 := ok2.n
  clear hB
  by_cases z : B.node = 0
  ·have d5 : (B.node == 0) = true := by simpa using z
   have d6 : ((B.node : Int) == 0) = true := by simp; omega
   have c3 : W2.cell? ⟨g, 5, none⟩ = some (.int .i64 (B.node : Int)) := h2.1.row.cell 5
   have R := Lib.hid (E2.out.trans (if_pos z))
   have H2 := Lib.hid h2
   clear h2 v2 z
   go_wp2
   go_ret
   rw [R.out]
   exact ⟨rfl, H2.out⟩
  ·have d5 : (B.node == 0) = false := by simpa using z
   have d6 : ((B.node : Int) == 0) = false := by rw [Bool.eq_false_iff]; intro k; have := beq_iff_eq.1 k; omega
   have hv := v2 z
   have c3 : W2.cell? ⟨g, 5, none⟩ = some (.int .i64 (B.node : Int)) := h2.1.row.cell 5
   have cp3 := fun p : LowBy W2 => LowBy.cell c3 p
   have cp4 := fun p : LowBy W2 => LowBy.cell (show W2.cell? ⟨g, 6, none⟩ = some (.int .i64 (B.nodes : Int)) from h2.1.row.cell 6) p
   have R := Lib.hid (E2.out.trans (if_neg z))
   have HT := Lib.hid fun p : LowBy W2 => arTaken_any (s := B.node) (j := B.nodes) (h2.1.below p.low) ok2 (by omega) (by omega)
   have H2 := Lib.hid h2
   have hs64 : B.node <= 64 := by omega
   have hj15 : B.nodes <= 15 := by omega
   have hjI : (B.nodes : Int) + 1 = ((B.nodes + 1 : Nat) : Int) := by omega
   clear h2 v2 z hv ok2 x3
   go_wp2_with fail
   refine wp_region_low_tail 9 (by assumption) (by kernel_rfl) ?_
   simp only [List.take_succ_cons, List.take_zero, List.drop_succ_cons, List.drop_zero]
   repeat (go_big_quiet_step (fail))
   refine wpQuiet_nil ?_
   intro _ hw'
   obtain ⟨p, hw''⟩ := hw'
   subst hw''
   go_wp2_with fail
   refine (HT.out p).mono ?_
   rintro e w3 ⟨rfl, h3, hb3⟩
   have c4 : w3.cell? ⟨g, 6, none⟩ = some (.int .i64 (B.nodes : Int)) := h3.row.cell 6
   have f4 := h3.row.free 6
   obtain ⟨h4, hb4⟩ := h3.nodes (B.nodes + 1)
   have H4 := Lib.hid h4
   have HB4 := Lib.hid (((But.of_below p.low (fun k => k = g \/ k = gb)).trans hb3 fun k hk => .inl hk).trans hb4 fun k hk => .inl hk)
   obtain ⟨W5, hW5⟩ : ∃ W5, W5 = w3.setCell ⟨g, 6, none⟩ (.int .i64 ((B.nodes : Int) + 1)) := ⟨_, rfl⟩
   rw [hjI] at hW5
   rw [<- hW5] at H4 HB4
   have k3 : W5.cell? ⟨g, 5, none⟩ = some (.int .i64 (B.node : Int)) := H4.out.row.cell 5
   have k4 : W5.cell? ⟨g, 6, none⟩ = some (.int .i64 ((B.nodes : Int) + 1)) := by rw [hjI]; exact H4.out.row.cell 6
   rw [<- hjI] at hW5
   have HW5 := Lib.hid hW5
   clear h3 hb3 h4 hb4 HT cp3 cp4 c3 hjI hW5
   go_upto_region 8 with (fail)
   rw [<- HW5.out]
   clear c4 f4
   go_quiet (fail)
   go_wp2
   go_ret
   rw [R.out]
   refine ⟨?_, (H4.out.below (drewN_below _ _)), (H2.out.2.trans HB4.out fun k hk => .inl hk).trans (But.of_below (drewN_below _ _) _) fun k hk => .inl hk⟩
   congr 2
 ·by_cases z1 : A.nodes = 5
  ·have e0 : A.newN0 = { (A.slab 3).2 with node := (A.slab 3).1, nodes := 0 } := if_pos (.inr z1)
   have HS := Lib.hid (arSlab_any (c := 3) h ok (by decide))
   obtain ⟨S, hS⟩ : ∃ S, S = (A.slab 3).1 := ⟨_, rfl⟩
   rw [<- hS] at HS e0
   have HE := Lib.hid e0
   have OK := Lib.hid ok
   have hSb : S <= 64 := by have h5 := (Ar.slab_ok ok 3); have := h5.1.used; have := h5.1.n; omega
   have d1 : (A.node == 0) = false := by simpa using z0
   have d2 : ((A.node : Int) == 0) = false := by rw [Bool.eq_false_iff]; intro k; have := beq_iff_eq.1 k; omega
   have d3 : (A.nodes == 5) = true := by simpa using z1
   have d4 : ((A.nodes : Int) == 5) = true := by simp; omega
   clear z0 z1
   clear h e0 hS ok
   go_enter Tryz.func88, Tryz.ntmps88
   go_wp2_with fail
   refine HS.out.mono ?_
   rintro e w1 ⟨rfl, h1, hb1⟩
   obtain ⟨g2, hb2⟩ := h1.node S
   obtain ⟨g3, hb3⟩ := g2.nodes 0
   have f3 := h1.row.free 5
   have f4 := h1.row.free 6
   have t3 := h1.row.cell 5
   have t4 := h1.row.cell 6
   obtain ⟨W2, hW2⟩ : ∃ W2, W2 = (w1.setCell ⟨g, 5, none⟩ (.int .i64 (S : Int))).setCell ⟨g, 6, none⟩ (.int .i64 0) := ⟨_, rfl⟩
   have h2 : ArT w g gb LV A.newN0 W2 := by
    rw [HE.out, hW2]
    exact ⟨g3, (hb1.trans hb2 fun k hk => .inl hk).trans hb3 fun k hk => .inl hk⟩
   have HW2 := Lib.hid hW2
   have H2' := Lib.hid h2
   clear h1 hb1 g2 hb2 g3 hb3 HS hW2 h2
   go_upto_region 4 with (fail)
   rw [<- HW2.out]
   have h2 := H2'.out
   have ok := OK.out
   clear a3 a4 f3 f4 t3 t4 q3 q4 q5 q6 q7 q8 H2' HW2 OK HE hSb d1 d2 d3 d4
   have ok2 := (Ar.newN0_ok ok).1
   have n2 := (Ar.newN0_ok ok).2.1
   have v2 := (Ar.newN0_ok ok).2.2
   have E2 := Lib.hid (show A.newNode = if A.newN0.node = 0 then (0, A.newN0) else (1024 * A.newN0.node + 64 + 192 * A.newN0.nodes, { A.newN0.taken A.newN0.node A.newN0.nodes with nodes := A.newN0.nodes + 1 }) from rfl)
   obtain ⟨B, hB⟩ : ∃ B, B = A.newN0 := ⟨_, rfl⟩
   rw [<- hB] at ok2 n2 v2 E2 h2
   have x2 := ok2.used
   have x3 := ok2.node
   have x4 := ok2.n
   clear hB
   by_cases z : B.node = 0
   ·have d5 : (B.node == 0) = true := by simpa using z
    have d6 : ((B.node : Int) == 0) = true := by simp; omega
    have c3 : W2.cell? ⟨g, 5, none⟩ = some (.int .i64 (B.node : Int)) := h2.1.row.cell 5
    have R := Lib.hid (E2.out.trans (if_pos z))
    have H2 := Lib.hid h2
    clear h2 v2 z
    go_wp2
    go_ret
    rw [R.out]
    exact ⟨rfl, H2.out⟩
   ·have d5 : (B.node == 0) = false := by simpa using z
    have d6 : ((B.node : Int) == 0) = false := by rw [Bool.eq_false_iff]; intro k; have := beq_iff_eq.1 k; omega
    have hv := v2 z
    have c3 : W2.cell? ⟨g, 5, none⟩ = some (.int .i64 (B.node : Int)) := h2.1.row.cell 5
    have cp3 := fun p : LowBy W2 => LowBy.cell c3 p
    have cp4 := fun p : LowBy W2 => LowBy.cell (show W2.cell? ⟨g, 6, none⟩ = some (.int .i64 (B.nodes : Int)) from h2.1.row.cell 6) p
    have R := Lib.hid (E2.out.trans (if_neg z))
    have HT := Lib.hid fun p : LowBy W2 => arTaken_any (s := B.node) (j := B.nodes) (h2.1.below p.low) ok2 (by omega) (by omega)
    have H2 := Lib.hid h2
    have hs64 : B.node <= 64 := by omega
    have hj15 : B.nodes <= 15 := by omega
    have hjI : (B.nodes : Int) + 1 = ((B.nodes + 1 : Nat) : Int) := by omega
    clear h2 v2 z hv ok2 x3
    go_wp2_with fail
    refine wp_region_low_tail 9 (by assumption) (by kernel_rfl) ?_
    simp only [List.take_succ_cons, List.take_zero, List.drop_succ_cons, List.drop_zero]
    repeat (go_big_quiet_step (fail))
    refine wpQuiet_nil ?_
    intro _ hw'
    obtain ⟨p, hw''⟩ := hw'
    subst hw''
    go_wp2_with fail
    refine (HT.out p).mono ?_
    rintro e w3 ⟨rfl, h3, hb3⟩
    have c4 : w3.cell? ⟨g, 6, none⟩ = some (.int .i64 (B.nodes : Int)) := h3.row.cell 6
    have f4 := h3.row.free 6
    obtain ⟨h4, hb4⟩ := h3.nodes (B.nodes + 1)
    have H4 := Lib.hid h4
    have HB4 := Lib.hid (((But.of_below p.low (fun k => k = g \/ k = gb)).trans hb3 fun k hk => .inl hk).trans hb4 fun k hk => .inl hk)
    obtain ⟨W5, hW5⟩ : ∃ W5, W5 = w3.setCell ⟨g, 6, none⟩ (.int .i64 ((B.nodes : Int) + 1)) := ⟨_, rfl⟩
    rw [hjI] at hW5
    rw [<- hW5] at H4 HB4
    have k3 : W5.cell? ⟨g, 5, none⟩ = some (.int .i64 (B.node : Int)) := H4.out.row.cell 5
    have k4 : W5.cell? ⟨g, 6, none⟩ = some (.int .i64 ((B.nodes : Int) + 1)) := by rw [hjI]; exact H4.out.row.cell 6
    rw [<- hjI] at hW5
    have HW5 := Lib.hid hW5
    clear h3 hb3 h4 hb4 HT cp3 cp4 c3 hjI hW5
    go_upto_region 8 with (fail)
    rw [<- HW5.out]
    clear c4 f4
    go_quiet (fail)
    go_wp2
    go_ret
    rw [R.out]
    refine ⟨?_, (H4.out.below (drewN_below _ _)), (H2.out.2.trans HB4.out fun k hk => .inl hk).trans (But.of_below (drewN_below _ _) _) fun k hk => .inl hk⟩
    congr 2
  ·have e0 : A.newN0 = A := if_neg (fun k => k.elim z0 z1)
   have d1 : (A.node == 0) = false := by simpa using z0
   have d2 : ((A.node : Int) == 0) = false := by rw [Bool.eq_false_iff]; intro k; have := beq_iff_eq.1 k; omega
   have d3 : (A.nodes == 5) = false := by simpa using z1
   have d4 : ((A.nodes : Int) == 5) = false := by rw [Bool.eq_false_iff]; intro k; have := beq_iff_eq.1 k; omega
   have H2' := Lib.hid (show ArT w g gb LV A.newN0 w by rw [e0]; exact ⟨h, But.refl _ _⟩)
   have OK := Lib.hid ok
   clear h e0 ok z0 z1
   go_enter Tryz.func88, Tryz.ntmps88
   go_upto_region 4 with (fail)
   have h2 := H2'.out
   have ok := OK.out
   clear a3 a4 q3 q4 q5 q6 q7 q8 H2' OK d1 d2 d3 d4
   have ok2 := (Ar.newN0_ok ok).1
   have n2 := (Ar.newN0_ok ok).2.1
   have v2 := (Ar.newN0_ok ok).2.2
   have E2 := Lib.hid (show A.newNode = if A.newN0.node = 0 then (0, A.newN0) else (1024 * A.newN0.node + 64 + 192 * A.newN0.nodes, { A.newN0.taken A.newN0.node A.newN0.nodes with nodes := A.newN0.nodes + 1 }) from rfl)
   obtain ⟨B, hB⟩ : ∃ B, B = A.newN0 := ⟨_, rfl⟩
   rw [<- hB] at ok2 n2 v2 E2 h2
   have x2 := ok2.used
   have x3 := ok2.node
   have x4 := ok2.n
   clear hB
   by_cases z : B.node = 0
   ·have d5 : (B.node == 0) = true := by simpa using z
    have d6 : ((B.node : Int) == 0) = true := by simp; omega
    have c3 : w.cell? ⟨g, 5, none⟩ = some (.int .i64 (B.node : Int)) := h2.1.row.cell 5
    have R := Lib.hid (E2.out.trans (if_pos z))
    have H2 := Lib.hid h2
    clear h2 v2 z
    go_wp2
    go_ret
    rw [R.out]
    exact ⟨rfl, H2.out⟩
   ·have d5 : (B.node == 0) = false := by simpa using z
    have d6 : ((B.node : Int) == 0) = false := by rw [Bool.eq_false_iff]; intro k; have := beq_iff_eq.1 k; omega
    have hv := v2 z
    have c3 : w.cell? ⟨g, 5, none⟩ = some (.int .i64 (B.node : Int)) := h2.1.row.cell 5
    have cp3 := fun p : LowBy w => LowBy.cell c3 p
    have cp4 := fun p : LowBy w => LowBy.cell (show w.cell? ⟨g, 6, none⟩ = some (.int .i64 (B.nodes : Int)) from h2.1.row.cell 6) p
    have R := Lib.hid (E2.out.trans (if_neg z))
    have HT := Lib.hid fun p : LowBy w => arTaken_any (s := B.node) (j := B.nodes) (h2.1.below p.low) ok2 (by omega) (by omega)
    have H2 := Lib.hid h2
    have hs64 : B.node <= 64 := by omega
    have hj15 : B.nodes <= 15 := by omega
    have hjI : (B.nodes : Int) + 1 = ((B.nodes + 1 : Nat) : Int) := by omega
    clear h2 v2 z hv ok2 x3
    go_wp2_with fail
    refine wp_region_low_tail 9 (by assumption) (by kernel_rfl) ?_
    simp only [List.take_succ_cons, List.take_zero, List.drop_succ_cons, List.drop_zero]
    repeat (go_big_quiet_step (fail))
    refine wpQuiet_nil ?_
    intro _ hw'
    obtain ⟨p, hw''⟩ := hw'
    subst hw''
    go_wp2_with fail
    refine (HT.out p).mono ?_
    rintro e w3 ⟨rfl, h3, hb3⟩
    have c4 : w3.cell? ⟨g, 6, none⟩ = some (.int .i64 (B.nodes : Int)) := h3.row.cell 6
    have f4 := h3.row.free 6
    obtain ⟨h4, hb4⟩ := h3.nodes (B.nodes + 1)
    have H4 := Lib.hid h4
    have HB4 := Lib.hid (((But.of_below p.low (fun k => k = g \/ k = gb)).trans hb3 fun k hk => .inl hk).trans hb4 fun k hk => .inl hk)
    obtain ⟨W5, hW5⟩ : ∃ W5, W5 = w3.setCell ⟨g, 6, none⟩ (.int .i64 ((B.nodes : Int) + 1)) := ⟨_, rfl⟩
    rw [hjI] at hW5
    rw [<- hW5] at H4 HB4
    have k3 : W5.cell? ⟨g, 5, none⟩ = some (.int .i64 (B.node : Int)) := H4.out.row.cell 5
    have k4 : W5.cell? ⟨g, 6, none⟩ = some (.int .i64 ((B.nodes : Int) + 1)) := by rw [hjI]; exact H4.out.row.cell 6
    rw [<- hjI] at hW5
    have HW5 := Lib.hid hW5
    clear h3 hb3 h4 hb4 HT cp3 cp4 c3 hjI hW5
    go_upto_region 8 with (fail)
    rw [<- HW5.out]
    clear c4 f4
    go_quiet (fail)
    go_wp2
    go_ret
    rw [R.out]
    refine ⟨?_, (H4.out.below (drewN_below _ _)), (H2.out.2.trans HB4.out fun k hk => .inl hk).trans (But.of_below (drewN_below _ _) _) fun k hk => .inl hk⟩
    congr 2
end Go.Proofs.YtkbklooocdfcfaaGreatDoor
